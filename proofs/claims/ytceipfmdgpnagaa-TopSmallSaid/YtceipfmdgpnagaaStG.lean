/-
  Contracts of slices.symMergeCmpFunc (two sorted rows, of any length), slices.stableCmpFunc and slices.SortStableFunc at ints: the row comes into the order T that the test and the first places tell. Conditions: at most 24 elements, for the last two.
-/
import Derived.Test.YtceipfmdgpnagaaStM
import Derived.Test.YtceipfmdgpnagaaInsL
import Derived.Test.YtceipfmdgpnagaaMem
namespace Go.Proofs.Ytceipfmdgpnagaa
open Go.Shelf Go.RowKit Go.Lib Go.Sort
variable {α : Type} [Inhabited α]

/-- What merging does, for rows of at most n elements together. -/
def SymC (enc : α → Value) (cf : α → α → Int) (T : α → α → Prop) (g : Nat) (cb : Array Value) (blk off cap : Nat) (d0 : Array α) (w0 : World) (n : Nat) : Prop :=
  ∀ (a m b : Nat) (d : Array α) (w : World), b - a ≤ n → a < m → m < b → b ≤ d.size → d0.size = d.size → Srt T d a m → Srt T d m b → Agr (ltOf cf) T d a m b → SW enc w0 blk off d w →
    Calls Try.prog 54 #[.slice (some ⟨blk, off, none⟩) d.size cap, .int .i64 a, .int .i64 m, .int .i64 b, .func (.func g) #[] cb] w fun e w' => e = .returned (.tuple #[]) ∧ ∃ d', (Frm d d' a b ∧ Srt T d' a b) ∧ SW enc w0 blk off d' w'

set_option maxHeartbeats 8000000 in
set_option maxRecDepth 1000000 in
theorem sym_go (enc : α → Value) (cf : α → α → Int) (T : α → α → Prop) (hT : Tot T) (g : Nat) (cb : Array Value) (blk off cap a m b : Nat) (d0 d : Array α) (w0 w : World)
    (eg : ∀ args w, (callFunc g args).run Try.prog w = .ok (.enter g args) w) (hcmp : CmpLays1 Try.prog g cb enc cf blk off d0.size w0) (R : Row1 enc w0 blk off d0) (hs : d0.size = d.size) (S : SW enc w0 blk off d w) (ham : a + 1 < m) (hmb : m + 1 < b) (hb : b ≤ d.size) (hsz : d.size < 4611686018427387904)
    (hL : Srt T d a m) (hR : Srt T d m b) (hA : Agr (ltOf cf) T d a m b) (IH : SymC enc cf T g cb blk off cap d0 w0 (b - a - 1)) :
    Calls Try.prog 54 #[.slice (some ⟨blk, off, none⟩) d.size cap, .int .i64 a, .int .i64 m, .int .i64 b, .func (.func g) #[] cb] w fun e w' => e = .returned (.tuple #[]) ∧ ∃ d', (Frm d d' a b ∧ Srt T d' a b) ∧ SW enc w0 blk off d' w' := by
  have hcl0 := R.hO.cells
  simp only [Value.cells] at hcl0
  have hst := R.hO.store Try.prog
  have mixed : Try.prog.follows Departure.mixedOrders = true := by kernel_rfl
  have HC : Aside _ := hcmp
  have S0 : Aside (SW enc w0 blk off d w) := S
  have HL : Aside (Srt T d a m) := hL
  have HR : Aside (Srt T d m b) := hR
  have HA : Aside (Agr (ltOf cf) T d a m b) := hA
  have HI : Aside (SymC enc cf T g cb blk off cap d0 w0 (b - a - 1)) := IH
  clear S hcmp hL hA hR IH
  have hm1 : ((m : Int) - (a : Int) == 1) = false := by simp; omega
  have hm2 : ((b : Int) - (m : Int) == 1) = false := by simp; omega
  obtain ⟨c, hc⟩ : ∃ q : Nat, q = (a + b) / 2 := ⟨_, rfl⟩
  have HQ : Aside (((a : Int) + (b : Int)) / 2 = (c : Int)) := (show _ = _ by omega)
  have hca : a < c := by omega
  have hcb : c < b := by omega
  have HC2 : Aside (2 * c ≤ a + b ∧ a + b ≤ 2 * c + 1) := (show _ ∧ _ by omega)
  clear hc
  obtain ⟨p, hp⟩ : ∃ p : Nat, p + 1 = c + m := ⟨c + m - 1, by omega⟩
  have HPP : Aside ((c : Int) + (m : Int) - 1 = (p : Int) ∧ p + 1 = c + m) := (show _ ∧ _ by omega)
  clear hp
  -- where the search begins and ends
  obtain ⟨s0, r0, hsr⟩ : ∃ s0 r0 : Nat, (((c : Int) < (m : Int) ∧ s0 + b = c + m ∧ r0 = c) ∨ (¬ (c : Int) < (m : Int) ∧ s0 = a ∧ r0 = m)) := by
    by_cases h : c < m
    · exact ⟨c + m - b, c, .inl ⟨by omega, by have := HC2.out; omega, rfl⟩⟩
    · exact ⟨a, m, .inr ⟨by omega, rfl, rfl⟩⟩
  have h0 : a ≤ s0 ∧ s0 ≤ r0 ∧ r0 ≤ m ∧ r0 ≤ c ∧ c + m ≤ s0 + b := by have := HC2.out; omega
  have hedge : (s0 = a ∨ s0 + b = c + m) ∧ (r0 = m ∨ r0 = c) := by omega
  have HE : Aside ((s0 = a ∨ s0 + b = c + m) ∧ (r0 = m ∨ r0 = c)) := hedge
  obtain ⟨h01, h02, h03, h04, h05⟩ := h0
  clear hedge
  go_enter Try.func54, Try.ntmps54
  rcases hsr with ⟨g1, g2, g3⟩ | ⟨g1, g2, g3⟩
  focus
    have hcm1 : ((a : Int) + (b : Int)) / 2 < (m : Int) := by rw [HQ.out]; exact g1
    have G2 : Aside ((c : Int) + (m : Int) - (b : Int) = (s0 : Int) ∧ (c : Int) = (r0 : Int)) := (show _ ∧ _ by omega)
    clear g1 g2 g3
    go_wp2_with fail
    rw [HQ.out] at hcm1 ⊢
    rw [HPP.out.1]
  rotate_left
  focus
    have hcm1 : ¬ ((a : Int) + (b : Int)) / 2 < (m : Int) := by rw [HQ.out]; exact g1
    have G2 : Aside ((a : Int) = (s0 : Int) ∧ (m : Int) = (r0 : Int)) := (show _ ∧ _ by omega)
    clear g1 g2 g3
    go_wp2_with fail
    rw [HQ.out] at hcm1 ⊢
    rw [HPP.out.1]
  rotate_left
  all_goals (
    clear HQ
    go_loopg [20, 21] m (fun kx s10 s11 wr => ∃ (s r : Nat), s10 = .int .i64 s ∧ s11 = .int .i64 r ∧ s0 ≤ s ∧ s ≤ r ∧ r ≤ r0 ∧ r - s ≤ kx ∧ Aside (SW enc w0 blk off d wr) ∧ Aside ((∀ x, s0 ≤ x → x < s → T d[x]! d[p - x]!) ∧ (∀ x, r ≤ x → x < r0 → T d[p - x]! d[x]!)))
    case atStart => exact ⟨s0, r0, by rw [G2.out.1], by rw [G2.out.2], Nat.le_refl _, h02, Nat.le_refl _, by omega, S0, (show _ ∧ _ from ⟨fun y h1 h2 => by omega, fun y h1 h2 => by omega⟩)⟩
    case round =>
      clear S0 G2
      obtain ⟨s, r, rfl, rfl, hs1, hs2, hs3, hkx, S1, I⟩ := hrel
      by_cases hlt : s < r
      · have hltz : (s : Int) < (r : Int) := by omega
        obtain ⟨hN, hh⟩ : ∃ q : Nat, q = (s + r) / 2 := ⟨_, rfl⟩
        obtain ⟨pN, hp⟩ : ∃ q : Nat, q = p - hN := ⟨_, rfl⟩
        have hpp := HPP.out.2
        have HH : Aside ((hN = (s + r) / 2 ∧ pN + hN + 1 = c + m) ∧ ((s : Int) + (r : Int)) / 2 = (hN : Int)) := (show (_ ∧ _) ∧ _ by omega)
        have eh : ((p : Int) - (hN : Int)).toNat = pN := by omega
        have ph : (0 : Int) ≤ (p : Int) - (hN : Int) := by omega
        have bh : (p : Int) - (hN : Int) < (d.size : Int) := by omega
        have rh : IntKind.i64.wrap ((p : Int) - (hN : Int)) = (p : Int) - (hN : Int) := by rw [IntKind.wrap_i64]; omega
        have bn : (hN : Int) < (d.size : Int) := by omega
        have ph2 : (hN : Int) ≤ (p : Int) := by omega
        have ph3 : hN ≤ p := by omega
        have bh2 : (p : Int) < (d.size : Int) + (hN : Int) := by omega
        have l1 := S1.out.cl R (by omega) pN (by omega)
        have l2 := S1.out.cl R (by omega) hN (by omega)
        obtain ⟨x, hx⟩ : ∃ x, x = d[pN]! := ⟨_, rfl⟩
        obtain ⟨y, hy⟩ : ∃ x, x = d[hN]! := ⟨_, rfl⟩
        have hc := S1.out.cmp HC.out (by omega) x y
        rw [← hx] at l1
        rw [← hy] at l2
        have l3 := l1
        rw [hp] at l3
        cases hlv : ltOf cf d[pN]! d[hN]! with
        | false =>
          have hv : ¬ cf x y < 0 := by rw [hx, hy]; exact of_decide_eq_false hlv
          have hd : decide (cf x y < 0) = false := decide_eq_false hv
          have HT := (HA.out hN pN (by omega) (by omega) (by omega) (by omega)).2 hlv
          have I2 : Aside ((∀ x, s0 ≤ x → x < hN + 1 → T d[x]! d[p - x]!) ∧ (∀ x, r ≤ x → x < r0 → T d[p - x]! d[x]!)) := (show _ ∧ _ from ⟨fun z z1 z2 => srt_to hT HL.out (by omega) (y := hN) (by omega) (by omega) (srt_from hT HR.out (x := pN) (by omega) (by omega) (by omega) HT), I.out.2⟩)
          clear hx hy hlv HT I hh hp hpp
          go_wp2_with fail
          rw [HH.out.2]
          go_quiet_grown (first | (go_at_fn g; refine Calls.grown_of (hc _ _)))
          have S2 : Aside (SW enc w0 blk off d (grow (wr.drewN nq) osq)) := S1.out.grown nq osq
          clear l1 l2 hc S1
          generalize grow (wr.drewN nq) osq = w2 at S2 ⊢
          clear nq osq
          go_wp2
          go_roundg (r - (hN + 1))
          case measure => have := HH.out; omega
          case rel => have := HH.out; exact ⟨hN + 1, r, by go_num, rfl, by omega, by omega, hs3, Nat.le_refl _, S2, I2⟩
        | true =>
          have hv : cf x y < 0 := by rw [hx, hy]; exact of_decide_eq_true hlv
          have hd : decide (cf x y < 0) = true := decide_eq_true hv
          have HT := (HA.out hN pN (by omega) (by omega) (by omega) (by omega)).1 hlv
          have I2 : Aside ((∀ x, s0 ≤ x → x < s → T d[x]! d[p - x]!) ∧ (∀ x, hN ≤ x → x < r0 → T d[p - x]! d[x]!)) := (show _ ∧ _ from ⟨I.out.1, fun z z1 z2 => srt_to hT HR.out (by omega) (y := pN) (by omega) (by omega) (srt_from hT HL.out (x := hN) (by omega) (by omega) (by omega) HT)⟩)
          clear hx hy hlv HT I hh hp hpp
          go_wp2_with fail
          rw [HH.out.2]
          go_quiet_grown (first | (go_at_fn g; refine Calls.grown_of (hc _ _)))
          have S2 : Aside (SW enc w0 blk off d (grow (wr.drewN nq) osq)) := S1.out.grown nq osq
          clear l1 l2 hc S1
          generalize grow (wr.drewN nq) osq = w2 at S2 ⊢
          clear nq osq
          go_wp2
          go_roundg (hN - s)
          case measure => have := HH.out; omega
          case rel => have := HH.out; exact ⟨s, hN, rfl, rfl, hs1, by omega, by omega, Nat.le_refl _, S2, I2⟩
      · obtain rfl : s = r := by omega
        have hltz : ¬ (s : Int) < (s : Int) := by omega
        obtain ⟨e, he⟩ : ∃ e : Nat, e + s = c + m := ⟨c + m - s, by omega⟩
        have hme : m ≤ e := by omega
        have heb : e ≤ b := by omega
        have X1 : a < s → e < b → T d[s - 1]! d[e]! := fun u1 u2 => by
          have := I.out.1 (s - 1) (by have := HE.out; omega) (by omega)
          rwa [show p - (s - 1) = e by have := HPP.out; omega] at this
        have X2 : m < e → s < m → T d[e - 1]! d[s]! := fun u1 u2 => by
          have := I.out.2 s (Nat.le_refl _) (by have := HE.out; omega)
          rwa [show p - s = e - 1 by have := HPP.out; omega] at this
        have HX := hid (And.intro X1 X2)
        have HEE : Aside (((e : Nat) : Int) = (c : Int) + (m : Int) - (s : Int) ∧ c = s + (e - m)) := (show _ ∧ _ by omega)
        have hcc : c = s + (e - m) := by omega
        have hrot : ((s : Int) < (m : Int) ∧ (m : Int) < (c : Int) + (m : Int) - (s : Int)) ∨ ((s : Int) < (m : Int) ∧ ¬ (m : Int) < (c : Int) + (m : Int) - (s : Int)) ∨ ¬ (s : Int) < (m : Int) := by omega
        have hone : ((a : Int) < (s : Int) ∧ (s : Int) < (c : Int)) ∨ ((a : Int) < (s : Int) ∧ ¬ (s : Int) < (c : Int)) ∨ ¬ (a : Int) < (s : Int) := by omega
        have htwo : ((c : Int) < (c : Int) + (m : Int) - (s : Int) ∧ (c : Int) + (m : Int) - (s : Int) < (b : Int)) ∨ ((c : Int) < (c : Int) + (m : Int) - (s : Int) ∧ ¬ (c : Int) + (m : Int) - (s : Int) < (b : Int)) ∨ ¬ (c : Int) < (c : Int) + (m : Int) - (s : Int) := by omega
        have HO := hid hone
        have HW := hid htwo
        have hem : e = c + m - s := by omega
        have HEM := hid hem
        clear I X1 X2 hone htwo hcc hem he hkx
        rcases hrot with ⟨r1, r2⟩ | ⟨r1, r2⟩ | r1
        focus
          have hcl := rotate_any enc g cb blk off cap s m e d0 d w0 wr R hs S1.out (by omega) (by have := HEM.out; omega) (by omega) hsz
          rw [HEE.out.1] at hcl
          clear S1
          go_wp2_with fail
          refine hcl.mono ?_
          rintro e1 w1 ⟨rfl, d1, HR1, SW1⟩
          have HRT : Aside (RotP d d1 s m e) := HR1
          have S1 : Aside (SW enc w0 blk off d1 w1) := SW1
          clear HR1 SW1
        rotate_left
        focus
          obtain ⟨d1, hd1⟩ : ∃ z, z = d := ⟨_, rfl⟩
          obtain ⟨w1, hw1⟩ : ∃ z, z = wr := ⟨_, rfl⟩
          subst hw1
          have HRT : Aside (RotP d d1 s m e) := by rw [hd1, show e = m by have := HEM.out; omega]; exact rot_none_r d s m
          rw [← hd1] at S1
          clear hd1
        rotate_left
        focus
          obtain ⟨d1, hd1⟩ : ∃ z, z = d := ⟨_, rfl⟩
          obtain ⟨w1, hw1⟩ : ∃ z, z = wr := ⟨_, rfl⟩
          subst hw1
          have HRT : Aside (RotP d d1 s m e) := by rw [hd1, show s = m by omega]; exact rot_none_l d m e
          rw [← hd1] at S1
          clear hd1
        rotate_left
        all_goals (
          have hd1 : d1.size = d.size := HRT.out.1
          have hcc := HEE.out.2
          have hsp := rot_split HRT.out (by omega) (by omega) hme heb hcc HL.out HR.out HA.out
          have hcr := rot_cross hT HRT.out (by omega) (by omega) hme heb hcc HL.out HR.out HX.out.1 HX.out.2
          have HSP := hid hsp
          have HCR := hid hcr
          have HRT0 := hid HRT.out
          clear hsp hcr hcc HRT
          rcases HO.out with ⟨o1, o2⟩ | ⟨o1, o2⟩ | o1
          focus
            have hcl := HI.out a s c d1 w1 (by omega) (by omega) (by omega) (by omega) (by omega) HSP.out.1 HSP.out.2.1 HSP.out.2.2.2.2.1 S1.out
            rw [hd1] at hcl
            clear S1
            go_wp2_with fail
            refine hcl.mono ?_
            rintro e1 w2 ⟨rfl, d2, ⟨hF2, hS2⟩, SW2⟩
            have F2 := hid (And.intro hF2 hS2)
            have S2 : Aside (SW enc w0 blk off d2 w2) := SW2
            clear hF2 hS2 SW2 hcl
          rotate_left
          focus
            obtain ⟨d2, hd2⟩ : ∃ z, z = d1 := ⟨_, rfl⟩
            obtain ⟨w2, hw2⟩ : ∃ z, z = w1 := ⟨_, rfl⟩
            subst hw2
            have F2 : Hid (Frm d1 d2 a c ∧ Srt T d2 a c) := hid (by rw [hd2]; exact ⟨Frm.refl _ _ _, by have h8 := HSP.out.1; rw [show s = c by omega] at h8; exact h8⟩)
            have S2 : Aside (SW enc w0 blk off d2 w2) := by rw [hd2]; exact S1
            clear hd2 S1
          rotate_left
          focus
            obtain ⟨d2, hd2⟩ : ∃ z, z = d1 := ⟨_, rfl⟩
            obtain ⟨w2, hw2⟩ : ∃ z, z = w1 := ⟨_, rfl⟩
            subst hw2
            have F2 : Hid (Frm d1 d2 a c ∧ Srt T d2 a c) := hid (by rw [hd2]; exact ⟨Frm.refl _ _ _, by have h8 := HSP.out.2.1; rw [show s = a by omega] at h8; exact h8⟩)
            have S2 : Aside (SW enc w0 blk off d2 w2) := by rw [hd2]; exact S1
            clear hd2 S1
          rotate_left
          all_goals (
            have hd2 : d2.size = d.size := by rw [F2.out.1.1, hd1]
            have hsub : Frm d1 d2 a c := F2.out.1
            have hk1 : Srt T d2 c e := hsub.srt (.inr (Nat.le_refl _)) HSP.out.2.2.1
            have hk2 : Srt T d2 e b := hsub.srt (.inr (by have := HEM.out; omega)) HSP.out.2.2.2.1
            have hk3 : Agr (ltOf cf) T d2 c e b := fun x y x1 x2 y1 y2 => by
              rw [hsub.2.1 x (.inr x1), hsub.2.1 y (.inr (by have := HEM.out; omega))]; exact HSP.out.2.2.2.2.2 x y x1 x2 y1 y2
            have hce : c ≤ e := by have := HEM.out; omega
            have HK := hid (And.intro hk1 (And.intro hk2 hk3))
            clear hk1 hk2 hk3 hsub
            rcases HW.out with ⟨z1, z2⟩ | ⟨z1, z2⟩ | z1
            · have hcl := HI.out c e b d2 w2 (by omega) (by have := HEM.out; omega) (by have := HEM.out; omega) (by omega) (by omega) HK.out.1 HK.out.2.1 HK.out.2.2 S2.out
              rw [hd2, HEE.out.1] at hcl
              clear S2
              go_wp2_with fail
              all_goals (
                refine hcl.mono ?_
                rintro e1 w3 ⟨rfl, d3, ⟨hF3, hS3⟩, SW3⟩
                have HF := hid (And.intro (merge_both (by omega) (by omega) HCR.out F2.out.1 F2.out.2 hF3 hS3) SW3)
                clear hF3 hS3 SW3 hcl
                go_wp2_with fail
                go_end0
                exact ⟨rfl, d3, ⟨(rot_frm HRT0.out (by omega) (by omega) hme heb).trans HF.out.1.1, HF.out.1.2⟩, HF.out.2⟩)
            · have hS3 : Srt T d2 c b := by have h8 := HK.out.1; rw [show e = b by have := HEM.out; omega] at h8; exact h8
              have HF := hid (And.intro (merge_both (by omega) (by omega) HCR.out F2.out.1 F2.out.2 (Frm.refl _ _ _) hS3) S2.out)
              clear hS3 S2
              go_wp2_with fail
              all_goals (
                go_end0
                exact ⟨rfl, d2, ⟨(rot_frm HRT0.out (by omega) (by omega) hme heb).trans HF.out.1.1, HF.out.1.2⟩, HF.out.2⟩)
            · have hS3 : Srt T d2 c b := by have h8 := HK.out.2.1; rw [show e = c by have := HEM.out; omega] at h8; exact h8
              have HF := hid (And.intro (merge_both (by omega) (by omega) HCR.out F2.out.1 F2.out.2 (Frm.refl _ _ _) hS3) S2.out)
              clear hS3 S2
              go_wp2_with fail
              all_goals (
                go_end0
                exact ⟨rfl, d2, ⟨(rot_frm HRT0.out (by omega) (by omega) hme heb).trans HF.out.1.1, HF.out.1.2⟩, HF.out.2⟩))))

/-- slices.symMergeCmpFunc: two sorted rows become one. -/
theorem sym_any (enc : α → Value) (cf : α → α → Int) (T : α → α → Prop) (hT : Tot T) (g : Nat) (cb : Array Value) (blk off cap : Nat) (d0 : Array α) (w0 : World)
    (eg : ∀ args w, (callFunc g args).run Try.prog w = .ok (.enter g args) w) (hcmp : CmpLays1 Try.prog g cb enc cf blk off d0.size w0) (R : Row1 enc w0 blk off d0) (hsz : d0.size < 4611686018427387904) : ∀ n, SymC enc cf T g cb blk off cap d0 w0 n := by
  intro n
  induction n with
  | zero => intro a m b d w h1 h2 h3; omega
  | succ n ih =>
    intro a m b d w h1 h2 h3 h4 h5 hL hR hA S
    by_cases e1 : m = a + 1
    · subst e1
      exact sym_up enc cf T hT g cb blk off cap a b d0 d w0 w eg hcmp R h5 S h3 h4 (by omega) hR hA
    · by_cases e2 : b = m + 1
      · exact sym_down enc cf T hT g cb blk off cap a m b e2 d0 d w0 w eg hcmp R h5 S (by omega) (by omega) (by omega) hL (by rw [e2] at hA; exact hA)
      · exact sym_go enc cf T hT g cb blk off cap a m b d0 d w0 w eg hcmp R h5 S (by omega) (by omega) h4 (by omega) hL hR hA (fun a' m' b' d' w' k1 => ih a' m' b' d' w' (by omega))
end Go.Proofs.Ytceipfmdgpnagaa
