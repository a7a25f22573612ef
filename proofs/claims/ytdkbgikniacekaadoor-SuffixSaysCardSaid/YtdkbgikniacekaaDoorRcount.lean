/-
  Contract of letterbeckref2.Count: how many different texts but the empty one stand in a text. Conditions: a text of at most 24 bytes.
-/
import Derived.Test.YtdkbgikniacekaaDoorSufB
import Derived.Test.YtdkbgikniacekaaDoorStands
import Derived.Test.YtdkbgikniacekaaDoorOn
import Derived.Test.YtdkbgikniacekaaDoorAt0
namespace Go.Proofs.YtdkbgikniacekaaDoor
open Go.RowKit

/-! ### Plain facts -/
theorem range_first {B : Nat → Bool} {n i : Nat} (hi : i < n) (hb : B i = true) : 0 < ((List.range n).filter B).length ∧ (((List.range n).filter B).getD 0 0 = i ↔ ∀ j, j < i → B j = false) := by
  have e : List.range n = List.range i ++ i :: (List.range (n - i - 1)).map (fun x => i + 1 + x) := by
    apply List.ext_getElem?
    intro k
    rcases Nat.lt_trichotomy k i with h3 | h3 | h3
    · rw [List.getElem?_append_left (by simpa using h3), List.getElem?_range (by omega), List.getElem?_range h3]
    · subst h3
      rw [List.getElem?_append_right (by simp), List.getElem?_range hi]; simp
    · rw [List.getElem?_append_right (by simp; omega), List.length_range]
      obtain ⟨x, rfl⟩ : ∃ x, k = i + 1 + x := ⟨k - i - 1, by omega⟩
      rw [show i + 1 + x - i = x + 1 by omega, List.getElem?_cons_succ, List.getElem?_map]
      by_cases hk : i + 1 + x < n
      · rw [List.getElem?_range hk, List.getElem?_range (by omega)]; rfl
      · rw [List.getElem?_eq_none (by simp; omega), List.getElem?_eq_none (by simp; omega)]; rfl
  rw [e, List.filter_append, List.filter_cons, if_pos hb]
  refine ⟨by rw [List.length_append, List.length_cons]; omega, ?_⟩
  constructor
  · intro h j hj
    cases hB : B j with
    | false => rfl
    | true =>
      have hm : j ∈ (List.range i).filter B := List.mem_filter.2 ⟨List.mem_range.2 hj, hB⟩
      cases hf : (List.range i).filter B with
      | nil => rw [hf] at hm; cases hm
      | cons x r =>
        rw [hf] at h
        have hx : x ∈ (List.range i).filter B := by rw [hf]; simp
        have := List.mem_range.1 (List.mem_filter.1 hx).1
        simp at h; omega
  · intro h
    have : (List.range i).filter B = [] := List.filter_eq_nil_iff.2 fun x hx => by simp [h x (List.mem_range.1 hx)]
    rw [this]; simp
/-- Of the first m beginnings of the end at place i, how many stand nowhere earlier. -/
def cpN (l : List UInt8) (i m : Nat) : Nat := cnB (fun k => (subs ((l.drop i).take (k + 1)) (ens l i)).isEmpty) m
theorem cpN_all (l : List UInt8) (i : Nat) : dn l i + cpN l i (l.length - i) = dn l (i + 1) := by
  show _ = dn l i + fr (ens l i) (l.drop i)
  rw [fr_count, List.length_drop]
  rfl
theorem cpN_new {l : List UInt8} {i : Nat} {p : List UInt8} : (subs p (ens l i)).isEmpty = true ↔ ∀ j, j < i → ¬ p <+: l.drop j := by
  rw [List.isEmpty_iff, subs_empty]
  constructor
  · intro h j hj; exact h _ (ens_mem.2 ⟨j, hj, rfl⟩)
  · intro h q hq; obtain ⟨j, hj, rfl⟩ := ens_mem.1 hq; exact h j hj
/-- What the first place of the text from i on, k + 1 signs long, tells. -/
theorem first_new {s : ByteArray} {i k : Nat} (hk : i + k + 1 ≤ s.size) : 0 < (occL s (s.extract i (i + (k + 1)))).length ∧ ((occL s (s.extract i (i + (k + 1)))).getD 0 0 = (i : Int) ↔ (subs (((bs s).drop i).take (k + 1)) (ens (bs s) i)).isEmpty = true) := by
  have hself : obB s (s.extract i (i + (k + 1))) i = true := by
    rw [obB_iff (by omega), bs_mid]; exact List.take_prefix _ _
  obtain ⟨h1, h2⟩ := range_first (B := obB s (s.extract i (i + (k + 1)))) (n := s.size) (i := i) (by omega) hself
  have e : occL s (s.extract i (i + (k + 1))) = ((List.range s.size).filter (obB s (s.extract i (i + (k + 1))))).map fun x : Nat => (x : Int) := rfl
  rw [e, List.length_map]
  refine ⟨h1, ?_⟩
  rw [cpN_new]
  have hg : (((List.range s.size).filter (obB s (s.extract i (i + (k + 1))))).map fun x : Nat => (x : Int)).getD 0 0 = ((((List.range s.size).filter (obB s (s.extract i (i + (k + 1))))).getD 0 0 : Nat) : Int) := by
    simp [List.getD_eq_getElem?_getD, h1]
  rw [hg]
  constructor
  · intro h j hj hp
    have h3 := h2.1 (by omega) j hj
    rw [(obB_iff (by omega)).2 (by rw [bs_mid]; exact hp)] at h3; cases h3
  · intro h
    have := h2.2 fun j hj => by
      rw [← Bool.not_eq_true, obB_iff (by omega), bs_mid]; exact h j hj
    rw [this]

set_option maxRecDepth 100000 in
set_option maxHeartbeats 2000000 in
theorem rcount_any (s : ByteArray) (w : World) (h : s.size ≤ 24) :
    Calls Tryd.prog 8 #[.string s] w fun e w' => e = .returned (.int .i64 (cN (bs s) : Nat)) ∧ Below w.heap.size w w' := by
  have hmul : s.size * (s.size + 1) ≤ 24 * 25 := Nat.mul_le_mul h (Nat.succ_le_succ h)
  have HLE : Hid (∀ i, i ≤ s.size → dn (bs s) i ≤ 300) := hid fun i hi => by
    have h1 := dn_mono (bs s) (a := i) (b := (bs s).length) (by rw [bs_len]; exact hi)
    have h2 := cN_le (bs s)
    rw [bs_len] at h2
    unfold cN at h2
    rw [bs_len] at h1 h2
    omega
  have HALL : Hid (∀ i, dn (bs s) i + cpN (bs s) i (s.size - i) = dn (bs s) (i + 1)) := hid fun i => by have := cpN_all (bs s) i; rwa [bs_len] at this
  have HE : Hid (cN (bs s) = dn (bs s) s.size) := hid (by unfold cN; rw [bs_len])
  have HN : Hid (∀ i k, i + k + 1 ≤ s.size → 0 < (occL s (s.extract i (i + (k + 1)))).length ∧ ((occL s (s.extract i (i + (k + 1)))).getD 0 0 = (i : Int) ↔ (subs (((bs s).drop i).take (k + 1)) (ens (bs s) i)).isEmpty = true)) := hid fun i k hk => first_new hk
  clear hmul
  go_enter Tryd.func8, Tryd.ntmps8
  go_wp2_with fail
  go_loopw [3, 4] (fun c x wr => ∃ i N : Nat, i ≤ s.size ∧ c = .int .i64 N ∧ x = .int .i64 i ∧ Hid (N = dn (bs s) i) ∧ Below w.heap.size w wr) (fun _ x _ => s.size - (intOf x).toNat)
  case atStart => exact ⟨0, 0, by omega, rfl, rfl, hid rfl, Below.refl _ _⟩
  case round =>
    obtain ⟨i, N, hi, rfl, rfl, HC, hbr⟩ := hrel
    by_cases hlt : i < s.size
    · have hN : N ≤ 300 := by rw [HC.out]; exact HLE.out i (by omega)
      have HA := hid (HALL.out i)
      have hlim := HLE.out (i + 1) (by omega)
      rw [← HA.out] at hlim
      rw [← HC.out] at HA hlim
      obtain ⟨wz, hwz⟩ : ∃ z, z = wr := ⟨_, rfl⟩
      subst hwz
      clear HC
      go_wp2_with fail
      go_loopw [3, 5] (fun c x wr => ∃ k M : Nat, i + k ≤ s.size ∧ M ≤ N + k ∧ c = .int .i64 M ∧ x = .int .i64 ((i + k + 1 : Nat) : Int) ∧ Hid (M = N + cpN (bs s) i k) ∧ Below w.heap.size w wr) (fun _ x _ => s.size + 1 - (intOf x).toNat)
      case atStart => exact ⟨0, N, by omega, by omega, rfl, by go_num, hid rfl, hbr⟩
      case round =>
        obtain ⟨k, M, hk, hM, rfl, rfl, HM, hbx⟩ := hrel
        by_cases hlk : i + k + 1 ≤ s.size
        · obtain ⟨hpos, hfirst⟩ := HN.out i k hlk
          have hcut : ∀ W : World, Sem.run Tryd.prog (Instr.slice 9 (.string s) (some (.int .i64 (i : Int))) (some (.int .i64 ((i : Int) + (k : Int) + 1))) none) W = .ok (.string (s.extract i (i + (k + 1)))) W := fun W =>
            run_slice_string W 9 s .i64 .i64 (i : Int) ((i : Int) + (k : Int) + 1) Tryd.underlying9 (by omega) (by omega) (by omega)
          have H6 := fun W => hid (stands_any s (s.extract i (i + (k + 1))) W (by omega) (by rw [ByteArray.size_extract]; omega))
          have hl24 := occL_len s (s.extract i (i + (k + 1)))
          have hbnd : ∃ p : Nat, (occL s (s.extract i (i + (k + 1)))).getD 0 0 = (p : Int) := by
            obtain ⟨p, hp, _⟩ := occ_at hpos; exact ⟨p, hp⟩
          generalize occL s (s.extract i (i + (k + 1))) = xs at hpos hfirst H6 hl24 hbnd
          generalize s.extract i (i + (k + 1)) = t1 at hcut H6
          obtain ⟨n, hn⟩ : ∃ n, xs.length = n := ⟨_, rfl⟩
          obtain ⟨p, hp⟩ := hbnd
          rw [hn] at hpos hl24
          rw [hp] at hfirst
          have HXN := hid (And.intro hn hp)
          have HF := hid hfirst
          have g1 : decide (i + k + 1 ≤ s.size) = true := by simpa using hlk
          have g2 : (i : Int) + (k : Int) + 1 ≤ (s.size : Int) := by omega
          clear hn hp hfirst
          go_wp2_with fail
          refine (H6 _).out.mono ?_
          rintro e w6 ⟨v, rfl, ho, hb6⟩
          obtain ⟨A, c, rfl, hI⟩ := own_n ho HXN.out.1
          obtain ⟨g, off, rfl, _, hcell⟩ := hI.2 hpos
          have hx := hcell 0 hpos
          rw [HXN.out.2, Nat.add_zero] at hx
          have hbq := Below.on hbx hb6 (Nat.le_refl _)
          have hix := fun W => run_at0 W g off n c hpos
          clear H6 ho hb6 hbx hcut hI hcell HXN
          by_cases hpi : p = i
          · have HM2 : Hid (M + 1 = N + cpN (bs s) i (k + 1)) := hid (by
              have := HF.out.1 (by rw [hpi])
              unfold cpN
              rw [cnB_yes this, HM.out]; rfl)
            have hd : ((p : Int) == (i : Int)) = true := by simp [hpi]
            clear HM HF hpi
            go_wp2_with fail
            go_roundw
            case rel => exact ⟨k + 1, M + 1, by omega, by omega, by go_num, by go_num, HM2, hbq⟩
            case measure => simp [intOf]; omega
          · have HM2 : Hid (M = N + cpN (bs s) i (k + 1)) := hid (by
              have : (subs (((bs s).drop i).take (k + 1)) (ens (bs s) i)).isEmpty = false := by
                rw [← Bool.not_eq_true]
                exact fun e => hpi (by have := HF.out.2 e; omega)
              unfold cpN
              rw [cnB_no this, HM.out]; rfl)
            have hd : ((p : Int) == (i : Int)) = false := by simp; omega
            clear HM HF hpi
            go_wp2_with fail
            go_roundw
            case rel => exact ⟨k + 1, M, by omega, by omega, rfl, by go_num, HM2, hbq⟩
            case measure => simp [intOf]; omega
        · have HM2 : Hid (M = dn (bs s) (i + 1)) := hid (by rw [HM.out, ← HA.out, show s.size - i = k by omega])
          have g1 : decide (i + k + 1 ≤ s.size) = false := by simpa using hlk
          have g2 : ¬ (i : Int) + (k : Int) + 1 ≤ (s.size : Int) := by omega
          clear HM
          go_wp2_with fail
          go_roundw
          case rel => exact ⟨i + 1, M, by omega, rfl, by go_num, HM2, hbx⟩
          case measure => simp [intOf]; omega
    · obtain rfl : i = s.size := by omega
      have HR : Hid (N = cN (bs s)) := hid (by rw [HC.out, HE.out])
      clear HC
      go_wp2_with fail
      go_ret
      exact ⟨ret_int (by rw [HR.out]), hbr⟩
end Go.Proofs.YtdkbgikniacekaaDoor
