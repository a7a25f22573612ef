/-
  Contract of slices.symMergeCmpFunc at ints, in a world that a sort passes through: two sorted rows, one behind the other, become one, in the order T that the test tells between them. No condition but that the rows lie there.
-/
import Derived.Test.YtceipfmdgpnagaaStS
namespace Go.Proofs.Ytceipfmdgpnagaa
open Go.Shelf Go.RowKit Go.Lib Go.Sort
variable {α : Type} [Inhabited α]

theorem agr_yes {lt : α → α → Bool} {T : α → α → Prop} (hT : Tot T) {d : Array α} {a m b x y : Nat} (h : Agr lt T d a m b) (hx : a ≤ x) (hx' : x < m) (hy : m ≤ y) (hy' : y < b) (ht : T d[y]! d[x]!) : lt d[y]! d[x]! = true := by
  cases hl : lt d[y]! d[x]! with
  | true => rfl
  | false => exact absurd (hT.trans ht ((h x y hx hx' hy hy').2 hl)) (hT.irr _)

set_option maxHeartbeats 4000000 in
set_option maxRecDepth 1000000 in
theorem sym_up (enc : α → Value) (cf : α → α → Int) (T : α → α → Prop) (hT : Tot T) (g : Nat) (cb : Array Value) (blk off cap a b : Nat) (d0 d : Array α) (w0 w : World)
    (eg : ∀ args w, (callFunc g args).run Try.prog w = .ok (.enter g args) w) (hcmp : CmpLays1 Try.prog g cb enc cf blk off d0.size w0) (R : Row1 enc w0 blk off d0) (hs : d0.size = d.size) (S : SW enc w0 blk off d w) (hmb : a + 1 < b) (hb : b ≤ d.size) (hsz : d.size < 4611686018427387904)
    (hR : Srt T d (a + 1) b) (hA : Agr (ltOf cf) T d a (a + 1) b) :
    Calls Try.prog 54 #[.slice (some ⟨blk, off, none⟩) d.size cap, .int .i64 a, .int .i64 (a + 1 : Nat), .int .i64 b, .func (.func g) #[] cb] w fun e w' => e = .returned (.tuple #[]) ∧ ∃ d', (Frm d d' a b ∧ Srt T d' a b) ∧ SW enc w0 blk off d' w' := by
  have hcl0 := R.hO.cells
  simp only [Value.cells] at hcl0
  have hst := R.hO.store Try.prog
  have mixed : Try.prog.follows Departure.mixedOrders = true := by kernel_rfl
  have HC : Aside _ := hcmp
  have S0 : Aside (SW enc w0 blk off d w) := S
  have HR : Aside (Srt T d (a + 1) b) := hR
  have HA : Aside (Agr (ltOf cf) T d a (a + 1) b) := hA
  clear S hcmp hR hA
  have hm1 : ((a : Int) + 1) - (a : Int) = 1 := by omega
  go_enter Try.func54, Try.ntmps54
  go_wp2
  go_loopg [10, 11] (b - a) (fun kx s10 s11 wr => ∃ (i j : Nat), s10 = .int .i64 i ∧ s11 = .int .i64 j ∧ a + 1 ≤ i ∧ i ≤ j ∧ j ≤ b ∧ j - i ≤ kx ∧ Aside (SW enc w0 blk off d wr) ∧ Aside ((∀ y, a + 1 ≤ y → y < i → T d[y]! d[a]!) ∧ (∀ y, j ≤ y → y < b → T d[a]! d[y]!)))
  case atStart => exact ⟨a + 1, b, by go_num, rfl, by omega, by omega, by omega, by omega, S0, (show _ ∧ _ from ⟨fun y h1 h2 => by omega, fun y h1 h2 => by omega⟩)⟩
  case round =>
    clear S0
    obtain ⟨i, j, rfl, rfl, hai, hij, hjb, hkx, S1, I⟩ := hrel
    by_cases hlt : i < j
    · have hltz : (i : Int) < (j : Int) := by omega
      obtain ⟨hN, hh⟩ : ∃ q : Nat, q = (i + j) / 2 := ⟨_, rfl⟩
      have eh : (((i : Int) + (j : Int)) / 2).toNat = hN := by omega
      have ph : (0 : Int) ≤ ((i : Int) + (j : Int)) / 2 := by omega
      have bh : ((i : Int) + (j : Int)) / 2 < (d.size : Int) := by omega
      have rh : IntKind.i64.wrap (((i : Int) + (j : Int)) / 2) = ((i : Int) + (j : Int)) / 2 := by rw [IntKind.wrap_i64]; omega
      have l1 := S1.out.cl R (by omega) hN (by omega)
      have l2 := S1.out.cl R (by omega) a (by omega)
      obtain ⟨x, hx⟩ : ∃ x, x = d[hN]! := ⟨_, rfl⟩
      obtain ⟨y, hy⟩ : ∃ x, x = d[a]! := ⟨_, rfl⟩
      have hc := S1.out.cmp HC.out (by omega) x y
      have hba : (a : Int) < (d.size : Int) := by omega
      rw [← hx] at l1
      rw [← hy] at l2
      cases hlv : ltOf cf d[hN]! d[a]! with
      | true =>
        have hv : cf x y < 0 := by rw [hx, hy]; exact of_decide_eq_true hlv
        have hd : decide (cf x y < 0) = true := decide_eq_true hv
        have HT := (HA.out a hN (Nat.le_refl _) (by omega) (by omega) (by omega)).1 hlv
        have I2 : Aside ((∀ y, a + 1 ≤ y → y < hN + 1 → T d[y]! d[a]!) ∧ (∀ y, j ≤ y → y < b → T d[a]! d[y]!)) := (show _ ∧ _ from ⟨fun z z1 z2 => srt_to hT HR.out z1 (by omega) (by omega) HT, I.out.2⟩)
        have HH : Aside (hN = (i + j) / 2) := hh
        clear hx hy hlv HT I hh
        go_wp2_with fail
        go_quiet_grown (first | (go_at_fn g; refine Calls.grown_of (hc _ _)))
        have S2 : Aside (SW enc w0 blk off d (grow (wr.drewN nq) osq)) := S1.out.grown nq osq
        clear l1 l2 hc S1
        generalize grow (wr.drewN nq) osq = w2 at S2 ⊢
        clear nq osq
        go_wp2
        go_roundg (j - (hN + 1))
        case measure => have := HH.out; omega
        case rel => have := HH.out; exact ⟨hN + 1, j, by rw [show ((i : Int) + (j : Int)) / 2 + 1 = ((hN + 1 : Nat) : Int) by omega], rfl, by omega, by omega, hjb, Nat.le_refl _, S2, I2⟩
      | false =>
        have hv : ¬ cf x y < 0 := by rw [hx, hy]; exact of_decide_eq_false hlv
        have hd : decide (cf x y < 0) = false := decide_eq_false hv
        have HT := (HA.out a hN (Nat.le_refl _) (by omega) (by omega) (by omega)).2 hlv
        have I2 : Aside ((∀ y, a + 1 ≤ y → y < i → T d[y]! d[a]!) ∧ (∀ y, hN ≤ y → y < b → T d[a]! d[y]!)) := (show _ ∧ _ from ⟨I.out.1, fun z z1 z2 => srt_from hT HR.out (x := hN) (by omega) z1 z2 HT⟩)
        have HH : Aside (hN = (i + j) / 2) := hh
        clear hx hy hlv HT I hh
        go_wp2_with fail
        go_quiet_grown (first | (go_at_fn g; refine Calls.grown_of (hc _ _)))
        have S2 : Aside (SW enc w0 blk off d (grow (wr.drewN nq) osq)) := S1.out.grown nq osq
        clear l1 l2 hc S1
        generalize grow (wr.drewN nq) osq = w2 at S2 ⊢
        clear nq osq
        go_wp2
        go_roundg (hN - i)
        case measure => have := HH.out; omega
        case rel => have := HH.out; exact ⟨i, hN, rfl, by rw [show ((i : Int) + (j : Int)) / 2 = (hN : Int) by omega], by omega, by omega, by omega, Nat.le_refl _, S2, I2⟩
    · obtain rfl : i = j := by omega
      have hltz : ¬ (i : Int) < (i : Int) := by omega
      have IF : Aside ((∀ y, a + 1 ≤ y → y < i → T d[y]! d[a]!) ∧ (∀ y, i ≤ y → y < b → T d[a]! d[y]!)) := I
      clear I
      obtain ⟨wz, hwz⟩ : ∃ z, z = wr := ⟨_, rfl⟩
      subst hwz
      go_wp2
      go_loopg [13] (b - a) (fun kx s13 wr => ∃ (k : Nat) (dk : Array α), s13 = .int .i64 k ∧ a ≤ k ∧ k + 1 ≤ i ∧ i - k ≤ kx + 1 ∧ dk.size = d.size ∧ Aside (SW enc w0 blk off dk wr) ∧ Aside (RotP d dk a (a + 1) (k + 1)))
      case atStart => exact ⟨a, d, rfl, by omega, by omega, by omega, rfl, S1, rot_none_r d a (a + 1)⟩
      case round =>
        clear S1
        obtain ⟨k, dk, rfl, hak, hki, hkx2, hds, S1, HP⟩ := hrel
        by_cases hlt2 : k + 1 < i
        · have hlt2z : (k : Int) < (i : Int) - 1 := by omega
          go_wp2_with fail
          obtain ⟨iN, hiN⟩ : ∃ q, q = k := ⟨_, rfl⟩
          obtain ⟨jN, hjN⟩ : ∃ q, q = k + 1 := ⟨_, rfl⟩
          have ea : ((k : Int)).toNat = iN := by omega
          have pa : (0 : Int) ≤ (k : Int) := by omega
          have ba : (k : Int) < (d.size : Int) := by omega
          have ra : IntKind.i64.wrap ((k : Int)) = (k : Int) := by rw [IntKind.wrap_i64]; omega
          have ec : ((k : Int) + 1).toNat = jN := by omega
          have pc : (0 : Int) ≤ (k : Int) + 1 := by omega
          have bc : (k : Int) + 1 < (d.size : Int) := by omega
          have rc : IntKind.i64.wrap ((k : Int) + 1) = (k : Int) + 1 := by rw [IntKind.wrap_i64]; omega
          obtain ⟨x, hx⟩ : ∃ x, x = dk[k]! := ⟨_, rfl⟩
          obtain ⟨y, hy⟩ : ∃ x, x = dk[k + 1]! := ⟨_, rfl⟩
          have S2 : Aside (SW enc w0 blk off (swp dk k (k + 1)) ((wr.setCell ⟨blk, off + iN, none⟩ (enc y)).setCell ⟨blk, off + jN, none⟩ (enc x)).drew) := by rw [hiN, hjN, hx, hy]; exact S1.out.swapped R k (k + 1) (by omega) (by omega)
          have ca := S1.out.c1 R (by omega) k (by omega)
          have cb' := S1.out.c1 R (by omega) (k + 1) (by omega)
          have fa := S1.out.f1 R (by omega) k (by omega)
          have fb := S1.out.f1 R (by omega) (k + 1) (by omega)
          obtain ⟨u, cc⟩ := S1.out.c2 R (by omega) k (k + 1) (by omega) (by omega) (enc y)
          rw [← hjN, ← hiN] at cc
          rw [← hx, ← hiN] at ca
          rw [← hy, ← hjN] at cb'
          rw [← hiN] at fa
          rw [← hjN] at fb
          clear S1 hx hy hiN hjN
          go_wp2_with fail
          go_big_region_o
          clear ca cb' cc fa fb
          generalize ((wr.setCell ⟨blk, off + iN, none⟩ (enc y)).setCell ⟨blk, off + jN, none⟩ (enc x)).drew = w2 at S2 ⊢
          clear ea ec
          go_wp2
          go_roundg (i - (k + 1) - 1)
          case measure => omega
          case rel => exact ⟨k + 1, swp dk k (k + 1), by go_num, by omega, by omega, by omega, by rw [size_swp]; exact hds, S2, rot_up HP.out hak (by omega)⟩
        · obtain rfl : i = k + 1 := by omega
          have hlt2z : ¬ (k : Int) < ((k : Int) + 1) - 1 := by omega
          go_wp2
          (try simp only [Exit.inBlock, Exit.then]); refine bodyPost_ret (results_none rfl _ _ _) rfl ?_
          exact ⟨rfl, dk, merge_up HP.out (by omega) (by omega) HR.out IF.out.1 IF.out.2, S1.out⟩

set_option maxHeartbeats 4000000 in
set_option maxRecDepth 1000000 in
theorem sym_down (enc : α → Value) (cf : α → α → Int) (T : α → α → Prop) (hT : Tot T) (g : Nat) (cb : Array Value) (blk off cap a m b : Nat) (hbm : b = m + 1) (d0 d : Array α) (w0 w : World)
    (eg : ∀ args w, (callFunc g args).run Try.prog w = .ok (.enter g args) w) (hcmp : CmpLays1 Try.prog g cb enc cf blk off d0.size w0) (R : Row1 enc w0 blk off d0) (hs : d0.size = d.size) (S : SW enc w0 blk off d w) (hma : a + 1 < m) (hb : m + 1 ≤ d.size) (hsz : d.size < 4611686018427387904)
    (hL : Srt T d a m) (hA : Agr (ltOf cf) T d a m (m + 1)) :
    Calls Try.prog 54 #[.slice (some ⟨blk, off, none⟩) d.size cap, .int .i64 a, .int .i64 m, .int .i64 b, .func (.func g) #[] cb] w fun e w' => e = .returned (.tuple #[]) ∧ ∃ d', (Frm d d' a b ∧ Srt T d' a b) ∧ SW enc w0 blk off d' w' := by
  have hcl0 := R.hO.cells
  simp only [Value.cells] at hcl0
  have hst := R.hO.store Try.prog
  have mixed : Try.prog.follows Departure.mixedOrders = true := by kernel_rfl
  have HC : Aside _ := hcmp
  have S0 : Aside (SW enc w0 blk off d w) := S
  have HL : Aside (Srt T d a m) := hL
  have HA : Aside (Agr (ltOf cf) T d a m (m + 1)) := hA
  clear S hcmp hL hA
  have hm1 : ((m : Int) - (a : Int) == 1) = false := by simp; omega
  have hm2 : (b : Int) - (m : Int) = 1 := by omega
  have HBM : Aside (b = m + 1) := hbm
  clear hbm
  go_enter Try.func54, Try.ntmps54
  go_wp2
  go_loopg [14, 15] (m - a) (fun kx s10 s11 wr => ∃ (i j : Nat), s10 = .int .i64 i ∧ s11 = .int .i64 j ∧ a ≤ i ∧ i ≤ j ∧ j ≤ m ∧ j - i ≤ kx ∧ Aside (SW enc w0 blk off d wr) ∧ Aside ((∀ y, a ≤ y → y < i → T d[y]! d[m]!) ∧ (∀ y, j ≤ y → y < m → T d[m]! d[y]!)))
  case atStart => exact ⟨a, m, rfl, rfl, by omega, by omega, by omega, by omega, S0, (show _ ∧ _ from ⟨fun y h1 h2 => by omega, fun y h1 h2 => by omega⟩)⟩
  case round =>
    clear S0
    obtain ⟨i, j, rfl, rfl, hai, hij, hjb, hkx, S1, I⟩ := hrel
    by_cases hlt : i < j
    · have hltz : (i : Int) < (j : Int) := by omega
      obtain ⟨hN, hh⟩ : ∃ q : Nat, q = (i + j) / 2 := ⟨_, rfl⟩
      have eh : (((i : Int) + (j : Int)) / 2).toNat = hN := by omega
      have ph : (0 : Int) ≤ ((i : Int) + (j : Int)) / 2 := by omega
      have bh : ((i : Int) + (j : Int)) / 2 < (d.size : Int) := by omega
      have rh : IntKind.i64.wrap (((i : Int) + (j : Int)) / 2) = ((i : Int) + (j : Int)) / 2 := by rw [IntKind.wrap_i64]; omega
      have l1 := S1.out.cl R (by omega) hN (by omega)
      have l2 := S1.out.cl R (by omega) m (by omega)
      obtain ⟨x, hx⟩ : ∃ x, x = d[hN]! := ⟨_, rfl⟩
      obtain ⟨y, hy⟩ : ∃ x, x = d[m]! := ⟨_, rfl⟩
      have hc := S1.out.cmp HC.out (by omega) y x
      have hba : (m : Int) < (d.size : Int) := by omega
      rw [← hx] at l1
      rw [← hy] at l2
      cases hlv : ltOf cf d[m]! d[hN]! with
      | false =>
        have hv : ¬ cf y x < 0 := by rw [hx, hy]; exact of_decide_eq_false hlv
        have hd : decide (cf y x < 0) = false := decide_eq_false hv
        have HT := (HA.out hN m (by omega) (by omega) (Nat.le_refl _) (by omega)).2 hlv
        have I2 : Aside ((∀ y, a ≤ y → y < hN + 1 → T d[y]! d[m]!) ∧ (∀ y, j ≤ y → y < m → T d[m]! d[y]!)) := (show _ ∧ _ from ⟨fun z z1 z2 => srt_to hT HL.out z1 (y := hN) (by omega) (by omega) HT, I.out.2⟩)
        have HH : Aside (hN = (i + j) / 2) := hh
        clear hx hy hlv HT I hh
        go_wp2_with fail
        go_quiet_grown (first | (go_at_fn g; refine Calls.grown_of (hc _ _)))
        have S2 : Aside (SW enc w0 blk off d (grow (wr.drewN nq) osq)) := S1.out.grown nq osq
        clear l1 l2 hc S1
        generalize grow (wr.drewN nq) osq = w2 at S2 ⊢
        clear nq osq
        go_wp2
        go_roundg (j - (hN + 1))
        case measure => have := HH.out; omega
        case rel => have := HH.out; exact ⟨hN + 1, j, by rw [show ((i : Int) + (j : Int)) / 2 + 1 = ((hN + 1 : Nat) : Int) by omega], rfl, by omega, by omega, hjb, Nat.le_refl _, S2, I2⟩
      | true =>
        have hv : cf y x < 0 := by rw [hx, hy]; exact of_decide_eq_true hlv
        have hd : decide (cf y x < 0) = true := decide_eq_true hv
        have HT := (HA.out hN m (by omega) (by omega) (Nat.le_refl _) (by omega)).1 hlv
        have I2 : Aside ((∀ y, a ≤ y → y < i → T d[y]! d[m]!) ∧ (∀ y, hN ≤ y → y < m → T d[m]! d[y]!)) := (show _ ∧ _ from ⟨I.out.1, fun z z1 z2 => srt_from hT HL.out (x := hN) (by omega) z1 z2 HT⟩)
        have HH : Aside (hN = (i + j) / 2) := hh
        clear hx hy hlv HT I hh
        go_wp2_with fail
        go_quiet_grown (first | (go_at_fn g; refine Calls.grown_of (hc _ _)))
        have S2 : Aside (SW enc w0 blk off d (grow (wr.drewN nq) osq)) := S1.out.grown nq osq
        clear l1 l2 hc S1
        generalize grow (wr.drewN nq) osq = w2 at S2 ⊢
        clear nq osq
        go_wp2
        go_roundg (hN - i)
        case measure => have := HH.out; omega
        case rel => have := HH.out; exact ⟨i, hN, rfl, by rw [show ((i : Int) + (j : Int)) / 2 = (hN : Int) by omega], by omega, by omega, by omega, Nat.le_refl _, S2, I2⟩
    · obtain rfl : i = j := by omega
      have hltz : ¬ (i : Int) < (i : Int) := by omega
      have IF : Aside ((∀ y, a ≤ y → y < i → T d[y]! d[m]!) ∧ (∀ y, i ≤ y → y < m → T d[m]! d[y]!)) := I
      clear I
      obtain ⟨wz, hwz⟩ : ∃ z, z = wr := ⟨_, rfl⟩
      subst hwz
      go_wp2
      go_loopg [17] (m - a) (fun kx s13 wr => ∃ (k : Nat) (dk : Array α), s13 = .int .i64 k ∧ i ≤ k ∧ k ≤ m ∧ k - i ≤ kx ∧ dk.size = d.size ∧ Aside (SW enc w0 blk off dk wr) ∧ Aside (RotP d dk k m (m + 1)))
      case atStart => exact ⟨m, d, rfl, by omega, by omega, by omega, rfl, S1, rot_none_l d m (m + 1)⟩
      case round =>
        clear S1
        obtain ⟨k, dk, rfl, hik, hkm, hkx2, hds, S1, HP⟩ := hrel
        by_cases hlt2 : i < k
        · obtain ⟨k, rfl⟩ : ∃ q, k = q + 1 := ⟨k - 1, by omega⟩
          have hlt2z : (i : Int) < (k : Int) + 1 := by omega
          have hpu : (((k + 1 : Nat) : Int)) = (k : Int) + 1 := by omega
          have hmi : (k : Int) + 1 - 1 = (k : Int) := by omega
          rw [hpu]
          clear hpu
          go_wp2_with fail
          obtain ⟨iN, hiN⟩ : ∃ q, q = k + 1 := ⟨_, rfl⟩
          obtain ⟨jN, hjN⟩ : ∃ q, q = k := ⟨_, rfl⟩
          have ea : ((k : Int) + 1).toNat = iN := by omega
          have pa : (0 : Int) ≤ (k : Int) + 1 := by omega
          have ba : (k : Int) + 1 < (d.size : Int) := by omega
          have ra : IntKind.i64.wrap ((k : Int) + 1) = (k : Int) + 1 := by rw [IntKind.wrap_i64]; omega
          have ec : ((k : Int)).toNat = jN := by omega
          have pc : (0 : Int) ≤ (k : Int) := by omega
          have bc : (k : Int) < (d.size : Int) := by omega
          have rc : IntKind.i64.wrap ((k : Int)) = (k : Int) := by rw [IntKind.wrap_i64]; omega
          obtain ⟨x, hx⟩ : ∃ x, x = dk[k + 1]! := ⟨_, rfl⟩
          obtain ⟨y, hy⟩ : ∃ x, x = dk[k]! := ⟨_, rfl⟩
          have S2 : Aside (SW enc w0 blk off (swp dk (k + 1) k) ((wr.setCell ⟨blk, off + iN, none⟩ (enc y)).setCell ⟨blk, off + jN, none⟩ (enc x)).drew) := by rw [hiN, hjN, hx, hy]; exact S1.out.swapped R (k + 1) k (by omega) (by omega)
          have ca := S1.out.c1 R (by omega) (k + 1) (by omega)
          have cb' := S1.out.c1 R (by omega) k (by omega)
          have fa := S1.out.f1 R (by omega) (k + 1) (by omega)
          have fb := S1.out.f1 R (by omega) k (by omega)
          obtain ⟨u, cc⟩ := S1.out.c2 R (by omega) (k + 1) k (by omega) (by omega) (enc y)
          rw [← hiN, ← hjN] at cc
          rw [← hx, ← hiN] at ca
          rw [← hy, ← hjN] at cb'
          rw [← hiN] at fa
          rw [← hjN] at fb
          clear S1 hx hy hiN hjN
          go_wp2_with fail
          go_big_region_o
          clear ca cb' cc fa fb
          generalize ((wr.setCell ⟨blk, off + iN, none⟩ (enc y)).setCell ⟨blk, off + jN, none⟩ (enc x)).drew = w2 at S2 ⊢
          clear ea ec
          go_wp2
          go_roundg (k - i)
          case measure => omega
          case rel => exact ⟨k, swp dk (k + 1) k, by first | rfl | go_num, by omega, by omega, Nat.le_refl _, by rw [size_swp]; exact hds, S2, (by have := rot_down HP.out (by omega) hkm (by omega); exact this)⟩
        · obtain rfl : k = i := by omega
          have hlt2z : ¬ (k : Int) < (k : Int) := by omega
          go_wp2
          (try simp only [Exit.inBlock, Exit.then]); refine bodyPost_ret (results_none rfl _ _ _) rfl ?_
          rw [HBM.out]
          exact ⟨rfl, dk, merge_down HP.out hai (by omega) HL.out IF.out.1 IF.out.2, S1.out⟩
end Go.Proofs.Ytceipfmdgpnagaa
