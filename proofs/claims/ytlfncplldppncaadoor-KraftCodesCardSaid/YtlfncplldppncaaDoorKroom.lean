/-
  Contracts of kraft.Check, share and Room: what is wrong with lengths, the room of one code, the room of all of them. Conditions: of share a length from 1 to 12; of Room none.
-/
import Derived.Test.YtlfncplldppncaaDoorBase
import Derived.Test.YtlfncplldppncaaDoorLenC
import Derived.Test.YtlfncplldppncaaDoorCode
namespace Go.Proofs.YtlfncplldppncaaDoor
open Go.RowKit

theorem lenC_iff {l : List Int} {k : Int} (h : LenC l k) : (k = 0 ↔ l.length ≤ 10 ∧ InL 1 12 l) := by
  rcases h with ⟨h1, rfl⟩ | ⟨h1, h2, rfl⟩ | ⟨h1, h2, rfl⟩
  · exact ⟨fun h => by omega, fun h => by omega⟩
  · exact ⟨fun h => by omega, fun h => absurd h.2 h2⟩
  · exact ⟨fun _ => ⟨h1, h2⟩, fun _ => rfl⟩
theorem lenC_one {l : List Int} {k k' : Int} (h : LenC l k) (h' : LenC l k') : k = k' := by
  rcases h with ⟨h1, rfl⟩ | ⟨h1, h2, rfl⟩ | ⟨h1, h2, rfl⟩ <;> rcases h' with ⟨h1', rfl⟩ | ⟨h1', h2', rfl⟩ | ⟨h1', h2', rfl⟩ <;> first | rfl | omega | (exact absurd h2' h2) | (exact absurd h2 h2')
theorem lenC_nums {E : List Nat} (h : E.length ≤ 10) (hE : LenOk E) : LenC (nums E) 0 := .inr (.inr ⟨by rw [nums_len]; exact h, fun i hi => by
  rw [nums_len] at hi
  rw [nums_at]
  have := hE i hi
  omega, rfl⟩)

set_option maxHeartbeats 1000000 in
theorem kcheck_any (A : Option Addr) (n c : Nat) (l : List Int) (w : World) (hl : IsInts w w.heap.size A n l) :
    Calls Tryd.prog 7 #[.slice A n c] w fun e w' => ((LenC l 0 ∧ e = .returned .nilIface) ∨ ∃ k, LenC l k ∧ k ≠ 0 ∧ e = .returned (.iface 44 (.int .i64 k))) ∧ w' = w := by
  have HN := hid hl.1
  have HL := hid hl
  have hlen := hl.1
  by_cases h10 : n ≤ 10
  · clear hl hlen
    have n2 : ¬ (10 < (n : Int)) := by omega
    go_enter Tryd.func7, Tryd.ntmps7
    go_wp2_with fail
    go_loopw [11] (fun x wr => ∃ i : Nat, i ≤ n ∧ x = .int .i64 i ∧ Hid (∀ j, j < i → 1 ≤ l.getD j 0 ∧ l.getD j 0 ≤ 12) ∧ wr = w) (fun x _ => n - (intOf x).toNat)
    case atStart => exact ⟨0, by omega, rfl, hid (fun j hj => absurd hj (by omega)), rfl⟩
    case round =>
      obtain ⟨i, hin, rfl, HO, hw⟩ := hrel
      subst wr
      by_cases hlt : i < n
      · obtain ⟨g, off, rfl, hg, hc⟩ := HL.out.2 (by omega)
        have c1 := hc i hlt
        clear hc
        by_cases hr : 1 ≤ l.getD i 0 ∧ l.getD i 0 ≤ 12
        · have HO2 : Hid (∀ j, j < i + 1 → 1 ≤ l.getD j 0 ∧ l.getD j 0 ≤ 12) := hid (fun j hj => by
            rcases Nat.lt_or_ge j i with h | h
            · exact HO.out j h
            · obtain rfl : j = i := by omega
              exact hr)
          generalize l.getD i 0 = X at c1 hr
          have r1 : ¬ (X < 1) := by omega
          have r2 : ¬ (12 < X) := by omega
          clear hr HO
          go_wp2_with fail
          go_roundw
          case rel => exact ⟨i + 1, by omega, by go_num, HO2, by first | rfl | trivial⟩
          case measure => simp [intOf]; omega
        · have HB : Hid (LenC l 1) := hid (.inr (.inl ⟨by have := HN.out; omega, fun h => hr (h i (by have := HN.out; omega)), rfl⟩))
          generalize l.getD i 0 = X at c1 hr
          have hX : X < 1 ∨ (¬ X < 1 ∧ 12 < X) := by omega
          clear hr HO
          rcases hX with r1 | ⟨r1, r2⟩
          · go_wp2_with fail
            go_ret
            exact ⟨.inr ⟨1, HB.out, by decide, rfl⟩, by first | rfl | trivial⟩
          · go_wp2_with fail
            go_ret
            exact ⟨.inr ⟨1, HB.out, by decide, rfl⟩, by first | rfl | trivial⟩
      · obtain rfl : i = n := by omega
        have HG : Hid (LenC l 0) := hid (.inr (.inr ⟨by have := HN.out; omega, fun j hj => HO.out j (by have := HN.out; omega), rfl⟩))
        clear HO
        go_wp2_with fail
        go_ret
        exact ⟨.inl ⟨HG.out, rfl⟩, by first | rfl | trivial⟩
  · have HB : Hid (LenC l 4) := hid (.inl ⟨by omega, rfl⟩)
    have n2 : 10 < (n : Int) := by omega
    clear HN HL hl hlen
    go_enter Tryd.func7, Tryd.ntmps7
    go_wp2_with fail
    go_ret
    exact ⟨.inr ⟨4, HB.out, by decide, rfl⟩, rfl⟩

theorem share_num {d : Nat} (h : d ≤ 12) : (4096 : Int) / 2 ^ d = ((2 ^ (12 - d) : Nat) : Int) := by
  have h1 := pow_part h
  have h2 : 4096 / 2 ^ d = 2 ^ (12 - d) := Nat.div_eq_of_eq_mul_right (Nat.pow_pos (by decide)) h1.symm
  rw [← h2, Int.natCast_ediv]
  rfl
theorem share_any (d : Nat) (w : World) (h : d ≤ 12) :
    Calls Tryd.prog 22 #[.int .i64 (d : Int)] w fun e w' => e = .returned (.int .i64 ((2 ^ (12 - d) : Nat) : Int)) ∧ w' = w := by
  have HE := hid (share_num h)
  generalize 2 ^ (12 - d) = R at HE ⊢
  go_enter Tryd.func22, Tryd.ntmps22
  go_wp2_with fail
  go_ret
  exact ⟨ret_int HE.out, rfl⟩

set_option maxHeartbeats 1000000 in
theorem kroom_ok (A : Option Addr) (n c : Nat) (E : List Nat) (w : World) (hl : IsInts w w.heap.size A n (nums E)) (h10 : n ≤ 10) (hE : LenOk E) :
    Calls Tryd.prog 9 #[.slice A n c] w fun e w' => e = .returned (.tuple #[.int .i64 ((rm 12 E : Nat) : Int), .nilIface]) ∧ Below w.heap.size w w' := by
  have hls : E.length = n := by rw [← nums_len]; exact hl.1
  have HC := hid (kcheck_any A n c (nums E) w hl)
  have HO := hid (lenC_nums (by omega) hE)
  have HI := hid hl
  have HL := hid hls
  have HE := hid hE
  clear hl hls hE
  go_enter Tryd.func9, Tryd.ntmps9
  go_wp2_with fail
  refine HC.out.mono ?_
  rintro e w1 ⟨h1, hw1⟩
  subst w1
  obtain ⟨_, rfl⟩ | ⟨k, hk, hk0, rfl⟩ := h1
  rotate_left
  · exact absurd (lenC_one hk HO.out) hk0
  clear HC HO
  go_wp2_with fail
  go_loopw [5, 15] (fun v x wr => ∃ i : Nat, i ≤ n ∧ x = .int .i64 i ∧ v = .int .i64 (rm 12 (E.take i) : Nat) ∧ wr = w) (fun _ x _ => n - (intOf x).toNat)
  case atStart => exact ⟨0, by omega, rfl, rfl, rfl⟩
  case round =>
    obtain ⟨i, hin, rfl, rfl, hwr⟩ := hrel
    subst wr
    by_cases hlt : i < n
    · obtain ⟨g, off, rfl, hg, hc⟩ := HI.out.2 (by omega)
      have c1 := hc i hlt
      rw [nums_at] at c1
      have hS := hid (rm_succ E (i := i) (by rw [HL.out]; exact hlt))
      have b1 : rm 12 (E.take i) ≤ 40960 := Nat.le_trans (rm_le _) (by rw [List.length_take]; omega)
      have h12 := (HE.out i (by rw [HL.out]; exact hlt)).2
      have HP := fun W => hid (share_any (E.getD i 0) W h12)
      have b2 : 2 ^ (12 - E.getD i 0) ≤ 4096 := pow_le (n := 12) (by omega)
      generalize rm 12 (E.take i) = R at hS b1
      generalize E.getD i 0 = K at c1 hS h12 HP b2
      generalize 2 ^ (12 - K) = Y at hS HP b2
      clear hc
      go_wp2_with fail
      refine (HP _).out.mono ?_
      rintro e w5 ⟨rfl, hw5⟩
      subst w5
      go_wp2_with fail
      go_roundw
      case rel => exact ⟨i + 1, by omega, by go_num, by rw [hS.out]; push_cast; rfl, by first | rfl | trivial⟩
      case measure => simp [intOf]; omega
    · obtain rfl : i = n := by omega
      have HT : Hid (rm 12 (E.take i) = rm 12 E) := hid (by rw [List.take_of_length_le (by rw [HL.out]; exact Nat.le_refl _)])
      generalize rm 12 (E.take i) = R at HT ⊢
      go_wp2_with fail
      go_ret2
      exact ⟨by rw [HT.out]; rfl, Below.refl _ _⟩
theorem kroom_bad (A : Option Addr) (n c : Nat) (ys : List Int) (k : Int) (w : World) (hl : IsInts w w.heap.size A n ys) (hk : LenC ys k) (hk0 : k ≠ 0) :
    Calls Tryd.prog 9 #[.slice A n c] w fun e w' => e = .returned (.tuple #[.int .i64 0, .iface 44 (.int .i64 k)]) ∧ Below w.heap.size w w' := by
  have HC := hid (kcheck_any A n c ys w hl)
  have HK := hid hk
  have HK0 := hid hk0
  clear hl hk hk0
  go_enter Tryd.func9, Tryd.ntmps9
  go_wp2_with fail
  refine HC.out.mono ?_
  rintro e w1 ⟨h1, hw1⟩
  subst w1
  obtain ⟨h0, rfl⟩ | ⟨k', hk', _, rfl⟩ := h1
  · exact absurd (lenC_one HK.out h0) HK0.out
  obtain rfl := lenC_one hk' HK.out
  clear HC HK HK0 hk'
  go_wp2_with fail
  go_ret2
  exact ⟨rfl, Below.refl _ _⟩
end Go.Proofs.YtlfncplldppncaaDoor
