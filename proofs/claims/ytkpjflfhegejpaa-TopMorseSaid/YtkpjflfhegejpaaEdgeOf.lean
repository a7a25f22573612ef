/-
  Contracts of package edges: borderEndingAt and Of answer the longest borders of the document, in new memory, and leave the old one alone. Conditions: none but the sizes that a row itself sets.
-/
import Derived.Test.YtkpjflfhegejpaaBase
namespace Go.Proofs.Ytkpjflfhegejpaa
open Go.RowKit

set_option maxHeartbeats 400000 in
theorem border_any (s : ByteArray) (g n c i : Nat) (w : World) (h1 : 1 ≤ i) (h2 : i < n) (hn : n ≤ 24) (hs : s.size = n)
    (hc : ∀ j, j < i → w.cell? ⟨g, j, none⟩ = some (.int .i64 (lon (sg s) (j + 1) : Nat))) :
    Calls Try.prog 28 #[.string s, .slice (some ⟨g, 0, none⟩) n c, .int .i64 i] w fun e w' => e = .returned (.int .i64 (lon (sg s) (i + 1) : Nat)) ∧ ∃ q, w' = w.drewN q := by
  have HC := hid hc
  have HS := hid hs
  have hi := hc (i - 1) (by omega)
  have e1 : i - 1 + 1 = i := by omega
  rw [e1] at hi
  have hlt := lon_lt (f := sg s) (m := i) (by omega)
  have hst := hid (st_start (f := sg s) (i := i) (by omega))
  generalize lon (sg s) i = l0 at hi hlt hst
  clear hc hs e1
  go_enter Try.func28, Try.ntmps28
  go_wp2
  go_loopw [7] (fun v wr => ∃ l q : Nat, l < i ∧ v = .int .i64 l ∧ Hid (St (sg s) i l) ∧ wr = w.drewN q) (fun v _ => (intOf v).toNat)
  case atStart => exact ⟨l0, 0, hlt, rfl, hst, rfl⟩
  case round =>
    obtain ⟨l, q, hl, rfl, HT, rfl⟩ := hrel
    have hsz := HS.out
    have hl1 : l < s.size := by omega
    have hi1 : i < s.size := by omega
    clear hsz hi
    by_cases he : sg s l = sg s i
    · have hq1 := byte_eq s l i hl1 hi1 he
      have hq2 := byte_ne_false s l i hl1 hi1 he
      have HR := hid (st_hit HT.out he)
      clear he
      by_cases hl0 : l = 0
      · subst hl0
        go_wp2
        go_quiet (fail)
        go_wp2
        go_quiet (fail)
        go_wp2
        go_ret
        exact ⟨ret_int (by rw [HR.out]; go_num), by first | exact ⟨_, rfl⟩ | (simp only [World.drewN_drewN]; exact ⟨_, rfl⟩)⟩
      · have hpos : 0 < l := by omega
        clear hl0
        go_wp2
        go_quiet (fail)
        go_wp2
        go_quiet (fail)
        go_wp2
        go_ret
        exact ⟨ret_int (by rw [HR.out]; go_num), by first | exact ⟨_, rfl⟩ | (simp only [World.drewN_drewN]; exact ⟨_, rfl⟩)⟩
    · have hq1 := byte_eq_false s l i hl1 hi1 he
      have hq2 := byte_ne s l i hl1 hi1 he
      by_cases hl0 : l = 0
      · subst hl0
        have HR := hid (st_miss HT.out he)
        clear he
        go_wp2
        go_quiet (fail)
        go_wp2
        go_quiet (fail)
        go_wp2
        go_ret
        exact ⟨ret_int (by rw [HR.out]), by first | exact ⟨_, rfl⟩ | (simp only [World.drewN_drewN]; exact ⟨_, rfl⟩)⟩
      · have hpos : 0 < l := by omega
        have HR := hid (st_step HT.out hpos he)
        have hcell := HC.out (l - 1) (by omega)
        have e1 : l - 1 + 1 = l := by omega
        rw [e1] at hcell
        have hll := lon_lt (f := sg s) hpos
        generalize lon (sg s) l = l' at hcell HR hll
        clear he hl0 e1
        go_wp2
        go_quiet (fail)
        go_wp2
        go_roundw
        case rel => exact ⟨l', _, by omega, rfl, HR, by first | rfl | rw [World.drewN_drewN]⟩
        case measure => simp [intOf]; omega
theorem of_long (s : ByteArray) (w : World) (h : 24 < s.size) (hs : s.size ≤ maxLen) :
    Calls Try.prog 23 #[.string s] w fun e w' => e = .returned (.tuple #[.slice none 0 0, .iface 43 (.int .i64 4)]) ∧ w' = w := by
  unfold maxLen at hs
  go_enter Try.func23, Try.ntmps23
  go_wp2
  go_ret2
  exact ⟨rfl, rfl⟩

/-- What 'longest' holds ahead of round k. -/
def ofF (s : ByteArray) (k j : Nat) : Int := if j < k then ((lon (sg s) (j + 1) : Nat) : Int) else 0

theorem of_start (s : ByteArray) (n : Nat) : rowF n (fun _ => 0) = rowF n (ofF s 1) :=
  rowF_congr fun j _ => by
    unfold ofF
    split
    · have : j = 0 := by omega
      subst this; rw [lon_one]; rfl
    · rfl
theorem of_step (s : ByteArray) (n k : Nat) : rowF n (fun j => if j = k then ((lon (sg s) (k + 1) : Nat) : Int) else ofF s k j) = rowF n (ofF s (k + 1)) :=
  rowF_congr fun j _ => by
    unfold ofF
    by_cases h : j = k
    · subst h; simp
    · by_cases h' : j < k
      · simp [h, h', show j < k + 1 by omega]
      · simp [h, h', show ¬ j < k + 1 by omega]
theorem of_end {s : ByteArray} {n k : Nat} (h : ¬ k < n) : rowF n (ofF s k) = rowF n (ofF s n) :=
  rowF_congr fun j hj => by simp [ofF, hj, show j < k by omega]

theorem of_row {s : ByteArray} {n base : Nat} {e : TypeId} {v : Value} {w : World} (h : w.ownsRow base e 1 v n (rowF n (ofF s n))) : OwnI w base e v (ofL s n) := by
  unfold OwnI
  have he : rowF n (ofF s n) = (ofL s n).map (Value.int .i64) := by
    rw [rowF_of_list, ofL_len]
    exact rowF_congr fun j hj => by rw [ofL_get _ _ _ hj]; simp [ofF, hj]
  rw [← he, ofL_len]; exact h

set_option maxRecDepth 100000 in
set_option maxHeartbeats 400000 in
theorem of_any (s : ByteArray) (w : World) (h : s.size ≤ 24) :
    Calls Try.prog 23 #[.string s] w fun e w' => e = .returned (.tuple #[.slice (some ⟨w.heap.size, 0, none⟩) s.size s.size, .nilIface]) ∧
      OwnI w' w.heap.size 3 (.slice (some ⟨w.heap.size, 0, none⟩) s.size s.size) (ofL s s.size) ∧ Below w.heap.size w w' := by
  obtain ⟨i0, hi, hz0, hz1, hz2⟩ := info_parts int_info
  go_enter Try.func23, Try.ntmps23
  go_wp2_with (at_make; refine wpList_make_full _ rfl _ _ 55 rfl w.heap.size 3 i0 (.int .i64 0) 1 Try.underlying55 hi hz0 hz1 _ _ _ _ s.size rfl rfl rfl rfl (by rw [hz2]; omega) (by unfold maxLen; omega) (Nat.le_refl _) ?_)
  intro w1 hown hgrow
  rw [rowF_made, of_start s] at hown
  have hb1 : Below w.heap.size w w1 := (Below.refl _ _).grown hgrow (Nat.le_refl _) (by simp)
  clear hgrow hi hz0 hz1 hz2
  go_wp2
  go_loopw [5] (fun i wr => ∃ k : Nat, 1 ≤ k ∧ (k ≤ s.size ∨ k = 1) ∧ i = .int .i64 k ∧ wr.ownsRow w.heap.size 3 1 (.slice (some ⟨w.heap.size, 0, none⟩) s.size s.size) s.size (rowF s.size (ofF s k)) ∧ Below w.heap.size w wr) (fun i _ => s.size - (intOf i).toNat)
  case atStart => exact ⟨1, by omega, by omega, rfl, hown, hb1⟩
  case round =>
    obtain ⟨k, hk1, hk2, rfl, hown, hb⟩ := hrel
    by_cases hlt : k < s.size
    · have hcell : wr.cell? ⟨w.heap.size, k, none⟩ = some (.int .i64 (ofF s k k)) := by rw [hown.cellAt k (by omega), rowF_get _ _ _ hlt]
      have hfr := hown.frozenAt k
      have HO := hid hown
      clear hown
      go_wp2_with (go_at_call 28; refine (border_any s w.heap.size s.size s.size k wr hk1 hlt h rfl ?_).mono ?_)
      · intro j hj
        rw [HO.out.cellAt j (by omega), rowF_get _ _ _ (by omega)]
        simp [ofF, hj]
      · rintro e w' ⟨rfl, q, rfl⟩
        go_wp2
        have hst := (own_drewN HO.out q).stored k (.int .i64 (lon (sg s) (k + 1) : Nat))
        rw [rowF_set, of_step] at hst
        go_roundw
        case rel => exact ⟨k + 1, by omega, by omega, by go_num, hst.1, (below_drewN hb q).setCell (by simp) _⟩
        case measure => simp [intOf]; omega
    · have he : rowF s.size (ofF s k) = rowF s.size (ofF s s.size) := of_end hlt
      rw [he] at hown
      have HO := hid hown
      clear hown he
      go_wp2
      go_ret2
      exact ⟨rfl, of_row HO.out, hb⟩
end Go.Proofs.Ytkpjflfhegejpaa
