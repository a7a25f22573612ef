/-
  Plain mathematics, without a program: how deep brackets are, newest first, and how long a rise among the depths can be. No condition.
-/
import Derived.Test.YtlbefiaieehcfaaRsgood
namespace Go.Proofs.Ytlbefiaieehcfaa

theorem ch_few : ∀ (c : List Int) (M : Nat), Ch ltB c → (∀ z ∈ c, 0 ≤ z ∧ z ≤ M) → c.length ≤ M + 1
  | [], M, _, _ => by simp
  | [x], M, _, _ => by simp
  | x :: y :: r, M, h, hb => by
    obtain ⟨h1, h2⟩ := List.pairwise_cons.1 h
    have hx := hb x (by simp)
    have lt : ∀ z ∈ y :: r, z < x := fun z hz => by simpa [ltB] using h1 z hz
    have hy := lt y (by simp)
    have hy0 := hb y (by simp)
    have := ch_few (y :: r) (x - 1).toNat h2 (fun z hz => ⟨(hb z (by simp [List.mem_cons.1 hz])).1, by have := lt z hz; omega⟩)
    rw [List.length_cons]
    omega
/-- Depths, newest first, the greatest of them m: the numbers from 1 to m rise among them. -/
structure DpTo (h : List Int) (m : Nat) : Prop where
  all : ∀ z ∈ h, 0 ≤ z ∧ z ≤ m
  ge : m ≤ lg ltB h
theorem dp_start : DpTo ([] : List Int).reverse 0 := ⟨fun z hz => by simp at hz, Nat.zero_le _⟩
theorem dp_same {l : List Int} {m : Nat} {x : Int} (h : DpTo l.reverse m) (h0 : 0 ≤ x) (hx : x ≤ m) : DpTo (l ++ [x]).reverse m := by
  rw [List.reverse_append]
  refine ⟨fun z hz => ?_, Nat.le_trans h.ge (Nat.le_max_left _ _)⟩
  rcases List.mem_cons.1 hz with rfl | hz
  · exact ⟨h0, hx⟩
  · exact h.all z hz
theorem dp_more {l : List Int} {m : Nat} (h : DpTo l.reverse m) : DpTo (l ++ [(m : Int) + 1]).reverse (m + 1) := by
  rw [List.reverse_append]
  refine ⟨fun z hz => ?_, Nat.le_trans ?_ (Nat.le_max_right _ _)⟩
  · rcases List.mem_cons.1 hz with rfl | hz
    · omega
    · have := h.all z hz
      omega
  · have hw := wl_all (P := ltB) (v := (m : Int) + 1) (l := l.reverse) (fun z hz => by have := h.all z hz; simp [ltB]; omega)
    show m + 1 ≤ wl ltB l.reverse ((m : Int) + 1) + 1
    have := h.ge
    omega
theorem dp_end {h : List Int} {m : Nat} (hd : DpTo h m) : m ≤ lg ltB h ∧ lg ltB h ≤ m + 1 := by
  refine ⟨hd.ge, ?_⟩
  obtain ⟨c, c1, c2, c3⟩ := lg_ex trs_lt h
  rw [← c3]
  exact ch_few c m c2 fun z hz => hd.all z (c1.subset hz)
theorem dp_good {l : List Int} {m : Nat} (hd : DpTo l.reverse m) (h1 : l.length ≤ 16) (h2 : m ≤ 16) : GoodR l :=
  ⟨by omega, fun x hx => by have := hd.all x (List.mem_reverse.2 hx); omega⟩
end Go.Proofs.Ytlbefiaieehcfaa
