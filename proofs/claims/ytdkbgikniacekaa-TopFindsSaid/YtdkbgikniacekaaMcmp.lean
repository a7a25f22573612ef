/-
  Contracts of cmp.Compare and cmp.Or at ints and of many.compare: by place, then by word. No condition.
-/
import Derived.Test.YtdkbgikniacekaaMlay
import Derived.Test.YtdkbgikniacekaaBase
import Derived.Test.YtdkbgikniacekaaMmath
import Derived.StillTailTactics
namespace Go.Proofs.Ytdkbgikniacekaa
open Go.RowKit Go.Shelf Go.Sort

/-- A hit's two cells. -/
def encH (x : Nat × Nat) : List Value := [.int .i64 (x.1 : Int), .int .i64 (x.2 : Int)]
def cmpI (a b : Int) : Int := if a < b then -1 else if b < a then 1 else 0
def cmpH (x y : Nat × Nat) : Int := if cmpI x.1 y.1 ≠ 0 then cmpI x.1 y.1 else cmpI x.2 y.2
theorem cmpH_lt (x y : Nat × Nat) : ltOf cmpH x y = true ↔ hlt x y := by
  unfold ltOf cmpH cmpI hlt
  simp only [decide_eq_true_eq]
  split <;> split <;> (try split) <;> (try split) <;> omega
theorem hlt_swo : SWO (ltOf cmpH) where
  irrefl x := by rw [← Bool.not_eq_true, cmpH_lt]; unfold hlt; omega
  trans x y z h1 h2 := by rw [cmpH_lt] at *; unfold hlt at *; omega
  ntrans x y z h1 h2 := by rw [← Bool.not_eq_true, cmpH_lt] at *; unfold hlt at *; omega

theorem nan_any (x : Int) (w : World) : Calls Try.prog 79 #[.int .i64 x] w fun e w' => e = .returned (.bool false) ∧ w' = w := by
  go_enter Try.func79, Try.ntmps79
  go_wp2
  go_ret
  exact ⟨by simp, rfl⟩
theorem compare_int (x y : Int) (w : World) : Calls Try.prog 55 #[.int .i64 x, .int .i64 y] w fun e w' => e = .returned (.int .i64 (cmpI x y)) ∧ w' = w := by
  unfold cmpI
  by_cases h1 : x < y
  · rw [if_pos h1]
    go_enter Try.func55, Try.ntmps55
    go_wp2_with (go_at_call 79; refine (nan_any _ _).mono ?_; rintro e w1 ⟨rfl, hw⟩; subst w1)
    go_ret
    exact ⟨rfl, rfl⟩
  · rw [if_neg h1]
    by_cases h2 : y < x
    · rw [if_pos h2]
      go_enter Try.func55, Try.ntmps55
      go_wp2_with (go_at_call 79; refine (nan_any _ _).mono ?_; rintro e w1 ⟨rfl, hw⟩; subst w1)
      go_ret
      exact ⟨rfl, rfl⟩
    · rw [if_neg h2]
      go_enter Try.func55, Try.ntmps55
      go_wp2_with (go_at_call 79; refine (nan_any _ _).mono ?_; rintro e w1 ⟨rfl, hw⟩; subst w1)
      go_ret
      exact ⟨rfl, rfl⟩
theorem or_two (g : Nat) (x y : Int) (w : World) (h0 : w.cell? ⟨g, 0, none⟩ = some (.int .i64 x)) (h1 : w.cell? ⟨g, 1, none⟩ = some (.int .i64 y)) :
    Calls Try.prog 54 #[.slice (some ⟨g, 0, none⟩) 2 2] w fun e w' => e = .returned (.int .i64 (if x ≠ 0 then x else y)) ∧ w' = w := by
  by_cases hx : x = 0
  · have hq : (x != 0) = false := by simp [hx]
    rw [if_neg (by simpa using hx)]
    clear hx
    by_cases hy : y = 0
    · have hr : (y != 0) = false := by simp [hy]
      have HY := hid hy
      clear hy
      go_enter Try.func54, Try.ntmps54
      go_wp2_with fail
      go_rounds 3
      go_ret
      exact ⟨ret_int HY.out.symm, rfl⟩
    · have hr : (y != 0) = true := by simpa using hy
      clear hy
      go_enter Try.func54, Try.ntmps54
      go_wp2_with fail
      go_rounds 2
      go_ret
      exact ⟨rfl, rfl⟩
  · have hq : (x != 0) = true := by simpa using hx
    rw [if_pos hx]
    clear hx
    go_enter Try.func54, Try.ntmps54
    go_wp2_with fail
    go_rounds 1
    go_ret
    exact ⟨rfl, rfl⟩
set_option maxRecDepth 100000 in
set_option maxHeartbeats 1000000 in
theorem compare_any (x y : Nat × Nat) (W : World) : Calls Try.prog 39 #[.agg #[.int .i64 (x.1 : Int), .int .i64 (x.2 : Int)], .agg #[.int .i64 (y.1 : Int), .int .i64 (y.2 : Int)]] W fun e w' =>
    e = .returned (.int .i64 (cmpH x y)) ∧ ∃ q os', w' = grow (W.drewN q) os' := by
  have h1 := fun W' => compare_int (x.1 : Int) (y.1 : Int) W'
  have h2 := fun W' => compare_int (x.2 : Int) (y.2 : Int) W'
  have h3 := fun g W' => or_two g (cmpI x.1 y.1) (cmpI x.2 y.2) W'
  unfold cmpH
  generalize (x.1 : Int) = a at h1 h3 ⊢
  generalize (y.1 : Int) = b at h1 h3 ⊢
  generalize (x.2 : Int) = c at h2 h3 ⊢
  generalize (y.2 : Int) = d at h2 h3 ⊢
  generalize cmpI a b = u at h1 h3 ⊢
  generalize cmpI c d = v at h2 h3 ⊢
  generalize (if u ≠ 0 then u else v) = r at h3 ⊢
  go_enter Try.func39, Try.ntmps39
  go_wp2_with fail
  obtain ⟨w2, hw2⟩ : ∃ z, z = (W.alloc (.cells #[.int .i64 a, .int .i64 c] 46)).alloc (.cells #[.int .i64 b, .int .i64 d] 46) := ⟨_, rfl⟩
  have ha : w2.cell? ⟨W.heap.size, 0, none⟩ = some (.int .i64 a) := by rw [hw2]; simp
  have hc : w2.cell? ⟨W.heap.size, 1, none⟩ = some (.int .i64 c) := by rw [hw2]; simp
  have hb : w2.cell? ⟨W.heap.size + 1, 0, none⟩ = some (.int .i64 b) := by rw [hw2]; simp
  have hd : w2.cell? ⟨W.heap.size + 1, 1, none⟩ = some (.int .i64 d) := by rw [hw2]; simp
  rw [← hw2]
  have HW := hid hw2
  clear hw2
  go_still_tail 10, (by kernel_rfl)
  still_call (h1 _)
  repeat still_step
  still_call (h2 _)
  refine wpStill_nil ?_
  change wpList _ _ _ _ _ w2.drew
  have HX : Hid (∃ os, w2.drew = grow (W.drewN 1) os) := hid ⟨_, by rw [HW.out, alloc_eq_grow, alloc_eq_grow, grow_grow]; rfl⟩
  clear ha hb hc hd HW h1 h2
  generalize w2.drew = w3 at HX ⊢
  have hu : ∀ o : Obj, o = .cells #[.int .i64 u, .int .i64 v] 3 → (w3.alloc o).cell? ⟨w3.heap.size, 0, none⟩ = some (.int .i64 u) := by rintro o rfl; simp
  have hv : ∀ o : Obj, o = .cells #[.int .i64 u, .int .i64 v] 3 → (w3.alloc o).cell? ⟨w3.heap.size, 1, none⟩ = some (.int .i64 v) := by rintro o rfl; simp
  have HC := hid (h3 w3.heap.size (w3.alloc (.cells #[.int .i64 u, .int .i64 v] 3)) (hu _ rfl) (hv _ rfl))
  clear h3 hu hv
  go_wp2_with fail
  refine HC.out.mono ?_
  rintro e w4 ⟨rfl, hw4⟩
  subst w4
  go_wp2_with fail
  go_ret
  obtain ⟨os, hx⟩ := HX.out
  exact ⟨rfl, 1, _, by rw [hx, alloc_eq_grow, grow_grow]⟩
theorem compare_lays (blk off size : Nat) (w : World) : CmpLays Try.prog 39 #[] encH 2 cmpH blk off size w :=
  fun _ _ _ _ x y => compare_any x y _

/-- slices.SortFunc over hits: the same hits, by place, then by word. -/
theorem sort_any (blk off cap : Nat) (d : Array (Nat × Nat)) (w : World) (hH : HoldsK encH 2 w blk off d) (hblk : blk < w.heap.size) (hsz : d.size < 4611686018427387904) :
    Calls Try.prog 38 #[.slice (some ⟨blk, off, none⟩) d.size cap, .func (.func 39) #[] #[]] w fun e w' =>
      e = .returned (.tuple #[]) ∧ ∃ d' n os, PermIn 0 d.size d d' ∧ SortedIn (ltOf cmpH) 0 d.size d' ∧ w' = sortWorldK encH 2 w blk off n d' os := by
  have eg : ∀ args w, (callFunc 39 args).run Try.prog w = .ok (.enter 39 args) w := enters_of Try.func39 (by kernel_rfl) rfl
  exact AnyQ.slices_SortFunc sortHit 2 Try.isAgg46 Try.sizeOf46 encH (fun _ => rfl) (fun x v hv => by simp [encH] at hv; rcases hv with rfl | rfl <;> rfl) cmpH hlt_swo 39 #[] blk off cap d w eg (compare_lays blk off d.size w) hH hblk hsz
end Go.Proofs.Ytdkbgikniacekaa
