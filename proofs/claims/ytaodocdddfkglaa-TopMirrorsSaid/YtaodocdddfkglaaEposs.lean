/-
  Contract of edit.possible: the operations with which a script can begin, in a slice of its own; the old memory stays as it was. No condition.
-/
import Derived.Test.YtaodocdddfkglaaBase
import Derived.Test.YtaodocdddfkglaaEopm
import Derived.Test.YtaodocdddfkglaaVoid
namespace Go.Proofs.Ytaodocdddfkglaa
open Go.RowKit

theorem flatO_len (xs : List Opn) : (xs.flatMap encO).length = xs.length * 4 := by
  induction xs with
  | nil => rfl
  | cons x xs ih => rw [List.flatMap_cons, List.length_append, ih, encO_len, List.length_cons]; omega

theorem byte_eq_two {x y : ByteArray} (hx : 0 < x.size) (hy : 0 < y.size) (h : sg x 0 = sg y 0) : ((x[0].toNat : Int) == (y[0].toNat : Int)) = true := by
  rw [sg_eq x 0 hx, sg_eq y 0 hy] at h; simp [h]
theorem byte_ne_two {x y : ByteArray} (hx : 0 < x.size) (hy : 0 < y.size) (h : sg x 0 ≠ sg y 0) : ((x[0].toNat : Int) == (y[0].toNat : Int)) = false := by
  rw [sg_eq x 0 hx, sg_eq y 0 hy] at h; simpa using byte_apart h

set_option maxRecDepth 100000 in
set_option maxHeartbeats 4000000 in
theorem poss_any (x y : ByteArray) (w : World) :
    Calls Try.prog 26 #[.string x, .string y] w fun e w' => ∃ v, e = .returned v ∧ OwnX encO 4 w' w.heap.size 60 v (opsT x y) ∧ Below w.heap.size w w' := by
  have key : ∀ (q : Nat) (o1 o2 o3 o4 : Obj) (xs : List Opn) (cs : Array Value), cs = (xs.flatMap encO).toArray → xs.length ≤ 3 →
      OwnX encO 4 ((((((w.alloc o1).alloc o2).alloc o3).alloc o4).drewN q).alloc (.cells cs 60)) w.heap.size 60 (.slice (some ⟨w.heap.size + 1 + 1 + 1 + 1, 0, none⟩) xs.length xs.length) xs ∧
      Below w.heap.size w ((((((w.alloc o1).alloc o2).alloc o3).alloc o4).drewN q).alloc (.cells cs 60)) := fun q o1 o2 o3 o4 xs cs hcs hl => by
    have hb : Below w.heap.size w (((((w.alloc o1).alloc o2).alloc o3).alloc o4).drewN q) :=
      below_drewN (((((Below.refl _ w).alloc (Nat.le_refl _) o1).alloc (by simp) o2).alloc (by simp; omega) o3).alloc (by simp; omega) o4) q
    have hs : (((((w.alloc o1).alloc o2).alloc o3).alloc o4).drewN q).heap.size = w.heap.size + 1 + 1 + 1 + 1 := by
      show ((((w.alloc o1).alloc o2).alloc o3).alloc o4).heap.size = _
      simp
    have h := OwnX.lit (((((w.alloc o1).alloc o2).alloc o3).alloc o4).drewN q) w.heap.size 60 xs cs hcs (flatO_len xs) hb.size (by unfold maxLen; omega)
    rw [hs] at h
    exact ⟨h, hb.alloc hb.size _⟩
  have HK := hid key
  clear key
  go_enter Try.func26, Try.ntmps26
  by_cases hx : 0 < x.size
  · have bx := blank_no hx
    by_cases hy : 0 < y.size
    · have bY := blank_no hy
      have hops : opsT x y = if sg x 0 = sg y 0 then [oIns, oDel, oEq] else [oRep, oIns, oDel] := by unfold opsT opsF; rw [if_pos hx, if_pos hy]
      by_cases he : sg x 0 = sg y 0
      · rw [if_pos he] at hops
        rw [hops]
        have hq := byte_eq_two hx hy he
        clear he hops
        go_wp2_with fail
        go_quiet (fail)
        go_wp2_with fail
        go_ret
        have h := fun q => HK.out q (.cells #[.int .u8 33, .int .i64 1, .int .i64 1, .int .i64 1] 60) (.cells #[.int .u8 43, .int .i64 0, .int .i64 1, .int .i64 1] 60) (.cells #[.int .u8 45, .int .i64 1, .int .i64 0, .int .i64 1] 60) (.cells #[.int .u8 61, .int .i64 1, .int .i64 1, .int .i64 0] 60) [oIns, oDel, oEq] _ rfl (by decide)
        exact ⟨_, rfl, h _⟩
      · rw [if_neg he] at hops
        rw [hops]
        have hq := byte_ne_two hx hy he
        clear he hops
        go_wp2_with fail
        go_quiet (fail)
        go_wp2_with fail
        go_ret
        have h := fun q => HK.out q (.cells #[.int .u8 33, .int .i64 1, .int .i64 1, .int .i64 1] 60) (.cells #[.int .u8 43, .int .i64 0, .int .i64 1, .int .i64 1] 60) (.cells #[.int .u8 45, .int .i64 1, .int .i64 0, .int .i64 1] 60) (.cells #[.int .u8 61, .int .i64 1, .int .i64 1, .int .i64 0] 60) [oRep, oIns, oDel] _ rfl (by decide)
        exact ⟨_, rfl, h _⟩
    · have bY := blank_yes (show y.size = 0 by omega)
      have hops : opsT x y = [oDel] := by unfold opsT opsF; rw [if_pos hx, if_neg hy]
      rw [hops]
      go_wp2_with fail
      go_ret
      exact ⟨_, rfl, HK.out 0 _ _ _ _ [oDel] _ rfl (by decide)⟩
  · have bx := blank_yes (show x.size = 0 by omega)
    by_cases hy : 0 < y.size
    · have bY := blank_no hy
      have hops : opsT x y = [oIns] := by unfold opsT opsF; rw [if_neg hx, if_pos hy]
      rw [hops]
      go_wp2_with fail
      go_ret
      exact ⟨_, rfl, HK.out 0 _ _ _ _ [oIns] _ rfl (by decide)⟩
    · have bY := blank_yes (show y.size = 0 by omega)
      have hops : opsT x y = [] := by unfold opsT opsF; rw [if_neg hx, if_neg hy]
      rw [hops]
      go_wp2_with fail
      go_ret
      exact ⟨_, rfl, OwnX.nil _ _ _ _ _, ((((Below.refl _ w).alloc (Nat.le_refl _) _).alloc (by simp) _).alloc (by simp; omega) _).alloc (by simp; omega) _⟩
end Go.Proofs.Ytaodocdddfkglaa
