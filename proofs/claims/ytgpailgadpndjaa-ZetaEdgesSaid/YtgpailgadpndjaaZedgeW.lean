/-
  The walk of ZetaEdges: it returns true for every text, and leaves the old memory alone. No condition but the row's own size.
-/
import Derived.Test.YtgpailgadpndjaaZfact
import Derived.Test.YtgpailgadpndjaaEdges
namespace Go.Proofs.Ytgpailgadpndjaa
open Go.RowKit

theorem zedge_long (s : ByteArray) (w : World) (h : 24 < s.size) (hs : s.size ≤ maxLen) :
    Calls Try.prog 3 #[.string s] w fun e w' => e = .returned (.bool true) ∧ Below w.heap.size w w' := by
  have HL := fun w => hid (zedges_long s w h hs)
  have HM := fun w => hid (all_long s w h hs)
  unfold maxLen at hs
  go_enter Try.func3, Try.ntmps3
  go_wp2_with fail
  refine (zfact_any _).mono ?_
  rintro e w1 ⟨rfl, hb1⟩
  go_wp2_with fail
  refine (HL _).out.mono ?_
  rintro e w2 ⟨rfl, rfl⟩
  go_wp2_with fail
  refine (HM _).out.mono ?_
  rintro e w2 ⟨rfl, rfl⟩
  go_wp2
  go_ret
  exact ⟨rfl, hb1⟩

set_option maxHeartbeats 400000 in
theorem zedge_any (s : ByteArray) (w : World) (h : s.size ≤ 24) :
    Calls Try.prog 3 #[.string s] w fun e w' => e = .returned (.bool true) ∧ Below w.heap.size w w' := by
  have HL := fun w => hid (zedges_any s w h)
  have HM := fun w => hid (all_any s w h)
  have hlen : (allL s).length ≤ 24 := Nat.le_trans (all_len s) h
  generalize allL s = xs at HL HM hlen
  go_enter Try.func3, Try.ntmps3
  go_wp2_with fail
  refine (zfact_any _).mono ?_
  rintro e w1 ⟨rfl, hb1⟩
  go_wp2_with fail
  refine (HL _).out.mono ?_
  rintro e w2 ⟨v, rfl, ho2, hb2⟩
  obtain ⟨A, c, rfl, _, hI⟩ := IsInts.of_own ho2
  have hs1 := hb1.size
  have hb12 : Below w.heap.size w w2 := hb1.trans (hb2.mono hs1)
  have HI2 := hid hI
  clear ho2 hb1 hb2 hI hs1
  go_wp2_with fail
  refine (HM _).out.mono ?_
  rintro e w4 ⟨v, rfl, ho4, hb4⟩
  obtain ⟨A4, c4, rfl, _, hI4⟩ := IsInts.of_own ho4
  have HI := hid (ints_ok A A4 xs.length xs.length c c4 xs w4 _ _ (by omega) (by omega) (HI2.out.below hb4) hI4)
  have hb14 : Below w.heap.size w w4 := hb12.trans (hb4.mono hb12.size)
  clear HL HM hI4 HI2 ho4 hb4 hb12
  generalize xs.length = n at HI hlen ⊢
  go_wp2_with fail
  refine HI.out.mono ?_
  rintro e w5 ⟨rfl, hb5⟩
  go_wp2
  go_ret
  exact ⟨rfl, hb14.trans (hb5.mono hb14.size)⟩
end Go.Proofs.Ytgpailgadpndjaa
