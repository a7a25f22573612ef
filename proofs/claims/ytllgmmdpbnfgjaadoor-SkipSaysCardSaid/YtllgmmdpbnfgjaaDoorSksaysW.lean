/-
  The walk of SkipSays: it returns true for every text, word and byte, and leaves the old memory alone. Conditions: the row's own sizes; errors.errorType as the program's text lays it.
-/
import Derived.Test.YtllgmmdpbnfgjaaDoorErr
import Derived.Test.YtllgmmdpbnfgjaaDoorWord
import Derived.Test.YtllgmmdpbnfgjaaDoorRleap
import Derived.Test.YtllgmmdpbnfgjaaDoorSkip
namespace Go.Proofs.YtllgmmdpbnfgjaaDoor
open Go.RowKit

theorem bad_not {t u : ByteArray} {k : Int} (h : BadW t u k) : (k == 0) = false := by
  rcases h with ⟨rfl, _⟩ | ⟨rfl, _⟩ <;> rfl

set_option maxHeartbeats 800000 in
theorem sksays_bad (t u : ByteArray) (c : UInt8) (k k2 : Int) (w : World) (h : BadW noT u k) (h2 : BadW t u k2) (ht : t.size ≤ maxLen) (hu : u.size ≤ maxLen) (hg : Laid w) :
    Calls Tryd.prog 3 #[.string t, .string u, .int .u8 (c.toNat : Int)] w fun e w' => e = .returned (.bool true) ∧ Below w.heap.size w w' := by
  have H1 := fun w => hid (word_bad noT u k w h (by decide) hu)
  have H2 := fun w => hid (leap_bad u c k w h hu)
  have H3 := fun w => hid (word_bad t u k2 w h2 ht hu)
  have H4 := fun w => hid (first_bad t u k2 w h2 ht hu)
  have hp := hg.pos
  have hk := bad_not h
  have hk2 := bad_not h2
  unfold maxLen at ht hu
  clear h h2
  go_enter Tryd.func3, Tryd.ntmps3
  go_wp2_with fail
  refine (H1 _).out.mono ?_
  rintro e w1 ⟨rfl, rfl⟩
  go_wp2_with fail
  refine (H2 _).out.mono ?_
  rintro e w1 ⟨rfl, rfl⟩
  go_wp2_with fail
  refine (error_err k _ hg).mono ?_
  rintro e w2 ⟨rfl, hb2⟩
  have hg2 := hg.below hp hb2
  go_wp2_with fail
  refine (H3 _).out.mono ?_
  rintro e w3 ⟨rfl, rfl⟩
  go_wp2_with fail
  refine (H4 _).out.mono ?_
  rintro e w3 ⟨rfl, rfl⟩
  go_wp2_with fail
  refine (error_err k2 _ hg2).mono ?_
  rintro e w4 ⟨rfl, hb4⟩
  have hb4 := hb2.trans (hb4.mono hb2.size)
  go_wp2
  go_ret
  exact ⟨rfl, hb4⟩

set_option maxHeartbeats 800000 in
theorem sksays_half (t u : ByteArray) (c : UInt8) (k2 : Int) (w : World) (h2 : u.size ≤ 24) (h0 : 0 < u.size) (h : BadW t u k2) (ht : t.size ≤ maxLen) (hg : Laid w) :
    Calls Tryd.prog 3 #[.string t, .string u, .int .u8 (c.toNat : Int)] w fun e w' => e = .returned (.bool true) ∧ Below w.heap.size w w' := by
  have hu : u.size ≤ maxLen := by unfold maxLen; omega
  have H1 := fun w => hid (word_ok noT u w (by decide) h2 h0)
  have HR := fun w => hid (rleap_any u c w h2 h0)
  have H2 := fun w => hid (leap_any u c w h2 h0)
  have H3 := fun w => hid (word_bad t u k2 w h ht hu)
  have H4 := fun w => hid (first_bad t u k2 w h ht hu)
  have hp := hg.pos
  have hk2 := bad_not h
  generalize lp (sg u) u.size c = n at HR H2
  unfold maxLen at ht hu
  clear h
  go_enter Tryd.func3, Tryd.ntmps3
  go_wp2_with fail
  refine (H1 _).out.mono ?_
  rintro e w0 ⟨rfl, rfl⟩
  go_wp2_with fail
  refine (HR _).out.mono ?_
  rintro e w1 ⟨rfl, q, rfl⟩
  have hb1 := below_drewN (Below.refl w0.heap.size w0) q
  generalize w0.drewN q = w1 at hb1 ⊢
  go_wp2_with fail
  refine (H2 _).out.mono ?_
  rintro e w2 ⟨rfl, hb2⟩
  have hb2 := hb1.trans (hb2.mono hb1.size)
  have hg2 := hg.below hp hb2
  clear hb1 H1 HR H2
  go_wp2_with fail
  refine (error_nil _).mono ?_
  rintro e w3 ⟨rfl, rfl⟩
  go_wp2_with fail
  refine (H3 _).out.mono ?_
  rintro e w3 ⟨rfl, rfl⟩
  go_wp2_with fail
  refine (H4 _).out.mono ?_
  rintro e w3 ⟨rfl, rfl⟩
  go_wp2_with fail
  refine (error_err k2 _ hg2).mono ?_
  rintro e w4 ⟨rfl, hb4⟩
  have hb4 := hb2.trans (hb4.mono hb2.size)
  go_wp2
  go_ret
  exact ⟨rfl, hb4⟩

set_option maxHeartbeats 1600000 in
theorem sksays_any (t u : ByteArray) (c : UInt8) (w : World) (h1 : t.size ≤ 24) (h2 : u.size ≤ 24) (h0 : 0 < u.size) :
    Calls Tryd.prog 3 #[.string t, .string u, .int .u8 (c.toNat : Int)] w fun e w' => e = .returned (.bool true) ∧ Below w.heap.size w w' := by
  have H1 := fun w => hid (word_ok noT u w (by decide) h2 h0)
  have HR := fun w => hid (rleap_any u c w h2 h0)
  have H2 := fun w => hid (leap_any u c w h2 h0)
  have H3 := fun w => hid (word_ok t u w h1 h2 h0)
  have HS := fun w => hid (rfirst_any t u w h1 h2 h0)
  have H4 := fun w => hid (first_any t u w h1 h2 h0)
  generalize lp (sg u) u.size c = n at HR H2
  go_enter Tryd.func3, Tryd.ntmps3
  go_wp2_with fail
  refine (H1 _).out.mono ?_
  rintro e w0 ⟨rfl, rfl⟩
  go_wp2_with fail
  refine (HR _).out.mono ?_
  rintro e w1 ⟨rfl, q, rfl⟩
  have hb1 := below_drewN (Below.refl w0.heap.size w0) q
  generalize w0.drewN q = w1 at hb1 ⊢
  go_wp2_with fail
  refine (H2 _).out.mono ?_
  rintro e w2 ⟨rfl, hb2⟩
  have hb2 := hb1.trans (hb2.mono hb1.size)
  clear hb1 H1 HR H2
  go_wp2_with fail
  refine (error_nil _).mono ?_
  rintro e w3 ⟨rfl, rfl⟩
  go_wp2_with fail
  refine (H3 _).out.mono ?_
  rintro e w3 ⟨rfl, rfl⟩
  go_wp2_with fail
  refine (HS _).out.mono ?_
  rintro e w4 ⟨a, k, rfl, hf, q2, rfl⟩
  have hb4 := below_drewN hb2 q2
  generalize w3.drewN q2 = w4 at hb4 ⊢
  clear hb2 H3 HS
  go_wp2_with fail
  refine (H4 _).out.mono ?_
  rintro e w5 ⟨a5, k5, rfl, hf5, hb5⟩
  obtain ⟨rfl, rfl⟩ := fst_one hf5 hf
  have hb5 := hb4.trans (hb5.mono hb4.size)
  clear hf hf5 H4 hb4
  go_wp2_with fail
  refine (error_nil _).mono ?_
  rintro e w6 ⟨rfl, rfl⟩
  go_wp2
  go_ret
  exact ⟨rfl, hb5⟩
end Go.Proofs.YtllgmmdpbnfgjaaDoor
