/-
  Contracts of turn.smallest and turn.Same: the least rotation as a text, and whether two texts have one least rotation; nothing is changed. Conditions: none but the sizes that a row itself sets.
-/
import Derived.Test.YtldhcmoecmfigaaTleast
import Derived.Laws.Concat
namespace Go.Proofs.Ytldhcmoecmfigaa
open Go.RowKit

theorem small_long (s : ByteArray) (w : World) (h : 24 < s.size) (hs : s.size ≤ maxLen) :
    Calls Try.prog 23 #[.string s] w fun e w' => e = .returned (.tuple #[.string ByteArray.empty, .iface 41 (.int .i64 4)]) ∧ w' = w := by
  have H1 := fun W => hid (least_long s W h hs)
  clear hs
  go_enter Try.func23, Try.ntmps23
  go_wp2_with fail
  refine (H1 _).out.mono ?_
  rintro e w1 ⟨rfl, hw1⟩
  subst w1
  go_wp2
  go_ret2
  exact ⟨rfl, rfl⟩
set_option maxHeartbeats 400000 in
theorem small_any (s : ByteArray) (w : World) (h : s.size ≤ 24) :
    Calls Try.prog 23 #[.string s] w fun e w' => ∃ b : Nat, e = .returned (.tuple #[.string (turnS s b), .nilIface]) ∧ Lst (cy s) s.size b ∧ ∃ q, w' = w.drewN q := by
  have H1 := fun W => hid (least_any s W h)
  go_enter Try.func23, Try.ntmps23
  go_wp2_with fail
  refine (H1 _).out.mono ?_
  rintro e w1 ⟨b, rfl, hl, hw1⟩
  subst w1
  have hb := lst_le hl
  have HL := hid hl
  have hc1 : ∀ W : World, Sem.run Try.prog (Instr.slice 9 (.string s) (some (.int .i64 (b : Int))) none none) W = .ok (.string (s.extract b s.size)) W := fun W =>
    run_slice_string_l W 9 s Try.underlying9 .i64 (b : Int) (by omega) (by omega)
  have hc2 : ∀ W : World, Sem.run Try.prog (Instr.slice 9 (.string s) none (some (.int .i64 (b : Int))) none) W = .ok (.string (s.extract 0 b)) W := fun W =>
    run_slice_string_h W 9 s Try.underlying9 .i64 (b : Int) (by omega) (by omega)
  have hadd := fun W => run_string_add_sum (P := Try.prog) W (s.extract b s.size) (s.extract 0 b) (by rw [ByteArray.size_extract, ByteArray.size_extract]; omega)
  have HT : Hid (s.extract b s.size ++ s.extract 0 b = turnS s b) := hid rfl
  generalize s.extract b s.size ++ s.extract 0 b = t at hadd HT
  generalize s.extract b s.size = u at hc1 hadd
  generalize s.extract 0 b = v at hc2 hadd
  clear H1 hl
  go_wp2
  go_quiet (fail)
  go_wp2
  go_ret2
  exact ⟨b, by rw [← HT.out]; rfl, HL.out, by first | exact ⟨_, rfl⟩ | (simp only [World.drewN_drewN]; exact ⟨_, rfl⟩)⟩

theorem same_long_a (a b : ByteArray) (w : World) (h : 24 < a.size) (hs : a.size ≤ maxLen) :
    Calls Try.prog 12 #[.string a, .string b] w fun e w' => e = .returned (.tuple #[.bool false, .iface 41 (.int .i64 4)]) ∧ w' = w := by
  have H1 := fun W => hid (small_long a W h hs)
  clear hs
  go_enter Try.func12, Try.ntmps12
  go_wp2_with fail
  refine (H1 _).out.mono ?_
  rintro e w1 ⟨rfl, hw1⟩
  subst w1
  go_wp2
  go_ret2
  exact ⟨rfl, rfl⟩
theorem same_long_b (a b : ByteArray) (w : World) (ha : a.size ≤ 24) (h : 24 < b.size) (hs : b.size ≤ maxLen) :
    Calls Try.prog 12 #[.string a, .string b] w fun e w' => e = .returned (.tuple #[.bool false, .iface 41 (.int .i64 4)]) ∧ ∃ q, w' = w.drewN q := by
  have H1 := fun W => hid (small_any a W ha)
  have H2 := fun W => hid (small_long b W h hs)
  clear hs
  go_enter Try.func12, Try.ntmps12
  go_wp2_with fail
  refine (H1 _).out.mono ?_
  rintro e w1 ⟨x, rfl, _, q, hw1⟩
  have HW := hid hw1
  clear hw1 H1
  generalize turnS a x = t
  go_wp2_with fail
  refine (H2 _).out.mono ?_
  rintro e w2 ⟨rfl, hw2⟩
  subst w2
  go_wp2
  go_ret2
  exact ⟨rfl, q, HW.out⟩
/-- Are two texts rotations of each other? -/
def SameR (a b : ByteArray) : Prop := a = b ∨ ∃ i, i < a.size ∧ turnS a i = b
set_option maxHeartbeats 400000 in
theorem same_any (a b : ByteArray) (w : World) (ha : a.size ≤ 24) (hb : b.size ≤ 24) :
    Calls Try.prog 12 #[.string a, .string b] w fun e w' => ∃ r : Bool, e = .returned (.tuple #[.bool r, .nilIface]) ∧ (r = true ↔ SameR a b) ∧ ∃ q, w' = w.drewN q := by
  have H1 := fun W => hid (small_any a W ha)
  have H2 := fun W => hid (small_any b W hb)
  go_enter Try.func12, Try.ntmps12
  go_wp2_with fail
  refine (H1 _).out.mono ?_
  rintro e w1 ⟨x, rfl, hx, q, hw1⟩
  have HW := hid hw1
  have HX := hid hx
  clear hw1 H1 hx
  obtain ⟨t, ht⟩ : ∃ t, t = turnS a x := ⟨_, rfl⟩
  rw [← ht]
  have HT := hid ht
  clear ht
  go_wp2_with fail
  refine (H2 _).out.mono ?_
  rintro e w2 ⟨y, rfl, hy, q2, hw2⟩
  have HV : Hid (∃ q, w2 = w.drewN q) := hid (by rw [hw2, HW.out]; exact ⟨_, World.drewN_drewN _ _ _⟩)
  have HI := hid (same_iff HX.out hy)
  rw [← HT.out] at HI
  clear hw2 H2 hy HX HW HT
  generalize turnS b y = u at HI ⊢
  by_cases he : t = u
  · have hq := same_yes he
    have HR : Hid (SameR a b) := hid (HI.out.1 he)
    clear he HI
    go_wp2
    go_ret2
    exact ⟨true, rfl, ⟨fun _ => HR.out, fun _ => rfl⟩, HV.out⟩
  · have hq := same_no he
    have HR : Hid (¬ SameR a b) := hid (fun hs => he (HI.out.2 hs))
    clear he HI
    go_wp2
    go_ret2
    exact ⟨false, rfl, ⟨fun h => (by cases h), fun h => absurd h HR.out⟩, HV.out⟩
end Go.Proofs.Ytldhcmoecmfigaa
