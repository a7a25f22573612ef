/-
  Contract of letterbeckref2.better: the longer one of two texts, of the same length the least. Conditions: texts of at most 24 bytes.
-/
import Derived.Test.YtaodocdddfkglaaDoorBef
import Derived.Test.YtaodocdddfkglaaDoorLcs
namespace Go.Proofs.YtaodocdddfkglaaDoor
open Go.RowKit

theorem better_any (s t : ByteArray) (w : World) (hs : s.size ≤ 24) :
    Calls Tryd.prog 11 #[.string s, .string t] w fun e w' => e = .returned (.string (txt (betL (bs s) (bs t)))) ∧ ∃ q, w' = w.drewN q := by
  rw [← betL_swap, bs_len, bs_len]
  by_cases h1 : t.size < s.size
  · rw [if_pos (.inl h1), txt_bs]
    go_enter Tryd.func11, Tryd.ntmps11
    go_wp2_with fail
    go_ret
    exact ⟨rfl, 0, rfl⟩
  · have d1 : decide (t.size < s.size) = false := decide_eq_false h1
    by_cases h2 : s.size = t.size
    · have d2 : ((s.size : Int) == (t.size : Int)) = true := beq_iff_eq.2 (by omega)
      have HB := fun W => hid (before_any s t W (by omega) (by omega))
      by_cases h3 : bs s < bs t
      · rw [if_pos (.inr ⟨h2.symm, h3⟩), txt_bs]
        have hbf : befB s t = true := befB_yes h3
        rw [hbf] at HB
        clear h1 h2 h3 hbf
        go_enter Tryd.func11, Tryd.ntmps11
        go_wp2_with fail
        refine (HB _).out.mono ?_
        rintro e w1 ⟨rfl, hw⟩
        have HW := hid hw
        clear hw HB
        go_wp2_with fail
        go_ret
        exact ⟨rfl, HW.out⟩
      · rw [if_neg (fun h => h.elim h1 fun h => h3 h.2), txt_bs]
        have hbf : befB s t = false := befB_no h3
        rw [hbf] at HB
        clear h1 h2 h3 hbf
        go_enter Tryd.func11, Tryd.ntmps11
        go_wp2_with fail
        refine (HB _).out.mono ?_
        rintro e w1 ⟨rfl, hw⟩
        have HW := hid hw
        clear hw HB
        go_wp2_with fail
        go_ret
        exact ⟨rfl, HW.out⟩
    · rw [if_neg (fun h => h.elim h1 fun h => h2 h.1.symm), txt_bs]
      have d2 : ((s.size : Int) == (t.size : Int)) = false := beq_eq_false_iff_ne.2 (by omega)
      go_enter Tryd.func11, Tryd.ntmps11
      go_wp2_with fail
      go_ret
      exact ⟨rfl, 0, rfl⟩
end Go.Proofs.YtaodocdddfkglaaDoor
