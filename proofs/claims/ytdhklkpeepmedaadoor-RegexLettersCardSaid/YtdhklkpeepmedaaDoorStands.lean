/-
  Contract of letterbeckref1.Stands: all places of a word in a text. Conditions: texts of at most 2^40 bytes.
-/
import Derived.Test.YtdhklkpeepmedaaDoorBegins
namespace Go.Proofs.YtdhklkpeepmedaaDoor
open Go.RowKit

set_option maxHeartbeats 800000 in
theorem stands_any (t u : ByteArray) (w : World) (ht : t.size ≤ 1099511627776) (hu : u.size ≤ 1099511627776) :
    Calls Tryd.prog 16 #[.string t, .string u] w fun e w' => ∃ v, e = .returned v ∧ OwnI w' w.heap.size 3 v (occL t u) ∧ Below w.heap.size w w' := by
  obtain ⟨i0, hi, hz0, hz1, hz2⟩ := info_parts int_info
  go_enter Tryd.func16, Tryd.ntmps16
  go_wp2
  go_loopw [5, 6] (fun v x wr => ∃ k : Nat, k ≤ t.size ∧ x = .int .i64 k ∧ OwnI wr w.heap.size 3 v (occTo (sg t) (sg u) t.size u.size k) ∧ Below w.heap.size w wr) (fun _ x _ => t.size - (intOf x).toNat)
  case atStart => exact ⟨0, by omega, rfl, OwnI.nil _ _ _, Below.refl _ _⟩
  case round =>
    obtain ⟨k, hk, rfl, hown, hb⟩ := hrel
    have hsz := hb.size
    by_cases hlt : k < t.size
    · have hlen := occTo_len (sg t) (sg u) t.size u.size k
      have hcs : (t.extract k t.size).size ≤ 1099511627776 := by rw [ByteArray.size_extract]; omega
      have HR := fun w => hid (begins_any (t.extract k t.size) u w hcs hu)
      rw [beg_cut t u k (by omega)] at HR
      have hcut : ∀ W : World, Sem.run Tryd.prog (Instr.slice 9 (.string t) (some (.int .i64 (k : Int))) none none) W = .ok (.string (t.extract k t.size)) W := fun W =>
        run_slice_string_l W 9 t Tryd.underlying9 .i64 (k : Int) (by omega) (by omega)
      generalize t.extract k t.size = s1 at HR hcut
      clear hcs
      by_cases ho : Oc (sg t) (sg u) t.size u.size k
      · rw [ocB_iff.2 ho] at HR
        have HE := hid (occTo_yes ho)
        generalize occTo (sg t) (sg u) t.size u.size k = cs at hown HE hlen
        clear ho
        go_wp2_with fail
        refine (HR _).out.mono ?_
        rintro e w2 ⟨rfl, rfl⟩
        clear hcut HR
        go_wp2_with (at_builtin; refine wpList_append_int _ rfl (.tmp 18) (.tmp 20) 40 rfl w.heap.size 3 i0 Tryd.underlying40 hi hz0 hz1 hz2 _ cs rfl hown (k : Int) rfl (by omega) (by omega) ?_)
        intro v' w3 hown3 hb3
        go_wp2
        go_roundw
        case rel => exact ⟨k + 1, by omega, by go_num, by rw [HE.out]; exact hown3, hb.trans hb3⟩
        case measure => simp [intOf]; omega
      · rw [ocB_no ho] at HR
        have HE := hid (occTo_no ho)
        generalize occTo (sg t) (sg u) t.size u.size k = cs at hown HE hlen
        clear ho
        go_wp2_with fail
        refine (HR _).out.mono ?_
        rintro e w2 ⟨rfl, rfl⟩
        clear hcut HR
        go_wp2
        go_roundw
        case rel => exact ⟨k + 1, by omega, by go_num, by rw [HE.out]; exact hown, hb⟩
        case measure => simp [intOf]; omega
    · have he : occTo (sg t) (sg u) t.size u.size k = occL t u := by rw [show k = t.size by omega]; rfl
      rw [he] at hown
      clear he
      go_wp2
      go_ret
      exact ⟨_, rfl, hown, hb⟩
end Go.Proofs.YtdhklkpeepmedaaDoor
