/-
  Contracts of letterbeckref1.Begins and letterbeckref1.Stands: whether a text begins with another one, and all places of a word in a text. Conditions: texts of at most 2^40 bytes.
-/
import Derived.Test.YtdlekgockdahfaaDoorBase
import Derived.Test.YtdlekgockdahfaaDoorOcc
import Derived.Test.YtdlekgockdahfaaDoorStr
namespace Go.Proofs.YtdlekgockdahfaaDoor
open Go.RowKit

/-- Does s begin with t? -/
def begB (s t : ByteArray) : Bool := ocB (sg s) (sg t) s.size t.size 0
theorem beg_text (s t : ByteArray) (h : t.size ≤ s.size) : s.extract 0 t.size = t ↔ Oc (sg s) (sg t) s.size t.size 0 := by
  have h1 : (s.extract 0 t.size).size = t.size := by rw [ByteArray.size_extract]; omega
  constructor
  · intro e
    refine ⟨by omega, fun j hj => ?_⟩
    have : sg (s.extract 0 t.size) j = sg t j := by rw [e]
    rw [sg_cut s 0 t.size j h (by omega)] at this
    exact this.symm
  · intro ho
    refine text_eq _ _ h1 fun i hi => ?_
    rw [sg_cut s 0 t.size i h (by omega)]
    exact (ho.2 i (by omega)).symm
theorem beg_cut (s t : ByteArray) (i : Nat) (h : i ≤ s.size) : begB (s.extract i s.size) t = ocB (sg s) (sg t) s.size t.size i := by
  have e : (s.extract i s.size).size = s.size - i := by rw [ByteArray.size_extract]; omega
  unfold begB
  rw [Bool.eq_iff_iff, ocB_iff, ocB_iff, e]
  constructor
  · intro ho
    have h1 := ho.1
    refine ⟨by omega, fun j hj => ?_⟩
    rw [ho.2 j hj, sg_cut s i s.size _ (Nat.le_refl _) (by omega)]; congr 1; omega
  · intro ho
    have h1 := ho.1
    refine ⟨by omega, fun j hj => ?_⟩
    rw [ho.2 j hj, sg_cut s i s.size _ (Nat.le_refl _) (by omega)]; congr 1; omega

set_option maxHeartbeats 400000 in
theorem begins_any (s t : ByteArray) (w : World) (_hs : s.size ≤ 1099511627776) (ht : t.size ≤ 1099511627776) :
    Calls Tryd.prog 12 #[.string s, .string t] w fun e w' => e = .returned (.bool (begB s t)) ∧ w' = w := by
  by_cases h : t.size ≤ s.size
  · have hcut : ∀ W : World, Sem.run Tryd.prog (Instr.slice 9 (.string s) none (some (.int .i64 (t.size : Int))) none) W = .ok (.string (s.extract 0 t.size)) W := fun W =>
      run_slice_string_h W 9 s Tryd.underlying9 .i64 (t.size : Int) (by omega) (by omega)
    have hd : decide (t.size ≤ s.size) = true := by simpa using h
    by_cases e : s.extract 0 t.size = t
    · have HR : Hid (begB s t = true) := hid (ocB_iff.2 ((beg_text s t h).1 e))
      have hq := same_yes e
      clear e
      generalize s.extract 0 t.size = s1 at hcut hq
      go_enter Tryd.func12, Tryd.ntmps12
      go_wp2
      go_ret
      exact ⟨ret_bool HR.out.symm, rfl⟩
    · have HR : Hid (begB s t = false) := hid (ocB_no fun ho => e ((beg_text s t h).2 ho))
      have hq := same_no e
      clear e
      generalize s.extract 0 t.size = s1 at hcut hq
      go_enter Tryd.func12, Tryd.ntmps12
      go_wp2
      go_ret
      exact ⟨ret_bool HR.out.symm, rfl⟩
  · have HR : Hid (begB s t = false) := hid (ocB_no fun ho => by have := ho.1; omega)
    have hd : decide (t.size ≤ s.size) = false := by simpa using h
    go_enter Tryd.func12, Tryd.ntmps12
    go_wp2
    go_ret
    exact ⟨ret_bool HR.out.symm, rfl⟩

set_option maxHeartbeats 800000 in
theorem stands_any (t u : ByteArray) (w : World) (ht : t.size ≤ 1099511627776) (hu : u.size ≤ 1099511627776) :
    Calls Tryd.prog 7 #[.string t, .string u] w fun e w' => ∃ v, e = .returned v ∧ OwnI w' w.heap.size 3 v (occL t u) ∧ Below w.heap.size w w' := by
  obtain ⟨i0, hi, hz0, hz1, hz2⟩ := info_parts int_info
  go_enter Tryd.func7, Tryd.ntmps7
  go_wp2
  go_loopw [5, 6] (fun v x wr => ∃ k : Nat, k ≤ t.size ∧ x = .int .i64 k ∧ OwnI wr w.heap.size 3 v (occTo (sg t) (sg u) t.size u.size k) ∧ Below w.heap.size w wr) (fun _ x _ => t.size - (intOf x).toNat)
  case atStart => exact ⟨0, by omega, rfl, OwnI.nil _ _ _, Below.refl _ _⟩
  case round =>
    obtain ⟨k, hk, rfl, hown, hb⟩ := hrel
    have hsz := hb.size
    by_cases hlt : k < t.size
    · have hlen := occTo_len (sg t) (sg u) t.size u.size k
      have hcs : (t.extract k t.size).size ≤ 1099511627776 := by rw [ByteArray.size_extract]; omega
      have HR := fun w => hid (begins_any (t.extract k t.size) u w hcs hu)
      rw [beg_cut t u k (by omega)] at HR
      have hcut : ∀ W : World, Sem.run Tryd.prog (Instr.slice 9 (.string t) (some (.int .i64 (k : Int))) none none) W = .ok (.string (t.extract k t.size)) W := fun W =>
        run_slice_string_l W 9 t Tryd.underlying9 .i64 (k : Int) (by omega) (by omega)
      generalize t.extract k t.size = s1 at HR hcut
      clear hcs
      by_cases ho : Oc (sg t) (sg u) t.size u.size k
      · rw [ocB_iff.2 ho] at HR
        have HE := hid (occTo_yes ho)
        generalize occTo (sg t) (sg u) t.size u.size k = cs at hown HE hlen
        clear ho
        go_wp2_with fail
        refine (HR _).out.mono ?_
        rintro e w2 ⟨rfl, rfl⟩
        clear hcut HR
        go_wp2_with (at_builtin; refine wpList_append_int _ rfl (.tmp 18) (.tmp 20) 27 rfl w.heap.size 3 i0 Tryd.underlying27 hi hz0 hz1 hz2 _ cs rfl hown (k : Int) rfl (by omega) (by omega) ?_)
        intro v' w3 hown3 hb3
        go_wp2
        go_roundw
        case rel => exact ⟨k + 1, by omega, by go_num, by rw [HE.out]; exact hown3, hb.trans hb3⟩
        case measure => simp [intOf]; omega
      · rw [ocB_no ho] at HR
        have HE := hid (occTo_no ho)
        generalize occTo (sg t) (sg u) t.size u.size k = cs at hown HE hlen
        clear ho
        go_wp2_with fail
        refine (HR _).out.mono ?_
        rintro e w2 ⟨rfl, rfl⟩
        clear hcut HR
        go_wp2
        go_roundw
        case rel => exact ⟨k + 1, by omega, by go_num, by rw [HE.out]; exact hown, hb⟩
        case measure => simp [intOf]; omega
    · have he : occTo (sg t) (sg u) t.size u.size k = occL t u := by rw [show k = t.size by omega]; rfl
      rw [he] at hown
      clear he
      go_wp2
      go_ret
      exact ⟨_, rfl, hown, hb⟩
end Go.Proofs.YtdlekgockdahfaaDoor
