/-
  Contracts of letterbeckref1.Leap and letterbeckref1.First: the leap of a byte; where a word is first found and how often it was laid. Conditions: a word of 1 to 24 bytes, a text of at most 24.
-/
import Derived.Test.YtllgmmdpbnfgjaaDoorBegins
import Derived.Test.YtllgmmdpbnfgjaaDoorHop
import Derived.Test.YtllgmmdpbnfgjaaDoorCheck
namespace Go.Proofs.YtllgmmdpbnfgjaaDoor
open Go.RowKit

set_option maxHeartbeats 400000 in
theorem rleap_any (u : ByteArray) (c : UInt8) (w : World) (h2 : u.size ≤ 24) (h0 : 0 < u.size) :
    Calls Tryd.prog 5 #[.string u, .int .u8 (c.toNat : Int)] w fun e w' => e = .returned (.int .i64 (lp (sg u) u.size c : Nat)) ∧ ∃ q, w' = w.drewN q := by
  go_enter Tryd.func5, Tryd.ntmps5
  go_wp2
  go_loopw [5] (fun x wr => ∃ k q : Nat, 1 ≤ k ∧ k ≤ u.size ∧ x = .int .i64 k ∧ Hid (∀ d, 1 ≤ d → d < k → sg u (u.size - 1 - d) ≠ c) ∧ wr = w.drewN q) (fun x _ => u.size - (intOf x).toNat)
  case atStart => exact ⟨1, 0, by omega, by omega, rfl, hid (fun d h1 h2 => by omega), rfl⟩
  case round =>
    obtain ⟨k, q, hk1, hk2, rfl, HK, rfl⟩ := hrel
    by_cases hlt : k < u.size
    · have hix : u.size - 1 - k < u.size := by omega
      have e1 : ((u.size : Int) - 1 - k).toNat = u.size - 1 - k := by omega
      have e2 : 0 ≤ (u.size : Int) - 1 - k := by omega
      have e3 : (u.size : Int) - 1 - k < u.size := by omega
      by_cases he : sg u (u.size - 1 - k) = c
      · have HE := hid (lp_eq hk1 hlt HK.out he)
        obtain ⟨hq, _⟩ := byteC_eq u _ c hix he
        clear he HK
        go_wp2
        go_ret
        exact ⟨ret_int (by rw [HE.out]), _, rfl⟩
      · have HN : Hid (∀ d, 1 ≤ d → d < k + 1 → sg u (u.size - 1 - d) ≠ c) := hid (fun d h1 h2 => by
          by_cases e : d = k
          · subst e; exact he
          · exact HK.out d h1 (by omega))
        obtain ⟨hq, _⟩ := byteC_ne u _ c hix he
        clear he HK
        go_wp2
        go_roundw
        case rel => exact ⟨k + 1, _, by omega, by omega, by go_num, HN, by first | rfl | (simp only [World.drewN_drewN]; rfl)⟩
        case measure => simp [intOf]; omega
    · have HE := hid (lp_far (fun d h1 h2 => HK.out d h1 (by omega)) h0)
      clear HK
      go_wp2
      go_ret
      exact ⟨ret_int (by rw [HE.out]), _, rfl⟩

set_option maxHeartbeats 800000 in
theorem rfirst_any (t u : ByteArray) (w : World) (h1 : t.size ≤ 24) (h2 : u.size ≤ 24) (h0 : 0 < u.size) :
    Calls Tryd.prog 8 #[.string t, .string u] w fun e w' => ∃ (a : Int) (k : Nat), e = .returned (.tuple #[.int .i64 a, .int .i64 k]) ∧ Fst (sg t) (sg u) t.size u.size a k ∧ ∃ q, w' = w.drewN q := by
  have HF := fun (c : UInt8) w => hid (rleap_any u c w h2 h0)
  go_enter Tryd.func8, Tryd.ntmps8
  go_wp2
  go_loopw [6, 7] (fun x y wr => ∃ j q : Nat, x = .int .i64 (hop (sg t) (sg u) u.size j : Nat) ∧ y = .int .i64 j ∧ hop (sg t) (sg u) u.size j ≤ 48 ∧ j ≤ hop (sg t) (sg u) u.size j ∧ Hid (Lives (sg t) (sg u) t.size u.size j) ∧ wr = w.drewN q) (fun x _ _ => t.size - (intOf x).toNat)
  case atStart => exact ⟨0, 0, rfl, rfl, by simp [hop], by simp, hid (lives_zero _ _ _ _), rfl⟩
  case round =>
    obtain ⟨j, q, rfl, rfl, hj, hjp, HV, rfl⟩ := hrel
    have HS := hid (hop_succ (sg t) (sg u) u.size j)
    have HO := fun h => hid (fst_hit (j := j) HV.out h)
    have HN := fun h => hid (fst_out (j := j) HV.out h)
    have HL := fun h => hid (lives_succ (j := j) HV.out h)
    have hLv := Iff.refl (Live (sg t) (sg u) t.size u.size j)
    conv at hLv => rhs; unfold Live
    generalize hop (sg t) (sg u) u.size j = p at *
    by_cases hin : p + u.size ≤ t.size
    · have hd : (p : Int) + u.size ≤ (t.size : Int) := by omega
      have hcs : (t.extract p t.size).size ≤ 1099511627776 := by rw [ByteArray.size_extract]; omega
      have HR := fun w => hid (begins_any (t.extract p t.size) u w hcs (by omega))
      rw [beg_cut t u p (by omega)] at HR
      have hcut : ∀ W : World, Sem.run Tryd.prog (Instr.slice 9 (.string t) (some (.int .i64 (p : Int))) none none) W = .ok (.string (t.extract p t.size)) W := fun W =>
        run_slice_string_l W 9 t Tryd.underlying9 .i64 (p : Int) (by omega) (by omega)
      generalize t.extract p t.size = s1 at HR hcut
      clear hcs
      by_cases ho : Oc (sg t) (sg u) t.size u.size p
      · have HO := HO ho
        rw [ocB_iff.2 ho] at HR
        clear HN HL hLv HS ho HF
        go_wp2_with fail
        refine (HR _).out.mono ?_
        rintro e w2 ⟨rfl, rfl⟩
        go_wp2
        go_ret2
        exact ⟨_, _, rfl, HO.out, _, rfl⟩
      · have HL := HL (hLv.2 ⟨hin, ho⟩)
        rw [ocB_no ho] at HR
        have hpp := lp_pos (g := sg u) (c := sg t (p + u.size - 1)) h0
        have hpl := lp_le (sg u) u.size (sg t (p + u.size - 1))
        have hix : p + u.size - 1 < t.size := by omega
        have e1 : ((p : Int) + u.size - 1).toNat = p + u.size - 1 := by omega
        have e2 : 0 ≤ (p : Int) + u.size - 1 := by omega
        have e3 : (p : Int) + u.size - 1 < (t.size : Int) := by omega
        have HF := HF (sg t (p + u.size - 1))
        rw [sg_eq t _ hix] at HF HS hpp hpl
        clear HN HO hLv ho
        go_wp2_with fail
        refine (HR _).out.mono ?_
        rintro e w2 ⟨rfl, rfl⟩
        go_wp2_with fail
        refine (HF _).out.mono ?_
        rintro e w2 ⟨rfl, q2, rfl⟩
        generalize lp (sg u) u.size t[p + u.size - 1] = d at *
        go_wp2
        go_roundw
        case rel => exact ⟨j + 1, _, by rw [HS.out]; go_num, by go_num, by rw [HS.out]; omega, by rw [HS.out]; omega, HL, by first | rfl | (simp only [World.drewN_drewN]; rfl)⟩
        case measure => simp [intOf]; omega
    · have HN := HN (by omega)
      have hd : ¬ ((p : Int) + u.size ≤ (t.size : Int)) := by omega
      clear HO HL hLv HS HF
      go_wp2
      go_ret2
      exact ⟨_, _, rfl, HN.out, _, rfl⟩
end Go.Proofs.YtllgmmdpbnfgjaaDoor
