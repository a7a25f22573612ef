/-
  Contract of skip.First: the first place of a word and how often it was laid. Conditions: none but the sizes that a row itself sets.
-/
import Derived.Test.YtdkbgikniacekaaLeaps
import Derived.Test.YtdkbgikniacekaaCheck
namespace Go.Proofs.Ytdkbgikniacekaa
open Go.RowKit Go.Maps

theorem first_bad (t u : ByteArray) (k : Int) (w : World) (h : BadW t u k) (ht : t.size ≤ maxLen) (hu : u.size ≤ maxLen) :
    Calls Try.prog 34 #[.string t, .string u] w fun e w' => e = .returned (.tuple #[.int .i64 0, .int .i64 0, .iface 49 (.int .i64 k)]) ∧ w' = w := by
  have HQ := hid (check_bad t u k w h ht hu)
  clear h
  unfold maxLen at ht hu
  go_enter Try.func34, Try.ntmps34
  go_wp2_with fail
  refine HQ.out.mono ?_
  rintro e w' ⟨rfl, rfl⟩
  go_wp2
  go_ret3
  exact ⟨rfl, rfl⟩

/-- A part of the text is the word just where the word stands there. -/
theorem cut_is (t u : ByteArray) (i : Nat) (h : i + u.size ≤ t.size) : t.extract i (i + u.size) = u ↔ Oc (sg t) (sg u) t.size u.size i := by
  have h1 : (t.extract i (i + u.size)).size = u.size := by rw [ByteArray.size_extract]; omega
  constructor
  · intro e
    refine ⟨h, fun j hj => ?_⟩
    have : sg (t.extract i (i + u.size)) j = sg u j := by rw [e]
    rw [sg_cut t i (i + u.size) j h (by omega)] at this
    exact this.symm
  · intro ho
    refine text_eq _ _ h1 fun j hj => ?_
    rw [sg_cut t i (i + u.size) j h (by omega)]
    exact (ho.2 j (by omega)).symm

set_option maxRecDepth 100000 in
set_option maxHeartbeats 800000 in
theorem first_any (t u : ByteArray) (w : World) (h1 : t.size ≤ 24) (h2 : u.size ≤ 24) (h0 : 0 < u.size) :
    Calls Try.prog 34 #[.string t, .string u] w fun e w' => ∃ (a : Int) (k : Nat), e = .returned (.tuple #[.int .i64 a, .int .i64 k, .nilIface]) ∧ Fst (sg t) (sg u) t.size u.size a k ∧ Below w.heap.size w w' := by
  have HQ := fun w => hid (check_ok t u w h1 h2 h0)
  have HL := fun w => hid (leaps_any u w h2 h0)
  go_enter Try.func34, Try.ntmps34
  go_wp2_with fail
  refine (HQ _).out.mono ?_
  rintro e w' ⟨rfl, rfl⟩
  go_wp2_with fail
  refine (HL _).out.mono ?_
  rintro e w1 ⟨v, rfl, ⟨Bd, Bw, Bm, n, D, rfl, hc⟩, hb⟩
  have HF := fun (c : UInt8) q => hid (leap_fn u c Bd Bw Bm n D (w1.drewN q) ⟨hc.hd, hc.hw, hc.hm, hc.ht⟩ h2)
  clear hc HQ HL
  go_wp2
  go_loopw [4, 5] (fun x y wr => ∃ j q : Nat, x = .int .i64 (hop (sg t) (sg u) u.size j : Nat) ∧ y = .int .i64 j ∧ hop (sg t) (sg u) u.size j ≤ 48 ∧ j ≤ hop (sg t) (sg u) u.size j ∧ Hid (Lives (sg t) (sg u) t.size u.size j) ∧ wr = w1.drewN q) (fun x _ _ => t.size - (intOf x).toNat)
  case atStart => exact ⟨0, 0, rfl, rfl, by simp [hop], by simp, hid (lives_zero _ _ _ _), rfl⟩
  case round =>
    obtain ⟨j, q, rfl, rfl, hj, hjp, HV, rfl⟩ := hrel
    have HS := hid (hop_succ (sg t) (sg u) u.size j)
    have HO := fun h => hid (fst_hit (j := j) HV.out h)
    have HN := fun h => hid (fst_out (j := j) HV.out h)
    have HL := fun h => hid (lives_succ (j := j) HV.out h)
    have hLv := Iff.refl (Live (sg t) (sg u) t.size u.size j)
    conv at hLv => rhs; unfold Live
    have HC := fun h => hid (cut_is t u (hop (sg t) (sg u) u.size j) h)
    generalize hop (sg t) (sg u) u.size j = p at *
    by_cases hin : p + u.size ≤ t.size
    · have HC := (HC hin).out
      have hd : (p : Int) + u.size ≤ (t.size : Int) := by omega
      have hcut : ∀ W : World, Sem.run Try.prog (Instr.slice 9 (.string t) (some (.int .i64 (p : Int))) (some (.int .i64 ((p : Int) + u.size))) none) W = .ok (.string (t.extract p (p + u.size))) W := fun W => by
        have h := run_slice_string (P := Try.prog) W 9 t .i64 .i64 (p : Int) ((p : Int) + u.size) Try.underlying9 (by omega) (by omega) (by omega)
        rwa [show ((p : Int)).toNat = p by omega, show ((p : Int) + u.size).toNat = p + u.size by omega] at h
      by_cases ho : Oc (sg t) (sg u) t.size u.size p
      · have HO := HO ho
        have hq := same_yes (HC.2 ho)
        clear HC HN HL hLv HS ho HF
        generalize t.extract p (p + u.size) = s1 at hcut hq
        go_wp2
        go_ret3
        exact ⟨_, _, rfl, HO.out, below_drewN hb _⟩
      · have HL := HL (hLv.2 ⟨hin, ho⟩)
        have hq := same_no fun e => ho (HC.1 e)
        have hpp := lp_pos (g := sg u) (c := sg t (p + u.size - 1)) h0
        have hpl := lp_le (sg u) u.size (sg t (p + u.size - 1))
        have hix : p + u.size - 1 < t.size := by omega
        have e1 : ((p : Int) + u.size - 1).toNat = p + u.size - 1 := by omega
        have e2 : 0 ≤ (p : Int) + u.size - 1 := by omega
        have e3 : (p : Int) + u.size - 1 < (t.size : Int) := by omega
        have HF := HF (sg t (p + u.size - 1)) q
        rw [sg_eq t _ hix] at HF HS hpp hpl
        clear HC HN HO hLv ho
        generalize t.extract p (p + u.size) = s1 at hcut hq
        go_wp2_with fail
        refine HF.out.mono ?_
        rintro e w2 ⟨rfl, rfl⟩
        generalize lp (sg u) u.size t[p + u.size - 1] = d at *
        go_wp2
        go_roundw
        case rel => exact ⟨j + 1, _, by rw [HS.out]; go_num, by go_num, by rw [HS.out]; omega, by rw [HS.out]; omega, HL, rfl⟩
        case measure => simp [intOf]; omega
    · have HN := HN (by omega)
      have hd : ¬ ((p : Int) + u.size ≤ (t.size : Int)) := by omega
      clear HC HO HL hLv HS HF
      go_wp2
      go_ret3
      exact ⟨_, _, rfl, HN.out, below_drewN hb _⟩
end Go.Proofs.Ytdkbgikniacekaa
