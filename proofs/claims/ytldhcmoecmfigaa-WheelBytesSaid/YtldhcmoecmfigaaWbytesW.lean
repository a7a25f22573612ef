/-
  The walk of WheelBytes: it returns true at every text of a length that a row may have. No other condition.
-/
import Derived.Test.YtldhcmoecmfigaaWfact
import Derived.Test.YtldhcmoecmfigaaStands
import Derived.Test.YtldhcmoecmfigaaOn
import Derived.Deep.RegionWith
namespace Go.Proofs.Ytldhcmoecmfigaa
open Go.RowKit

/-- A sign stands as often as it is counted. -/
theorem occ_count (t u : ByteArray) (hu : u.size = 1) : (occL t u).length = (bs t).countP (fun c => c == sg u 0) := by
  have e : bs t = (List.range t.size).map (sg t) := by
    apply List.ext_getElem
    · simp [bs_len]
    · intro i h1 h2
      rw [bs_len] at h1
      simp only [List.getElem_map, List.getElem_range]
      rw [← bs_sg, getD_at _ (by rw [bs_len]; exact h1)]
  rw [e, List.countP_map]
  unfold occL occTo occN
  rw [List.length_map, ← List.countP_eq_length_filter]
  refine List.countP_congr fun i hi => ?_
  have hi' := List.mem_range.1 hi
  rw [hu]
  simp only [ocB, Function.comp, List.range_succ, List.range_zero]
  simp
  constructor
  · rintro ⟨_, h⟩; exact h.symm
  · intro h; exact ⟨by omega, h.symm⟩
theorem occ_same (s u : ByteArray) (hu : u.size = 1) : (occL (txt (wheelT (bs s))) u).length = (occL s u).length := by
  rw [occ_count _ _ hu, occ_count _ _ hu, bs_txt]
  exact (wheelT_perm (bs s)).countP_eq _

set_option maxHeartbeats 1600000 in
set_option maxRecDepth 100000 in
theorem wheelBytes_any (s : ByteArray) (w : World) (hs : s.size ≤ maxLen) :
    Calls Try.prog 5 #[.string s] w fun e w' => e = .returned (.bool true) ∧ Below w.heap.size w w' := by
  have HF := fun W => hid (wfact_any W)
  by_cases h : s.size ≤ 24
  · have H1 := fun W => hid (there_any s W h)
    have hsl : (bs s).length ≤ 24 := by rw [bs_len]; exact h
    have hn1 : wheelN (bs s) ≤ 24 := Nat.le_trans (wheelN_le _) hsl
    have hts : (txt (wheelT (bs s))).size = s.size := by rw [txt_size, wheelT_len, bs_len]
    have HO := hid (occ_same s)
    generalize wheelN (bs s) = n1 at H1 hn1
    generalize txt (wheelT (bs s)) = t at H1 hts HO
    have hd : ((t.size : Int) != (s.size : Int)) = false := by simp [hts]
    have ht : t.size ≤ 24 := by omega
    clear hsl hs hts
    go_enter Try.func5, Try.ntmps5
    go_wp2_with fail
    refine (HF _).out.mono ?_
    rintro e w1 ⟨rfl, hb1⟩
    go_wp2_with fail
    refine (H1 _).out.mono ?_
    rintro e w2 ⟨rfl, hb2⟩
    have hbB := hb1.trans (hb2.mono hb1.size)
    clear hb1 hb2 HF H1
    go_wp2_with fail
    go_loopw [7] (fun x wr => ∃ i : Nat, i ≤ s.size ∧ x = .int .i64 i ∧ Below w.heap.size w wr) (fun x _ => s.size - (intOf x).toNat)
    case atStart => exact ⟨0, by omega, rfl, hbB⟩
    case round =>
      obtain ⟨i, hi, rfl, hbr⟩ := hrel
      by_cases hlt : i < s.size
      · have hcut : ∀ W : World, Sem.run Try.prog (Instr.slice 9 (.string s) (some (.int .i64 (i : Int))) (some (.int .i64 ((i : Int) + 1))) none) W = .ok (.string (s.extract i (i + 1))) W := fun W =>
          run_slice_string W 9 s .i64 .i64 (i : Int) ((i : Int) + 1) Try.underlying9 (by omega) (by omega) (by omega)
        have hwr : IntKind.i64.wrap ((i : Int) + 1) = (i : Int) + 1 := IntWalk.i64_in _ (by omega)
        have hus : (s.extract i (i + 1)).size = 1 := by rw [ByteArray.size_extract]; omega
        generalize s.extract i (i + 1) = u at hcut hus
        obtain ⟨n, hn⟩ : ∃ n, (occL s u).length = n := ⟨_, rfl⟩
        have hn2 : (occL t u).length = n := by rw [HO.out u hus]; exact hn
        have hn24 : n ≤ 24 := by have := occL_len s u; omega
        have H6 : Hid (∀ (z : ByteArray) (W : World), z = s ∨ z = t → Calls Try.prog 13 #[.string z, .string u] W fun e w' => ∃ A c, e = .returned (.slice A n c) ∧ (Below w.heap.size w W → Below w.heap.size w w')) := hid fun z W hz => by
          have hz24 : z.size ≤ 24 := by rcases hz with rfl | rfl <;> assumption
          have hzn : (occL z u).length = n := by rcases hz with rfl | rfl <;> assumption
          refine (stands_any z u W (by omega) (by omega)).mono ?_
          rintro e w' ⟨v, rfl, ho, hb⟩
          obtain ⟨A, c, rfl, _⟩ := own_n ho hzn
          exact ⟨A, c, rfl, fun h => h.trans (hb.mono h.size)⟩
        clear hn hn2
        go_wp2_with fail
        go_region_with (go_at_call 13; refine (H6.out _ _ (by first | exact .inl rfl | exact .inr rfl)).mono ?_; rintro e w6 ⟨A6, c6, rfl, hb6⟩; have hbz := hb6 (by first | exact hbz | exact below_drewN hbr 1); clear hb6)
        all_goals (
          go_wp2_with fail
          go_roundw
          case rel => exact ⟨i + 1, by omega, by go_num, hbz⟩
          case measure => simp [intOf]; omega)
      · go_wp2_with fail
        go_ret
        exact ⟨rfl, hbr⟩
  · have H1 := fun W => hid (there_long s W (by omega) hs)
    clear hs
    go_enter Try.func5, Try.ntmps5
    go_wp2_with fail
    refine (HF _).out.mono ?_
    rintro e w1 ⟨rfl, hb1⟩
    go_wp2_with fail
    refine (H1 _).out.mono ?_
    rintro e w2 ⟨rfl, hw2⟩
    subst w2
    go_wp2_with fail
    go_ret
    exact ⟨rfl, hb1⟩
end Go.Proofs.Ytldhcmoecmfigaa
