/-
  The walk of KraftCodes: it returns true at every list of numbers. Conditions: the row's own sizes; errors.errorType as the program's text lays it.
-/
import Derived.Test.YtlfncplldppncaaDoorKfact
import Derived.Test.YtlfncplldppncaaDoorErr
import Derived.Test.YtlfncplldppncaaDoorBegl
namespace Go.Proofs.YtlfncplldppncaaDoor
open Go.RowKit

theorem lenC_or (ys : List Int) : ∃ k, LenC ys k := by
  by_cases h : ys.length ≤ 10
  · by_cases h1 : InL 1 12 ys
    · exact ⟨0, .inr (.inr ⟨h, h1, rfl⟩)⟩
    · exact ⟨1, .inr (.inl ⟨h, h1, rfl⟩)⟩
  · exact ⟨4, .inl ⟨by omega, rfl⟩⟩
theorem lenC_good {ys : List Int} (h : LenC ys 0) : ys.length ≤ 10 ∧ nums (ys.map Int.toNat) = ys ∧ LenOk (ys.map Int.toNat) := by
  rcases h with ⟨_, h⟩ | ⟨_, _, h⟩ | ⟨h1, h2, _⟩
  · cases h
  · cases h
  · refine ⟨h1, ?_, ?_⟩
    · apply List.ext_getElem?
      intro j
      by_cases hj : j < ys.length
      · have := h2 j hj
        rw [List.getD_eq_getElem?_getD, List.getElem?_eq_getElem hj, Option.getD_some] at this
        simp [nums, hj]
        omega
      · simp [nums, hj]
    · intro j hj
      rw [List.length_map] at hj
      have := h2 j hj
      rw [List.getD_eq_getElem?_getD, List.getElem?_eq_getElem hj, Option.getD_some] at this
      simp [hj]
      omega
theorem code_sign {E : List Nat} {i : Nat} {k : Nat} (hk : k < (txt (codeL E i)).size) : (txt (codeL E i))[k] = 48 ∨ (txt (codeL E i))[k] = 49 := by
  have h1 := bs_get (txt (codeL E i)) k hk
  have := bits_bin (E.getD i 0) (cvN E i) ((txt (codeL E i))[k]) (by
    have h2 := List.mem_of_getElem? h1
    rwa [bs_txt] at h2)
  exact this

set_option maxHeartbeats 4000000 in
set_option maxRecDepth 100000 in
theorem kraftCodes_any (A : Option Addr) (n c : Nat) (ys : List Int) (w : World) (hl : IsInts w w.heap.size A n ys) (hg : Laid w) :
    Calls Tryd.prog 4 #[.slice A n c] w fun e w' => e = .returned (.bool true) ∧ Below w.heap.size w w' := by
  have hp := hg.pos
  have HF := fun W => hid (kfact_any W)
  have HL := fun (w1 : World) (h1 : Below w.heap.size w w1) => hid ((hl.below h1).keep (w' := w1) h1.size fun _ _ _ => rfl)
  have hn := hl.1
  clear hl
  go_enter Tryd.func4, Tryd.ntmps4
  go_wp2_with fail
  refine (HF _).out.mono ?_
  rintro e w1 ⟨rfl, hb1⟩
  clear HF
  obtain ⟨k, hk⟩ := lenC_or ys
  by_cases hk0 : k = 0
  rotate_left
  · have HR := hid (kroom_bad A n c ys k w1 (HL w1 hb1).out hk hk0)
    clear hk hk0 HL hn
    go_wp2_with fail
    refine HR.out.mono ?_
    rintro e w2 ⟨rfl, hb2⟩
    have hbB := hb1.trans (hb2.mono hb1.size)
    clear hb1 hb2 HR
    go_wp2_with fail
    go_ret
    exact ⟨rfl, hbB⟩
  subst hk0
  obtain ⟨h10, hE, hok⟩ := lenC_good hk
  have hEl : (ys.map Int.toNat).length = n := by rw [List.length_map]; exact hn
  generalize ys.map Int.toNat = E at hE hok hEl
  subst hE
  rw [nums_len] at h10 hn
  have h10n : n ≤ 10 := by omega
  have HR := hid (kroom_ok A n c E w1 (HL w1 hb1).out h10n hok)
  have HEl := hid hEl
  have HOk := hid hok
  clear hk hEl hn h10 hok
  go_wp2_with fail
  refine HR.out.mono ?_
  rintro e w2 ⟨rfl, hb2⟩
  have hbB := hb1.trans (hb2.mono hb1.size)
  clear hb1 hb2 HR
  by_cases hr : rm 12 E ≤ 4096
  rotate_left
  · have HC := hid (kcodes_clash A n c E w2 (HL w2 hbB).out h10n HOk.out (by omega))
    have r1 : 4096 < ((rm 12 E : Nat) : Int) := by omega
    generalize rm 12 E = R at r1 ⊢
    have hg2 := fun (W : World) (hW : Below w.heap.size w W) => hg.below hp hW
    clear hr HL
    go_wp2_with fail
    refine HC.out.mono ?_
    rintro e w3 ⟨rfl, hb3⟩
    have hbC := hbB.trans (hb3.mono hbB.size)
    have hg3 := hg2 w3 hbC
    clear hb3 HC hbB hg2
    go_wp2_with fail
    refine (error_err 6 _ hg3).mono ?_
    rintro e w4 ⟨rfl, hb4⟩
    have hbD := hbC.trans (hb4.mono hbC.size)
    clear hb4 hbC hg3
    go_wp2_with fail
    go_ret
    exact ⟨rfl, hbD⟩
  have HC := hid (kcodes_ok A n c E w2 (HL w2 hbB).out h10n HOk.out hr)
  have HPf := hid (codes_pfree HOk.out hr)
  have r1 : ¬ (4096 < ((rm 12 E : Nat) : Int)) := by omega
  generalize rm 12 E = R at r1 ⊢
  clear hr
  go_wp2_with fail
  refine HC.out.mono ?_
  rintro e w3 ⟨B, cB, rfl, hIB, hb3⟩
  have hbC := hbB.trans (hb3.mono hbB.size)
  have HIB := hid hIB
  have HIA := hid (HL w3 hbC).out
  have HT : Hid (∀ i, i < n → wat (codeT E) i = txt (codeL E i) ∧ (txt (codeL E i)).size = E.getD i 0 ∧ E.getD i 0 ≤ 12) := hid (fun i hi => ⟨codeT_at (by rw [HEl.out]; exact hi), by rw [txt_size, codeL_len], (HOk.out i (by rw [HEl.out]; exact hi)).2⟩)
  have HNp : Hid (∀ i k, i < n → k < n → i ≠ k → begB (txt (codeL E i)) (txt (codeL E k)) = false) := hid (fun i k hi hk hne => begB_no (by
    rw [bs_txt, bs_txt]
    have := HPf.out i k (by rw [codesL_len, HEl.out]; exact hi) (by rw [codesL_len, HEl.out]; exact hk) hne
    rwa [codesL_at (by rw [HEl.out]; exact hk), codesL_at (by rw [HEl.out]; exact hi)] at this))
  clear hIB HC hb3 hbB HL
  go_wp2_with fail
  go_loopw [7] (fun x wr => ∃ (i q : Nat), i ≤ n ∧ x = .int .i64 i ∧ wr = w3.drewN q) (fun x _ => n - (intOf x).toNat)
  case atStart => exact ⟨0, 0, by omega, rfl, rfl⟩
  case round =>
    obtain ⟨i, q, hin, rfl, hwr⟩ := hrel
    subst wr
    by_cases hlt : i < n
    · obtain ⟨g, off, rfl, _, hc⟩ := HIA.out.2 (by omega)
      obtain ⟨g2, off2, rfl, _, hc2⟩ := HIB.out.2 (by omega)
      have HCb : Hid (∀ j, j < n → w3.cell? ⟨g2, off2 + j, none⟩ = some (.string (txt (codeL E j)))) := hid (fun j hj => by
        have h1 : w3.cell? ⟨g2, off2 + j, none⟩ = some (.string (wat (codeT E) j)) := hc2 j hj
        rw [(HT.out j hj).1] at h1
        exact h1)
      have c1 := hc i hlt
      rw [nums_at] at c1
      have c2 := HCb.out i hlt
      obtain ⟨_, hsz, h12⟩ := HT.out i hlt
      rw [← hsz] at c1 h12
      have HSg : Hid (∀ k (hk : k < (txt (codeL E i)).size), (txt (codeL E i))[k] = 48 ∨ (txt (codeL E i))[k] = 49) := hid (fun k hk => code_sign hk)
      have HBg : Hid (∀ k, k < n → i ≠ k → ∀ W, Calls Tryd.prog 14 #[.string (txt (codeL E i)), .string (txt (codeL E k))] W fun e w' => e = .returned (.bool false) ∧ w' = W) := hid (fun k hk hne W => by
        have h1 := begins_any (txt (codeL E i)) (txt (codeL E k)) W (by omega) (by have := HT.out k hk; omega)
        rwa [HNp.out i k hlt hk hne] at h1)
      generalize txt (codeL E i) = X at c1 c2 h12 HSg HBg
      have q1 : ((X.size : Int) != (X.size : Int)) = false := by simp
      have i1 : (i : Int) < (n : Int) := by omega
      clear hc hc2 hsz
      go_wp2_with fail
      go_quiet (fail)
      go_wp2_with fail
      go_loopw [8] (fun x wr => ∃ (k q : Nat), k ≤ X.size ∧ x = .int .i64 k ∧ wr = w3.drewN q) (fun x _ => X.size - (intOf x).toNat)
      case atStart => exact ⟨0, _, by omega, rfl, by first | rfl | exact World.drewN_drewN _ _ _⟩
      case round =>
        obtain ⟨k, q2, hkX, rfl, hwr⟩ := hrel
        subst wr
        by_cases hlk : k < X.size
        · have k1 : (k : Int) < (X.size : Int) := by omega
          rcases HSg.out k hlk with h48 | h49
          · have q3 : (((X[k]'hlk).toNat : Int) != 48) = false := by rw [h48]; rfl
            clear h48
            go_wp2_with fail
            go_roundw
            case rel => exact ⟨k + 1, q2, by omega, by go_num, by first | rfl | trivial⟩
            case measure => simp [intOf]; omega
          · have q3 : (((X[k]'hlk).toNat : Int) != 48) = true := by rw [h49]; rfl
            have q4 : (((X[k]'hlk).toNat : Int) != 49) = false := by rw [h49]; rfl
            clear h49
            go_wp2_with fail
            go_roundw
            case rel => exact ⟨k + 1, q2, by omega, by go_num, by first | rfl | trivial⟩
            case measure => simp [intOf]; omega
        · obtain rfl : k = X.size := by omega
          go_wp2_with fail
          go_loopw [9] (fun x wr => ∃ (k q : Nat), k ≤ n ∧ x = .int .i64 k ∧ wr = w3.drewN q) (fun x _ => n - (intOf x).toNat)
          case atStart => exact ⟨0, q2, by omega, rfl, rfl⟩
          case round =>
            obtain ⟨k, q5, hkn, rfl, hwr⟩ := hrel
            subst wr
            by_cases hlk2 : k < n
            · have k1 : (k : Int) < (n : Int) := by omega
              have c3 := HCb.out k hlk2
              by_cases hik : i = k
              · have hne : ((i : Int) != (k : Int)) = false := by simp [hik]
                clear hik
                go_wp2_with fail
                go_quiet (fail)
                go_wp2_with fail
                go_roundw
                case rel => exact ⟨k + 1, _, by omega, by go_num, by first | rfl | exact World.drewN_drewN _ _ _⟩
                case measure => simp [intOf]; omega
              · have hne : ((i : Int) != (k : Int)) = true := by simp; omega
                have HB := fun W => hid (HBg.out k hlk2 hik W)
                generalize txt (codeL E k) = X2 at c3 HB
                obtain ⟨wd, hwd⟩ : ∃ wd, wd = w3.drewN q5 := ⟨_, rfl⟩
                have c2' : wd.cell? ⟨g2, off2 + i, none⟩ = some (.string X) := by rw [hwd]; exact c2
                have c3' : wd.cell? ⟨g2, off2 + k, none⟩ = some (.string X2) := by rw [hwd]; exact c3
                rw [← hwd]
                have HWd := hid hwd
                clear hik hwd c2 c3
                go_wp2_with fail
                go_quiet ((go_at_call 14; exact Calls.quiet_of_same (HB _).out))
                go_wp2_with fail
                go_roundw
                case rel => exact ⟨k + 1, _, by omega, by go_num, by rw [HWd.out]; first | rfl | exact World.drewN_drewN _ _ _⟩
                case measure => simp [intOf]; omega
            · obtain rfl : k = n := by omega
              go_wp2_with fail
              go_roundw
              case rel => exact ⟨i + 1, q5, by omega, by go_num, by first | rfl | trivial⟩
              case measure => simp [intOf]; omega
    · obtain rfl : i = n := by omega
      go_wp2_with fail
      go_ret
      exact ⟨rfl, below_drewN hbC _⟩
end Go.Proofs.YtlfncplldppncaaDoor
