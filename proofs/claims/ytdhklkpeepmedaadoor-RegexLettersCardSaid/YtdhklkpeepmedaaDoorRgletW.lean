/-
  The walk of RegexLetters: it returns true at every two texts, and leaves the old memory alone. Conditions: the row's own sizes; errors.errorType as the program's text lays it.
-/
import Derived.Test.YtdhklkpeepmedaaDoorRgfact
import Derived.Test.YtdhklkpeepmedaaDoorRgltm
import Derived.Test.YtdhklkpeepmedaaDoorRgread
import Derived.Test.YtdhklkpeepmedaaDoorStands
namespace Go.Proofs.YtdhklkpeepmedaaDoor
open Go.RowKit

set_option maxHeartbeats 8000000 in
set_option maxRecDepth 100000 in
theorem regexLetters_any (p s : ByteArray) (w : World) (hp : p.size ≤ maxLen) (hs : s.size ≤ maxLen) (hg : Laid w) :
    Calls Tryd.prog 6 #[.string p, .string s] w fun e w' => e = .returned (.bool true) ∧ Below w.heap.size w w' := by
  have HF := hid (regexFact_any w w hg (Below.refl _ _))
  clear hg
  unfold maxLen at hs
  rcases rg_or p with ⟨r, hr⟩ | ⟨k, hk⟩
  · have H1 := fun W => hid (rgsigns_ok p r W hr)
    have H2 := fun W => hid (rgread_ok p r W hr)
    have H3 := fun v k N W (h8 : s.size ≤ 8) (h : RdX encN 4 W v N) (hT : TreeAt N r k) => hid (Fits_any (pvA v ByteArray.empty false (k : Nat)) r s W (by omega) ⟨v, k, N, rfl, h, hT⟩)
    have HM : Hid (mtB r (bs s) = true → ∀ i, i < s.size → (occL (txt (sgnL (bs p))) (s.extract i (i + 1))).length = 1) := hid fun hm i hi =>
      sgn_once (bs p) rfl (sgn_fits hr ((mtB_iff _ _).1 hm) s[i] (List.mem_of_getElem? (bs_get s i hi))) (cut_at s i hi)
    have HT : Hid (∀ i, 1 ≤ i → i < (txt (sgnL (bs p))).size → (sg (txt (sgnL (bs p))) (i - 1)).toNat < (sg (txt (sgnL (bs p))) i).toNat) := hid fun i h1 hi =>
      sgn_text (bs p) rfl (by omega) hi
    have hle : (txt (sgnL (bs p))).size ≤ ((bs p).filter ltr).length := by rw [txt_size]; exact sgn_len _
    have ht26 : (txt (sgnL (bs p))).size ≤ 26 := by rw [txt_size]; exact sgTo_len _ _
    clear hr hp
    generalize txt (sgnL (bs p)) = t at H1 HM HT hle ht26
    generalize ((bs p).filter ltr).length = n at H1 hle
    generalize mtB r (bs s) = q at H3 HM
    have hnI : ¬ (n : Int) < (t.size : Int) := by omega
    unfold pvA at H2 H3
    go_enter Tryd.func6, Tryd.ntmps6
    go_wp2_with fail
    refine HF.out.mono ?_
    rintro e w1 ⟨rfl, hb1⟩
    clear HF
    go_wp2_with fail
    refine (H1 _).out.mono ?_
    rintro e w2 ⟨rfl, hb2⟩
    have hbA := hb1.trans (hb2.mono hb1.size)
    clear H1 hb1 hb2
    go_wp2_with fail
    go_loopw [9] (fun x wr => ∃ l : Nat, 1 ≤ l ∧ l ≤ t.size + 1 ∧ x = .int .i64 l ∧ Below w.heap.size w wr) (fun x _ => t.size + 1 - (intOf x).toNat)
    case atStart => exact ⟨1, Nat.le_refl _, by omega, rfl, hbA⟩
    case round =>
      obtain ⟨l, hl1, hl2, rfl, hbr⟩ := hrel
      clear hbA
      by_cases hlt : l < t.size
      · have hlI : (l : Int) < (t.size : Int) := by omega
        obtain ⟨b, hb⟩ : ∃ b, b = l - 1 := ⟨_, rfl⟩
        have hc := HT.out l hl1 hlt
        rw [← hb] at hc
        have hbl : b < t.size := by omega
        have hbI : (b : Int) < (t.size : Int) := by omega
        rw [sg_eq t l hlt, sg_eq t b hbl] at hc
        have hcI : ¬ (t[l].toNat : Int) ≤ (t[b].toNat : Int) := by omega
        have i1 : IntKind.i64.wrap ((l : Int) - 1) = (b : Int) := by rw [IntWalk.i64_in _ (by omega)]; omega
        clear hb
        clear hc
        go_wp2_with fail
        go_quiet (fail)
        go_wp2_with fail
        go_roundw
        case rel => exact ⟨l + 1, by omega, by omega, by go_num, below_drewN hbr _⟩
        case measure => simp [intOf]; omega
      · have hlI : ¬ (l : Int) < (t.size : Int) := by omega
        clear HT hl1 hl2
        go_wp2_with fail
        refine (H2 _).out.mono ?_
        rintro e w2 ⟨v, kk, N, rfl, hN, hT, hb2⟩
        have hbB := hbr.trans (hb2.mono hbr.size)
        obtain ⟨A, c, hv⟩ := hN.shape
        obtain ⟨m, hm⟩ : ∃ m, m = N.length := ⟨_, rfl⟩
        rw [← hm] at hv
        subst hv
        clear hm
        have HN := hid (And.intro hN hT)
        clear H2 hN hT hb2
        by_cases h8 : s.size ≤ 8
        · have h8I : ¬ (8 : Int) < (s.size : Int) := by omega
          go_wp2_with fail
          generalize hwx : World.alloc w2 _ = wx
          obtain ⟨hB, hbx⟩ := pat_laid hwx
          have HB := hid hB
          have HN2 := hid (And.intro (HN.out.1.below hbx) HN.out.2)
          have hbC := hbB.trans (hbx.mono hbB.size)
          obtain ⟨c0, c1, c2, c3⟩ := HB.out.cells
          clear hwx hB HN hbx hbB
          go_wp2_with fail
          refine (H3 (.slice A m c) kk N _ h8 HN2.out.1 HN2.out.2).out.mono ?_
          rintro e w3 ⟨rfl, hb3⟩
          have hbD := hbC.trans (hb3.mono hbC.size)
          clear H3 HB HN2 c0 c1 c2 c3 hbC hb3
          rcases Bool.eq_false_or_eq_true q with rfl | rfl
          · have HO := hid (HM.out rfl)
            clear HM
            go_wp2_with fail
            go_loopw [12] (fun x wr => ∃ i : Nat, i ≤ s.size ∧ x = .int .i64 i ∧ Below w.heap.size w wr) (fun x _ => s.size - (intOf x).toNat)
            case atStart => exact ⟨0, by omega, rfl, hbD⟩
            case round =>
              obtain ⟨i, hi, rfl, hbr⟩ := hrel
              by_cases hli : i < s.size
              · have hiI : (i : Int) < (s.size : Int) := by omega
                have hcut : ∀ W : World, Sem.run Tryd.prog (Instr.slice 9 (.string s) (some (.int .i64 (i : Int))) (some (.int .i64 ((i : Int) + 1))) none) W = .ok (.string (s.extract i (i + 1))) W := fun W =>
                  run_slice_string W 9 s .i64 .i64 (i : Int) ((i : Int) + 1) Tryd.underlying9 (by omega) (by omega) (by omega)
                have hwr : IntKind.i64.wrap ((i : Int) + 1) = (i : Int) + 1 := IntWalk.i64_in _ (by omega)
                have hus : (s.extract i (i + 1)).size = 1 := by rw [ByteArray.size_extract]; omega
                have hone := HO.out i hli
                generalize s.extract i (i + 1) = u at hcut hus hone
                have HS := fun W => hid (stands_any t u W (by omega) (by omega))
                have HL := hid hone
                clear hone
                go_wp2_with fail
                refine (HS _).out.mono ?_
                rintro e w4 ⟨v4, rfl, ho4, hb4⟩
                obtain ⟨A4, c4, hv4, _⟩ := IsInts.of_own ho4
                rw [HL.out] at hv4
                subst hv4
                have hbE := hbr.trans (hb4.mono hbr.size)
                clear ho4 hb4 HS HL
                go_wp2_with fail
                go_roundw
                case rel => exact ⟨i + 1, by omega, by go_num, hbE⟩
                case measure => simp [intOf]; omega
              · have hiI : ¬ (i : Int) < (s.size : Int) := by omega
                go_wp2_with fail
                go_ret
                exact ⟨rfl, hbr⟩
          · go_wp2_with fail
            go_ret
            exact ⟨rfl, hbD⟩
        · have h8I : (8 : Int) < (s.size : Int) := by omega
          go_wp2_with fail
          go_ret
          exact ⟨rfl, (hbB.alloc hbB.size _)⟩
  · have H1 := fun W => hid (rgsigns_bad p k W hp hk)
    have ht := same_yes (rfl : ByteArray.empty = ByteArray.empty)
    clear hk hp hs
    go_enter Tryd.func6, Tryd.ntmps6
    go_wp2_with fail
    refine HF.out.mono ?_
    rintro e w1 ⟨rfl, hb1⟩
    clear HF
    go_wp2_with fail
    refine (H1 _).out.mono ?_
    rintro e w2 ⟨rfl, hb2⟩
    have hbA := hb1.trans (hb2.mono hb1.size)
    clear H1 hb1 hb2
    go_wp2_with fail
    go_ret
    exact ⟨by first | rfl | simp, hbA⟩
end Go.Proofs.YtdhklkpeepmedaaDoor
