/-
  The walk of RisePiles: it returns true at every list of numbers. Conditions: the row's own sizes.
-/
import Derived.Test.YtmfpjbhgmcmceaaRsfact
import Derived.Test.YtmfpjbhgmcmceaaOn
namespace Go.Proofs.Ytmfpjbhgmcmceaa
open Go.RowKit

theorem tops_up {h : List Int} {i : Nat} (h0 : i + 1 < (tops h).length) : (tops h).getD i 0 < (tops h).getD (i + 1) 0 := by
  have := List.pairwise_iff_getElem.1 (tops_sorted h) i (i + 1) (by omega) h0 (by omega)
  rw [List.getD_eq_getElem?_getD, List.getD_eq_getElem?_getD, List.getElem?_eq_getElem (show i < _ by omega), List.getElem?_eq_getElem h0]
  exact this
theorem rspil_bad (A : Option Addr) (n c : Nat) (l : List Int) (k : Int) (w : World) (hn : n ≤ maxLen) (hl : IsInts w w.heap.size A n l) (hk : BadR l k) :
    Calls Try.prog 4 #[.slice A n c] w fun e w' => e = .returned (.bool true) ∧ Below w.heap.size w w' := by
  have HF := hid (sfact_any w)
  have HL := hid hl
  have H1 := fun W h => hid (spiles_bad A n c l k W hn h hk)
  clear hl hk hn
  go_enter Try.func4, Try.ntmps4
  go_wp2_with fail
  refine HF.out.mono ?_
  rintro e w1 ⟨rfl, hb1⟩
  have HL1 := hid (HL.out.up hb1)
  clear HF HL
  go_wp2_with fail
  refine (H1 _ HL1.out).out.mono ?_
  rintro e w2 ⟨rfl, hb2⟩
  have hbA := hb1.trans (hb2.mono hb1.size)
  clear H1 HL1 hb1 hb2
  go_wp2_with fail
  go_ret
  exact ⟨rfl, hbA⟩
set_option maxHeartbeats 2000000 in
theorem rspil_any (A : Option Addr) (n c : Nat) (l : List Int) (w : World) (hn : n ≤ maxLen) (hl : IsInts w w.heap.size A n l) :
    Calls Try.prog 4 #[.slice A n c] w fun e w' => e = .returned (.bool true) ∧ Below w.heap.size w w' := by
  rcases badR_or l with hg | ⟨k, hk⟩
  · have HF := hid (sfact_any w)
    have HL := hid hl
    have hln : l.length = n := hl.1
    have hn2 : n ≤ 20 := by have := hg.1; omega
    have H1 := fun W h => hid (spiles_ok A n c l W h hg)
    have H2 := fun W h => hid (slong_ok A n c l W h hg)
    have e1 := rise_le (l := l) ltB
    rw [← piles_list hg] at H2 e1
    have HUP := hid (fun i => tops_up (h := l.reverse) (i := i))
    rw [hln] at e1
    clear hl hg hn hln
    generalize tops l.reverse = T at H1 H2 e1 HUP
    go_enter Try.func4, Try.ntmps4
    go_wp2_with fail
    refine HF.out.mono ?_
    rintro e w1 ⟨rfl, hb1⟩
    have HL1 := hid (HL.out.up hb1)
    clear HF HL
    go_wp2_with fail
    refine (H1 _ HL1.out).out.mono ?_
    rintro e w2 ⟨A2, c2, rfl, hI, hb2⟩
    have HL2 := hid (HL1.out.up hb2)
    have hbA := hb1.trans (hb2.mono hb1.size)
    have HI := hid hI
    clear H1 HL1 hb1 hb2 hI
    obtain ⟨m, hm⟩ : ∃ m, m = T.length := ⟨_, rfl⟩
    rw [← hm] at HI H2 e1 ⊢
    have HUP2 : Hid (∀ i, i + 1 < m → T.getD i 0 < T.getD (i + 1) 0) := hid fun i hi => HUP.out i (by rw [← hm]; exact hi)
    clear hm HUP
    go_wp2_with fail
    refine (H2 _ HL2.out).out.mono ?_
    rintro e w3 ⟨rfl, hb3⟩
    have hbB := hbA.trans (hb3.mono hbA.size)
    have HI3 := hid (HI.out.up hb3)
    clear H2 HL2 hbA hb3 HI
    go_wp2_with fail
    go_loopw [7] (fun x wr => ∃ i : Nat, 1 ≤ i ∧ x = .int .i64 i ∧ Hid (∃ q, wr = w3.drewN q)) (fun x _ => 21 - (intOf x).toNat)
    case atStart => exact ⟨1, by omega, rfl, hid ⟨0, rfl⟩⟩
    case round =>
      obtain ⟨i, hi, rfl, HQ⟩ := hrel
      obtain ⟨q, hq⟩ := HQ.out
      by_cases hlt : i < m
      · obtain ⟨p, hp⟩ : ∃ p, i = p + 1 := ⟨i - 1, by omega⟩
        obtain ⟨g, off, rfl, hg, hc⟩ := HI3.out.2 (by omega)
        have x1 : wr.cell? ⟨g, off + p, none⟩ = some (.int .i64 (T.getD p 0)) := by rw [hq]; exact hc p (by omega)
        have x2 : wr.cell? ⟨g, off + i, none⟩ = some (.int .i64 (T.getD i 0)) := by rw [hq]; exact hc i hlt
        have hup : T.getD p 0 < T.getD i 0 := by rw [hp]; exact HUP2.out p (by omega)
        have i1 : (i : Int) - 1 = (p : Int) := by omega
        have i2 : p < m := by omega
        have i3 : (p : Int) < (m : Int) := by omega
        have i4 : (i : Int) < (m : Int) := by omega
        have HQ2 : ∀ q', Hid (∃ q, wr.drewN q' = w3.drewN q) := fun q' => hid (by
          rw [hq]
          first | exact ⟨_, rfl⟩ | (simp only [World.drewN_drewN]; exact ⟨_, rfl⟩))
        have hi20 : i ≤ 20 := by omega
        clear hp hc HQ hq HI3
        generalize T.getD p 0 = X at x1 hup
        generalize T.getD i 0 = Y at x2 hup
        have hd : decide (X ≥ Y) = false := decide_eq_false (by omega)
        go_wp2_with fail
        go_quiet (fail)
        go_wp2_with fail
        go_roundw
        case rel => exact ⟨i + 1, by omega, by go_num, HQ2 _⟩
        case measure => simp [intOf]; omega
      · have hbZ : Below w.heap.size w wr := by rw [hq]; exact below_drewN hbB q
        have hd : decide (i < m) = false := decide_eq_false hlt
        clear HQ hq HI3
        go_wp2_with fail
        go_ret
        exact ⟨rfl, hbZ⟩
  · exact rspil_bad A n c l k w hn hl hk
end Go.Proofs.Ytmfpjbhgmcmceaa
