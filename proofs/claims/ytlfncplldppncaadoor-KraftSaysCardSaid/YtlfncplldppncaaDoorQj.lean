/-
  Several of this claim's texts in one (Kcodes, Room, Rwords, KsaysW): what each proves stands at its own head. Conditions: as each says.
-/
import Derived.Test.YtlfncplldppncaaDoorQi

/-
  Contract of letterbeckref2.Codes: each code is the least that goes with all ahead. Conditions: lengths from 1 to 12, at most ten of them, and room for them.
-/
namespace Go.Proofs.YtlfncplldppncaaDoor
open Go.RowKit

theorem str_row : (Tryd.prog.info? 9).map (fun i => (i.zero, i.size, i.bytes)) = some (some (.string ByteArray.empty), 1, 16) := by kernel_rfl
/-- Text j as it stands at place i of length n: there, or empty still. -/
def cdT (l : List Nat) (n i j : Nat) : ByteArray := if bef l n i j then txt (codeL l j) else ByteArray.empty
def cds (l : List Nat) (n i : Nat) : List ByteArray := (List.range l.length).map (cdT l n i)
theorem cds_len (l : List Nat) (n i : Nat) : (cds l n i).length = l.length := by simp [cds]
theorem cds_get (l : List Nat) (n i : Nat) {j : Nat} (hj : j < l.length) : (cds l n i)[j]? = some (cdT l n i j) := by simp [cds, hj]
theorem cds_congr {l : List Nat} {n i n' i' : Nat} (h : ∀ j, j < l.length → bef l n i j = bef l n' i' j) : cds l n i = cds l n' i' := by
  unfold cds
  refine List.map_congr_left fun j hj => ?_
  unfold cdT
  rw [h j (List.mem_range.1 hj)]
theorem cds_first {l : List Nat} (h : LenOk l) : cds l 1 0 = List.replicate l.length ByteArray.empty := by
  apply List.ext_getElem?
  intro j
  by_cases hj : j < l.length
  · rw [cds_get _ _ _ hj]
    have : ¬ bef l 1 0 j = true := fun hb => by
      have := (h j hj).1
      rcases (bef_iff _ _ _ _).1 hb with h1 | ⟨_, h1⟩ <;> omega
    simp [cdT, this, hj]
  · rw [List.getElem?_eq_none (by rw [cds_len]; omega), List.getElem?_eq_none (by simp; omega)]
theorem cds_next (l : List Nat) (n : Nat) : cds l (n + 1) 0 = cds l n l.length := cds_congr fun j hj => by
  unfold bef
  refine decide_eq_decide.2 ⟨?_, ?_⟩
  · rintro (h1 | ⟨_, h2⟩)
    · by_cases e : l.getD j 0 = n
      · exact .inr ⟨e, hj⟩
      · exact .inl (by omega)
    · omega
  · rintro (h1 | ⟨h1, _⟩) <;> exact .inl (by omega)
theorem cds_skip {l : List Nat} {n i : Nat} (h : l.getD i 0 ≠ n) : cds l n (i + 1) = cds l n i := cds_congr fun j _ => by
  unfold bef
  refine decide_eq_decide.2 ⟨?_, ?_⟩
  · rintro (h1 | ⟨h1, h2⟩)
    · exact .inl h1
    · refine .inr ⟨h1, ?_⟩
      rcases Nat.lt_or_ge j i with h3 | h3
      · exact h3
      · obtain rfl : j = i := by omega
        exact absurd h1 h
  · rintro (h1 | ⟨h1, h2⟩)
    · exact .inl h1
    · exact .inr ⟨h1, by omega⟩
theorem cds_set {l : List Nat} {n i : Nat} (hi : i < l.length) (h : l.getD i 0 = n) : (cds l n i).set i (txt (codeL l i)) = cds l n (i + 1) := by
  apply List.ext_getElem?
  intro j
  by_cases hj : j < l.length
  · by_cases e : i = j
    · subst e
      rw [List.getElem?_set_self (by rw [cds_len]; exact hi), cds_get _ _ _ hj]
      have : bef l n (i + 1) i = true := (bef_iff _ _ _ _).2 (.inr ⟨h, by omega⟩)
      simp [cdT, this]
    · rw [List.getElem?_set_ne e, cds_get _ _ _ hj, cds_get _ _ _ hj]
      have : bef l n (i + 1) j = bef l n i j := by
        unfold bef
        refine decide_eq_decide.2 ⟨?_, ?_⟩
        · rintro (h1 | ⟨h1, h2⟩)
          · exact .inl h1
          · exact .inr ⟨h1, by omega⟩
        · rintro (h1 | ⟨h1, h2⟩)
          · exact .inl h1
          · exact .inr ⟨h1, by omega⟩
      simp [cdT, this]
  · rw [List.getElem?_eq_none (by rw [List.length_set, cds_len]; omega), List.getElem?_eq_none (by rw [cds_len]; omega)]
theorem cds_last {l : List Nat} (h : LenOk l) : cds l 13 0 = codeT l := by
  unfold cds codeT codesL
  rw [List.map_map]
  refine List.map_congr_left fun j hj => ?_
  have : bef l 13 0 j = true := (bef_iff _ _ _ _).2 (.inl (by have := (h j (List.mem_range.1 hj)).2; omega))
  simp [cdT, this]
/-- None of those ahead, up to place j, begins the code of number k. -/
def frB (l : List Nat) (n i k : Nat) : Nat → Bool
  | 0 => true
  | j + 1 => frB l n i k j && !(bef l n i j && (codeL l j).isPrefixOf (bitsL n k))
theorem frB_iff (l : List Nat) (n i k : Nat) : ∀ m, frB l n i k m = true ↔ ∀ j, j < m → bef l n i j = true → ¬ codeL l j <+: bitsL n k := by
  intro m
  induction m with
  | zero => exact ⟨fun _ j hj => absurd hj (by omega), fun _ => rfl⟩
  | succ m ih =>
    rw [frB, Bool.and_eq_true, ih]
    constructor
    · rintro ⟨h1, h2⟩ j hj hb hp
      rcases Nat.lt_or_ge j m with h3 | h3
      · exact h1 j h3 hb hp
      · obtain rfl : j = m := by omega
        rw [hb, List.isPrefixOf_iff_prefix.2 hp] at h2
        exact absurd h2 (by decide)
    · intro h
      refine ⟨fun j hj => h j (by omega), ?_⟩
      cases hb : bef l n i m with
      | false => rfl
      | true =>
        have h1 := h m (by omega) hb
        have : (codeL l m).isPrefixOf (bitsL n k) = false := by
          rw [← Bool.not_eq_true]
          exact fun e => h1 (List.isPrefixOf_iff_prefix.1 e)
        rw [this]
        rfl
theorem frB_yes {l : List Nat} (h : LenOk l) (hr : rm 12 l ≤ 4096) {i : Nat} (hi : i < l.length) : frB l (l.getD i 0) i (cvN l i) l.length = true :=
  (frB_iff _ _ _ _ _).2 fun _ hj hb => code_free h hr hi hj hb
theorem frB_no {l : List Nat} (h : LenOk l) (hr : rm 12 l ≤ 4096) {i k : Nat} (hi : i < l.length) (hk : k < cvN l i) : frB l (l.getD i 0) i k l.length = false := by
  rw [← Bool.not_eq_true, frB_iff]
  intro hf
  obtain ⟨j, h1, h2, h3⟩ := code_least h hr hi hk
  exact hf j h1 h2 h3
theorem cdT_small {l : List Nat} (h : LenOk l) {j : Nat} (hj : j < l.length) (n i : Nat) : (cdT l n i j).size ≤ 12 := by
  unfold cdT
  split
  · rw [txt_size, codeL_len]; exact (h j hj).2
  · exact Nat.zero_le _
theorem cdT_none {l : List Nat} {n i j : Nat} (hb : bef l n i j = false) : cdT l n i j = ByteArray.empty := by unfold cdT; rw [hb]; rfl
theorem cdT_some {l : List Nat} {n i j : Nat} (hb : bef l n i j = true) : cdT l n i j = txt (codeL l j) := by unfold cdT; rw [hb]; rfl

set_option maxRecDepth 100000 in
set_option maxHeartbeats 2000000 in
theorem rcodes_any (A : Option Addr) (n c : Nat) (l : List Nat) (w : World) (hl : IsInts w w.heap.size A n (nums l)) (h10 : n ≤ 10) (hok : LenOk l) (hr : rm 12 l ≤ 4096) :
    Calls Tryd.prog 10 #[.slice A n c] w fun e w' => ∃ L : Nat, e = .returned (.slice (some ⟨L, 0, none⟩) n n) ∧ w.heap.size ≤ L ∧ BlkAt w' L 9 ((codeT l).map Value.string) ∧ Below w.heap.size w w' := by
  obtain ⟨i0, hi, hz0, hz1, hz2⟩ := info_parts str_row
  have hln : l.length = n := by rw [← nums_len]; exact hl.1
  have HI := hid hl
  have HN := hid hln
  have HK := hid hok
  have HR := hid hr
  clear hl hln hok hr
  go_enter Tryd.func10, Tryd.ntmps10
  go_wp2_with (at_make; refine wpList_make_full _ rfl _ _ 23 rfl w.heap.size 9 i0 (.string ByteArray.empty) 1 Tryd.underlying23 hi hz0 hz1 _ _ _ _ n rfl rfl rfl rfl (by rw [hz2]; omega) (by unfold maxLen; omega) (Nat.le_refl _) ?_)
  intro w1 hown hgr
  have hb1 : Below w.heap.size w w1 := (Below.refl _ _).grown hgr (Nat.le_refl _) (by intro k hk; cases hk)
  have hB : BlkAt w1 w.heap.size 9 ((cds l 1 0).map Value.string) := by
    rw [cds_first HK.out, HN.out, List.map_replicate]
    have h2 : w1.ownsRow w.heap.size 9 1 (.slice (some ⟨w.heap.size, 0, none⟩) n n) n (madeCells #[Value.string ByteArray.empty] n).toList := by simpa using hown
    rw [toList_madeCells_one] at h2
    exact BlkAt.of_own h2
  have HB := hid hB
  clear hown hgr hB
  obtain ⟨L, hLe⟩ : ∃ L, L = w.heap.size := ⟨_, rfl⟩
  have HLw := hid (show w.heap.size ≤ L by omega)
  rw [← hLe] at HB
  rw [show (.slice (some ⟨w.heap.size, 0, none⟩) n n : Value) = .slice (some ⟨L, 0, none⟩) n n by rw [hLe]]
  clear hLe
  go_wp2_with fail
  go_loopw [4] (fun x wr => ∃ m : Nat, 1 ≤ m ∧ m ≤ 13 ∧ x = .int .i64 m ∧ Hid (BlkAt wr L 9 ((cds l m 0).map Value.string)) ∧ Hid (Only L w1 wr)) (fun x _ => 13 - (intOf x).toNat)
  case atStart => exact ⟨1, by omega, by omega, rfl, HB, hid (Only.refl _ _)⟩
  case round =>
    clear HB
    obtain ⟨m, hm1, hm2, rfl, HB, HO⟩ := hrel
    by_cases hm : m ≤ 12
    · have m1 : (m : Int) ≤ 12 := by omega
      go_wp2_with fail
      obtain ⟨wy, rfl⟩ : ∃ q, q = wr := ⟨_, rfl⟩
      go_loopw [5] (fun x wr => ∃ i : Nat, i ≤ n ∧ x = .int .i64 i ∧ Hid (BlkAt wr L 9 ((cds l m i).map Value.string)) ∧ Hid (Only L w1 wr)) (fun x _ => n - (intOf x).toNat)
      case atStart => exact ⟨0, by omega, rfl, HB, HO⟩
      case round =>
        clear HB HO
        obtain ⟨i, hin, rfl, HB, HO⟩ := hrel
        by_cases hlt : i < n
        · obtain ⟨g, off, rfl, hg, hc⟩ := HI.out.2 (by omega)
          have hgL : g ≠ L := by have := HLw.out; omega
          have c1 := ((HO.out.cell (o := off + i) hgL).trans (hb1.cell (p := ⟨g, off + i, none⟩) hg)).trans (hc i hlt)
          rw [nums_at] at c1
          have hil : i < l.length := by rw [HN.out]; exact hlt
          have i1 : (i : Int) < (n : Int) := by omega
          by_cases he : l.getD i 0 = m
          · have hne : ((m : Int) != (m : Int)) = false := by simp
            rw [he] at c1
            have hlt2 := cvN_lt HK.out HR.out hil
            rw [he] at hlt2
            have h4096 : cvN l i < 4096 := Nat.lt_of_lt_of_le hlt2 (Nat.pow_le_pow_right (n := 2) (by decide) hm)
            have HY := hid (frB_yes HK.out HR.out hil)
            have HNo : Hid (∀ k, k < cvN l i → frB l (l.getD i 0) i k l.length = false) := hid (fun k hk => frB_no HK.out HR.out hil hk)
            rw [he, HN.out] at HY HNo
            have HSt : Hid (∀ s, s = txt (bitsL m (cvN l i)) → BlkAt (wr.setCell ⟨L, i, none⟩ (.string s)) L 9 ((cds l m (i + 1)).map Value.string) ∧ Only L wr (wr.setCell ⟨L, i, none⟩ (.string s))) := hid (fun s hs => by
              have h1 := HB.out.stored i (.string s)
              rw [← List.map_set, hs, show txt (bitsL m (cvN l i)) = txt (codeL l i) by unfold codeL; rw [he], cds_set hil he, show txt (codeL l i) = txt (bitsL m (cvN l i)) by unfold codeL; rw [he]] at h1
              rw [hs]
              exact h1)
            have HCl : Hid (∀ j, j < n → wr.cell? ⟨L, j, none⟩ = some (.string (cdT l m i j))) := hid (fun j hj => HB.out.cell (by rw [List.getElem?_map, cds_get _ _ _ (by rw [HN.out]; exact hj)]; rfl))
            have fL := HB.out.frozen i
            have cL := HCl.out i hlt
            have HSm : Hid (∀ j, j < n → (cdT l m i j).size ≤ 12 ∧ (bef l m i j = true → 0 < (cdT l m i j).size)) := hid (fun j hj => ⟨cdT_small HK.out (by rw [HN.out]; exact hj) m i, fun hb => by
              rw [cdT_some hb, txt_size, codeL_len]
              exact (HK.out j (by rw [HN.out]; exact hj)).1⟩)
            generalize cvN l i = V at hlt2 h4096 HY HNo HSt
            clear he hil hc HB hlt2
            go_wp2_with fail
            obtain ⟨wz, rfl⟩ : ∃ q, q = wr := ⟨_, rfl⟩
            go_loopw [6] (fun x wr => ∃ k : Nat, k ≤ V ∧ x = .int .i64 k ∧ wr = wz) (fun x _ => V - (intOf x).toNat)
            case atStart => exact ⟨0, by omega, rfl, rfl⟩
            case round =>
              obtain ⟨k, hk, rfl, hwr⟩ := hrel
              subst wr
              have HBi := fun W => hid (rbits_any m k W hm (by omega))
              have HTs := hid (txt_size (bitsL m k))
              have HTl := hid (bits_len m k)
              have HTb := hid (bs_txt (bitsL m k))
              obtain ⟨T, hT⟩ : ∃ T, T = txt (bitsL m k) := ⟨_, rfl⟩
              rw [← hT] at HBi HTs HTb
              have HTe := hid hT
              have hTs : T.size ≤ 1099511627776 := by have := HTs.out; have := HTl.out; omega
              clear hT
              go_wp2_with fail
              refine (HBi _).out.mono ?_
              rintro e w5 ⟨rfl, hw5⟩
              subst w5
              clear HBi
              go_wp2_with fail
              go_loopw [8, 9] (fun v x wr => ∃ j : Nat, j ≤ n ∧ x = .int .i64 j ∧ v = .bool (frB l m i k j) ∧ wr = wz) (fun _ x _ => n - (intOf x).toNat)
              case atStart => exact ⟨0, by omega, rfl, rfl, rfl⟩
              case round =>
                obtain ⟨j, hj, rfl, rfl, hwr⟩ := hrel
                subst wr
                by_cases hlj : j < n
                · have c2 := HCl.out j hlj
                  have hs2 := HSm.out j hlj
                  have j1 : (j : Int) < (n : Int) := by omega
                  cases hb : bef l m i j with
                  | false =>
                    have HE : Hid (frB l m i k (j + 1) = frB l m i k j) := hid (by rw [frB, hb]; simp)
                    rw [cdT_none hb] at c2
                    generalize frB l m i k j = F at HE
                    clear hb hs2
                    have z0 : ByteArray.empty.size = 0 := rfl
                    go_wp2_with fail
                    go_roundw
                    case rel => exact ⟨j + 1, by omega, by go_num, by rw [HE.out], by first | rfl | trivial⟩
                    case measure => simp [intOf]; omega
                  | true =>
                    have hX0 := hs2.2 hb
                    have hX1 := hs2.1
                    have HG := fun W => hid (begins_any T (cdT l m i j) W hTs (by omega))
                    have HP : Hid ((begB T (cdT l m i j) = true ∧ frB l m i k (j + 1) = false) ∨ (begB T (cdT l m i j) = false ∧ frB l m i k (j + 1) = frB l m i k j)) := hid (by
                      by_cases hp : codeL l j <+: bitsL m k
                      · refine .inl ⟨begB_iff.2 (by rw [cdT_some hb, bs_txt, HTb.out]; exact hp), ?_⟩
                        rw [frB, hb, List.isPrefixOf_iff_prefix.2 hp]
                        simp
                      · refine .inr ⟨begB_no (by rw [cdT_some hb, bs_txt, HTb.out]; exact hp), ?_⟩
                        have : (codeL l j).isPrefixOf (bitsL m k) = false := by
                          rw [← Bool.not_eq_true]
                          exact fun e => hp (List.isPrefixOf_iff_prefix.1 e)
                        rw [frB, hb, this]
                        simp)
                    generalize cdT l m i j = X at c2 hX0 hX1 HG HP
                    generalize begB T X = b at HG HP
                    generalize frB l m i k j = F at HP
                    clear hb hs2
                    have x1 : (0 : Int) < (X.size : Int) := by omega
                    rcases HP.out with ⟨rfl, hF⟩ | ⟨rfl, hF⟩
                    · have HE := hid hF
                      clear hF HP
                      go_wp2_with fail
                      refine (HG _).out.mono ?_
                      rintro e w5 ⟨rfl, hw5⟩
                      subst w5
                      go_wp2_with fail
                      go_roundw
                      case rel => exact ⟨j + 1, by omega, by go_num, by rw [HE.out], by first | rfl | trivial⟩
                      case measure => simp [intOf]; omega
                    · have HE := hid hF
                      clear hF HP
                      go_wp2_with fail
                      refine (HG _).out.mono ?_
                      rintro e w5 ⟨rfl, hw5⟩
                      subst w5
                      go_wp2_with fail
                      go_roundw
                      case rel => exact ⟨j + 1, by omega, by go_num, by rw [HE.out], by first | rfl | trivial⟩
                      case measure => simp [intOf]; omega
                · obtain rfl : j = n := by omega
                  by_cases hkV : k = V
                  · subst hkV
                    rw [HY.out]
                    obtain ⟨hS1, hS2⟩ := HSt.out T HTe.out
                    have HS1 := hid hS1
                    have HS2 := hid (HO.out.trans hS2)
                    clear hS1 hS2
                    go_wp2_with fail
                    go_roundw
                    case rel => exact ⟨i + 1, by omega, by go_num, HS1, HS2⟩
                    case measure => simp [intOf]; omega
                  · rw [HNo.out k (by omega)]
                    go_wp2_with fail
                    go_roundw
                    case rel => exact ⟨k + 1, by omega, by go_num, by first | rfl | trivial⟩
                    case measure => simp [intOf]; omega
          · have HB2 : Hid (BlkAt wr L 9 ((cds l m (i + 1)).map Value.string)) := hid (by rw [cds_skip he]; exact HB.out)
            generalize l.getD i 0 = X at c1 he
            have hne : ((X : Int) != (m : Int)) = true := by simp; omega
            clear he HB hil hc
            go_wp2_with fail
            go_roundw
            case rel => exact ⟨i + 1, by omega, by go_num, HB2, HO⟩
            case measure => simp [intOf]; omega
        · obtain rfl : i = n := by omega
          have HB2 : Hid (BlkAt wr L 9 ((cds l (m + 1) 0).map Value.string)) := hid (by rw [cds_next, HN.out]; exact HB.out)
          clear HB
          go_wp2_with fail
          go_roundw
          case rel => exact ⟨m + 1, by omega, by omega, by go_num, HB2, HO⟩
          case measure => simp [intOf]; omega
    · obtain rfl : m = 13 := by omega
      have HB2 : Hid (BlkAt wr L 9 ((codeT l).map Value.string)) := hid (by rw [← cds_last HK.out]; exact HB.out)
      have hbE := hb1.trans (HO.out.below (B := w.heap.size) HLw.out)
      clear HB
      go_wp2_with fail
      go_ret
      exact ⟨L, rfl, HLw.out, HB2.out, hbE⟩
end Go.Proofs.YtlfncplldppncaaDoor

/-
  Contracts of letterbeckref2.Lengths, Power and Room. Conditions: a power of two up to twelve; lengths up to twelve, at most ten of them.
-/
namespace Go.Proofs.YtlfncplldppncaaDoor
open Go.RowKit

theorem rlengths_any (A : Option Addr) (n c : Nat) (l : List Int) (w : World) (hl : IsInts w w.heap.size A n l) :
    Calls Tryd.prog 5 #[.slice A n c] w fun e w' => (∃ k, LenC l k ∧ e = .returned (.int .i64 k)) ∧ w' = w := by
  have hls := hl.1
  by_cases h10 : n ≤ 10
  · have HA := fun lo hi => hid (rallin_any A n c l lo hi w (by omega) hl)
    have n2 : ¬ (10 < (n : Int)) := by omega
    have HL := hid hls
    clear hl hls
    go_enter Tryd.func5, Tryd.ntmps5
    go_wp2_with fail
    refine (HA _ _).out.mono ?_
    rintro e w5 ⟨h, hw5⟩
    subst w5
    rcases h with ⟨h, rfl⟩ | ⟨h, rfl⟩
    · have HK : Hid (LenC l 0) := hid (.inr (.inr ⟨by rw [HL.out]; exact h10, h, rfl⟩))
      clear h
      go_wp2_with fail
      go_ret
      exact ⟨⟨0, HK.out, rfl⟩, rfl⟩
    · have HK : Hid (LenC l 1) := hid (.inr (.inl ⟨by rw [HL.out]; exact h10, h, rfl⟩))
      clear h
      go_wp2_with fail
      go_ret
      exact ⟨⟨1, HK.out, rfl⟩, rfl⟩
  · have HK : Hid (LenC l 4) := hid (.inl ⟨by omega, rfl⟩)
    have n2 : 10 < (n : Int) := by omega
    clear hl hls
    go_enter Tryd.func5, Tryd.ntmps5
    go_wp2_with fail
    go_ret
    exact ⟨⟨4, HK.out, rfl⟩, rfl⟩

theorem rpower_any (n : Nat) (w : World) (h : n ≤ 12) :
    Calls Tryd.prog 21 #[.int .i64 (n : Int)] w fun e w' => e = .returned (.int .i64 ((2 ^ n : Nat) : Int)) ∧ w' = w := by
  obtain ⟨F, hF⟩ : ∃ F : Nat → Nat, F = fun i => 2 ^ i := ⟨_, rfl⟩
  have e : 2 ^ n = F n := by rw [hF]
  rw [e]
  have HB : Hid (∀ i, i ≤ n → F i ≤ 4096) := hid (fun i hi => by rw [hF]; exact pow_le (n := 12) (by omega))
  have HS : Hid (∀ i, F (i + 1) = 2 * F i) := hid (fun i => by rw [hF]; show 2 ^ (i + 1) = 2 * 2 ^ i; rw [Nat.pow_succ, Nat.mul_comm])
  have H0 : Hid (F 0 = 1) := hid (by rw [hF])
  clear hF e
  go_enter Tryd.func21, Tryd.ntmps21
  go_wp2_with fail
  go_loopw [3, 4] (fun v x wr => ∃ i : Nat, i ≤ n ∧ x = .int .i64 i ∧ v = .int .i64 (F i : Nat) ∧ wr = w) (fun _ x _ => n - (intOf x).toNat)
  case atStart => exact ⟨0, by omega, rfl, by rw [H0.out]; rfl, rfl⟩
  case round =>
    obtain ⟨i, hin, rfl, rfl, hwr⟩ := hrel
    subst wr
    by_cases hlt : i < n
    · have b1 := HB.out i hin
      have HE := hid (HS.out i)
      generalize F i = P at b1 HE
      go_wp2_with fail
      go_roundw
      case rel => exact ⟨i + 1, by omega, by go_num, by rw [HE.out]; push_cast; rfl, by first | rfl | trivial⟩
      case measure => simp [intOf]; omega
    · obtain rfl : i = n := by omega
      go_wp2_with fail
      go_ret
      exact ⟨rfl, by first | rfl | trivial⟩

set_option maxHeartbeats 1000000 in
theorem rroom_any (A : Option Addr) (n c : Nat) (E : List Nat) (w : World) (h : n ≤ 10) (hE : ∀ i, i < n → E.getD i 0 ≤ 12) (hl : IsInts w w.heap.size A n (nums E)) :
    Calls Tryd.prog 8 #[.slice A n c] w fun e w' => e = .returned (.int .i64 ((rm 12 E : Nat) : Int)) ∧ w' = w := by
  have hls : E.length = n := by rw [← nums_len]; exact hl.1
  have HI := hid hl
  have HL := hid hls
  have HE := hid hE
  clear hl hls hE
  go_enter Tryd.func8, Tryd.ntmps8
  go_wp2_with fail
  go_loopw [3, 4] (fun v x wr => ∃ i : Nat, i ≤ n ∧ x = .int .i64 i ∧ v = .int .i64 (rm 12 (E.take i) : Nat) ∧ wr = w) (fun _ x _ => n - (intOf x).toNat)
  case atStart => exact ⟨0, by omega, rfl, rfl, rfl⟩
  case round =>
    obtain ⟨i, hin, rfl, rfl, hwr⟩ := hrel
    subst wr
    by_cases hlt : i < n
    · obtain ⟨g, off, rfl, hg, hc⟩ := HI.out.2 (by omega)
      have c1 := hc i hlt
      rw [nums_at] at c1
      have hS := hid (rm_succ E (i := i) (by rw [HL.out]; exact hlt))
      have b1 : rm 12 (E.take i) ≤ 40960 := Nat.le_trans (rm_le _) (by rw [List.length_take]; omega)
      have h12 := HE.out i hlt
      have HP := fun W => hid (rpower_any (12 - E.getD i 0) W (by omega))
      have b2 : 2 ^ (12 - E.getD i 0) ≤ 4096 := pow_le (n := 12) (by omega)
      generalize rm 12 (E.take i) = R at hS b1
      generalize E.getD i 0 = K at c1 hS h12 HP b2
      have e1 : (12 : Int) - (K : Int) = ((12 - K : Nat) : Int) := by omega
      generalize 2 ^ (12 - K) = Y at hS HP b2
      clear hc
      go_wp2_with fail
      refine (HP _).out.mono ?_
      rintro e w5 ⟨rfl, hw5⟩
      subst w5
      go_wp2_with fail
      go_roundw
      case rel => exact ⟨i + 1, by omega, by go_num, by rw [hS.out]; push_cast; rfl, by first | rfl | trivial⟩
      case measure => simp [intOf]; omega
    · obtain rfl : i = n := by omega
      have HR : Hid (E.take i = E) := hid (List.take_of_length_le (by rw [HL.out]; exact Nat.le_refl _))
      rw [HR.out]
      go_wp2_with fail
      go_ret
      exact ⟨rfl, by first | rfl | trivial⟩
end Go.Proofs.YtlfncplldppncaaDoor

/-
  Contract of letterbeckref1.Words: what is wrong with a list of words: the number of the first fault, or 0. Conditions: the row's own sizes.
-/
namespace Go.Proofs.YtlfncplldppncaaDoor
open Go.RowKit

set_option maxHeartbeats 1000000 in
theorem rwords_any (A : Option Addr) (n c : Nat) (ws : List ByteArray) (w : World) (hn : n ≤ maxLen) (hs : ∀ i, i < n → (wat ws i).size ≤ maxLen) (h : IsStrs w w.heap.size A n ws) :
    Calls Tryd.prog 13 #[.slice A n c] w fun e w' => (∃ k, e = .returned (.int .i64 k) ∧ ((k = 0 ∧ Fine ws) ∨ Bad ws k)) ∧ ∃ q, w' = w.drewN q := by
  unfold maxLen at hn
  have hl : ws.length = n := h.1
  by_cases h6 : 6 < n
  · go_enter Tryd.func13, Tryd.ntmps13
    go_wp2
    go_ret
    exact ⟨⟨4, rfl, .inr (.inl ⟨rfl, by omega⟩)⟩, 0, rfl⟩
  · have H := hid h
    have HS := hid hs
    have HL := hid hl
    clear h hs hl
    go_enter Tryd.func13, Tryd.ntmps13
    go_wp2
    go_loopw [3] (fun x wr => ∃ i q : Nat, i ≤ n ∧ x = .int .i64 i ∧ Hid (FineTo ws i) ∧ wr = w.drewN q) (fun x _ => n - (intOf x).toNat)
    case atStart => exact ⟨0, 0, by omega, rfl, hid (fun j hj => by omega), rfl⟩
    case round =>
      obtain ⟨i, q, hi, rfl, HF, rfl⟩ := hrel
      by_cases hlt : i < n
      · obtain ⟨g, off, rfl, hg, hc⟩ := H.out.2 (by omega)
        have hx : w.cell? ⟨g, off + i, none⟩ = some (.string (wat ws i)) := hc i hlt
        have hsz := HS.out i hlt
        have hbad : ∀ k, BadAt ws i k → Bad ws k := fun k hk => .inr ⟨by have := HL.out; omega, i, by have := HL.out; omega, HF.out, hk⟩
        have HB := hid hbad
        have HC := hid hc
        clear hc hbad
        by_cases h8 : 8 < (wat ws i).size
        · have HR := hid (HB.out 4 (.inl ⟨rfl, h8⟩))
          clear HB
          generalize wat ws i = s at hx hsz h8
          unfold maxLen at hsz
          go_wp2
          go_ret
          exact ⟨⟨4, rfl, .inr HR.out⟩, _, rfl⟩
        · by_cases h0 : (wat ws i).size = 0
          · have HR := hid (HB.out 5 (.inr (.inl ⟨rfl, h0⟩)))
            clear HB
            generalize wat ws i = s at hx hsz h0 h8
            have hq : ((s.size : Int) == 0) = true := by simp [h0]
            have h1 : s.size ≤ 8 := by omega
            clear h0 h8
            go_wp2
            go_ret
            exact ⟨⟨5, rfl, .inr HR.out⟩, _, rfl⟩
          · have h1 : (wat ws i).size ≤ 8 := by omega
            have hq : (((wat ws i).size : Int) == 0) = false := beq_eq_false_iff_ne.2 (by omega)
            have h0' : 0 < (wat ws i).size := by omega
            clear h0 h8
            obtain ⟨s, hse⟩ : ∃ z, z = wat ws i := ⟨_, rfl⟩
            have HSE := hid hse
            rw [← hse] at hx hsz h1 hq h0'
            clear hse
            obtain ⟨Q, hQ⟩ : ∃ z, z = q := ⟨_, rfl⟩
            subst hQ
            go_wp2
            go_loopw [4] (fun x wr => ∃ k q : Nat, k ≤ i ∧ x = .int .i64 k ∧ Hid (∀ m, m < k → wat ws m ≠ s) ∧ wr = w.drewN q) (fun x _ => i - (intOf x).toNat)
            case atStart => exact ⟨0, Q, by omega, rfl, hid (fun m hm => by omega), rfl⟩
            case round =>
              obtain ⟨k, q, hk, rfl, HM, rfl⟩ := hrel
              by_cases hlt2 : k < i
              · have hkn : k < n := by omega
                have hxk : w.cell? ⟨g, off + k, none⟩ = some (.string (wat ws k)) := HC.out k hkn
                by_cases he : wat ws k = s
                · have HR := hid (HB.out 6 (.inr (.inr ⟨rfl, by rw [← HSE.out]; exact h1, by rw [← HSE.out]; exact h0', k, hlt2, by rw [← HSE.out]; exact he⟩)))
                  have hsm := same_yes he
                  clear he
                  generalize wat ws k = t at hxk hsm
                  go_wp2
                  go_quiet (fail)
                  go_wp2
                  go_ret
                  exact ⟨⟨6, rfl, .inr HR.out⟩, by first | exact ⟨_, rfl⟩ | (simp only [World.drewN_drewN]; exact ⟨_, rfl⟩)⟩
                · have HM2 := hid (show ∀ m, m < k + 1 → wat ws m ≠ s from fun m hm => by
                    by_cases e : m = k
                    · subst e; exact he
                    · exact HM.out m (by omega))
                  have hsm := same_no he
                  clear he HM
                  generalize wat ws k = t at hxk hsm
                  go_wp2
                  go_quiet (fail)
                  go_wp2
                  go_roundw
                  case rel => exact ⟨k + 1, _, by omega, by go_num, HM2, by first | rfl | rw [World.drewN_drewN]⟩
                  case measure => simp [intOf]; omega
              · have HF2 := hid (fineTo_succ HF.out (by rw [← HSE.out]; exact h1) (by rw [← HSE.out]; exact h0') (fun m hm => by rw [← HSE.out]; exact HM.out m (by omega)))
                clear HM
                go_wp2
                go_roundw
                case rel => exact ⟨i + 1, _, by omega, by go_num, HF2, rfl⟩
                case measure => simp [intOf]; omega
      · have HR := hid (show Fine ws from ⟨by have := HL.out; omega, by rw [show ws.length = i by have := HL.out; omega]; exact HF.out⟩)
        clear HF
        go_wp2
        go_ret
        exact ⟨⟨0, rfl, .inl ⟨rfl, HR.out⟩⟩, _, rfl⟩
theorem rwords_ok (A : Option Addr) (n c : Nat) (ws : List ByteArray) (w : World) (hf : Fine ws) (h : IsStrs w w.heap.size A n ws) :
    Calls Tryd.prog 13 #[.slice A n c] w fun e w' => e = .returned (.int .i64 0) ∧ ∃ q, w' = w.drewN q :=
  (rwords_any A n c ws w (by have := h.1; have := hf.1; unfold maxLen; omega) (fun i hi => by have := hf.2 i (by have := h.1; omega); unfold maxLen; omega) h).mono fun e w' ⟨⟨k, he, hk⟩, hq⟩ =>
    ⟨by rcases hk with ⟨rfl, _⟩ | hk
        · exact he
        · exact (bad_fine hk hf).elim, hq⟩
theorem rwords_bad (A : Option Addr) (n c : Nat) (ws : List ByteArray) (k : Int) (w : World) (hn : n ≤ maxLen) (hs : ∀ i, i < n → (wat ws i).size ≤ maxLen) (hk : Bad ws k) (h : IsStrs w w.heap.size A n ws) :
    Calls Tryd.prog 13 #[.slice A n c] w fun e w' => e = .returned (.int .i64 k) ∧ ∃ q, w' = w.drewN q :=
  (rwords_any A n c ws w hn hs h).mono fun e w' ⟨⟨k', he, hk'⟩, hq⟩ =>
    ⟨by rcases hk' with ⟨_, hf⟩ | hk'
        · exact (bad_fine hk hf).elim
        · rw [he, bad_one hk' hk], hq⟩
end Go.Proofs.YtlfncplldppncaaDoor

/-
  The walk of KraftSays: it returns true at every list of numbers and every list of words. Conditions: the row's own sizes; errors.errorType as the program's text lays it.
-/
namespace Go.Proofs.YtlfncplldppncaaDoor
open Go.RowKit

theorem IsStrs.on {w w' : World} {n : Nat} {A : Option Addr} {ws : List ByteArray} (h : IsStrs w w.heap.size A n ws) (hb : Below w.heap.size w w') : IsStrs w' w'.heap.size A n ws := (h.below hb).mono hb.size
theorem ints_on {w w' : World} {n : Nat} {A : Option Addr} {xs : List Int} (h : IsInts w w.heap.size A n xs) (hb : Below w.heap.size w w') : IsInts w' w'.heap.size A n xs := h.keep hb.size fun _ _ hp => hb.cell hp
theorem strs_nil (w : World) : IsStrs w w.heap.size none 0 [] := ⟨rfl, fun h => absurd h (by omega)⟩
theorem strs_blk {w : World} {L n : Nat} {e : TypeId} {ws : List ByteArray} (h : BlkAt w L e (ws.map Value.string)) (hn : ws.length = n) : IsStrs w w.heap.size (some ⟨L, 0, none⟩) n ws := by
  refine ⟨hn, fun _ => ⟨L, 0, rfl, h.lt, fun j hj => ?_⟩⟩
  rw [Nat.zero_add]
  refine h.cell ?_
  rw [List.getElem?_map, wat_get (by omega)]
  rfl
/-- No word begins another one, for the pairs ahead of (i, k). -/
def PfTo (W : List (List UInt8)) (i k : Nat) : Prop := ∀ i' k', i' < W.length → k' < W.length → i' ≠ k' → (i' < i ∨ (i' = i ∧ k' < k)) → ¬ W.getD k' [] <+: W.getD i' []
theorem pfTo_row {W : List (List UInt8)} {i : Nat} : PfTo W i W.length ↔ PfTo W (i + 1) 0 :=
  ⟨fun h i' k' h1 h2 h3 h4 => h i' k' h1 h2 h3 (by omega), fun h i' k' h1 h2 h3 h4 => h i' k' h1 h2 h3 (by omega)⟩
theorem pfTo_skip {W : List (List UInt8)} {i k : Nat} (h : i = k ∨ ¬ W.getD k [] <+: W.getD i []) : PfTo W i (k + 1) ↔ PfTo W i k := by
  refine ⟨fun hp i' k' h1 h2 h3 h4 => hp i' k' h1 h2 h3 (by omega), fun hp i' k' h1 h2 h3 h4 => ?_⟩
  by_cases e : i' = i ∧ k' = k
  · obtain ⟨rfl, rfl⟩ := e
    rcases h with h | h
    · exact absurd h h3
    · exact h
  · exact hp i' k' h1 h2 h3 (by omega)
theorem pfTo_hit {W : List (List UInt8)} {i k : Nat} (hi : i < W.length) (hk : k < W.length) (hne : i ≠ k) (h : W.getD k [] <+: W.getD i []) : ¬ PfTo W i (k + 1) := fun hp => hp i k hi hk hne (.inr ⟨rfl, by omega⟩) h
theorem pfTo_end {W : List (List UInt8)} : PfTo W W.length 0 ↔ Pfree W :=
  ⟨fun h i k hi hk hne => h i k hi hk hne (.inl hi), fun h i k hi hk hne _ => h i k hi hk hne⟩
theorem bad_len {ws : List ByteArray} {k : Int} (h : Bad ws k) : 0 < ws.length := by
  rcases h with ⟨_, h⟩ | ⟨_, i, hi, _⟩ <;> omega

set_option maxHeartbeats 8000000 in
set_option maxRecDepth 100000 in
theorem kraftSays_any (A B : Option Addr) (n c m d : Nat) (ys : List Int) (ws : List ByteArray) (w : World) (hl : IsInts w w.heap.size A n ys) (hm : m ≤ maxLen) (hs : ∀ i, i < m → (wat ws i).size ≤ maxLen) (h : IsStrs w w.heap.size B m ws) (hg : Laid w) :
    Calls Tryd.prog 3 #[.slice A n c, .slice B m d] w fun e w' => e = .returned (.bool true) ∧ Below w.heap.size w w' := by
  have hp := hg.pos
  have HG := fun (W : World) (hW : Below w.heap.size w W) => hid (hg.below hp hW)
  have HL := fun (W : World) (hW : Below w.heap.size w W) => hid (ints_on hl hW)
  have HS := fun (W : World) (hW : Below w.heap.size w W) => hid (h.on hW)
  have hwl := h.1
  have hb0 : Below w.heap.size w w := Below.refl _ _
  have HSz := hid hs
  have HMm := hid hm
  have hn := hl.1
  have HWl := hid hwl
  clear hl h hs hm hg hwl
  obtain ⟨k, hk⟩ := lenC_or ys
  go_enter Tryd.func3, Tryd.ntmps3
  by_cases hk0 : k = 0
  rotate_left
  focus
    have kb : (k == 0) = false := by simpa using hk0
    have H1 := hid (rlengths_any A n c ys w (HL w hb0).out)
    have H2 := hid (kcheck_any A n c ys w (HL w hb0).out)
    have H3 := fun W hW => hid (kroom_bad A n c ys k W (HL W hW).out hk hk0)
    have H4 := fun W hW => hid (kcodes_bad A n c ys k W (HL W hW).out hk hk0)
    have H5 := fun W => hid (texts_yes none none 0 0 0 [] W (by omega) (strs_nil W) (strs_nil W))
    have HK := hid hk
    have HK0 := hid hk0
    clear hk hk0 HL hn
    go_wp2_with fail
    refine H1.out.mono ?_
    rintro e w1 ⟨⟨k', hk', rfl⟩, hw1⟩
    subst w1
    obtain rfl := lenC_one hk' HK.out
    clear hk' H1
    go_wp2_with fail
    refine H2.out.mono ?_
    rintro e w1 ⟨h1, hw1⟩
    subst w1
    obtain ⟨h2, rfl⟩ | ⟨k'', h2, _, rfl⟩ := h1
    · exact absurd (lenC_one HK.out h2) HK0.out
    obtain rfl := lenC_one h2 HK.out
    clear h2 H2 HK HK0
    go_wp2_with fail
    refine (error_err _ _ (HG _ hb0).out).mono ?_
    rintro e w1 ⟨rfl, hb1⟩
    go_wp2_with fail
    refine (H3 _ hb1).out.mono ?_
    rintro e w2 ⟨rfl, hb2⟩
    have hbB := hb1.trans (hb2.mono hb1.size)
    clear H3 hb1 hb2
    go_wp2_with fail
    refine (error_err _ _ (HG _ hbB).out).mono ?_
    rintro e w3 ⟨rfl, hb3⟩
    have hbC := hbB.trans (hb3.mono hbB.size)
    clear hbB hb3
    go_wp2_with fail
    refine (H4 _ hbC).out.mono ?_
    rintro e w4 ⟨rfl, hb4⟩
    have hbD := hbC.trans (hb4.mono hbC.size)
    clear H4 hbC hb4
    go_wp2_with fail
    refine (error_err _ _ (HG _ hbD).out).mono ?_
    rintro e w5 ⟨rfl, hb5⟩
    have hbE := hbD.trans (hb5.mono hbD.size)
    clear hbD hb5
    go_wp2_with fail
    refine (H5 _).out.mono ?_
    rintro e wz ⟨rfl, q, hwz⟩
    have hbZ : Below w.heap.size w wz := by rw [hwz]; exact below_drewN hbE q
    clear hwz hbE H5 kb
    go_wp2_with fail
  rotate_left
  subst hk0
  obtain ⟨h10, hE, hok⟩ := lenC_good hk
  have hEl : (ys.map Int.toNat).length = n := by rw [List.length_map]; exact hn
  generalize ys.map Int.toNat = E at hE hok hEl
  subst hE
  rw [nums_len] at h10 hn
  have h10n : n ≤ 10 := by omega
  have H1 := hid (rlengths_any A n c (nums E) w (HL w hb0).out)
  have H2 := hid (kcheck_any A n c (nums E) w (HL w hb0).out)
  have HR := hid (rroom_any A n c E w h10n (fun i hi => (hok i (by omega)).2) (HL w hb0).out)
  have H3 := fun W hW => hid (kroom_ok A n c E W (HL W hW).out h10n hok)
  have HEl := hid hEl
  have HOk := hid hok
  have HK := hid hk
  clear hk hEl hn h10 hok
  go_wp2_with fail
  refine H1.out.mono ?_
  rintro e w1 ⟨⟨k', hk', rfl⟩, hw1⟩
  subst w1
  obtain rfl := lenC_one hk' HK.out
  clear hk' H1
  go_wp2_with fail
  refine H2.out.mono ?_
  rintro e w1 ⟨h1, hw1⟩
  subst w1
  obtain rfl : e = .returned .nilIface := by
    rcases h1 with ⟨_, h1⟩ | ⟨k'', h2, hk2, _⟩
    · exact h1
    · exact absurd (lenC_one h2 HK.out) hk2
  clear h1 H2 HK
  go_wp2_with fail
  refine (error_nil _).mono ?_
  rintro e w1 ⟨rfl, hw1⟩
  subst w1
  by_cases hr : rm 12 E ≤ 4096
  rotate_left
  focus
    have H4 := fun W hW => hid (kcodes_clash A n c E W (HL W hW).out h10n HOk.out (by omega))
    have H5 := fun W => hid (texts_yes none none 0 0 0 [] W (by omega) (strs_nil W) (strs_nil W))
    have r1 : 4096 < ((rm 12 E : Nat) : Int) := by omega
    generalize rm 12 E = R at HR H3 r1
    clear hr HL
    go_wp2_with fail
    refine HR.out.mono ?_
    rintro e w1 ⟨rfl, hw1⟩
    subst w1
    clear HR
    go_wp2_with fail
    refine (H3 _ hb0).out.mono ?_
    rintro e w2 ⟨rfl, hbB⟩
    clear H3
    go_wp2_with fail
    refine (error_nil _).mono ?_
    rintro e w3 ⟨rfl, hw3⟩
    subst w3
    go_wp2_with fail
    refine (H4 _ hbB).out.mono ?_
    rintro e w4 ⟨rfl, hb4⟩
    have hbD := hbB.trans (hb4.mono hbB.size)
    clear H4 hbB hb4
    go_wp2_with fail
    refine (error_err _ _ (HG _ hbD).out).mono ?_
    rintro e w5 ⟨rfl, hb5⟩
    have hbE := hbD.trans (hb5.mono hbD.size)
    clear hbD hb5
    go_wp2_with fail
    refine (H5 _).out.mono ?_
    rintro e wz ⟨rfl, q, hwz⟩
    have hbZ : Below w.heap.size w wz := by rw [hwz]; exact below_drewN hbE q
    clear hwz hbE H5 HEl HOk
    go_wp2_with fail
  rotate_left 2
  focus
    have H4 := fun W hW => hid (kcodes_ok A n c E W (HL W hW).out h10n HOk.out hr)
    have H4r := fun W hW => hid (rcodes_any A n c E W (HL W hW).out h10n HOk.out hr)
    have r1 : ¬ (4096 < ((rm 12 E : Nat) : Int)) := by omega
    generalize rm 12 E = R at HR H3 r1
    clear hr HL
    go_wp2_with fail
    refine HR.out.mono ?_
    rintro e w1 ⟨rfl, hw1⟩
    subst w1
    clear HR
    go_wp2_with fail
    refine (H3 _ hb0).out.mono ?_
    rintro e w2 ⟨rfl, hbB⟩
    clear H3
    go_wp2_with fail
    refine (error_nil _).mono ?_
    rintro e w3 ⟨rfl, hw3⟩
    subst w3
    go_wp2_with fail
    refine (H4r _ hbB).out.mono ?_
    rintro e w4 ⟨L, rfl, hLw, hBl, hb4⟩
    have hbD := hbB.trans (hb4.mono hbB.size)
    have HI := hid (strs_blk (n := n) hBl (by rw [codeT_len]; exact HEl.out))
    clear H4r hbB hb4 hBl hLw
    go_wp2_with fail
    refine (H4 _ hbD).out.mono ?_
    rintro e w5 ⟨B5, c5, rfl, hI5, hb5⟩
    have hbE := hbD.trans (hb5.mono hbD.size)
    have H5 := hid (texts_yes B5 (some ⟨L, 0, none⟩) n c5 n _ w5 (by omega) hI5 (HI.out.on hb5))
    clear H4 hbD hb5 hI5 HI
    go_wp2_with fail
    refine (error_nil _).mono ?_
    rintro e w6 ⟨rfl, hw6⟩
    subst w6
    go_wp2_with fail
    refine H5.out.mono ?_
    rintro e wz ⟨rfl, q, hwz⟩
    have hbZ : Below w.heap.size w wz := by rw [hwz]; exact below_drewN hbE q
    clear hwz hbE H5 HEl HOk
    go_wp2_with fail
  all_goals (
    rcases words_or ws with hf | ⟨kw, hkw⟩
    rotate_left
    · have m0 : 0 < m := by rw [← HWl.out]; exact bad_len hkw
      have m1 : (0 : Int) < (m : Int) := by omega
      have kb : (kw == 0) = false := by rcases bad_code hkw with rfl | rfl | rfl <;> rfl
      have H6 := hid (rwords_bad B m d ws kw wz HMm.out HSz.out hkw (HS _ hbZ).out)
      have H7 := fun W hW => hid (kfree_bad B m d ws kw W HMm.out HSz.out hkw (HS W hW).out)
      have H8 := fun W hW => hid (kapart_bad B m d ws kw W HMm.out HSz.out hkw (HS W hW).out)
      clear hkw HS HSz HMm HWl
      refine H6.out.mono ?_
      rintro e wa ⟨rfl, q6, hwa⟩
      have hbA : Below w.heap.size w wa := by rw [hwa]; exact below_drewN hbZ q6
      clear hwa H6 hbZ
      go_wp2_with fail
      go_loopw [14, 15] (fun v x wr => x = .int .i64 0 ∧ v = .bool false ∧ wr = wa) (fun _ _ _ => 0)
      case atStart => exact ⟨rfl, rfl, rfl⟩
      case round =>
        obtain ⟨rfl, rfl, hwr⟩ := hrel
        subst wr
        go_wp2_with fail
        refine (H7 _ hbA).out.mono ?_
        rintro e w7 ⟨rfl, hb7⟩
        have hbB := hbA.trans (hb7.mono hbA.size)
        clear H7 hb7
        go_wp2_with fail
        refine (error_err _ _ (HG _ hbB).out).mono ?_
        rintro e w8 ⟨rfl, hb8⟩
        have hbC := hbB.trans (hb8.mono hbB.size)
        clear hb8 hbB
        go_wp2_with fail
        refine (H8 _ hbC).out.mono ?_
        rintro e w9 ⟨rfl, hb9⟩
        have hbD := hbC.trans (hb9.mono hbC.size)
        clear H8 hb9 hbC
        go_wp2_with fail
        refine (error_err _ _ (HG _ hbD).out).mono ?_
        rintro e wb ⟨rfl, hb10⟩
        have hbE := hbD.trans (hb10.mono hbD.size)
        clear hb10 hbD
        go_wp2_with fail
        go_ret
        exact ⟨by first | rfl | simp, hbE⟩
    · have h6 : m ≤ 6 := by rw [← HWl.out]; exact hf.1
      have H6 := hid (rwords_ok B m d ws wz hf (HS _ hbZ).out)
      have H7 := fun W hW => hid (kfree_ok B m d ws W hf (HS W hW).out)
      have H8 := fun W hW => hid (kapart_ok B m d ws W hf (HS W hW).out)
      have H9 := fun W hW => hid (rapart_any B m d ws W hf (HS W hW).out)
      have HWn : Hid ((wl ws).length = m) := hid (by rw [wl_len]; exact HWl.out)
      have HWg : Hid (∀ i, i < m → (wl ws).getD i [] = bs (wat ws i) ∧ (wat ws i).size ≤ 8) := hid (fun i hi => ⟨wl_getD (by rw [HWl.out]; exact hi), (hf.2 i (by rw [HWl.out]; exact hi)).1⟩)
      clear hf HSz HMm HWl
      refine H6.out.mono ?_
      rintro e wa ⟨rfl, q6, hwa⟩
      have hbA : Below w.heap.size w wa := by rw [hwa]; exact below_drewN hbZ q6
      have HX : Hid (0 < m → ∃ g off, B = some ⟨g, off, none⟩ ∧ ∀ i, i < m → wa.cell? ⟨g, off + i, none⟩ = some (.string (wat ws i))) := hid (fun h0 => by
        obtain ⟨g, off, e, _, hc⟩ := (HS _ hbA).out.2 h0
        exact ⟨g, off, e, hc⟩)
      clear hwa H6 hbZ HS
      go_wp2_with fail
      go_loopw [14, 15] (fun v x wr => ∃ (i q : Nat) (b : Bool), i ≤ m ∧ x = .int .i64 i ∧ v = .bool b ∧ Hid (b = true ↔ PfTo (wl ws) i 0) ∧ wr = wa.drewN q) (fun _ x _ => m - (intOf x).toNat)
      case atStart => exact ⟨0, 0, true, by omega, rfl, rfl, hid ⟨fun _ i' k' _ _ _ h4 => by omega, fun _ => rfl⟩, rfl⟩
      case round =>
        obtain ⟨i, q, b, him, rfl, rfl, HB, hwr⟩ := hrel
        subst wr
        by_cases hlt : i < m
        · have i1 : (i : Int) < (m : Int) := by omega
          go_wp2_with fail
          go_loopw [14, 16] (fun v x wr => ∃ (k q : Nat) (b : Bool), k ≤ m ∧ x = .int .i64 k ∧ v = .bool b ∧ Hid (b = true ↔ PfTo (wl ws) i k) ∧ wr = wa.drewN q) (fun _ x _ => m - (intOf x).toNat)
          case atStart => exact ⟨0, q, b, by omega, rfl, rfl, HB, rfl⟩
          case round =>
            clear HB
            obtain ⟨k, q2, b2, hkm, rfl, rfl, HB, hwr⟩ := hrel
            subst wr
            by_cases hlk : k < m
            · have k1 : (k : Int) < (m : Int) := by omega
              by_cases hik : i = k
              · have hne : ((i : Int) != (k : Int)) = false := by simp [hik]
                have HB2 : Hid (b2 = true ↔ PfTo (wl ws) i (k + 1)) := hid (HB.out.trans (pfTo_skip (.inl hik)).symm)
                clear hik HB
                go_wp2_with fail
                go_quiet (fail)
                go_wp2_with fail
                go_roundw
                case rel => exact ⟨k + 1, _, b2, by omega, by go_num, rfl, HB2, by first | rfl | exact World.drewN_drewN _ _ _⟩
                case measure => simp [intOf]; omega
              · have hne : ((i : Int) != (k : Int)) = true := by simp; omega
                obtain ⟨g, off, rfl, hc⟩ := HX.out (by omega)
                obtain ⟨ei, si⟩ := HWg.out i hlt
                obtain ⟨ek, sk⟩ := HWg.out k hlk
                have HBg := fun W => hid (begins_any (wat ws i) (wat ws k) W (by omega) (by omega))
                obtain ⟨wd, hwd⟩ : ∃ wd, wd = wa.drewN q2 := ⟨_, rfl⟩
                have c1 : wd.cell? ⟨g, off + i, none⟩ = some (.string (wat ws i)) := by rw [hwd]; exact hc i hlt
                have c2 : wd.cell? ⟨g, off + k, none⟩ = some (.string (wat ws k)) := by rw [hwd]; exact hc k hlk
                rw [← hwd]
                have HWd := hid hwd
                by_cases hp : bs (wat ws k) <+: bs (wat ws i)
                · have HB2 : Hid (false = true ↔ PfTo (wl ws) i (k + 1)) := hid ⟨fun h => (by cases h), fun h => absurd h (pfTo_hit (by rw [HWn.out]; exact hlt) (by rw [HWn.out]; exact hlk) hik (by rw [ei, ek]; exact hp))⟩
                  rw [begB_iff.2 hp] at HBg
                  generalize wat ws i = X1 at c1 HBg
                  generalize wat ws k = X2 at c2 HBg
                  clear hik hp hwd hc ei ek si sk HB
                  go_wp2_with fail
                  go_quiet ((go_at_call 14; exact Calls.quiet_of_same (HBg _).out))
                  go_wp2_with fail
                  go_roundw
                  case rel => exact ⟨k + 1, _, false, by omega, by go_num, rfl, HB2, by rw [HWd.out]; first | rfl | exact World.drewN_drewN _ _ _⟩
                  case measure => simp [intOf]; omega
                · have HB2 : Hid (b2 = true ↔ PfTo (wl ws) i (k + 1)) := hid (HB.out.trans (pfTo_skip (.inr (by rw [ei, ek]; exact hp))).symm)
                  rw [begB_no hp] at HBg
                  generalize wat ws i = X1 at c1 HBg
                  generalize wat ws k = X2 at c2 HBg
                  clear hik hp hwd hc ei ek si sk HB
                  go_wp2_with fail
                  go_quiet ((go_at_call 14; exact Calls.quiet_of_same (HBg _).out))
                  go_wp2_with fail
                  go_roundw
                  case rel => exact ⟨k + 1, _, b2, by omega, by go_num, rfl, HB2, by rw [HWd.out]; first | rfl | exact World.drewN_drewN _ _ _⟩
                  case measure => simp [intOf]; omega
            · obtain rfl : k = m := by omega
              have HB2 : Hid (b2 = true ↔ PfTo (wl ws) (i + 1) 0) := hid (HB.out.trans (by rw [← pfTo_row, HWn.out]))
              clear HB
              go_wp2_with fail
              go_roundw
              case rel => exact ⟨i + 1, q2, b2, by omega, by go_num, rfl, HB2, by first | rfl | trivial⟩
              case measure => simp [intOf]; omega
        · obtain rfl : i = m := by omega
          have HB2 : Hid (b = true ↔ Pfree (wl ws)) := hid (HB.out.trans (by rw [← pfTo_end, HWn.out]))
          have hbQ : Below w.heap.size w (wa.drewN q) := below_drewN hbA q
          generalize wa.drewN q = wb at hbQ ⊢
          clear HB HX hbA
          go_wp2_with fail
          refine (H7 _ hbQ).out.mono ?_
          rintro e w7 ⟨b7, h7, rfl, hb7⟩
          obtain rfl : b7 = b := by rw [Bool.eq_iff_iff, h7, HB2.out]
          have hbB := hbQ.trans (hb7.mono hbQ.size)
          clear H7 hb7 h7 HB2 hbQ
          go_wp2_with fail
          refine (error_nil _).mono ?_
          rintro e w8 ⟨rfl, hw8⟩
          subst w8
          go_wp2_with fail
          refine (H8 _ hbB).out.mono ?_
          rintro e w9 ⟨b9, h9, rfl, hb9⟩
          have hbD := hbB.trans (hb9.mono hbB.size)
          have HB9 := hid h9
          clear H8 hb9 h9 hbB
          go_wp2_with fail
          refine (error_nil _).mono ?_
          rintro e w10 ⟨rfl, hw10⟩
          subst w10
          go_wp2_with fail
          refine (H9 _ hbD).out.mono ?_
          rintro e w11 ⟨h11, hb11⟩
          have hbE := hbD.trans (hb11.mono hbD.size)
          have h12 : e = .returned (.bool b9) := by
            rcases h11 with ⟨hu, rfl⟩ | ⟨hu, rfl⟩
            · rw [HB9.out.2 hu]
            · cases b9 with
              | false => rfl
              | true => exact absurd (HB9.out.1 rfl) hu
          subst h12
          clear h11 hb11 H9 HB9 hbD
          go_wp2_with fail
          go_ret
          exact ⟨by first | rfl | simp, hbE⟩)
end Go.Proofs.YtlfncplldppncaaDoor
