/-
  Several of this claim's texts in one (Cutf, Ints, InT, TopKW): what each proves stands at its own head. Conditions: as each says.
-/
import Derived.Test.YtlfncplldppncaaProg
import Derived.Laws.Concat
import Derived.Test.YtlfncplldppncaaQf

/-
  Plain mathematics, without a program: what is written in words none of which begins another one is read by the longest one each time; words as texts that are let in. No condition.
-/
namespace Go.Proofs.Ytlfncplldppncaa

theorem cut_free {W : List (List UInt8)} (hw : Okw W) (hp : Pfree W) : ∀ a, InW W a → CutR (wds W) (catW W a) (some (a.map fun (i : Nat) => (i : Int))) := by
  intro a
  induction a with
  | nil => intro _; exact CutR.fin
  | cons i a ih =>
    intro ha
    obtain ⟨hi, ha⟩ := ha.cons
    have hx : W[i]? = some (W.getD i []) := by rw [List.getD_eq_getElem?_getD, List.getElem?_eq_getElem hi]; rfl
    rw [catW_cons]
    have hm : (W.getD i [], i) ∈ wds W := wds_mem.2 hx
    have hne : W.getD i [] ++ catW W a ≠ [] := fun e => word_ne hw hi (List.append_eq_nil_iff.1 e).1
    have hl : Lg (wds W) (W.getD i [] ++ catW W a) (i : Nat) := by
      refine .inr ⟨_, i, hm, rfl, List.prefix_append _ _, ?_⟩
      rintro ⟨y, k⟩ hy hpre
      have hk := wds_mem.1 hy
      have hkl : k < W.length := (List.getElem?_eq_some_iff.1 hk).1
      have ey : W.getD k [] = y := by rw [List.getD_eq_getElem?_getD, hk]; rfl
      by_cases e : k = i
      · subst e
        rw [← ey]
        exact Nat.le_refl _
      · rcases List.prefix_or_prefix_of_prefix hpre (List.prefix_append (W.getD i []) (catW W a)) with h | h
        · rw [← ey] at h
          exact absurd h (hp i k hi hkl (Ne.symm e))
        · rw [← ey] at h
          exact absurd h (hp k i hkl hi e)
    have hs := CutR.step hne hl hm (r := some (a.map fun (i : Nat) => (i : Int))) (by rw [List.drop_left]; exact ih ha)
    exact hs
theorem fine_ok {ws : List ByteArray} (h : Fine ws) : Okw (wl ws) := by
  have h1 := fine_wl h
  exact ⟨h1.1, fun x hx e => by have := (h1.2 x hx).2; rw [e] at this; simp at this⟩
end Go.Proofs.Ytlfncplldppncaa

/-
  Contract of letterbecksame.Ints: it answers whether two lists are the same, and changes nothing. Conditions: slices of at most 2^40 elements.
-/
namespace Go.Proofs.Ytlfncplldppncaa
open Go.RowKit

set_option maxHeartbeats 400000 in
theorem ints_any (A B : Option Addr) (n m c d : Nat) (xs ys : List Int) (w : World) (K L : Nat) (hn : n ≤ 1099511627776) (hm : m ≤ 1099511627776) (ha : IsInts w K A n xs) (hb : IsInts w L B m ys) :
    Calls Try.prog 12 #[.slice A n c, .slice B m d] w fun e w' => e = .returned (.bool (sameInts xs ys)) ∧ ∃ q, w' = w.drewN q := by
  by_cases hnm : n = m
  · subst hnm
    have HA := hid ha
    have HB := hid hb
    clear ha hb
    go_enter Try.func12, Try.ntmps12
    go_wp2
    go_loopw [5] (fun i wr => ∃ k q : Nat, k ≤ n ∧ i = .int .i64 k ∧ Hid (xs.take k = ys.take k) ∧ wr = w.drewN q) (fun i _ => n - (intOf i).toNat)
    case atStart => exact ⟨0, 0, Nat.zero_le _, rfl, hid (by simp), rfl⟩
    case round =>
      obtain ⟨k, q, hk, rfl, HT, rfl⟩ := hrel
      by_cases hlt : k < n
      · obtain ⟨g, off, rfl, _, hca⟩ := HA.out.2 (by omega)
        obtain ⟨g', off', rfl, _, hcb⟩ := HB.out.2 (by omega)
        have hx := hca k hlt
        have hy := hcb k hlt
        clear hca hcb
        have hlx : k < xs.length := by have := HA.out.1; omega
        have hly : k < ys.length := by have := HB.out.1; omega
        generalize hex : xs.getD k 0 = X at hx
        generalize hey : ys.getD k 0 = Y at hy
        by_cases he : X = Y
        · have HS := hid (take_eq_succ hlx hly HT.out (by rw [hex, hey, he]))
          subst he
          clear hex hey HT hlx hly
          go_wp2
          go_quiet (fail)
          go_wp2
          go_roundw
          case rel => exact ⟨k + 1, _, by omega, by go_num, HS, rfl⟩
          case measure => simp [intOf]; omega
        · have HS := hid (ne_of_getD (xs := xs) (ys := ys) (k := k) (by rw [hex, hey]; exact he))
          have hne : (X != Y) = true := by simpa using he
          clear hex hey HT hlx hly he
          go_wp2
          go_quiet (fail)
          go_wp2
          go_ret
          exact ⟨ret_bool HS.out.symm, by first | exact ⟨_, rfl⟩ | exact ⟨_, World.drewN_drewN _ _ _⟩⟩
      · have HS := hid (same_of_take (k := k) (by have := HA.out.1; omega) (by have := HB.out.1; omega) HT.out)
        clear HT
        go_wp2
        go_ret
        exact ⟨ret_bool HS.out.symm, _, rfl⟩
  · have HS := hid (ne_of_len (xs := xs) (ys := ys) (by rw [ha.1, hb.1]; exact hnm))
    have hne : ((n : Int) != (m : Int)) = true := by simp; omega
    clear ha hb
    go_enter Try.func12, Try.ntmps12
    go_wp2
    go_ret
    exact ⟨ret_bool HS.out.symm, 0, rfl⟩

theorem ints_yes (A B : Option Addr) (n m c d : Nat) (xs : List Int) (w : World) (K L : Nat) (hn : n ≤ 1099511627776) (hm : m ≤ 1099511627776) (ha : IsInts w K A n xs) (hb : IsInts w L B m xs) :
    Calls Try.prog 12 #[.slice A n c, .slice B m d] w fun e w' => e = .returned (.bool true) ∧ ∃ q, w' = w.drewN q :=
  (ints_any A B n m c d xs xs w K L hn hm ha hb).mono fun _ _ ⟨he, hw⟩ => ⟨by rw [he, sameInts_true rfl], hw⟩
/-- The same, of the world behind it only that nothing has turned. -/
theorem ints_ok (A B : Option Addr) (n m c d : Nat) (xs : List Int) (w : World) (K L : Nat) (hn : n ≤ 1099511627776) (hm : m ≤ 1099511627776) (ha : IsInts w K A n xs) (hb : IsInts w L B m xs) :
    Calls Try.prog 12 #[.slice A n c, .slice B m d] w fun e w' => e = .returned (.bool true) ∧ Below w.heap.size w w' :=
  (ints_yes A B n m c d xs w K L hn hm ha hb).mono fun _ _ ⟨he, q, hw⟩ => ⟨he, by rw [hw]; exact below_drewN (Below.refl _ _) q⟩
end Go.Proofs.Ytlfncplldppncaa

/-
  Contract of letterbecktop.in: it answers whether a number lies between two others, and changes nothing. No condition.
-/
namespace Go.Proofs.Ytlfncplldppncaa
open Go.RowKit

def inB (n lo hi : Int) : Bool := decide (lo ≤ n) && decide (n ≤ hi)
set_option maxHeartbeats 400000 in
theorem in_any (n lo hi : Int) (w : World) : Calls Try.prog 15 #[.int .i64 n, .int .i64 lo, .int .i64 hi] w fun e w' => e = .returned (.bool (inB n lo hi)) ∧ w' = w := by
  by_cases h : lo ≤ n
  · go_enter Try.func15, Try.ntmps15
    go_wp2
    go_ret
    exact ⟨ret_bool (by simp [inB, h]), rfl⟩
  · have hd : decide (lo ≤ n) = false := by simpa using h
    go_enter Try.func15, Try.ntmps15
    go_wp2
    go_ret
    exact ⟨ret_bool (by simp [inB, hd]), rfl⟩

theorem in_yes (n lo hi : Int) (w : World) (h1 : lo ≤ n) (h2 : n ≤ hi) : Calls Try.prog 15 #[.int .i64 n, .int .i64 lo, .int .i64 hi] w fun e w' => e = .returned (.bool true) ∧ w' = w :=
  (in_any n lo hi w).mono fun _ _ ⟨he, hw⟩ => ⟨by rw [he]; simp [inB, h1, h2], hw⟩
theorem in_not (n lo hi : Int) (w : World) (h : ¬ (lo ≤ n ∧ n ≤ hi)) : Calls Try.prog 15 #[.int .i64 n, .int .i64 lo, .int .i64 hi] w fun e w' => e = .returned (.bool false) ∧ w' = w :=
  (in_any n lo hi w).mono fun _ _ ⟨he, hw⟩ => ⟨by rw [he]; simp [inB]; omega, hw⟩
end Go.Proofs.Ytlfncplldppncaa

/-
  The walk of TopCodes: it returns true at every two lists of numbers. Conditions: the row's own sizes.
-/
namespace Go.Proofs.Ytlfncplldppncaa
open Go.RowKit

theorem dep_two : Dep [1, 2] [1, 1] := Dep.step (l := [1, 2]) (k := 0) (m := 0) (p := 0) (D := []) (by decide) (by unfold FMin; decide) (by unfold FMin; decide) (Dep.one 3)
theorem good_two : GoodH [1, 2] := by unfold GoodH; decide
theorem full_len {l : List Int} {D : List Nat} (h : Dep l D) (hl : l.length ≤ 10) (h2 : 2 ≤ l.length) : LenOk D := fun j hj => by
  have := full_in h hl h2 j (by rw [nums_len]; exact hj)
  rw [nums_at] at this
  omega
theorem dep_six {l : List Int} {D : List Nat} (h : Dep l D) (hl : l.length ≤ 6) (i : Nat) : D.getD i 0 ≤ 5 := by
  have h1 := (dep_kr h 5 (by omega)).1
  by_cases hi : i < D.length
  · have hlen := dep_len h
    have := h1 (l.getD i 0, D.getD i 0) (by
      rw [← zip_at hlen (by omega), List.getD_eq_getElem?_getD, List.getElem?_eq_getElem (by rw [List.length_zip]; omega)]
      exact List.getElem_mem _)
    exact this
  · simp [hi]
theorem wl_code (D : List Nat) : wl (codeT D) = codesL D := by
  unfold wl codeT
  rw [List.map_map]
  conv => rhs; rw [← List.map_id (codesL D)]
  exact List.map_congr_left fun x _ => bs_txt x
/-- Codes of at most six signs are words as they are let in. -/
theorem fine_code {D : List Nat} (h6 : D.length ≤ 6) (hD : LenOk D) (hr : rm 12 D ≤ 4096) (h8 : ∀ i, D.getD i 0 ≤ 8) : Fine (codeT D) := by
  refine ⟨by rw [codeT_len]; exact h6, fun j hj => ?_⟩
  rw [codeT_len] at hj
  have h1 := codeT_at hj
  rw [h1, txt_size, codeL_len]
  refine ⟨h8 j, (hD j hj).1, fun m hm e => ?_⟩
  rw [codeT_at (by omega)] at e
  have e2 := congrArg bs e
  rw [bs_txt, bs_txt] at e2
  have := word_one (codes_ok hD hr) (i := m) (k := j) (by rw [codesL_len]; omega) (by rw [codesL_len]; exact hj) (by rw [codesL_at (by omega), codesL_at hj]; exact e2)
  omega
theorem text_more {ws : List ByteArray} (a : List Nat) {j : Nat} (hj : j < ws.length) : txt (catW (wl ws) a) ++ wat ws j = txt (catW (wl ws) (a ++ [j])) := by
  apply bs_inj
  rw [wb_app, bs_txt, bs_txt, catW_app, catW_one, wl_getD hj]

set_option maxHeartbeats 8000000 in
set_option maxRecDepth 100000 in
theorem topCodes_any (A B : Option Addr) (n c m d : Nat) (l xs : List Int) (w : World) (hm : m ≤ maxLen) (hl : IsInts w w.heap.size A n l) (hx : IsInts w w.heap.size B m xs) :
    Calls Try.prog 5 #[.slice A n c, .slice B m d] w fun e w' => e = .returned (.bool true) ∧ Below w.heap.size w w' := by
  obtain ⟨i0, hi, hz0, hz1, hz2⟩ := info_parts int_info
  have hn := hl.1
  have HXs := hid hx
  have hb0 : Below w.heap.size w w := Below.refl _ _
  unfold maxLen at hm
  rcases badH_or l with hg | ⟨k, hk⟩
  rotate_left
  · have H1 := hid (hlong_bad A n c l k w hl hk)
    have k0 := badH_ne hk
    have HLi := fun (W : World) => hid (hlong_ok (some ⟨W.heap.size, 0, none⟩) 2 2 [1, 2] [1, 1] (W.alloc (.cells #[.int .i64 1, .int .i64 2] 3)) ((IsInts.lit W [1, 2] #[.int .i64 1, .int .i64 2] 3 rfl).keep (by simp) fun _ _ _ => rfl) good_two dep_two)
    clear hl hx hk hn
    go_enter Try.func5, Try.ntmps5
    go_wp2_with fail
    refine H1.out.mono ?_
    rintro e w1 ⟨rfl, hw1⟩
    subst w1
    have hba : Below w.heap.size w (w.alloc (.cells #[.int .i64 1, .int .i64 2] 3)) := hb0.alloc (Nat.le_refl _) _
    clear H1
    go_wp2_with fail
    refine (HLi _).out.mono ?_
    rintro e w2 ⟨L2, rfl, hLw2, hN2, hb2⟩
    have hbB := hba.trans (hb2.mono hba.size)
    have hI2 := NumAt.ints hN2 (n := 2) rfl
    have hb3 : Below w2.heap.size w2 (w2.alloc (.cells #[.int .i64 1, .int .i64 1] 3)) := (Below.refl _ _).alloc (Nat.le_refl _) _
    have HE := hid (ints_ok (some ⟨L2, 0, none⟩) (some ⟨w2.heap.size, 0, none⟩) 2 2 2 2 [1, 1] (w2.alloc (.cells #[.int .i64 1, .int .i64 1] 3)) _ _ (by decide) (by decide) (hI2.below hb3) ((IsInts.lit w2 [1, 1] #[.int .i64 1, .int .i64 1] 3 rfl)))
    have hbC := hbB.trans (hb3.mono hbB.size)
    clear hba hb2 hN2 hI2 hb3 hbB HLi
    go_wp2_with fail
    refine HE.out.mono ?_
    rintro e w4 ⟨rfl, hb4⟩
    have hbD := hbC.trans (hb4.mono hbC.size)
    clear HE hb4 hbC
    go_wp2_with fail
    go_ret
    exact ⟨by first | rfl | simp, hbD⟩
  obtain ⟨D, hD⟩ := dep_ex (l.length - 1) l (by have := hg.1; omega)
  have h10 : n ≤ 10 := by have := hg.2.1; omega
  have hdl := dep_len hD
  have H1 := hid (hlong_ok A n c l D w hl hg hD)
  have HLi := fun (W : World) => hid (hlong_ok (some ⟨W.heap.size, 0, none⟩) 2 2 [1, 2] [1, 1] (W.alloc (.cells #[.int .i64 1, .int .i64 2] 3)) ((IsInts.lit W [1, 2] #[.int .i64 1, .int .i64 2] 3 rfl).keep (by simp) fun _ _ _ => rfl) good_two dep_two)
  have HDn : Hid (D.length = n) := hid (by omega)
  have HPd : Hid (2 ≤ n → n ≤ 6 → LenOk D ∧ rm 12 D ≤ 4096 ∧ Fine (codeT D)) := hid (fun h1 h2 => by
    have e1 := full_len hD hg.2.1 (by omega)
    have e2 : rm 12 D ≤ 4096 := by rw [full_room hD hg.2.1]; exact Nat.le_refl _
    exact ⟨e1, e2, fine_code (by omega) e1 e2 (fun i => Nat.le_trans (dep_six hD (by omega) i) (by omega))⟩)
  clear hl hx hg hD hdl hn
  go_enter Try.func5, Try.ntmps5
  go_wp2_with fail
  refine H1.out.mono ?_
  rintro e w1 ⟨L, rfl, hLw, hN, hb1⟩
  have HI1 := hid (NumAt.ints hN (n := n) (by rw [nums_len]; exact HDn.out))
  have hba : Below w1.heap.size w1 (w1.alloc (.cells #[.int .i64 1, .int .i64 2] 3)) := (Below.refl _ _).alloc (Nat.le_refl _) _
  clear H1 hN
  go_wp2_with fail
  refine (HLi _).out.mono ?_
  rintro e w2 ⟨L2, rfl, hLw2, hN2, hb2⟩
  have hbB := hba.trans (hb2.mono hba.size)
  have hI2 := NumAt.ints hN2 (n := 2) rfl
  have hb3 : Below w2.heap.size w2 (w2.alloc (.cells #[.int .i64 1, .int .i64 1] 3)) := (Below.refl _ _).alloc (Nat.le_refl _) _
  have HE := hid (ints_ok (some ⟨L2, 0, none⟩) (some ⟨w2.heap.size, 0, none⟩) 2 2 2 2 [1, 1] (w2.alloc (.cells #[.int .i64 1, .int .i64 1] 3)) _ _ (by decide) (by decide) (hI2.below hb3) ((IsInts.lit w2 [1, 1] #[.int .i64 1, .int .i64 1] 3 rfl)))
  have hbC := hbB.trans (hb3.mono hbB.size)
  clear hba hb2 hN2 hI2 hb3 hbB HLi
  go_wp2_with fail
  refine HE.out.mono ?_
  rintro e w4 ⟨rfl, hb4⟩
  have hbD := hbC.trans (hb4.mono hbC.size)
  have hbW := hb1.trans (hbD.mono hb1.size)
  have HI4 := hid ((HI1.out.below hbD).keep (w' := w4) hbD.size fun _ _ _ => rfl)
  clear HE hb4 hbC HI1 hb1 hbD
  by_cases h2 : 2 ≤ n
  rotate_left
  · have n1 : (n : Int) < 2 := by omega
    clear HI4 HXs HPd HDn
    go_wp2_with fail
    go_ret
    exact ⟨by first | rfl | simp, hbW⟩
  by_cases h6 : n ≤ 6
  rotate_left
  · have n1 : ¬ ((n : Int) < 2) := by omega
    have n2 : 6 < (n : Int) := by omega
    clear HI4 HXs HPd HDn
    go_wp2_with fail
    go_ret
    exact ⟨by first | rfl | simp, hbW⟩
  have n1 : ¬ ((n : Int) < 2) := by omega
  have n2 : ¬ (6 < (n : Int)) := by omega
  obtain ⟨hLk, hrm, hfi⟩ := HPd.out h2 h6
  have HC := hid (kcodes_ok (some ⟨L, 0, none⟩) n n D w4 HI4.out (by omega) hLk hrm)
  have HPf : Hid (Pfree (wl (codeT D))) := hid (by rw [wl_code]; exact codes_pfree hLk hrm)
  have HFi := hid hfi
  have HCl : Hid ((codeT D).length = n) := hid (by rw [codeT_len]; exact HDn.out)
  clear HPd HI4 hLk hrm hfi
  go_wp2_with fail
  refine HC.out.mono ?_
  rintro e w5 ⟨B5, c5, rfl, hI5, hb5⟩
  have hbE := hbW.trans (hb5.mono hbW.size)
  have HI5 := hid hI5
  clear HC hI5 hb5 hbW
  have nn : ((n : Int) != (n : Int)) = false := by simp
  generalize codeT D = ws at HPf HFi HCl HI5
  have HFr := hid (kfree_ok B5 n c5 ws w5 HFi.out HI5.out)
  go_wp2_with fail
  refine HFr.out.mono ?_
  rintro e w6 ⟨b6, h6b, rfl, hb6⟩
  obtain rfl : b6 = true := h6b.2 HPf.out
  have hbF := hbE.trans (hb6.mono hbE.size)
  have HI6 := hid ((HI5.out.below hb6).mono hb6.size)
  have HAp := hid (kapart_ok B5 n c5 ws w6 HFi.out HI6.out)
  clear HFr hb6 hbE HI5 h6b
  go_wp2_with fail
  refine HAp.out.mono ?_
  rintro e w7 ⟨b7, h7b, rfl, hb7⟩
  obtain rfl : b7 = true := h7b.2 (pfree_ud (fine_ok HFi.out) HPf.out)
  have hbG := hbF.trans (hb7.mono hbF.size)
  have HI7 := hid ((HI6.out.below hb7).mono hb7.size)
  have HX7 := hid ((HXs.out.below hbG).keep (w' := w7) hbG.size fun _ _ _ => rfl)
  have HSz : Hid (∀ j, j < n → (wat ws j).size ≤ 8) := hid (fun j hj => (HFi.out.2 j (by rw [HCl.out]; exact hj)).1)
  clear HAp hb7 hbF HI6 h7b HXs
  go_wp2_with fail
  go_loopw [14, 15, 16] (fun t v x wr => ∃ (i : Nat) (a : List Nat), i ≤ m ∧ i ≤ 8 ∧ a.length ≤ i ∧ x = .int .i64 i ∧ t = .string (txt (catW (wl ws) a)) ∧ Hid (InW (wl ws) a) ∧ (txt (catW (wl ws) a)).size ≤ 24 ∧ Hid (OwnI wr w7.heap.size 3 v (nums a)) ∧ Below w7.heap.size w7 wr) (fun _ _ x _ => m - (intOf x).toNat)
  case atStart => exact ⟨0, [], by omega, by omega, by simp, rfl, rfl, hid (fun j hj => by simp at hj), by simp [catW, txt_size], hid (OwnI.nil _ _ _), Below.refl _ _⟩
  case round =>
    obtain ⟨i, a, him, hi8, hai, rfl, rfl, HIn, h24, HO, hbr⟩ := hrel
    have hsz := hbr.size
    by_cases hlt : i < m ∧ i < 8
    · obtain ⟨hl1, hl2⟩ := hlt
      have i1 : (i : Int) < (m : Int) := by omega
      have i2 : (i : Int) < 8 := by omega
      obtain ⟨g, off, rfl, hgl, hc⟩ := HX7.out.2 (by omega)
      have c1 := (hbr.cell (p := ⟨g, off + i, none⟩) hgl).trans (hc i hl1)
      generalize xs.getD i 0 = X at c1
      clear hc
      by_cases hX : 0 ≤ X ∧ X ≤ (n : Int) - 1
      rotate_left
      · have HN := fun W => hid (in_not X 0 ((n : Int) - 1) W hX)
        have hbR := hbG.trans (hbr.mono hbG.size)
        clear hX HO HIn
        go_wp2_with fail
        refine (HN _).out.mono ?_
        rintro e w8 ⟨rfl, hw8⟩
        subst w8
        go_wp2_with fail
        go_ret
        exact ⟨rfl, hbR⟩
      have HY := fun W => hid (in_yes X 0 ((n : Int) - 1) W hX.1 hX.2)
      obtain ⟨j, rfl⟩ : ∃ j : Nat, X = (j : Int) := ⟨X.toNat, by omega⟩
      have hjn : j < n := by omega
      obtain ⟨g2, off2, rfl, hg2, hc2⟩ := HI7.out.2 (by omega)
      have c2 : wr.cell? ⟨g2, off2 + j, none⟩ = some (.string (wat ws j)) := (hbr.cell (p := ⟨g2, off2 + j, none⟩) hg2).trans (hc2 j hjn)
      have hC8 := HSz.out j hjn
      have j1 : (j : Int) < (n : Int) := by omega
      have j0 : (0 : Int) ≤ (j : Int) := by omega
      have hTm := text_more (ws := ws) a (j := j) (by rw [HCl.out]; exact hjn)
      have HIn2 : Hid (InW (wl ws) (a ++ [j])) := hid (HIn.out.app (fun q hq => by rw [List.mem_singleton.1 hq, wl_len, HCl.out]; exact hjn))
      have hNu : nums (a ++ [j]) = nums a ++ [((j : Nat) : Int)] := by rw [nums_app]; rfl
      clear hc2 hX
      by_cases hfit : (txt (catW (wl ws) a)).size + (wat ws j).size ≤ 24
      · have hsz2 : (txt (catW (wl ws) (a ++ [j]))).size ≤ 24 := by rw [← hTm, ByteArray.size_append]; exact hfit
        have f1 : ((txt (catW (wl ws) a)).size : Int) + ((wat ws j).size : Int) ≤ 24 := by omega
        have f2 : ¬ (9223372036854775807 < (txt (catW (wl ws) a)).size + (wat ws j).size) := by omega
        have HL2 : Hid ((a ++ [j]).length ≤ i + 1) := hid (by rw [List.length_append, List.length_singleton]; omega)
        have hle : (nums a).length ≤ 1099511627776 := by rw [nums_len]; omega
        have HS2 := hid hsz2
        have HTm := hid hTm
        have HNu := hid hNu
        generalize nums a = cs at HO HNu hle
        generalize txt (catW (wl ws) a) = T at HTm f1 f2 h24 ⊢
        generalize wat ws j = C at c2 hC8 HTm f1 f2
        clear hTm hsz2 hfit hNu HIn
        go_wp2_with fail
        refine (HY _).out.mono ?_
        rintro e w8 ⟨rfl, hw8⟩
        subst w8
        clear HY
        go_wp2_with (at_builtin; refine wpList_append_int _ rfl (.tmp 133) (.tmp 138) 28 rfl w7.heap.size 3 i0 Try.underlying28 hi hz0 hz1 hz2 _ cs rfl HO.out (j : Int) rfl hle hsz ?_)
        intro v' w9 hown9 hb9
        have HO9 := hid hown9
        clear hown9
        go_wp2_with fail
        go_roundw
        case rel => exact ⟨i + 1, a ++ [j], by omega, by omega, HL2.out, by go_num, by rw [← HTm.out], HIn2, HS2.out, hid (by rw [HNu.out]; exact HO9.out), hbr.trans hb9⟩
        case measure => simp [intOf]; omega
      · have f1 : ¬ (((txt (catW (wl ws) a)).size : Int) + ((wat ws j).size : Int) ≤ 24) := by omega
        have HT : Hid (∃ T, T = txt (catW (wl ws) a)) := hid ⟨_, rfl⟩
        clear hTm HIn2 hNu HT hfit
        obtain ⟨T, hT⟩ : ∃ T, T = txt (catW (wl ws) a) := ⟨_, rfl⟩
        have HT := hid hT
        rw [← hT] at f1 h24 ⊢
        generalize wat ws j = C at c2 hC8 f1
        clear hT
        go_wp2_with fail
        refine (HY _).out.mono ?_
        rintro e w8 ⟨rfl, hw8⟩
        subst w8
        clear HY
        go_wp2_with fail
        go_roundw
        case rel => exact ⟨i + 1, a, by omega, by omega, by omega, by go_num, by rw [HT.out], HIn, by rw [← HT.out]; exact h24, HO, hbr⟩
        case measure => simp [intOf]; omega
    · have hbR := hbG.trans (hbr.mono hbG.size)
      have HIr := hid ((HI7.out.below hbr).mono hbr.size)
      have hcf := cut_free (fine_ok HFi.out) HPf.out a HIn.out
      have HCt := hid (cut_ok B5 n c5 ws (txt (catW (wl ws) a)) wr HFi.out h24 HIr.out)
      have HOne : Hid (∀ r, CutR (wds (wl ws)) (bs (txt (catW (wl ws) a))) r → r = some (nums a)) := hid (fun r hr => by
        rw [bs_txt] at hr
        exact cut_one (wds_once.2 (fine_wl HFi.out).1) wds_place hr hcf)
      have hal : (nums a).length ≤ 8 := by rw [nums_len]; omega
      generalize txt (catW (wl ws) a) = T at HCt HOne h24 ⊢
      generalize nums a = cs at HO HOne hal
      clear hcf HIn HX7 HI7 HIr HSz
      have ht : ((i : Int) < (m : Int) ∧ ¬ ((i : Int) < 8)) ∨ ¬ ((i : Int) < (m : Int)) := by omega
      clear hlt
      rcases ht with ⟨t1, t2⟩ | t1
      all_goals (
        go_wp2_with fail
        refine HCt.out.mono ?_
        rintro e w8 ⟨r, hr, hb8, hres⟩
        have hr2 := HOne.out r hr
        obtain ⟨rfl, _⟩ | ⟨out, v8, rfl, rfl, hO8, _⟩ := hres
        · cases hr2
        · obtain rfl : out = cs := by injection hr2
          have hbS := hbR.trans (hb8.mono hbR.size)
          obtain ⟨A8, c8, rfl, _, hI8⟩ := IsInts.of_own hO8
          obtain ⟨A9, c9, rfl, _, hI9⟩ := IsInts.of_own HO.out
          have HE := hid (ints_ok A8 A9 out.length out.length c8 c9 out w8 _ _ (by omega) (by omega) hI8 (hI9.below hb8))
          generalize out.length = q at HE hal ⊢
          clear hO8 hI8 hI9 HO HCt HOne hr hr2 hb8
          go_wp2_with fail
          refine HE.out.mono ?_
          rintro e wa ⟨rfl, hb9⟩
          have hbT := hbS.trans (hb9.mono hbS.size)
          clear HE hb9
          go_wp2_with fail
          go_ret
          exact ⟨by first | rfl | simp, hbT⟩)
end Go.Proofs.Ytlfncplldppncaa
