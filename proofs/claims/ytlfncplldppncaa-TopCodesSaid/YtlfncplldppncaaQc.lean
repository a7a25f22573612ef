/-
  Several of this claim's texts in one (Hlong, Inr, Allr, Fullr, LenC, Sard, Mcm, Code, Kroom): what each proves stands at its own head. Conditions: as each says.
-/
import Derived.Test.YtlfncplldppncaaQb

/-
  Contract of huff.Long: lengths where the first one of several least is taken, or what is wrong with the weights. No condition but the slice's.
-/
namespace Go.Proofs.Ytlfncplldppncaa
open Go.RowKit

theorem hlong_bad (A : Option Addr) (n c : Nat) (l : List Int) (k : Int) (w : World) (hl : IsInts w w.heap.size A n l) (hk : BadH l k) :
    Calls Try.prog 13 #[.slice A n c] w fun e w' => e = .returned (.tuple #[.slice none 0 0, .iface 58 (.int .i64 k)]) ∧ w' = w := by
  have HC := hid (hcheck_any A n c l w hl)
  have HK := hid hk
  clear hl hk
  go_enter Try.func13, Try.ntmps13
  go_wp2_with fail
  refine HC.out.mono ?_
  rintro e w1 ⟨h, hw⟩
  subst w1
  rcases h with ⟨h, _⟩ | ⟨k', h, rfl⟩
  · exact (goodH_not h HK.out).elim
  · obtain rfl := badH_one h HK.out
    clear h
    go_wp2_with fail
    go_ret2
    exact ⟨rfl, rfl⟩

/-- Huffman's loop, between two rounds: the variable V, the heaps' block Tb, the lengths' block L. -/
structure LSt (wr : World) (V Tb L n : Nat) (D : List Nat) (ts : List Tr) (o : List Nat) : Prop where
  trs : Trs wr V Tb n ts
  num : NumAt wr L 3 (nums o)
  olen : o.length = n
  leaf : Leaves wr (fun b => b = V ∨ b = Tb ∨ b = L) ts
  hst : Hst D (ts.map hp) fun i => o.getD i 0
  wb : Wb ts
  dlen : D.length = n
  n1 : L ≠ V
  n2 : L ≠ Tb
/-- How many heaps the variable V has. -/
def lenAt (w : World) (V : Nat) : Nat := match w.cell? ⟨V, 0, none⟩ with
  | some (.slice _ m _) => m
  | _ => 0
theorem lenAt_trs {w : World} {V T n : Nat} {ts : List Tr} (h : Trs w V T n ts) : lenAt w V = ts.length := by
  unfold lenAt
  rw [h.v.cell (k := 0) rfl]
theorem wb_heaps (l : List Int) (h : ∀ x ∈ l, 0 ≤ x ∧ x ≤ 1000) (ts : List Tr) (n : Nat) (hn : n ≤ l.length) (hm : ts.map hp = heaps l n) : Wb ts := by
  intro t ht
  have h1 : hp t ∈ heaps l n := by rw [← hm]; exact List.mem_map.2 ⟨t, ht, rfl⟩
  obtain ⟨i, hi, he⟩ := List.mem_map.1 h1
  have hi := List.mem_range.1 hi
  have e1 : t.1 = l.getD i 0 := (congrArg Prod.fst he).symm
  have e2 : t.2.2 = [i] := (congrArg Prod.snd he).symm
  have := h (l.getD i 0) (by rw [List.getD_eq_getElem?_getD, List.getElem?_eq_getElem (by omega)]; exact List.getElem_mem _)
  rw [e1, e2, List.length_singleton]
  omega

set_option maxRecDepth 100000 in
set_option maxHeartbeats 4000000 in
theorem hlong_ok (A : Option Addr) (n c : Nat) (l : List Int) (D : List Nat) (w : World) (hl : IsInts w w.heap.size A n l) (hg : GoodH l) (hD : Dep l D) :
    Calls Try.prog 13 #[.slice A n c] w fun e w' => ∃ L : Nat, e = .returned (.tuple #[.slice (some ⟨L, 0, none⟩) n n, .nilIface]) ∧ w.heap.size ≤ L ∧ NumAt w' L 3 (nums D) ∧ Below w.heap.size w w' := by
  obtain ⟨i0, hi, hz0, hz1, hz2⟩ := info_parts int_info
  have hn : l.length = n := hl.1
  have h0 : 0 < n := by have := hg.1; omega
  have h10 : n ≤ 10 := by have := hg.2.1; omega
  have HC := hid (hcheck_any A n c l w hl)
  have HS := fun (w1 : World) (h1 : Below w.heap.size w w1) => hid (single_any A n c l w1 ((hl.below h1).keep h1.size fun _ _ _ => rfl) h0 h10)
  have HG := hid hg
  have HD := hid hD
  have HN := hid hn
  clear hl hg hD hn
  go_enter Try.func13, Try.ntmps13
  go_wp2_with fail
  refine HC.out.mono ?_
  rintro e w1 ⟨h, hw⟩
  subst w1
  rcases h with ⟨_, rfl⟩ | ⟨k', h, _⟩
  rotate_left
  · exact (goodH_not HG.out h).elim
  go_wp2_with (at_make; refine wpList_make_full _ rfl _ _ 28 rfl w.heap.size 3 i0 (.int .i64 0) 1 Try.underlying28 hi hz0 hz1 _ _ _ _ n rfl rfl rfl rfl (by rw [hz2]; omega) (by unfold maxLen; omega) (Nat.le_refl _) ?_)
  intro w1 hown hgr
  have hb1 : Below w.heap.size w w1 := (Below.refl _ _).grown hgr (Nat.le_refl _) (by intro k hk; cases hk)
  have hL := NumAt.made hown
  clear hown hgr
  obtain ⟨L, hLe⟩ : ∃ L, L = w.heap.size := ⟨_, rfl⟩
  have HLw := hid (show w.heap.size ≤ L by omega)
  rw [← hLe] at hL ⊢
  clear hLe
  go_wp2_with fail
  refine (HS w1 hb1).out.mono ?_
  rintro e w2 ⟨Tb, ts, rfl, hTw, hSg, hb2⟩
  have HI : Hid (LSt (w2.alloc (.cells #[.slice (some ⟨Tb, 0, none⟩) n n] 50)) w2.heap.size Tb L n D ts (List.replicate n 0)) := by
    have hA : Below w2.heap.size w2 (w2.alloc (.cells #[.slice (some ⟨Tb, 0, none⟩) n n] 50)) := (Below.refl _ _).alloc (Nat.le_refl _) _
    have hl1 := BlkAt.lt hL
    have hl2 := hSg.at_.lt
    have hs2 := hb2.size
    have hV := BlkAt.new w2 50 [.slice (some ⟨Tb, 0, none⟩) n n] _ rfl
    have hd := dep_len HD.out
    refine ⟨⟨by rw [hSg.len]; exact hV, hSg.at_.below hA (Nat.le_refl _), by omega⟩, ?_, by simp, ?_, ?_, ?_, by rw [hd, HN.out], by omega, by omega⟩
    · have : nums (List.replicate n 0) = List.replicate n 0 := by simp [nums]
      rw [this]
      exact (BlkAt.below hL hb2 (Nat.le_refl _)).below hA (Nat.le_refl _)
    · intro t ht
      have h1 := hSg.leaf t ht
      have h2 := hSg.new t ht
      have h3 := h1.2.2.1
      have h4 := h1.2.2.2.1
      exact Leaf.chg (S := fun b => b = w2.heap.size ∨ b = Tb ∨ b = L) ⟨h1.1, h1.2.1, by omega, h4, h1.2.2.2.2⟩ (Chg.of_below hA)
    · rw [hSg.map]
      have := hst_start HD.out
      rw [HN.out] at this
      have e : (fun i => (List.replicate n 0).getD i 0) = fun _ => (0 : Nat) := by
        funext i
        by_cases hi : i < n <;> simp [hi]
      rw [e]
      exact this
    · exact wb_heaps l HG.out.2.2 ts n (by rw [HN.out]; exact Nat.le_refl _) hSg.map
  have hbV : Below w.heap.size w (w2.alloc (.cells #[.slice (some ⟨Tb, 0, none⟩) n n] 50)) := (hb1.trans (hb2.mono hb1.size)).alloc (by have := hb1.size; have := hb2.size; omega) _
  have HV := hid (show w.heap.size ≤ w2.heap.size ∧ w.heap.size ≤ Tb by have := hb1.size; have := hb2.size; omega)
  clear hSg hb2 hb1 hL hTw
  go_wp2_with fail
  generalize World.alloc w2 _ = w3 at HI hbV ⊢
  generalize w2.heap.size = V at HI HV ⊢
  clear HS HC
  go_loopw [24] (fun _ wr => ∃ ts o, Hid (LSt wr V Tb L n D ts o) ∧ Below w.heap.size w wr) (fun _ wr => lenAt wr V)
  case atStart => exact ⟨_, _, HI, hbV⟩
  case round =>
    clear HI hbV
    obtain ⟨ts, o, HI, hb⟩ := hrel
    have cV := HI.out.trs.v.cell (k := 0) (v := .slice (some ⟨Tb, 0, none⟩) ts.length n) rfl
    have hcap := HI.out.trs.t.1
    by_cases h2 : 2 ≤ ts.length
    · have HK1 := hid (take_any V Tb n ts wr HI.out.trs (by omega) h10)
      have i1 : 1 < (ts.length : Int) := by omega
      have HM0 := hid (show lenAt wr V = ts.length from lenAt_trs HI.out.trs)
      obtain ⟨m, hm⟩ : ∃ m, m = ts.length := ⟨_, rfl⟩
      have HM := hid hm
      rw [← hm] at cV hcap h2 i1
      clear hm
      go_wp2_with fail
      refine HK1.out.mono ?_
      rintro e wa ⟨k, hk, hkl, rfl, hTa, hCa⟩
      clear HK1
      have ht1 := HI.out.leaf.at hkl
      have hw1 := HI.out.wb.at hkl
      have hs1 := hst_small HI.out.hst hkl
      obtain ⟨t1, hE1⟩ : ∃ t, t = ts.getD k tz := ⟨_, rfl⟩
      rw [← hE1] at ht1 hw1 hs1 ⊢
      have HE1 := hid hE1
      clear hE1
      obtain ⟨x1, ⟨g1, c1⟩, z1⟩ := t1
      simp only [sv]
      go_wp2_with fail
      have hlk : (ts.eraseIdx k).length = m - 1 := by rw [List.length_eraseIdx_of_lt hkl, ← HM.out]
      generalize hwb : World.alloc wa _ = wb
      have p1 : BlkAt wb wa.heap.size 53 [.int .i64 x1, .slice (some ⟨g1, 0, none⟩) z1.length c1] := by rw [← hwb]; exact BlkAt.new _ _ [_, _] _ rfl
      have hab : Below wa.heap.size wa wb := by rw [← hwb]; exact (Below.refl _ _).alloc (Nat.le_refl _) _
      have hTb := hTa.below hab
      have hCb : Chg (fun b => b = V ∨ b = Tb) wr wb := hCa.trans (Chg.of_below hab)
      have hPa : V < wa.heap.size ∧ Tb < wa.heap.size := ⟨hTa.v.lt, hTa.t.lt⟩
      clear hwb hab hTa cV
      generalize wa.heap.size = P1 at p1 hPa ⊢
      refine (take_any V Tb n (ts.eraseIdx k) wb hTb (by omega) h10).mono ?_
      rintro e wc ⟨k2, hk2, hkl2, rfl, hTc, hCc⟩
      have ht2 := (HI.out.leaf.erase k).at hkl2
      have hw2 := (HI.out.wb.erase k).at hkl2
      have hs2 : ((ts.eraseIdx k).getD k2 tz).2.2.length ≤ D.length := by
        refine hst_len HI.out.hst (z := hp ((ts.eraseIdx k).getD k2 tz)) (List.mem_map.2 ⟨_, ?_, rfl⟩)
        refine List.mem_of_mem_eraseIdx (i := k) ?_
        rw [List.getD_eq_getElem?_getD, List.getElem?_eq_getElem hkl2]
        exact List.getElem_mem _
      obtain ⟨t2, hE2⟩ : ∃ t, t = (ts.eraseIdx k).getD k2 tz := ⟨_, rfl⟩
      rw [← hE2] at ht2 hw2 hs2 ⊢
      have HE2 := hid hE2
      have HK := hid (show FMin (ts.map Prod.fst) k ∧ FMin ((ts.eraseIdx k).map Prod.fst) k2 from ⟨hk, hk2⟩)
      have hlk2 : ((ts.eraseIdx k).eraseIdx k2).length = m - 2 := by rw [List.length_eraseIdx_of_lt hkl2, hlk]; omega
      clear hE2 hk hk2 hTb
      obtain ⟨x2, ⟨g2, c2⟩, z2⟩ := t2
      simp only [sv]
      have p1c := p1.chg hCc (by omega)
      have q1 := p1c.cell (k := 0) rfl
      have q2 := p1c.cell (k := 1) rfl
      have p1l := p1c.lt
      simp only at ht1 ht2 hw1 hw2 hs1 hs2
      clear p1
      go_wp2_with fail
      generalize hwd : World.alloc wc _ = wd
      have p2 : BlkAt wd wc.heap.size 53 [.int .i64 x2, .slice (some ⟨g2, 0, none⟩) z2.length c2] := by rw [← hwd]; exact BlkAt.new _ _ [_, _] _ rfl
      have hcd : Below wc.heap.size wc wd := by rw [← hwd]; exact (Below.refl _ _).alloc (Nat.le_refl _) _
      have hTd := hTc.below hcd
      have hCd : Chg (fun b => b = V ∨ b = Tb) wr wd := (hCb.trans hCc).trans (Chg.of_below hcd)
      clear hwd hcd hTc p1c q1 q2 hCb hCc
      have hCd3 : Chg (fun b => b = V ∨ b = Tb ∨ b = L) wr wd := hCd.mono fun b hb => by
        rcases hb with h | h
        · exact .inl h
        · exact .inr (.inl h)
      have hLd : NumAt wd L 3 (nums o) := BlkAt.chg HI.out.num hCd (by have := HI.out.n1; have := HI.out.n2; omega)
      have hdl := HI.out.dlen
      have hj := join_any (x1, (g1, c1), z1) (x2, (g2, c2), z2) (fun b => b = V ∨ b = Tb ∨ b = L) wd (ht1.chg hCd3) (ht2.chg hCd3) (fun b hb => by
        have e1 := hTd.v.lt
        have e2 := hTd.t.lt
        have e3 := BlkAt.lt hLd
        rcases hb with rfl | rfl | rfl <;> assumption) (by simp only; omega) (by simp only; omega) hw1.1 (by simp only; omega) hw2.1 (by simp only; omega)
      simp only [sv] at hj
      refine hj.mono ?_
      clear hj
      rintro e we ⟨g, c3, rfl, hLf, hbe⟩
      have hZ : Hid ((z1 ++ z2).length = z1.length + z2.length) := hid List.length_append
      obtain ⟨z, hz⟩ : ∃ z, z = z1 ++ z2 := ⟨_, rfl⟩
      rw [← hz] at hLf hZ ⊢
      have HZ := hid hz
      clear hz
      obtain ⟨x, hx⟩ : ∃ x, x = x1 + x2 := ⟨_, rfl⟩
      rw [← hx] at hLf ⊢
      have HX := hid hx
      clear hx
      have hTe := hTd.below hbe
      have hLe := BlkAt.below hLd hbe (Nat.le_refl _)
      have hCe := hCd3.trans (Chg.of_below hbe)
      clear hTd hLd hCd3 hCd p2 hbe
      have cV := hTe.v.cell (k := 0) rfl
      have hVe := hTe.v.lt
      have hbase := hTe.t.lt
      rw [hlk2] at cV
      have hW1 : Below we.heap.size we ((we.alloc (.cells #[.int .i64 x, .slice (some ⟨g, 0, none⟩) z.length c3] 53)).alloc (.cells #[.int .i64 x, .slice (some ⟨g, 0, none⟩) z.length c3] 53)) := ((Below.refl _ we).alloc (Nat.le_refl _) _).alloc (by simp) _
      have HTf := hid (hTe.below hW1)
      have HA := hid (BlkAt.new (we.alloc (.cells #[.int .i64 x, .slice (some ⟨g, 0, none⟩) z.length c3] 53)) 53 [.int .i64 x, .slice (some ⟨g, 0, none⟩) z.length c3] (we.heap.size + 1) (by simp))
      have HJ := hid ((BlkAt.new we 53 [.int .i64 x, .slice (some ⟨g, 0, none⟩) z.length c3] we.heap.size rfl).alloc (.cells #[.int .i64 x, .slice (some ⟨g, 0, none⟩) z.length c3] 53))
      have HLf := hid (BlkAt.below hLe hW1 (Nat.le_refl _))
      have HCf := hid (hCe.trans (Chg.of_below hW1))
      have HLv := hid (hLf.chg (Chg.of_below hW1))
      have HNe := hid (show V < we.heap.size ∧ Tb < we.heap.size ∧ V ≠ Tb from ⟨hVe, hbase, hTe.ne⟩)
      obtain ⟨j0, hj0, hy0, hy1, hy2⟩ := info_parts tree_info
      clear hW1 hTe hLe hCe hLf
      go_wp2_with (at_builtin; refine wpList_append_tree _ rfl (.tmp 34) (.tmp 36) 50 rfl 53 j0 Try.underlying50 hj0 hy1 Tb n (m - 2) ((ts.eraseIdx k).eraseIdx k2) hlk2 rfl HTf.out.t (by omega) (x, (g, c3), z) ⟨we.heap.size + 1, 0, none⟩ 1 rfl (by rw [Addr.add_lit]; exact HA.out.cell rfl) (by rw [Addr.add_lit]; exact HA.out.cell rfl) ?_)
      intro wg hTg hOg
      have hne := HNe.out
      have v3 := HTf.out.v.only hOg hne.2.2
      have j3 := HJ.out.only hOg (by omega)
      have l3 : NumAt wg L 3 (nums o) := BlkAt.only HLf.out hOg HI.out.n2
      have cg := HCf.out.trans (Chg.of_only hOg (.inr (.inl rfl)))
      have lv3 := HLv.out.chg (Chg.of_only hOg (.inr (.inl rfl)))
      obtain ⟨v4, hO4⟩ := v3.stored 0 (.slice (some ⟨Tb, 0, none⟩) (m - 2 + 1) n)
      have cg4 := cg.trans (Chg.of_only hO4 (.inl rfl))
      have lv4 := lv3.chg (Chg.of_only hO4 (.inl rfl))
      have j4 := j3.only hO4 (by omega)
      have l4 : NumAt _ L 3 (nums o) := BlkAt.only l3 hO4 HI.out.n1
      have t4 := hTg.only hO4 (Ne.symm hne.2.2)
      have HT4 := hid (show Trs _ V Tb n (((ts.eraseIdx k).eraseIdx k2) ++ [(x, (g, c3), z)]) from ⟨by rw [List.length_append, hlk2]; exact v4, t4, hne.2.2⟩)
      have HV4 := hid (((HI.out.leaf.erase k).erase k2).chg cg4 |>.snoc lv4)
      have HB4 := hid (hb.trans (cg4.below (B := w.heap.size) (fun b hb => by have := HV.out; have := HLw.out; omega) hb.size))
      have HL4 := hid l4
      have c5 := v3.cell (k := 0) rfl
      have f5 := v3.frozen 0
      have J5 := j4.cell (k := 1) rfl
      obtain ⟨hst5, hnd, hzl, hzn⟩ := hst_round HI.out.hst (by rw [HI.out.olen, HI.out.dlen]) (by rw [← HM.out]; exact h2) HK.out.1 HK.out.2 g c3 x z (by rw [HX.out, ← HE1.out, ← HE2.out]) (by rw [HZ.out, ← HE1.out, ← HE2.out])
      have HS5 := hid hst5
      have HW5 : Hid (Wb (((ts.eraseIdx k).eraseIdx k2) ++ [(x, (g, c3), z)])) := hid (((HI.out.wb.erase k).erase k2).snoc (by
        have h1 := hw1
        have h2 := hw2
        have h3 := HX.out
        have h4 := hZ.out
        simp only
        rw [h4]
        push_cast
        omega))
      have HN5 := hid (show z.Nodup ∧ (∀ i ∈ z, i < n) ∧ z.length ≤ n from ⟨hnd, by rw [← hdl]; exact hzl, by rw [← hdl]; exact hzn⟩)
      have HO9 : Hid (∀ i, i < n → o.getD i 0 ≤ 9) := hid (fun i hi => Nat.le_trans (hst_le HI.out.hst (by rw [hdl]; exact hi)) (dep_small HD.out (by rw [HN.out]; exact h10) i))
      have HOl := hid HI.out.olen
      have HL12 := hid (show L ≠ V ∧ L ≠ Tb from ⟨HI.out.n1, HI.out.n2⟩)
      have hzs : z.length ≤ 10 := by have := HN5.out.2.2; omega
      have HFl := hid lv4
      clear hTg hOg hne v3 j3 l3 cg lv3 v4 hO4 cg4 lv4 j4 l4 t4 HTf HA HJ HLf HCf HLv hst5 hnd hzl hzn hw1 hw2 ht1 ht2 hs1 hs2 cV
      clear HI HE1 HE2 HK HZ hZ HX
      go_wp2_with fail
      generalize World.setCell wg _ _ = wx at HT4 HV4 HB4 HL4 HFl ⊢
      obtain ⟨wz, rfl⟩ : ∃ q, q = wr := ⟨_, rfl⟩
      go_loopw [41] (fun x wy => ∃ j : Nat, j ≤ z.length ∧ x = .int .i64 j ∧ Hid (NumAt wy L 3 (nums (bump o z j))) ∧ Hid (Only L wx wy)) (fun x _ => z.length - (intOf x).toNat)
      case atStart => exact ⟨0, by omega, rfl, hid (by rw [bump_zero]; exact HL4.out), hid (Only.refl _ _)⟩
      case round =>
        clear HL4 c5 f5 J5
        obtain ⟨j, hjz, rfl, HB, HO⟩ := hrel
        by_cases hlt : j < z.length
        · have hPn : z.getD j 0 < n := HN5.out.2.1 _ (by rw [List.getD_eq_getElem?_getD, List.getElem?_eq_getElem hlt]; exact List.getElem_mem _)
          have hgL : g ≠ L := fun e => HFl.out.2.2.1 (.inr (.inr e))
          have c6 := (HO.out.cell (o := j) hgL).trans (HFl.out.2.2.2.2 j hlt)
          have c7 := HB.out.cell (k := z.getD j 0) (by rw [nums_len, bump_len, HOl.out]; exact hPn)
          rw [nums_at] at c7
          have f7 := BlkAt.frozen HB.out (z.getD j 0)
          have hbp : (bump o z j).getD (z.getD j 0) 0 ≤ 10 := by
            rw [bump_at o z j (by rw [HOl.out]; exact hPn)]
            have := HO9.out _ hPn
            split <;> omega
          have hst7 := NumAt.stored HB.out (z.getD j 0) (((bump o z j).getD (z.getD j 0) 0 : Nat) + 1 : Int)
          rw [nums_set, bump_succ HN5.out.1 hlt] at hst7
          have HB7 := hid hst7.1
          have HO7 := hid (HO.out.trans hst7.2)
          clear hst7 HB HO
          simp only at c6
          generalize z.getD j 0 = P at hPn c6 c7 f7 hbp HB7 HO7
          generalize (bump o z j).getD P 0 = B at c7 hbp HB7 HO7
          have q1 : (P : Int) < (n : Int) := by omega
          have q2 : (0 : Int) ≤ (P : Int) := by omega
          go_wp2_with fail
          go_roundw
          case rel => exact ⟨j + 1, by omega, by go_num, HB7, HO7⟩
          case measure => simp [intOf]; omega
        · obtain rfl : j = z.length := by omega
          have hO := HO.out
          have hT6 := HT4.out.chg (S := fun b => b = L) (Chg.of_only hO rfl) (Ne.symm HL12.out.1) (Ne.symm HL12.out.2)
          have HI6 : Hid (LSt wr V Tb L n D (((ts.eraseIdx k).eraseIdx k2) ++ [(x, (g, c3), z)]) (bump o z z.length)) := hid ⟨hT6, HB.out, by rw [bump_len]; exact HOl.out, HV4.out.chg (Chg.of_only hO (.inr (.inr rfl))), HS5.out, HW5.out, hdl, HL12.out.1, HL12.out.2⟩
          have HM6 : Hid (lenAt wr V < lenAt wz V) := hid (by rw [lenAt_trs hT6, HM0.out, List.length_append, hlk2, ← HM.out]; simp; omega)
          have HB6 := HB4.out.trans (hO.below (B := w.heap.size) HLw.out)
          clear hO hT6 HO HB HT4 HV4 HS5 HW5 HB4
          go_wp2_with fail
          go_roundw
          case rel => exact ⟨_, _, HI6, HB6⟩
          case measure => exact HM6.out
    · have HR : Hid (NumAt wr L 3 (nums D)) := hid (by
        have e := hst_same HI.out.hst (by rw [HI.out.olen, HI.out.dlen]) (by omega)
        rw [← e]
        exact HI.out.num)
      have i1 : ¬ (1 < (ts.length : Int)) := by omega
      generalize ts.length = m at cV i1 h2 hcap
      clear HI
      go_wp2_with fail
      go_ret2
      exact ⟨L, rfl, HLw.out, HR.out, hb⟩
end Go.Proofs.Ytlfncplldppncaa

/-
  Contract of letterbeckref2.in: it answers whether a number lies between two others, and changes nothing. No condition.
-/
namespace Go.Proofs.Ytlfncplldppncaa
open Go.RowKit

theorem in2_yes (n lo hi : Int) (w : World) (h1 : lo ≤ n) (h2 : n ≤ hi) : Calls Try.prog 24 #[.int .i64 n, .int .i64 lo, .int .i64 hi] w fun e w' => e = .returned (.bool true) ∧ w' = w := by
  go_enter Try.func24, Try.ntmps24
  go_wp2
  go_ret
  exact ⟨by first | rfl | simp, rfl⟩
theorem in2_no (n lo hi : Int) (w : World) (h : ¬ (lo ≤ n ∧ n ≤ hi)) : Calls Try.prog 24 #[.int .i64 n, .int .i64 lo, .int .i64 hi] w fun e w' => e = .returned (.bool false) ∧ w' = w := by
  by_cases h1 : lo ≤ n
  · have h2 : ¬ n ≤ hi := fun h2 => h ⟨h1, h2⟩
    clear h
    go_enter Try.func24, Try.ntmps24
    go_wp2
    go_ret
    exact ⟨by first | rfl | simp [h2], rfl⟩
  · have hd : decide (lo ≤ n) = false := by simpa using h1
    clear h
    go_enter Try.func24, Try.ntmps24
    go_wp2
    go_ret
    exact ⟨by first | rfl | simp [hd], rfl⟩
end Go.Proofs.Ytlfncplldppncaa

/-
  Contracts of letterbeckref2.All between any two bounds, Lengths, Power and Room. Conditions: at most a thousand numbers; a power of two up to twelve; lengths up to twelve, at most ten of them.
-/
namespace Go.Proofs.Ytlfncplldppncaa
open Go.RowKit

/-- Every number lies between two. -/
def InL (lo hi : Int) (l : List Int) : Prop := ∀ i, i < l.length → lo ≤ l.getD i 0 ∧ l.getD i 0 ≤ hi
set_option maxHeartbeats 1000000 in
theorem rallin_big (A : Option Addr) (n c : Nat) (l : List Int) (lo hi : Int) (w : World) (h : n ≤ 9223372036854775807) (hl : IsInts w w.heap.size A n l) :
    Calls Try.prog 10 #[.slice A n c, .int .i64 lo, .int .i64 hi] w fun e w' => ((InL lo hi l ∧ e = .returned (.bool true)) ∨ (¬ InL lo hi l ∧ e = .returned (.bool false))) ∧ w' = w := by
  have HI := hid hl
  have hls := hid hl.1
  clear hl
  go_enter Try.func10, Try.ntmps10
  go_wp2_with fail
  go_loopw [7] (fun x wr => ∃ i : Nat, i ≤ n ∧ x = .int .i64 i ∧ Hid (∀ j, j < i → lo ≤ l.getD j 0 ∧ l.getD j 0 ≤ hi) ∧ wr = w) (fun x _ => n - (intOf x).toNat)
  case atStart => exact ⟨0, by omega, rfl, hid (fun k hk => absurd hk (by omega)), rfl⟩
  case round =>
    obtain ⟨i, hin, rfl, HB, hwr⟩ := hrel
    subst hwr
    by_cases hlt : i < n
    · have hli : i < l.length := by rw [hls.out]; exact hlt
      obtain ⟨g, off, rfl, hg, hc⟩ := HI.out.2 (by omega)
      have c1 := hc i hlt
      by_cases hk : lo ≤ l.getD i 0 ∧ l.getD i 0 ≤ hi
      · have HB2 : Hid (∀ j, j < i + 1 → lo ≤ l.getD j 0 ∧ l.getD j 0 ≤ hi) := hid (fun j hj => by
          rcases Nat.lt_or_ge j i with h | h
          · exact HB.out j h
          · obtain rfl : j = i := by omega
            exact hk)
        have HN := fun W => hid (in2_yes (l.getD i 0) lo hi W hk.1 hk.2)
        generalize l.getD i 0 = K at c1 HN
        clear hk hli hc HB
        go_wp2_with fail
        refine (HN _).out.mono ?_
        rintro e w5 ⟨rfl, hw5⟩
        subst w5
        go_wp2_with fail
        go_roundw
        case rel => exact ⟨i + 1, by omega, by go_num, HB2, by first | rfl | trivial⟩
        case measure => simp [intOf]; omega
      · have HNB : Hid (¬ InL lo hi l) := hid (fun hB => hk (hB i hli))
        have HN := fun W => hid (in2_no (l.getD i 0) lo hi W hk)
        generalize l.getD i 0 = K at c1 HN
        clear hk hli hc HB
        go_wp2_with fail
        refine (HN _).out.mono ?_
        rintro e w5 ⟨rfl, hw5⟩
        subst w5
        go_wp2_with fail
        go_ret
        exact ⟨.inr ⟨HNB.out, rfl⟩, rfl⟩
    · obtain rfl : i = n := by omega
      have HBn : Hid (InL lo hi l) := hid (fun j hj => HB.out j (by rw [← hls.out]; exact hj))
      clear HB
      go_wp2_with fail
      go_ret
      exact ⟨.inl ⟨HBn.out, rfl⟩, rfl⟩
theorem rallin_any (A : Option Addr) (n c : Nat) (l : List Int) (lo hi : Int) (w : World) (h : n ≤ 1000) (hl : IsInts w w.heap.size A n l) :
    Calls Try.prog 10 #[.slice A n c, .int .i64 lo, .int .i64 hi] w fun e w' => ((InL lo hi l ∧ e = .returned (.bool true)) ∨ (¬ InL lo hi l ∧ e = .returned (.bool false))) ∧ w' = w := rallin_big A n c l lo hi w (by omega) hl
end Go.Proofs.Ytlfncplldppncaa

/-
  Plain facts on Huffman's lengths: their room, and where they lie. No condition.
-/
namespace Go.Proofs.Ytlfncplldppncaa
open Go.RowKit

theorem full_room {l : List Int} {D : List Nat} (h : Dep l D) (hl : l.length ≤ 10) : rm 12 D = 4096 := by
  have h1 := (dep_kr h 12 (by omega)).2
  rw [kr_rm, zip_snd (dep_len h)] at h1
  exact h1
theorem full_in {l : List Int} {D : List Nat} (h : Dep l D) (hl : l.length ≤ 10) (h2 : 2 ≤ l.length) : InL 1 12 (nums D) := by
  intro i hi
  rw [nums_len] at hi
  rw [nums_at]
  have h3 := dep_small h hl i
  have h4 := dep_ge h h2 (D.getD i 0) (by rw [List.getD_eq_getElem?_getD, List.getElem?_eq_getElem hi]; exact List.getElem_mem _)
  omega
end Go.Proofs.Ytlfncplldppncaa

/-
  Plain facts on lengths of codes: what is wrong with them, and the room of the first of them. No condition.
-/
namespace Go.Proofs.Ytlfncplldppncaa

/-- What is wrong with lengths, 0 if nothing is. -/
def LenC (l : List Int) (k : Int) : Prop := (10 < l.length ∧ k = 4) ∨ (l.length ≤ 10 ∧ ¬ InL 1 12 l ∧ k = 1) ∨ (l.length ≤ 10 ∧ InL 1 12 l ∧ k = 0)
theorem pow_le {i n : Nat} (h : i ≤ n) : 2 ^ i ≤ 2 ^ n := Nat.pow_le_pow_right (by decide) h
theorem rm_succ (E : List Nat) {i : Nat} (hi : i < E.length) : rm 12 (E.take (i + 1)) = rm 12 (E.take i) + 2 ^ (12 - E.getD i 0) := by
  rw [List.take_succ_eq_append_getElem hi, rm_app]
  simp [rm, hi]
theorem rm_le (E : List Nat) : rm 12 E ≤ 4096 * E.length := by
  induction E with
  | nil => simp [rm]
  | cons d E ih =>
    have : 2 ^ (12 - d) ≤ 4096 := pow_le (n := 12) (by omega)
    simp only [rm, List.length_cons]
    omega
end Go.Proofs.Ytlfncplldppncaa

/-
  Plain mathematics of words that can be told apart, without a program: Sardinas and Patterson (by what one way is ahead of another one), words from their ends, words none of which begins another one. No condition.
-/
namespace Go.Proofs.Ytlfncplldppncaa

/-- The text of a row of words, by their places. -/
def catW (W : List (List UInt8)) (a : List Nat) : List UInt8 := a.flatMap fun i => W.getD i []
/-- Places of words. -/
def InW (W : List (List UInt8)) (a : List Nat) : Prop := ∀ i ∈ a, i < W.length
/-- Each text is of words in at most one way. -/
def UD (W : List (List UInt8)) : Prop := ∀ a b, InW W a → InW W b → catW W a = catW W b → a = b
/-- Words as they are let in: none is empty, none stands twice. -/
def Okw (W : List (List UInt8)) : Prop := W.Nodup ∧ ∀ x ∈ W, x ≠ []
/-- By what one way is ahead of another one. -/
inductive Dang (W : List (List UInt8)) : List UInt8 → Prop
  | start {i k : Nat} {s : List UInt8} (hi : i < W.length) (hk : k < W.length) (hne : i ≠ k) (h : W.getD i [] = W.getD k [] ++ s) : Dang W s
  | fwd {a r : List UInt8} {i : Nat} (ha : Dang W a) (hi : i < W.length) (h : W.getD i [] = a ++ r) : Dang W r
  | back {a r : List UInt8} {i : Nat} (ha : Dang W a) (hi : i < W.length) (h : a = W.getD i [] ++ r) : Dang W r
theorem catW_cons (W : List (List UInt8)) (i : Nat) (a : List Nat) : catW W (i :: a) = W.getD i [] ++ catW W a := rfl
theorem catW_app (W : List (List UInt8)) (a b : List Nat) : catW W (a ++ b) = catW W a ++ catW W b := by
  unfold catW
  rw [List.flatMap_append]
theorem catW_one (W : List (List UInt8)) (i : Nat) : catW W [i] = W.getD i [] := by rw [catW_cons]; exact List.append_nil _
theorem InW.cons {W : List (List UInt8)} {i : Nat} {a : List Nat} (h : InW W (i :: a)) : i < W.length ∧ InW W a := ⟨h i (by simp), fun j hj => h j (by simp [hj])⟩
theorem InW.mk {W : List (List UInt8)} {i : Nat} {a : List Nat} (hi : i < W.length) (h : InW W a) : InW W (i :: a) := fun j hj => by
  rcases List.mem_cons.1 hj with rfl | hj
  · exact hi
  · exact h j hj
theorem InW.app {W : List (List UInt8)} {a b : List Nat} (ha : InW W a) (hb : InW W b) : InW W (a ++ b) := fun j hj => by
  rcases List.mem_append.1 hj with hj | hj
  · exact ha j hj
  · exact hb j hj
theorem word_ne {W : List (List UInt8)} (h : Okw W) {i : Nat} (hi : i < W.length) : W.getD i [] ≠ [] := by
  refine h.2 _ ?_
  rw [List.getD_eq_getElem?_getD, List.getElem?_eq_getElem hi]
  exact List.getElem_mem hi
theorem word_one {W : List (List UInt8)} (h : Okw W) {i k : Nat} (hi : i < W.length) (hk : k < W.length) (e : W.getD i [] = W.getD k []) : i = k := by
  rw [List.getD_eq_getElem?_getD, List.getD_eq_getElem?_getD, List.getElem?_eq_getElem hi, List.getElem?_eq_getElem hk] at e
  simp only [Option.getD_some] at e
  exact (List.getElem_inj h.1).1 e
/-- One of two beginnings of a text begins the other one. -/
theorem two_begin {x y u v : List UInt8} (h : x ++ u = y ++ v) : (∃ r, x = y ++ r ∧ v = r ++ u) ∨ (∃ r, y = x ++ r ∧ u = r ++ v) := by
  rcases List.append_eq_append_iff.1 h with ⟨r, h1, h2⟩ | ⟨r, h1, h2⟩
  · exact .inr ⟨r, h1, h2⟩
  · exact .inl ⟨r, h1, h2⟩
/-- What is ahead comes of two rows that begin with different words. -/
theorem dang_rows {W : List (List UInt8)} {s : List UInt8} (h : Dang W s) : ∃ i k a b, i ≠ k ∧ InW W (i :: a) ∧ InW W (k :: b) ∧ catW W (i :: a) = catW W (k :: b) ++ s := by
  induction h with
  | @start i k s hi hk hne h => exact ⟨i, k, [], [], hne, InW.mk hi (fun _ h => by cases h), InW.mk hk (fun _ h => by cases h), by rw [catW_one, catW_one]; exact h⟩
  | @fwd a r j _ hj h ih =>
    obtain ⟨i, k, x, y, hne, hx, hy, e⟩ := ih
    obtain ⟨hi, hx⟩ := hx.cons
    obtain ⟨hk, hy⟩ := hy.cons
    refine ⟨k, i, y ++ [j], x, Ne.symm hne, InW.mk hk (hy.app (InW.mk hj (fun _ h => by cases h))), InW.mk hi hx, ?_⟩
    rw [← List.cons_append, catW_app, e, catW_one, h, List.append_assoc]
  | @back a r j _ hj h ih =>
    obtain ⟨i, k, x, y, hne, hx, hy, e⟩ := ih
    obtain ⟨hk, hy⟩ := hy.cons
    refine ⟨i, k, x, y ++ [j], hne, hx, InW.mk hk (hy.app (InW.mk hj (fun _ h => by cases h))), ?_⟩
    rw [e, ← List.cons_append, catW_app, catW_one, h, List.append_assoc]
theorem dang_two {W : List (List UInt8)} (h : Dang W []) : ¬ UD W := by
  obtain ⟨i, k, a, b, hne, ha, hb, e⟩ := dang_rows h
  intro hu
  rw [List.append_nil] at e
  have := hu _ _ ha hb e
  injection this with h1
  exact hne h1
/-- Where one way is ahead of another one and both end together, one of them is ahead by nothing. -/
theorem dang_end {W : List (List UInt8)} (n : Nat) : ∀ (s : List UInt8) (a b : List Nat), a.length + b.length ≤ n → Dang W s → InW W a → InW W b → s ++ catW W a = catW W b → Dang W [] := by
  induction n with
  | zero =>
    intro s a b hn hs ha hb e
    obtain rfl : b = [] := List.eq_nil_of_length_eq_zero (by omega)
    have : s = [] := (List.append_eq_nil_iff.1 e).1
    rw [← this]
    exact hs
  | succ n ih =>
    intro s a b hn hs ha hb e
    cases b with
    | nil =>
      have : s = [] := (List.append_eq_nil_iff.1 e).1
      rw [← this]
      exact hs
    | cons j b =>
      obtain ⟨hj, hb⟩ := hb.cons
      rw [catW_cons] at e
      rw [List.length_cons] at hn
      rcases two_begin e with ⟨r, h1, h2⟩ | ⟨r, h1, h2⟩
      · exact ih r a b (by omega) (.back hs hj h1) ha hb h2.symm
      · exact ih r b a (by omega) (.fwd hs hj h1) hb ha h2.symm
theorem two_dang {W : List (List UInt8)} (hw : Okw W) : ∀ a b, InW W a → InW W b → catW W a = catW W b → a ≠ b → Dang W [] := by
  intro a
  induction a with
  | nil =>
    intro b _ hb e hne
    cases b with
    | nil => exact absurd rfl hne
    | cons j b =>
      rw [catW_cons] at e
      exact absurd (List.append_eq_nil_iff.1 e.symm).1 (word_ne hw hb.cons.1)
  | cons i a ih =>
    intro b ha hb e hne
    obtain ⟨hi, ha⟩ := ha.cons
    cases b with
    | nil =>
      rw [catW_cons] at e
      exact absurd (List.append_eq_nil_iff.1 e).1 (word_ne hw hi)
    | cons j b =>
      obtain ⟨hj, hb'⟩ := hb.cons
      rw [catW_cons, catW_cons] at e
      by_cases hij : i = j
      · subst hij
        exact ih b ha hb' (List.append_cancel_left e) (fun h => hne (by rw [h]))
      · rcases two_begin e with ⟨r, h1, h2⟩ | ⟨r, h1, h2⟩
        · exact dang_end _ r a b (Nat.le_refl _) (.start hi hj hij h1) ha hb' h2.symm
        · exact dang_end _ r b a (Nat.le_refl _) (.start hj hi (Ne.symm hij) h1) hb' ha h2.symm
/-- SARDINAS, PATTERSON. -/
theorem ud_iff {W : List (List UInt8)} (hw : Okw W) : UD W ↔ ¬ Dang W [] :=
  ⟨fun h hd => dang_two hd h, fun h a b ha hb e => Classical.byContradiction fun hne => h (two_dang hw a b ha hb e hne)⟩
/-- A list that has all beginnings of the search and is closed has all that is ahead. -/
theorem dang_in {W : List (List UInt8)} {A : List (List UInt8)} (h1 : ∀ i k s, i < W.length → k < W.length → i ≠ k → W.getD i [] = W.getD k [] ++ s → s ∈ A)
    (h2 : ∀ a ∈ A, ∀ i r, i < W.length → (W.getD i [] = a ++ r ∨ a = W.getD i [] ++ r) → r ∈ A) {s : List UInt8} (h : Dang W s) : s ∈ A := by
  induction h with
  | @start i k s hi hk hne h => exact h1 i k s hi hk hne h
  | @fwd a r i _ hi h ih => exact h2 a ih i r hi (.inl h)
  | @back a r i _ hi h ih => exact h2 a ih i r hi (.inr h)
/-- What is ahead is the end of a word. -/
theorem dang_end_of {W : List (List UInt8)} {s : List UInt8} (h : Dang W s) : ∃ i, i < W.length ∧ ∃ p, W.getD i [] = p ++ s := by
  induction h with
  | @start i k s hi hk hne h => exact ⟨i, hi, _, h⟩
  | @fwd a r i _ hi h ih => exact ⟨i, hi, _, h⟩
  | @back a r i _ hi h ih =>
    obtain ⟨j, hj, p, e⟩ := ih
    exact ⟨j, hj, p ++ W.getD i [], by rw [e, h, List.append_assoc]⟩

/-! ### None begins another one -/
/-- No word begins another one. -/
def Pfree (W : List (List UInt8)) : Prop := ∀ i k, i < W.length → k < W.length → i ≠ k → ¬ W.getD k [] <+: W.getD i []
theorem pfree_ud {W : List (List UInt8)} (hw : Okw W) (h : Pfree W) : UD W := by
  refine (ud_iff hw).2 fun hd => ?_
  have : ∀ s, Dang W s → False := by
    intro s hs
    induction hs with
    | @start i k s hi hk hne e => exact h i k hi hk hne ⟨s, e.symm⟩
    | fwd _ _ _ ih => exact ih
    | back _ _ _ ih => exact ih
  exact this _ hd

/-! ### From their ends -/
theorem mir_len (W : List (List UInt8)) : (W.map List.reverse).length = W.length := List.length_map ..
theorem mir_at (W : List (List UInt8)) (i : Nat) : (W.map List.reverse).getD i [] = (W.getD i []).reverse := by
  by_cases hi : i < W.length <;> simp [hi]
theorem mir_cat (W : List (List UInt8)) (a : List Nat) : catW (W.map List.reverse) a.reverse = (catW W a).reverse := by
  induction a with
  | nil => rfl
  | cons i a ih =>
    rw [List.reverse_cons, catW_app, ih, catW_one, mir_at, catW_cons W i a, List.reverse_append]
theorem mir_ok {W : List (List UInt8)} (h : Okw W) : Okw (W.map List.reverse) := by
  refine ⟨List.Pairwise.map _ (fun a b hne e => hne (List.reverse_inj.1 e)) h.1, fun x hx => ?_⟩
  · obtain ⟨y, hy, rfl⟩ := List.mem_map.1 hx
    have := h.2 y hy
    simpa using this
theorem mir_ud {W : List (List UInt8)} (h : UD W) : UD (W.map List.reverse) := by
  intro a b ha hb e
  have e1 := mir_cat W a.reverse
  have e2 := mir_cat W b.reverse
  rw [List.reverse_reverse] at e1 e2
  rw [e1, e2] at e
  have e := List.reverse_inj.1 e
  have := h _ _ (fun j hj => by have := ha j (by simpa using hj); rwa [mir_len] at this) (fun j hj => by have := hb j (by simpa using hj); rwa [mir_len] at this) e
  exact List.reverse_inj.1 this
theorem mir_iff {W : List (List UInt8)} : UD (W.map List.reverse) ↔ UD W := by
  refine ⟨fun h => ?_, mir_ud⟩
  have := mir_ud h
  rwa [List.map_map, show List.reverse ∘ List.reverse = (id : List UInt8 → List UInt8) from funext fun x => List.reverse_reverse x, List.map_id] at this
end Go.Proofs.Ytlfncplldppncaa

/-
  Plain mathematics, without a program: McMillan: words of two signs that can be told apart have room. No condition.
-/
namespace Go.Proofs.Ytlfncplldppncaa

/-- A word of 0 and 1. -/
def Bin (x : List UInt8) : Prop := ∀ c ∈ x, c = 48 ∨ c = 49
theorem bin_app {x y : List UInt8} (hx : Bin x) (hy : Bin y) : Bin (x ++ y) := fun c hc => by
  rcases List.mem_append.1 hc with hc | hc
  · exact hx c hc
  · exact hy c hc
/-- Different words of B signs are at most 2 ^ B. -/
theorem bin_few (B : Nat) : ∀ X : List (List UInt8), X.Nodup → (∀ x ∈ X, Bin x ∧ x.length = B) → X.length ≤ 2 ^ B := by
  induction B with
  | zero =>
    intro X hn h
    match X, hn, h with
    | [], _, _ => simp
    | [_], _, _ => simp
    | x :: y :: X, hn, h =>
      have h1 := List.eq_nil_of_length_eq_zero (h x (by simp)).2
      have h2 := List.eq_nil_of_length_eq_zero (h y (by simp)).2
      rw [List.nodup_cons] at hn
      exact absurd (by rw [h1, h2]; simp) hn.1
  | succ B ih =>
    intro X hn h
    have part : ∀ (c : UInt8), ((X.filter fun x => x.head? == some c).map List.tail).length ≤ 2 ^ B := by
      intro c
      refine ih _ ?_ ?_
      · have hf := hn.filter (fun x => x.head? == some c)
        refine List.pairwise_map.2 (hf.imp_of_mem ?_)
        intro a b ha hb hne e
        have ha := (List.mem_filter.1 ha).2
        have hb := (List.mem_filter.1 hb).2
        cases a with
        | nil => simp at ha
        | cons p a =>
          cases b with
          | nil => simp at hb
          | cons q b =>
            simp at ha hb e
            exact hne (by rw [ha, hb, e])
      · intro y hy
        obtain ⟨x, hx, rfl⟩ := List.mem_map.1 hy
        obtain ⟨hx1, hx2⟩ := h x (List.mem_filter.1 hx).1
        exact ⟨fun c hc => hx1 c (List.mem_of_mem_tail hc), by rw [List.length_tail]; omega⟩
    have two : ∀ L : List (List UInt8), (∀ x ∈ L, x.head? = some 48 ∨ x.head? = some 49) → L.length = (L.filter fun x => x.head? == some (48 : UInt8)).length + (L.filter fun x => x.head? == some (49 : UInt8)).length := by
      intro L
      induction L with
      | nil => intro _; rfl
      | cons x L ihL =>
        intro hL
        have := ihL (fun y hy => hL y (by simp [hy]))
        rcases hL x (by simp) with e | e
        · rw [List.filter_cons, List.filter_cons, e]
          simp [this]; omega
        · rw [List.filter_cons, List.filter_cons, e]
          simp [this]; omega
    have h48 := part 48
    have h49 := part 49
    rw [List.length_map] at h48 h49
    rw [two X (fun x hx => ?_), Nat.pow_succ]
    · omega
    · obtain ⟨hx1, hx2⟩ := h x hx
      cases x with
      | nil => simp at hx2
      | cons c x => simpa using hx1 c (by simp)
/-- The room of words as long as they are, of 2 ^ B. -/
def rmX (B : Nat) : List (List UInt8) → Nat
  | [] => 0
  | x :: X => 2 ^ (B - x.length) + rmX B X
theorem rmX_app (B : Nat) (X Y : List (List UInt8)) : rmX B (X ++ Y) = rmX B X + rmX B Y := by
  induction X with
  | nil => simp [rmX]
  | cons x X ih => rw [List.cons_append, rmX, rmX, ih]; omega
theorem rmX_split (B : Nat) (X : List (List UInt8)) (h : ∀ x ∈ X, x.length ≤ B + 1) :
    rmX (B + 1) X = (X.filter fun x => x.length == B + 1).length + 2 * rmX B (X.filter fun x => !(x.length == B + 1)) := by
  induction X with
  | nil => rfl
  | cons x X ih =>
    have h1 := ih (fun y hy => h y (by simp [hy]))
    have h2 := h x (by simp)
    rw [rmX, h1]
    by_cases e : x.length = B + 1
    · simp [e]; omega
    · have e2 : (x.length == B + 1) = false := by simpa using e
      rw [List.filter_cons, List.filter_cons, e2]
      simp only [Bool.not_false, if_true, Bool.false_eq_true, if_false, rmX]
      rw [show B + 1 - x.length = (B - x.length) + 1 by omega, Nat.pow_succ]
      omega
/-- Different words of at most B signs have no more room than B + 1 times all. -/
theorem rmX_few (B : Nat) : ∀ X : List (List UInt8), X.Nodup → (∀ x ∈ X, Bin x ∧ x.length ≤ B) → rmX B X ≤ (B + 1) * 2 ^ B := by
  induction B with
  | zero =>
    intro X hn h
    have h1 := bin_few 0 X hn (fun x hx => ⟨(h x hx).1, by have := (h x hx).2; omega⟩)
    have h2 : ∀ Y : List (List UInt8), rmX 0 Y = Y.length := by
      intro Y
      induction Y with
      | nil => rfl
      | cons y Y ih => rw [rmX, ih, List.length_cons]; simp; omega
    rw [h2]
    simpa using h1
  | succ B ih =>
    intro X hn h
    rw [rmX_split B X (fun x hx => (h x hx).2)]
    have h1 := bin_few (B + 1) _ (hn.filter fun x => x.length == B + 1) (fun x hx => ⟨(h x (List.mem_filter.1 hx).1).1, by simpa using (List.mem_filter.1 hx).2⟩)
    have h2 := ih _ (hn.filter fun x => !(x.length == B + 1)) (fun x hx => by
      obtain ⟨hx1, hx2⟩ := List.mem_filter.1 hx
      have := h x hx1
      have h3 : x.length ≠ B + 1 := by simpa using hx2
      exact ⟨this.1, by omega⟩)
    have e : (B + 1 + 1) * 2 ^ (B + 1) = 2 ^ (B + 1) + 2 * ((B + 1) * 2 ^ B) := by
      rw [Nat.pow_succ, Nat.add_mul, Nat.one_mul, Nat.add_comm, Nat.mul_comm (2 ^ B) 2, ← Nat.mul_assoc, ← Nat.mul_assoc, Nat.mul_comm (B + 1) 2]
    rw [e]
    omega

/-! ### Rows of m words -/
/-- All rows of m words. -/
def tup (n : Nat) : Nat → List (List Nat)
  | 0 => [[]]
  | m + 1 => (List.range n).flatMap fun i => (tup n m).map (i :: ·)
theorem tup_in (n m : Nat) : ∀ a ∈ tup n m, a.length = m ∧ ∀ i ∈ a, i < n := by
  induction m with
  | zero => intro a ha; simp [tup] at ha; subst ha; simp
  | succ m ih =>
    intro a ha
    rw [tup] at ha
    obtain ⟨i, hi, ha⟩ := List.mem_flatMap.1 ha
    obtain ⟨b, hb, rfl⟩ := List.mem_map.1 ha
    have := ih b hb
    refine ⟨by rw [List.length_cons, this.1], fun j hj => ?_⟩
    rcases List.mem_cons.1 hj with rfl | hj
    · exact List.mem_range.1 hi
    · exact this.2 j hj
theorem tup_nodup (n m : Nat) : (tup n m).Nodup := by
  induction m with
  | zero => simp [tup]
  | succ m ih =>
    rw [tup]
    refine List.pairwise_flatMap.2 ⟨fun i _ => List.pairwise_map.2 (ih.imp fun hne e => hne (by injection e)), ?_⟩
    refine List.nodup_range.imp ?_
    intro i j hij x hx y hy e
    obtain ⟨a, _, rfl⟩ := List.mem_map.1 hx
    obtain ⟨b, _, rfl⟩ := List.mem_map.1 hy
    injection e with e1
    exact hij e1
theorem len_cat {W : List (List UInt8)} (h : ∀ i, (W.getD i []).length ≤ 12) (a : List Nat) : (catW W a).length ≤ 12 * a.length := by
  induction a with
  | nil => simp [catW]
  | cons i a ih =>
    have := h i
    rw [catW_cons, List.length_append, List.length_cons]
    omega
theorem rmX_mul {W : List (List UInt8)} (h : ∀ i, (W.getD i []).length ≤ 12) (i m : Nat) (T : List (List Nat)) (hT : ∀ a ∈ T, a.length = m) :
    rmX (12 * (m + 1)) ((T.map (i :: ·)).map (catW W)) = 2 ^ (12 - (W.getD i []).length) * rmX (12 * m) (T.map (catW W)) := by
  induction T with
  | nil => simp [rmX]
  | cons a T ih =>
    have h1 := len_cat h a
    have h2 := h i
    rw [hT a (by simp)] at h1
    simp only [List.map_cons, rmX]
    have e : 2 ^ (12 * (m + 1) - (catW W (i :: a)).length) = 2 ^ (12 - (W.getD i []).length) * 2 ^ (12 * m - (catW W a).length) := by
      rw [← Nat.pow_add, catW_cons, List.length_append]
      congr 1
      omega
    rw [ih (fun b hb => hT b (by simp [hb])), e, Nat.mul_add]
/-- The room of all rows of m words is the power of the words' room. -/
theorem rmX_pow {W : List (List UInt8)} (h : ∀ i, (W.getD i []).length ≤ 12) (m : Nat) :
    rmX (12 * m) ((tup W.length m).map (catW W)) = (rmX 12 W) ^ m := by
  induction m with
  | zero => simp [tup, rmX, catW]
  | succ m ih =>
    rw [Nat.pow_succ, ← ih, tup]
    have h1 : ∀ k, k ≤ W.length → rmX (12 * (m + 1)) (((List.range k).flatMap fun i => (tup W.length m).map (i :: ·)).map (catW W)) = rmX (12 * m) ((tup W.length m).map (catW W)) * rmX 12 (W.take k) := by
      intro k
      induction k with
      | zero => intro _; simp [rmX]
      | succ k ihk =>
        intro hk
        rw [List.range_succ, List.flatMap_append, List.map_append, rmX_app, ihk (by omega), List.flatMap_singleton, rmX_mul h k m _ (fun a ha => (tup_in _ _ a ha).1), List.take_succ_eq_append_getElem (by omega), rmX_app, Nat.mul_add]
        congr 1
        rw [Nat.mul_comm]
        congr 1
        simp [rmX, List.getD_eq_getElem?_getD, show k < W.length by omega]
    have := h1 W.length (Nat.le_refl _)
    rw [List.take_length] at this
    exact this
/-- A power that grows no faster than a line. -/
theorem pow_grow (N m : Nat) (hN : 1 ≤ N) : N ^ m * (2 * N * N + (2 * N - 1) * m + m * m) ≤ (N + 1) ^ m * (2 * N * N) := by
  induction m with
  | zero => simp
  | succ m ih =>
    obtain ⟨K, rfl⟩ : ∃ K, N = K + 1 := ⟨N - 1, by omega⟩
    have e1 : 2 * (K + 1) - 1 = 2 * K + 1 := by omega
    rw [e1] at ih ⊢
    have hm : m ≤ m * m := by
      cases m with
      | zero => simp
      | succ m => rw [Nat.mul_add]; omega
    have key : (K + 1) * (2 * (K + 1) * (K + 1) + (2 * K + 1) * (m + 1) + (m + 1) * (m + 1)) ≤ (K + 1 + 1) * (2 * (K + 1) * (K + 1) + (2 * K + 1) * m + m * m) := by
      have e2 : (2 * K + 1) * (m + 1) + (m + 1) * (m + 1) = (2 * K + 1) * m + m * m + (2 * (K + 1) + 2 * m) := by
        simp only [Nat.mul_add, Nat.add_mul, Nat.mul_one, Nat.one_mul]; omega
      have e3 : (K + 1) * (2 * (K + 1) + 2 * m) = 2 * (K + 1) * (K + 1) + (2 * K + 2) * m := by
        rw [Nat.mul_add, Nat.mul_comm (K + 1) (2 * (K + 1)), ← Nat.mul_assoc, Nat.mul_comm (K + 1) 2]
        rfl
      have e4 : (2 * K + 2) * m = (2 * K + 1) * m + m := by rw [show 2 * K + 2 = 2 * K + 1 + 1 by omega, Nat.add_mul, Nat.one_mul]
      generalize 2 * (K + 1) * (K + 1) = A at e3 ⊢
      rw [Nat.add_assoc A, e2, ← Nat.add_assoc A, ← Nat.add_assoc A]
      generalize hX : A + (2 * K + 1) * m + m * m = X
      rw [Nat.mul_add (K + 1) X, e3, Nat.add_mul (K + 1) 1 X, Nat.one_mul]
      omega
    rw [Nat.pow_succ, Nat.pow_succ]
    calc (K + 1) ^ m * (K + 1) * (2 * (K + 1) * (K + 1) + (2 * K + 1) * (m + 1) + (m + 1) * (m + 1))
        = (K + 1) ^ m * ((K + 1) * (2 * (K + 1) * (K + 1) + (2 * K + 1) * (m + 1) + (m + 1) * (m + 1))) := by rw [Nat.mul_assoc]
      _ ≤ (K + 1) ^ m * ((K + 1 + 1) * (2 * (K + 1) * (K + 1) + (2 * K + 1) * m + m * m)) := Nat.mul_le_mul_left _ key
      _ = (K + 1 + 1) * ((K + 1) ^ m * (2 * (K + 1) * (K + 1) + (2 * K + 1) * m + m * m)) := by rw [Nat.mul_left_comm]
      _ ≤ (K + 1 + 1) * ((K + 1 + 1) ^ m * (2 * (K + 1) * (K + 1))) := Nat.mul_le_mul_left _ ih
      _ = (K + 1 + 1) ^ m * (K + 1 + 1) * (2 * (K + 1) * (K + 1)) := by rw [← Nat.mul_assoc, Nat.mul_comm (K + 1 + 1)]
theorem pow_line {R N : Nat} (hN : 1 ≤ N) (h : ∀ m, R ^ m ≤ (12 * m + 1) * N ^ m) : R ≤ N := by
  rcases Nat.lt_or_ge N R with hlt | hge
  · exfalso
    obtain ⟨m, hm⟩ : ∃ m, m = 24 * N * N := ⟨_, rfl⟩
    have h1 := h m
    have h2 : (N + 1) ^ m ≤ R ^ m := Nat.pow_le_pow_left hlt m
    have h3 := pow_grow N m hN
    have h4 : N ^ m * (2 * N * N + (2 * N - 1) * m + m * m) ≤ N ^ m * ((12 * m + 1) * (2 * N * N)) := by
      refine Nat.le_trans h3 ?_
      have := Nat.mul_le_mul_right (2 * N * N) (Nat.le_trans h2 h1)
      rw [← Nat.mul_assoc (N ^ m), Nat.mul_comm (N ^ m)]
      exact this
    have h5 := Nat.le_of_mul_le_mul_left h4 (Nat.pow_pos (by omega))
    have e : (12 * m + 1) * (2 * N * N) = m * (24 * N * N) + 2 * N * N := by
      rw [Nat.add_mul, Nat.one_mul]
      congr 1
      rw [Nat.mul_comm 12 m, Nat.mul_assoc m]
      congr 1
      rw [← Nat.mul_assoc, ← Nat.mul_assoc]
    rw [e, ← hm] at h5
    have h6 : 0 < m := by rw [hm]; exact Nat.mul_pos (Nat.mul_pos (by decide) (by omega)) (by omega)
    have h7 : 0 < (2 * N - 1) * m := Nat.mul_pos (by omega) h6
    omega
  · exact hge
/-- MCMILLAN. -/
theorem mcmillan {W : List (List UInt8)} (hu : UD W) (hb : ∀ x ∈ W, Bin x) (hl : ∀ i, (W.getD i []).length ≤ 12) : rmX 12 W ≤ 4096 := by
  refine pow_line (by decide) fun m => ?_
  rw [← rmX_pow hl m]
  have hbin : ∀ a : List Nat, Bin (catW W a) := by
    intro a
    induction a with
    | nil => intro c hc; simp [catW] at hc
    | cons i a ih =>
      rw [catW_cons]
      refine bin_app ?_ ih
      by_cases hi : i < W.length
      · refine hb _ ?_
        rw [List.getD_eq_getElem?_getD, List.getElem?_eq_getElem hi]
        exact List.getElem_mem hi
      · intro c hc; simp [hi] at hc
  have := rmX_few (12 * m) ((tup W.length m).map (catW W)) ?_ ?_
  · rwa [Nat.pow_mul] at this
  · refine List.pairwise_map.2 ((tup_nodup W.length m).imp_of_mem ?_)
    intro a b ha hb hne e
    exact hne (hu a b (tup_in _ _ a ha).2 (tup_in _ _ b hb).2 e)
  · intro x hx
    obtain ⟨a, ha, rfl⟩ := List.mem_map.1 hx
    have h1 := len_cat hl a
    rw [(tup_in _ _ a ha).1] at h1
    exact ⟨hbin a, h1⟩
theorem rmX_rm (W : List (List UInt8)) : rmX 12 W = rm 12 (W.map List.length) := by
  induction W with
  | nil => rfl
  | cons x W ih => rw [rmX, List.map_cons, rm, ih]
end Go.Proofs.Ytlfncplldppncaa

/-
  Plain mathematics, without a program: Kraft: codes by lengths, each the least that goes with all ahead (shorter ones first, of equal ones the earlier): which number it is, that none begins another one, that there are codes where there is room. No condition.
-/
namespace Go.Proofs.Ytlfncplldppncaa

/-! ### Bits of a number -/
/-- So many bits of a number, the last one last. -/
def bitsL : Nat → Nat → List UInt8
  | 0, _ => []
  | n + 1, k => bitsL n (k / 2) ++ [if k % 2 = 1 then 49 else 48]
theorem bits_len (n : Nat) : ∀ k, (bitsL n k).length = n := by
  induction n with
  | zero => intro k; rfl
  | succ n ih => intro k; rw [bitsL, List.length_append, ih]; rfl
theorem bits_bin (n : Nat) : ∀ k, Bin (bitsL n k) := by
  induction n with
  | zero => intro k c hc; simp [bitsL] at hc
  | succ n ih =>
    intro k
    rw [bitsL]
    refine bin_app (ih _) fun c hc => ?_
    have hc := List.mem_singleton.1 hc
    by_cases h : k % 2 = 1
    · rw [if_pos h] at hc; exact .inr hc
    · rw [if_neg h] at hc; exact .inl hc
theorem bits_inj (n : Nat) : ∀ k k', k < 2 ^ n → k' < 2 ^ n → bitsL n k = bitsL n k' → k = k' := by
  induction n with
  | zero => intro k k' h h' _; simp at h h'; omega
  | succ n ih =>
    intro k k' h h' e
    rw [bitsL, bitsL] at e
    rw [Nat.pow_succ] at h h'
    obtain ⟨e1, e2⟩ := List.append_inj e (by rw [bits_len, bits_len])
    have h1 := ih (k / 2) (k' / 2) (by omega) (by omega) e1
    injection e2 with e2
    have h2 : k % 2 = k' % 2 := by
      by_cases a : k % 2 = 1 <;> by_cases b : k' % 2 = 1
      · omega
      · rw [if_pos a, if_neg b] at e2; exact absurd e2 (by decide)
      · rw [if_neg a, if_pos b] at e2; exact absurd e2 (by decide)
      · omega
    omega
theorem bits_take (d : Nat) : ∀ (n k : Nat), (bitsL (n + d) k).take n = bitsL n (k / 2 ^ d) := by
  induction d with
  | zero => intro n k; rw [Nat.add_zero, List.take_of_length_le (by rw [bits_len]; exact Nat.le_refl _)]; simp
  | succ d ih =>
    intro n k
    rw [← Nat.add_assoc, bitsL, List.take_append_of_le_length (by rw [bits_len]; omega), ih, Nat.div_div_eq_div_mul, Nat.pow_succ, Nat.mul_comm 2]
/-- One code begins another one just if its number comes of the other one's. -/
theorem bits_pre {n n' k k' : Nat} (hn : n' ≤ n) (hk : k < 2 ^ n) (hk' : k' < 2 ^ n') : bitsL n' k' <+: bitsL n k ↔ k / 2 ^ (n - n') = k' := by
  obtain ⟨d, rfl⟩ : ∃ d, n = n' + d := ⟨n - n', by omega⟩
  rw [Nat.add_sub_cancel_left]
  have ht := bits_take d n' k
  have hlt : k / 2 ^ d < 2 ^ n' := by
    rw [Nat.div_lt_iff_lt_mul (Nat.pow_pos (by decide)), ← Nat.pow_add]
    exact hk
  constructor
  · intro h
    have := List.prefix_iff_eq_take.1 h
    rw [bits_len, ht] at this
    exact (bits_inj n' _ _ hk' hlt this).symm
  · intro h
    refine List.prefix_iff_eq_take.2 ?_
    rw [bits_len, ht, h]

/-! ### What is used by codes ahead -/
/-- Does code j come ahead of place i of length n? -/
def bef (l : List Nat) (n i j : Nat) : Bool := decide (l.getD j 0 < n ∨ (l.getD j 0 = n ∧ j < i))
theorem bef_iff (l : List Nat) (n i j : Nat) : bef l n i j = true ↔ l.getD j 0 < n ∨ (l.getD j 0 = n ∧ j < i) := by simp [bef]
/-- The room of those ahead among the first k. -/
def usdTo (l : List Nat) (n i : Nat) : Nat → Nat
  | 0 => 0
  | k + 1 => usdTo l n i k + if bef l n i k then 2 ^ (12 - l.getD k 0) else 0
def usd (l : List Nat) (n i : Nat) : Nat := usdTo l n i l.length
theorem usdTo_congr {l : List Nat} {n i n' i' : Nat} (k : Nat) (h : ∀ j, j < k → bef l n i j = bef l n' i' j) : usdTo l n i k = usdTo l n' i' k := by
  induction k with
  | zero => rfl
  | succ k ih => rw [usdTo, usdTo, ih (fun j hj => h j (by omega)), h k (by omega)]
theorem usdTo_mono {l : List Nat} {n i n' i' : Nat} (k : Nat) (h : ∀ j, j < k → bef l n i j = true → bef l n' i' j = true) : usdTo l n i k ≤ usdTo l n' i' k := by
  induction k with
  | zero => exact Nat.le_refl _
  | succ k ih =>
    rw [usdTo, usdTo]
    have h1 := ih (fun j hj => h j (by omega))
    by_cases e : bef l n i k = true
    · rw [e, h k (by omega) e]; omega
    · rw [if_neg e]; omega
theorem usd_skip {l : List Nat} {n i : Nat} (h : l.getD i 0 ≠ n) : usd l n (i + 1) = usd l n i :=
  usdTo_congr _ fun j _ => by
    have : (l.getD j 0 < n ∨ (l.getD j 0 = n ∧ j < i + 1)) ↔ (l.getD j 0 < n ∨ (l.getD j 0 = n ∧ j < i)) := by
      constructor
      · rintro (h1 | ⟨h1, h2⟩)
        · exact .inl h1
        · refine .inr ⟨h1, ?_⟩
          rcases Nat.lt_or_ge j i with h3 | h3
          · exact h3
          · obtain rfl : j = i := by omega
            exact absurd h1 h
      · rintro (h1 | ⟨h1, h2⟩)
        · exact .inl h1
        · exact .inr ⟨h1, by omega⟩
    unfold bef
    exact decide_eq_decide.2 this
theorem usd_take {l : List Nat} {n i : Nat} (hi : i < l.length) (h : l.getD i 0 = n) : usd l n (i + 1) = usd l n i + 2 ^ (12 - n) := by
  have : ∀ k, usdTo l n (i + 1) k = usdTo l n i k + if i < k then 2 ^ (12 - n) else 0 := by
    intro k
    induction k with
    | zero => rfl
    | succ k ih =>
      rw [usdTo, usdTo, ih]
      by_cases e : i = k
      · subst e
        have h1 : bef l n (i + 1) i = true := (bef_iff _ _ _ _).2 (.inr ⟨h, by omega⟩)
        have h2 : ¬ bef l n i i = true := fun hb => by
          rcases (bef_iff _ _ _ _).1 hb with h3 | ⟨_, h3⟩ <;> omega
        rw [h1, if_neg h2, if_neg (by omega : ¬ i < i), if_pos (by omega : i < i + 1), h]
        simp
      · have h1 : bef l n (i + 1) k = bef l n i k := by
          unfold bef
          refine decide_eq_decide.2 ⟨?_, ?_⟩
          · rintro (h1 | ⟨h1, h2⟩)
            · exact .inl h1
            · exact .inr ⟨h1, by omega⟩
          · rintro (h1 | ⟨h1, h2⟩)
            · exact .inl h1
            · exact .inr ⟨h1, by omega⟩
        rw [h1]
        by_cases h3 : i < k
        · rw [if_pos h3, if_pos (by omega : i < k + 1)]; omega
        · rw [if_neg h3, if_neg (by omega : ¬ i < k + 1)]; omega
  have := this l.length
  rwa [if_pos hi] at this
theorem usd_next (l : List Nat) (n : Nat) : usd l (n + 1) 0 = usd l n l.length :=
  usdTo_congr _ fun j hj => by
    unfold bef
    refine decide_eq_decide.2 ⟨?_, ?_⟩
    · rintro (h1 | ⟨_, h2⟩)
      · by_cases e : l.getD j 0 = n
        · exact .inr ⟨e, hj⟩
        · exact .inl (by omega)
      · omega
    · rintro (h1 | ⟨h1, _⟩)
      · exact .inl (by omega)
      · exact .inl (by omega)
theorem usd_first (l : List Nat) : usd l 0 0 = 0 := by
  have : ∀ k, usdTo l 0 0 k = 0 := by
    intro k
    induction k with
    | zero => rfl
    | succ k ih =>
      have h2 : ¬ bef l 0 0 k = true := fun hb => by
        rcases (bef_iff _ _ _ _).1 hb with h3 | ⟨_, h3⟩ <;> omega
      rw [usdTo, ih, if_neg h2]
  exact this _
theorem usd_all (l : List Nat) (n i : Nat) : usd l n i ≤ rm 12 l := by
  have : ∀ k, k ≤ l.length → usdTo l n i k ≤ rm 12 (l.take k) := by
    intro k
    induction k with
    | zero => intro _; simp [usdTo]
    | succ k ih =>
      intro hk
      have h1 := ih (by omega)
      have e : rm 12 (l.take (k + 1)) = rm 12 (l.take k) + 2 ^ (12 - l.getD k 0) := by
        rw [List.take_succ_eq_append_getElem (by omega), rm_app]
        simp [rm, List.getD_eq_getElem?_getD, show k < l.length by omega]
      have hp : 0 < 2 ^ (12 - l.getD k 0) := Nat.pow_pos (by decide)
      rw [usdTo, e]
      split <;> omega
  have := this l.length (Nat.le_refl _)
  rwa [List.take_length] at this
theorem usd_dvd {l : List Nat} {n i : Nat} (hn : n ≤ 12) : 2 ^ (12 - n) ∣ usd l n i := by
  have : ∀ k, 2 ^ (12 - n) ∣ usdTo l n i k := by
    intro k
    induction k with
    | zero => exact Nat.dvd_zero _
    | succ k ih =>
      rw [usdTo]
      refine Nat.dvd_add ih ?_
      by_cases e : bef l n i k = true
      · rw [if_pos e]
        refine Nat.pow_dvd_pow 2 ?_
        rcases (bef_iff _ _ _ _).1 e with h | ⟨h, _⟩ <;> omega
      · rw [if_neg e]; exact Nat.dvd_zero _
  exact this _
/-- What those ahead of j use. -/
def ahd (l : List Nat) (j : Nat) : Nat := usd l (l.getD j 0) j
theorem ahd_le {l : List Nat} {n i j : Nat} (hj : j < l.length) (h : bef l n i j = true) : ahd l j + 2 ^ (12 - l.getD j 0) ≤ usd l n i := by
  unfold ahd
  rw [← usd_take hj rfl]
  refine usdTo_mono _ fun k _ hk => ?_
  have h1 := (bef_iff _ _ _ _).1 h
  have h2 := (bef_iff _ _ _ _).1 hk
  refine (bef_iff _ _ _ _).2 ?_
  rcases h1 with h1 | ⟨h1, h3⟩
  · rcases h2 with h2 | ⟨h2, _⟩
    · exact .inl (by omega)
    · exact .inl (by omega)
  · rcases h2 with h2 | ⟨h2, h4⟩
    · exact .inl (by omega)
    · exact .inr ⟨by omega, by omega⟩
/-- What is used is used by one of those ahead. -/
theorem usd_cover (l : List Nat) : ∀ (n i : Nat), i ≤ l.length → ∀ x, x < usd l n i → ∃ j, j < l.length ∧ bef l n i j = true ∧ ahd l j ≤ x ∧ x < ahd l j + 2 ^ (12 - l.getD j 0) := by
  have row : ∀ n, (∀ x, x < usd l n 0 → ∃ j, j < l.length ∧ bef l n 0 j = true ∧ ahd l j ≤ x ∧ x < ahd l j + 2 ^ (12 - l.getD j 0)) →
      ∀ i, i ≤ l.length → ∀ x, x < usd l n i → ∃ j, j < l.length ∧ bef l n i j = true ∧ ahd l j ≤ x ∧ x < ahd l j + 2 ^ (12 - l.getD j 0) := by
    intro n h0 i
    induction i with
    | zero => intro _; exact h0
    | succ i ih =>
      intro hi x hx
      have up : ∀ j, bef l n i j = true → bef l n (i + 1) j = true := fun j hb => by
        rcases (bef_iff _ _ _ _).1 hb with h | ⟨h, h'⟩
        · exact (bef_iff _ _ _ _).2 (.inl h)
        · exact (bef_iff _ _ _ _).2 (.inr ⟨h, by omega⟩)
      by_cases e : l.getD i 0 = n
      · rw [usd_take (by omega) e] at hx
        by_cases h : x < usd l n i
        · obtain ⟨j, h1, h2, h3⟩ := ih (by omega) x h
          exact ⟨j, h1, up j h2, h3⟩
        · refine ⟨i, by omega, (bef_iff _ _ _ _).2 (.inr ⟨e, by omega⟩), ?_⟩
          unfold ahd
          rw [e]
          omega
      · rw [usd_skip e] at hx
        obtain ⟨j, h1, h2, h3⟩ := ih (by omega) x hx
        exact ⟨j, h1, up j h2, h3⟩
  intro n
  induction n with
  | zero => exact row 0 (fun x hx => by rw [usd_first] at hx; omega)
  | succ n ih =>
    refine row (n + 1) fun x hx => ?_
    rw [usd_next] at hx
    obtain ⟨j, h1, h2, h3⟩ := ih l.length (Nat.le_refl _) x hx
    refine ⟨j, h1, (bef_iff _ _ _ _).2 (.inl ?_), h3⟩
    rcases (bef_iff _ _ _ _).1 h2 with h | ⟨h, _⟩ <;> omega

/-! ### The codes -/
/-- Lengths that are let in. -/
def LenOk (l : List Nat) : Prop := ∀ j, j < l.length → 1 ≤ l.getD j 0 ∧ l.getD j 0 ≤ 12
/-- The number of code i. -/
def cvN (l : List Nat) (i : Nat) : Nat := ahd l i / 2 ^ (12 - l.getD i 0)
/-- Code i. -/
def codeL (l : List Nat) (i : Nat) : List UInt8 := bitsL (l.getD i 0) (cvN l i)
/-- All codes. -/
def codesL (l : List Nat) : List (List UInt8) := (List.range l.length).map (codeL l)
theorem cvN_mul {l : List Nat} (h : LenOk l) {i : Nat} (hi : i < l.length) : cvN l i * 2 ^ (12 - l.getD i 0) = ahd l i := Nat.div_mul_cancel (usd_dvd (h i hi).2)
theorem pow_part {n : Nat} (hn : n ≤ 12) : 2 ^ n * 2 ^ (12 - n) = 4096 := by
  rw [← Nat.pow_add, show n + (12 - n) = 12 by omega]
theorem cvN_lt {l : List Nat} (h : LenOk l) (hr : rm 12 l ≤ 4096) {i : Nat} (hi : i < l.length) : cvN l i < 2 ^ (l.getD i 0) := by
  have h1 := usd_all l (l.getD i 0) (i + 1)
  rw [usd_take hi rfl] at h1
  have h2 : 0 < 2 ^ (12 - l.getD i 0) := Nat.pow_pos (by decide)
  unfold cvN
  rw [Nat.div_lt_iff_lt_mul h2, pow_part (h i hi).2]
  unfold ahd
  omega
/-- Code j, which comes ahead, begins the code of number k just if k lies in its room. -/
theorem code_begins {l : List Nat} (h : LenOk l) (hr : rm 12 l ≤ 4096) {n i j k : Nat} (hn : n ≤ 12) (hj : j < l.length) (hb : bef l n i j = true) (hk : k < 2 ^ n) :
    codeL l j <+: bitsL n k ↔ ahd l j ≤ k * 2 ^ (12 - n) ∧ k * 2 ^ (12 - n) < ahd l j + 2 ^ (12 - l.getD j 0) := by
  have hle : l.getD j 0 ≤ n := by rcases (bef_iff _ _ _ _).1 hb with h | ⟨h, _⟩ <;> omega
  unfold codeL
  rw [bits_pre hle hk (cvN_lt h hr hj), ← cvN_mul h hj]
  generalize cvN l j = c
  have e : 2 ^ (12 - l.getD j 0) = 2 ^ (n - l.getD j 0) * 2 ^ (12 - n) := by
    rw [← Nat.pow_add]
    congr 1
    omega
  rw [e]
  have hp : 0 < 2 ^ (12 - n) := Nat.pow_pos (by decide)
  have hq : 0 < 2 ^ (n - l.getD j 0) := Nat.pow_pos (by decide)
  generalize 2 ^ (12 - n) = P at hp ⊢
  generalize 2 ^ (n - l.getD j 0) = Q at hq ⊢
  rw [← Nat.mul_assoc, ← Nat.add_mul, Nat.mul_le_mul_right_iff hp, Nat.mul_lt_mul_right hp]
  constructor
  · rintro rfl
    exact ⟨Nat.div_mul_le_self k Q, by have := Nat.lt_div_mul_add (a := k) hq; omega⟩
  · rintro ⟨h1, h2⟩
    have h3 : c * Q + Q = (c + 1) * Q := by rw [Nat.add_mul, Nat.one_mul]
    rw [h3] at h2
    have h4 : c ≤ k / Q := (Nat.le_div_iff_mul_le hq).2 h1
    have h5 : k / Q < c + 1 := (Nat.div_lt_iff_lt_mul hq).2 h2
    omega
/-- Of numbers below code i's, each has a code ahead that begins it. -/
theorem code_least {l : List Nat} (h : LenOk l) (hr : rm 12 l ≤ 4096) {i k : Nat} (hi : i < l.length) (hk : k < cvN l i) : ∃ j, j < l.length ∧ bef l (l.getD i 0) i j = true ∧ codeL l j <+: bitsL (l.getD i 0) k := by
  have hlt := cvN_lt h hr hi
  have hp : 0 < 2 ^ (12 - l.getD i 0) := Nat.pow_pos (by decide)
  have hx : k * 2 ^ (12 - l.getD i 0) < usd l (l.getD i 0) i := by
    have := cvN_mul h hi
    unfold ahd at this
    rw [← this]
    exact (Nat.mul_lt_mul_right hp).2 hk
  obtain ⟨j, h1, h2, h3⟩ := usd_cover l _ i (by omega) _ hx
  exact ⟨j, h1, h2, (code_begins h hr (h i hi).2 h1 h2 (by omega)).2 h3⟩
/-- Of those ahead of code i, none begins it. -/
theorem code_free {l : List Nat} (h : LenOk l) (hr : rm 12 l ≤ 4096) {i j : Nat} (hi : i < l.length) (hj : j < l.length) (hb : bef l (l.getD i 0) i j = true) : ¬ codeL l j <+: codeL l i := by
  intro hc
  have h1 := (code_begins h hr (h i hi).2 hj hb (cvN_lt h hr hi)).1 hc
  rw [cvN_mul h hi] at h1
  have h2 := ahd_le hj hb
  unfold ahd at h1 h2
  omega
theorem codesL_len (l : List Nat) : (codesL l).length = l.length := by simp [codesL]
theorem codesL_at {l : List Nat} {i : Nat} (hi : i < l.length) : (codesL l).getD i [] = codeL l i := by simp [codesL, hi]
theorem codeL_len (l : List Nat) (i : Nat) : (codeL l i).length = l.getD i 0 := bits_len _ _
/-- KRAFT: where there is room, no code begins another one. -/
theorem codes_pfree {l : List Nat} (h : LenOk l) (hr : rm 12 l ≤ 4096) : Pfree (codesL l) := by
  intro i k hi hk hne hc
  rw [codesL_len] at hi hk
  rw [codesL_at hi, codesL_at hk] at hc
  have hle := hc.length_le
  rw [codeL_len, codeL_len] at hle
  by_cases hb : bef l (l.getD i 0) i k = true
  · exact code_free h hr hi hk hb hc
  · have h1 : ¬ (l.getD k 0 < l.getD i 0 ∨ (l.getD k 0 = l.getD i 0 ∧ k < i)) := fun h => hb ((bef_iff _ _ _ _).2 h)
    have e : l.getD k 0 = l.getD i 0 := by omega
    have e2 : codeL l k = codeL l i := hc.eq_of_length (by rw [codeL_len, codeL_len, e])
    refine code_free h hr hk hi ((bef_iff _ _ _ _).2 (.inr ⟨e.symm, by omega⟩)) ?_
    rw [e2]
    exact List.prefix_refl _
theorem codes_ok {l : List Nat} (h : LenOk l) (hr : rm 12 l ≤ 4096) : Okw (codesL l) := by
  refine ⟨?_, fun x hx => ?_⟩
  · rw [List.nodup_iff_pairwise_ne, List.pairwise_iff_getElem]
    intro i k hi hk hik e
    have h1 := codes_pfree h hr k i hk hi (by omega)
    apply h1
    rw [List.getD_eq_getElem?_getD, List.getD_eq_getElem?_getD, List.getElem?_eq_getElem hi, List.getElem?_eq_getElem hk]
    simp only [Option.getD_some]
    rw [e]
    exact List.prefix_refl _
  · obtain ⟨i, hi, rfl⟩ := List.mem_map.1 hx
    intro e
    have := codeL_len l i
    rw [e, List.length_nil] at this
    have h2 := (h i (List.mem_range.1 hi)).1
    omega
end Go.Proofs.Ytlfncplldppncaa

/-
  Contracts of kraft.Check, share and Room: what is wrong with lengths, the room of one code, the room of all of them. Conditions: of share a length from 1 to 12; of Room none.
-/
namespace Go.Proofs.Ytlfncplldppncaa
open Go.RowKit

theorem lenC_iff {l : List Int} {k : Int} (h : LenC l k) : (k = 0 ↔ l.length ≤ 10 ∧ InL 1 12 l) := by
  rcases h with ⟨h1, rfl⟩ | ⟨h1, h2, rfl⟩ | ⟨h1, h2, rfl⟩
  · exact ⟨fun h => by omega, fun h => by omega⟩
  · exact ⟨fun h => by omega, fun h => absurd h.2 h2⟩
  · exact ⟨fun _ => ⟨h1, h2⟩, fun _ => rfl⟩
theorem lenC_one {l : List Int} {k k' : Int} (h : LenC l k) (h' : LenC l k') : k = k' := by
  rcases h with ⟨h1, rfl⟩ | ⟨h1, h2, rfl⟩ | ⟨h1, h2, rfl⟩ <;> rcases h' with ⟨h1', rfl⟩ | ⟨h1', h2', rfl⟩ | ⟨h1', h2', rfl⟩ <;> first | rfl | omega | (exact absurd h2' h2) | (exact absurd h2 h2')
theorem lenC_nums {E : List Nat} (h : E.length ≤ 10) (hE : LenOk E) : LenC (nums E) 0 := .inr (.inr ⟨by rw [nums_len]; exact h, fun i hi => by
  rw [nums_len] at hi
  rw [nums_at]
  have := hE i hi
  omega, rfl⟩)

set_option maxHeartbeats 1000000 in
theorem kcheck_any (A : Option Addr) (n c : Nat) (l : List Int) (w : World) (hl : IsInts w w.heap.size A n l) :
    Calls Try.prog 22 #[.slice A n c] w fun e w' => ((LenC l 0 ∧ e = .returned .nilIface) ∨ ∃ k, LenC l k ∧ k ≠ 0 ∧ e = .returned (.iface 58 (.int .i64 k))) ∧ w' = w := by
  have HN := hid hl.1
  have HL := hid hl
  have hlen := hl.1
  by_cases h10 : n ≤ 10
  · clear hl hlen
    have n2 : ¬ (10 < (n : Int)) := by omega
    go_enter Try.func22, Try.ntmps22
    go_wp2_with fail
    go_loopw [11] (fun x wr => ∃ i : Nat, i ≤ n ∧ x = .int .i64 i ∧ Hid (∀ j, j < i → 1 ≤ l.getD j 0 ∧ l.getD j 0 ≤ 12) ∧ wr = w) (fun x _ => n - (intOf x).toNat)
    case atStart => exact ⟨0, by omega, rfl, hid (fun j hj => absurd hj (by omega)), rfl⟩
    case round =>
      obtain ⟨i, hin, rfl, HO, hw⟩ := hrel
      subst wr
      by_cases hlt : i < n
      · obtain ⟨g, off, rfl, hg, hc⟩ := HL.out.2 (by omega)
        have c1 := hc i hlt
        clear hc
        by_cases hr : 1 ≤ l.getD i 0 ∧ l.getD i 0 ≤ 12
        · have HO2 : Hid (∀ j, j < i + 1 → 1 ≤ l.getD j 0 ∧ l.getD j 0 ≤ 12) := hid (fun j hj => by
            rcases Nat.lt_or_ge j i with h | h
            · exact HO.out j h
            · obtain rfl : j = i := by omega
              exact hr)
          generalize l.getD i 0 = X at c1 hr
          have r1 : ¬ (X < 1) := by omega
          have r2 : ¬ (12 < X) := by omega
          clear hr HO
          go_wp2_with fail
          go_roundw
          case rel => exact ⟨i + 1, by omega, by go_num, HO2, by first | rfl | trivial⟩
          case measure => simp [intOf]; omega
        · have HB : Hid (LenC l 1) := hid (.inr (.inl ⟨by have := HN.out; omega, fun h => hr (h i (by have := HN.out; omega)), rfl⟩))
          generalize l.getD i 0 = X at c1 hr
          have hX : X < 1 ∨ (¬ X < 1 ∧ 12 < X) := by omega
          clear hr HO
          rcases hX with r1 | ⟨r1, r2⟩
          · go_wp2_with fail
            go_ret
            exact ⟨.inr ⟨1, HB.out, by decide, rfl⟩, by first | rfl | trivial⟩
          · go_wp2_with fail
            go_ret
            exact ⟨.inr ⟨1, HB.out, by decide, rfl⟩, by first | rfl | trivial⟩
      · obtain rfl : i = n := by omega
        have HG : Hid (LenC l 0) := hid (.inr (.inr ⟨by have := HN.out; omega, fun j hj => HO.out j (by have := HN.out; omega), rfl⟩))
        clear HO
        go_wp2_with fail
        go_ret
        exact ⟨.inl ⟨HG.out, rfl⟩, by first | rfl | trivial⟩
  · have HB : Hid (LenC l 4) := hid (.inl ⟨by omega, rfl⟩)
    have n2 : 10 < (n : Int) := by omega
    clear HN HL hl hlen
    go_enter Try.func22, Try.ntmps22
    go_wp2_with fail
    go_ret
    exact ⟨.inr ⟨4, HB.out, by decide, rfl⟩, rfl⟩

theorem share_num {d : Nat} (h : d ≤ 12) : (4096 : Int) / 2 ^ d = ((2 ^ (12 - d) : Nat) : Int) := by
  have h1 := pow_part h
  have h2 : 4096 / 2 ^ d = 2 ^ (12 - d) := Nat.div_eq_of_eq_mul_right (Nat.pow_pos (by decide)) h1.symm
  rw [← h2, Int.natCast_ediv]
  rfl
theorem share_any (d : Nat) (w : World) (h : d ≤ 12) :
    Calls Try.prog 23 #[.int .i64 (d : Int)] w fun e w' => e = .returned (.int .i64 ((2 ^ (12 - d) : Nat) : Int)) ∧ w' = w := by
  have HE := hid (share_num h)
  generalize 2 ^ (12 - d) = R at HE ⊢
  go_enter Try.func23, Try.ntmps23
  go_wp2_with fail
  go_ret
  exact ⟨ret_int HE.out, rfl⟩

set_option maxHeartbeats 1000000 in
theorem kroom_ok (A : Option Addr) (n c : Nat) (E : List Nat) (w : World) (hl : IsInts w w.heap.size A n (nums E)) (h10 : n ≤ 10) (hE : LenOk E) :
    Calls Try.prog 9 #[.slice A n c] w fun e w' => e = .returned (.tuple #[.int .i64 ((rm 12 E : Nat) : Int), .nilIface]) ∧ Below w.heap.size w w' := by
  have hls : E.length = n := by rw [← nums_len]; exact hl.1
  have HC := hid (kcheck_any A n c (nums E) w hl)
  have HO := hid (lenC_nums (by omega) hE)
  have HI := hid hl
  have HL := hid hls
  have HE := hid hE
  clear hl hls hE
  go_enter Try.func9, Try.ntmps9
  go_wp2_with fail
  refine HC.out.mono ?_
  rintro e w1 ⟨h1, hw1⟩
  subst w1
  obtain ⟨_, rfl⟩ | ⟨k, hk, hk0, rfl⟩ := h1
  rotate_left
  · exact absurd (lenC_one hk HO.out) hk0
  clear HC HO
  go_wp2_with fail
  go_loopw [5, 15] (fun v x wr => ∃ i : Nat, i ≤ n ∧ x = .int .i64 i ∧ v = .int .i64 (rm 12 (E.take i) : Nat) ∧ wr = w) (fun _ x _ => n - (intOf x).toNat)
  case atStart => exact ⟨0, by omega, rfl, rfl, rfl⟩
  case round =>
    obtain ⟨i, hin, rfl, rfl, hwr⟩ := hrel
    subst wr
    by_cases hlt : i < n
    · obtain ⟨g, off, rfl, hg, hc⟩ := HI.out.2 (by omega)
      have c1 := hc i hlt
      rw [nums_at] at c1
      have hS := hid (rm_succ E (i := i) (by rw [HL.out]; exact hlt))
      have b1 : rm 12 (E.take i) ≤ 40960 := Nat.le_trans (rm_le _) (by rw [List.length_take]; omega)
      have h12 := (HE.out i (by rw [HL.out]; exact hlt)).2
      have HP := fun W => hid (share_any (E.getD i 0) W h12)
      have b2 : 2 ^ (12 - E.getD i 0) ≤ 4096 := pow_le (n := 12) (by omega)
      generalize rm 12 (E.take i) = R at hS b1
      generalize E.getD i 0 = K at c1 hS h12 HP b2
      generalize 2 ^ (12 - K) = Y at hS HP b2
      clear hc
      go_wp2_with fail
      refine (HP _).out.mono ?_
      rintro e w5 ⟨rfl, hw5⟩
      subst w5
      go_wp2_with fail
      go_roundw
      case rel => exact ⟨i + 1, by omega, by go_num, by rw [hS.out]; push_cast; rfl, by first | rfl | trivial⟩
      case measure => simp [intOf]; omega
    · obtain rfl : i = n := by omega
      have HT : Hid (rm 12 (E.take i) = rm 12 E) := hid (by rw [List.take_of_length_le (by rw [HL.out]; exact Nat.le_refl _)])
      generalize rm 12 (E.take i) = R at HT ⊢
      go_wp2_with fail
      go_ret2
      exact ⟨by rw [HT.out]; rfl, Below.refl _ _⟩
theorem kroom_bad (A : Option Addr) (n c : Nat) (ys : List Int) (k : Int) (w : World) (hl : IsInts w w.heap.size A n ys) (hk : LenC ys k) (hk0 : k ≠ 0) :
    Calls Try.prog 9 #[.slice A n c] w fun e w' => e = .returned (.tuple #[.int .i64 0, .iface 58 (.int .i64 k)]) ∧ Below w.heap.size w w' := by
  have HC := hid (kcheck_any A n c ys w hl)
  have HK := hid hk
  have HK0 := hid hk0
  clear hl hk hk0
  go_enter Try.func9, Try.ntmps9
  go_wp2_with fail
  refine HC.out.mono ?_
  rintro e w1 ⟨h1, hw1⟩
  subst w1
  obtain ⟨h0, rfl⟩ | ⟨k', hk', _, rfl⟩ := h1
  · exact absurd (lenC_one HK.out h0) HK0.out
  obtain rfl := lenC_one hk' HK.out
  clear HC HK HK0 hk'
  go_wp2_with fail
  go_ret2
  exact ⟨rfl, Below.refl _ _⟩
end Go.Proofs.Ytlfncplldppncaa
