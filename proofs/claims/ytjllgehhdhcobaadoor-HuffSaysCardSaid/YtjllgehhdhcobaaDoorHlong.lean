/-
  Contract of huff.Long: lengths where the first one of several least is taken, or what is wrong with the weights. No condition but the slice's.
-/
import Derived.Test.YtjllgehhdhcobaaDoorHsingle
import Derived.Test.YtjllgehhdhcobaaDoorHtake
import Derived.Test.YtjllgehhdhcobaaDoorHjoin
namespace Go.Proofs.YtjllgehhdhcobaaDoor
open Go.RowKit

theorem hlong_bad (A : Option Addr) (n c : Nat) (l : List Int) (k : Int) (w : World) (hl : IsInts w w.heap.size A n l) (hk : BadH l k) :
    Calls Tryd.prog 8 #[.slice A n c] w fun e w' => e = .returned (.tuple #[.slice none 0 0, .iface 36 (.int .i64 k)]) ∧ w' = w := by
  have HC := hid (hcheck_any A n c l w hl)
  have HK := hid hk
  clear hl hk
  go_enter Tryd.func8, Tryd.ntmps8
  go_wp2_with fail
  refine HC.out.mono ?_
  rintro e w1 ⟨h, hw⟩
  subst w1
  rcases h with ⟨h, _⟩ | ⟨k', h, rfl⟩
  · exact (goodH_not h HK.out).elim
  · obtain rfl := badH_one h HK.out
    clear h
    go_wp2_with fail
    go_ret2
    exact ⟨rfl, rfl⟩

/-- Huffman's loop, between two rounds: the variable V, the heaps' block Tb, the lengths' block L. -/
structure LSt (wr : World) (V Tb L n : Nat) (D : List Nat) (ts : List Tr) (o : List Nat) : Prop where
  trs : Trs wr V Tb n ts
  num : NumAt wr L 3 (nums o)
  olen : o.length = n
  leaf : Leaves wr (fun b => b = V ∨ b = Tb ∨ b = L) ts
  hst : Hst D (ts.map hp) fun i => o.getD i 0
  wb : Wb ts
  dlen : D.length = n
  n1 : L ≠ V
  n2 : L ≠ Tb
/-- How many heaps the variable V has. -/
def lenAt (w : World) (V : Nat) : Nat := match w.cell? ⟨V, 0, none⟩ with
  | some (.slice _ m _) => m
  | _ => 0
theorem lenAt_trs {w : World} {V T n : Nat} {ts : List Tr} (h : Trs w V T n ts) : lenAt w V = ts.length := by
  unfold lenAt
  rw [h.v.cell (k := 0) rfl]
theorem wb_heaps (l : List Int) (h : ∀ x ∈ l, 0 ≤ x ∧ x ≤ 1000) (ts : List Tr) (n : Nat) (hn : n ≤ l.length) (hm : ts.map hp = heaps l n) : Wb ts := by
  intro t ht
  have h1 : hp t ∈ heaps l n := by rw [← hm]; exact List.mem_map.2 ⟨t, ht, rfl⟩
  obtain ⟨i, hi, he⟩ := List.mem_map.1 h1
  have hi := List.mem_range.1 hi
  have e1 : t.1 = l.getD i 0 := (congrArg Prod.fst he).symm
  have e2 : t.2.2 = [i] := (congrArg Prod.snd he).symm
  have := h (l.getD i 0) (by rw [List.getD_eq_getElem?_getD, List.getElem?_eq_getElem (by omega)]; exact List.getElem_mem _)
  rw [e1, e2, List.length_singleton]
  omega

set_option maxRecDepth 100000 in
set_option maxHeartbeats 4000000 in
theorem hlong_ok (A : Option Addr) (n c : Nat) (l : List Int) (D : List Nat) (w : World) (hl : IsInts w w.heap.size A n l) (hg : GoodH l) (hD : Dep l D) :
    Calls Tryd.prog 8 #[.slice A n c] w fun e w' => ∃ L : Nat, e = .returned (.tuple #[.slice (some ⟨L, 0, none⟩) n n, .nilIface]) ∧ w.heap.size ≤ L ∧ NumAt w' L 3 (nums D) ∧ Below w.heap.size w w' := by
  obtain ⟨i0, hi, hz0, hz1, hz2⟩ := info_parts int_info
  have hn : l.length = n := hl.1
  have h0 : 0 < n := by have := hg.1; omega
  have h10 : n ≤ 10 := by have := hg.2.1; omega
  have HC := hid (hcheck_any A n c l w hl)
  have HS := fun (w1 : World) (h1 : Below w.heap.size w w1) => hid (single_any A n c l w1 ((hl.below h1).keep h1.size fun _ _ _ => rfl) h0 h10)
  have HG := hid hg
  have HD := hid hD
  have HN := hid hn
  clear hl hg hD hn
  go_enter Tryd.func8, Tryd.ntmps8
  go_wp2_with fail
  refine HC.out.mono ?_
  rintro e w1 ⟨h, hw⟩
  subst w1
  rcases h with ⟨_, rfl⟩ | ⟨k', h, _⟩
  rotate_left
  · exact (goodH_not HG.out h).elim
  go_wp2_with (at_make; refine wpList_make_full _ rfl _ _ 22 rfl w.heap.size 3 i0 (.int .i64 0) 1 Tryd.underlying22 hi hz0 hz1 _ _ _ _ n rfl rfl rfl rfl (by rw [hz2]; omega) (by unfold maxLen; omega) (Nat.le_refl _) ?_)
  intro w1 hown hgr
  have hb1 : Below w.heap.size w w1 := (Below.refl _ _).grown hgr (Nat.le_refl _) (by intro k hk; cases hk)
  have hL := NumAt.made hown
  clear hown hgr
  obtain ⟨L, hLe⟩ : ∃ L, L = w.heap.size := ⟨_, rfl⟩
  have HLw := hid (show w.heap.size ≤ L by omega)
  rw [← hLe] at hL ⊢
  clear hLe
  go_wp2_with fail
  refine (HS w1 hb1).out.mono ?_
  rintro e w2 ⟨Tb, ts, rfl, hTw, hSg, hb2⟩
  have HI : Hid (LSt (w2.alloc (.cells #[.slice (some ⟨Tb, 0, none⟩) n n] 43)) w2.heap.size Tb L n D ts (List.replicate n 0)) := by
    have hA : Below w2.heap.size w2 (w2.alloc (.cells #[.slice (some ⟨Tb, 0, none⟩) n n] 43)) := (Below.refl _ _).alloc (Nat.le_refl _) _
    have hl1 := BlkAt.lt hL
    have hl2 := hSg.at_.lt
    have hs2 := hb2.size
    have hV := BlkAt.new w2 43 [.slice (some ⟨Tb, 0, none⟩) n n] _ rfl
    have hd := dep_len HD.out
    refine ⟨⟨by rw [hSg.len]; exact hV, hSg.at_.below hA (Nat.le_refl _), by omega⟩, ?_, by simp, ?_, ?_, ?_, by rw [hd, HN.out], by omega, by omega⟩
    · have : nums (List.replicate n 0) = List.replicate n 0 := by simp [nums]
      rw [this]
      exact (BlkAt.below hL hb2 (Nat.le_refl _)).below hA (Nat.le_refl _)
    · intro t ht
      have h1 := hSg.leaf t ht
      have h2 := hSg.new t ht
      have h3 := h1.2.2.1
      have h4 := h1.2.2.2.1
      exact Leaf.chg (S := fun b => b = w2.heap.size ∨ b = Tb ∨ b = L) ⟨h1.1, h1.2.1, by omega, h4, h1.2.2.2.2⟩ (Chg.of_below hA)
    · rw [hSg.map]
      have := hst_start HD.out
      rw [HN.out] at this
      have e : (fun i => (List.replicate n 0).getD i 0) = fun _ => (0 : Nat) := by
        funext i
        by_cases hi : i < n <;> simp [hi]
      rw [e]
      exact this
    · exact wb_heaps l HG.out.2.2 ts n (by rw [HN.out]; exact Nat.le_refl _) hSg.map
  have hbV : Below w.heap.size w (w2.alloc (.cells #[.slice (some ⟨Tb, 0, none⟩) n n] 43)) := (hb1.trans (hb2.mono hb1.size)).alloc (by have := hb1.size; have := hb2.size; omega) _
  have HV := hid (show w.heap.size ≤ w2.heap.size ∧ w.heap.size ≤ Tb by have := hb1.size; have := hb2.size; omega)
  clear hSg hb2 hb1 hL hTw
  go_wp2_with fail
  generalize World.alloc w2 _ = w3 at HI hbV ⊢
  generalize w2.heap.size = V at HI HV ⊢
  clear HS HC
  go_loopw [24] (fun _ wr => ∃ ts o, Hid (LSt wr V Tb L n D ts o) ∧ Below w.heap.size w wr) (fun _ wr => lenAt wr V)
  case atStart => exact ⟨_, _, HI, hbV⟩
  case round =>
    clear HI hbV
    obtain ⟨ts, o, HI, hb⟩ := hrel
    have cV := HI.out.trs.v.cell (k := 0) (v := .slice (some ⟨Tb, 0, none⟩) ts.length n) rfl
    have hcap := HI.out.trs.t.1
    by_cases h2 : 2 ≤ ts.length
    · have HK1 := hid (take_any V Tb n ts wr HI.out.trs (by omega) h10)
      have i1 : 1 < (ts.length : Int) := by omega
      have HM0 := hid (show lenAt wr V = ts.length from lenAt_trs HI.out.trs)
      obtain ⟨m, hm⟩ : ∃ m, m = ts.length := ⟨_, rfl⟩
      have HM := hid hm
      rw [← hm] at cV hcap h2 i1
      clear hm
      go_wp2_with fail
      refine HK1.out.mono ?_
      rintro e wa ⟨k, hk, hkl, rfl, hTa, hCa⟩
      clear HK1
      have ht1 := HI.out.leaf.at hkl
      have hw1 := HI.out.wb.at hkl
      have hs1 := hst_small HI.out.hst hkl
      obtain ⟨t1, hE1⟩ : ∃ t, t = ts.getD k tz := ⟨_, rfl⟩
      rw [← hE1] at ht1 hw1 hs1 ⊢
      have HE1 := hid hE1
      clear hE1
      obtain ⟨x1, ⟨g1, c1⟩, z1⟩ := t1
      simp only [sv]
      go_wp2_with fail
      have hlk : (ts.eraseIdx k).length = m - 1 := by rw [List.length_eraseIdx_of_lt hkl, ← HM.out]
      generalize hwb : World.alloc wa _ = wb
      have p1 : BlkAt wb wa.heap.size 46 [.int .i64 x1, .slice (some ⟨g1, 0, none⟩) z1.length c1] := by rw [← hwb]; exact BlkAt.new _ _ [_, _] _ rfl
      have hab : Below wa.heap.size wa wb := by rw [← hwb]; exact (Below.refl _ _).alloc (Nat.le_refl _) _
      have hTb := hTa.below hab
      have hCb : Chg (fun b => b = V ∨ b = Tb) wr wb := hCa.trans (Chg.of_below hab)
      have hPa : V < wa.heap.size ∧ Tb < wa.heap.size := ⟨hTa.v.lt, hTa.t.lt⟩
      clear hwb hab hTa cV
      generalize wa.heap.size = P1 at p1 hPa ⊢
      refine (take_any V Tb n (ts.eraseIdx k) wb hTb (by omega) h10).mono ?_
      rintro e wc ⟨k2, hk2, hkl2, rfl, hTc, hCc⟩
      have ht2 := (HI.out.leaf.erase k).at hkl2
      have hw2 := (HI.out.wb.erase k).at hkl2
      have hs2 : ((ts.eraseIdx k).getD k2 tz).2.2.length ≤ D.length := by
        refine hst_len HI.out.hst (z := hp ((ts.eraseIdx k).getD k2 tz)) (List.mem_map.2 ⟨_, ?_, rfl⟩)
        refine List.mem_of_mem_eraseIdx (i := k) ?_
        rw [List.getD_eq_getElem?_getD, List.getElem?_eq_getElem hkl2]
        exact List.getElem_mem _
      obtain ⟨t2, hE2⟩ : ∃ t, t = (ts.eraseIdx k).getD k2 tz := ⟨_, rfl⟩
      rw [← hE2] at ht2 hw2 hs2 ⊢
      have HE2 := hid hE2
      have HK := hid (show FMin (ts.map Prod.fst) k ∧ FMin ((ts.eraseIdx k).map Prod.fst) k2 from ⟨hk, hk2⟩)
      have hlk2 : ((ts.eraseIdx k).eraseIdx k2).length = m - 2 := by rw [List.length_eraseIdx_of_lt hkl2, hlk]; omega
      clear hE2 hk hk2 hTb
      obtain ⟨x2, ⟨g2, c2⟩, z2⟩ := t2
      simp only [sv]
      have p1c := p1.chg hCc (by omega)
      have q1 := p1c.cell (k := 0) rfl
      have q2 := p1c.cell (k := 1) rfl
      have p1l := p1c.lt
      simp only at ht1 ht2 hw1 hw2 hs1 hs2
      clear p1
      go_wp2_with fail
      generalize hwd : World.alloc wc _ = wd
      have p2 : BlkAt wd wc.heap.size 46 [.int .i64 x2, .slice (some ⟨g2, 0, none⟩) z2.length c2] := by rw [← hwd]; exact BlkAt.new _ _ [_, _] _ rfl
      have hcd : Below wc.heap.size wc wd := by rw [← hwd]; exact (Below.refl _ _).alloc (Nat.le_refl _) _
      have hTd := hTc.below hcd
      have hCd : Chg (fun b => b = V ∨ b = Tb) wr wd := (hCb.trans hCc).trans (Chg.of_below hcd)
      clear hwd hcd hTc p1c q1 q2 hCb hCc
      have hCd3 : Chg (fun b => b = V ∨ b = Tb ∨ b = L) wr wd := hCd.mono fun b hb => by
        rcases hb with h | h
        · exact .inl h
        · exact .inr (.inl h)
      have hLd : NumAt wd L 3 (nums o) := BlkAt.chg HI.out.num hCd (by have := HI.out.n1; have := HI.out.n2; omega)
      have hdl := HI.out.dlen
      have hj := join_any (x1, (g1, c1), z1) (x2, (g2, c2), z2) (fun b => b = V ∨ b = Tb ∨ b = L) wd (ht1.chg hCd3) (ht2.chg hCd3) (fun b hb => by
        have e1 := hTd.v.lt
        have e2 := hTd.t.lt
        have e3 := BlkAt.lt hLd
        rcases hb with rfl | rfl | rfl <;> assumption) (by simp only; omega) (by simp only; omega) hw1.1 (by simp only; omega) hw2.1 (by simp only; omega)
      simp only [sv] at hj
      refine hj.mono ?_
      clear hj
      rintro e we ⟨g, c3, rfl, hLf, hbe⟩
      have hZ : Hid ((z1 ++ z2).length = z1.length + z2.length) := hid List.length_append
      obtain ⟨z, hz⟩ : ∃ z, z = z1 ++ z2 := ⟨_, rfl⟩
      rw [← hz] at hLf hZ ⊢
      have HZ := hid hz
      clear hz
      obtain ⟨x, hx⟩ : ∃ x, x = x1 + x2 := ⟨_, rfl⟩
      rw [← hx] at hLf ⊢
      have HX := hid hx
      clear hx
      have hTe := hTd.below hbe
      have hLe := BlkAt.below hLd hbe (Nat.le_refl _)
      have hCe := hCd3.trans (Chg.of_below hbe)
      clear hTd hLd hCd3 hCd p2 hbe
      have cV := hTe.v.cell (k := 0) rfl
      have hVe := hTe.v.lt
      have hbase := hTe.t.lt
      rw [hlk2] at cV
      have hW1 : Below we.heap.size we ((we.alloc (.cells #[.int .i64 x, .slice (some ⟨g, 0, none⟩) z.length c3] 46)).alloc (.cells #[.int .i64 x, .slice (some ⟨g, 0, none⟩) z.length c3] 46)) := ((Below.refl _ we).alloc (Nat.le_refl _) _).alloc (by simp) _
      have HTf := hid (hTe.below hW1)
      have HA := hid (BlkAt.new (we.alloc (.cells #[.int .i64 x, .slice (some ⟨g, 0, none⟩) z.length c3] 46)) 46 [.int .i64 x, .slice (some ⟨g, 0, none⟩) z.length c3] (we.heap.size + 1) (by simp))
      have HJ := hid ((BlkAt.new we 46 [.int .i64 x, .slice (some ⟨g, 0, none⟩) z.length c3] we.heap.size rfl).alloc (.cells #[.int .i64 x, .slice (some ⟨g, 0, none⟩) z.length c3] 46))
      have HLf := hid (BlkAt.below hLe hW1 (Nat.le_refl _))
      have HCf := hid (hCe.trans (Chg.of_below hW1))
      have HLv := hid (hLf.chg (Chg.of_below hW1))
      have HNe := hid (show V < we.heap.size ∧ Tb < we.heap.size ∧ V ≠ Tb from ⟨hVe, hbase, hTe.ne⟩)
      obtain ⟨j0, hj0, hy0, hy1, hy2⟩ := info_parts tree_info
      clear hW1 hTe hLe hCe hLf
      go_wp2_with (at_builtin; refine wpList_append_tree _ rfl (.tmp 34) (.tmp 36) 43 rfl 46 j0 Tryd.underlying43 hj0 hy1 Tb n (m - 2) ((ts.eraseIdx k).eraseIdx k2) hlk2 rfl HTf.out.t (by omega) (x, (g, c3), z) ⟨we.heap.size + 1, 0, none⟩ 1 rfl (by rw [Addr.add_lit]; exact HA.out.cell rfl) (by rw [Addr.add_lit]; exact HA.out.cell rfl) ?_)
      intro wg hTg hOg
      have hne := HNe.out
      have v3 := HTf.out.v.only hOg hne.2.2
      have j3 := HJ.out.only hOg (by omega)
      have l3 : NumAt wg L 3 (nums o) := BlkAt.only HLf.out hOg HI.out.n2
      have cg := HCf.out.trans (Chg.of_only hOg (.inr (.inl rfl)))
      have lv3 := HLv.out.chg (Chg.of_only hOg (.inr (.inl rfl)))
      obtain ⟨v4, hO4⟩ := v3.stored 0 (.slice (some ⟨Tb, 0, none⟩) (m - 2 + 1) n)
      have cg4 := cg.trans (Chg.of_only hO4 (.inl rfl))
      have lv4 := lv3.chg (Chg.of_only hO4 (.inl rfl))
      have j4 := j3.only hO4 (by omega)
      have l4 : NumAt _ L 3 (nums o) := BlkAt.only l3 hO4 HI.out.n1
      have t4 := hTg.only hO4 (Ne.symm hne.2.2)
      have HT4 := hid (show Trs _ V Tb n (((ts.eraseIdx k).eraseIdx k2) ++ [(x, (g, c3), z)]) from ⟨by rw [List.length_append, hlk2]; exact v4, t4, hne.2.2⟩)
      have HV4 := hid (((HI.out.leaf.erase k).erase k2).chg cg4 |>.snoc lv4)
      have HB4 := hid (hb.trans (cg4.below (B := w.heap.size) (fun b hb => by have := HV.out; have := HLw.out; omega) hb.size))
      have HL4 := hid l4
      have c5 := v3.cell (k := 0) rfl
      have f5 := v3.frozen 0
      have J5 := j4.cell (k := 1) rfl
      obtain ⟨hst5, hnd, hzl, hzn⟩ := hst_round HI.out.hst (by rw [HI.out.olen, HI.out.dlen]) (by rw [← HM.out]; exact h2) HK.out.1 HK.out.2 g c3 x z (by rw [HX.out, ← HE1.out, ← HE2.out]) (by rw [HZ.out, ← HE1.out, ← HE2.out])
      have HS5 := hid hst5
      have HW5 : Hid (Wb (((ts.eraseIdx k).eraseIdx k2) ++ [(x, (g, c3), z)])) := hid (((HI.out.wb.erase k).erase k2).snoc (by
        have h1 := hw1
        have h2 := hw2
        have h3 := HX.out
        have h4 := hZ.out
        simp only
        rw [h4]
        push_cast
        omega))
      have HN5 := hid (show z.Nodup ∧ (∀ i ∈ z, i < n) ∧ z.length ≤ n from ⟨hnd, by rw [← hdl]; exact hzl, by rw [← hdl]; exact hzn⟩)
      have HO9 : Hid (∀ i, i < n → o.getD i 0 ≤ 9) := hid (fun i hi => Nat.le_trans (hst_le HI.out.hst (by rw [hdl]; exact hi)) (dep_small HD.out (by rw [HN.out]; exact h10) i))
      have HOl := hid HI.out.olen
      have HL12 := hid (show L ≠ V ∧ L ≠ Tb from ⟨HI.out.n1, HI.out.n2⟩)
      have hzs : z.length ≤ 10 := by have := HN5.out.2.2; omega
      have HFl := hid lv4
      clear hTg hOg hne v3 j3 l3 cg lv3 v4 hO4 cg4 lv4 j4 l4 t4 HTf HA HJ HLf HCf HLv hst5 hnd hzl hzn hw1 hw2 ht1 ht2 hs1 hs2 cV
      clear HI HE1 HE2 HK HZ hZ HX
      go_wp2_with fail
      generalize World.setCell wg _ _ = wx at HT4 HV4 HB4 HL4 HFl ⊢
      obtain ⟨wz, rfl⟩ : ∃ q, q = wr := ⟨_, rfl⟩
      go_loopw [41] (fun x wy => ∃ j : Nat, j ≤ z.length ∧ x = .int .i64 j ∧ Hid (NumAt wy L 3 (nums (bump o z j))) ∧ Hid (Only L wx wy)) (fun x _ => z.length - (intOf x).toNat)
      case atStart => exact ⟨0, by omega, rfl, hid (by rw [bump_zero]; exact HL4.out), hid (Only.refl _ _)⟩
      case round =>
        clear HL4 c5 f5 J5
        obtain ⟨j, hjz, rfl, HB, HO⟩ := hrel
        by_cases hlt : j < z.length
        · have hPn : z.getD j 0 < n := HN5.out.2.1 _ (by rw [List.getD_eq_getElem?_getD, List.getElem?_eq_getElem hlt]; exact List.getElem_mem _)
          have hgL : g ≠ L := fun e => HFl.out.2.2.1 (.inr (.inr e))
          have c6 := (HO.out.cell (o := j) hgL).trans (HFl.out.2.2.2.2 j hlt)
          have c7 := HB.out.cell (k := z.getD j 0) (by rw [nums_len, bump_len, HOl.out]; exact hPn)
          rw [nums_at] at c7
          have f7 := BlkAt.frozen HB.out (z.getD j 0)
          have hbp : (bump o z j).getD (z.getD j 0) 0 ≤ 10 := by
            rw [bump_at o z j (by rw [HOl.out]; exact hPn)]
            have := HO9.out _ hPn
            split <;> omega
          have hst7 := NumAt.stored HB.out (z.getD j 0) (((bump o z j).getD (z.getD j 0) 0 : Nat) + 1 : Int)
          rw [nums_set, bump_succ HN5.out.1 hlt] at hst7
          have HB7 := hid hst7.1
          have HO7 := hid (HO.out.trans hst7.2)
          clear hst7 HB HO
          simp only at c6
          generalize z.getD j 0 = P at hPn c6 c7 f7 hbp HB7 HO7
          generalize (bump o z j).getD P 0 = B at c7 hbp HB7 HO7
          have q1 : (P : Int) < (n : Int) := by omega
          have q2 : (0 : Int) ≤ (P : Int) := by omega
          go_wp2_with fail
          go_roundw
          case rel => exact ⟨j + 1, by omega, by go_num, HB7, HO7⟩
          case measure => simp [intOf]; omega
        · obtain rfl : j = z.length := by omega
          have hO := HO.out
          have hT6 := HT4.out.chg (S := fun b => b = L) (Chg.of_only hO rfl) (Ne.symm HL12.out.1) (Ne.symm HL12.out.2)
          have HI6 : Hid (LSt wr V Tb L n D (((ts.eraseIdx k).eraseIdx k2) ++ [(x, (g, c3), z)]) (bump o z z.length)) := hid ⟨hT6, HB.out, by rw [bump_len]; exact HOl.out, HV4.out.chg (Chg.of_only hO (.inr (.inr rfl))), HS5.out, HW5.out, hdl, HL12.out.1, HL12.out.2⟩
          have HM6 : Hid (lenAt wr V < lenAt wz V) := hid (by rw [lenAt_trs hT6, HM0.out, List.length_append, hlk2, ← HM.out]; simp; omega)
          have HB6 := HB4.out.trans (hO.below (B := w.heap.size) HLw.out)
          clear hO hT6 HO HB HT4 HV4 HS5 HW5 HB4
          go_wp2_with fail
          go_roundw
          case rel => exact ⟨_, _, HI6, HB6⟩
          case measure => exact HM6.out
    · have HR : Hid (NumAt wr L 3 (nums D)) := hid (by
        have e := hst_same HI.out.hst (by rw [HI.out.olen, HI.out.dlen]) (by omega)
        rw [← e]
        exact HI.out.num)
      have i1 : ¬ (1 < (ts.length : Int)) := by omega
      generalize ts.length = m at cV i1 h2 hcap
      clear HI
      go_wp2_with fail
      go_ret2
      exact ⟨L, rfl, HLw.out, HR.out, hb⟩
end Go.Proofs.YtjllgehhdhcobaaDoor
