/-
  Contract of letterbeckref2.Huff: lengths where the first one of several least is taken. Conditions: weights that are let in.
-/
import Derived.Test.YtjllgehhdhcobaaDoorHrefs
namespace Go.Proofs.YtjllgehhdhcobaaDoor
open Go.RowKit

/-- Heaps as they are made, up to place i. -/
structure RSt1 (w wr : World) (L n : Nat) (l : List Int) (i : Nat) (v : Value) (ts : List Tr) : Prop where
  own : OwnT wr w.heap.size 40 v ts
  map : ts.map hp = heaps l i
  leaf : Leaves wr (fun b => v.ownBlock = some b ∨ b = L) ts
  num : NumAt wr L 3 (List.replicate n 0)
  ne : v.ownBlock ≠ some L
/-- The loop over heaps, between two rounds. -/
structure RSt (w wr : World) (L n : Nat) (D : List Nat) (v : Value) (ts : List Tr) (o : List Nat) : Prop where
  own : OwnT wr w.heap.size 40 v ts
  leaf : Leaves wr (fun b => v.ownBlock = some b ∨ b = L) ts
  num : NumAt wr L 3 (nums o)
  ne : v.ownBlock ≠ some L
  olen : o.length = n
  dlen : D.length = n
  tlen : ts.length ≤ n
  hst : Hst D (ts.map hp) fun i => o.getD i 0
  wb : Wb ts
theorem wb_start (l : List Int) (h : ∀ x ∈ l, 0 ≤ x ∧ x ≤ 1000) (ts : List Tr) (n : Nat) (hn : n ≤ l.length) (hm : ts.map hp = heaps l n) : Wb ts := by
  intro t ht
  have h1 : hp t ∈ heaps l n := by rw [← hm]; exact List.mem_map.2 ⟨t, ht, rfl⟩
  obtain ⟨i, hi, he⟩ := List.mem_map.1 h1
  have hi := List.mem_range.1 hi
  have e1 : t.1 = l.getD i 0 := (congrArg Prod.fst he).symm
  have e2 : t.2.2 = [i] := (congrArg Prod.snd he).symm
  have := h (l.getD i 0) (by rw [List.getD_eq_getElem?_getD, List.getElem?_eq_getElem (by omega)]; exact List.getElem_mem _)
  rw [e1, e2, List.length_singleton]
  omega
/-- The length of a slice value. -/
def lenS : Value → Nat
  | .slice _ m _ => m
  | _ => 0

set_option maxRecDepth 100000 in
set_option maxHeartbeats 4000000 in
theorem rhuff_any (A : Option Addr) (n c : Nat) (l : List Int) (D : List Nat) (w : World) (hl : IsInts w w.heap.size A n l) (hg : GoodH l) (hD : Dep l D) :
    Calls Tryd.prog 7 #[.slice A n c] w fun e w' => ∃ L : Nat, e = .returned (.slice (some ⟨L, 0, none⟩) n n) ∧ w.heap.size ≤ L ∧ NumAt w' L 3 (nums D) ∧ Below w.heap.size w w' := by
  obtain ⟨i0, hi, hz0, hz1, hz2⟩ := info_parts int_info
  obtain ⟨j0, hj0, hy0, hy1, hy2⟩ := info_parts heap_info
  have hn : l.length = n := hl.1
  have h0 : 0 < n := by have := hg.1; omega
  have h10 : n ≤ 10 := by have := hg.2.1; omega
  obtain ⟨g, off, rfl, hgl, hc⟩ := hl.2 h0
  have HX := hid hc
  have HG := hid hg
  have HD := hid hD
  have HN := hid hn
  clear hl hg hD hn hc
  go_enter Tryd.func7, Tryd.ntmps7
  go_wp2_with (at_make; refine wpList_make_full _ rfl _ _ 22 rfl w.heap.size 3 i0 (.int .i64 0) 1 Tryd.underlying22 hi hz0 hz1 _ _ _ _ n rfl rfl rfl rfl (by rw [hz2]; omega) (by unfold maxLen; omega) (Nat.le_refl _) ?_)
  intro w1 hown hgr
  have hb1 : Below w.heap.size w w1 := (Below.refl _ _).grown hgr (Nat.le_refl _) (by intro k hk; cases hk)
  have hL := NumAt.made hown
  have HS : Hid (RSt1 w w1 w.heap.size n l 0 (.slice none 0 0) []) := hid ⟨OwnT.nil _ _ _, rfl, fun t ht => absurd ht (by simp), hL, by simp [Value.ownBlock]⟩
  clear hown hgr hL
  obtain ⟨L, hLe⟩ : ∃ L, L = w.heap.size := ⟨_, rfl⟩
  have HLw := hid (show w.heap.size ≤ L by omega)
  rw [← hLe] at HS
  rw [show (.slice (some ⟨w.heap.size, 0, none⟩) n n : Value) = .slice (some ⟨L, 0, none⟩) n n by rw [hLe]]
  clear hLe
  go_wp2_with fail
  go_loopw [4, 5] (fun v x wr => ∃ i : Nat, i ≤ n ∧ x = .int .i64 i ∧ Hid (∃ ts, RSt1 w wr L n l i v ts) ∧ Below w.heap.size w wr) (fun _ x _ => n - (intOf x).toNat)
  case atStart => exact ⟨0, by omega, rfl, hid ⟨_, HS.out⟩, hb1⟩
  case round =>
    clear HS hb1
    obtain ⟨i, hin, rfl, HO, hb⟩ := hrel
    obtain ⟨ts, hS⟩ := HO.out
    clear HO
    by_cases hlt : i < n
    · have c1 := (hb.cell (p := ⟨g, off + i, none⟩) hgl).trans (HX.out i hlt)
      have hsz := hb.size
      have hgr : g < wr.heap.size := by omega
      have HS := hid hS
      have htl : ts.length = i := by
        have := congrArg List.length hS.map
        simpa [heaps] using this
      have HOA : Hid (OwnT (wr.alloc (.cells #[.int .i64 (i : Int)] 3)) w.heap.size 40 _ ts) := hid (hS.own.below ((Below.refl _ wr).alloc (Nat.le_refl _) _) (Nat.le_refl _))
      have hle : ts.length ≤ 1000 := by omega
      have hba : w.heap.size ≤ (wr.alloc (.cells #[.int .i64 (i : Int)] 3)).heap.size := by simp; omega
      have hi1 : (wr.alloc (.cells #[.int .i64 (i : Int)] 3)).heap.size = wr.heap.size + 1 := by simp
      clear hS
      obtain ⟨X, hX⟩ : ∃ X, X = l.getD i 0 := ⟨_, rfl⟩
      rw [← hX] at c1
      have HXe := hid hX
      clear hX
      have i1 : (i : Int) < (n : Int) := by omega
      go_wp2_with (at_builtin; refine wpList_append_heap _ rfl (.tmp 20) (.tmp 28) 38 rfl w.heap.size 40 j0 Tryd.underlying38 hj0 hy0 hy1 hy2 _ ts rfl HOA.out (X, (wr.heap.size, 1), [i]) (wr.heap.size + 1) hi1 rfl hle hba ?_)
      intro v' w6 hown6 hc6 hat6
      have HN6 : Hid (RSt1 w w6 L n l (i + 1) v' (ts ++ [(X, (wr.heap.size, 1), [i])])) := by
        have hS := HS.out
        have hLl := BlkAt.lt hS.num
        have hA : Below wr.heap.size wr (wr.alloc (.cells #[.int .i64 (i : Int)] 3)) := (Below.refl _ _).alloc (Nat.le_refl _) _
        have hlf := (hS.leaf.chg (Chg.of_below hA)).chg (hc6.mono fun b hb => .inl hb)
        have hnew := BlkAt.new wr 3 [.int .i64 (i : Int)] wr.heap.size rfl
        have hvn : ∀ b, v'.ownBlock = some b → b ≠ L ∧ ∀ t ∈ ts, t.2.1.1 ≠ b := fun b hb => by
          rcases hat6 b hb with h | h
          · refine ⟨fun e => hS.ne (by rw [h, e]), fun t ht e => (hS.leaf t ht).2.2.1 (.inl (by rw [h, e]))⟩
          · have h : wr.heap.size + 1 ≤ b := h
            exact ⟨by omega, fun t ht e => by have := (hS.leaf t ht).2.2.2.1; omega⟩
        refine ⟨hown6, by rw [List.map_append, hS.map, heaps_succ, ← HXe.out]; rfl, ?_, ?_, fun h => (hvn L h).1 rfl⟩
        · refine Leaves.snoc (fun t ht => ?_) ?_
          · have h1 := hlf t ht
            refine ⟨h1.1, h1.2.1, fun h => ?_, h1.2.2.2⟩
            rcases h with h | h
            · exact (hvn _ h).2 t ht rfl
            · exact h1.2.2.1 (.inr h)
          · have hn6 := hnew.chg hc6 (fun h => by have := (hS.own.lt h).2; omega)
            refine ⟨by simp, by simp, fun h => ?_, hn6.lt, fun j hj => ?_⟩
            · rcases h with h | h
              · rcases hat6 _ h with h' | h'
                · exact absurd (hS.own.lt h').2 (Nat.lt_irrefl _)
                · exact absurd (show wr.heap.size + 1 ≤ wr.heap.size from h') (by omega)
              · simp only at h
                omega
            · obtain rfl : j = 0 := by simpa using hj
              exact hn6.cell rfl
        · exact (BlkAt.below hS.num hA (Nat.le_refl _)).chg hc6 (fun h => hS.ne h)
      have hb6 : Below w.heap.size w w6 := by
        have hA : Below w.heap.size w (wr.alloc (.cells #[.int .i64 (i : Int)] 3)) := hb.alloc hsz _
        exact hA.trans (hc6.below (fun b hb => (HOA.out.lt hb).1) hba)
      clear hown6 hc6 hat6 HS HOA c1
      go_wp2_with fail
      go_roundw
      case rel => exact ⟨i + 1, by omega, by go_num, hid ⟨_, HN6.out⟩, hb6⟩
      case measure => simp [intOf]; omega
    · obtain rfl : i = n := by omega
      have HI : Hid (RSt w wr L i D u4 ts (List.replicate i 0)) := by
        have hd := dep_len HD.out
        have htl : ts.length = i := by
          have := congrArg List.length hS.map
          simpa [heaps] using this
        refine ⟨hS.own, hS.leaf, ?_, hS.ne, by simp, by rw [hd, HN.out], by omega, ?_, wb_start l HG.out.2.2 ts i (by rw [HN.out]; exact Nat.le_refl _) hS.map⟩
        · have : nums (List.replicate i 0) = List.replicate i 0 := by simp [nums]
          rw [this]
          exact hS.num
        · rw [hS.map]
          have := hst_start HD.out
          rw [HN.out] at this
          have e : (fun j => (List.replicate i 0).getD j 0) = fun _ => (0 : Nat) := by
            funext j
            by_cases hj : j < i <;> simp [hj]
          rw [e]
          exact this
      clear hS hin hlt
      go_wp2_with fail
      obtain ⟨wz, rfl⟩ : ∃ q, q = wr := ⟨_, rfl⟩
      go_loopw [4] (fun v wr => ∃ ts o, Hid (RSt w wr L i D v ts o) ∧ Below w.heap.size w wr) (fun v _ => lenS v)
      case atStart => exact ⟨_, _, HI, hb⟩
      case round =>
        clear HI hb
        obtain ⟨ts, o, HI, hb⟩ := hrel
        obtain ⟨A2, c2, rfl, hT⟩ := HI.out.own.trees
        have htl := HI.out.tlen
        by_cases h2 : 2 ≤ ts.length
        · have HK1 := hid (rlight_any A2 ts.length c2 ts wr hT (by omega) (by omega))
          obtain ⟨gv, rfl, hgv, hcv⟩ := hT.2 (by omega)
          have HC := hid hcv
          have HT := hid hT
          obtain ⟨m, hm⟩ : ∃ m, m = ts.length := ⟨_, rfl⟩
          have HM := hid hm
          rw [← hm] at h2 htl HK1 HT HC ⊢
          clear hm hT hcv
          have i1 : 1 < (m : Int) := by omega
          go_wp2_with fail
          refine HK1.out.mono ?_
          rintro e wa ⟨k, hk, rfl, q, hwa⟩
          have hkl : k < m := by have := hk.1; rw [List.length_map, ← HM.out] at this; exact this
          have hkt : k < ts.length := by rw [← HM.out]; exact hkl
          have ht1 := HI.out.leaf.at hkt
          have hw1 := HI.out.wb.at hkt
          have hs1 := hst_small HI.out.hst hkt
          have q1 : wa.cell? ⟨gv, k * 2, none⟩ = some (.int .i64 (ts.getD k tz).1) := by rw [hwa]; exact (HC.out k hkl).1
          have q2 : wa.cell? ⟨gv, k * 2 + 1, none⟩ = some (sv (ts.getD k tz)) := by rw [hwa]; exact (HC.out k hkl).2
          have hba : Below wr.heap.size wr wa := by rw [hwa]; exact below_drewN (Below.refl _ _) q
          have HSa : Hid (wr.heap.size ≤ wa.heap.size) := hid (by rw [hwa]; exact Nat.le_refl _)
          have HTa : Hid (IsTrees wa wa.heap.size (some ⟨gv, 0, none⟩) m ts) := hid (HT.out.onto hba)
          have hgva : gv < wa.heap.size := by have := HSa.out; omega
          clear hwa HK1
          obtain ⟨t1, hE1⟩ : ∃ t, t = ts.getD k tz := ⟨_, rfl⟩
          rw [← hE1] at ht1 hw1 hs1 q1 q2
          have HE1 := hid hE1
          clear hE1
          obtain ⟨x1, ⟨g1, c1⟩, z1⟩ := t1
          simp only [sv] at q1 q2
          simp only at hw1 hs1
          have k1 : (k : Int) < (m : Int) := by omega
          have k2 : (0 : Int) ≤ (k : Int) := by omega
          go_wp2_with fail
          generalize hwb : World.alloc wa _ = wb
          have p1 : BlkAt wb wa.heap.size 40 [.int .i64 x1, .slice (some ⟨g1, 0, none⟩) z1.length c1] := by rw [← hwb]; exact BlkAt.new _ _ [_, _] _ rfl
          have hab : Below wa.heap.size wa wb := by rw [← hwb]; exact (Below.refl _ _).alloc (Nat.le_refl _) _
          have hbb := hba.trans (hab.mono HSa.out)
          have HTb := hid (HTa.out.onto hab)
          clear hwb q1 q2 HTa hgva hab hba
          generalize wa.heap.size = P1 at p1 HSa ⊢
          refine (rwithout_any (some ⟨gv, 0, none⟩) m c2 k ts wb HTb.out (by omega) hkl).mono ?_
          rintro e wc ⟨v3, rfl, hO3, hbc⟩
          have p1c := p1.below hbc (Nat.le_refl _)
          have hbwc := hbb.trans (hbc.mono hbb.size)
          have hlk : (ts.eraseIdx k).length = m - 1 := by rw [List.length_eraseIdx_of_lt hkt, ← HM.out]
          have hO3' := hO3
          obtain ⟨A3, c3, rfl, hT3⟩ := hO3.trees
          rw [hlk] at hT3 ⊢
          have HK2 := hid (rlight_any A3 (m - 1) c3 (ts.eraseIdx k) wc hT3 (by omega) (by omega))
          obtain ⟨gv3, rfl, hgv3, hcv3⟩ := hT3.2 (by omega)
          have HC3 := hid hcv3
          have HT3 := hid hT3
          clear hT3 hcv3 hO3 hO3' p1 hbb hbc HTb
          go_wp2_with fail
          refine HK2.out.mono ?_
          rintro e wd ⟨kk, hkk, rfl, qq, hwd⟩
          have hkl2 : kk < m - 1 := by have := hkk.1; rw [List.length_map, hlk] at this; exact this
          have hkt2 : kk < (ts.eraseIdx k).length := by rw [hlk]; exact hkl2
          have ht2 := (HI.out.leaf.erase k).at hkt2
          have hw2 := (HI.out.wb.erase k).at hkt2
          have hs2 : ((ts.eraseIdx k).getD kk tz).2.2.length ≤ D.length := by
            refine hst_len HI.out.hst (z := hp ((ts.eraseIdx k).getD kk tz)) (List.mem_map.2 ⟨_, ?_, rfl⟩)
            refine List.mem_of_mem_eraseIdx (i := k) ?_
            rw [List.getD_eq_getElem?_getD, List.getElem?_eq_getElem hkt2]
            exact List.getElem_mem _
          have q1 : wd.cell? ⟨gv3, kk * 2, none⟩ = some (.int .i64 ((ts.eraseIdx k).getD kk tz).1) := by rw [hwd]; exact (HC3.out kk hkl2).1
          have q2 : wd.cell? ⟨gv3, kk * 2 + 1, none⟩ = some (sv ((ts.eraseIdx k).getD kk tz)) := by rw [hwd]; exact (HC3.out kk hkl2).2
          have hbd : Below wc.heap.size wc wd := by rw [hwd]; exact below_drewN (Below.refl _ _) qq
          have HSd : Hid (wc.heap.size ≤ wd.heap.size) := hid (by rw [hwd]; exact Nat.le_refl _)
          have HTd : Hid (IsTrees wd wd.heap.size (some ⟨gv3, 0, none⟩) (m - 1) (ts.eraseIdx k)) := hid (HT3.out.onto hbd)
          have hgvd : gv3 < wd.heap.size := by have := HSd.out; omega
          have hbwd := hbwc.trans (hbd.mono hbwc.size)
          have p1d := p1c.below hbd (Nat.le_refl _)
          clear hwd HK2 hbd hbwc p1c
          obtain ⟨t2, hE2⟩ : ∃ t, t = (ts.eraseIdx k).getD kk tz := ⟨_, rfl⟩
          rw [← hE2] at ht2 hw2 hs2 q1 q2
          have HE2 := hid hE2
          clear hE2
          obtain ⟨x2, ⟨g2, c4⟩, z2⟩ := t2
          simp only [sv] at q1 q2
          simp only at hw2 hs2
          have k3 : (kk : Int) < ((m - 1 : Nat) : Int) := by omega
          have k4 : (0 : Int) ≤ (kk : Int) := by omega
          obtain ⟨m1, hm1⟩ : ∃ m1, m1 = m - 1 := ⟨_, rfl⟩
          have HM1 := hid hm1
          rw [← hm1] at k3 HTd hkl2 ⊢
          have hm10 : m1 ≤ 10 := by omega
          clear hm1
          go_wp2_with fail
          generalize hwe : World.alloc wd _ = we
          have p2 : BlkAt we wd.heap.size 40 [.int .i64 x2, .slice (some ⟨g2, 0, none⟩) z2.length c4] := by rw [← hwe]; exact BlkAt.new _ _ [_, _] _ rfl
          have hde : Below wd.heap.size wd we := by rw [← hwe]; exact (Below.refl _ _).alloc (Nat.le_refl _) _
          have hbwe := hbwd.trans (hde.mono hbwd.size)
          have HTe := hid (HTd.out.onto hde)
          have p1e := p1d.below hde (Nat.le_refl _)
          have HP2 : Hid (wr.heap.size ≤ wd.heap.size) := hid hbwd.size
          clear hwe q1 q2 HTd hgvd hde hbwd p1d HSd
          generalize wd.heap.size = P2 at p2 HP2 ⊢
          refine (rwithout_any (some ⟨gv3, 0, none⟩) m1 c3 kk (ts.eraseIdx k) we HTe.out hm10 hkl2).mono ?_
          rintro e wf ⟨v4, rfl, hO4, hbf⟩
          have p1f := p1e.below hbf (Nat.le_refl _)
          have p2f := p2.below hbf (Nat.le_refl _)
          have hbwf := hbwe.trans (hbf.mono hbwe.size)
          have hlk2 : ((ts.eraseIdx k).eraseIdx kk).length = m - 2 := by rw [List.length_eraseIdx_of_lt hkt2, hlk]; omega
          have hvn : ∀ b, v4.ownBlock = some b → wr.heap.size ≤ b := fun b hb => Nat.le_trans hbwe.size (hO4.lt hb).1
          have HLf := hid (((HI.out.leaf.erase k).erase kk).fresh (S' := fun b => v4.ownBlock = some b ∨ b = L) hbwf (fun b hb h => by
            rcases h with h | h
            · have := hvn b h; omega
            · exact .inr h))
          have hl1 := ht1.fresh (S' := fun b => b = L) hbwf (fun b _ h => .inr h)
          have hl2 := ht2.fresh (S' := fun b => b = L) hbwf (fun b _ h => .inr h)
          have hNf : NumAt wf L 3 (nums o) := BlkAt.below HI.out.num hbwf (Nat.le_refl _)
          have hLlt := BlkAt.lt HI.out.num
          have HO4 := hid (hO4.base (b' := w.heap.size) (by have := hbwe.size; have := hb.size; omega))
          have HVn := hid hvn
          have HKK := hid (show FMin (ts.map Prod.fst) k ∧ FMin ((ts.eraseIdx k).map Prod.fst) kk from ⟨hk, hkk⟩)
          have a1 := p1f.cell (k := 1) rfl
          have a2 := p2f.cell (k := 1) rfl
          have hdl := HI.out.dlen
          have HP := hid (show BlkAt wf P1 40 [.int .i64 x1, .slice (some ⟨g1, 0, none⟩) z1.length c1] ∧ BlkAt wf P2 40 [.int .i64 x2, .slice (some ⟨g2, 0, none⟩) z2.length c4] from ⟨p1f, p2f⟩)
          clear p1f p2f p1e p2 hO4 hbf hbwe hvn ht1 ht2 hk hkk HTe HT3 HC3
          have HX1 : Hid (∀ (W : World), Below wf.heap.size wf W → ∀ j, j < z1.length → W.cell? ⟨g1, 0 + j, none⟩ = some (.int .i64 ((nums z1).getD j 0))) := hid (fun W hW j hj => by
            rw [Nat.zero_add, nums_at]
            exact (hW.cell (p := ⟨g1, j, none⟩) hl1.2.2.2.1).trans (hl1.2.2.2.2 j hj))
          have HX2 : Hid (∀ (W : World), Below wf.heap.size wf W → ∀ j, j < z2.length → W.cell? ⟨g2, 0 + j, none⟩ = some (.int .i64 ((nums z2).getD j 0))) := hid (fun W hW j hj => by
            rw [Nat.zero_add, nums_at]
            exact (hW.cell (p := ⟨g2, j, none⟩) hl2.2.2.2.1).trans (hl2.2.2.2.2 j hj))
          have hzl1 : 0 < z1.length := hl1.1
          have hzl2 : 0 < z2.length := hl2.1
          clear hl1 hl2
          have hn1 := nums_len z1
          have hn2 := nums_len z2
          have HON := hid (OwnI.nil wf wf.heap.size 3)
          have HXa := hid (HX1.out wf (Below.refl _ _))
          have hla : ([] : List Int).length + z1.length ≤ 1099511627776 := by simp; omega
          go_wp2_with (at_builtin; refine wpList_append_ints _ rfl (.tmp 51) (.tmp 53) 22 rfl wf.heap.size 3 i0 Tryd.underlying22 hi hz0 hz1 hz2 _ [] rfl HON.out g1 0 z1.length c1 (nums z1) hn1 rfl HXa.out hla (Nat.le_refl _) ?_)
          intro v8 w8 hown8 hb8
          have HO8 : Hid (OwnI w8 wf.heap.size 3 v8 (nums z1)) := hid hown8
          have HXb := hid (HX2.out w8 hb8)
          have a2 := (HP.out.2.below hb8 (Nat.le_refl _)).cell (k := 1) rfl
          have hlb : (nums z1).length + z2.length ≤ 1099511627776 := by rw [hn1]; omega
          have hs8 := hb8.size
          clear hown8 HXa HON a1 hla
          go_wp2_with (at_builtin; refine wpList_append_ints _ rfl (.tmp 55) (.tmp 57) 22 rfl wf.heap.size 3 i0 Tryd.underlying22 hi hz0 hz1 hz2 _ (nums z1) rfl HO8.out g2 0 z2.length c4 (nums z2) hn2 rfl HXb.out hlb hs8 ?_)
          intro v9 w9 hown9 hb9
          have hO9 : OwnI w9 wf.heap.size 3 v9 (nums (z1 ++ z2)) := by rw [nums_app]; exact hown9
          have hb9f := hb8.trans hb9
          obtain ⟨z, hz⟩ : ∃ z, z = z1 ++ z2 := ⟨_, rfl⟩
          have HZl := hid (show z.length = z1.length + z2.length by rw [hz, List.length_append])
          rw [← hz] at hO9
          have HZ := hid hz
          obtain ⟨gh, ch, rfl, hch, hgh, hIh⟩ := hO9.blk (by rw [nums_len, HZl.out]; omega)
          rw [nums_len] at hch hIh ⊢
          obtain ⟨gh', offh, eh, _, hch'⟩ := hIh.2 (by rw [HZl.out]; omega)
          injection eh with eh
          injection eh with eh1 eh2
          subst eh1
          subst eh2
          have HCh : Hid (∀ j, j < z.length → w9.cell? ⟨gh, j, none⟩ = some (.int .i64 ((z.getD j 0 : Nat) : Int))) := hid (fun j hj => by
            have := hch' j hj
            rw [Nat.zero_add, nums_at] at this
            exact this)
          clear hch' hIh hO9 hown9 HO8 HXb a2 hlb hs8 hz HX1 HX2 hb8 hb9
          obtain ⟨x, hx⟩ : ∃ x, x = x1 + x2 := ⟨_, rfl⟩
          have HXs := hid hx
          clear hx
          obtain ⟨hst5, hnd, hzl, hzn⟩ := hst_round HI.out.hst (by rw [HI.out.olen, HI.out.dlen]) (by rw [← HM.out]; exact h2) HKK.out.1 HKK.out.2 gh ch x z (by rw [HXs.out, ← HE1.out, ← HE2.out]) (by rw [HZ.out, ← HE1.out, ← HE2.out])
          have HS5 := hid hst5
          have HW5 : Hid (Wb (((ts.eraseIdx k).eraseIdx kk) ++ [(x, (gh, ch), z)])) := hid (((HI.out.wb.erase k).erase kk).snoc (by
            have h1 := hw1
            have h2 := hw2
            have h3 := HXs.out
            have h4 := HZl.out
            simp only
            rw [h4]
            push_cast
            omega))
          have HN5 := hid (show z.Nodup ∧ (∀ j ∈ z, j < i) ∧ z.length ≤ i from ⟨hnd, by rw [← hdl]; exact hzl, by rw [← hdl]; exact hzn⟩)
          have HO9 : Hid (∀ j, j < i → o.getD j 0 ≤ 9) := hid (fun j hj => Nat.le_trans (hst_le HI.out.hst (by rw [hdl]; exact hj)) (dep_small HD.out (by rw [HN.out]; exact h10) j))
          have HOl := hid HI.out.olen
          have hLlt2 : L < wf.heap.size := Nat.lt_of_lt_of_le hLlt hbwf.size
          have HL9 : Hid (NumAt w9 L 3 (nums o)) := hid (BlkAt.below hNf hb9f (Nat.le_refl _))
          have hghL : gh ≠ L := by omega
          have HBw := hid (hb.trans (hbwf.mono hb.size))
          have HB9 := hid hb9f
          have hzs : z.length ≤ 10 := by have := HN5.out.2.2; omega
          have hPL : P1 ≠ L ∧ P2 ≠ L := by have := HSa.out; have := HP2.out; omega
          have HO4f := hid (HO4.out.below hb9f (Nat.le_refl _))
          have HV4 : Hid (∀ b, v4.ownBlock = some b → b < wf.heap.size) := hid (fun b hb => (HO4.out.lt hb).2)
          have HVr : Hid (∀ b, v4.ownBlock = some b → b ≠ L) := hid (fun b hb e => by have := HVn.out b hb; omega)
          have Hxb : Hid (0 ≤ x1 ∧ x1 ≤ 10000 ∧ 0 ≤ x2 ∧ x2 ≤ 10000) := hid (by omega)
          clear hst5 hnd hzl hzn hw1 hw2 hs1 hs2 HI HE1 HE2 HKK HZ hn1 hn2 hNf hbwf hb9f
          obtain ⟨wy, rfl⟩ : ∃ q, q = wr := ⟨_, rfl⟩
          go_wp2_with fail
          go_loopw [10] (fun x wr => ∃ j : Nat, j ≤ z.length ∧ x = .int .i64 j ∧ Hid (NumAt wr L 3 (nums (bump o z j))) ∧ Hid (Only L w9 wr)) (fun x _ => z.length - (intOf x).toNat)
          case atStart => exact ⟨0, by omega, rfl, hid (by rw [bump_zero]; exact HL9.out), hid (Only.refl _ _)⟩
          case round =>
            clear HL9
            obtain ⟨j, hjz, rfl, HB, HO⟩ := hrel
            by_cases hlt : j < z.length
            · have hPn : z.getD j 0 < i := HN5.out.2.1 _ (by rw [List.getD_eq_getElem?_getD, List.getElem?_eq_getElem hlt]; exact List.getElem_mem _)
              have c6 := (HO.out.cell (o := j) hghL).trans (HCh.out j hlt)
              have c7 := HB.out.cell (k := z.getD j 0) (by rw [nums_len, bump_len, HOl.out]; exact hPn)
              rw [nums_at] at c7
              have f7 := BlkAt.frozen HB.out (z.getD j 0)
              have hbp : (bump o z j).getD (z.getD j 0) 0 ≤ 10 := by
                rw [bump_at o z j (by rw [HOl.out]; exact hPn)]
                have := HO9.out _ hPn
                split <;> omega
              have hst7 := NumAt.stored HB.out (z.getD j 0) (((bump o z j).getD (z.getD j 0) 0 : Nat) + 1 : Int)
              rw [nums_set, bump_succ HN5.out.1 hlt] at hst7
              have HB7 := hid hst7.1
              have HO7 := hid (HO.out.trans hst7.2)
              clear hst7 HB HO
              generalize z.getD j 0 = P at hPn c6 c7 f7 hbp HB7 HO7
              generalize (bump o z j).getD P 0 = B at c7 hbp HB7 HO7
              have q1 : (P : Int) < (i : Int) := by omega
              have q2 : (0 : Int) ≤ (P : Int) := by omega
              have q3 : (j : Int) < (z.length : Int) := by omega
              go_wp2_with fail
              go_roundw
              case rel => exact ⟨j + 1, by omega, by go_num, HB7, HO7⟩
              case measure => simp [intOf]; omega
            · obtain rfl : j = z.length := by omega
              have hO := HO.out
              have hcO : Chg (fun b => b = L) w9 wr := Chg.of_only hO rfl
              have b1 := ((HP.out.1.below HB9.out (Nat.le_refl _)).only hO hPL.1).cell (k := 0) rfl
              have b2 := ((HP.out.2.below HB9.out (Nat.le_refl _)).only hO hPL.2).cell (k := 0) rfl
              have HOw := hid (HO4f.out.chg hcO HVr.out)
              have hle : ((ts.eraseIdx k).eraseIdx kk).length ≤ 1000 := by rw [hlk2]; omega
              have hbw9 := HBw.out.trans (HB9.out.mono HBw.out.size)
              have hbwr := hbw9.trans (hO.below (B := w.heap.size) HLw.out)
              have hsw := hbwr.size
              have hxx := Hxb.out
              have HOo := hid hO
              clear hO hcO HO Hxb hbw9
              go_wp2_with (at_builtin; refine wpList_append_heap _ rfl (.tmp 74) (.tmp 82) 38 rfl w.heap.size 40 j0 Tryd.underlying38 hj0 hy0 hy1 hy2 _ ((ts.eraseIdx k).eraseIdx kk) rfl HOw.out (x1 + x2, (gh, ch), z) wr.heap.size rfl rfl hle hsw ?_)
              intro v10 w10 hown10 hc10 hat10
              have hO10 : OwnT w10 w.heap.size 40 v10 (((ts.eraseIdx k).eraseIdx kk) ++ [(x, (gh, ch), z)]) := by rw [HXs.out]; exact hown10
              have hO := HOo.out
              have hsO := hO.size
              have hgh9 : gh < w9.heap.size := World.block_lt_of_cell? w9 ⟨gh, 0, none⟩ (HCh.out 0 (by rw [HZl.out]; omega))
              have hvL : v10.ownBlock ≠ some L := fun h => by
                rcases hat10 L h with h' | h'
                · exact HVr.out L h' rfl
                · have := HB9.out.size; omega
              have HI6 : Hid (RSt w w10 L i D v10 (((ts.eraseIdx k).eraseIdx kk) ++ [(x, (gh, ch), z)]) (bump o z z.length)) := by
                refine hid ⟨hO10, ?_, BlkAt.chg HB.out hc10 (fun h => HVr.out L h rfl), hvL, by rw [bump_len]; exact HOl.out, hdl, by rw [List.length_append, hlk2]; simp; omega, HS5.out, HW5.out⟩
                refine Leaves.snoc (fun t ht => ?_) ?_
                · have hin := HLf.out t ht
                  have h1 := ((hin.fresh (S' := fun b => v4.ownBlock = some b ∨ b = L) HB9.out (fun b _ h => h)).chg (Chg.of_only hO (.inr rfl))).chg (hc10.mono fun b hb => .inl hb)
                  refine ⟨h1.1, h1.2.1, fun h => ?_, h1.2.2.2⟩
                  rcases h with h | h
                  · rcases hat10 _ h with h' | h'
                    · exact h1.2.2.1 (.inl h')
                    · have := hin.2.2.2.1
                      have := HB9.out.size
                      omega
                  · exact h1.2.2.1 (.inr h)
                · have hng : ∀ b, v4.ownBlock = some b → b ≠ gh := fun b hb => by have := HV4.out b hb; omega
                  refine ⟨by show 0 < z.length; rw [HZl.out]; omega, hch, fun h => ?_, Nat.lt_of_lt_of_le hgh9 (by have := hc10.size; omega), fun j hj => ?_⟩
                  · rcases h with h | h
                    · rcases hat10 _ h with h' | h'
                      · exact hng _ h' rfl
                      · exact absurd (show wr.heap.size ≤ gh from h') (by omega)
                    · exact hghL h
                  · exact ((hc10.cell (b := gh) (o := j) (by omega) (fun h => hng _ h rfl)).trans (hO.cell hghL)).trans (HCh.out j hj)
              have hb10 : Below w.heap.size w w10 := hbwr.trans (hc10.below (fun b hb => (HOw.out.lt hb).1) hsw)
              obtain ⟨A10, c10, rfl, _⟩ := hO10.trees
              have hl10 : (((ts.eraseIdx k).eraseIdx kk) ++ [(x, (gh, ch), z)]).length = m - 2 + 1 := by rw [List.length_append, hlk2]; rfl
              rw [hl10] at HI6 ⊢
              have hml : m - 2 + 1 < m := by omega
              clear hown10 hc10 hat10 hO10 hO hvL HOo HB HOw b1 b2 HS5 HW5 HLf
              go_wp2_with fail
              go_roundw
              case rel => exact ⟨_, _, HI6, hb10⟩
              case measure => simp only [lenS]; exact hml
        · have HR : Hid (NumAt wr L 3 (nums D)) := hid (by
            have e := hst_same HI.out.hst (by rw [HI.out.olen, HI.out.dlen]) (by omega)
            rw [← e]
            exact HI.out.num)
          have i1 : ¬ (1 < (ts.length : Int)) := by omega
          generalize ts.length = m at i1 h2 htl hT ⊢
          clear HI hT
          go_wp2_with fail
          go_ret
          exact ⟨L, rfl, HLw.out, HR.out, hb⟩
end Go.Proofs.YtjllgehhdhcobaaDoor
