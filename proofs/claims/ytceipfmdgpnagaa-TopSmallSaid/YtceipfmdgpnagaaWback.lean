/-
  Contract of wheel.Back: the text that the walk from a place gives, where its own transform is the given one; an error else; the old memory stays as it was. Conditions: none but the sizes that a row itself sets.
-/
import Derived.Test.YtceipfmdgpnagaaWwalk
import Derived.Test.YtceipfmdgpnagaaWthere
namespace Go.Proofs.Ytceipfmdgpnagaa
open Go.RowKit Go.Shelf Go.Proofs

attribute [local go_sem] Oper.semAt_some

theorem back_long (t : ByteArray) (r : Int) (w : World) (h : 24 < t.size) (hs : t.size ≤ maxLen) :
    Calls Try.prog 15 #[.string t, .int .i64 r] w fun e w' => e = .returned (.tuple #[.string ByteArray.empty, .iface 43 (.int .i64 4)]) ∧ Below w.heap.size w w' := by
  unfold maxLen at hs
  go_enter Try.func15, Try.ntmps15
  go_wp2
  go_ret2
  exact ⟨rfl, (Below.refl _ _).alloc (Nat.le_refl _) _⟩
/-- Is r no place of t? -/
def OutW (t : ByteArray) (r : Int) : Prop := r < 0 ∨ ((t.size : Int) ≤ r ∧ 0 < r)
theorem back_out (t : ByteArray) (r : Int) (w : World) (h : t.size ≤ 24) (hr : OutW t r) :
    Calls Try.prog 15 #[.string t, .int .i64 r] w fun e w' => e = .returned (.tuple #[.string ByteArray.empty, .iface 43 (.int .i64 1)]) ∧ Below w.heap.size w w' := by
  rcases hr with hr | ⟨h1, h2⟩
  · go_enter Try.func15, Try.ntmps15
    go_wp2
    go_ret2
    exact ⟨rfl, (Below.refl _ _).alloc (Nat.le_refl _) _⟩
  · have h3 : ¬ r < 0 := by omega
    have h4 : (t.size : Int) - 1 < r := by omega
    by_cases h0 : 0 < t.size
    · have h5 : ¬ ((t.size : Int) - 1 < 0) := by omega
      go_enter Try.func15, Try.ntmps15
      go_wp2
      go_ret2
      exact ⟨rfl, (Below.refl _ _).alloc (Nat.le_refl _) _⟩
    · have h5 : (t.size : Int) - 1 < 0 := by omega
      go_enter Try.func15, Try.ntmps15
      go_wp2
      go_ret2
      exact ⟨rfl, (Below.refl _ _).alloc (Nat.le_refl _) _⟩

theorem row_at {w w' : World} {base : Nat} {e : TypeId} {size : Nat} {v : Value} {n : Nat} {xs : List Value} (h : w.ownsRow base e size v n xs) (hk : ∀ g, v.ownBlock = some g → w'.heap[g]? = w.heap[g]?) : w'.ownsRow base e size v n xs := by
  refine ⟨h.1, ?_⟩
  rcases h.2 with h' | ⟨g, cap, cur, rfl, h2, h3, h4⟩
  · exact .inl h'
  · exact .inr ⟨g, cap, cur, rfl, h2, (hk g rfl).trans h3, h4⟩
/-- A sign as a value. -/
def bvW (c : UInt8) : Value := .int .u8 (c.toNat : Int)
/-- The signs at places. -/
def sgs (t : ByteArray) (xs : List (Pl1 t)) : List UInt8 := xs.map fun x => sg t x.1
theorem sgs_snoc (t : ByteArray) (xs : List (Pl1 t)) (x : Pl1 t) : sgs t (xs ++ [x]) = sgs t xs ++ [sg t x.1] := by simp [sgs]
theorem sgs_walk (t : ByteArray) {o : List Nat} {r : Nat} {xs : List (Pl1 t)} (h : xs.map (·.1) = stps o r t.size) : sgs t xs = wlk (bs t) o t.size r := by
  rw [wlk_stps, ← h, List.map_map]
  rfl

set_option maxRecDepth 100000 in
set_option maxHeartbeats 4000000 in
theorem back_in (t : ByteArray) (r : Nat) (w : World) (h : t.size ≤ 24) (hr : (0 < t.size → r < t.size) ∧ (t.size = 0 → r = 0)) :
    CallsIn Fence.wide 9 Try.prog 15 #[.string t, .int .i64 r] w fun e w' => ∃ o, Stb (bs t) o ∧ ((wheelT (wlk (bs t) o t.size r) = bs t ∧ e = .returned (.tuple #[.string (txt (wlk (bs t) o t.size r)), .nilIface])) ∨ (wheelT (wlk (bs t) o t.size r) ≠ bs t ∧ e = .returned (.tuple #[.string ByteArray.empty, .iface 43 (.int .i64 6)]))) ∧ Below w.heap.size w w' := by
  obtain ⟨i0, hi, hz0, hz1, hz2⟩ := info_parts byteI
  refine callsIn_of_wp_marks Try.func15 rfl trivial ?_ rfl
  simp only [Try.ntmps15, List.size_toArray, List.length_cons, List.length_nil, Nat.reduceAdd, Nat.reduceSub, Array.replicate_succ, Array.replicate_zero, List.push_toArray, List.append_toArray, List.nil_append, List.cons_append]
  have c1 : ¬ (r : Int) < 0 := by omega
  have c2 : ¬ max ((t.size : Int) - 1) 0 < (r : Int) := by
    rcases Nat.eq_zero_or_pos t.size with e | e
    · have := hr.2 e; omega
    · have := hr.1 e; omega
  have hc3 : decide (max ((t.size : Int) - 1) 0 < (r : Int)) = false := decide_eq_false c2
  have hc4 : decide ((24 : Int) < (t.size : Int)) = false := decide_eq_false (by omega)
  gi_wp2_with (gi_at_make; refine wpListIn_make_own _ rfl _ _ 48 rfl (w.heap.size + 1) 5 i0 (.int .u8 0) 1 Try.underlying48 hi hz0 hz1 .i64 .i64 _ t.size rfl rfl rfl (by rw [hz2]; omega) (by unfold maxLen; omega) (by simp) ?_; intro w1 hown hgrow; have hb1 : Below (w.heap.size + 1) (w.alloc (.cells #[.string t] 9)) w1 := (Below.refl _ _).grown hgrow (by simp) (by simp); have hct : ∀ o : Obj, (w1.alloc o).cell? ⟨w.heap.size, 0, none⟩ = some (.string t) := fun o => ((hb1.alloc (by have := hb1.size; simp at this; omega) o).cell (p := ⟨w.heap.size, 0, none⟩) (by simp)).trans (by simp))
  obtain ⟨w2, hw2⟩ : ∃ z, z = w1.alloc (.cells #[.slice (some ⟨w.heap.size + 1, 0, none⟩) 0 t.size] 48) := ⟨_, rfl⟩
  have hs1 : w.heap.size + 2 ≤ w1.heap.size := by
    have h7 := hown.lt _ rfl
    simp at h7
    omega
  have hs2 : w1.heap.size < w2.heap.size := by rw [hw2]; simp
  have hbx : Boxed w2 w1.heap.size 48 (.slice (some ⟨w.heap.size + 1, 0, none⟩) 0 t.size) := by rw [hw2]; exact Boxed.new _ _ _
  have hrow2 : w2.ownsRow (w.heap.size + 1) 5 1 (.slice (some ⟨w.heap.size + 1, 0, none⟩) 0 t.size) 0 [] := by
    have h7 := hown
    rw [show (w.alloc (.cells #[.string t] 9)).heap.size = w.heap.size + 1 by simp] at h7
    rw [hw2]; exact h7.alloc _
  have hbl2 : Below (w.heap.size + 1) (w.alloc (.cells #[.string t] 9)) w2 := by rw [hw2]; exact hb1.alloc (by omega) _
  have hct2 : w2.cell? ⟨w.heap.size, 0, none⟩ = some (.string t) := by rw [hw2]; exact hct _
  rw [← hw2]
  clear hw2 hct hown hgrow hb1
  have HBX := hid hbx
  have HROW := hid hrow2
  have HBL := hid hbl2
  clear hbx hrow2 hbl2
  refine ⟨trivial, (callsIn_wide.2 (laters_any t w2 h)).mono ?_⟩
  rintro e w3 ⟨o, rfl, hS, hI, hb3⟩
  have hs3 : w2.heap.size + 1 < w3.heap.size := hI.1
  have HS := hid hS
  have HI := hid hI.2
  have HB3 := hid hb3
  clear hS hI hb3
  gi_wp2_with fail
  refine ⟨trivial, (callsIn_wide.2 (walk_any _ _ _ _ _)).mono ?_⟩
  rintro e w4 ⟨rfl, hw4⟩
  have hs4 : w3.heap.size + 2 ≤ w4.heap.size := by rw [hw4]; simp
  have hb4 : Below w3.heap.size w3 w4 := by rw [hw4]; exact ((Below.refl _ _).alloc (Nat.le_refl _) _).alloc (by simp) _
  have hcn : w4.cell? ⟨w3.heap.size, 0, none⟩ = some (.slice (some ⟨w2.heap.size + 1, 0, none⟩) t.size t.size) := by rw [hw4]; simp
  have hca : w4.cell? ⟨w3.heap.size + 1, 0, none⟩ = some (.int .i64 (r : Nat)) := by rw [hw4]; simp
  have hb24 : Below w2.heap.size w2 w4 := HB3.out.trans (hb4.mono (by omega))
  have hco : ∀ j, j < t.size → w4.cell? ⟨w2.heap.size + 1, j, none⟩ = some (.int .i64 (o.getD j 0 : Nat)) := fun j hj => (hb4.cell (p := ⟨w2.heap.size + 1, j, none⟩) hs3).trans (HI.out j hj)
  clear hw4
  have HW4 := hid (And.intro hcn (And.intro hca hco))
  clear hcn hca hco
  gi_wp2_with fail
  have bX : Boxed w4 w1.heap.size 48 (.slice (some ⟨w.heap.size + 1, 0, none⟩) 0 t.size) := (hb24.block w1.heap.size (by omega)).trans HBX.out
  have bR : w4.ownsRow (w.heap.size + 1) 5 1 (.slice (some ⟨w.heap.size + 1, 0, none⟩) 0 t.size) 0 [] := row_at HROW.out fun g e => by
    obtain rfl : w.heap.size + 1 = g := by simpa [Value.ownBlock] using e
    exact hb24.block _ (by omega)
  have bB : Below (w.heap.size + 1) (w.alloc (.cells #[.string t] 9)) w4 := HBL.out.trans (hb24.mono (by omega))
  have hKp := walk_stops t h o HS.out r hr.1 (9 - 1) (by omega) (w3.heap.size + 1) w3.heap.size (w2.heap.size + 1) w2.heap.size w4.heap.size t.size (by omega) (by omega) (by omega) w4 (Nat.le_refl _) HW4.out.2.1 HW4.out.1 HW4.out.2.2
  have HEMP : ByteArray.empty = (⟨#[]⟩ : ByteArray) := rfl
  refine wpIn_rangeFunc_ownG rfl (by omega) (gf := 32) (lb := #[.pointer (some ⟨w3.heap.size + 1, 0, none⟩), .pointer (some ⟨w3.heap.size, 0, none⟩)]) rfl trivial (enters_of Try.func32 (by kernel_rfl) rfl)
    hKp KpR.trans (kpR_b (Nat.le_refl _)) (Below.refl _ _) (fun _ => rfl)
    (fun pre W => (∃ v, Boxed W w1.heap.size 48 v ∧ W.ownsRow (w.heap.size + 1) 5 1 v (sgs t pre).length ((sgs t pre).map bvW) ∧ (∃ g, v.ownBlock = some g ∧ (g = w.heap.size + 1 ∨ w4.heap.size ≤ g))) ∧ (w4.heap.size ≤ W.heap.size ∧ Below (w.heap.size + 1) (w.alloc (.cells #[.string t] 9)) W))
    (fun _ _ _ => False)
    (OwnFrom.and (Own.from (holdsRow_own (w.heap.size + 1) w1.heap.size 48 5 1 (fun pre : List (Pl1 t) => (sgs t pre).length) (fun pre => (sgs t pre).map bvW) (fun _ v => ∃ g, v.ownBlock = some g ∧ (g = w.heap.size + 1 ∨ w4.heap.size ≤ g))) _) (OwnFrom.and (fun _ _ _ _ hs hg _ => Nat.le_trans hs hg.size) (ownFrom_below (by simp) (by omega))))
    (fun _ _ _ _ _ hs _ _ => hs)
    ⟨⟨_, bX, bR, ⟨_, rfl, .inl rfl⟩⟩, Nat.le_refl _, bB⟩
    (fun x => { tmps := #[.string t, .int .i64 (r : Int), .pointer (some ⟨w.heap.size, 0, none⟩), undef, .string ⟨#[]⟩, .nilIface, .pointer (some ⟨w1.heap.size, 0, none⟩), .int .i64 (x.1 : Int), undef, undef, undef, undef, .string t, .int .i64 (t.size : Int), .bool false, undef, .int .i64 (r : Int), .bool false, .bool false, .int .i64 (r : Int), .string t, .int .i64 (t.size : Int), .int .i64 ((t.size : Int) - 1), .int .i64 (max ((t.size : Int) - 1) 0), .bool false, .bool false, undef, .string t, .int .i64 (t.size : Int), .slice (some ⟨w.heap.size + 1, 0, none⟩) 0 t.size, .string t, .slice (some ⟨w2.heap.size + 1, 0, none⟩) t.size t.size, .int .i64 (r : Int), .func (.func 32) #[] #[.pointer (some ⟨w3.heap.size + 1, 0, none⟩), .pointer (some ⟨w3.heap.size, 0, none⟩)], .int .i64 (x.1 : Int), undef, undef, undef, undef, undef, undef, undef, undef, undef, undef, undef, undef, undef, undef, undef, undef, undef, undef, undef, undef, undef, undef], defers := [] }) ?assign ?body ?done ?stop
  case assign =>
    intro l x W K hK
    unfold encL
    gi_wp2
    exact hK
  case body =>
    rintro l pre x W ⟨⟨v, hv, hrow, hG⟩, hsz, hB⟩ hlt
    have hcs : W.cell? ⟨w.heap.size, 0, none⟩ = some (.string t) := (hB.cell (p := ⟨w.heap.size, 0, none⟩) (by simp)).trans (by simp)
    have hx1 := x.2
    have hcv := hv.cell
    have HSN := hid (sgs_snoc t pre x)
    have hsg := sg_eq t x.1 x.2
    have hlen : (sgs t pre).length < 1000 := by simpa [sgs] using hlt
    have HG := hid hG
    clear hG hlt
    generalize sgs t pre = ys at hrow hlen HSN
    gi_wp2
    refine wpIn_region_float (C := fun w' => ∃ q, w' = W.drewN q) (lets_round _ l) 4 35 _ _ undef (by kernel_rfl) rfl rfl rfl rfl (by kernel_rfl) ⟨1, rfl⟩ ?_
    simp only [List.take_succ_cons, List.take_zero, List.drop_succ_cons, List.drop_zero]
    repeat (quiet_step (fail))
    refine wpQuiet_nil ?_
    rintro _ ⟨q, rfl⟩
    obtain ⟨W1, hW1⟩ : ∃ z, z = W.drewN q := ⟨_, rfl⟩
    have hv1 : Boxed W1 w1.heap.size 48 v := by rw [hW1]; exact hv
    have hrow1 : W1.ownsRow (w.heap.size + 1) 5 1 v ys.length (ys.map bvW) := by rw [hW1]; exact hrow
    have hB1 : Below (w.heap.size + 1) (w.alloc (.cells #[.string t] 9)) W1 := by rw [hW1]; exact below_drewN hB q
    have hsz1 : w4.heap.size ≤ W1.heap.size := by rw [hW1]; exact hsz
    have hca : ∀ o : Obj, (W1.alloc o).cell? ⟨w1.heap.size, 0, none⟩ = some v := fun o => (hv1.alloc o).cell
    have fin : ∀ (tmp : Obj) (v' : Value) (w5 : World), w5.ownsRow (w.heap.size + 1) 5 1 v' (ys.length + 1) (ys.map bvW ++ [.int .u8 (t[x.1].toNat : Int)]) → (W1.alloc tmp).grownBy w5 v.ownBlock → (v'.ownBlock = v.ownBlock ∨ v'.ownBlock = some (W1.alloc tmp).heap.size) →
        KeepsFrom w4.heap.size W (w5.setCell ⟨w1.heap.size, 0, none⟩ v') ∧ KpR w2.heap.size w4.heap.size W (w5.setCell ⟨w1.heap.size, 0, none⟩ v') ∧
        ((∃ v2, Boxed (w5.setCell ⟨w1.heap.size, 0, none⟩ v') w1.heap.size 48 v2 ∧ (w5.setCell ⟨w1.heap.size, 0, none⟩ v').ownsRow (w.heap.size + 1) 5 1 v2 (sgs t (pre ++ [x])).length ((sgs t (pre ++ [x])).map bvW) ∧ (∃ g, v2.ownBlock = some g ∧ (g = w.heap.size + 1 ∨ w4.heap.size ≤ g))) ∧
          (w4.heap.size ≤ (w5.setCell ⟨w1.heap.size, 0, none⟩ v').heap.size ∧ Below (w.heap.size + 1) (w.alloc (.cells #[.string t] 9)) (w5.setCell ⟨w1.heap.size, 0, none⟩ v'))) := by
      intro tmp v' w5 hown' hgrow hloc
      obtain ⟨hv3, hv4, hr4, hk4, hb4'⟩ := hv1.appended (by decide) hrow1 (by omega) (by omega) hown' hgrow
      obtain ⟨g, hg1, hg2⟩ := HG.out
      have hk5 : KpR w2.heap.size w4.heap.size W (w5.setCell ⟨w1.heap.size, 0, none⟩ v') := fun b b1 b2 => by
        rw [Below.heap_setCell _ _ _ b (show b ≠ w1.heap.size by omega), hgrow.block b (by simp; omega) (fun e => by rw [hg1] at e; injection e with e; omega), Below.heap_alloc _ _ b (by omega), hW1]
        rfl
      rw [hW1] at hk4
      refine ⟨(KeepsOthers.trans (show KeepsOthers W (W.drewN q) from ⟨Nat.le_refl _, fun _ _ h _ => h⟩) hk4).from _, hk5, ⟨_, hv4, ?_, ?_⟩, ?_, hB1.trans hb4'⟩
      · rw [HSN.out, hsg, List.length_append, List.map_append]; exact hr4
      · rcases hloc with e | e
        · exact ⟨g, e.trans hg1, hg2⟩
        · exact ⟨_, e, .inr (by simp; omega)⟩
      · have := hgrow.size; simp at this ⊢; omega
    have hcv1 := hv1.cell
    rw [← hW1]
    clear hW1 hv hrow hB hcv hcs hsg
    refine ⟨?_, ?_⟩
    · gi_wp2_with (gi_at_builtin; refine wpListIn_append_own_at _ rfl _ _ 48 rfl (w.heap.size + 1) 5 i0 (.int .u8 0) 1 1 Try.underlying48 hi hz0 hz1 hz2 rfl (by decide) _ _ _ rfl (hrow1.alloc _) ⟨W1.heap.size, 0, none⟩ 1 1 [.int .u8 (t[x.1].toNat : Int)] rfl rfl (cell_one_new _ _ _) (by simp [Value.oneCell']) (by unfold maxLen; omega) (by omega) (by simp; omega) ?_; intro v' w5 hown' hgrow _ hloc; obtain ⟨g', cap', rfl⟩ := ownsRow_succ hown'; have HF := hid (fin _ _ _ hown' hgrow hloc); have hcc := (hv1.appended (by decide) hrow1 (by omega) (by omega) hown' hgrow).1.cell; have hff := (hv1.appended (by decide) hrow1 (by omega) (by omega) hown' hgrow).1.frozen; clear hown' hgrow hloc)
      exact HF.out
    · gi_wp2_with (gi_at_builtin; refine wpListIn_append_own_at _ rfl _ _ 48 rfl (w.heap.size + 1) 5 i0 (.int .u8 0) 1 1 Try.underlying48 hi hz0 hz1 hz2 rfl (by decide) _ _ _ rfl (hrow1.alloc _) ⟨W1.heap.size, 0, none⟩ 1 1 [.int .u8 (t[x.1].toNat : Int)] rfl rfl (cell_one_new _ _ _) (by simp [Value.oneCell']) (by unfold maxLen; omega) (by omega) (by simp; omega) ?_; intro v' w5 hown' hgrow _ hloc; obtain ⟨g', cap', rfl⟩ := ownsRow_succ hown'; have HF := hid (fin _ _ _ hown' hgrow hloc); have hcc := (hv1.appended (by decide) hrow1 (by omega) (by omega) hown' hgrow).1.cell; have hff := (hv1.appended (by decide) hrow1 (by omega) (by omega) hown' hgrow).1.frozen; clear hown' hgrow hloc)
      exact HF.out
  case done =>
    rintro D xs W hD hS ⟨⟨v, hv, hrow, hG⟩, hsz, hB⟩ hK
    have hwk := sgs_walk t hS
    have hln : (sgs t xs).length = t.size := by rw [hwk, wlk_len]
    rw [hln] at hrow
    obtain ⟨g, hg1, _⟩ := hG
    obtain ⟨cap, rfl⟩ : ∃ cap, v = .slice (some ⟨g, 0, none⟩) t.size cap := by
      rcases hrow.2 with ⟨rfl, _⟩ | ⟨g', cap, cur, rfl, _⟩
      · simp [Value.ownBlock] at hg1
      · obtain rfl : g' = g := by simpa [Value.ownBlock] using hg1
        exact ⟨cap, rfl⟩
    have hcv := run_convert_bytes_back (P := Try.prog) W 48 9 5 ⟨g, 0, none⟩ cap (sgs t xs) Try.underlying48 Try.underlying5 Try.underlying9 (fun j hj => by
      rw [hln] at hj
      rw [show Addr.add ⟨g, 0, none⟩ j = ⟨g, j, none⟩ by by_cases h : j = 0 <;> simp [Addr.add, h], hrow.cellAt j (by omega)]
      simp [bvW, hln, hj])
    rw [hln, hwk] at hcv
    change Sem.run _ _ _ = .ok (Value.string (txt (wlk (bs t) o t.size r))) _ at hcv
    have hc := hv.cell
    have hct4 : ∀ w5, Below W.heap.size W w5 → w5.cell? ⟨w.heap.size, 0, none⟩ = some (.string t) := fun w5 h5 => (h5.cell (p := ⟨w.heap.size, 0, none⟩) (show w.heap.size < W.heap.size by omega)).trans ((hB.cell (p := ⟨w.heap.size, 0, none⟩) (by simp)).trans (by simp))
    have hD2 : D < W.heap.size := (Array.getElem?_eq_some_iff.1 hK).1
    have hus : (txt (wlk (bs t) o t.size r)).size ≤ 24 := by rw [txt_size, wlk_len]; exact h
    have HT := fun W => hid (there_any (txt (wlk (bs t) o t.size r)) W hus)
    rw [bs_txt] at HT
    obtain ⟨u, hu⟩ : ∃ u, u = txt (wlk (bs t) o t.size r) := ⟨_, rfl⟩
    rw [← hu] at hcv HT hus
    have HU := hid hu
    have HB0 := hid hB
    clear hu hwk hln hrow hS hg1 hB hv
    gi_wp2_with fail
    refine ⟨trivial, (callsIn_wide.2 (HT _).out).mono ?_⟩
    rintro e w5 ⟨rfl, hb5⟩
    have hK5 : w5.heap[D]? = some (.deferred (some [])) := (hb5.block D hD2).trans hK
    have hct5 := hct4 w5 hb5
    have HBW : Hid (Below w.heap.size w w5) := hid (((Below.refl _ w).alloc (Nat.le_refl _) _).trans ((HB0.out.mono (by omega)).trans (hb5.mono (by omega))))
    have HB5 := hid hb5
    clear hct4 HT hb5
    by_cases heq : wheelT (wlk (bs t) o t.size r) = bs t
    · have hq := same_yes (show txt (wheelT (wlk (bs t) o t.size r)) = t by rw [heq, txt_bs])
      obtain ⟨z, hz⟩ : ∃ z, z = txt (wheelT (wlk (bs t) o t.size r)) := ⟨_, rfl⟩
      rw [← hz] at hq ⊢
      have HE := hid heq
      clear heq hz
      gi_wp2_with fail
      refine ⟨by simp, .inl ⟨_, _, rfl, run_takeDeferred hK5, ?_⟩⟩
      exact ⟨_, results_tmp2 rfl _ _ _, o, HS.out, .inl ⟨HE.out, by rw [← HU.out]; rfl⟩, HBW.out.trans ((belowK_b (w := w) (Nat.le_refl _) w5 D _ _ (by omega) hK5 rfl rfl))⟩
    · have hq := same_no (show txt (wheelT (wlk (bs t) o t.size r)) ≠ t from fun e => heq (by have := congrArg bs e; rwa [bs_txt] at this))
      obtain ⟨z, hz⟩ : ∃ z, z = txt (wheelT (wlk (bs t) o t.size r)) := ⟨_, rfl⟩
      rw [← hz] at hq ⊢
      have HE := hid heq
      clear heq hz
      gi_wp2_with fail
      refine ⟨by simp, .inl ⟨_, _, rfl, run_takeDeferred hK5, ?_⟩⟩
      exact ⟨_, results_tmp2 rfl _ _ _, o, HS.out, .inr ⟨HE.out, rfl⟩, HBW.out.trans ((belowK_b (w := w) (Nat.le_refl _) w5 D _ _ (by omega) hK5 rfl rfl))⟩
  case stop =>
    rintro D c pre W _ _ h _
    exact h.elim
theorem back_any (t : ByteArray) (r : Nat) (w : World) (h : t.size ≤ 24) (hr : (0 < t.size → r < t.size) ∧ (t.size = 0 → r = 0)) :
    Calls Try.prog 15 #[.string t, .int .i64 r] w fun e w' => ∃ o, Stb (bs t) o ∧ ((wheelT (wlk (bs t) o t.size r) = bs t ∧ e = .returned (.tuple #[.string (txt (wlk (bs t) o t.size r)), .nilIface])) ∨ (wheelT (wlk (bs t) o t.size r) ≠ bs t ∧ e = .returned (.tuple #[.string ByteArray.empty, .iface 43 (.int .i64 6)]))) ∧ Below w.heap.size w w' :=
  callsIn_wide.1 (back_in t r w h hr)
end Go.Proofs.Ytceipfmdgpnagaa
