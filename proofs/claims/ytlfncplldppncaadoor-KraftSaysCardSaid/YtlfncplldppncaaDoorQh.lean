/-
  Several of this claim's texts in one (Kap, Texts, Strl, Kfact, Occ, Begins, Begl, KcodesW): what each proves stands at its own head. Conditions: as each says.
-/
import Derived.Deep.LoopGhost
import Derived.Test.YtlfncplldppncaaDoorQg

/-
  Contracts of kraft.Apart: can each text be of words in at most one way, or the error that comes first. Conditions: the sizes that a row itself sets.
-/
namespace Go.Proofs.YtlfncplldppncaaDoor
open Go.RowKit Go.Maps

/-- The map D tells of every text whether it is among l. -/
def SetD (D : DataW Unit) (l : List ByteArray) : Prop := IsMap D ∧ ∀ s : ByteArray, D.atKey (keyS s) (.lit (.bool false)) = .lit (.bool (tIn s l))
theorem setD_nil : SetD (.map []) [] := ⟨isMap_empty, fun _ => rfl⟩
theorem setD_put {D : DataW Unit} {l : List ByteArray} (h : SetD D l) (x : ByteArray) : SetD (D.put (keyS x) (.lit (.bool true))) (l ++ [x]) := by
  refine ⟨h.1.put _ _, fun s => ?_⟩
  rw [tIn_snoc]
  by_cases e : s = x
  · subst e
    rw [atKey_put_same h.1 (keyS_key _)]
    simp
  · rw [atKey_put_other (keyS_ne e), h.2 s]
    simp [e]
/-- 'm[k]' in a map of bools, as an equation (a guarded look-up asks for it). -/
theorem look_bool {P : Program} {w : World} {t k e : TypeId} {b n : Nat} {D : DataW Unit} (hown : w.ownsMap P k (plainElem P e) b n D) (K : Keyed P k) (ht : P.underlying t = some (.map k e)) (he : P.underlying e = some .bool) (hz : (zeroValue e).run P w = .ok (.bool false) w)
    {key : Value} {kl : Lit} (hkey : keyOf P k key = some kl) {c : Bool} (hat : D.atKey kl (.lit (.bool false)) = .lit (.bool c)) : Sem.run P (Instr.lookup t (.map (some b)) key false) w = .ok (.bool c) w := by
  obtain ⟨v, ps, hrun, hv⟩ := hown.lookup K ht hz (plainElem_bool he false) hkey
  rw [hat] at hv
  obtain ⟨x', rfl, e'⟩ := plainElem_bool_inv he hv
  obtain rfl : c = x' := by simpa using congrArg Prod.fst e'
  exact hrun
/-- What the search holds: the map of those seen in block M, by way of block M + 1; the queue by way of block M + 2: those seen from place p on. -/
structure ApM (W : World) (M : Nat) (l : List ByteArray) (p : Nat) (v : Value) : Prop where
  mp : ∃ D : DataW Unit, W.ownsMap Tryd.prog 9 (plainElem Tryd.prog 4) M l.length D ∧ SetD D l
  sb : Boxed W (M + 1) 51 (.map (some M))
  vb : Boxed W (M + 2) 23 v
  q : QV W (M + 3) 9 v (l.drop p)
  hi : M + 3 ≤ W.heap.size
  ple : p ≤ l.length
theorem ApM.below {W W' : World} {M p : Nat} {l : List ByteArray} {v : Value} (h : ApM W M l p v) (hb : Below W.heap.size W W') : ApM W' M l p v where
  mp := by
    obtain ⟨D, ⟨es, clock, hblk, r⟩, hD⟩ := h.mp
    exact ⟨D, ⟨es, clock, (hb.block _ (by have := h.hi; omega)).trans hblk, r⟩, hD⟩
  sb := (hb.block _ h.sb.lt).trans h.sb
  vb := (hb.block _ h.vb.lt).trans h.vb
  q := h.q.keep fun b hb' => hb.block b (h.q.lt hb').2
  hi := Nat.le_trans h.hi hb.size
  ple := h.ple
theorem apM_start (w : World) : ApM (((w.alloc (.map #[] 0)).alloc (.cells #[.map (some w.heap.size)] 51)).alloc (.cells #[.slice none 0 0] 23)) w.heap.size [] 0 (.slice none 0 0) := by
  have e1 : (w.alloc (.map #[] 0)).heap.size = w.heap.size + 1 := by simp
  have e2 : ((w.alloc (.map #[] 0)).alloc (.cells #[.map (some w.heap.size)] 51)).heap.size = w.heap.size + 2 := by simp
  refine ⟨⟨.map [], ((World.ownsMap_made (H := Unit) w Tryd.prog 9 (plainElem Tryd.prog 4)).alloc _).alloc _, setD_nil⟩, ?_, ?_, QV.nil _ _ _, by simp, by simp⟩
  · have := (Boxed.new (w.alloc (.map #[] 0)) 51 (.map (some w.heap.size))).alloc (.cells #[.slice none 0 0] 23)
    rwa [e1] at this
  · have := Boxed.new ((w.alloc (.map #[] 0)).alloc (.cells #[.map (some w.heap.size)] 51)) 23 (.slice none 0 0)
    rwa [e2] at this
theorem ApM.step {W : World} {M p : Nat} {l : List ByteArray} {v v' : Value} (h : ApM W M l p v) (hp : p < l.length) (hq : QV W (M + 3) 9 v' (l.drop (p + 1))) : ApM (W.setCell ⟨M + 2, 0, none⟩ v') M l (p + 1) v' where
  mp := by
    obtain ⟨D, hD, hS⟩ := h.mp
    exact ⟨D, hD.setCell (by show M ≠ M + 2; omega) _, hS⟩
  sb := (Below.heap_setCell _ _ _ _ (by show M + 1 ≠ M + 2; omega)).trans h.sb
  vb := h.vb.set _
  q := hq.keep fun b hb => Below.heap_setCell _ _ _ _ (by have := (hq.lt hb).1; show b ≠ M + 2; omega)
  hi := by simpa using h.hi
  ple := by omega
/-- A row of texts of the call's own. -/
theorem OwnS.row {w : World} {base : Nat} {e : TypeId} {v : Value} {ws : List ByteArray} (h : OwnS w base e v ws) :
    ∃ A c, v = .slice A ws.length c ∧ (0 < ws.length → ∃ g, A = some ⟨g, 0, none⟩ ∧ base ≤ g ∧ g < w.heap.size ∧ ∀ j, j < ws.length → w.cell? ⟨g, j, none⟩ = some (.string (ws.getD j ByteArray.empty))) := by
  obtain ⟨A, c, rfl, hc⟩ := h.read
  refine ⟨A, c, rfl, fun h0 => ?_⟩
  obtain ⟨g, rfl, _⟩ := hc 0 h0
  have := World.ownsRow.lt h g rfl
  refine ⟨g, rfl, this.1, this.2, fun j hj => ?_⟩
  obtain ⟨g', e', hg⟩ := hc j hj
  injection e' with e'
  injection e' with e'
  rw [e']
  exact hg
theorem elem_strs : Tryd.prog.elem 23 = 9 := by kernel_rfl
theorem run_at0s (W : World) (g off n c : Nat) (h : 0 < n) : Sem.run Tryd.prog (Instr.indexAt 23 (.slice (some ⟨g, off, none⟩) n c) (.int .i64 0)) W = .ok (.pointer (some ⟨g, off, none⟩)) W := by
  rw [run_indexAt_slice W 23 ⟨g, off, none⟩ n c .i64 0 (by rw [elem_strs]; exact Tryd.underlying23), if_pos ⟨by omega, by omega⟩, elem_strs, Tryd.sizeOf9 W]
  rfl
theorem run_rest1 (W : World) (g off q c : Nat) : Sem.run Tryd.prog (Instr.slice 23 (.slice (some ⟨g, off, none⟩) (q + 1) c) (some (.int .i64 1)) none none) W = .ok (.slice (some ⟨g, if c = 1 then off else off + 1, none⟩) q (c - 1)) W := by
  rw [run_slice_l W 23 (some ⟨g, off, none⟩) (q + 1) c (by rw [elem_strs]; exact Tryd.underlying23) .i64 1 (by decide) (by omega), elem_strs, Tryd.sizeOf9 W]
  by_cases e : c = 1
  · simp [Result.andThen, sliced, e]
  · simp [Result.andThen, sliced, e, Addr.add]

set_option maxRecDepth 100000 in
set_option maxHeartbeats 1000000 in
theorem add_any (x : ByteArray) (M p : Nat) (l : List ByteArray) (v : Value) (W : World) (hx : x.size ≤ 8) (hl : l.length ≤ 1000) (h : ApM W M l p v) :
    Calls Tryd.prog 28 #[.string x, .pointer (some ⟨M + 1, 0, none⟩), .pointer (some ⟨M + 2, 0, none⟩)] W fun e W' => e = .returned (.tuple #[]) ∧ ∃ v', ApM W' M (add1 l x) p v' ∧ KeepQ W W' M (M + 2) v v' := by
  obtain ⟨i0, hi, hz0, hz1, hz2⟩ := info_parts strK
  obtain ⟨D, hm, hD⟩ := h.mp
  have hkey := key_str (s := x) (by unfold maxLen; omega)
  have hat := hD.2 x
  have cS := h.sb.cell
  have cV := h.vb.cell
  have H := hid h
  have HD := hid hD
  have hM := h.hi
  cases hc : tIn x l with
  | true =>
    rw [hc] at hat
    have HA : Hid (add1 l x = l) := hid (by unfold add1; rw [if_pos hc])
    clear h hD hc
    go_enter Tryd.func28, Tryd.ntmps28
    go_wp2_with (at_lookup; refine wpList_lookup_bool _ rfl _ _ 51 rfl 9 4 str_keyed Tryd.underlying51 Tryd.underlying4 (zero_bool _) M l.length D rfl hm _ _ rfl hkey true hat ?_)
    go_end0
    exact ⟨rfl, v, by rw [HA.out]; exact H.out, KeepQ.refl _ _ _ _⟩
  | false =>
    rw [hc] at hat
    have HA : Hid (add1 l x = l ++ [x]) := hid (by unfold add1; rw [if_neg (by rw [hc]; decide)])
    have HL : Hid ((l.drop p).length ≤ 1000) := hid (by rw [List.length_drop]; omega)
    clear h hD hc
    go_enter Tryd.func28, Tryd.ntmps28
    go_wp2_with (first
      | (at_lookup; refine wpList_lookup_bool _ rfl _ _ 51 rfl 9 4 str_keyed Tryd.underlying51 Tryd.underlying4 (zero_bool _) M l.length D rfl hm _ _ rfl hkey false hat ?_)
      | (at_mapUpdate; refine wpList_mapUpdate_own _ rfl _ _ _ 51 rfl 9 4 str_keyed Tryd.underlying51 _ M l.length _ rfl hm (by unfold maxLen; omega) _ _ _ rfl rfl hkey _ [] (plainElem_bool Tryd.underlying4 true) ?_; intro w1 hown1 hgrow1; have hm1 := hid hown1; have hv1 : Boxed w1 (M + 2) 23 v := H.out.vb.kept hgrow1 (by simp); have hs1 := hid (H.out.sb.kept hgrow1 (by simp)); have cV1 := hv1.cell; have hq1 := hid (H.out.q.keep (w' := w1) fun b hb => hgrow1.block b (H.out.q.lt hb).2 (fun e => by have := (H.out.q.lt hb).1; injection e with e; omega)); have hg1 := hid hgrow1; have hsw1 : M + 3 ≤ w1.heap.size := Nat.le_trans hM hgrow1.size; have hne1 := hid (show some (M + 2) ≠ v.ownBlock from fun e => by have := (H.out.q.lt e.symm).1; omega); clear hown1 hgrow1 hm cV)
      | (at_builtin; refine wpList_append_q _ rfl (.tmp 10) (.tmp 12) 23 rfl (M + 3) 9 i0 Tryd.underlying23 hi hz0 hz1 hz2 v (l.drop p) rfl hq1.out x rfl HL.out (by omega) ?_; intro v' w7 hq7 hsys7 hold7 hat7; obtain ⟨A7, c7, hsh⟩ := hq7.shape; generalize (l.drop p ++ [x]).length = n7 at hsh; subst hsh; have hv7 : Boxed w7 (M + 2) 23 v := (hold7 _ hv1.lt hne1.out).trans hv1; have cV7 := hv7.cell; have fV7 := hv7.frozen; have HQ7 := hid hq7; have HS7 := hid hsys7; have HO7 := hid hold7; have HT7 := hid hat7; clear hq7 hsys7 hold7 hat7 hv1 cV1))
    go_end0
    obtain ⟨hos, htp, hou, hsz7⟩ := HS7.out
    have hb7 : ∀ j, j < W.heap.size → j ≠ M → j ≠ M + 2 → some j ≠ v.ownBlock → (w7.setCell ⟨M + 2, 0, none⟩ (.slice A7 n7 c7)).heap[j]? = W.heap[j]? := fun j hj h1 h2 h3 =>
      (Below.heap_setCell _ _ _ _ h2).trans ((HO7.out j (Nat.lt_of_lt_of_le hj hg1.out.size) h3).trans (hg1.out.block j hj (fun e => h1 (Option.some.inj e))))
    have hset := (Below.refl (M + 2) w7).setCell (p := ⟨M + 2, 0, none⟩) (Nat.le_refl _) (.slice A7 n7 c7)
    have hM2 : ∀ j, j < M + 2 → (w7.setCell ⟨M + 2, 0, none⟩ (.slice A7 n7 c7)).heap[j]? = w1.heap[j]? := fun j hj =>
      (Below.heap_setCell _ _ _ _ (by show j ≠ M + 2; omega)).trans (HO7.out j (by omega) (fun e => by have := (H.out.q.lt e.symm).1; omega))
    refine ⟨rfl, _, ⟨⟨_, ?_, by rw [HA.out]; exact setD_put HD.out x⟩, (hM2 _ (by omega)).trans hs1.out, hv7.set _, ?_, by simp; omega, ?_⟩, ⟨hset.os.trans (hos.trans hg1.out.os), hset.tape.trans (htp.trans hg1.out.tape), hset.output.trans (hou.trans hg1.out.output), Nat.le_trans hg1.out.size (Nat.le_trans hsz7 hset.size), fun j hj h1 h2 h3 => ⟨hb7 j hj h1 h2 h3, fun e => ?_⟩⟩⟩
    · rw [HA.out, List.length_append, List.length_singleton]
      obtain ⟨es, clock, hblk, r⟩ := hm1.out
      exact ⟨es, clock, (hM2 M (by omega)).trans hblk, r⟩
    · rw [HA.out, List.drop_append_of_le_length H.out.ple]
      exact HQ7.out.keep fun b hb => Below.heap_setCell _ _ _ _ (by have := (HQ7.out.lt hb).1; show b ≠ M + 2; omega)
    · rw [HA.out, List.length_append]
      have := H.out.ple
      omega
    · rcases HT7.out with e2 | ⟨g, e2, hg⟩
      · exact h3 (e.trans e2)
      · rw [e2] at e
        injection e with e
        have := hg1.out.size
        omega

theorem kapart_bad (A : Option Addr) (n c : Nat) (ws : List ByteArray) (k : Int) (w : World) (hn : n ≤ maxLen) (hs : ∀ i, i < n → (wat ws i).size ≤ maxLen) (hk : Bad ws k) (h : IsStrs w w.heap.size A n ws) :
    Calls Tryd.prog 16 #[.slice A n c] w fun e w' => e = .returned (.tuple #[.bool false, .iface 44 (.int .i64 k)]) ∧ Below w.heap.size w w' := by
  have HC := hid (tcheck_bad A n c ws k w hn hs hk h)
  clear h hk hs hn
  go_enter Tryd.func16, Tryd.ntmps16
  go_wp2_with fail
  refine HC.out.mono ?_
  rintro e w1 ⟨rfl, hb1⟩
  go_wp2_with fail
  go_ret2
  exact ⟨rfl, hb1⟩

theorem drop_cons {l : List ByteArray} {p : Nat} (h : p < l.length) : l.drop p = l.getD p ByteArray.empty :: l.drop (p + 1) := by
  rw [List.drop_eq_getElem_cons h]
  simp [h]

set_option maxRecDepth 100000 in
set_option maxHeartbeats 4000000 in
theorem kapart_ok (A : Option Addr) (n c : Nat) (ws : List ByteArray) (w : World) (hf : Fine ws) (h : IsStrs w w.heap.size A n ws) :
    Calls Tryd.prog 16 #[.slice A n c] w fun e w' => ∃ b : Bool, (b = true ↔ UD (wl ws)) ∧ e = .returned (.tuple #[.bool b, .nilIface]) ∧ Below w.heap.size w w' := by
  have hmm := @run_makeMap Tryd.prog
  have hmf : ∀ (fn : Fn) (first cap : Array Value) (w : World), (Instr.makeFunc fn first cap).run Tryd.prog w = .ok (.func fn first cap) w := fun _ _ _ _ => rfl
  have HC := hid (tcheck_ok A n c ws w hf h)
  have HR := fun (W : World) (hW : Below w.heap.size w W) => hid (rests_any A n c ws W hf ((h.below hW).mono hW.size))
  have HK := fun (W : World) (hW : Below w.heap.size w W) (a : ByteArray) (ha : a.size ≤ 8) => hid (continued_any a A n c ws W ha hf ((h.below hW).mono hW.size))
  have H8 : Hid (∀ x ∈ wl ws, x.length ≤ 8) := hid (fun x hx => ((fine_wl hf).2 x hx).1)
  have H6 : Hid ((wl ws).length ≤ 6) := hid (by rw [wl_len]; exact hf.1)
  have HOk : Hid (Okw (wl ws)) := hid (by
    have h1 := fine_wl hf
    exact ⟨h1.1, fun x hx e => by have := (h1.2 x hx).2; rw [e] at this; simp at this⟩)
  have hkey : keyOf Tryd.prog 9 (.string ⟨#[]⟩) = some (keyS ⟨#[]⟩) := key_str (by decide)
  clear h hf
  go_enter Tryd.func16, Tryd.ntmps16
  go_wp2_with fail
  refine HC.out.mono ?_
  rintro e w1 ⟨rfl, hb1⟩
  clear HC
  have hA0 := apM_start w1
  have hB0 : Below w.heap.size w (((w1.alloc (.map #[] 0)).alloc (.cells #[.map (some w1.heap.size)] 51)).alloc (.cells #[.slice none 0 0] 23)) := ((hb1.alloc hb1.size _).alloc (by simp; have := hb1.size; omega) _).alloc (by simp; have := hb1.size; omega) _
  have hM := hb1.size
  have hsz0 : (((w1.alloc (.map #[] 0)).alloc (.cells #[.map (some w1.heap.size)] 51)).alloc (.cells #[.slice none 0 0] 23)).heap.size = w1.heap.size + 3 := by simp
  have HA0 := hid hA0
  have HB0 := hid hB0
  have HS0 := hid hsz0
  clear hA0 hB0 hsz0 hb1
  go_wp2_with fail
  refine (HR _ HB0.out).out.mono ?_
  rintro e w2 ⟨vr, R, rfl, hF, hR36, hO, hb2⟩
  clear HR
  have hA2 := HA0.out.below hb2
  have hB2 := HB0.out.trans (hb2.mono HB0.out.size)
  have hrow := hO.row
  rw [HS0.out] at hrow
  obtain ⟨B, cB, rfl, hrow⟩ := hrow
  have HRow := hid hrow
  have HA2 := hid hA2
  have HF := hid hF
  have hM2 := hA2.hi
  generalize w1.heap.size = M at hM HRow HA2 hM2 ⊢
  clear hA2 hF hO hb2 hrow HA0 HB0 HS0
  generalize hm : R.length = m at hR36 HRow ⊢
  have HM := hid hm
  clear hm
  go_wp2_with fail
  go_loopw [23] (fun x wr => ∃ (j : Nat) (v : Value), j ≤ m ∧ x = .int .i64 j ∧ Hid (ApM wr M (addL [] (R.take j)) 0 v) ∧ Hid (KeepQ w2 wr M (M + 2) (.slice none 0 0) v)) (fun x _ => m - (intOf x).toNat)
  case atStart => exact ⟨0, _, by omega, rfl, HA2, hid (KeepQ.refl _ _ _ _)⟩
  case round =>
    clear HA2
    obtain ⟨j, v, hjm, rfl, HA, HQ⟩ := hrel
    by_cases hlt : j < m
    · obtain ⟨g, rfl, hg1, hg2, hgc⟩ := HRow.out (by omega)
      have hjR : j < R.length := by rw [HM.out]; exact hlt
      have c1 := (HQ.out.cell hg2 (by omega) (by omega) (by simp [Value.ownBlock]) j).trans (hgc j hlt)
      have hx8 : (R.getD j ByteArray.empty).size ≤ 8 := fol_size HF.out H8.out _ (by rw [List.getD_eq_getElem?_getD, List.getElem?_eq_getElem hjR]; exact List.getElem_mem hjR)
      have hln : (addL [] (R.take j)).length ≤ 1000 := Nat.le_trans (addL_len _ _) (by rw [List.length_take, List.length_nil]; omega)
      have HAd := hid (add_any (R.getD j ByteArray.empty) M 0 _ v wr hx8 hln HA.out)
      rw [← addL_take [] hjR] at HAd
      have j1 : (j : Int) < (m : Int) := by omega
      generalize R.getD j ByteArray.empty = X at c1 HAd
      clear hgc hjR hx8 hln HA
      go_wp2_with fail
      refine HAd.out.mono ?_
      rintro e w5 ⟨rfl, v', hA5, hQ5⟩
      have HA5 := hid hA5
      have HQ5 := hid (HQ.out.trans hQ5)
      clear hA5 hQ5 HAd HQ c1
      go_wp2_with fail
      go_roundw
      case rel => exact ⟨j + 1, v', by omega, by go_num, HA5, HQ5⟩
      case measure => simp [intOf]; omega
    · obtain rfl : j = m := by omega
      have hA := HA.out
      rw [List.take_of_length_le (by rw [HM.out]; exact Nat.le_refl _)] at hA
      have hAp := ap_start HF.out
      have hbR : Below w.heap.size w wr := hB2.trans (HQ.out.below hB2.size hM (by omega) (fun b hb => by cases hb))
      have HS1 : Hid (∃ (l : List ByteArray) (p : Nat) (v : Value), 55 ≤ 55 + p ∧ Ap (wl ws) l p ∧ ApM wr M l p v) := hid ⟨_, 0, v, by omega, hAp, hA⟩
      clear hA hAp HA HQ HRow HF HM hB2 hjm hlt hR36
      go_wp2_with fail
      go_loopg [10] 55 (fun k _ wr => Hid (∃ (l : List ByteArray) (p : Nat) (v : Value), 55 ≤ k + p ∧ Ap (wl ws) l p ∧ ApM wr M l p v) ∧ Below w.heap.size w wr)
      case atStart => exact ⟨HS1, hbR⟩
      case round =>
        clear HS1 hbR
        obtain ⟨HS, hb⟩ := hrel
        obtain ⟨l, p, v, hk, hAp, hA⟩ := HS.out
        have h54 := ap_few hAp H6.out H8.out
        have HAp := hid hAp
        have HA := hid hA
        have cS := hA.sb.cell
        have cV := hA.vb.cell
        have fV := hA.vb.frozen
        obtain ⟨D, hmD, hD⟩ := hA.mp
        have hat := hD.2 ⟨#[]⟩
        have hple := hA.ple
        have hmN : l.length ≤ 54 := h54
        clear HS hAp hA hD
        by_cases hp : p < l.length
        rotate_left
        · obtain rfl : p = l.length := by omega
          have hsh := HA.out.q
          rw [List.drop_length] at hsh
          obtain ⟨Aq, cq, rfl⟩ := hsh.shape
          rw [List.length_nil] at cV
          clear HA hsh fV hp hple hk
          cases hc : tIn ⟨#[]⟩ l with
          | false =>
            rw [hc] at hat
            have HU : Hid (UD (wl ws)) := hid (ap_end HAp.out HOk.out (fun hm => by
              have := tIn_iff.2 hm
              rw [show txt [] = ⟨#[]⟩ from rfl, hc] at this
              cases this))
            clear hc HAp
            have hlook := look_bool hmD str_keyed Tryd.underlying51 Tryd.underlying4 (zero_bool _) hkey hat
            clear hmD
            go_wp2_with fail
            go_ret2
            exact ⟨true, ⟨fun _ => HU.out, fun _ => rfl⟩, rfl, hb⟩
          | true =>
            rw [hc] at hat
            have HU : Hid (¬ UD (wl ws)) := hid (ap_void HAp.out (tIn_iff.1 hc) rfl)
            clear hc HAp
            have hlook := look_bool hmD str_keyed Tryd.underlying51 Tryd.underlying4 (zero_bool _) hkey hat
            clear hmD
            go_wp2_with fail
            go_ret2
            exact ⟨false, ⟨fun h => (by cases h), fun h => absurd h HU.out⟩, rfl, hb⟩
        · have hq := HA.out.q
          rw [drop_cons hp] at hq
          obtain ⟨g, off, cq, rfl, hcq, c1, hqt⟩ := hq.head
          have HQt := hid hqt
          have hdl : (l.drop (p + 1)).length = l.length - (p + 1) := List.length_drop
          rw [hdl] at cV HQt
          obtain ⟨q, hqe⟩ : ∃ q, q = l.length - (p + 1) := ⟨_, rfl⟩
          rw [← hqe] at cV HQt
          have hq1 : (0 : Int) < ((q + 1 : Nat) : Int) := by omega
          have hrun0 := fun W => run_at0s W g off (q + 1) cq (by omega)
          have hrun1 := fun W => run_rest1 W g off q cq
          clear hq hqt hdl hqe
          have hgl := (HQt.out.lt (b := g) rfl).2
          have hgl1 := (HQt.out.lt (b := g) rfl).1
          have hhw := HA.out.hi
          generalize (if cq = 1 then off else off + 1) = off2 at HQt hrun1
          generalize cq - 1 = c2 at HQt hrun1
          cases hc : tIn ⟨#[]⟩ l with
          | true =>
            rw [hc] at hat
            have HU : Hid (¬ UD (wl ws)) := hid (ap_void HAp.out (tIn_iff.1 hc) rfl)
            clear hc HAp HA HQt
            have hlook := look_bool hmD str_keyed Tryd.underlying51 Tryd.underlying4 (zero_bool _) hkey hat
            clear hmD
            go_wp2_with fail
            go_ret2
            exact ⟨false, ⟨fun h => (by cases h), fun h => absurd h HU.out⟩, rfl, hb⟩
          | false =>
            rw [hc] at hat
            have hA2 := HA.out.step hp HQt.out
            have hB2 : Below w.heap.size w (wr.setCell ⟨M + 2, 0, none⟩ (.slice (some ⟨g, off2, none⟩) q c2)) := hb.setCell (by show w.heap.size ≤ M + 2; omega) _
            have ha8 : (l.getD p ByteArray.empty).size ≤ 8 := ap_size HAp.out H8.out _ (by rw [List.getD_eq_getElem?_getD, List.getElem?_eq_getElem hp]; exact List.getElem_mem hp)
            have HK1 := HK _ hB2 _ ha8
            have HAs : Hid (∀ F, Cnt (wl ws) (l.getD p ByteArray.empty) F (wl ws).length → Ap (wl ws) (addL l F) (p + 1) ∧ ∀ r ∈ F, r.size ≤ 8) := hid (fun F hF => ⟨ap_step HAp.out hp hF, cnt_size hF H8.out ha8⟩)
            have HA2 := hid hA2
            have HB2 := hid hB2
            have HSz : Hid (wr.heap.size = (wr.setCell ⟨M + 2, 0, none⟩ (.slice (some ⟨g, off2, none⟩) q c2)).heap.size) := hid (by simp)
            generalize l.getD p ByteArray.empty = a at c1 HK1 HAs
            clear hc hA2 hB2 ha8 HAp HA HQt
            have hlook := look_bool hmD str_keyed Tryd.underlying51 Tryd.underlying4 (zero_bool _) hkey hat
            clear hmD
            go_wp2_with fail
            refine HK1.out.mono ?_
            rintro e w4 ⟨vr, F, rfl, hC, hF6, hO, hb4⟩
            have HA4 := hid (HA2.out.below hb4)
            have HB4 := hid (HB2.out.trans (hb4.mono HB2.out.size))
            have HAs2 := hid (HAs.out F hC)
            have hrow := hO.row
            rw [← HSz.out] at hrow
            obtain ⟨B, cB, rfl, hrow⟩ := hrow
            have HRow := hid hrow
            generalize hm : F.length = m at hF6 HRow ⊢
            have HM := hid hm
            clear hm hrow hO hC hb4 HK1 HA2 HB2 HSz HAs cS cV fV hat hlook hrun0 hrun1 c1
            go_wp2_with fail
            go_loopw [48] (fun x wr => ∃ (j : Nat) (v : Value), j ≤ m ∧ x = .int .i64 j ∧ Hid (ApM wr M (addL l (F.take j)) (p + 1) v) ∧ Hid (KeepQ w4 wr M (M + 2) (.slice (some ⟨g, off2, none⟩) q c2) v)) (fun x _ => m - (intOf x).toNat)
            case atStart => exact ⟨0, _, by omega, rfl, HA4, hid (KeepQ.refl _ _ _ _)⟩
            case round =>
              have hhi := HA4.out.hi
              clear HA4
              obtain ⟨j, v, hjm, rfl, HA, HQ⟩ := hrel
              by_cases hlt : j < m
              · obtain ⟨g2, rfl, hg1, hg2, hgc⟩ := HRow.out (by omega)
                have hjF : j < F.length := by rw [HM.out]; exact hlt
                have hgw := hgl
                have c1 := (HQ.out.cell hg2 (by omega) (by omega) (by simp only [Value.ownBlock]; intro e; injection e with e; omega) j).trans (hgc j hlt)
                have hx8 : (F.getD j ByteArray.empty).size ≤ 8 := HAs2.out.2 _ (by rw [List.getD_eq_getElem?_getD, List.getElem?_eq_getElem hjF]; exact List.getElem_mem hjF)
                have hln : (addL l (F.take j)).length ≤ 1000 := Nat.le_trans (addL_len _ _) (by rw [List.length_take]; omega)
                have HAd := hid (add_any (F.getD j ByteArray.empty) M (p + 1) _ v wr hx8 hln HA.out)
                rw [← addL_take l hjF] at HAd
                have j1 : (j : Int) < (m : Int) := by omega
                generalize F.getD j ByteArray.empty = X at c1 HAd
                clear hgc hjF hx8 hln HA
                go_wp2_with fail
                refine HAd.out.mono ?_
                rintro e w5 ⟨rfl, v', hA5, hQ5⟩
                have HA5 := hid hA5
                have HQ5 := hid (HQ.out.trans hQ5)
                clear hA5 hQ5 HAd HQ c1
                go_wp2_with fail
                go_roundw
                case rel => exact ⟨j + 1, v', by omega, by go_num, HA5, HQ5⟩
                case measure => simp [intOf]; omega
              · obtain rfl : j = m := by omega
                have hA := HA.out
                rw [List.take_of_length_le (by rw [HM.out]; exact Nat.le_refl _)] at hA
                have hbR : Below w.heap.size w wr := HB4.out.trans (HQ.out.below HB4.out.size hM (by omega) (fun b hb' => by
                  have : g = b := by simpa [Value.ownBlock] using hb'
                  omega))
                have HS1 : Hid (∃ (l : List ByteArray) (p : Nat) (v : Value), 55 ≤ gk - 1 + p ∧ Ap (wl ws) l p ∧ ApM wr M l p v) := hid ⟨_, p + 1, v, by omega, HAs2.out.1, hA⟩
                have hgk : gk - 1 < gk := by omega
                clear hA HA HQ HRow HM HAs2 HB4
                go_wp2_with fail
                go_roundg (gk - 1)
                case measure => exact hgk
                case rel => exact ⟨HS1, hbR⟩
end Go.Proofs.YtlfncplldppncaaDoor

/-
  Contract of letterbecksame.Texts where two lists of texts are the same: it says yes, and changes nothing. Conditions: at most a thousand texts.
-/
namespace Go.Proofs.YtlfncplldppncaaDoor
open Go.RowKit

set_option maxHeartbeats 1000000 in
theorem texts_yes (A B : Option Addr) (n c d : Nat) (ws : List ByteArray) (w : World) (hn : n ≤ 1000) (ha : IsStrs w w.heap.size A n ws) (hb : IsStrs w w.heap.size B n ws) :
    Calls Tryd.prog 12 #[.slice A n c, .slice B n d] w fun e w' => e = .returned (.bool true) ∧ ∃ q, w' = w.drewN q := by
  have HA := hid ha
  have HB := hid hb
  clear ha hb
  go_enter Tryd.func12, Tryd.ntmps12
  go_wp2_with fail
  go_loopw [5] (fun x wr => ∃ i q : Nat, i ≤ n ∧ x = .int .i64 i ∧ wr = w.drewN q) (fun x _ => n - (intOf x).toNat)
  case atStart => exact ⟨0, 0, by omega, rfl, rfl⟩
  case round =>
    obtain ⟨i, q, hin, rfl, hwr⟩ := hrel
    subst wr
    by_cases hlt : i < n
    · obtain ⟨g, off, rfl, _, hc⟩ := HA.out.2 (by omega)
      obtain ⟨g', off', rfl, _, hc'⟩ := HB.out.2 (by omega)
      have c1 : w.cell? ⟨g, off + i, none⟩ = some (.string (wat ws i)) := hc i hlt
      have c2 : w.cell? ⟨g', off' + i, none⟩ = some (.string (wat ws i)) := hc' i hlt
      have i1 : (i : Int) < (n : Int) := by omega
      generalize wat ws i = X at c1 c2
      have hq := same_yes (rfl : X = X)
      clear hc hc'
      go_wp2_with fail
      go_quiet (fail)
      go_wp2_with fail
      go_roundw
      case rel => exact ⟨i + 1, _, by omega, by go_num, by first | rfl | exact World.drewN_drewN _ _ _⟩
      case measure => simp [intOf]; omega
    · obtain rfl : i = n := by omega
      go_wp2_with fail
      go_ret
      exact ⟨rfl, _, rfl⟩
end Go.Proofs.YtlfncplldppncaaDoor

/-
  Lists of words that a law writes out: as they lie in memory, and that they are as they should be. No condition.
-/
namespace Go.Proofs.YtlfncplldppncaaDoor
open Go.RowKit

/-- A list of words literally, as it has just been laid. -/
theorem strs_lit (w : World) (ws : List ByteArray) (n : Nat) (cs : Array Value) (e : TypeId) (h : cs = (ws.map Value.string).toArray) (hn : ws.length = n) :
    IsStrs (w.alloc (.cells cs e)) (w.alloc (.cells cs e)).heap.size (some ⟨w.heap.size, 0, none⟩) n ws := by
  subst hn
  have := IsStrs.lit w ws cs e h
  rwa [show w.heap.size + 1 = (w.alloc (.cells cs e)).heap.size by simp] at this

theorem fine2 (a b : ByteArray) (h1 : a.size ≤ 8 ∧ 0 < a.size) (h2 : b.size ≤ 8 ∧ 0 < b.size) (h : a ≠ b) : Fine [a, b] := by
  refine ⟨by simp, fun j hj => ?_⟩
  have : j = 0 ∨ j = 1 := by simp at hj; omega
  rcases this with rfl | rfl
  · exact ⟨h1.1, h1.2, fun m hm => by omega⟩
  · refine ⟨h2.1, h2.2, fun m hm => ?_⟩
    obtain rfl : m = 0 := by omega
    exact h
theorem fine3 (a b c : ByteArray) (h1 : a.size ≤ 8 ∧ 0 < a.size) (h2 : b.size ≤ 8 ∧ 0 < b.size) (h3 : c.size ≤ 8 ∧ 0 < c.size) (h : a ≠ b) (h' : a ≠ c) (h'' : b ≠ c) : Fine [a, b, c] := by
  refine ⟨by simp, fun j hj => ?_⟩
  have : j = 0 ∨ j = 1 ∨ j = 2 := by simp at hj; omega
  rcases this with rfl | rfl | rfl
  · exact ⟨h1.1, h1.2, fun m hm => by omega⟩
  · refine ⟨h2.1, h2.2, fun m hm => ?_⟩
    obtain rfl : m = 0 := by omega
    exact h
  · refine ⟨h3.1, h3.2, fun m hm => ?_⟩
    have : m = 0 ∨ m = 1 := by omega
    rcases this with rfl | rfl
    · exact h'
    · exact h''
end Go.Proofs.YtlfncplldppncaaDoor

/-
  The closed fact of the laws on codes: kraftFact returns true. No condition.
-/
namespace Go.Proofs.YtlfncplldppncaaDoor
open Go.RowKit

/-- Does a list have all that the search begins with, and what comes of each? -/
def shutB (W A : List (List UInt8)) : Bool :=
  ((List.range W.length).all fun i => (List.range W.length).all fun k => i == k || !((W.getD k []).isPrefixOf (W.getD i [])) || A.contains ((W.getD i []).drop (W.getD k []).length)) &&
  (A.all fun a => (List.range W.length).all fun i => (!(a.isPrefixOf (W.getD i [])) || A.contains ((W.getD i []).drop a.length)) && (!((W.getD i []).isPrefixOf a) || A.contains (a.drop (W.getD i []).length)))
theorem ud_check {W A : List (List UInt8)} (hw : Okw W) (h : shutB W A = true) (h0 : [] ∉ A) : UD W := by
  refine (ud_iff hw).2 fun hd => h0 (dang_in (A := A) ?_ ?_ hd)
  · intro i k s hi hk hne e
    have h1 := (Bool.and_eq_true_iff.1 h).1
    have h2 := List.all_eq_true.1 (List.all_eq_true.1 h1 i (List.mem_range.2 hi)) k (List.mem_range.2 hk)
    rw [e, List.drop_left, List.isPrefixOf_iff_prefix.2 (List.prefix_append _ _)] at h2
    have : (i == k) = false := by simpa using hne
    rw [this] at h2
    simpa using h2
  · intro a ha i r hi hr
    have h1 := (Bool.and_eq_true_iff.1 h).2
    have h2 := List.all_eq_true.1 (List.all_eq_true.1 h1 a ha) i (List.mem_range.2 hi)
    obtain ⟨h3, h4⟩ := Bool.and_eq_true_iff.1 h2
    rcases hr with e | e
    · rw [e, List.drop_left, List.isPrefixOf_iff_prefix.2 (List.prefix_append _ _)] at h3
      simpa using h3
    · rw [e, List.drop_left, List.isPrefixOf_iff_prefix.2 (List.prefix_append _ _)] at h4
      simpa using h4
theorem lenOk_lit : LenOk [2, 1, 2] := by
  intro j hj
  have : j = 0 ∨ j = 1 ∨ j = 2 := by simp at hj; omega
  rcases this with rfl | rfl | rfl <;> decide
theorem codes_lit : codeT [2, 1, 2] = [⟨#[49, 48]⟩, ⟨#[48]⟩, ⟨#[49, 49]⟩] := by
  have : codesL [2, 1, 2] = [[49, 48], [48], [49, 49]] := by decide +kernel
  unfold codeT
  rw [this]
  rfl
theorem ok_of_fine {ws : List ByteArray} (h : Fine ws) : Okw (wl ws) := by
  have h1 := fine_wl h
  exact ⟨h1.1, fun x hx e => by have := (h1.2 x hx).2; rw [e] at this; simp at this⟩
theorem fine_lit1 : Fine [⟨#[48]⟩, ⟨#[48, 49]⟩, ⟨#[49, 49]⟩] := fine3 _ _ _ (by decide) (by decide) (by decide) (by decide) (by decide) (by decide)
theorem fine_lit2 : Fine [⟨#[48]⟩, ⟨#[48, 49]⟩, ⟨#[49, 48]⟩] := fine3 _ _ _ (by decide) (by decide) (by decide) (by decide) (by decide) (by decide)
theorem ud_lit1 : UD (wl [⟨#[48]⟩, ⟨#[48, 49]⟩, ⟨#[49, 49]⟩]) := ud_check (A := [[49]]) (ok_of_fine fine_lit1) (by decide +kernel) (by decide)
theorem ud_lit2 : ¬ UD (wl [⟨#[48]⟩, ⟨#[48, 49]⟩, ⟨#[49, 48]⟩]) := fun h => by
  have := h [0, 2] [1, 0] (fun i hi => by simp at hi; rcases hi with rfl | rfl <;> decide) (fun i hi => by simp at hi; rcases hi with rfl | rfl <;> decide) (by decide +kernel)
  exact absurd this (by decide)
theorem num_lit (w : World) : IsInts (w.alloc (.cells #[.int .i64 2, .int .i64 1, .int .i64 2] 3)) (w.alloc (.cells #[.int .i64 2, .int .i64 1, .int .i64 2] 3)).heap.size (some ⟨w.heap.size, 0, none⟩) 3 (nums [2, 1, 2]) :=
  (IsInts.lit w [2, 1, 2] #[.int .i64 2, .int .i64 1, .int .i64 2] 3 rfl).keep (by simp) fun _ _ _ => rfl

set_option maxRecDepth 100000 in
set_option maxHeartbeats 2000000 in
theorem kfact_any (w : World) : Calls Tryd.prog 18 #[] w fun e w' => e = .returned (.bool true) ∧ Below w.heap.size w w' := by
  have H1 := hid (kcodes_ok _ 3 3 [2, 1, 2] _ (num_lit w) (by omega) lenOk_lit (by decide))
  have hb0 : Below w.heap.size w (w.alloc (.cells #[.int .i64 2, .int .i64 1, .int .i64 2] 3)) := (Below.refl _ _).alloc (Nat.le_refl _) _
  rw [codes_lit] at H1
  go_enter Tryd.func18, Tryd.ntmps18
  go_wp2_with fail
  refine H1.out.mono ?_
  rintro e w1 ⟨A1, c1, rfl, hI1, hb1⟩
  have hbA := hb0.trans (hb1.mono hb0.size)
  have HI1 := hid hI1
  have H2 := hid (kapart_ok _ 3 3 _ _ fine_lit1 (strs_lit w1 [⟨#[48]⟩, ⟨#[48, 49]⟩, ⟨#[49, 49]⟩] 3 #[.string ⟨#[48]⟩, .string ⟨#[48, 49]⟩, .string ⟨#[49, 49]⟩] 9 rfl rfl))
  have hb2 : Below w1.heap.size w1 (w1.alloc (.cells #[.string ⟨#[48]⟩, .string ⟨#[48, 49]⟩, .string ⟨#[49, 49]⟩] 9)) := (Below.refl _ _).alloc (Nat.le_refl _) _
  clear hI1 H1 hb1 hb0
  go_wp2_with fail
  refine H2.out.mono ?_
  rintro e w2 ⟨b, hb, rfl, hb3⟩
  obtain rfl : b = true := hb.2 ud_lit1
  have hbB := hb2.trans (hb3.mono hb2.size)
  have hbC := hbA.trans (hbB.mono hbA.size)
  have HI2 := hid (HI1.out.below hbB |>.mono hbB.size)
  have H3 := hid (kapart_ok _ 3 3 _ _ fine_lit2 (strs_lit w2 [⟨#[48]⟩, ⟨#[48, 49]⟩, ⟨#[49, 48]⟩] 3 #[.string ⟨#[48]⟩, .string ⟨#[48, 49]⟩, .string ⟨#[49, 48]⟩] 9 rfl rfl))
  have hb4 : Below w2.heap.size w2 (w2.alloc (.cells #[.string ⟨#[48]⟩, .string ⟨#[48, 49]⟩, .string ⟨#[49, 48]⟩] 9)) := (Below.refl _ _).alloc (Nat.le_refl _) _
  clear HI1 H2 hb2 hb3 hbA hbB hb
  go_wp2_with fail
  refine H3.out.mono ?_
  rintro e w3 ⟨b, hb, rfl, hb5⟩
  obtain rfl : b = false := by
    cases b with
    | false => rfl
    | true => exact absurd (hb.1 rfl) ud_lit2
  have hbD := hb4.trans (hb5.mono hb4.size)
  have hbE := hbC.trans (hbD.mono hbC.size)
  have hI3 := HI2.out.below hbD |>.mono hbD.size
  have hb6 : Below w3.heap.size w3 (w3.alloc (.cells #[.string ⟨#[49, 48]⟩, .string ⟨#[48]⟩, .string ⟨#[49, 49]⟩] 9)) := (Below.refl _ _).alloc (Nat.le_refl _) _
  have H4 := hid (texts_yes A1 _ 3 c1 3 _ _ (by omega) ((hI3.below hb6).mono hb6.size) (strs_lit w3 [⟨#[49, 48]⟩, ⟨#[48]⟩, ⟨#[49, 49]⟩] 3 #[.string ⟨#[49, 48]⟩, .string ⟨#[48]⟩, .string ⟨#[49, 49]⟩] 9 rfl rfl))
  have hbF := hbE.trans (hb6.mono hbE.size)
  clear HI2 H3 hb4 hb5 hbC hbD hb hI3 hb6 hbE
  go_wp2_with fail
  refine H4.out.mono ?_
  rintro e w4 ⟨rfl, q, hw4⟩
  have hbG : Below w.heap.size w w4 := by rw [hw4]; exact below_drewN hbF q
  clear hw4 H4 hbF
  go_wp2_with fail
  go_ret
  exact ⟨rfl, hbG⟩
end Go.Proofs.YtlfncplldppncaaDoor

/-
  Plain mathematics of occurrences, without a program: where a word stands in a text, the longest beginning of it that a text ends with, places that are near, texts and words that are joined. No condition.
-/
namespace Go.Proofs.YtlfncplldppncaaDoor

/-- The word g (m signs) stands at place i of the text f (n signs). -/
def Oc (f g : Nat → UInt8) (n m i : Nat) : Prop := i + m ≤ n ∧ ∀ j, j < m → g j = f (i + j)
def ocB (f g : Nat → UInt8) (n m i : Nat) : Bool := decide (i + m ≤ n) && (List.range m).all fun j => g j == f (i + j)
theorem ocB_iff {f g : Nat → UInt8} {n m i : Nat} : ocB f g n m i = true ↔ Oc f g n m i := by simp [ocB, Oc]
theorem ocB_no {f g : Nat → UInt8} {n m i : Nat} (h : ¬ Oc f g n m i) : ocB f g n m i = false := by rw [← Bool.not_eq_true, ocB_iff]; exact h
/-- All places below k. -/
def occN (f g : Nat → UInt8) (n m k : Nat) : List Nat := (List.range k).filter fun i => ocB f g n m i
def occTo (f g : Nat → UInt8) (n m k : Nat) : List Int := (occN f g n m k).map fun i => ((i : Nat) : Int)
/-- What 'All' answers. -/
def occL (t u : ByteArray) : List Int := occTo (sg t) (sg u) t.size u.size t.size

theorem occTo_zero (f g : Nat → UInt8) (n m : Nat) : occTo f g n m 0 = [] := rfl
theorem occTo_yes {f g : Nat → UInt8} {n m k : Nat} (h : Oc f g n m k) : occTo f g n m (k + 1) = occTo f g n m k ++ [(k : Int)] := by
  simp [occTo, occN, List.range_succ, ocB_iff.2 h]
theorem occTo_no {f g : Nat → UInt8} {n m k : Nat} (h : ¬ Oc f g n m k) : occTo f g n m (k + 1) = occTo f g n m k := by
  simp [occTo, occN, List.range_succ, ocB_no h]
theorem occTo_len (f g : Nat → UInt8) (n m k : Nat) : (occTo f g n m k).length ≤ k := by
  have := List.length_filter_le (fun i => ocB f g n m i) (List.range k)
  simpa [occTo, occN] using this
theorem occL_len (t u : ByteArray) : (occL t u).length ≤ t.size := occTo_len _ _ _ _ _
theorem occTo_end {f g : Nat → UInt8} {n m : Nat} (h : 0 < m) : occTo f g n m (n + 1 - m) = occTo f g n m n := by
  unfold occTo occN
  rw [filter_range_stop _ (n + 1 - m) n (by omega)]
  intro k h1 h2
  exact ocB_no fun ho => by have := ho.1; omega

/-- The text's first i signs end with the word's first k. -/
def Sf (f g : Nat → UInt8) (i k : Nat) : Prop := k ≤ i ∧ ∀ j, j < k → g j = f (i - k + j)
/-- l: the most of the word's m signs that the text's first i signs end with. -/
def Mat (f g : Nat → UInt8) (m i l : Nat) : Prop := l ≤ m ∧ Sf f g i l ∧ ∀ k, k ≤ m → Sf f g i k → k ≤ l
/-- The search's state at the sign i. -/
def Ex (f g : Nat → UInt8) (m i l : Nat) : Prop := l ≤ m ∧ Sf f g i l ∧ ∀ k, k ≤ m → Sf f g (i + 1) k → k ≤ l + 1
theorem sf_pred {f g : Nat → UInt8} {i k : Nat} (h : Sf f g (i + 1) (k + 1)) : Sf f g i k := by
  have h1 := h.1
  refine ⟨by omega, fun j hj => ?_⟩
  rw [h.2 j (by omega)]; congr 1; omega
theorem sf_last {f g : Nat → UInt8} {i k : Nat} (h : Sf f g (i + 1) (k + 1)) : g k = f i := by
  have h1 := h.1
  rw [h.2 k (by omega)]; congr 1; omega
theorem sf_succ {f g : Nat → UInt8} {i k : Nat} (h : Sf f g i k) (e : g k = f i) : Sf f g (i + 1) (k + 1) := by
  have h1 := h.1
  refine ⟨by omega, fun j hj => ?_⟩
  by_cases hjk : j = k
  · subst hjk; rw [e]; congr 1; omega
  · rw [h.2 j (by omega)]; congr 1; omega
theorem sf_bd {f g : Nat → UInt8} {i l k : Nat} (h : Sf f g i l) (hb : Bd g l k) : Sf f g i k := by
  have h1 := h.1; have h2 := hb.1
  refine ⟨by omega, fun j hj => ?_⟩
  rw [hb.2 j hj, h.2 _ (by omega)]; congr 1; omega
theorem sf_nest {f g : Nat → UInt8} {i l k : Nat} (h : Sf f g i l) (h' : Sf f g i k) (hlt : k < l) : Bd g l k := by
  have h1 := h.1; have h2 := h'.1
  refine ⟨hlt, fun j hj => ?_⟩
  rw [h'.2 j hj, h.2 _ (by omega)]; congr 1; omega
theorem sf_zero {f g : Nat → UInt8} (i : Nat) : Sf f g i 0 := ⟨by omega, fun j hj => absurd hj (by omega)⟩
theorem ex_start {f g : Nat → UInt8} {m i l : Nat} (h : Mat f g m i l) : Ex f g m i l := by
  refine ⟨h.1, h.2.1, fun k hk hs => ?_⟩
  rcases k with _ | k
  · omega
  · have := h.2.2 k (by omega) (sf_pred hs); omega
theorem ex_step {f g : Nat → UInt8} {m i l : Nat} (h : Ex f g m i l) (h0 : 0 < l) (hne : l = m ∨ g l ≠ f i) : Ex f g m i (lon g l) := by
  have hlt := lon_lt (f := g) h0
  refine ⟨by have := h.1; omega, sf_bd h.2.1 (lon_bd h0), fun k hk hs => ?_⟩
  rcases k with _ | k
  · omega
  · have h1 := h.2.2 _ hk hs
    have h2 : k ≠ l := by
      rintro rfl
      rcases hne with e | e
      · omega
      · exact e (sf_last hs)
    have := lon_max (sf_nest h.2.1 (sf_pred hs) (by omega))
    omega
theorem ex_hit {f g : Nat → UInt8} {m i l : Nat} (h : Ex f g m i l) (hl : l < m) (e : g l = f i) : Mat f g m (i + 1) (l + 1) :=
  ⟨by omega, sf_succ h.2.1 e, h.2.2⟩
theorem ex_miss {f g : Nat → UInt8} {m i : Nat} (h : Ex f g m i 0) (hne : g 0 ≠ f i) : Mat f g m (i + 1) 0 := by
  refine ⟨by omega, sf_zero _, fun k hk hs => ?_⟩
  have h1 := h.2.2 k hk hs
  rcases k with _ | k
  · omega
  · have : k = 0 := by omega
    subst this
    exact absurd (sf_last hs) hne
theorem mat_start (f g : Nat → UInt8) (m : Nat) : Mat f g m 0 0 := ⟨by omega, sf_zero _, fun k _ hs => hs.1⟩
theorem mat_full {f g : Nat → UInt8} {n m i : Nat} (h : Mat f g m i m) (hi : i ≤ n) : m ≤ i ∧ Oc f g n m (i - m) := by
  have h1 := h.2.1.1
  exact ⟨h1, by omega, h.2.1.2⟩
theorem mat_part {f g : Nat → UInt8} {n m i l : Nat} (h : Mat f g m i l) (hl : l ≠ m) (hm : m ≤ i) : ¬ Oc f g n m (i - m) := by
  intro ho
  have := h.2.2 m (Nat.le_refl _) ⟨hm, ho.2⟩
  have := h.1
  omega

/-- The places told behind i signs of the text: one sign more. -/
theorem occ_hit {f g : Nat → UInt8} {n m i : Nat} (h : Mat f g m (i + 1) m) (hi : i < n) (_h0 : 0 < m) : occTo f g n m (i + 1 + 1 - m) = occTo f g n m (i + 1 - m) ++ [((i : Int) + 1 - m)] := by
  obtain ⟨h1, ho⟩ := mat_full (n := n) h hi
  rw [show i + 1 + 1 - m = i + 1 - m + 1 by omega, occTo_yes ho]
  congr 2; omega
theorem occ_miss {f g : Nat → UInt8} {n m i l : Nat} (h : Mat f g m (i + 1) l) (hl : l ≠ m) : occTo f g n m (i + 1 + 1 - m) = occTo f g n m (i + 1 - m) := by
  by_cases hm : m ≤ i + 1
  · rw [show i + 1 + 1 - m = i + 1 - m + 1 by omega, occTo_no (mat_part h hl hm)]
  · rw [show i + 1 + 1 - m = i + 1 - m by omega]

/-- Counting what lies apart: how many so far, and where the last one ended. -/
def apF (m : Int) (p : Int × Int) (x : Int) : Int × Int := if p.2 ≤ x then (p.1 + 1, x + m) else p
def apL (m : Int) (xs : List Int) : Int × Int := xs.foldl (apF m) (0, 0)
theorem apL_nil (m : Int) : apL m [] = (0, 0) := rfl
theorem apL_yes {m x : Int} {xs : List Int} (h : (apL m xs).2 ≤ x) : apL m (xs ++ [x]) = ((apL m xs).1 + 1, x + m) := by
  simp only [apL, List.foldl_append, List.foldl_cons, List.foldl_nil] at h ⊢
  simp [apF, h]
theorem apL_no {m x : Int} {xs : List Int} (h : ¬ (apL m xs).2 ≤ x) : apL m (xs ++ [x]) = apL m xs := by
  simp only [apL, List.foldl_append, List.foldl_cons, List.foldl_nil] at h ⊢
  simp [apF, h]
theorem apF_one (xs : List Int) : ∀ (c e : Int), (∀ x ∈ xs, e ≤ x) → xs.Pairwise (· < ·) → (xs.foldl (apF 1) (c, e)).1 = c + xs.length := by
  induction xs with
  | nil => intro c e _ _; simp
  | cons x xs ih =>
    intro c e he hp
    rw [List.pairwise_cons] at hp
    have hx := he x (by simp)
    rw [List.foldl_cons]
    have : apF 1 (c, e) x = (c + 1, x + 1) := by simp [apF, hx]
    rw [this, ih _ _ (fun y hy => by have := hp.1 y hy; omega) hp.2]
    simp; omega

theorem mem_occTo {f g : Nat → UInt8} {n m k : Nat} {x : Int} (h : x ∈ occTo f g n m k) : ∃ p : Nat, x = p ∧ p < k ∧ Oc f g n m p := by
  simp only [occTo, occN, List.mem_map, List.mem_filter, List.mem_range, ocB_iff] at h
  obtain ⟨p, ⟨h1, h2⟩, rfl⟩ := h
  exact ⟨p, rfl, h1, h2⟩
theorem occTo_rise (f g : Nat → UInt8) (n m k : Nat) : (occTo f g n m k).Pairwise (· < ·) := by
  unfold occTo occN
  rw [List.pairwise_map]
  exact ((List.pairwise_lt_range (n := k)).filter _).imp fun h => by omega
theorem getD_mem {xs : List Int} {i : Nat} (h : i < xs.length) : xs.getD i 0 ∈ xs := by
  simp [List.getD_eq_getElem?_getD, h]
theorem occ_at {t u : ByteArray} {i : Nat} (h : i < (occL t u).length) : ∃ p : Nat, (occL t u).getD i 0 = p ∧ p < t.size ∧ Oc (sg t) (sg u) t.size u.size p := mem_occTo (getD_mem h)
theorem occ_rise {t u : ByteArray} {i j : Nat} (h : j < (occL t u).length) (hij : i < j) : (occL t u).getD i 0 < (occL t u).getD j 0 := by
  have hp := occTo_rise (sg t) (sg u) t.size u.size t.size
  have := List.pairwise_iff_getElem.1 hp i j (by have : j < (occTo (sg t) (sg u) t.size u.size t.size).length := h; omega) h hij
  have h2 : i < (occL t u).length := by omega
  simp only [List.getD_eq_getElem?_getD, List.getElem?_eq_getElem h, List.getElem?_eq_getElem h2, Option.getD_some]
  exact this
theorem ap_one (t u : ByteArray) : (apL 1 (occL t u)).1 = (occL t u).length := by
  have := apF_one (occL t u) 0 0 (fun x hx => by obtain ⟨p, rfl, _⟩ := mem_occTo hx; omega) (occTo_rise _ _ _ _ _)
  rw [apL, this]; omega

/-- k is a period of m signs. -/
def Pd (g : Nat → UInt8) (m k : Nat) : Prop := ∀ i, k ≤ i → i < m → g i = g (i - k)
theorem near {f g : Nat → UInt8} {n m p q : Nat} (hp : Oc f g n m p) (hq : Oc f g n m q) (hlt : p < q) : Pd g m (q - p) := by
  intro i h1 h2
  rw [hp.2 i h2, hq.2 (i - (q - p)) (by omega)]
  congr 1; omega

/-- The places of one byte: of the first i signs. -/
theorem occTo_split {f g : Nat → UInt8} {n m i : Nat} (hi : i < n) (h : Oc f g n m i) : (occTo f g n m i).length < (occTo f g n m n).length ∧ (occTo f g n m n).getD (occTo f g n m i).length 0 = (i : Int) := by
  have e : occTo f g n m n = occTo f g n m i ++ ((i : Int) :: (((List.range (n - (i + 1))).map (i + 1 + ·)).filter fun i => ocB f g n m i).map fun i => ((i : Nat) : Int)) := by
    unfold occTo occN
    conv => lhs; rw [show n = i + 1 + (n - (i + 1)) by omega, List.range_add, List.range_succ]
    rw [show i + 1 + (n - (i + 1)) = n by omega]
    simp [ocB_iff.2 h]
  rw [e]
  constructor
  · simp
  · simp [List.getD_eq_getElem?_getD]
end Go.Proofs.YtlfncplldppncaaDoor

/-
  Contract of letterbeckref1.Begins: whether a text begins with another one. Conditions: texts of at most 2^40 bytes.
-/
namespace Go.Proofs.YtlfncplldppncaaDoor
open Go.RowKit

/-- Does s begin with t? -/
def begB (s t : ByteArray) : Bool := ocB (sg s) (sg t) s.size t.size 0
theorem beg_text (s t : ByteArray) (h : t.size ≤ s.size) : s.extract 0 t.size = t ↔ Oc (sg s) (sg t) s.size t.size 0 := by
  have h1 : (s.extract 0 t.size).size = t.size := by rw [ByteArray.size_extract]; omega
  constructor
  · intro e
    refine ⟨by omega, fun j hj => ?_⟩
    have : sg (s.extract 0 t.size) j = sg t j := by rw [e]
    rw [sg_cut s 0 t.size j h (by omega)] at this
    exact this.symm
  · intro ho
    refine text_eq _ _ h1 fun i hi => ?_
    rw [sg_cut s 0 t.size i h (by omega)]
    exact (ho.2 i (by omega)).symm
theorem beg_cut (s t : ByteArray) (i : Nat) (h : i ≤ s.size) : begB (s.extract i s.size) t = ocB (sg s) (sg t) s.size t.size i := by
  have e : (s.extract i s.size).size = s.size - i := by rw [ByteArray.size_extract]; omega
  unfold begB
  rw [Bool.eq_iff_iff, ocB_iff, ocB_iff, e]
  constructor
  · intro ho
    have h1 := ho.1
    refine ⟨by omega, fun j hj => ?_⟩
    rw [ho.2 j hj, sg_cut s i s.size _ (Nat.le_refl _) (by omega)]; congr 1; omega
  · intro ho
    have h1 := ho.1
    refine ⟨by omega, fun j hj => ?_⟩
    rw [ho.2 j hj, sg_cut s i s.size _ (Nat.le_refl _) (by omega)]; congr 1; omega

set_option maxHeartbeats 400000 in
theorem begins_any (s t : ByteArray) (w : World) (_hs : s.size ≤ 1099511627776) (ht : t.size ≤ 1099511627776) :
    Calls Tryd.prog 14 #[.string s, .string t] w fun e w' => e = .returned (.bool (begB s t)) ∧ w' = w := by
  by_cases h : t.size ≤ s.size
  · have hcut : ∀ W : World, Sem.run Tryd.prog (Instr.slice 9 (.string s) none (some (.int .i64 (t.size : Int))) none) W = .ok (.string (s.extract 0 t.size)) W := fun W =>
      run_slice_string_h W 9 s Tryd.underlying9 .i64 (t.size : Int) (by omega) (by omega)
    have hd : decide (t.size ≤ s.size) = true := by simpa using h
    by_cases e : s.extract 0 t.size = t
    · have HR : Hid (begB s t = true) := hid (ocB_iff.2 ((beg_text s t h).1 e))
      have hq := same_yes e
      clear e
      generalize s.extract 0 t.size = s1 at hcut hq
      go_enter Tryd.func14, Tryd.ntmps14
      go_wp2
      go_ret
      exact ⟨ret_bool HR.out.symm, rfl⟩
    · have HR : Hid (begB s t = false) := hid (ocB_no fun ho => e ((beg_text s t h).2 ho))
      have hq := same_no e
      clear e
      generalize s.extract 0 t.size = s1 at hcut hq
      go_enter Tryd.func14, Tryd.ntmps14
      go_wp2
      go_ret
      exact ⟨ret_bool HR.out.symm, rfl⟩
  · have HR : Hid (begB s t = false) := hid (ocB_no fun ho => by have := ho.1; omega)
    have hd : decide (t.size ≤ s.size) = false := by simpa using h
    go_enter Tryd.func14, Tryd.ntmps14
    go_wp2
    go_ret
    exact ⟨ret_bool HR.out.symm, rfl⟩
end Go.Proofs.YtlfncplldppncaaDoor

/-
  What letterbeckref1.Begins answers, in words of lists. No condition.
-/
namespace Go.Proofs.YtlfncplldppncaaDoor
open Go.RowKit

theorem sg_bs (s : ByteArray) (i : Nat) : sg s i = (bs s).getD i 0 := rfl
theorem begB_iff {s t : ByteArray} : begB s t = true ↔ bs t <+: bs s := by
  unfold begB
  rw [ocB_iff]
  constructor
  · rintro ⟨h1, h2⟩
    rw [List.prefix_iff_eq_take]
    apply List.ext_getElem?
    intro j
    rw [List.getElem?_take, bs_len]
    by_cases hj : j < t.size
    · have e := h2 j hj
      rw [sg_bs, sg_bs, Nat.zero_add, List.getD_eq_getElem?_getD, List.getD_eq_getElem?_getD, bs_get t j hj, bs_get s j (by omega)] at e
      rw [if_pos hj, bs_get t j hj, bs_get s j (by omega)]
      simpa using e
    · rw [if_neg hj, List.getElem?_eq_none (by rw [bs_len]; omega)]
  · intro h
    have hl := h.length_le
    rw [bs_len, bs_len] at hl
    obtain ⟨r, hr⟩ := h
    refine ⟨by omega, fun j hj => ?_⟩
    rw [sg_bs, sg_bs, Nat.zero_add, List.getD_eq_getElem?_getD, List.getD_eq_getElem?_getD, ← hr, List.getElem?_append_left (by rw [bs_len]; exact hj)]
theorem begB_no {s t : ByteArray} (h : ¬ bs t <+: bs s) : begB s t = false := by rw [← Bool.not_eq_true, begB_iff]; exact h
end Go.Proofs.YtlfncplldppncaaDoor

/-
  The walk of KraftCodes: it returns true at every list of numbers. Conditions: the row's own sizes; errors.errorType as the program's text lays it.
-/
namespace Go.Proofs.YtlfncplldppncaaDoor
open Go.RowKit

theorem lenC_or (ys : List Int) : ∃ k, LenC ys k := by
  by_cases h : ys.length ≤ 10
  · by_cases h1 : InL 1 12 ys
    · exact ⟨0, .inr (.inr ⟨h, h1, rfl⟩)⟩
    · exact ⟨1, .inr (.inl ⟨h, h1, rfl⟩)⟩
  · exact ⟨4, .inl ⟨by omega, rfl⟩⟩
theorem lenC_good {ys : List Int} (h : LenC ys 0) : ys.length ≤ 10 ∧ nums (ys.map Int.toNat) = ys ∧ LenOk (ys.map Int.toNat) := by
  rcases h with ⟨_, h⟩ | ⟨_, _, h⟩ | ⟨h1, h2, _⟩
  · cases h
  · cases h
  · refine ⟨h1, ?_, ?_⟩
    · apply List.ext_getElem?
      intro j
      by_cases hj : j < ys.length
      · have := h2 j hj
        rw [List.getD_eq_getElem?_getD, List.getElem?_eq_getElem hj, Option.getD_some] at this
        simp [nums, hj]
        omega
      · simp [nums, hj]
    · intro j hj
      rw [List.length_map] at hj
      have := h2 j hj
      rw [List.getD_eq_getElem?_getD, List.getElem?_eq_getElem hj, Option.getD_some] at this
      simp [hj]
      omega
theorem code_sign {E : List Nat} {i : Nat} {k : Nat} (hk : k < (txt (codeL E i)).size) : (txt (codeL E i))[k] = 48 ∨ (txt (codeL E i))[k] = 49 := by
  have h1 := bs_get (txt (codeL E i)) k hk
  have := bits_bin (E.getD i 0) (cvN E i) ((txt (codeL E i))[k]) (by
    have h2 := List.mem_of_getElem? h1
    rwa [bs_txt] at h2)
  exact this

set_option maxHeartbeats 4000000 in
set_option maxRecDepth 100000 in
theorem kraftCodes_any (A : Option Addr) (n c : Nat) (ys : List Int) (w : World) (hl : IsInts w w.heap.size A n ys) (hg : Laid w) :
    Calls Tryd.prog 4 #[.slice A n c] w fun e w' => e = .returned (.bool true) ∧ Below w.heap.size w w' := by
  have hp := hg.pos
  have HF := fun W => hid (kfact_any W)
  have HL := fun (w1 : World) (h1 : Below w.heap.size w w1) => hid ((hl.below h1).keep (w' := w1) h1.size fun _ _ _ => rfl)
  have hn := hl.1
  clear hl
  go_enter Tryd.func4, Tryd.ntmps4
  go_wp2_with fail
  refine (HF _).out.mono ?_
  rintro e w1 ⟨rfl, hb1⟩
  clear HF
  obtain ⟨k, hk⟩ := lenC_or ys
  by_cases hk0 : k = 0
  rotate_left
  · have HR := hid (kroom_bad A n c ys k w1 (HL w1 hb1).out hk hk0)
    clear hk hk0 HL hn
    go_wp2_with fail
    refine HR.out.mono ?_
    rintro e w2 ⟨rfl, hb2⟩
    have hbB := hb1.trans (hb2.mono hb1.size)
    clear hb1 hb2 HR
    go_wp2_with fail
    go_ret
    exact ⟨rfl, hbB⟩
  subst hk0
  obtain ⟨h10, hE, hok⟩ := lenC_good hk
  have hEl : (ys.map Int.toNat).length = n := by rw [List.length_map]; exact hn
  generalize ys.map Int.toNat = E at hE hok hEl
  subst hE
  rw [nums_len] at h10 hn
  have h10n : n ≤ 10 := by omega
  have HR := hid (kroom_ok A n c E w1 (HL w1 hb1).out h10n hok)
  have HEl := hid hEl
  have HOk := hid hok
  clear hk hEl hn h10 hok
  go_wp2_with fail
  refine HR.out.mono ?_
  rintro e w2 ⟨rfl, hb2⟩
  have hbB := hb1.trans (hb2.mono hb1.size)
  clear hb1 hb2 HR
  by_cases hr : rm 12 E ≤ 4096
  rotate_left
  · have HC := hid (kcodes_clash A n c E w2 (HL w2 hbB).out h10n HOk.out (by omega))
    have r1 : 4096 < ((rm 12 E : Nat) : Int) := by omega
    generalize rm 12 E = R at r1 ⊢
    have hg2 := fun (W : World) (hW : Below w.heap.size w W) => hg.below hp hW
    clear hr HL
    go_wp2_with fail
    refine HC.out.mono ?_
    rintro e w3 ⟨rfl, hb3⟩
    have hbC := hbB.trans (hb3.mono hbB.size)
    have hg3 := hg2 w3 hbC
    clear hb3 HC hbB hg2
    go_wp2_with fail
    refine (error_err 6 _ hg3).mono ?_
    rintro e w4 ⟨rfl, hb4⟩
    have hbD := hbC.trans (hb4.mono hbC.size)
    clear hb4 hbC hg3
    go_wp2_with fail
    go_ret
    exact ⟨rfl, hbD⟩
  have HC := hid (kcodes_ok A n c E w2 (HL w2 hbB).out h10n HOk.out hr)
  have HPf := hid (codes_pfree HOk.out hr)
  have r1 : ¬ (4096 < ((rm 12 E : Nat) : Int)) := by omega
  generalize rm 12 E = R at r1 ⊢
  clear hr
  go_wp2_with fail
  refine HC.out.mono ?_
  rintro e w3 ⟨B, cB, rfl, hIB, hb3⟩
  have hbC := hbB.trans (hb3.mono hbB.size)
  have HIB := hid hIB
  have HIA := hid (HL w3 hbC).out
  have HT : Hid (∀ i, i < n → wat (codeT E) i = txt (codeL E i) ∧ (txt (codeL E i)).size = E.getD i 0 ∧ E.getD i 0 ≤ 12) := hid (fun i hi => ⟨codeT_at (by rw [HEl.out]; exact hi), by rw [txt_size, codeL_len], (HOk.out i (by rw [HEl.out]; exact hi)).2⟩)
  have HNp : Hid (∀ i k, i < n → k < n → i ≠ k → begB (txt (codeL E i)) (txt (codeL E k)) = false) := hid (fun i k hi hk hne => begB_no (by
    rw [bs_txt, bs_txt]
    have := HPf.out i k (by rw [codesL_len, HEl.out]; exact hi) (by rw [codesL_len, HEl.out]; exact hk) hne
    rwa [codesL_at (by rw [HEl.out]; exact hk), codesL_at (by rw [HEl.out]; exact hi)] at this))
  clear hIB HC hb3 hbB HL
  go_wp2_with fail
  go_loopw [7] (fun x wr => ∃ (i q : Nat), i ≤ n ∧ x = .int .i64 i ∧ wr = w3.drewN q) (fun x _ => n - (intOf x).toNat)
  case atStart => exact ⟨0, 0, by omega, rfl, rfl⟩
  case round =>
    obtain ⟨i, q, hin, rfl, hwr⟩ := hrel
    subst wr
    by_cases hlt : i < n
    · obtain ⟨g, off, rfl, _, hc⟩ := HIA.out.2 (by omega)
      obtain ⟨g2, off2, rfl, _, hc2⟩ := HIB.out.2 (by omega)
      have HCb : Hid (∀ j, j < n → w3.cell? ⟨g2, off2 + j, none⟩ = some (.string (txt (codeL E j)))) := hid (fun j hj => by
        have h1 : w3.cell? ⟨g2, off2 + j, none⟩ = some (.string (wat (codeT E) j)) := hc2 j hj
        rw [(HT.out j hj).1] at h1
        exact h1)
      have c1 := hc i hlt
      rw [nums_at] at c1
      have c2 := HCb.out i hlt
      obtain ⟨_, hsz, h12⟩ := HT.out i hlt
      rw [← hsz] at c1 h12
      have HSg : Hid (∀ k (hk : k < (txt (codeL E i)).size), (txt (codeL E i))[k] = 48 ∨ (txt (codeL E i))[k] = 49) := hid (fun k hk => code_sign hk)
      have HBg : Hid (∀ k, k < n → i ≠ k → ∀ W, Calls Tryd.prog 14 #[.string (txt (codeL E i)), .string (txt (codeL E k))] W fun e w' => e = .returned (.bool false) ∧ w' = W) := hid (fun k hk hne W => by
        have h1 := begins_any (txt (codeL E i)) (txt (codeL E k)) W (by omega) (by have := HT.out k hk; omega)
        rwa [HNp.out i k hlt hk hne] at h1)
      generalize txt (codeL E i) = X at c1 c2 h12 HSg HBg
      have q1 : ((X.size : Int) != (X.size : Int)) = false := by simp
      have i1 : (i : Int) < (n : Int) := by omega
      clear hc hc2 hsz
      go_wp2_with fail
      go_quiet (fail)
      go_wp2_with fail
      go_loopw [8] (fun x wr => ∃ (k q : Nat), k ≤ X.size ∧ x = .int .i64 k ∧ wr = w3.drewN q) (fun x _ => X.size - (intOf x).toNat)
      case atStart => exact ⟨0, _, by omega, rfl, by first | rfl | exact World.drewN_drewN _ _ _⟩
      case round =>
        obtain ⟨k, q2, hkX, rfl, hwr⟩ := hrel
        subst wr
        by_cases hlk : k < X.size
        · have k1 : (k : Int) < (X.size : Int) := by omega
          rcases HSg.out k hlk with h48 | h49
          · have q3 : (((X[k]'hlk).toNat : Int) != 48) = false := by rw [h48]; rfl
            clear h48
            go_wp2_with fail
            go_roundw
            case rel => exact ⟨k + 1, q2, by omega, by go_num, by first | rfl | trivial⟩
            case measure => simp [intOf]; omega
          · have q3 : (((X[k]'hlk).toNat : Int) != 48) = true := by rw [h49]; rfl
            have q4 : (((X[k]'hlk).toNat : Int) != 49) = false := by rw [h49]; rfl
            clear h49
            go_wp2_with fail
            go_roundw
            case rel => exact ⟨k + 1, q2, by omega, by go_num, by first | rfl | trivial⟩
            case measure => simp [intOf]; omega
        · obtain rfl : k = X.size := by omega
          go_wp2_with fail
          go_loopw [9] (fun x wr => ∃ (k q : Nat), k ≤ n ∧ x = .int .i64 k ∧ wr = w3.drewN q) (fun x _ => n - (intOf x).toNat)
          case atStart => exact ⟨0, q2, by omega, rfl, rfl⟩
          case round =>
            obtain ⟨k, q5, hkn, rfl, hwr⟩ := hrel
            subst wr
            by_cases hlk2 : k < n
            · have k1 : (k : Int) < (n : Int) := by omega
              have c3 := HCb.out k hlk2
              by_cases hik : i = k
              · have hne : ((i : Int) != (k : Int)) = false := by simp [hik]
                clear hik
                go_wp2_with fail
                go_quiet (fail)
                go_wp2_with fail
                go_roundw
                case rel => exact ⟨k + 1, _, by omega, by go_num, by first | rfl | exact World.drewN_drewN _ _ _⟩
                case measure => simp [intOf]; omega
              · have hne : ((i : Int) != (k : Int)) = true := by simp; omega
                have HB := fun W => hid (HBg.out k hlk2 hik W)
                generalize txt (codeL E k) = X2 at c3 HB
                obtain ⟨wd, hwd⟩ : ∃ wd, wd = w3.drewN q5 := ⟨_, rfl⟩
                have c2' : wd.cell? ⟨g2, off2 + i, none⟩ = some (.string X) := by rw [hwd]; exact c2
                have c3' : wd.cell? ⟨g2, off2 + k, none⟩ = some (.string X2) := by rw [hwd]; exact c3
                rw [← hwd]
                have HWd := hid hwd
                clear hik hwd c2 c3
                go_wp2_with fail
                go_quiet ((go_at_call 14; exact Calls.quiet_of_same (HB _).out))
                go_wp2_with fail
                go_roundw
                case rel => exact ⟨k + 1, _, by omega, by go_num, by rw [HWd.out]; first | rfl | exact World.drewN_drewN _ _ _⟩
                case measure => simp [intOf]; omega
            · obtain rfl : k = n := by omega
              go_wp2_with fail
              go_roundw
              case rel => exact ⟨i + 1, q5, by omega, by go_num, by first | rfl | trivial⟩
              case measure => simp [intOf]; omega
    · obtain rfl : i = n := by omega
      go_wp2_with fail
      go_ret
      exact ⟨rfl, below_drewN hbC _⟩
end Go.Proofs.YtlfncplldppncaaDoor
