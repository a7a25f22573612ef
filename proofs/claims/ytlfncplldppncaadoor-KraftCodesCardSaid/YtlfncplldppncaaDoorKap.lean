/-
  Contracts of kraft.Apart: can each text be of words in at most one way, or the error that comes first. Conditions: the sizes that a row itself sets.
-/
import Derived.Test.YtlfncplldppncaaDoorKrest
import Derived.Test.YtlfncplldppncaaDoorKq
import Derived.Deep.LoopGhost
namespace Go.Proofs.YtlfncplldppncaaDoor
open Go.RowKit Go.Maps

/-- The map D tells of every text whether it is among l. -/
def SetD (D : DataW Unit) (l : List ByteArray) : Prop := IsMap D ∧ ∀ s : ByteArray, D.atKey (keyS s) (.lit (.bool false)) = .lit (.bool (tIn s l))
theorem setD_nil : SetD (.map []) [] := ⟨isMap_empty, fun _ => rfl⟩
theorem setD_put {D : DataW Unit} {l : List ByteArray} (h : SetD D l) (x : ByteArray) : SetD (D.put (keyS x) (.lit (.bool true))) (l ++ [x]) := by
  refine ⟨h.1.put _ _, fun s => ?_⟩
  rw [tIn_snoc]
  by_cases e : s = x
  · subst e
    rw [atKey_put_same h.1 (keyS_key _)]
    simp
  · rw [atKey_put_other (keyS_ne e), h.2 s]
    simp [e]
/-- 'm[k]' in a map of bools, as an equation (a guarded look-up asks for it). -/
theorem look_bool {P : Program} {w : World} {t k e : TypeId} {b n : Nat} {D : DataW Unit} (hown : w.ownsMap P k (plainElem P e) b n D) (K : Keyed P k) (ht : P.underlying t = some (.map k e)) (he : P.underlying e = some .bool) (hz : (zeroValue e).run P w = .ok (.bool false) w)
    {key : Value} {kl : Lit} (hkey : keyOf P k key = some kl) {c : Bool} (hat : D.atKey kl (.lit (.bool false)) = .lit (.bool c)) : Sem.run P (Instr.lookup t (.map (some b)) key false) w = .ok (.bool c) w := by
  obtain ⟨v, ps, hrun, hv⟩ := hown.lookup K ht hz (plainElem_bool he false) hkey
  rw [hat] at hv
  obtain ⟨x', rfl, e'⟩ := plainElem_bool_inv he hv
  obtain rfl : c = x' := by simpa using congrArg Prod.fst e'
  exact hrun
/-- What the search holds: the map of those seen in block M, by way of block M + 1; the queue by way of block M + 2: those seen from place p on. -/
structure ApM (W : World) (M : Nat) (l : List ByteArray) (p : Nat) (v : Value) : Prop where
  mp : ∃ D : DataW Unit, W.ownsMap Tryd.prog 9 (plainElem Tryd.prog 4) M l.length D ∧ SetD D l
  sb : Boxed W (M + 1) 51 (.map (some M))
  vb : Boxed W (M + 2) 23 v
  q : QV W (M + 3) 9 v (l.drop p)
  hi : M + 3 ≤ W.heap.size
  ple : p ≤ l.length
theorem ApM.below {W W' : World} {M p : Nat} {l : List ByteArray} {v : Value} (h : ApM W M l p v) (hb : Below W.heap.size W W') : ApM W' M l p v where
  mp := by
    obtain ⟨D, ⟨es, clock, hblk, r⟩, hD⟩ := h.mp
    exact ⟨D, ⟨es, clock, (hb.block _ (by have := h.hi; omega)).trans hblk, r⟩, hD⟩
  sb := (hb.block _ h.sb.lt).trans h.sb
  vb := (hb.block _ h.vb.lt).trans h.vb
  q := h.q.keep fun b hb' => hb.block b (h.q.lt hb').2
  hi := Nat.le_trans h.hi hb.size
  ple := h.ple
theorem apM_start (w : World) : ApM (((w.alloc (.map #[] 0)).alloc (.cells #[.map (some w.heap.size)] 51)).alloc (.cells #[.slice none 0 0] 23)) w.heap.size [] 0 (.slice none 0 0) := by
  have e1 : (w.alloc (.map #[] 0)).heap.size = w.heap.size + 1 := by simp
  have e2 : ((w.alloc (.map #[] 0)).alloc (.cells #[.map (some w.heap.size)] 51)).heap.size = w.heap.size + 2 := by simp
  refine ⟨⟨.map [], ((World.ownsMap_made (H := Unit) w Tryd.prog 9 (plainElem Tryd.prog 4)).alloc _).alloc _, setD_nil⟩, ?_, ?_, QV.nil _ _ _, by simp, by simp⟩
  · have := (Boxed.new (w.alloc (.map #[] 0)) 51 (.map (some w.heap.size))).alloc (.cells #[.slice none 0 0] 23)
    rwa [e1] at this
  · have := Boxed.new ((w.alloc (.map #[] 0)).alloc (.cells #[.map (some w.heap.size)] 51)) 23 (.slice none 0 0)
    rwa [e2] at this
theorem ApM.step {W : World} {M p : Nat} {l : List ByteArray} {v v' : Value} (h : ApM W M l p v) (hp : p < l.length) (hq : QV W (M + 3) 9 v' (l.drop (p + 1))) : ApM (W.setCell ⟨M + 2, 0, none⟩ v') M l (p + 1) v' where
  mp := by
    obtain ⟨D, hD, hS⟩ := h.mp
    exact ⟨D, hD.setCell (by show M ≠ M + 2; omega) _, hS⟩
  sb := (Below.heap_setCell _ _ _ _ (by show M + 1 ≠ M + 2; omega)).trans h.sb
  vb := h.vb.set _
  q := hq.keep fun b hb => Below.heap_setCell _ _ _ _ (by have := (hq.lt hb).1; show b ≠ M + 2; omega)
  hi := by simpa using h.hi
  ple := by omega
/-- A row of texts of the call's own. -/
theorem OwnS.row {w : World} {base : Nat} {e : TypeId} {v : Value} {ws : List ByteArray} (h : OwnS w base e v ws) :
    ∃ A c, v = .slice A ws.length c ∧ (0 < ws.length → ∃ g, A = some ⟨g, 0, none⟩ ∧ base ≤ g ∧ g < w.heap.size ∧ ∀ j, j < ws.length → w.cell? ⟨g, j, none⟩ = some (.string (ws.getD j ByteArray.empty))) := by
  obtain ⟨A, c, rfl, hc⟩ := h.read
  refine ⟨A, c, rfl, fun h0 => ?_⟩
  obtain ⟨g, rfl, _⟩ := hc 0 h0
  have := World.ownsRow.lt h g rfl
  refine ⟨g, rfl, this.1, this.2, fun j hj => ?_⟩
  obtain ⟨g', e', hg⟩ := hc j hj
  injection e' with e'
  injection e' with e'
  rw [e']
  exact hg
theorem elem_strs : Tryd.prog.elem 23 = 9 := by kernel_rfl
theorem run_at0s (W : World) (g off n c : Nat) (h : 0 < n) : Sem.run Tryd.prog (Instr.indexAt 23 (.slice (some ⟨g, off, none⟩) n c) (.int .i64 0)) W = .ok (.pointer (some ⟨g, off, none⟩)) W := by
  rw [run_indexAt_slice W 23 ⟨g, off, none⟩ n c .i64 0 (by rw [elem_strs]; exact Tryd.underlying23), if_pos ⟨by omega, by omega⟩, elem_strs, Tryd.sizeOf9 W]
  rfl
theorem run_rest1 (W : World) (g off q c : Nat) : Sem.run Tryd.prog (Instr.slice 23 (.slice (some ⟨g, off, none⟩) (q + 1) c) (some (.int .i64 1)) none none) W = .ok (.slice (some ⟨g, if c = 1 then off else off + 1, none⟩) q (c - 1)) W := by
  rw [run_slice_l W 23 (some ⟨g, off, none⟩) (q + 1) c (by rw [elem_strs]; exact Tryd.underlying23) .i64 1 (by decide) (by omega), elem_strs, Tryd.sizeOf9 W]
  by_cases e : c = 1
  · simp [Result.andThen, sliced, e]
  · simp [Result.andThen, sliced, e, Addr.add]

set_option maxRecDepth 100000 in
set_option maxHeartbeats 1000000 in
theorem add_any (x : ByteArray) (M p : Nat) (l : List ByteArray) (v : Value) (W : World) (hx : x.size ≤ 8) (hl : l.length ≤ 1000) (h : ApM W M l p v) :
    Calls Tryd.prog 28 #[.string x, .pointer (some ⟨M + 1, 0, none⟩), .pointer (some ⟨M + 2, 0, none⟩)] W fun e W' => e = .returned (.tuple #[]) ∧ ∃ v', ApM W' M (add1 l x) p v' ∧ KeepQ W W' M (M + 2) v v' := by
  obtain ⟨i0, hi, hz0, hz1, hz2⟩ := info_parts strK
  obtain ⟨D, hm, hD⟩ := h.mp
  have hkey := key_str (s := x) (by unfold maxLen; omega)
  have hat := hD.2 x
  have cS := h.sb.cell
  have cV := h.vb.cell
  have H := hid h
  have HD := hid hD
  have hM := h.hi
  cases hc : tIn x l with
  | true =>
    rw [hc] at hat
    have HA : Hid (add1 l x = l) := hid (by unfold add1; rw [if_pos hc])
    clear h hD hc
    go_enter Tryd.func28, Tryd.ntmps28
    go_wp2_with (at_lookup; refine wpList_lookup_bool _ rfl _ _ 51 rfl 9 4 str_keyed Tryd.underlying51 Tryd.underlying4 (zero_bool _) M l.length D rfl hm _ _ rfl hkey true hat ?_)
    go_end0
    exact ⟨rfl, v, by rw [HA.out]; exact H.out, KeepQ.refl _ _ _ _⟩
  | false =>
    rw [hc] at hat
    have HA : Hid (add1 l x = l ++ [x]) := hid (by unfold add1; rw [if_neg (by rw [hc]; decide)])
    have HL : Hid ((l.drop p).length ≤ 1000) := hid (by rw [List.length_drop]; omega)
    clear h hD hc
    go_enter Tryd.func28, Tryd.ntmps28
    go_wp2_with (first
      | (at_lookup; refine wpList_lookup_bool _ rfl _ _ 51 rfl 9 4 str_keyed Tryd.underlying51 Tryd.underlying4 (zero_bool _) M l.length D rfl hm _ _ rfl hkey false hat ?_)
      | (at_mapUpdate; refine wpList_mapUpdate_own _ rfl _ _ _ 51 rfl 9 4 str_keyed Tryd.underlying51 _ M l.length _ rfl hm (by unfold maxLen; omega) _ _ _ rfl rfl hkey _ [] (plainElem_bool Tryd.underlying4 true) ?_; intro w1 hown1 hgrow1; have hm1 := hid hown1; have hv1 : Boxed w1 (M + 2) 23 v := H.out.vb.kept hgrow1 (by simp); have hs1 := hid (H.out.sb.kept hgrow1 (by simp)); have cV1 := hv1.cell; have hq1 := hid (H.out.q.keep (w' := w1) fun b hb => hgrow1.block b (H.out.q.lt hb).2 (fun e => by have := (H.out.q.lt hb).1; injection e with e; omega)); have hg1 := hid hgrow1; have hsw1 : M + 3 ≤ w1.heap.size := Nat.le_trans hM hgrow1.size; have hne1 := hid (show some (M + 2) ≠ v.ownBlock from fun e => by have := (H.out.q.lt e.symm).1; omega); clear hown1 hgrow1 hm cV)
      | (at_builtin; refine wpList_append_q _ rfl (.tmp 10) (.tmp 12) 23 rfl (M + 3) 9 i0 Tryd.underlying23 hi hz0 hz1 hz2 v (l.drop p) rfl hq1.out x rfl HL.out (by omega) ?_; intro v' w7 hq7 hsys7 hold7 hat7; obtain ⟨A7, c7, hsh⟩ := hq7.shape; generalize (l.drop p ++ [x]).length = n7 at hsh; subst hsh; have hv7 : Boxed w7 (M + 2) 23 v := (hold7 _ hv1.lt hne1.out).trans hv1; have cV7 := hv7.cell; have fV7 := hv7.frozen; have HQ7 := hid hq7; have HS7 := hid hsys7; have HO7 := hid hold7; have HT7 := hid hat7; clear hq7 hsys7 hold7 hat7 hv1 cV1))
    go_end0
    obtain ⟨hos, htp, hou, hsz7⟩ := HS7.out
    have hb7 : ∀ j, j < W.heap.size → j ≠ M → j ≠ M + 2 → some j ≠ v.ownBlock → (w7.setCell ⟨M + 2, 0, none⟩ (.slice A7 n7 c7)).heap[j]? = W.heap[j]? := fun j hj h1 h2 h3 =>
      (Below.heap_setCell _ _ _ _ h2).trans ((HO7.out j (Nat.lt_of_lt_of_le hj hg1.out.size) h3).trans (hg1.out.block j hj (fun e => h1 (Option.some.inj e))))
    have hset := (Below.refl (M + 2) w7).setCell (p := ⟨M + 2, 0, none⟩) (Nat.le_refl _) (.slice A7 n7 c7)
    have hM2 : ∀ j, j < M + 2 → (w7.setCell ⟨M + 2, 0, none⟩ (.slice A7 n7 c7)).heap[j]? = w1.heap[j]? := fun j hj =>
      (Below.heap_setCell _ _ _ _ (by show j ≠ M + 2; omega)).trans (HO7.out j (by omega) (fun e => by have := (H.out.q.lt e.symm).1; omega))
    refine ⟨rfl, _, ⟨⟨_, ?_, by rw [HA.out]; exact setD_put HD.out x⟩, (hM2 _ (by omega)).trans hs1.out, hv7.set _, ?_, by simp; omega, ?_⟩, ⟨hset.os.trans (hos.trans hg1.out.os), hset.tape.trans (htp.trans hg1.out.tape), hset.output.trans (hou.trans hg1.out.output), Nat.le_trans hg1.out.size (Nat.le_trans hsz7 hset.size), fun j hj h1 h2 h3 => ⟨hb7 j hj h1 h2 h3, fun e => ?_⟩⟩⟩
    · rw [HA.out, List.length_append, List.length_singleton]
      obtain ⟨es, clock, hblk, r⟩ := hm1.out
      exact ⟨es, clock, (hM2 M (by omega)).trans hblk, r⟩
    · rw [HA.out, List.drop_append_of_le_length H.out.ple]
      exact HQ7.out.keep fun b hb => Below.heap_setCell _ _ _ _ (by have := (HQ7.out.lt hb).1; show b ≠ M + 2; omega)
    · rw [HA.out, List.length_append]
      have := H.out.ple
      omega
    · rcases HT7.out with e2 | ⟨g, e2, hg⟩
      · exact h3 (e.trans e2)
      · rw [e2] at e
        injection e with e
        have := hg1.out.size
        omega

theorem kapart_bad (A : Option Addr) (n c : Nat) (ws : List ByteArray) (k : Int) (w : World) (hn : n ≤ maxLen) (hs : ∀ i, i < n → (wat ws i).size ≤ maxLen) (hk : Bad ws k) (h : IsStrs w w.heap.size A n ws) :
    Calls Tryd.prog 16 #[.slice A n c] w fun e w' => e = .returned (.tuple #[.bool false, .iface 44 (.int .i64 k)]) ∧ Below w.heap.size w w' := by
  have HC := hid (tcheck_bad A n c ws k w hn hs hk h)
  clear h hk hs hn
  go_enter Tryd.func16, Tryd.ntmps16
  go_wp2_with fail
  refine HC.out.mono ?_
  rintro e w1 ⟨rfl, hb1⟩
  go_wp2_with fail
  go_ret2
  exact ⟨rfl, hb1⟩

theorem drop_cons {l : List ByteArray} {p : Nat} (h : p < l.length) : l.drop p = l.getD p ByteArray.empty :: l.drop (p + 1) := by
  rw [List.drop_eq_getElem_cons h]
  simp [h]

set_option maxRecDepth 100000 in
set_option maxHeartbeats 4000000 in
theorem kapart_ok (A : Option Addr) (n c : Nat) (ws : List ByteArray) (w : World) (hf : Fine ws) (h : IsStrs w w.heap.size A n ws) :
    Calls Tryd.prog 16 #[.slice A n c] w fun e w' => ∃ b : Bool, (b = true ↔ UD (wl ws)) ∧ e = .returned (.tuple #[.bool b, .nilIface]) ∧ Below w.heap.size w w' := by
  have hmm := @run_makeMap Tryd.prog
  have hmf : ∀ (fn : Fn) (first cap : Array Value) (w : World), (Instr.makeFunc fn first cap).run Tryd.prog w = .ok (.func fn first cap) w := fun _ _ _ _ => rfl
  have HC := hid (tcheck_ok A n c ws w hf h)
  have HR := fun (W : World) (hW : Below w.heap.size w W) => hid (rests_any A n c ws W hf ((h.below hW).mono hW.size))
  have HK := fun (W : World) (hW : Below w.heap.size w W) (a : ByteArray) (ha : a.size ≤ 8) => hid (continued_any a A n c ws W ha hf ((h.below hW).mono hW.size))
  have H8 : Hid (∀ x ∈ wl ws, x.length ≤ 8) := hid (fun x hx => ((fine_wl hf).2 x hx).1)
  have H6 : Hid ((wl ws).length ≤ 6) := hid (by rw [wl_len]; exact hf.1)
  have HOk : Hid (Okw (wl ws)) := hid (by
    have h1 := fine_wl hf
    exact ⟨h1.1, fun x hx e => by have := (h1.2 x hx).2; rw [e] at this; simp at this⟩)
  have hkey : keyOf Tryd.prog 9 (.string ⟨#[]⟩) = some (keyS ⟨#[]⟩) := key_str (by decide)
  clear h hf
  go_enter Tryd.func16, Tryd.ntmps16
  go_wp2_with fail
  refine HC.out.mono ?_
  rintro e w1 ⟨rfl, hb1⟩
  clear HC
  have hA0 := apM_start w1
  have hB0 : Below w.heap.size w (((w1.alloc (.map #[] 0)).alloc (.cells #[.map (some w1.heap.size)] 51)).alloc (.cells #[.slice none 0 0] 23)) := ((hb1.alloc hb1.size _).alloc (by simp; have := hb1.size; omega) _).alloc (by simp; have := hb1.size; omega) _
  have hM := hb1.size
  have hsz0 : (((w1.alloc (.map #[] 0)).alloc (.cells #[.map (some w1.heap.size)] 51)).alloc (.cells #[.slice none 0 0] 23)).heap.size = w1.heap.size + 3 := by simp
  have HA0 := hid hA0
  have HB0 := hid hB0
  have HS0 := hid hsz0
  clear hA0 hB0 hsz0 hb1
  go_wp2_with fail
  refine (HR _ HB0.out).out.mono ?_
  rintro e w2 ⟨vr, R, rfl, hF, hR36, hO, hb2⟩
  clear HR
  have hA2 := HA0.out.below hb2
  have hB2 := HB0.out.trans (hb2.mono HB0.out.size)
  have hrow := hO.row
  rw [HS0.out] at hrow
  obtain ⟨B, cB, rfl, hrow⟩ := hrow
  have HRow := hid hrow
  have HA2 := hid hA2
  have HF := hid hF
  have hM2 := hA2.hi
  generalize w1.heap.size = M at hM HRow HA2 hM2 ⊢
  clear hA2 hF hO hb2 hrow HA0 HB0 HS0
  generalize hm : R.length = m at hR36 HRow ⊢
  have HM := hid hm
  clear hm
  go_wp2_with fail
  go_loopw [23] (fun x wr => ∃ (j : Nat) (v : Value), j ≤ m ∧ x = .int .i64 j ∧ Hid (ApM wr M (addL [] (R.take j)) 0 v) ∧ Hid (KeepQ w2 wr M (M + 2) (.slice none 0 0) v)) (fun x _ => m - (intOf x).toNat)
  case atStart => exact ⟨0, _, by omega, rfl, HA2, hid (KeepQ.refl _ _ _ _)⟩
  case round =>
    clear HA2
    obtain ⟨j, v, hjm, rfl, HA, HQ⟩ := hrel
    by_cases hlt : j < m
    · obtain ⟨g, rfl, hg1, hg2, hgc⟩ := HRow.out (by omega)
      have hjR : j < R.length := by rw [HM.out]; exact hlt
      have c1 := (HQ.out.cell hg2 (by omega) (by omega) (by simp [Value.ownBlock]) j).trans (hgc j hlt)
      have hx8 : (R.getD j ByteArray.empty).size ≤ 8 := fol_size HF.out H8.out _ (by rw [List.getD_eq_getElem?_getD, List.getElem?_eq_getElem hjR]; exact List.getElem_mem hjR)
      have hln : (addL [] (R.take j)).length ≤ 1000 := Nat.le_trans (addL_len _ _) (by rw [List.length_take, List.length_nil]; omega)
      have HAd := hid (add_any (R.getD j ByteArray.empty) M 0 _ v wr hx8 hln HA.out)
      rw [← addL_take [] hjR] at HAd
      have j1 : (j : Int) < (m : Int) := by omega
      generalize R.getD j ByteArray.empty = X at c1 HAd
      clear hgc hjR hx8 hln HA
      go_wp2_with fail
      refine HAd.out.mono ?_
      rintro e w5 ⟨rfl, v', hA5, hQ5⟩
      have HA5 := hid hA5
      have HQ5 := hid (HQ.out.trans hQ5)
      clear hA5 hQ5 HAd HQ c1
      go_wp2_with fail
      go_roundw
      case rel => exact ⟨j + 1, v', by omega, by go_num, HA5, HQ5⟩
      case measure => simp [intOf]; omega
    · obtain rfl : j = m := by omega
      have hA := HA.out
      rw [List.take_of_length_le (by rw [HM.out]; exact Nat.le_refl _)] at hA
      have hAp := ap_start HF.out
      have hbR : Below w.heap.size w wr := hB2.trans (HQ.out.below hB2.size hM (by omega) (fun b hb => by cases hb))
      have HS1 : Hid (∃ (l : List ByteArray) (p : Nat) (v : Value), 55 ≤ 55 + p ∧ Ap (wl ws) l p ∧ ApM wr M l p v) := hid ⟨_, 0, v, by omega, hAp, hA⟩
      clear hA hAp HA HQ HRow HF HM hB2 hjm hlt hR36
      go_wp2_with fail
      go_loopg [10] 55 (fun k _ wr => Hid (∃ (l : List ByteArray) (p : Nat) (v : Value), 55 ≤ k + p ∧ Ap (wl ws) l p ∧ ApM wr M l p v) ∧ Below w.heap.size w wr)
      case atStart => exact ⟨HS1, hbR⟩
      case round =>
        clear HS1 hbR
        obtain ⟨HS, hb⟩ := hrel
        obtain ⟨l, p, v, hk, hAp, hA⟩ := HS.out
        have h54 := ap_few hAp H6.out H8.out
        have HAp := hid hAp
        have HA := hid hA
        have cS := hA.sb.cell
        have cV := hA.vb.cell
        have fV := hA.vb.frozen
        obtain ⟨D, hmD, hD⟩ := hA.mp
        have hat := hD.2 ⟨#[]⟩
        have hple := hA.ple
        have hmN : l.length ≤ 54 := h54
        clear HS hAp hA hD
        by_cases hp : p < l.length
        rotate_left
        · obtain rfl : p = l.length := by omega
          have hsh := HA.out.q
          rw [List.drop_length] at hsh
          obtain ⟨Aq, cq, rfl⟩ := hsh.shape
          rw [List.length_nil] at cV
          clear HA hsh fV hp hple hk
          cases hc : tIn ⟨#[]⟩ l with
          | false =>
            rw [hc] at hat
            have HU : Hid (UD (wl ws)) := hid (ap_end HAp.out HOk.out (fun hm => by
              have := tIn_iff.2 hm
              rw [show txt [] = ⟨#[]⟩ from rfl, hc] at this
              cases this))
            clear hc HAp
            have hlook := look_bool hmD str_keyed Tryd.underlying51 Tryd.underlying4 (zero_bool _) hkey hat
            clear hmD
            go_wp2_with fail
            go_ret2
            exact ⟨true, ⟨fun _ => HU.out, fun _ => rfl⟩, rfl, hb⟩
          | true =>
            rw [hc] at hat
            have HU : Hid (¬ UD (wl ws)) := hid (ap_void HAp.out (tIn_iff.1 hc) rfl)
            clear hc HAp
            have hlook := look_bool hmD str_keyed Tryd.underlying51 Tryd.underlying4 (zero_bool _) hkey hat
            clear hmD
            go_wp2_with fail
            go_ret2
            exact ⟨false, ⟨fun h => (by cases h), fun h => absurd h HU.out⟩, rfl, hb⟩
        · have hq := HA.out.q
          rw [drop_cons hp] at hq
          obtain ⟨g, off, cq, rfl, hcq, c1, hqt⟩ := hq.head
          have HQt := hid hqt
          have hdl : (l.drop (p + 1)).length = l.length - (p + 1) := List.length_drop
          rw [hdl] at cV HQt
          obtain ⟨q, hqe⟩ : ∃ q, q = l.length - (p + 1) := ⟨_, rfl⟩
          rw [← hqe] at cV HQt
          have hq1 : (0 : Int) < ((q + 1 : Nat) : Int) := by omega
          have hrun0 := fun W => run_at0s W g off (q + 1) cq (by omega)
          have hrun1 := fun W => run_rest1 W g off q cq
          clear hq hqt hdl hqe
          have hgl := (HQt.out.lt (b := g) rfl).2
          have hgl1 := (HQt.out.lt (b := g) rfl).1
          have hhw := HA.out.hi
          generalize (if cq = 1 then off else off + 1) = off2 at HQt hrun1
          generalize cq - 1 = c2 at HQt hrun1
          cases hc : tIn ⟨#[]⟩ l with
          | true =>
            rw [hc] at hat
            have HU : Hid (¬ UD (wl ws)) := hid (ap_void HAp.out (tIn_iff.1 hc) rfl)
            clear hc HAp HA HQt
            have hlook := look_bool hmD str_keyed Tryd.underlying51 Tryd.underlying4 (zero_bool _) hkey hat
            clear hmD
            go_wp2_with fail
            go_ret2
            exact ⟨false, ⟨fun h => (by cases h), fun h => absurd h HU.out⟩, rfl, hb⟩
          | false =>
            rw [hc] at hat
            have hA2 := HA.out.step hp HQt.out
            have hB2 : Below w.heap.size w (wr.setCell ⟨M + 2, 0, none⟩ (.slice (some ⟨g, off2, none⟩) q c2)) := hb.setCell (by show w.heap.size ≤ M + 2; omega) _
            have ha8 : (l.getD p ByteArray.empty).size ≤ 8 := ap_size HAp.out H8.out _ (by rw [List.getD_eq_getElem?_getD, List.getElem?_eq_getElem hp]; exact List.getElem_mem hp)
            have HK1 := HK _ hB2 _ ha8
            have HAs : Hid (∀ F, Cnt (wl ws) (l.getD p ByteArray.empty) F (wl ws).length → Ap (wl ws) (addL l F) (p + 1) ∧ ∀ r ∈ F, r.size ≤ 8) := hid (fun F hF => ⟨ap_step HAp.out hp hF, cnt_size hF H8.out ha8⟩)
            have HA2 := hid hA2
            have HB2 := hid hB2
            have HSz : Hid (wr.heap.size = (wr.setCell ⟨M + 2, 0, none⟩ (.slice (some ⟨g, off2, none⟩) q c2)).heap.size) := hid (by simp)
            generalize l.getD p ByteArray.empty = a at c1 HK1 HAs
            clear hc hA2 hB2 ha8 HAp HA HQt
            have hlook := look_bool hmD str_keyed Tryd.underlying51 Tryd.underlying4 (zero_bool _) hkey hat
            clear hmD
            go_wp2_with fail
            refine HK1.out.mono ?_
            rintro e w4 ⟨vr, F, rfl, hC, hF6, hO, hb4⟩
            have HA4 := hid (HA2.out.below hb4)
            have HB4 := hid (HB2.out.trans (hb4.mono HB2.out.size))
            have HAs2 := hid (HAs.out F hC)
            have hrow := hO.row
            rw [← HSz.out] at hrow
            obtain ⟨B, cB, rfl, hrow⟩ := hrow
            have HRow := hid hrow
            generalize hm : F.length = m at hF6 HRow ⊢
            have HM := hid hm
            clear hm hrow hO hC hb4 HK1 HA2 HB2 HSz HAs cS cV fV hat hlook hrun0 hrun1 c1
            go_wp2_with fail
            go_loopw [48] (fun x wr => ∃ (j : Nat) (v : Value), j ≤ m ∧ x = .int .i64 j ∧ Hid (ApM wr M (addL l (F.take j)) (p + 1) v) ∧ Hid (KeepQ w4 wr M (M + 2) (.slice (some ⟨g, off2, none⟩) q c2) v)) (fun x _ => m - (intOf x).toNat)
            case atStart => exact ⟨0, _, by omega, rfl, HA4, hid (KeepQ.refl _ _ _ _)⟩
            case round =>
              have hhi := HA4.out.hi
              clear HA4
              obtain ⟨j, v, hjm, rfl, HA, HQ⟩ := hrel
              by_cases hlt : j < m
              · obtain ⟨g2, rfl, hg1, hg2, hgc⟩ := HRow.out (by omega)
                have hjF : j < F.length := by rw [HM.out]; exact hlt
                have hgw := hgl
                have c1 := (HQ.out.cell hg2 (by omega) (by omega) (by simp only [Value.ownBlock]; intro e; injection e with e; omega) j).trans (hgc j hlt)
                have hx8 : (F.getD j ByteArray.empty).size ≤ 8 := HAs2.out.2 _ (by rw [List.getD_eq_getElem?_getD, List.getElem?_eq_getElem hjF]; exact List.getElem_mem hjF)
                have hln : (addL l (F.take j)).length ≤ 1000 := Nat.le_trans (addL_len _ _) (by rw [List.length_take]; omega)
                have HAd := hid (add_any (F.getD j ByteArray.empty) M (p + 1) _ v wr hx8 hln HA.out)
                rw [← addL_take l hjF] at HAd
                have j1 : (j : Int) < (m : Int) := by omega
                generalize F.getD j ByteArray.empty = X at c1 HAd
                clear hgc hjF hx8 hln HA
                go_wp2_with fail
                refine HAd.out.mono ?_
                rintro e w5 ⟨rfl, v', hA5, hQ5⟩
                have HA5 := hid hA5
                have HQ5 := hid (HQ.out.trans hQ5)
                clear hA5 hQ5 HAd HQ c1
                go_wp2_with fail
                go_roundw
                case rel => exact ⟨j + 1, v', by omega, by go_num, HA5, HQ5⟩
                case measure => simp [intOf]; omega
              · obtain rfl : j = m := by omega
                have hA := HA.out
                rw [List.take_of_length_le (by rw [HM.out]; exact Nat.le_refl _)] at hA
                have hbR : Below w.heap.size w wr := HB4.out.trans (HQ.out.below HB4.out.size hM (by omega) (fun b hb' => by
                  have : g = b := by simpa [Value.ownBlock] using hb'
                  omega))
                have HS1 : Hid (∃ (l : List ByteArray) (p : Nat) (v : Value), 55 ≤ gk - 1 + p ∧ Ap (wl ws) l p ∧ ApM wr M l p v) := hid ⟨_, p + 1, v, by omega, HAs2.out.1, hA⟩
                have hgk : gk - 1 < gk := by omega
                clear hA HA HQ HRow HM HAs2 HB4
                go_wp2_with fail
                go_roundg (gk - 1)
                case measure => exact hgk
                case rel => exact ⟨HS1, hbR⟩
end Go.Proofs.YtlfncplldppncaaDoor
