/-
  Several of this claim's texts in one (Kap, Mchk, Mmath, Trep, Tbuild, Tlong, Mcut): what each proves stands at its own head. Conditions: as each says.
-/
import Derived.Deep.LoopGhost
import Derived.StillTailTactics
import Derived.Test.YtlfncplldppncaaQe

/-
  Contracts of kraft.Apart: can each text be of words in at most one way, or the error that comes first. Conditions: the sizes that a row itself sets.
-/
namespace Go.Proofs.Ytlfncplldppncaa
open Go.RowKit Go.Maps

/-- The map D tells of every text whether it is among l. -/
def SetD (D : DataW Unit) (l : List ByteArray) : Prop := IsMap D ∧ ∀ s : ByteArray, D.atKey (keyS s) (.lit (.bool false)) = .lit (.bool (tIn s l))
theorem setD_nil : SetD (.map []) [] := ⟨isMap_empty, fun _ => rfl⟩
theorem setD_put {D : DataW Unit} {l : List ByteArray} (h : SetD D l) (x : ByteArray) : SetD (D.put (keyS x) (.lit (.bool true))) (l ++ [x]) := by
  refine ⟨h.1.put _ _, fun s => ?_⟩
  rw [tIn_snoc]
  by_cases e : s = x
  · subst e
    rw [atKey_put_same h.1 (keyS_key _)]
    simp
  · rw [atKey_put_other (keyS_ne e), h.2 s]
    simp [e]
/-- 'm[k]' in a map of bools, as an equation (a guarded look-up asks for it). -/
theorem look_bool {P : Program} {w : World} {t k e : TypeId} {b n : Nat} {D : DataW Unit} (hown : w.ownsMap P k (plainElem P e) b n D) (K : Keyed P k) (ht : P.underlying t = some (.map k e)) (he : P.underlying e = some .bool) (hz : (zeroValue e).run P w = .ok (.bool false) w)
    {key : Value} {kl : Lit} (hkey : keyOf P k key = some kl) {c : Bool} (hat : D.atKey kl (.lit (.bool false)) = .lit (.bool c)) : Sem.run P (Instr.lookup t (.map (some b)) key false) w = .ok (.bool c) w := by
  obtain ⟨v, ps, hrun, hv⟩ := hown.lookup K ht hz (plainElem_bool he false) hkey
  rw [hat] at hv
  obtain ⟨x', rfl, e'⟩ := plainElem_bool_inv he hv
  obtain rfl : c = x' := by simpa using congrArg Prod.fst e'
  exact hrun
/-- What the search holds: the map of those seen in block M, by way of block M + 1; the queue by way of block M + 2: those seen from place p on. -/
structure ApM (W : World) (M : Nat) (l : List ByteArray) (p : Nat) (v : Value) : Prop where
  mp : ∃ D : DataW Unit, W.ownsMap Try.prog 9 (plainElem Try.prog 4) M l.length D ∧ SetD D l
  sb : Boxed W (M + 1) 44 (.map (some M))
  vb : Boxed W (M + 2) 22 v
  q : QV W (M + 3) 9 v (l.drop p)
  hi : M + 3 ≤ W.heap.size
  ple : p ≤ l.length
theorem ApM.below {W W' : World} {M p : Nat} {l : List ByteArray} {v : Value} (h : ApM W M l p v) (hb : Below W.heap.size W W') : ApM W' M l p v where
  mp := by
    obtain ⟨D, ⟨es, clock, hblk, r⟩, hD⟩ := h.mp
    exact ⟨D, ⟨es, clock, (hb.block _ (by have := h.hi; omega)).trans hblk, r⟩, hD⟩
  sb := (hb.block _ h.sb.lt).trans h.sb
  vb := (hb.block _ h.vb.lt).trans h.vb
  q := h.q.keep fun b hb' => hb.block b (h.q.lt hb').2
  hi := Nat.le_trans h.hi hb.size
  ple := h.ple
theorem apM_start (w : World) : ApM (((w.alloc (.map #[] 0)).alloc (.cells #[.map (some w.heap.size)] 44)).alloc (.cells #[.slice none 0 0] 22)) w.heap.size [] 0 (.slice none 0 0) := by
  have e1 : (w.alloc (.map #[] 0)).heap.size = w.heap.size + 1 := by simp
  have e2 : ((w.alloc (.map #[] 0)).alloc (.cells #[.map (some w.heap.size)] 44)).heap.size = w.heap.size + 2 := by simp
  refine ⟨⟨.map [], ((World.ownsMap_made (H := Unit) w Try.prog 9 (plainElem Try.prog 4)).alloc _).alloc _, setD_nil⟩, ?_, ?_, QV.nil _ _ _, by simp, by simp⟩
  · have := (Boxed.new (w.alloc (.map #[] 0)) 44 (.map (some w.heap.size))).alloc (.cells #[.slice none 0 0] 22)
    rwa [e1] at this
  · have := Boxed.new ((w.alloc (.map #[] 0)).alloc (.cells #[.map (some w.heap.size)] 44)) 22 (.slice none 0 0)
    rwa [e2] at this
theorem ApM.step {W : World} {M p : Nat} {l : List ByteArray} {v v' : Value} (h : ApM W M l p v) (hp : p < l.length) (hq : QV W (M + 3) 9 v' (l.drop (p + 1))) : ApM (W.setCell ⟨M + 2, 0, none⟩ v') M l (p + 1) v' where
  mp := by
    obtain ⟨D, hD, hS⟩ := h.mp
    exact ⟨D, hD.setCell (by show M ≠ M + 2; omega) _, hS⟩
  sb := (Below.heap_setCell _ _ _ _ (by show M + 1 ≠ M + 2; omega)).trans h.sb
  vb := h.vb.set _
  q := hq.keep fun b hb => Below.heap_setCell _ _ _ _ (by have := (hq.lt hb).1; show b ≠ M + 2; omega)
  hi := by simpa using h.hi
  ple := by omega
/-- A row of texts of the call's own. -/
theorem OwnS.row {w : World} {base : Nat} {e : TypeId} {v : Value} {ws : List ByteArray} (h : OwnS w base e v ws) :
    ∃ A c, v = .slice A ws.length c ∧ (0 < ws.length → ∃ g, A = some ⟨g, 0, none⟩ ∧ base ≤ g ∧ g < w.heap.size ∧ ∀ j, j < ws.length → w.cell? ⟨g, j, none⟩ = some (.string (ws.getD j ByteArray.empty))) := by
  obtain ⟨A, c, rfl, hc⟩ := h.read
  refine ⟨A, c, rfl, fun h0 => ?_⟩
  obtain ⟨g, rfl, _⟩ := hc 0 h0
  have := World.ownsRow.lt h g rfl
  refine ⟨g, rfl, this.1, this.2, fun j hj => ?_⟩
  obtain ⟨g', e', hg⟩ := hc j hj
  injection e' with e'
  injection e' with e'
  rw [e']
  exact hg
theorem elem_strs : Try.prog.elem 22 = 9 := by kernel_rfl
theorem run_at0s (W : World) (g off n c : Nat) (h : 0 < n) : Sem.run Try.prog (Instr.indexAt 22 (.slice (some ⟨g, off, none⟩) n c) (.int .i64 0)) W = .ok (.pointer (some ⟨g, off, none⟩)) W := by
  rw [run_indexAt_slice W 22 ⟨g, off, none⟩ n c .i64 0 (by rw [elem_strs]; exact Try.underlying22), if_pos ⟨by omega, by omega⟩, elem_strs, Try.sizeOf9 W]
  rfl
theorem run_rest1 (W : World) (g off q c : Nat) : Sem.run Try.prog (Instr.slice 22 (.slice (some ⟨g, off, none⟩) (q + 1) c) (some (.int .i64 1)) none none) W = .ok (.slice (some ⟨g, if c = 1 then off else off + 1, none⟩) q (c - 1)) W := by
  rw [run_slice_l W 22 (some ⟨g, off, none⟩) (q + 1) c (by rw [elem_strs]; exact Try.underlying22) .i64 1 (by decide) (by omega), elem_strs, Try.sizeOf9 W]
  by_cases e : c = 1
  · simp [Result.andThen, sliced, e]
  · simp [Result.andThen, sliced, e, Addr.add]

set_option maxRecDepth 100000 in
set_option maxHeartbeats 1000000 in
theorem add_any (x : ByteArray) (M p : Nat) (l : List ByteArray) (v : Value) (W : World) (hx : x.size ≤ 8) (hl : l.length ≤ 1000) (h : ApM W M l p v) :
    Calls Try.prog 19 #[.string x, .pointer (some ⟨M + 1, 0, none⟩), .pointer (some ⟨M + 2, 0, none⟩)] W fun e W' => e = .returned (.tuple #[]) ∧ ∃ v', ApM W' M (add1 l x) p v' ∧ KeepQ W W' M (M + 2) v v' := by
  obtain ⟨i0, hi, hz0, hz1, hz2⟩ := info_parts strK
  obtain ⟨D, hm, hD⟩ := h.mp
  have hkey := key_str (s := x) (by unfold maxLen; omega)
  have hat := hD.2 x
  have cS := h.sb.cell
  have cV := h.vb.cell
  have H := hid h
  have HD := hid hD
  have hM := h.hi
  cases hc : tIn x l with
  | true =>
    rw [hc] at hat
    have HA : Hid (add1 l x = l) := hid (by unfold add1; rw [if_pos hc])
    clear h hD hc
    go_enter Try.func19, Try.ntmps19
    go_wp2_with (at_lookup; refine wpList_lookup_bool _ rfl _ _ 44 rfl 9 4 str_keyed Try.underlying44 Try.underlying4 (zero_bool _) M l.length D rfl hm _ _ rfl hkey true hat ?_)
    go_end0
    exact ⟨rfl, v, by rw [HA.out]; exact H.out, KeepQ.refl _ _ _ _⟩
  | false =>
    rw [hc] at hat
    have HA : Hid (add1 l x = l ++ [x]) := hid (by unfold add1; rw [if_neg (by rw [hc]; decide)])
    have HL : Hid ((l.drop p).length ≤ 1000) := hid (by rw [List.length_drop]; omega)
    clear h hD hc
    go_enter Try.func19, Try.ntmps19
    go_wp2_with (first
      | (at_lookup; refine wpList_lookup_bool _ rfl _ _ 44 rfl 9 4 str_keyed Try.underlying44 Try.underlying4 (zero_bool _) M l.length D rfl hm _ _ rfl hkey false hat ?_)
      | (at_mapUpdate; refine wpList_mapUpdate_own _ rfl _ _ _ 44 rfl 9 4 str_keyed Try.underlying44 _ M l.length _ rfl hm (by unfold maxLen; omega) _ _ _ rfl rfl hkey _ [] (plainElem_bool Try.underlying4 true) ?_; intro w1 hown1 hgrow1; have hm1 := hid hown1; have hv1 : Boxed w1 (M + 2) 22 v := H.out.vb.kept hgrow1 (by simp); have hs1 := hid (H.out.sb.kept hgrow1 (by simp)); have cV1 := hv1.cell; have hq1 := hid (H.out.q.keep (w' := w1) fun b hb => hgrow1.block b (H.out.q.lt hb).2 (fun e => by have := (H.out.q.lt hb).1; injection e with e; omega)); have hg1 := hid hgrow1; have hsw1 : M + 3 ≤ w1.heap.size := Nat.le_trans hM hgrow1.size; have hne1 := hid (show some (M + 2) ≠ v.ownBlock from fun e => by have := (H.out.q.lt e.symm).1; omega); clear hown1 hgrow1 hm cV)
      | (at_builtin; refine wpList_append_q _ rfl (.tmp 10) (.tmp 12) 22 rfl (M + 3) 9 i0 Try.underlying22 hi hz0 hz1 hz2 v (l.drop p) rfl hq1.out x rfl HL.out (by omega) ?_; intro v' w7 hq7 hsys7 hold7 hat7; obtain ⟨A7, c7, hsh⟩ := hq7.shape; generalize (l.drop p ++ [x]).length = n7 at hsh; subst hsh; have hv7 : Boxed w7 (M + 2) 22 v := (hold7 _ hv1.lt hne1.out).trans hv1; have cV7 := hv7.cell; have fV7 := hv7.frozen; have HQ7 := hid hq7; have HS7 := hid hsys7; have HO7 := hid hold7; have HT7 := hid hat7; clear hq7 hsys7 hold7 hat7 hv1 cV1))
    go_end0
    obtain ⟨hos, htp, hou, hsz7⟩ := HS7.out
    have hb7 : ∀ j, j < W.heap.size → j ≠ M → j ≠ M + 2 → some j ≠ v.ownBlock → (w7.setCell ⟨M + 2, 0, none⟩ (.slice A7 n7 c7)).heap[j]? = W.heap[j]? := fun j hj h1 h2 h3 =>
      (Below.heap_setCell _ _ _ _ h2).trans ((HO7.out j (Nat.lt_of_lt_of_le hj hg1.out.size) h3).trans (hg1.out.block j hj (fun e => h1 (Option.some.inj e))))
    have hset := (Below.refl (M + 2) w7).setCell (p := ⟨M + 2, 0, none⟩) (Nat.le_refl _) (.slice A7 n7 c7)
    have hM2 : ∀ j, j < M + 2 → (w7.setCell ⟨M + 2, 0, none⟩ (.slice A7 n7 c7)).heap[j]? = w1.heap[j]? := fun j hj =>
      (Below.heap_setCell _ _ _ _ (by show j ≠ M + 2; omega)).trans (HO7.out j (by omega) (fun e => by have := (H.out.q.lt e.symm).1; omega))
    refine ⟨rfl, _, ⟨⟨_, ?_, by rw [HA.out]; exact setD_put HD.out x⟩, (hM2 _ (by omega)).trans hs1.out, hv7.set _, ?_, by simp; omega, ?_⟩, ⟨hset.os.trans (hos.trans hg1.out.os), hset.tape.trans (htp.trans hg1.out.tape), hset.output.trans (hou.trans hg1.out.output), Nat.le_trans hg1.out.size (Nat.le_trans hsz7 hset.size), fun j hj h1 h2 h3 => ⟨hb7 j hj h1 h2 h3, fun e => ?_⟩⟩⟩
    · rw [HA.out, List.length_append, List.length_singleton]
      obtain ⟨es, clock, hblk, r⟩ := hm1.out
      exact ⟨es, clock, (hM2 M (by omega)).trans hblk, r⟩
    · rw [HA.out, List.drop_append_of_le_length H.out.ple]
      exact HQ7.out.keep fun b hb => Below.heap_setCell _ _ _ _ (by have := (HQ7.out.lt hb).1; show b ≠ M + 2; omega)
    · rw [HA.out, List.length_append]
      have := H.out.ple
      omega
    · rcases HT7.out with e2 | ⟨g, e2, hg⟩
      · exact h3 (e.trans e2)
      · rw [e2] at e
        injection e with e
        have := hg1.out.size
        omega

theorem kapart_bad (A : Option Addr) (n c : Nat) (ws : List ByteArray) (k : Int) (w : World) (hn : n ≤ maxLen) (hs : ∀ i, i < n → (wat ws i).size ≤ maxLen) (hk : Bad ws k) (h : IsStrs w w.heap.size A n ws) :
    Calls Try.prog 7 #[.slice A n c] w fun e w' => e = .returned (.tuple #[.bool false, .iface 58 (.int .i64 k)]) ∧ Below w.heap.size w w' := by
  have HC := hid (tcheck_bad A n c ws k w hn hs hk h)
  clear h hk hs hn
  go_enter Try.func7, Try.ntmps7
  go_wp2_with fail
  refine HC.out.mono ?_
  rintro e w1 ⟨rfl, hb1⟩
  go_wp2_with fail
  go_ret2
  exact ⟨rfl, hb1⟩

theorem drop_cons {l : List ByteArray} {p : Nat} (h : p < l.length) : l.drop p = l.getD p ByteArray.empty :: l.drop (p + 1) := by
  rw [List.drop_eq_getElem_cons h]
  simp [h]

set_option maxRecDepth 100000 in
set_option maxHeartbeats 4000000 in
theorem kapart_ok (A : Option Addr) (n c : Nat) (ws : List ByteArray) (w : World) (hf : Fine ws) (h : IsStrs w w.heap.size A n ws) :
    Calls Try.prog 7 #[.slice A n c] w fun e w' => ∃ b : Bool, (b = true ↔ UD (wl ws)) ∧ e = .returned (.tuple #[.bool b, .nilIface]) ∧ Below w.heap.size w w' := by
  have hmm := @run_makeMap Try.prog
  have hmf : ∀ (fn : Fn) (first cap : Array Value) (w : World), (Instr.makeFunc fn first cap).run Try.prog w = .ok (.func fn first cap) w := fun _ _ _ _ => rfl
  have HC := hid (tcheck_ok A n c ws w hf h)
  have HR := fun (W : World) (hW : Below w.heap.size w W) => hid (rests_any A n c ws W hf ((h.below hW).mono hW.size))
  have HK := fun (W : World) (hW : Below w.heap.size w W) (a : ByteArray) (ha : a.size ≤ 8) => hid (continued_any a A n c ws W ha hf ((h.below hW).mono hW.size))
  have H8 : Hid (∀ x ∈ wl ws, x.length ≤ 8) := hid (fun x hx => ((fine_wl hf).2 x hx).1)
  have H6 : Hid ((wl ws).length ≤ 6) := hid (by rw [wl_len]; exact hf.1)
  have HOk : Hid (Okw (wl ws)) := hid (by
    have h1 := fine_wl hf
    exact ⟨h1.1, fun x hx e => by have := (h1.2 x hx).2; rw [e] at this; simp at this⟩)
  have hkey : keyOf Try.prog 9 (.string ⟨#[]⟩) = some (keyS ⟨#[]⟩) := key_str (by decide)
  clear h hf
  go_enter Try.func7, Try.ntmps7
  go_wp2_with fail
  refine HC.out.mono ?_
  rintro e w1 ⟨rfl, hb1⟩
  clear HC
  have hA0 := apM_start w1
  have hB0 : Below w.heap.size w (((w1.alloc (.map #[] 0)).alloc (.cells #[.map (some w1.heap.size)] 44)).alloc (.cells #[.slice none 0 0] 22)) := ((hb1.alloc hb1.size _).alloc (by simp; have := hb1.size; omega) _).alloc (by simp; have := hb1.size; omega) _
  have hM := hb1.size
  have hsz0 : (((w1.alloc (.map #[] 0)).alloc (.cells #[.map (some w1.heap.size)] 44)).alloc (.cells #[.slice none 0 0] 22)).heap.size = w1.heap.size + 3 := by simp
  have HA0 := hid hA0
  have HB0 := hid hB0
  have HS0 := hid hsz0
  clear hA0 hB0 hsz0 hb1
  go_wp2_with fail
  refine (HR _ HB0.out).out.mono ?_
  rintro e w2 ⟨vr, R, rfl, hF, hR36, hO, hb2⟩
  clear HR
  have hA2 := HA0.out.below hb2
  have hB2 := HB0.out.trans (hb2.mono HB0.out.size)
  have hrow := hO.row
  rw [HS0.out] at hrow
  obtain ⟨B, cB, rfl, hrow⟩ := hrow
  have HRow := hid hrow
  have HA2 := hid hA2
  have HF := hid hF
  have hM2 := hA2.hi
  generalize w1.heap.size = M at hM HRow HA2 hM2 ⊢
  clear hA2 hF hO hb2 hrow HA0 HB0 HS0
  generalize hm : R.length = m at hR36 HRow ⊢
  have HM := hid hm
  clear hm
  go_wp2_with fail
  go_loopw [23] (fun x wr => ∃ (j : Nat) (v : Value), j ≤ m ∧ x = .int .i64 j ∧ Hid (ApM wr M (addL [] (R.take j)) 0 v) ∧ Hid (KeepQ w2 wr M (M + 2) (.slice none 0 0) v)) (fun x _ => m - (intOf x).toNat)
  case atStart => exact ⟨0, _, by omega, rfl, HA2, hid (KeepQ.refl _ _ _ _)⟩
  case round =>
    clear HA2
    obtain ⟨j, v, hjm, rfl, HA, HQ⟩ := hrel
    by_cases hlt : j < m
    · obtain ⟨g, rfl, hg1, hg2, hgc⟩ := HRow.out (by omega)
      have hjR : j < R.length := by rw [HM.out]; exact hlt
      have c1 := (HQ.out.cell hg2 (by omega) (by omega) (by simp [Value.ownBlock]) j).trans (hgc j hlt)
      have hx8 : (R.getD j ByteArray.empty).size ≤ 8 := fol_size HF.out H8.out _ (by rw [List.getD_eq_getElem?_getD, List.getElem?_eq_getElem hjR]; exact List.getElem_mem hjR)
      have hln : (addL [] (R.take j)).length ≤ 1000 := Nat.le_trans (addL_len _ _) (by rw [List.length_take, List.length_nil]; omega)
      have HAd := hid (add_any (R.getD j ByteArray.empty) M 0 _ v wr hx8 hln HA.out)
      rw [← addL_take [] hjR] at HAd
      have j1 : (j : Int) < (m : Int) := by omega
      generalize R.getD j ByteArray.empty = X at c1 HAd
      clear hgc hjR hx8 hln HA
      go_wp2_with fail
      refine HAd.out.mono ?_
      rintro e w5 ⟨rfl, v', hA5, hQ5⟩
      have HA5 := hid hA5
      have HQ5 := hid (HQ.out.trans hQ5)
      clear hA5 hQ5 HAd HQ c1
      go_wp2_with fail
      go_roundw
      case rel => exact ⟨j + 1, v', by omega, by go_num, HA5, HQ5⟩
      case measure => simp [intOf]; omega
    · obtain rfl : j = m := by omega
      have hA := HA.out
      rw [List.take_of_length_le (by rw [HM.out]; exact Nat.le_refl _)] at hA
      have hAp := ap_start HF.out
      have hbR : Below w.heap.size w wr := hB2.trans (HQ.out.below hB2.size hM (by omega) (fun b hb => by cases hb))
      have HS1 : Hid (∃ (l : List ByteArray) (p : Nat) (v : Value), 55 ≤ 55 + p ∧ Ap (wl ws) l p ∧ ApM wr M l p v) := hid ⟨_, 0, v, by omega, hAp, hA⟩
      clear hA hAp HA HQ HRow HF HM hB2 hjm hlt hR36
      go_wp2_with fail
      go_loopg [10] 55 (fun k _ wr => Hid (∃ (l : List ByteArray) (p : Nat) (v : Value), 55 ≤ k + p ∧ Ap (wl ws) l p ∧ ApM wr M l p v) ∧ Below w.heap.size w wr)
      case atStart => exact ⟨HS1, hbR⟩
      case round =>
        clear HS1 hbR
        obtain ⟨HS, hb⟩ := hrel
        obtain ⟨l, p, v, hk, hAp, hA⟩ := HS.out
        have h54 := ap_few hAp H6.out H8.out
        have HAp := hid hAp
        have HA := hid hA
        have cS := hA.sb.cell
        have cV := hA.vb.cell
        have fV := hA.vb.frozen
        obtain ⟨D, hmD, hD⟩ := hA.mp
        have hat := hD.2 ⟨#[]⟩
        have hple := hA.ple
        have hmN : l.length ≤ 54 := h54
        clear HS hAp hA hD
        by_cases hp : p < l.length
        rotate_left
        · obtain rfl : p = l.length := by omega
          have hsh := HA.out.q
          rw [List.drop_length] at hsh
          obtain ⟨Aq, cq, rfl⟩ := hsh.shape
          rw [List.length_nil] at cV
          clear HA hsh fV hp hple hk
          cases hc : tIn ⟨#[]⟩ l with
          | false =>
            rw [hc] at hat
            have HU : Hid (UD (wl ws)) := hid (ap_end HAp.out HOk.out (fun hm => by
              have := tIn_iff.2 hm
              rw [show txt [] = ⟨#[]⟩ from rfl, hc] at this
              cases this))
            clear hc HAp
            have hlook := look_bool hmD str_keyed Try.underlying44 Try.underlying4 (zero_bool _) hkey hat
            clear hmD
            go_wp2_with fail
            go_ret2
            exact ⟨true, ⟨fun _ => HU.out, fun _ => rfl⟩, rfl, hb⟩
          | true =>
            rw [hc] at hat
            have HU : Hid (¬ UD (wl ws)) := hid (ap_void HAp.out (tIn_iff.1 hc) rfl)
            clear hc HAp
            have hlook := look_bool hmD str_keyed Try.underlying44 Try.underlying4 (zero_bool _) hkey hat
            clear hmD
            go_wp2_with fail
            go_ret2
            exact ⟨false, ⟨fun h => (by cases h), fun h => absurd h HU.out⟩, rfl, hb⟩
        · have hq := HA.out.q
          rw [drop_cons hp] at hq
          obtain ⟨g, off, cq, rfl, hcq, c1, hqt⟩ := hq.head
          have HQt := hid hqt
          have hdl : (l.drop (p + 1)).length = l.length - (p + 1) := List.length_drop
          rw [hdl] at cV HQt
          obtain ⟨q, hqe⟩ : ∃ q, q = l.length - (p + 1) := ⟨_, rfl⟩
          rw [← hqe] at cV HQt
          have hq1 : (0 : Int) < ((q + 1 : Nat) : Int) := by omega
          have hrun0 := fun W => run_at0s W g off (q + 1) cq (by omega)
          have hrun1 := fun W => run_rest1 W g off q cq
          clear hq hqt hdl hqe
          have hgl := (HQt.out.lt (b := g) rfl).2
          have hgl1 := (HQt.out.lt (b := g) rfl).1
          have hhw := HA.out.hi
          generalize (if cq = 1 then off else off + 1) = off2 at HQt hrun1
          generalize cq - 1 = c2 at HQt hrun1
          cases hc : tIn ⟨#[]⟩ l with
          | true =>
            rw [hc] at hat
            have HU : Hid (¬ UD (wl ws)) := hid (ap_void HAp.out (tIn_iff.1 hc) rfl)
            clear hc HAp HA HQt
            have hlook := look_bool hmD str_keyed Try.underlying44 Try.underlying4 (zero_bool _) hkey hat
            clear hmD
            go_wp2_with fail
            go_ret2
            exact ⟨false, ⟨fun h => (by cases h), fun h => absurd h HU.out⟩, rfl, hb⟩
          | false =>
            rw [hc] at hat
            have hA2 := HA.out.step hp HQt.out
            have hB2 : Below w.heap.size w (wr.setCell ⟨M + 2, 0, none⟩ (.slice (some ⟨g, off2, none⟩) q c2)) := hb.setCell (by show w.heap.size ≤ M + 2; omega) _
            have ha8 : (l.getD p ByteArray.empty).size ≤ 8 := ap_size HAp.out H8.out _ (by rw [List.getD_eq_getElem?_getD, List.getElem?_eq_getElem hp]; exact List.getElem_mem hp)
            have HK1 := HK _ hB2 _ ha8
            have HAs : Hid (∀ F, Cnt (wl ws) (l.getD p ByteArray.empty) F (wl ws).length → Ap (wl ws) (addL l F) (p + 1) ∧ ∀ r ∈ F, r.size ≤ 8) := hid (fun F hF => ⟨ap_step HAp.out hp hF, cnt_size hF H8.out ha8⟩)
            have HA2 := hid hA2
            have HB2 := hid hB2
            have HSz : Hid (wr.heap.size = (wr.setCell ⟨M + 2, 0, none⟩ (.slice (some ⟨g, off2, none⟩) q c2)).heap.size) := hid (by simp)
            generalize l.getD p ByteArray.empty = a at c1 HK1 HAs
            clear hc hA2 hB2 ha8 HAp HA HQt
            have hlook := look_bool hmD str_keyed Try.underlying44 Try.underlying4 (zero_bool _) hkey hat
            clear hmD
            go_wp2_with fail
            refine HK1.out.mono ?_
            rintro e w4 ⟨vr, F, rfl, hC, hF6, hO, hb4⟩
            have HA4 := hid (HA2.out.below hb4)
            have HB4 := hid (HB2.out.trans (hb4.mono HB2.out.size))
            have HAs2 := hid (HAs.out F hC)
            have hrow := hO.row
            rw [← HSz.out] at hrow
            obtain ⟨B, cB, rfl, hrow⟩ := hrow
            have HRow := hid hrow
            generalize hm : F.length = m at hF6 HRow ⊢
            have HM := hid hm
            clear hm hrow hO hC hb4 HK1 HA2 HB2 HSz HAs cS cV fV hat hlook hrun0 hrun1 c1
            go_wp2_with fail
            go_loopw [48] (fun x wr => ∃ (j : Nat) (v : Value), j ≤ m ∧ x = .int .i64 j ∧ Hid (ApM wr M (addL l (F.take j)) (p + 1) v) ∧ Hid (KeepQ w4 wr M (M + 2) (.slice (some ⟨g, off2, none⟩) q c2) v)) (fun x _ => m - (intOf x).toNat)
            case atStart => exact ⟨0, _, by omega, rfl, HA4, hid (KeepQ.refl _ _ _ _)⟩
            case round =>
              have hhi := HA4.out.hi
              clear HA4
              obtain ⟨j, v, hjm, rfl, HA, HQ⟩ := hrel
              by_cases hlt : j < m
              · obtain ⟨g2, rfl, hg1, hg2, hgc⟩ := HRow.out (by omega)
                have hjF : j < F.length := by rw [HM.out]; exact hlt
                have hgw := hgl
                have c1 := (HQ.out.cell hg2 (by omega) (by omega) (by simp only [Value.ownBlock]; intro e; injection e with e; omega) j).trans (hgc j hlt)
                have hx8 : (F.getD j ByteArray.empty).size ≤ 8 := HAs2.out.2 _ (by rw [List.getD_eq_getElem?_getD, List.getElem?_eq_getElem hjF]; exact List.getElem_mem hjF)
                have hln : (addL l (F.take j)).length ≤ 1000 := Nat.le_trans (addL_len _ _) (by rw [List.length_take]; omega)
                have HAd := hid (add_any (F.getD j ByteArray.empty) M (p + 1) _ v wr hx8 hln HA.out)
                rw [← addL_take l hjF] at HAd
                have j1 : (j : Int) < (m : Int) := by omega
                generalize F.getD j ByteArray.empty = X at c1 HAd
                clear hgc hjF hx8 hln HA
                go_wp2_with fail
                refine HAd.out.mono ?_
                rintro e w5 ⟨rfl, v', hA5, hQ5⟩
                have HA5 := hid hA5
                have HQ5 := hid (HQ.out.trans hQ5)
                clear hA5 hQ5 HAd HQ c1
                go_wp2_with fail
                go_roundw
                case rel => exact ⟨j + 1, v', by omega, by go_num, HA5, HQ5⟩
                case measure => simp [intOf]; omega
              · obtain rfl : j = m := by omega
                have hA := HA.out
                rw [List.take_of_length_le (by rw [HM.out]; exact Nat.le_refl _)] at hA
                have hbR : Below w.heap.size w wr := HB4.out.trans (HQ.out.below HB4.out.size hM (by omega) (fun b hb' => by
                  have : g = b := by simpa [Value.ownBlock] using hb'
                  omega))
                have HS1 : Hid (∃ (l : List ByteArray) (p : Nat) (v : Value), 55 ≤ gk - 1 + p ∧ Ap (wl ws) l p ∧ ApM wr M l p v) := hid ⟨_, p + 1, v, by omega, HAs2.out.1, hA⟩
                have hgk : gk - 1 < gk := by omega
                clear hA HA HQ HRow HM HAs2 HB4
                go_wp2_with fail
                go_roundg (gk - 1)
                case measure => exact hgk
                case rel => exact ⟨HS1, hbR⟩
end Go.Proofs.Ytlfncplldppncaa

/-
  Contract of many.check: nil where the words are as they should be and the text is not too long, else the error that comes first. Conditions: the sizes that a row itself sets.
-/
namespace Go.Proofs.Ytlfncplldppncaa
open Go.RowKit

/-- What is wrong with the words and the text. -/
def BadM (ws : List ByteArray) (t : ByteArray) (k : Int) : Prop := Bad ws k ∨ (Fine ws ∧ 24 < t.size ∧ k = 4)
theorem badM_or (ws : List ByteArray) (t : ByteArray) : (Fine ws ∧ t.size ≤ 24) ∨ ∃ k, BadM ws t k := by
  rcases words_or ws with h | ⟨k, h⟩
  · rcases Nat.lt_or_ge 24 t.size with h' | h'
    · exact .inr ⟨4, .inr ⟨h, h', rfl⟩⟩
    · exact .inl ⟨h, h'⟩
  · exact .inr ⟨k, .inl h⟩
theorem mcheck_ok (A : Option Addr) (n c : Nat) (ws : List ByteArray) (t : ByteArray) (w : World) (hf : Fine ws) (ht : t.size ≤ 24) (h : IsStrs w w.heap.size A n ws) :
    Calls Try.prog 34 #[.slice A n c, .string t] w fun e w' => e = .returned .nilIface ∧ Below w.heap.size w w' := by
  have HC := hid (tcheck_ok A n c ws w hf h)
  clear h hf
  go_enter Try.func34, Try.ntmps34
  go_wp2_with fail
  refine HC.out.mono ?_
  rintro e w1 ⟨rfl, hb⟩
  go_wp2_with fail
  go_ret
  exact ⟨rfl, hb⟩
theorem mcheck_bad (A : Option Addr) (n c : Nat) (ws : List ByteArray) (t : ByteArray) (k : Int) (w : World) (hn : n ≤ maxLen) (hs : ∀ i, i < n → (wat ws i).size ≤ maxLen) (ht : t.size ≤ maxLen) (hk : BadM ws t k) (h : IsStrs w w.heap.size A n ws) :
    Calls Try.prog 34 #[.slice A n c, .string t] w fun e w' => e = .returned (.iface 58 (.int .i64 k)) ∧ Below w.heap.size w w' := by
  rcases hk with hk | ⟨hf, h24, rfl⟩
  · have HC := hid (tcheck_bad A n c ws k w hn hs hk h)
    clear h hk hs hn ht
    go_enter Try.func34, Try.ntmps34
    go_wp2_with fail
    refine HC.out.mono ?_
    rintro e w1 ⟨rfl, hb⟩
    go_wp2_with fail
    go_ret
    exact ⟨rfl, hb⟩
  · have HC := hid (tcheck_ok A n c ws w hf h)
    clear h hf hs hn
    unfold maxLen at ht
    go_enter Try.func34, Try.ntmps34
    go_wp2_with fail
    refine HC.out.mono ?_
    rintro e w1 ⟨rfl, hb⟩
    go_wp2_with fail
    go_ret
    exact ⟨rfl, hb⟩
end Go.Proofs.Ytlfncplldppncaa

/-
  Plain mathematics of many words in a text, without a program: which words a text ends with, the hits by their ends and by their beginnings, the greedy cutting of a text. No condition.
-/
namespace Go.Proofs.Ytlfncplldppncaa

/-- p is a beginning of a word, and not the empty one. -/
def IsPre (ws : List ByteArray) (p : List UInt8) : Prop := p ≠ [] ∧ ∃ k, k < ws.length ∧ p <+: bs (wat ws k)
/-- The places of the words with which p ends. -/
def endN (ws : List ByteArray) (p : List UInt8) (n : Nat) : List Nat := (List.range n).filter fun k => decide (bs (wat ws k) <:+ p)
def endI (ws : List ByteArray) (p : List UInt8) (n : Nat) : List Int := (endN ws p n).map Int.ofNat
theorem endN_succ (ws : List ByteArray) (p : List UInt8) (n : Nat) : endN ws p (n + 1) = endN ws p n ++ (if bs (wat ws n) <:+ p then [n] else []) := by
  unfold endN
  rw [List.range_succ, List.filter_append]
  by_cases h : bs (wat ws n) <:+ p <;> simp [h]
theorem endI_yes {ws : List ByteArray} {p : List UInt8} {n : Nat} (h : bs (wat ws n) <:+ p) : endI ws p (n + 1) = endI ws p n ++ [(n : Int)] := by
  unfold endI; rw [endN_succ, if_pos h]; simp
theorem endI_no {ws : List ByteArray} {p : List UInt8} {n : Nat} (h : ¬ bs (wat ws n) <:+ p) : endI ws p (n + 1) = endI ws p n := by
  unfold endI; rw [endN_succ, if_neg h]; simp
theorem endN_len (ws : List ByteArray) (p : List UInt8) (n : Nat) : (endN ws p n).length ≤ n := by
  unfold endN; have := List.length_filter_le (fun k => decide (bs (wat ws k) <:+ p)) (List.range n); simpa using this
theorem endI_len (ws : List ByteArray) (p : List UInt8) (n : Nat) : (endI ws p n).length ≤ n := by
  unfold endI; rw [List.length_map]; exact endN_len ws p n
theorem endN_mem {ws : List ByteArray} {p : List UInt8} {n k : Nat} : k ∈ endN ws p n ↔ k < n ∧ bs (wat ws k) <:+ p := by simp [endN]
theorem endI_getD (ws : List ByteArray) (p : List UInt8) (n j : Nat) (h : j < (endI ws p n).length) : (endI ws p n).getD j 0 = ((endN ws p n).getD j 0 : Nat) := by
  have h' : j < (endN ws p n).length := by simpa [endI] using h
  simp [endI, List.getD_eq_getElem?_getD, h']
theorem endN_get (ws : List ByteArray) (p : List UInt8) (n j : Nat) (h : j < (endN ws p n).length) : (endN ws p n).getD j 0 < n ∧ bs (wat ws ((endN ws p n).getD j 0)) <:+ p := by
  have : (endN ws p n).getD j 0 ∈ endN ws p n := by simp [List.getD_eq_getElem?_getD, h]
  exact endN_mem.1 this
theorem pos_bs {ws : List ByteArray} (hf : Fine ws) {k : Nat} (hk : k < ws.length) : bs (wat ws k) ≠ [] := by
  intro e
  have := (hf.2 k hk).2.1
  rw [← bs_len, e] at this
  simp at this
theorem endN_nil {ws : List ByteArray} (hf : Fine ws) : endN ws [] ws.length = [] := by
  rw [List.eq_nil_iff_forall_not_mem]
  intro k hk
  obtain ⟨h1, h2⟩ := endN_mem.1 hk
  exact pos_bs hf h1 (List.suffix_nil.1 h2)

/-! ### The search's state: nothing that begins further left is a beginning of a word -/
def Clear (ws : List ByteArray) (t : List UInt8) (i b : Nat) : Prop := b ≤ i ∧ ∀ j, j < b → ¬ IsPre ws ((t.take i).drop j)
theorem clear_start (ws : List ByteArray) (t : List UInt8) : Clear ws t 0 0 := ⟨Nat.le_refl _, fun _ h => by omega⟩
theorem clear_next {ws : List ByteArray} {t : List UInt8} {i b : Nat} (h : Clear ws t i b) (hi : i < t.length) : ∀ j, j < b → ¬ IsPre ws ((t.take (i + 1)).drop j) := by
  rintro j hj ⟨_, k, hk, hp⟩
  have hb := h.1
  refine h.2 j hj ⟨?_, k, hk, List.IsPrefix.trans ?_ hp⟩
  · intro e
    have := congrArg List.length e
    rw [List.length_drop, List.length_take, List.length_nil] at this
    omega
  · rw [List.drop_take, List.drop_take]
    exact List.take_prefix_take_left (by omega)
theorem clear_more {ws : List ByteArray} {t : List UInt8} {i b : Nat} (h : ∀ j, j < b → ¬ IsPre ws ((t.take (i + 1)).drop j)) (hn : ¬ IsPre ws ((t.take (i + 1)).drop b)) : ∀ j, j < b + 1 → ¬ IsPre ws ((t.take (i + 1)).drop j) := by
  intro j hj
  by_cases e : j = b
  · subst e; exact hn
  · exact h j (by omega)
/-- Then the words with which the text so far ends are those with which the state ends. -/
theorem clear_ends {ws : List ByteArray} (hf : Fine ws) {t : List UInt8} {i b : Nat} (hi : i < t.length) (hb : b ≤ i + 1) (h : ∀ j, j < b → ¬ IsPre ws ((t.take (i + 1)).drop j)) :
    endN ws ((t.take (i + 1)).drop b) ws.length = endN ws (t.take (i + 1)) ws.length := by
  unfold endN
  apply List.filter_congr
  intro k hk
  have hk' : k < ws.length := by simpa using hk
  rw [Bool.eq_iff_iff]
  simp only [decide_eq_true_eq]
  constructor
  · intro hs; exact hs.trans (List.drop_suffix _ _)
  · intro hs
    have hl := hs.length_le
    have e := List.suffix_iff_eq_drop.1 hs
    have hlen : (t.take (i + 1)).length = i + 1 := by rw [List.length_take]; omega
    rw [hlen] at e hl
    have hbk : b ≤ i + 1 - (bs (wat ws k)).length := by
      rcases Nat.lt_or_ge (i + 1 - (bs (wat ws k)).length) b with h1 | h1
      · exact absurd ⟨by rw [← e]; exact pos_bs hf hk', k, hk', by rw [← e]; exact List.prefix_refl _⟩ (h _ h1)
      · exact h1
    refine List.suffix_of_suffix_length_le hs (List.drop_suffix _ _) ?_
    rw [List.length_drop, hlen]; omega

/-! ### The hits -/
/-- The hits of the words that end at place i + 1. -/
def hitAt (ws : List ByteArray) (t : List UInt8) (i : Nat) : List (Nat × Nat) := (endN ws (t.take (i + 1)) ws.length).map fun k => (i + 1 - (bs (wat ws k)).length, k)
/-- The hits by their ends. -/
def hitE (ws : List ByteArray) (t : List UInt8) (n : Nat) : List (Nat × Nat) := (List.range n).flatMap fun i => hitAt ws t i
/-- The hits that begin at place i, of the first m words. -/
def hitB (ws : List ByteArray) (t : List UInt8) (i m : Nat) : List (Nat × Nat) := ((List.range m).filter fun k => decide (bs (wat ws k) <+: t.drop i)).map fun k => (i, k)
/-- The hits by their beginnings. -/
def hitL (ws : List ByteArray) (t : List UInt8) (n : Nat) : List (Nat × Nat) := (List.range n).flatMap fun i => hitB ws t i ws.length
theorem hitE_succ (ws : List ByteArray) (t : List UInt8) (n : Nat) : hitE ws t (n + 1) = hitE ws t n ++ hitAt ws t n := by
  unfold hitE; rw [List.range_succ, List.flatMap_append]; simp
theorem hitL_succ (ws : List ByteArray) (t : List UInt8) (n : Nat) : hitL ws t (n + 1) = hitL ws t n ++ hitB ws t n ws.length := by
  unfold hitL; rw [List.range_succ, List.flatMap_append]; simp
theorem hitB_succ (ws : List ByteArray) (t : List UInt8) (i m : Nat) : hitB ws t i (m + 1) = hitB ws t i m ++ (if bs (wat ws m) <+: t.drop i then [(i, m)] else []) := by
  unfold hitB
  rw [List.range_succ, List.filter_append, List.map_append]
  by_cases h : bs (wat ws m) <+: t.drop i <;> simp [h]
theorem hitB_yes {ws : List ByteArray} {t : List UInt8} {i m : Nat} (h : bs (wat ws m) <+: t.drop i) : hitB ws t i (m + 1) = hitB ws t i m ++ [(i, m)] := by rw [hitB_succ, if_pos h]
theorem hitB_no {ws : List ByteArray} {t : List UInt8} {i m : Nat} (h : ¬ bs (wat ws m) <+: t.drop i) : hitB ws t i (m + 1) = hitB ws t i m := by rw [hitB_succ, if_neg h, List.append_nil]
theorem hitB_len (ws : List ByteArray) (t : List UInt8) (i m : Nat) : (hitB ws t i m).length ≤ m := by
  unfold hitB; rw [List.length_map]; have := List.length_filter_le (fun k => decide (bs (wat ws k) <+: t.drop i)) (List.range m); simpa using this
theorem hitL_len (ws : List ByteArray) (t : List UInt8) (n : Nat) : (hitL ws t n).length ≤ n * ws.length := by
  induction n with
  | zero => simp [hitL]
  | succ n ih => rw [hitL_succ, List.length_append, Nat.add_mul]; have := hitB_len ws t n ws.length; omega
theorem hitB_mem {ws : List ByteArray} {t : List UInt8} {i m : Nat} {x : Nat × Nat} : x ∈ hitB ws t i m ↔ x.1 = i ∧ x.2 < m ∧ bs (wat ws x.2) <+: t.drop i := by
  obtain ⟨a, k⟩ := x
  simp only [hitB, List.mem_map, List.mem_filter, List.mem_range, decide_eq_true_eq, Prod.mk.injEq]
  constructor
  · rintro ⟨k', ⟨h1, h2⟩, rfl, rfl⟩; exact ⟨rfl, h1, h2⟩
  · rintro ⟨rfl, h1, h2⟩; exact ⟨k, ⟨h1, h2⟩, rfl, rfl⟩
theorem hitL_mem {ws : List ByteArray} {t : List UInt8} {n : Nat} {x : Nat × Nat} : x ∈ hitL ws t n ↔ x.1 < n ∧ x.2 < ws.length ∧ bs (wat ws x.2) <+: t.drop x.1 := by
  simp only [hitL, List.mem_flatMap, List.mem_range, hitB_mem]
  constructor
  · rintro ⟨i, hi, rfl, h⟩; exact ⟨hi, h⟩
  · rintro ⟨hi, h⟩; exact ⟨_, hi, rfl, h⟩
/-- What ends at place m begins so far ahead of it. -/
theorem ends_begins {t x : List UInt8} {m : Nat} (hm : m ≤ t.length) (hx : x.length ≤ m) : x <:+ t.take m ↔ x <+: t.drop (m - x.length) := by
  rw [List.suffix_iff_eq_drop, List.prefix_iff_eq_take, List.length_take, show min m t.length = m by omega, List.drop_take, show m - (m - x.length) = x.length by omega]
theorem hitE_mem {ws : List ByteArray} (hf : Fine ws) {t : List UInt8} {x : Nat × Nat} : x ∈ hitE ws t t.length ↔ x.1 < t.length ∧ x.2 < ws.length ∧ bs (wat ws x.2) <+: t.drop x.1 := by
  obtain ⟨a, k⟩ := x
  simp only [hitE, hitAt, List.mem_flatMap, List.mem_range, List.mem_map, endN_mem, Prod.mk.injEq]
  constructor
  · rintro ⟨i, hi, k', ⟨h1, h2⟩, rfl, rfl⟩
    have hl := h2.length_le
    rw [List.length_take] at hl
    have hp := pos_bs hf h1
    have hp' : 0 < (bs (wat ws k')).length := List.length_pos_iff.2 hp
    exact ⟨by omega, h1, (ends_begins (by omega) (by omega)).1 h2⟩
  · rintro ⟨ha, hk, hp⟩
    have hl := hp.length_le
    rw [List.length_drop] at hl
    have hp' : 0 < (bs (wat ws k)).length := List.length_pos_iff.2 (pos_bs hf hk)
    refine ⟨a + (bs (wat ws k)).length - 1, by omega, k, ⟨hk, ?_⟩, by omega, rfl⟩
    rw [show a + (bs (wat ws k)).length - 1 + 1 = a + (bs (wat ws k)).length by omega]
    refine (ends_begins (by omega) (by omega)).2 ?_
    rwa [show a + (bs (wat ws k)).length - (bs (wat ws k)).length = a by omega]
/-- By place, then by word. -/
def hlt (x y : Nat × Nat) : Prop := x.1 < y.1 ∨ (x.1 = y.1 ∧ x.2 < y.2)
theorem hlt_ne {x y : Nat × Nat} (h : hlt x y) : x ≠ y := by rintro rfl; rcases h with h | h <;> omega
theorem range_filter_lt (p : Nat → Bool) (n : Nat) : ((List.range n).filter p).Pairwise (· < ·) := List.Pairwise.filter _ List.pairwise_lt_range
theorem hitL_sorted (ws : List ByteArray) (t : List UInt8) (n : Nat) : (hitL ws t n).Pairwise hlt := by
  unfold hitL
  rw [List.pairwise_flatMap]
  refine ⟨fun i _ => ?_, List.pairwise_lt_range.imp ?_⟩
  · unfold hitB
    rw [List.pairwise_map]
    exact (range_filter_lt _ _).imp fun h => .inr ⟨rfl, h⟩
  · intro i j hij x hx y hy
    exact .inl (by rw [(hitB_mem.1 hx).1, (hitB_mem.1 hy).1]; exact hij)
theorem hitE_nodup {ws : List ByteArray} {t : List UInt8} : (hitE ws t t.length).Nodup := by
  unfold hitE
  rw [List.nodup_iff_pairwise_ne, List.pairwise_flatMap]
  refine ⟨fun i _ => ?_, List.Pairwise.imp_of_mem ?_ (List.pairwise_lt_range (n := t.length))⟩
  · unfold hitAt
    rw [List.pairwise_map]
    exact (range_filter_lt _ _).imp fun h e => by have := (Prod.mk.inj e).2; omega
  · intro i j hi hj hij x hx y hy e
    subst e
    have hi' := List.mem_range.1 hi
    have hj' := List.mem_range.1 hj
    obtain ⟨k, hk, rfl⟩ := List.mem_map.1 hx
    obtain ⟨k', hk', e⟩ := List.mem_map.1 hy
    obtain ⟨e1, rfl⟩ := Prod.mk.inj e
    have h1 := (endN_mem.1 hk).2.length_le
    have h2 := (endN_mem.1 hk').2.length_le
    rw [List.length_take] at h1 h2
    omega
theorem hits_perm {ws : List ByteArray} (hf : Fine ws) (t : List UInt8) : (hitE ws t t.length).Perm (hitL ws t t.length) :=
  (List.perm_ext_iff_of_nodup hitE_nodup (List.nodup_iff_pairwise_ne.2 ((hitL_sorted ws t t.length).imp hlt_ne))).2 fun x => by rw [hitE_mem hf, hitL_mem]
/-- Sorted, the hits by their ends are the hits by their beginnings. -/
theorem hits_sorted {ws : List ByteArray} (hf : Fine ws) {t : List UInt8} {l : List (Nat × Nat)} (hp : l.Perm (hitE ws t t.length)) (hs : l.Pairwise fun x y => ¬ hlt y x) : l = hitL ws t t.length := by
  refine List.Perm.eq_of_pairwise (le := fun x y => ¬ hlt y x) ?_ hs ((hitL_sorted ws t t.length).imp ?_) (hp.trans (hits_perm hf t))
  · rintro ⟨a, b⟩ ⟨c, d⟩ _ _ h1 h2
    simp only [hlt, not_or, not_and, Nat.not_lt] at h1 h2
    have e : a = c := by omega
    subst e
    have := h1.2 rfl; have := h2.2 rfl
    rw [show b = d by omega]
  · rintro ⟨a, b⟩ ⟨c, d⟩ h
    simp only [hlt] at h ⊢
    omega

/-! ### Greedy cutting -/
/-- What cutting the text t answers: the places of the words, or that there is none. -/
inductive CutR (W : List Wd) : List UInt8 → Option (List Int) → Prop
  | fin : CutR W [] (some [])
  | bad {t : List UInt8} : t ≠ [] → Lg W t (-1) → CutR W t none
  | step {t x : List UInt8} {j : Nat} {r : Option (List Int)} : t ≠ [] → Lg W t (j : Nat) → (x, j) ∈ W → CutR W (t.drop x.length) r → CutR W t (r.map ((j : Int) :: ·))
theorem cut_one {W : List Wd} (hO : Once W) (hW : ∀ x y j, (x, j) ∈ W → (y, j) ∈ W → x = y) {t : List UInt8} {r : Option (List Int)} (h : CutR W t r) : ∀ {r' : Option (List Int)}, CutR W t r' → r = r' := by
  induction h with
  | fin =>
    intro r' h'
    cases h' with
    | fin => rfl
    | bad h _ => exact absurd rfl h
    | step h _ _ _ => exact absurd rfl h
  | bad hne hl =>
    intro r' h'
    cases h' with
    | fin => exact absurd rfl hne
    | bad _ _ => rfl
    | step _ hl' _ _ => have := lg_one hO hl hl'; omega
  | @step t x j r hne hl hm _ ih =>
    intro r' h'
    generalize ht : t = t' at h'
    cases h' with
    | fin => exact absurd ht hne
    | bad _ hl' => subst ht; have := lg_one hO hl hl'; omega
    | @step _ y j' r'' _ hl' hm' h'' =>
      subst ht
      have e : (j : Int) = j' := lg_one hO hl hl'
      obtain rfl : j = j' := by omega
      obtain rfl := hW x y j hm hm'
      rw [ih h'']
/-- What is done: whatever the rest answers, the whole answers with what is done ahead. -/
def CutTo (W : List Wd) (t : List UInt8) (out : List Int) (m : List UInt8) : Prop := ∀ r, CutR W m r → CutR W t (r.map (out ++ ·))
theorem cutTo_start (W : List Wd) (t : List UInt8) : CutTo W t [] t := fun r h => by cases r <;> simpa using h
theorem cutTo_step {W : List Wd} {t m x : List UInt8} {out : List Int} {j : Nat} (h : CutTo W t out m) (hne : m ≠ []) (hl : Lg W m (j : Nat)) (hm : (x, j) ∈ W) : CutTo W t (out ++ [(j : Int)]) (m.drop x.length) := by
  intro r hr
  have := h _ (CutR.step hne hl hm hr)
  cases r with
  | none => simpa using this
  | some l => simpa using this
theorem cutTo_fin {W : List Wd} {t : List UInt8} {out : List Int} (h : CutTo W t out []) : CutR W t (some out) := by simpa using h _ CutR.fin
theorem cutTo_bad {W : List Wd} {t m : List UInt8} {out : List Int} (h : CutTo W t out m) (hne : m ≠ []) (hl : Lg W m (-1)) : CutR W t none := by simpa using h _ (CutR.bad hne hl)
end Go.Proofs.Ytlfncplldppncaa

/-
  A trie in memory: nodes and their maps, kept by whatever leaves them alone, with one word's place set, with one node more. No condition.
-/
namespace Go.Proofs.Ytlfncplldppncaa
open Go.RowKit Go.Maps

/-! ### Which nodes there are -/
def nodeB (W : List Wd) (p : List UInt8) : Bool := p.isEmpty || !(subs p W).isEmpty
/-- The nodes of the words W, and of the first k signs of the word x. -/
def sk (W : List Wd) (x : List UInt8) (k : Nat) (p : List UInt8) : Bool := nodeB W p || (p.isPrefixOf x && decide (p.length ≤ k))
theorem sk_zero (W : List Wd) (x : List UInt8) : sk W x 0 = nodeB W := by
  funext p
  cases p with
  | nil => simp [sk, nodeB]
  | cons c p => simp [sk]
theorem pre_take {p x : List UInt8} (h : p <+: x) : p = x.take p.length := (List.prefix_iff_eq_take.1 h)
theorem sk_succ (W : List Wd) {x : List UInt8} {k : Nat} (hk : k < x.length) : sk W x (k + 1) = fun q => sk W x k q || decide (q = x.take (k + 1)) := by
  funext p
  rw [Bool.eq_iff_iff]
  simp only [sk, Bool.or_eq_true, Bool.and_eq_true, List.isPrefixOf_iff_prefix, decide_eq_true_eq]
  constructor
  · rintro (h | ⟨h, hl⟩)
    · exact .inl (.inl h)
    · by_cases e : p.length = k + 1
      · exact .inr (by have := pre_take h; rw [e] at this; exact this)
      · exact .inl (.inr ⟨h, by omega⟩)
  · rintro ((h | ⟨h, hl⟩) | rfl)
    · exact .inl h
    · exact .inr ⟨h, by omega⟩
    · exact .inr ⟨List.take_prefix _ _, by rw [List.length_take]; omega⟩
theorem sk_at (W : List Wd) {x : List UInt8} {k : Nat} : sk W x k (x.take k) = true := by
  simp only [sk, Bool.or_eq_true, Bool.and_eq_true, List.isPrefixOf_iff_prefix, decide_eq_true_eq]
  exact .inr ⟨List.take_prefix _ _, by rw [List.length_take]; omega⟩
theorem sk_next (W : List Wd) {x : List UInt8} {k : Nat} (hk : k < x.length) : sk W x k (x.take (k + 1)) = nodeB W (x.take (k + 1)) := by
  have : decide ((x.take (k + 1)).length ≤ k) = false := by rw [List.length_take, decide_eq_false_iff_not]; omega
  simp only [sk, this, Bool.and_false, Bool.or_false]
theorem sk_end (W : List Wd) (x : List UInt8) (i : Nat) : sk W x x.length = nodeB (W ++ [(x, i)]) := by
  funext p
  rw [Bool.eq_iff_iff]
  simp only [sk, nodeB, Bool.or_eq_true, Bool.and_eq_true, List.isPrefixOf_iff_prefix, decide_eq_true_eq, List.isEmpty_iff, Bool.not_eq_true', List.isEmpty_eq_false_iff, subs_append]
  by_cases h : p <+: x
  · obtain ⟨r, rfl⟩ := h
    rw [subs_one_yes]
    simp
  · rw [subs_one_no h]
    simp [h]
theorem wd_snoc_other {L : List Wd} {r : List UInt8} {i : Nat} (h : r ≠ []) : wd (L ++ [(r, i)]) = wd L := by
  unfold wd
  rw [List.find?_append]
  cases hf : L.find? (fun p => p.1.isEmpty) with
  | some p => rfl
  | none => simp [h]
theorem wd_snoc_new {L : List Wd} {i : Nat} (h : ∀ j, ([], j) ∉ L) : wd (L ++ [([], i)]) = i := by
  have hf : L.find? (fun p => p.1.isEmpty) = none := by
    rw [List.find?_eq_none]
    rintro ⟨x, j⟩ hm he
    have : x = [] := by simpa using he
    subst this
    exact h j hm
  unfold wd
  rw [List.find?_append, hf]
  simp
theorem wd_set {W : List Wd} {x : List UInt8} {i : Nat} (h : ∀ j, (x, j) ∉ W) : (fun q => if q = x then (i : Int) else wd (subs q W)) = fun q => wd (subs q (W ++ [(x, i)])) := by
  funext q
  rw [subs_append]
  by_cases hq : q <+: x
  · obtain ⟨r, rfl⟩ := hq
    rw [subs_one_yes]
    by_cases hr : r = []
    · subst hr
      rw [if_pos (by simp), wd_snoc_new]
      intro j hj
      exact h j (mem_subs.1 hj)
    · rw [if_neg (by simpa using fun e => hr e), wd_snoc_other hr]
  · rw [subs_one_no hq, List.append_nil, if_neg]
    rintro rfl
    exact hq (List.prefix_refl _)
theorem wd_fresh {W : List Wd} {p : List UInt8} (h : nodeB W p = false) : wd (subs p W) = -1 := by
  have : subs p W = [] := by
    simp only [nodeB, Bool.or_eq_false_iff, Bool.not_eq_false', List.isEmpty_iff] at h
    exact h.2
  rw [this]; rfl
theorem nodeB_kid {W : List Wd} {p : List UInt8} {c : UInt8} : nodeB W (p ++ [c]) = !(kid c (subs p W)).isEmpty := by
  rw [nodeB, subs_snoc]; simp
theorem nodeB_closed {W : List Wd} {p : List UInt8} {c : UInt8} (h : nodeB W (p ++ [c]) = true) : nodeB W p = true := by
  rw [nodeB_kid] at h
  simp only [nodeB, Bool.or_eq_true]
  right
  cases e : subs p W with
  | nil => rw [e] at h; simp [kid] at h
  | cons => rfl
theorem nodeB_root (W : List Wd) : nodeB W [] = true := rfl

/-! ### In memory -/
/-- The map's datum D leads from the node p to the nodes of one sign more. -/
def Kids (D : DataW Unit) (S : List UInt8 → Bool) (B : List UInt8 → Nat) (p : List UInt8) : Prop :=
  IsMap D ∧ ∀ c : UInt8, Maps.has D (keyL c) = S (p ++ [c]) ∧ (S (p ++ [c]) = true → ∀ z, D.atKey (keyL c) z = .lit (.int .i64 (B (p ++ [c]) : Int)))
structure TrM (w : World) (base top N : Nat) (S : List UInt8 → Bool) (X : List UInt8 → Int) (B C : List UInt8 → Nat) : Prop where
  root : S [] = true
  closed : ∀ p c, S (p ++ [c]) = true → S p = true
  cell : ∀ p, S p = true → w.heap[B p]? = some (.cells #[.int .i64 (X p), .map (some (C p))] 74 (0, 0))
  map : ∀ p, S p = true → ∃ D, w.ownsMap Try.prog 5 ptrE (C p) N D ∧ Kids D S B p
  inj : ∀ p q, S p = true → S q = true → B p = B q → p = q
  injC : ∀ p q, S p = true → S q = true → C p = C q → p = q
  lo : ∀ p, S p = true → base ≤ B p ∧ base ≤ C p
  hi : ∀ p, S p = true → B p < top ∧ C p < top
  le : top ≤ w.heap.size
theorem ownsMap_block {w w' : World} {b n : Nat} {D : DataW Unit} (h : w.ownsMap Try.prog 5 ptrE b n D) (e : w'.heap[b]? = w.heap[b]?) : w'.ownsMap Try.prog 5 ptrE b n D := by
  obtain ⟨es, clock, hb, r⟩ := h
  exact ⟨es, clock, e.trans hb, r⟩
theorem TrM.below {w w' : World} {base top N : Nat} {S : List UInt8 → Bool} {X : List UInt8 → Int} {B C : List UInt8 → Nat} (h : TrM w base top N S X B C) (hb : Below top w w') : TrM w' base top N S X B C where
  root := h.root
  closed := h.closed
  cell p hp := (hb.block _ (h.hi p hp).1).trans (h.cell p hp)
  map p hp := by
    obtain ⟨D, hm, hk⟩ := h.map p hp
    exact ⟨D, ownsMap_block hm (hb.block _ (h.hi p hp).2), hk⟩
  inj := h.inj
  injC := h.injC
  lo := h.lo
  hi := h.hi
  le := Nat.le_trans h.le hb.size
theorem TrM.mono {w : World} {base top N N' : Nat} {S : List UInt8 → Bool} {X : List UInt8 → Int} {B C : List UInt8 → Nat} (h : TrM w base top N S X B C) (hN : N ≤ N') : TrM w base top N' S X B C where
  root := h.root
  closed := h.closed
  cell := h.cell
  map p hp := by
    obtain ⟨D, hm, hk⟩ := h.map p hp
    exact ⟨D, hm.mono hN, hk⟩
  inj := h.inj
  injC := h.injC
  lo := h.lo
  hi := h.hi
  le := h.le
theorem TrM.c0 {w : World} {base top N : Nat} {S : List UInt8 → Bool} {X : List UInt8 → Int} {B C : List UInt8 → Nat} (h : TrM w base top N S X B C) {p : List UInt8} (hp : S p = true) : w.cell? ⟨B p, 0, none⟩ = some (.int .i64 (X p)) := by
  simp [World.cell?, h.cell p hp]
theorem TrM.c1 {w : World} {base top N : Nat} {S : List UInt8 → Bool} {X : List UInt8 → Int} {B C : List UInt8 → Nat} (h : TrM w base top N S X B C) {p : List UInt8} (hp : S p = true) : w.cell? ⟨B p, 1, none⟩ = some (.map (some (C p))) := by
  simp [World.cell?, h.cell p hp]
theorem TrM.f0 {w : World} {base top N : Nat} {S : List UInt8 → Bool} {X : List UInt8 → Int} {B C : List UInt8 → Nat} (h : TrM w base top N S X B C) {p : List UInt8} (hp : S p = true) : w.frozen? ⟨B p, 0, none⟩ = false := by
  simp [World.frozen?, h.cell p hp]
theorem TrM.neBC {w : World} {base top N : Nat} {S : List UInt8 → Bool} {X : List UInt8 → Int} {B C : List UInt8 → Nat} (h : TrM w base top N S X B C) {p q : List UInt8} (hp : S p = true) (hq : S q = true) : B p ≠ C q := by
  intro e
  obtain ⟨D, ⟨es, clock, hb, _⟩, _⟩ := h.map q hq
  have := h.cell p hp
  rw [e, hb] at this
  cases this

theorem heap_setCell_two {w : World} {b : Nat} {u v : Value} {t : TypeId} (x : Value) (h : w.heap[b]? = some (.cells #[u, v] t (0, 0))) : (w.setCell ⟨b, 0, none⟩ x).heap[b]? = some (.cells #[x, v] t (0, 0)) := by
  obtain ⟨hlt, hk⟩ := Array.getElem?_eq_some_iff.1 h
  show (w.heap.modify b _)[b]? = _
  rw [Array.getElem?_eq_getElem (by rw [Array.size_modify]; exact hlt), Array.getElem_modify_self, hk]
  rfl
/-- A word's place set at its node. -/
theorem TrM.word {w : World} {base top N : Nat} {S : List UInt8 → Bool} {X : List UInt8 → Int} {B C : List UInt8 → Nat} (h : TrM w base top N S X B C) {p : List UInt8} (hp : S p = true) (i : Int) :
    TrM (w.setCell ⟨B p, 0, none⟩ (.int .i64 i)) base top N S (fun q => if q = p then i else X q) B C where
  root := h.root
  closed := h.closed
  cell q hq := by
    by_cases e : q = p
    · subst e
      simp only [if_true]
      exact heap_setCell_two _ (h.cell q hq)
    · simp only [if_neg e]
      exact (Below.heap_setCell _ _ _ _ (fun e' => e (h.inj _ _ hq hp e'))).trans (h.cell q hq)
  map q hq := by
    obtain ⟨D, hm, hk⟩ := h.map q hq
    exact ⟨D, ownsMap_block hm (Below.heap_setCell _ _ _ _ (fun e' => h.neBC hp hq e'.symm)), hk⟩
  inj := h.inj
  injC := h.injC
  lo := h.lo
  hi := h.hi
  le := by
    have := h.le
    have e : (w.setCell ⟨B p, 0, none⟩ (.int .i64 i)).heap.size = w.heap.size := by simp
    omega
/-- One node more. -/
theorem TrM.add {w w1 w2 : World} {base top N : Nat} {S : List UInt8 → Bool} {X : List UInt8 → Int} {B C : List UInt8 → Nat} (h : TrM w base top N S X B C) {p : List UInt8} {c : UInt8} (hp : S p = true) (hc : S (p ++ [c]) = false)
    {D : DataW Unit} (hD : Kids D S B p) {b m : Nat} (hb1 : Below w.heap.size w w1) (hbase : base ≤ w.heap.size) (hb : w.heap.size ≤ b) (hm : w.heap.size ≤ m)
    (hm1 : w1.ownsMap Try.prog 5 ptrE m 0 (.map [])) (hb2 : w1.heap[b]? = some (.cells #[.int .i64 (X (p ++ [c])), .map (some m)] 74 (0, 0)))
    (hg : w1.grownBy w2 (some (C p))) (hown : w2.ownsMap Try.prog 5 ptrE (C p) (N + 1) (D.put (keyL c) (.lit (.int .i64 (b : Int))))) :
    TrM w2 base w2.heap.size (N + 1) (fun q => S q || decide (q = p ++ [c])) X (fun q => if q = p ++ [c] then b else B q) (fun q => if q = p ++ [c] then m else C q) := by
  have hle := h.le
  have hbl : b < w1.heap.size := (Array.getElem?_eq_some_iff.1 hb2).1
  have hml : m < w1.heap.size := hm1.lt
  have hsz := hg.size
  have hnp : p ≠ p ++ [c] := fun e => by have := congrArg List.length e; simp at this
  have hCp := (h.hi p hp).2
  have old : ∀ k, k < w.heap.size → k ≠ C p → w2.heap[k]? = w.heap[k]? := fun k hk hne =>
    (hg.block k (by have := hb1.size; omega) (fun e => hne (by simpa using e))).trans (hb1.block k hk)
  have new : ∀ k, w.heap.size ≤ k → k < w1.heap.size → w2.heap[k]? = w1.heap[k]? := fun k hk hk' => hg.block k hk' (fun e => by have : k = C p := by simpa using e
                                                                                                                                omega)
  have hS : ∀ q, (S q || decide (q = p ++ [c])) = true → q = p ++ [c] ∨ (q ≠ p ++ [c] ∧ S q = true) := by
    intro q hq
    by_cases e : q = p ++ [c]
    · exact .inl e
    · simp [e] at hq; exact .inr ⟨e, hq⟩
  have hkid : ∀ q d, q ≠ p → (S (q ++ [d]) || decide (q ++ [d] = p ++ [c])) = S (q ++ [d]) := by
    intro q d hq
    have : q ++ [d] ≠ p ++ [c] := fun e => hq (List.append_inj' e rfl).1
    simp [this]
  refine { root := by simp [h.root], closed := ?_, cell := ?_, map := ?_, inj := ?_, injC := ?_, lo := ?_, hi := ?_, le := Nat.le_refl _ }
  · intro q d hq
    by_cases e : q ++ [d] = p ++ [c]
    · obtain ⟨rfl, _⟩ := List.append_inj' e rfl
      simp [hp]
    · simp only [e, decide_false, Bool.or_false] at hq
      simp [h.closed q d hq]
  · intro q hq
    rcases hS q hq with rfl | ⟨e, hq'⟩
    · simp only [if_true]
      exact (new b hb hbl).trans hb2
    · simp only [if_neg e]
      exact (old _ (by have := (h.hi q hq').1; omega) (h.neBC hq' hp)).trans (h.cell q hq')
  · intro q hq
    rcases hS q hq with rfl | ⟨e, hq'⟩
    · simp only [if_true]
      refine ⟨.map [], (ownsMap_block hm1 (new m hm hml)).mono (by omega), isMap_empty, fun d => ?_⟩
      have h1 : S (p ++ [c] ++ [d]) = false := by
        cases e : S (p ++ [c] ++ [d]) with
        | false => rfl
        | true => have := h.closed _ _ e; rw [hc] at this; cases this
      have h2 : p ++ [c] ++ [d] ≠ p ++ [c] := fun e => by have := congrArg List.length e; simp at this
      have h3 : (S (p ++ [c] ++ [d]) || decide (p ++ [c] ++ [d] = p ++ [c])) = false := by rw [h1]; simp
      refine ⟨h3.symm, fun h' => ?_⟩
      exact absurd (h3.symm.trans h') (by simp)
    · simp only [if_neg e]
      by_cases ep : q = p
      · subst ep
        refine ⟨_, hown, hD.1.put _ _, fun d => ?_⟩
        by_cases ed : d = c
        · subst ed
          refine ⟨by rw [has_put_same hD.1 (keyL_key _)]; simp, fun _ z => ?_⟩
          rw [atKey_put_same hD.1 (keyL_key _)]; simp
        · have hne : q ++ [d] ≠ q ++ [c] := fun e' => ed (by simpa using e')
          rw [has_put_other (keyL_ne ed)]
          refine ⟨by rw [(hD.2 d).1]; simp [hne], fun h' z => ?_⟩
          rw [atKey_put_other (keyL_ne ed)]
          simp only [if_neg hne]
          exact (hD.2 d).2 (by simpa [hne, ed] using h') z
      · obtain ⟨E, hE, hk⟩ := h.map q hq'
        refine ⟨E, (ownsMap_block hE (old _ (by have := (h.hi q hq').2; omega) (fun e' => ep (h.injC _ _ hq' hp e')))).mono (by omega), hk.1, fun d => ?_⟩
        have hne : q ++ [d] ≠ p ++ [c] := fun e' => ep (List.append_inj' e' rfl).1
        have hs := hkid q d ep
        refine ⟨(hk.2 d).1.trans hs.symm, fun h' z => ?_⟩
        simp only [if_neg hne]
        exact (hk.2 d).2 (hs.symm.trans h') z
  · intro q r hq hr e
    rcases hS q hq with rfl | ⟨e1, hq'⟩
    · rcases hS r hr with rfl | ⟨e2, hr'⟩
      · rfl
      · simp only [if_true, if_neg e2] at e
        have := (h.hi r hr').1; omega
    · rcases hS r hr with rfl | ⟨e2, hr'⟩
      · simp only [if_true, if_neg e1] at e
        have := (h.hi q hq').1; omega
      · simp only [if_neg e1, if_neg e2] at e
        exact h.inj _ _ hq' hr' e
  · intro q r hq hr e
    rcases hS q hq with rfl | ⟨e1, hq'⟩
    · rcases hS r hr with rfl | ⟨e2, hr'⟩
      · rfl
      · simp only [if_true, if_neg e2] at e
        have := (h.hi r hr').2; omega
    · rcases hS r hr with rfl | ⟨e2, hr'⟩
      · simp only [if_true, if_neg e1] at e
        have := (h.hi q hq').2; omega
      · simp only [if_neg e1, if_neg e2] at e
        exact h.injC _ _ hq' hr' e
  · intro q hq
    rcases hS q hq with rfl | ⟨e, hq'⟩
    · simp only [if_true]; omega
    · simp only [if_neg e]; exact h.lo q hq'
  · intro q hq
    rcases hS q hq with rfl | ⟨e, hq'⟩
    · simp only [if_true]; omega
    · simp only [if_neg e]; have := h.hi q hq'; have := hb1.size; omega
/-- The trie of the words W, its root in block r. -/
def TrW (w : World) (base N : Nat) (W : List Wd) (r : Nat) : Prop := ∃ top B C, TrM w base top N (nodeB W) (fun p => wd (subs p W)) B C ∧ B [] = r
end Go.Proofs.Ytlfncplldppncaa

/-
  Contracts of trie.newNode, (*node).insert and trie.build: the trie of the words in new memory, the old one left alone. Conditions: words as they should be, or the error of the first fault.
-/
namespace Go.Proofs.Ytlfncplldppncaa
open Go.RowKit Go.Maps

theorem byte_keyed : Keyed Try.prog 5 := int_keyed Try.underlying5
theorem zero_ptr (w : World) : (zeroValue 68).run Try.prog w = .ok (.pointer none) w := by kernel_rfl
theorem key_byte (c : UInt8) : keyOf Try.prog 5 (.int .u8 (c.toNat : Int)) = some (keyL c) := keyOf_int_mk Try.underlying5 (keyL_wf c)

/-- The world behind newNode: the map's block, then the node's. -/
def newW (w : World) : World := (w.alloc (.map #[] 0)).alloc (.cells #[.int .i64 (-1), .map (some w.heap.size)] 74)
theorem newW_size (w : World) : (newW w).heap.size = w.heap.size + 2 := by simp [newW]
theorem newW_below (w : World) : Below w.heap.size w (newW w) := ((Below.refl _ _).alloc (Nat.le_refl _) _).alloc (by simp) _
theorem newW_map (w : World) : (newW w).ownsMap Try.prog 5 ptrE w.heap.size 0 (.map []) := (World.ownsMap_made w _ _ _).alloc _
theorem newW_node (w : World) : (newW w).heap[w.heap.size + 1]? = some (.cells #[.int .i64 (-1), .map (some w.heap.size)] 74 (0, 0)) := by
  have := heap_alloc_new (w.alloc (.map #[] 0)) (.cells #[.int .i64 (-1), .map (some w.heap.size)] 74)
  rwa [show (w.alloc (.map #[] 0)).heap.size = w.heap.size + 1 by simp] at this

theorem new_any (w : World) : Calls Try.prog 44 #[] w fun e w' => e = .returned (.pointer (some ⟨w.heap.size + 1, 0, none⟩)) ∧ w' = newW w := by
  have hmm := @run_makeMap Try.prog
  go_enter Try.func44, Try.ntmps44
  go_wp2
  go_ret
  exact ⟨by simp, rfl⟩

theorem trw_new (w : World) : TrW (newW w) w.heap.size 0 [] (w.heap.size + 1) := by
  have hS : ∀ p, nodeB [] p = true → p = [] := fun p h => by
    cases p with
    | nil => rfl
    | cons c p => simp [nodeB, subs_nil] at h
  refine ⟨w.heap.size + 2, fun _ => w.heap.size + 1, fun _ => w.heap.size, ?_, rfl⟩
  refine { root := rfl, closed := fun p c h => nodeB_closed h, cell := ?_, map := ?_, inj := ?_, injC := ?_, lo := ?_, hi := ?_, le := by rw [newW_size]; exact Nat.le_refl _ }
  · intro p hp
    obtain rfl := hS p hp
    exact newW_node w
  · intro p hp
    obtain rfl := hS p hp
    refine ⟨_, newW_map w, isMap_empty, fun c => ?_⟩
    have : nodeB [] ([] ++ [c]) = false := by simp [nodeB, subs_nil]
    exact ⟨this.symm, fun h => absurd (this.symm.trans h) (by simp)⟩
  · intro p q hp hq _
    rw [hS p hp, hS q hq]
  · intro p q hp hq _
    rw [hS p hp, hS q hq]
  · intro p _; omega
  · intro p _; omega

/-- While a word is put in: k signs are done. -/
def InsAt (w wr : World) (base N r : Nat) (W : List Wd) (x : List UInt8) (k b : Nat) : Prop :=
  ∃ top B C, TrM wr base top (N + k) (sk W x k) (fun p => wd (subs p W)) B C ∧ B [] = r ∧ B (x.take k) = b ∧ Below base w wr
theorem ins_start {w : World} {base N r : Nat} {W : List Wd} (h : TrW w base N W r) (x : List UInt8) : InsAt w w base N r W x 0 r := by
  obtain ⟨top, B, C, h, hr⟩ := h
  exact ⟨top, B, C, by rw [sk_zero]; exact h, hr, by simpa using hr, Below.refl _ _⟩
theorem InsAt.drewN {w wr : World} {base N r k b : Nat} {W : List Wd} {x : List UInt8} (h : InsAt w wr base N r W x k b) (q : Nat) : InsAt w (wr.drewN q) base N r W x k b := by
  obtain ⟨top, B, C, h, hr, hb, hB⟩ := h
  exact ⟨top, B, C, h.below (below_drewN (Below.refl _ _) q), hr, hb, below_drewN hB q⟩
theorem ins_end {w wr : World} {base N r b : Nat} {W : List Wd} {x : List UInt8} {i : Nat} (h : InsAt w wr base N r W x x.length b) (hx : ∀ j, (x, j) ∉ W) :
    wr.cell? ⟨b, 0, none⟩ = some (.int .i64 (wd (subs x W))) ∧ wr.frozen? ⟨b, 0, none⟩ = false ∧ TrW (wr.setCell ⟨b, 0, none⟩ (.int .i64 (i : Int))) base (N + x.length) (W ++ [(x, i)]) r ∧ Below base w (wr.setCell ⟨b, 0, none⟩ (.int .i64 (i : Int))) := by
  obtain ⟨top, B, C, h, hr, hb, hB⟩ := h
  rw [List.take_length] at hb
  have hp : sk W x x.length x = true := by have := sk_at W (x := x) (k := x.length); rwa [List.take_length] at this
  have h2 := h.word hp (i : Int)
  rw [sk_end W x i, wd_set hx, hb] at h2
  refine ⟨by rw [← hb]; exact h.c0 hp, by rw [← hb]; exact h.f0 hp, ⟨top, B, C, h2, hr⟩, hB.setCell (by rw [← hb]; exact (h.lo _ hp).1) _⟩
/-- The node is there already. -/
theorem ins_yes {w wr : World} {base N r b : Nat} {W : List Wd} {x : List UInt8} {c : UInt8} {k : Nat} (hk : k < x.length) (hc : x.take (k + 1) = x.take k ++ [c]) (h : InsAt w wr base N r W x k b) (hn : nodeB W (x.take (k + 1)) = true) :
    ∃ m b', wr.cell? ⟨b, 1, none⟩ = some (.map (some m)) ∧ (∀ q, (Instr.lookup 72 (.map (some m)) (.int .u8 (c.toNat : Int)) true).run Try.prog (wr.drewN q) = .ok (.tuple #[.pointer (some ⟨b', 0, none⟩), .bool true]) (wr.drewN q)) ∧
      ∀ q, InsAt w (wr.drewN q) base N r W x (k + 1) b' := by
  obtain ⟨top, B, C, h, hr, hb, hB⟩ := h
  have hp := sk_at W (x := x) (k := k)
  obtain ⟨D, hm, hD⟩ := h.map _ hp
  have hS : sk W x k (x.take k ++ [c]) = true := by rw [← hc, sk_next W hk]; exact hn
  refine ⟨C (x.take k), B (x.take (k + 1)), by rw [← hb]; exact h.c1 hp, fun q => ?_, fun q => ⟨top, B, C, ?_, hr, rfl, below_drewN hB q⟩⟩
  · have hm' : (wr.drewN q).ownsMap Try.prog 5 ptrE (C (x.take k)) (N + k) D := hm
    refine look_ptr_yes hm' byte_keyed Try.underlying72 (zero_ptr _) (key_byte _) (fun z => ?_) (by rw [(hD.2 _).1]; exact hS)
    rw [(hD.2 _).2 hS z, hc]
  · have e : sk W x (k + 1) = sk W x k := by
      rw [sk_succ W hk]
      funext q
      by_cases e : q = x.take (k + 1)
      · subst e; rw [hc, hS]; rfl
      · simp [e]
    rw [e]
    exact (h.below (w' := wr.drewN q) (below_drewN (Below.refl _ _) q)).mono (by omega)
/-- The node is new. -/
theorem ins_no {w wr : World} {base N r b : Nat} {W : List Wd} {x : List UInt8} {c : UInt8} {k : Nat} (hk : k < x.length) (hc : x.take (k + 1) = x.take k ++ [c]) (hbase : base ≤ wr.heap.size) (h : InsAt w wr base N r W x k b) (hn : nodeB W (x.take (k + 1)) = false) :
    ∃ m, wr.cell? ⟨b, 1, none⟩ = some (.map (some m)) ∧ m < wr.heap.size ∧ b < wr.heap.size ∧ (∀ q, (Instr.lookup 72 (.map (some m)) (.int .u8 (c.toNat : Int)) true).run Try.prog (wr.drewN q) = .ok (.tuple #[.pointer none, .bool false]) (wr.drewN q)) ∧
      ∃ D, wr.ownsMap Try.prog 5 ptrE m (N + k) D ∧ ∀ w1 w2 b' m', Below wr.heap.size wr w1 → wr.heap.size ≤ b' → wr.heap.size ≤ m' → w1.ownsMap Try.prog 5 ptrE m' 0 (.map []) →
        w1.heap[b']? = some (.cells #[.int .i64 (-1), .map (some m')] 74 (0, 0)) → w1.grownBy w2 (some m) → w2.ownsMap Try.prog 5 ptrE m (N + k + 1) (D.put (keyL c) (.lit (.int .i64 (b' : Int)))) → InsAt w w2 base N r W x (k + 1) b' := by
  obtain ⟨top, B, C, h, hr, hb, hB⟩ := h
  have hp := sk_at W (x := x) (k := k)
  obtain ⟨D, hm, hD⟩ := h.map _ hp
  have hS : sk W x k (x.take k ++ [c]) = false := by rw [← hc, sk_next W hk]; exact hn
  have hle := h.le
  have hhi := h.hi _ hp
  have hX : wd (subs (x.take k ++ [c]) W) = -1 := by rw [← hc]; exact wd_fresh hn
  refine ⟨C (x.take k), by rw [← hb]; exact h.c1 hp, by omega, by omega, fun q => ?_, D, hm, ?_⟩
  · have hm' : (wr.drewN q).ownsMap Try.prog 5 ptrE (C (x.take k)) (N + k) D := hm
    exact look_ptr_none hm' byte_keyed Try.underlying72 (zero_ptr _) (key_byte _) (by rw [(hD.2 _).1]; exact hS)
  · intro w1 w2 b' m' h1 hb' hm' hm1 hbn hg hown
    have h2 := h.add hp hS hD h1 hbase hb' hm' hm1 (by rw [hX]; exact hbn) hg hown
    rw [← hc, ← sk_succ W hk] at h2
    refine ⟨_, _, _, h2, ?_, by simp, (hB.trans (h1.mono hbase)).grown hg ?_ ?_⟩
    · have : ([] : List UInt8) ≠ x.take (k + 1) := fun e => by have := congrArg List.length e; rw [List.length_take, List.length_nil] at this; omega
      simp only [if_neg this]; exact hr
    · have := h1.size; omega
    · intro j hj
      obtain rfl : C (x.take k) = j := by simpa using hj
      exact (h.lo _ hp).2

set_option maxRecDepth 100000 in
set_option maxHeartbeats 1000000 in
theorem insert_any (s : ByteArray) (i : Nat) (w : World) (base N r : Nat) (W : List Wd) (hs : s.size ≤ 8) (hN : N ≤ 1000) (_hi : i ≤ 1000) (hbase : base ≤ w.heap.size) (h : TrW w base N W r) (hx : ∀ j, (bs s, j) ∉ W) :
    Calls Try.prog 45 #[.pointer (some ⟨r, 0, none⟩), .string s, .int .i64 i] w fun e w' =>
      e = .returned (.tuple #[]) ∧ TrW w' base (N + s.size) (W ++ [(bs s, i)]) r ∧ Below base w w' := by
  have H := hid (ins_start h (bs s))
  have HX := hid hx
  clear h hx
  go_enter Try.func45, Try.ntmps45
  go_wp2
  go_loopw [0, 11] (fun p x wr => ∃ k b : Nat, k ≤ s.size ∧ p = .pointer (some ⟨b, 0, none⟩) ∧ x = .int .i64 k ∧ Hid (InsAt w wr base N r W (bs s) k b) ∧ base ≤ wr.heap.size) (fun _ x _ => s.size - (intOf x).toNat)
  case atStart => exact ⟨0, r, by omega, rfl, rfl, H, hbase⟩
  case round =>
    obtain ⟨k, b, hk, rfl, rfl, HI, hbr⟩ := hrel
    by_cases hlt : k < s.size
    · have HT := hid (bs_take_succ s k hlt)
      have HKL := hid (show k < (bs s).length by rw [bs_len]; exact hlt)
      by_cases hn : nodeB W ((bs s).take (k + 1)) = true
      · obtain ⟨m, b', hc, hlk, hnext⟩ := ins_yes HKL.out HT.out HI.out hn
        have HNX := hid hnext
        clear hnext hn HI HT HKL H HX
        go_wp2
        go_quiet (fail)
        go_wp2
        go_roundw
        case rel => exact ⟨k + 1, b', by omega, rfl, by go_num, hid (HNX.out _), hbr⟩
        case measure => simp [intOf]; omega
      · have HN := hid (Bool.eq_false_iff.2 hn)
        obtain ⟨m, hc, _, _, hlk, _⟩ := ins_no HKL.out HT.out hbr HI.out HN.out
        clear hn H HX
        go_wp2
        go_quiet (fail)
        rename_i nq _
        have HI := hid (HI.out.drewN nq)
        have hbr : base ≤ (wr.drewN nq).heap.size := hbr
        clear hc hlk
        generalize wr.drewN nq = wq at HI hbr ⊢
        obtain ⟨m, hc, hml, hbl, hlk, D, hD, hnext⟩ := ins_no HKL.out HT.out hbr HI.out HN.out
        have HNX := hid hnext
        have HD := hid hD
        clear hnext hD hlk HI HN
        go_wp2_with (go_at_call 44; refine (new_any _).mono ?_; rintro e w' ⟨rfl, rfl⟩)
        have hb1 := newW_below wq
        have hm1 := newW_map wq
        have hn1 := newW_node wq
        have hc1 : (newW wq).cell? ⟨b, 1, none⟩ = some (.map (some m)) := (hb1.cell hbl).trans hc
        generalize newW wq = w1 at hb1 hm1 hn1 hc1 ⊢
        have hs1 : base ≤ w1.heap.size := Nat.le_trans hbr hb1.size
        go_wp2
        go_still_tail 8, (by kernel_rfl)
        change wpList _ _ _ _ _ w1.drew
        have hb2 : Below wq.heap.size wq w1.drew := hb1.drew
        have hm2 : w1.drew.ownsMap Try.prog 5 ptrE wq.heap.size 0 (.map []) := hm1
        have hn2 : w1.drew.heap[wq.heap.size + 1]? = some (.cells #[.int .i64 (-1), .map (some wq.heap.size)] 74 (0, 0)) := hn1
        have hs2 : base ≤ w1.drew.heap.size := hs1
        have hD2 : w1.drew.ownsMap Try.prog 5 ptrE m (N + k) D := ownsMap_block HD.out (hb1.block _ hml)
        clear hb1 hm1 hn1 hs1 HD hc1
        generalize w1.drew = w2 at hb2 hm2 hn2 hs2 hD2 ⊢
        have hkey := key_byte s[k]
        refine wpList_mapUpdate_own _ rfl _ _ _ 72 rfl 5 68 byte_keyed Try.underlying72 ptrE m (N + k) _ rfl hD2 (by unfold maxLen; omega) _ _ _ rfl rfl hkey _ [] (ptrE_mk (wq.heap.size + 1)) ?_
        intro w3 hm3 hg3
        have HE := hid (HNX.out w2 w3 (wq.heap.size + 1) wq.heap.size hb2 (by omega) (by omega) hm2 hn2 hg3 hm3)
        have hs3 : base ≤ w3.heap.size := Nat.le_trans hs2 hg3.size
        clear hm3 hg3 hb2 hm2 hn2 hD2 HNX hkey
        go_wp2
        go_roundw
        case rel => exact ⟨k + 1, _, by omega, rfl, by go_num, HE, hs3⟩
        case measure => simp [intOf]; omega
    · obtain rfl : k = s.size := by omega
      have HE := hid (ins_end (i := i) (by rw [bs_len]; exact HI.out) HX.out)
      obtain ⟨hc, hf, _, _⟩ := HE.out
      clear HI HX H
      go_wp2
      go_end0
      exact ⟨rfl, by have := HE.out.2.2.1; rwa [bs_len] at this, HE.out.2.2.2⟩

theorem fine_once {ws : List ByteArray} {k : Nat} (hf : FineTo ws (k + 1)) (hk : k < ws.length) : ∀ j, (bs (wat ws k), j) ∉ wds ((wl ws).take k) := by
  intro j hj
  exact fine_new hf hk (List.mem_iff_getElem?.2 ⟨j, wds_mem.1 hj⟩)

set_option maxRecDepth 100000 in
set_option maxHeartbeats 1000000 in
theorem build_ok (A : Option Addr) (n c : Nat) (ws : List ByteArray) (w : World) (hf : Fine ws) (h : IsStrs w w.heap.size A n ws) :
    Calls Try.prog 40 #[.slice A n c] w fun e w' => ∃ r base, e = .returned (.tuple #[.pointer (some ⟨r, 0, none⟩), .nilIface]) ∧ TrW w' base 48 (wds (wl ws)) r ∧ w.heap.size ≤ base ∧ Below w.heap.size w w' := by
  have hl : ws.length = n := h.1
  have hn6 := hf.1
  have HF := hid hf
  have H := hid h
  clear hf h
  go_enter Try.func40, Try.ntmps40
  go_wp2_with (go_at_call 18; refine (tcheck_ok A n c ws w HF.out H.out).mono ?_; rintro e w1 ⟨rfl, hb1⟩)
  go_wp2_with (go_at_call 44; refine (new_any _).mono ?_; rintro e w' ⟨rfl, rfl⟩)
  have ht := hid (trw_new w1)
  have hb2 : Below w.heap.size w (newW w1) := hb1.trans ((newW_below w1).mono hb1.size)
  have hs2 : w1.heap.size ≤ (newW w1).heap.size := by rw [newW_size]; omega
  obtain ⟨base, hbase⟩ : ∃ b, b = w1.heap.size := ⟨_, rfl⟩
  have hwb : w.heap.size ≤ base := by rw [hbase]; exact hb1.size
  rw [← hbase] at ht hs2
  rw [← hbase]
  generalize newW w1 = w2 at ht hb2 hs2 ⊢
  clear hbase hb1
  clear w1
  go_wp2
  go_loopw [16] (fun x wr => ∃ k : Nat, k ≤ n ∧ x = .int .i64 k ∧ Hid (TrW wr base (8 * k) (wds ((wl ws).take k)) (base + 1)) ∧ Below w.heap.size w wr ∧ base ≤ wr.heap.size) (fun x _ => n - (intOf x).toNat)
  case atStart => exact ⟨0, by omega, rfl, ht, hb2, hs2⟩
  case round =>
    obtain ⟨k, hk, rfl, HT, hb, hbr⟩ := hrel
    by_cases hlt : k < n
    · obtain ⟨g, off, rfl, hg, hc⟩ := H.out.2 (by omega)
      have hx : wr.cell? ⟨g, off + k, none⟩ = some (.string (wat ws k)) := (hb.cell hg).trans (hc k hlt)
      have hw := HF.out.2 k (by omega)
      have HC := hid ((insert_any (wat ws k) k wr base (8 * k) (base + 1) _ hw.1 (by omega) (by omega) hbr HT.out (fine_once (fun j hj => HF.out.2 j (by omega)) (by omega))).mono (R' := fun e w' => e = .returned (.tuple #[]) ∧ TrW w' base (8 * (k + 1)) (wds ((wl ws).take (k + 1))) (base + 1) ∧ Below base wr w') (fun e w' ⟨h1, h2, h3⟩ => ⟨h1, by
        rw [wl_take_succ (by omega), wds_snoc, List.length_take, wl_len, Nat.min_eq_left (by omega)]
        obtain ⟨top, B, C, h2, hr⟩ := h2
        exact ⟨top, B, C, h2.mono (by omega), hr⟩, h3⟩))
      clear hc hw
      generalize wat ws k = s at hx HC
      go_wp2_with (go_at_call 45; refine HC.out.mono ?_; rintro e w3 ⟨rfl, ht3, hb3⟩; have HT3 := hid ht3; clear ht3)
      go_wp2
      go_roundw
      case rel => exact ⟨k + 1, by omega, by go_num, HT3, hb.trans (hb3.mono hwb), Nat.le_trans hbr hb3.size⟩
      case measure => simp [intOf]; omega
    · obtain rfl : k = n := by omega
      go_wp2
      go_ret2
      refine ⟨_, base, rfl, ?_, hwb, hb⟩
      have := HT.out
      rw [List.take_of_length_le (by rw [wl_len]; omega)] at this
      obtain ⟨top, B, C, h2, hr⟩ := this
      exact ⟨top, B, C, h2.mono (by omega), hr⟩
theorem build_bad (A : Option Addr) (n c : Nat) (ws : List ByteArray) (k : Int) (w : World) (hn : n ≤ maxLen) (hs : ∀ i, i < n → (wat ws i).size ≤ maxLen) (hk : Bad ws k) (h : IsStrs w w.heap.size A n ws) :
    Calls Try.prog 40 #[.slice A n c] w fun e w' => e = .returned (.tuple #[.pointer none, .iface 58 (.int .i64 k)]) ∧ Below w.heap.size w w' := by
  have HC := hid (tcheck_bad A n c ws k w hn hs hk h)
  clear h hs hk hn
  go_enter Try.func40, Try.ntmps40
  go_wp2_with (go_at_call 18; refine HC.out.mono ?_; rintro e w1 ⟨rfl, hb1⟩)
  go_wp2
  go_ret2
  exact ⟨rfl, hb1⟩
end Go.Proofs.Ytlfncplldppncaa

/-
  Contract of trie.Longest: the place of the longest word with which the text begins, or -1. Conditions: words as they should be and a text of at most 24 bytes, or the error that comes first.
-/
namespace Go.Proofs.Ytlfncplldppncaa
open Go.RowKit Go.Maps

/-- The longest word of at most i signs with which the text t begins. -/
def LgTo (W : List Wd) (t : List UInt8) (i : Nat) (k : Int) : Prop :=
  (k = -1 ∧ ∀ p ∈ W, p.1 <+: t → ¬ p.1.length ≤ i) ∨ ∃ x j, (x, j) ∈ W ∧ k = (j : Nat) ∧ x <+: t ∧ x.length ≤ i ∧ ∀ p ∈ W, p.1 <+: t → p.1.length ≤ i → p.1.length ≤ x.length
theorem lgTo_start {W : List Wd} (h : ∀ p ∈ W, 0 < p.1.length) (t : List UInt8) : LgTo W t 0 (-1) := .inl ⟨rfl, fun p hp _ hl => by have := h p hp; omega⟩
theorem lgTo_end {W : List Wd} {t : List UInt8} {i : Nat} {k : Int} (h : LgTo W t i k) (hi : ∀ p ∈ W, p.1 <+: t → p.1.length ≤ i) : Lg W t k := by
  rcases h with ⟨rfl, h⟩ | ⟨x, j, hj, rfl, hx, _, hm⟩
  · exact .inl ⟨rfl, fun p hp hpt => h p hp hpt (hi p hp hpt)⟩
  · exact .inr ⟨x, j, hj, rfl, hx, fun p hp hpt => hm p hp hpt (hi p hp hpt)⟩
theorem lg_full {W : List Wd} {t : List UInt8} {k : Int} (h : LgTo W t t.length k) : Lg W t k := lgTo_end h fun _ _ hp => hp.length_le
theorem lg_stop {W : List Wd} {t : List UInt8} {i : Nat} {k : Int} (h : LgTo W t i k) (hi : i < t.length) (hn : nodeB W (t.take (i + 1)) = false) : Lg W t k := by
  refine lgTo_end h fun p hp hpt => ?_
  have hs : subs (t.take (i + 1)) W = [] := by
    simp only [nodeB, Bool.or_eq_false_iff, Bool.not_eq_false', List.isEmpty_iff] at hn
    exact hn.2
  rcases Nat.lt_or_ge i p.1.length with h' | h'
  · exact absurd (List.prefix_of_prefix_length_le (List.take_prefix _ _) hpt (by rw [List.length_take]; omega)) (subs_empty.1 hs p hp)
  · exact h'
theorem lgTo_yes {W : List Wd} {t : List UInt8} {i : Nat} {u : Int} (hi : i < t.length) (hu : wd (subs (t.take (i + 1)) W) = u) (hn : u ≠ -1) : LgTo W t (i + 1) u := by
  rcases wd_or (subs (t.take (i + 1)) W) with h | ⟨j, hj, e⟩
  · exact absurd (hu.symm.trans h) hn
  · have hj' := mem_subs.1 hj
    rw [List.append_nil] at hj'
    refine .inr ⟨_, j, hj', by rw [← hu, e], List.take_prefix _ _, by rw [List.length_take]; omega, fun p _ _ hl => ?_⟩
    rw [List.length_take]; omega
theorem lgTo_no {W : List Wd} (hO : Once W) {t : List UInt8} {i : Nat} {k : Int} (h : LgTo W t i k) (hu : wd (subs (t.take (i + 1)) W) = -1) : LgTo W t (i + 1) k := by
  have hno : ∀ p ∈ W, p.1 <+: t → p.1.length ≤ i + 1 → p.1.length ≤ i := by
    rintro ⟨x, j⟩ hp hpt hl
    rcases Nat.lt_or_ge i x.length with h' | h'
    · exfalso
      have hx : x = t.take (i + 1) := by have := pre_take hpt; simp at this hl; rw [show x.length = i + 1 by omega] at this; exact this
      have hm : ([], j) ∈ subs (t.take (i + 1)) W := mem_subs.2 (by rw [List.append_nil, ← hx]; exact hp)
      have := wd_mem (once_subs hO) hm
      rw [hu] at this; omega
    · exact h'
  rcases h with ⟨rfl, h⟩ | ⟨x, j, hj, rfl, hx, hl, hm⟩
  · exact .inl ⟨rfl, fun p hp hpt hl => h p hp hpt (hno p hp hpt hl)⟩
  · exact .inr ⟨x, j, hj, rfl, hx, by omega, fun p hp hpt hl' => hm p hp hpt (hno p hp hpt hl')⟩
theorem lgTo_small {W : List Wd} {t : List UInt8} {i : Nat} {k : Int} (h : LgTo W t i k) (hW : ∀ p ∈ W, p.2 < 6) : -1 ≤ k ∧ k < 6 := by
  rcases h with ⟨rfl, _⟩ | ⟨x, j, hj, rfl, _⟩
  · omega
  · have := hW _ hj; simp at this; omega

/-- On the way down: the node of the text's first i signs. -/
def At (wr : World) (W : List Wd) (t : List UInt8) (i b : Nat) : Prop :=
  ∃ base top N B C, TrM wr base top N (nodeB W) (fun p => wd (subs p W)) B C ∧ nodeB W (t.take i) = true ∧ B (t.take i) = b
theorem at_start {w : World} {base N r : Nat} {W : List Wd} (h : TrW w base N W r) (t : List UInt8) : At w W t 0 r := by
  obtain ⟨top, B, C, h, hr⟩ := h
  exact ⟨base, top, N, B, C, h, rfl, by simpa using hr⟩
theorem At.drewN {wr : World} {W : List Wd} {t : List UInt8} {i b : Nat} (h : At wr W t i b) (q : Nat) : At (wr.drewN q) W t i b := by
  obtain ⟨base, top, N, B, C, h, hn, hb⟩ := h
  exact ⟨base, top, N, B, C, h.below (below_drewN (Below.refl _ _) q), hn, hb⟩
theorem at_yes {wr : World} {W : List Wd} {t : List UInt8} {i b : Nat} {c : UInt8} (h : At wr W t i b) (hc : t.take (i + 1) = t.take i ++ [c]) (hn : nodeB W (t.take (i + 1)) = true) :
    ∃ m b', wr.cell? ⟨b, 1, none⟩ = some (.map (some m)) ∧ (∀ q, (Instr.lookup 72 (.map (some m)) (.int .u8 (c.toNat : Int)) true).run Try.prog (wr.drewN q) = .ok (.tuple #[.pointer (some ⟨b', 0, none⟩), .bool true]) (wr.drewN q)) ∧
      wr.cell? ⟨b', 0, none⟩ = some (.int .i64 (wd (subs (t.take (i + 1)) W))) ∧ ∀ q, At (wr.drewN q) W t (i + 1) b' := by
  obtain ⟨base, top, N, B, C, h, hp, hb⟩ := h
  obtain ⟨D, hm, hD⟩ := h.map _ hp
  have hS : nodeB W (t.take i ++ [c]) = true := by rw [← hc]; exact hn
  refine ⟨C (t.take i), B (t.take (i + 1)), by rw [← hb]; exact h.c1 hp, fun q => ?_, h.c0 hn, fun q => ⟨base, top, N, B, C, h.below (below_drewN (Below.refl _ _) q), hn, rfl⟩⟩
  have hm' : (wr.drewN q).ownsMap Try.prog 5 ptrE (C (t.take i)) N D := hm
  refine look_ptr_yes hm' byte_keyed Try.underlying72 (zero_ptr _) (key_byte _) (fun z => ?_) (by rw [(hD.2 _).1]; exact hS)
  rw [(hD.2 _).2 hS z, hc]
theorem at_no {wr : World} {W : List Wd} {t : List UInt8} {i b : Nat} {c : UInt8} (h : At wr W t i b) (hc : t.take (i + 1) = t.take i ++ [c]) (hn : nodeB W (t.take (i + 1)) = false) :
    ∃ m, wr.cell? ⟨b, 1, none⟩ = some (.map (some m)) ∧ (∀ q, (Instr.lookup 72 (.map (some m)) (.int .u8 (c.toNat : Int)) true).run Try.prog (wr.drewN q) = .ok (.tuple #[.pointer none, .bool false]) (wr.drewN q)) := by
  obtain ⟨base, top, N, B, C, h, hp, hb⟩ := h
  obtain ⟨D, hm, hD⟩ := h.map _ hp
  refine ⟨C (t.take i), by rw [← hb]; exact h.c1 hp, fun q => ?_⟩
  have hm' : (wr.drewN q).ownsMap Try.prog 5 ptrE (C (t.take i)) N D := hm
  exact look_ptr_none hm' byte_keyed Try.underlying72 (zero_ptr _) (key_byte _) (by rw [(hD.2 _).1, ← hc]; exact hn)
theorem wds_small {ws : List ByteArray} (hf : Fine ws) : ∀ p ∈ wds (wl ws), p.2 < 6 := by
  rintro ⟨x, i⟩ hp
  have := (List.getElem?_eq_some_iff.1 (wds_mem.1 hp)).1
  rw [wl_len] at this
  have := hf.1
  simp; omega
theorem fine_pos {ws : List ByteArray} (hf : Fine ws) : ∀ p ∈ wds (wl ws), 0 < p.1.length := by
  rintro ⟨x, i⟩ hq
  exact ((fine_wl hf).2 x (List.mem_iff_getElem?.2 ⟨i, wds_mem.1 hq⟩)).2

set_option maxRecDepth 100000 in
set_option maxHeartbeats 1000000 in
theorem long_ok (A : Option Addr) (n c : Nat) (ws : List ByteArray) (t : ByteArray) (w : World) (hf : Fine ws) (ht : t.size ≤ 24) (h : IsStrs w w.heap.size A n ws) :
    Calls Try.prog 35 #[.slice A n c, .string t] w fun e w' => ∃ k, e = .returned (.tuple #[.int .i64 k, .nilIface]) ∧ Lg (wds (wl ws)) (bs t) k ∧ Below w.heap.size w w' := by
  have HC := hid (build_ok A n c ws w hf h)
  have HO := hid (wds_once.2 (fine_wl hf).1)
  have HS := hid (wds_small hf)
  have HP := hid (fine_pos hf)
  clear h hf
  go_enter Try.func35, Try.ntmps35
  go_wp2_with (go_at_call 40; refine HC.out.mono ?_; rintro e w1 ⟨r, base, rfl, ht, hbase, hb1⟩; have HT := hid (at_start ht (bs t)); clear ht)
  clear HC
  obtain ⟨W, hW⟩ : ∃ W, W = wds (wl ws) := ⟨_, rfl⟩
  rw [← hW] at HT HO HS HP
  have HW := hid hW
  clear hW
  go_loopw [6, 8, 26] (fun p v x wr => ∃ (i b : Nat) (k : Int), i ≤ t.size ∧ p = .pointer (some ⟨b, 0, none⟩) ∧ v = .int .i64 k ∧ x = .int .i64 i ∧ Hid (LgTo W (bs t) i k) ∧ Hid (At wr W (bs t) i b) ∧ Below w.heap.size w wr) (fun _ _ x _ => t.size - (intOf x).toNat)
  case atStart => exact ⟨0, r, -1, by omega, rfl, rfl, rfl, hid (lgTo_start HP.out _), HT, hb1⟩
  case round =>
    obtain ⟨i, b, k, hi, rfl, rfl, rfl, HL, HA, hb⟩ := hrel
    by_cases hlt : i < t.size
    · have HTK := hid (bs_take_succ t i hlt)
      have HIL := hid (show i < (bs t).length by rw [bs_len]; exact hlt)
      by_cases hn : nodeB W ((bs t).take (i + 1)) = true
      · obtain ⟨m, b', hc, hlk, hc2, hnext⟩ := at_yes HA.out HTK.out hn
        have HNX := hid hnext
        generalize hu : wd (subs ((bs t).take (i + 1)) W) = u at hc2
        by_cases hu1 : u = -1
        · have HL2 := hid (lgTo_no HO.out HL.out (hu.trans hu1))
          subst hu1
          clear hnext hn HA HTK HIL HL hu
          go_wp2_with fail
          go_quiet (fail)
          go_wp2_with fail
          go_roundw
          case rel => exact ⟨i + 1, b', k, by omega, rfl, rfl, by go_num, HL2, hid (HNX.out _), below_drewN hb _⟩
          case measure => simp [intOf]; omega
        · have HL2 := hid (lgTo_yes HIL.out hu hu1)
          have hq : (u != -1) = true := by simpa using hu1
          clear hnext hn HA HTK HIL HL hu hu1
          go_wp2_with fail
          go_quiet (fail)
          go_wp2_with fail
          go_roundw
          case rel => exact ⟨i + 1, b', u, by omega, rfl, rfl, by go_num, HL2, hid (HNX.out _), below_drewN hb _⟩
          case measure => simp [intOf]; omega
      · have hn := Bool.eq_false_iff.2 hn
        obtain ⟨m, hc, hlk⟩ := at_no HA.out HTK.out hn
        have HL2 := hid (lg_stop HL.out HIL.out hn)
        clear hn HA HTK HIL HL
        go_wp2_with fail
        go_quiet (fail)
        go_wp2_with fail
        go_ret2
        exact ⟨k, rfl, by rw [← HW.out]; exact HL2.out, below_drewN hb _⟩
    · have HL2 := hid (lg_full (W := W) (t := bs t) (k := k) (by rw [bs_len, show t.size = i by omega]; exact HL.out))
      clear HA HL
      go_wp2_with fail
      go_ret2
      exact ⟨k, rfl, by rw [← HW.out]; exact HL2.out, hb⟩
theorem long_full (A : Option Addr) (n c : Nat) (ws : List ByteArray) (t : ByteArray) (w : World) (hf : Fine ws) (ht : 24 < t.size) (htm : t.size ≤ maxLen) (h : IsStrs w w.heap.size A n ws) :
    Calls Try.prog 35 #[.slice A n c, .string t] w fun e w' => e = .returned (.tuple #[.int .i64 0, .iface 58 (.int .i64 4)]) ∧ Below w.heap.size w w' := by
  unfold maxLen at htm
  have HC := hid (build_ok A n c ws w hf h)
  clear h hf
  go_enter Try.func35, Try.ntmps35
  go_wp2_with (go_at_call 40; refine HC.out.mono ?_; rintro e w1 ⟨r, base, rfl, _, _, hb1⟩)
  go_wp2_with fail
  go_ret2
  exact ⟨rfl, hb1⟩
theorem long_bad (A : Option Addr) (n c : Nat) (ws : List ByteArray) (t : ByteArray) (k : Int) (w : World) (hn : n ≤ maxLen) (hs : ∀ i, i < n → (wat ws i).size ≤ maxLen) (hk : Bad ws k) (h : IsStrs w w.heap.size A n ws) :
    Calls Try.prog 35 #[.slice A n c, .string t] w fun e w' => e = .returned (.tuple #[.int .i64 0, .iface 58 (.int .i64 k)]) ∧ Below w.heap.size w w' := by
  have HC := hid (build_bad A n c ws k w hn hs hk h)
  clear h hs hk hn
  go_enter Try.func35, Try.ntmps35
  go_wp2_with (go_at_call 40; refine HC.out.mono ?_; rintro e w1 ⟨rfl, hb1⟩)
  go_wp2_with fail
  go_ret2
  exact ⟨rfl, hb1⟩
end Go.Proofs.Ytlfncplldppncaa

/-
  Contract of many.Cut: the places of the words into which the text is cut greedily, or the error that comes first. Conditions: the sizes that a row itself sets.
-/
namespace Go.Proofs.Ytlfncplldppncaa
open Go.RowKit

def lenOf : Value → Nat
  | .string s => s.size
  | _ => 0
theorem cut_bad (A : Option Addr) (n c : Nat) (ws : List ByteArray) (t : ByteArray) (k : Int) (w : World) (hn : n ≤ maxLen) (hs : ∀ i, i < n → (wat ws i).size ≤ maxLen) (ht : t.size ≤ maxLen) (hk : BadM ws t k) (h : IsStrs w w.heap.size A n ws) :
    Calls Try.prog 16 #[.slice A n c, .string t] w fun e w' => e = .returned (.tuple #[.slice none 0 0, .iface 58 (.int .i64 k)]) ∧ Below w.heap.size w w' := by
  have HC := hid (mcheck_bad A n c ws t k w hn hs ht hk h)
  clear h hk hs hn ht
  go_enter Try.func16, Try.ntmps16
  go_wp2_with fail
  refine HC.out.mono ?_
  rintro e w1 ⟨rfl, hb⟩
  go_wp2_with fail
  go_ret2
  exact ⟨rfl, hb⟩
theorem lg_word {ws : List ByteArray} {t : List UInt8} {k : Int} (h : Lg (wds (wl ws)) t k) : k = -1 ∨ ∃ j : Nat, k = (j : Int) ∧ j < ws.length ∧ bs (wat ws j) <+: t ∧ (bs (wat ws j), j) ∈ wds (wl ws) := by
  rcases h with ⟨rfl, _⟩ | ⟨x, j, hj, rfl, hx, _⟩
  · exact .inl rfl
  · have h1 := wds_mem.1 hj
    have h2 : j < ws.length := by have := (List.getElem?_eq_some_iff.1 h1).1; rw [wl_len] at this; exact this
    rw [wl_get h2] at h1
    obtain rfl : bs (wat ws j) = x := by simpa using h1
    exact .inr ⟨j, rfl, h2, hx, hj⟩
theorem wds_place {ws : List ByteArray} : ∀ x y j, (x, j) ∈ wds (wl ws) → (y, j) ∈ wds (wl ws) → x = y := by
  intro x y j hx hy
  have h1 := wds_mem.1 hx
  rw [wds_mem.1 hy] at h1
  exact (Option.some.inj h1).symm
theorem bs_rest (u : ByteArray) (a : Nat) : bs (u.extract a u.size) = (bs u).drop a := by
  rw [wb_ext, List.take_of_length_le (by rw [bs_len]; exact Nat.le_refl _)]
theorem bs_ne {u : ByteArray} (h : 0 < u.size) : bs u ≠ [] := by
  intro e; have := bs_len u; rw [e] at this; simp at this; omega
theorem bs_none {u : ByteArray} (h : u.size = 0) : bs u = [] := List.eq_nil_of_length_eq_zero (by rw [bs_len]; exact h)

set_option maxRecDepth 100000 in
set_option maxHeartbeats 2000000 in
theorem cut_ok (A : Option Addr) (n c : Nat) (ws : List ByteArray) (t : ByteArray) (w : World) (hf : Fine ws) (ht : t.size ≤ 24) (h : IsStrs w w.heap.size A n ws) :
    Calls Try.prog 16 #[.slice A n c, .string t] w fun e w' => ∃ r, CutR (wds (wl ws)) (bs t) r ∧ Below w.heap.size w w' ∧
      ((r = none ∧ e = .returned (.tuple #[.slice none 0 0, .iface 58 (.int .i64 5)])) ∨ ∃ out v, r = some out ∧ e = .returned (.tuple #[v, .nilIface]) ∧ OwnI w' w.heap.size 3 v out ∧ out.length ≤ 24) := by
  obtain ⟨i0, hi, hz0, hz1, hz2⟩ := info_parts int_info
  have hl : ws.length = n := h.1
  have hn : n ≤ 6 := by have := hf.1; omega
  have H := hid h
  have HL := hid hl
  have HF := hid hf
  clear h hl hf
  go_enter Try.func16, Try.ntmps16
  go_wp2_with fail
  refine (mcheck_ok A n c ws t w HF.out ht H.out).mono ?_
  rintro e w1 ⟨rfl, hb1⟩
  go_wp2_with fail
  go_loopw [1, 7] (fun x v wr => ∃ (u : ByteArray) (out : List Int), x = .string u ∧ out.length + u.size ≤ 24 ∧ Hid (CutTo (wds (wl ws)) (bs t) out (bs u)) ∧ OwnI wr w.heap.size 3 v out ∧ Below w.heap.size w wr) (fun x _ _ => lenOf x)
  case atStart => exact ⟨t, [], rfl, by simpa using ht, hid (cutTo_start _ _), OwnI.nil _ _ _, hb1⟩
  case round =>
    obtain ⟨u, out, rfl, hlen, HC, hown, hb⟩ := hrel
    have hsz := hb.size
    by_cases h0 : u.size = 0
    · have he := empty_yes h0
      have HE := hid (cutTo_fin (W := wds (wl ws)) (t := bs t) (out := out) (by have := HC.out; rwa [bs_none h0] at this))
      have HO := hid hown
      clear HC h0 hown
      go_wp2_with fail
      go_ret2
      exact ⟨some out, HE.out, hb, .inr ⟨out, _, rfl, rfl, HO.out, by omega⟩⟩
    · have he := empty_not (s := u) (by omega)
      have HNE := hid (bs_ne (u := u) (by omega))
      have HG := hid (long_ok A n c ws u wr HF.out (by omega) ((H.out.below hb).mono hb.size))
      obtain ⟨wz, hwz⟩ : ∃ z, z = wr := ⟨_, rfl⟩
      subst hwz
      go_wp2_with fail
      refine HG.out.mono ?_
      rintro e w2 ⟨k, rfl, hk, hb2⟩
      clear HG
      have hb2' := hb.trans (hb2.mono hb.size)
      rcases lg_word hk with rfl | ⟨j, rfl, hj, hp, hm⟩
      · have HE := hid (cutTo_bad HC.out HNE.out hk)
        clear HC hk hown
        go_wp2_with fail
        go_ret2
        exact ⟨none, HE.out, hb2', .inl ⟨rfl, rfl⟩⟩
      · have hjn : j < n := by have := HL.out; omega
        have hown2 := hown.below hb2 (Nat.le_refl _)
        have hpl := hp.length_le
        rw [bs_len, bs_len] at hpl
        have hpos := (HF.out.2 j hj).2.1
        have HC2 := hid (cutTo_step HC.out HNE.out hk hm)
        rw [bs_len, ← bs_rest] at HC2
        obtain ⟨g, off, rfl, hg, hcw⟩ := H.out.2 (by omega)
        have hwj : w2.cell? ⟨g, off + j, none⟩ = some (.string (wat ws j)) := (hb2'.cell hg).trans (hcw j hjn)
        clear hcw HC hk hp hm hown hj
        generalize wat ws j = s at hwj hpl hpos HC2
        have hcut : ∀ W : World, Sem.run Try.prog (Instr.slice 9 (.string u) (some (.int .i64 (s.size : Int))) none none) W = .ok (.string (u.extract s.size u.size)) W := fun W =>
          run_slice_string_l W 9 u Try.underlying9 .i64 (s.size : Int) (by omega) (by omega)
        have hus : (u.extract s.size u.size).size = u.size - s.size := by rw [ByteArray.size_extract]; omega
        generalize u.extract s.size u.size = u2 at hcut hus HC2
        have hnl : ¬ ((j : Int) < 0) := by omega
        have hsz2 := hb2'.size
        go_wp2_with (at_builtin; refine wpList_append_int _ rfl (.tmp 30) (.tmp 32) 28 rfl w.heap.size 3 i0 Try.underlying28 hi hz0 hz1 hz2 _ out rfl hown2 (j : Int) rfl (by omega) (by omega) ?_)
        intro v' w6 hown6 hb6
        have hwj6 : w6.cell? ⟨g, off + j, none⟩ = some (.string s) := (hb6.cell hg).trans hwj
        clear hwj
        go_wp2_with fail
        go_roundw
        case rel => exact ⟨u2, out ++ [(j : Int)], rfl, by rw [List.length_append, List.length_singleton]; omega, HC2, hown6, hb2'.trans hb6⟩
        case measure => show u2.size < u.size; omega
end Go.Proofs.Ytlfncplldppncaa
