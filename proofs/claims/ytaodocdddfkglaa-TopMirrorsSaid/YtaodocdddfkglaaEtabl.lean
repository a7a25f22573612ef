/-
  Contracts of edit.distances and of the function that it hands back: a table of distances in new memory, and its places. Conditions: texts of at most 24 bytes; a place of the table.
-/
import Derived.Test.YtaodocdddfkglaaEposs
import Derived.Test.YtaodocdddfkglaaTail
import Derived.Deep.RegionWith
namespace Go.Proofs.Ytaodocdddfkglaa
open Go.RowKit

/-- Block V holds the row of block T with m numbers, block U the width; the row holds F. -/
structure FarS (w : World) (V U T m W : Nat) (F : Nat → Int) : Prop where
  v : w.heap[V]? = some (.cells #[.slice (some ⟨T, 0, none⟩) m m] 56 (0, 0))
  u : w.heap[U]? = some (.cells #[.int .i64 (W : Int)] 3 (0, 0))
  t : NumAt w T 3 (rowN m F)
  nv : V ≠ T
  nu : U ≠ T
section
variable {w w' : World} {V U T m W B : Nat} {F : Nat → Int}
theorem FarS.drewN (h : FarS w V U T m W F) (q : Nat) : FarS (w.drewN q) V U T m W F := ⟨h.v, h.u, h.t, h.nv, h.nu⟩
theorem FarS.below (h : FarS w V U T m W F) (hb : Below B w w') (hB : w.heap.size ≤ B) : FarS w' V U T m W F := by
  have l1 := lt_of_block h.v
  have l2 := lt_of_block h.u
  have l3 := BlkAt.lt h.t
  refine ⟨(hb.block _ (by omega)).trans h.v, (hb.block _ (by omega)).trans h.u, ?_, h.nv, h.nu⟩
  unfold NumAt BlkAt
  rw [hb.block _ (by omega)]
  exact h.t
theorem FarS.cell (h : FarS w V U T m W F) {k : Nat} (hk : k < m) : w.cell? ⟨T, k, none⟩ = some (.int .i64 (F k)) := by
  have := NumAt.cell h.t (k := k) (by rw [rowN_len]; exact hk)
  rwa [rowN_get m F hk] at this
theorem FarS.congr {G : Nat → Int} (h : FarS w V U T m W F) (e : rowN m F = rowN m G) : FarS w V U T m W G := ⟨h.v, h.u, by rw [← e]; exact h.t, h.nv, h.nu⟩
theorem FarS.set (h : FarS w V U T m W F) (k : Nat) (x : Int) {G : Nat → Int} (e : (rowN m F).set k x = rowN m G) : FarS (w.setCell ⟨T, k, none⟩ (.int .i64 x)) V U T m W G ∧ Only T w (w.setCell ⟨T, k, none⟩ (.int .i64 x)) := by
  obtain ⟨s1, s2⟩ := NumAt.stored h.t k x
  rw [e] at s1
  exact ⟨⟨(s2.block _ h.nv).trans h.v, (s2.block _ h.nu).trans h.u, s1, h.nv, h.nu⟩, s2⟩
end

set_option maxRecDepth 100000 in
theorem far_fn (V U T m W i j : Nat) (F : Nat → Int) (w : World) (h : FarS w V U T m W F) (hk : i * W + j < m) (hm : m ≤ 1000) :
    Calls Try.prog 25 #[.int .i64 (i : Int), .int .i64 (j : Int), .pointer (some ⟨V, 0, none⟩), .pointer (some ⟨U, 0, none⟩)] w fun e w' => e = .returned (.int .i64 (F (i * W + j))) ∧ w' = w := by
  have cV := cell_of_one h.v
  have cU := cell_of_one h.u
  have cK := h.cell hk
  have hp : (i : Int) * (W : Int) = ((i * W : Nat) : Int) := by push_cast; rfl
  have k1 : ((i * W : Nat) : Int) + (j : Int) = ((i * W + j : Nat) : Int) := by push_cast; rfl
  clear h
  generalize F (i * W + j) = X at cK ⊢
  have k2 : ((i * W : Nat) : Int) + (j : Int) < (m : Int) := by omega
  generalize hP : i * W = p at hp cK k1 k2 hk
  clear hP k1
  have k3 : ((p : Int) + (j : Int)).toNat = p + j := by omega
  go_enter Try.func25, Try.ntmps25
  go_wp2_with fail
  go_ret
  exact ⟨rfl, rfl⟩
/-- The slice value '.slice A n _' holds the operations xs in world w, below block B. -/
def IsOps (w : World) (B : Nat) (A : Option Addr) (n : Nat) (xs : List Opn) : Prop :=
  xs.length = n ∧ (0 < n → ∃ g off, A = some ⟨g, off, none⟩ ∧ g < B ∧ ∀ j, j < n → w.cell? ⟨g, off + j * 4, none⟩ = some (.int .u8 ((xs.getD j oz).1.toNat : Int)) ∧ w.cell? ⟨g, off + j * 4 + 1, none⟩ = some (.int .i64 ((xs.getD j oz).2.1 : Int)) ∧
    w.cell? ⟨g, off + j * 4 + 2, none⟩ = some (.int .i64 ((xs.getD j oz).2.2.1 : Int)) ∧ w.cell? ⟨g, off + j * 4 + 3, none⟩ = some (.int .i64 ((xs.getD j oz).2.2.2 : Int)))
theorem IsOps.of_own {w : World} {base : Nat} {e : TypeId} {v : Value} {xs : List Opn} (h : OwnX encO 4 w base e v xs) : ∃ A c, v = .slice A xs.length c ∧ IsOps w w.heap.size A xs.length xs := by
  obtain ⟨A, c, hv, _, hr⟩ := h.read encO_len
  refine ⟨A, c, hv, rfl, fun hn => ?_⟩
  obtain ⟨g, rfl, _, hg, hc⟩ := hr hn
  refine ⟨g, 0, rfl, hg, fun j hj => ?_⟩
  have e : xs.getD j oz = xs[j] := by rw [List.getD_eq_getElem?_getD, List.getElem?_eq_getElem hj]; rfl
  rw [e, Nat.zero_add]
  exact ⟨hc j hj 0 (by omega), hc j hj 1 (by omega), hc j hj 2 (by omega), hc j hj 3 (by omega)⟩
theorem IsOps.below {w w' : World} {B n : Nat} {A : Option Addr} {xs : List Opn} (h : IsOps w B A n xs) (hb : Below B w w') : IsOps w' B A n xs :=
  ⟨h.1, fun hn => by
    obtain ⟨g, off, e, hg, hc⟩ := h.2 hn
    refine ⟨g, off, e, hg, fun j hj => ?_⟩
    obtain ⟨h1, h2, h3, h4⟩ := hc j hj
    exact ⟨(hb.cell hg).trans h1, (hb.cell hg).trans h2, (hb.cell hg).trans h3, (hb.cell hg).trans h4⟩⟩
theorem IsOps.on {w w' : World} {n : Nat} {A : Option Addr} {xs : List Opn} (h : IsOps w w.heap.size A n xs) (hb : Below w.heap.size w w') : IsOps w' w'.heap.size A n xs := by
  have h1 := h.below hb
  refine ⟨h1.1, fun hn => ?_⟩
  obtain ⟨g, off, e, hg, hc⟩ := h1.2 hn
  exact ⟨g, off, e, Nat.lt_of_lt_of_le hg hb.size, hc⟩
theorem lowTo_le (a b : ByteArray) (i j t : Nat) (ha : a.size ≤ 24) (hb : b.size ≤ 24) : lowTo a b i j t ≤ 24 := by
  unfold lowTo
  have : ∀ (l : List Opn) (m : Nat), m ≤ 24 → l.foldl (fun m x => min m (costF a b i j x)) m ≤ 24 := by
    intro l
    induction l with
    | nil => intro m h; exact h
    | cons x l ih => intro m h; exact ih _ (Nat.le_trans (Nat.min_le_left _ _) h)
  exact this _ _ (by omega)
/-- What is behind a draw is behind what was ahead of it. -/
theorem below_behind {w w' : World} {q : Nat} (h : Below (w.drewN q).heap.size (w.drewN q) w') : Below w.heap.size w w' := ⟨h.os, h.tape, h.output, h.size, h.block⟩

set_option maxRecDepth 100000 in
set_option maxHeartbeats 8000000 in
theorem dist_any (a b : ByteArray) (w : World) (ha : a.size ≤ 24) (hb : b.size ≤ 24) :
    Calls Try.prog 22 #[.string a, .string b] w fun e w' => ∃ V U T, e = .returned (.func (.func 25) #[] #[.pointer (some ⟨V, 0, none⟩), .pointer (some ⟨U, 0, none⟩)]) ∧
      FarS w' V U T ((a.size + 1) * (b.size + 1)) (b.size + 1) (knF a b 0) ∧ w.heap.size ≤ V ∧ w.heap.size ≤ U ∧ w.heap.size ≤ T ∧ Below w.heap.size w w' := by
  obtain ⟨i0, hi, hz0, hz1, hz2⟩ := info_parts int_info
  have hmf : ∀ (fn : Fn) (first cap : Array Value) (w : World), (Instr.makeFunc fn first cap).run Try.prog w = .ok (.func fn first cap) w := fun _ _ _ _ => rfl
  have HP := fun x y W => hid (poss_any x y W)
  have hm : (a.size + 1) * (b.size + 1) ≤ 625 := Nat.mul_le_mul (show a.size + 1 ≤ 25 by omega) (show b.size + 1 ≤ 25 by omega)
  obtain ⟨W, hW⟩ : ∃ W, W = b.size + 1 := ⟨_, rfl⟩
  obtain ⟨m, hmM⟩ : ∃ m, m = (a.size + 1) * W := ⟨_, rfl⟩
  have hpm : ((a.size : Int) + 1) * ((b.size : Int) + 1) = (m : Int) := by rw [hmM, hW]; push_cast; rfl
  have hm : m ≤ 625 := by rw [hmM, hW]; exact hm
  have HN0 := hid (knF_none a b)
  rw [← hW, ← hmM] at HN0 ⊢
  have HM := hid hmM
  have HW := hid hW
  clear hmM hW
  go_enter Try.func22, Try.ntmps22
  go_wp2_with (at_make; refine wpList_make_full _ rfl _ _ 56 rfl (w.heap.size + 1) 3 i0 (.int .i64 0) 1 Try.underlying56 hi hz0 hz1 _ _ _ _ m rfl rfl rfl rfl (by rw [hz2]; omega) (by unfold maxLen; omega) (by simp) ?_)
  intro w1 hown hgrow
  have hb1 : Below (w.heap.size + 1) (w.alloc (.cells #[.int .i64 ((b.size : Int) + 1)] 3)) w1 := (Below.refl _ _).grown hgrow (by simp) (by simp)
  have hU : w1.heap[w.heap.size]? = some (.cells #[.int .i64 ((b.size : Int) + 1)] 3 (0, 0)) := (hb1.block _ (by omega)).trans (heap_alloc_new w _)
  have hT : NumAt w1 (w.heap.size + 1) 3 (List.replicate m 0) := NumAt.made (by simpa using hown)
  have hTlt := BlkAt.lt hT
  have hbw1 : Below w.heap.size w w1 := ((Below.refl _ w).alloc (Nat.le_refl _) _).trans (hb1.mono (by omega))
  have HS1 : Hid (FarS (w1.alloc (.cells #[.slice (some ⟨w.heap.size + 1, 0, none⟩) m m] 56)) w1.heap.size w.heap.size (w.heap.size + 1) m W (knF a b m)) := hid (by
    have hb2 := (Below.refl w1.heap.size w1).alloc (Nat.le_refl _) (.cells #[.slice (some ⟨w.heap.size + 1, 0, none⟩) m m] 56)
    refine ⟨heap_alloc_new w1 _, ?_, ?_, by omega, by omega⟩
    · rw [hb2.block _ (by omega), hU, HW.out]; push_cast; rfl
    · unfold NumAt BlkAt
      rw [hb2.block _ (by omega), HN0.out]
      exact hT)
  have hbw2 : Below w.heap.size w (w1.alloc (.cells #[.slice (some ⟨w.heap.size + 1, 0, none⟩) m m] 56)) := hbw1.alloc hbw1.size _
  have hVs := hbw1.size
  clear hown hgrow hb1 hU hT hbw1 hi hz0 hz1 hz2 HN0
  go_wp2_with fail
  generalize w1.heap.size = V at HS1 hTlt hVs ⊢
  generalize hUw : w.heap.size = U at HS1 hTlt hVs hbw2 ⊢
  generalize hTw : U + 1 = T at HS1 hTlt hVs hbw2 ⊢
  generalize World.alloc w1 _ = w2 at HS1 hbw2 ⊢
  have HUT := hid hTw
  have HUw := hid hUw
  clear hTw hUw hmf
  go_loopw [8] (fun x wr => ∃ (t : Nat) (z : Int), t ≤ a.size + 1 ∧ x = .int .i64 z ∧ z = (t : Int) - 1 ∧ Hid (FarS wr V U T m W (knF a b (t * W))) ∧ Below U w wr) (fun x _ => (intOf x + 1).toNat)
  case atStart => exact ⟨a.size + 1, _, Nat.le_refl _, rfl, by omega, hid (by rw [← HM.out]; exact HS1.out), hbw2⟩
  case round =>
    clear HS1 hbw2
    obtain ⟨t, z, ht, rfl, hz, HF, hbw⟩ := hrel
    rcases t with _ | p
    · have hneg : decide (z ≥ 0) = false := decide_eq_false (by omega)
      rw [Nat.zero_mul] at HF
      clear hz
      go_wp2_with fail
      go_ret
      rw [HUw.out]
      exact ⟨V, U, T, rfl, HF.out, hVs, Nat.le_refl _, by have := HUT.out; omega, hbw⟩
    · obtain rfl : z = (p : Int) := by omega
      clear hz
      have HF1 : Hid (FarS wr V U T m W (knF a b (p * W + W))) := hid (by rw [← Nat.succ_mul]; exact HF.out)
      clear HF
      obtain ⟨w0, hw0⟩ : ∃ z, z = wr := ⟨_, rfl⟩
      subst hw0
      go_wp2_with fail
      go_loopw [9] (fun x wr => ∃ (u : Nat) (z : Int), u ≤ W ∧ x = .int .i64 z ∧ z = (u : Int) - 1 ∧ Hid (FarS wr V U T m W (knF a b (p * W + u))) ∧ Below U w wr) (fun x _ => (intOf x + 1).toNat)
      case atStart => exact ⟨W, _, Nat.le_refl _, rfl, by have := HW.out; omega, HF1, hbw⟩
      case round =>
        clear HF1 hbw
        obtain ⟨u, z, hu, rfl, hz, HF, hbw⟩ := hrel
        rcases u with _ | q
        · have hneg : decide (z ≥ 0) = false := decide_eq_false (by omega)
          rw [Nat.add_zero] at HF
          clear hz
          go_wp2_with fail
          go_roundw
          case rel => exact ⟨p, _, by omega, by go_num, rfl, HF, hbw⟩
          case measure => first | (simp [intOf]; done) | (simp [intOf]; omega)
        · obtain rfl : z = (q : Int) := by omega
          clear hz
          have hpa : p ≤ a.size := by omega
          have hqb : q ≤ b.size := by have := HW.out; omega
          have hcutA : ∀ W : World, Sem.run Try.prog (Instr.slice 9 (.string a) (some (.int .i64 (p : Int))) none none) W = .ok (.string (a.extract p a.size)) W := fun W =>
            run_slice_string_l W 9 a Try.underlying9 .i64 (p : Int) (by omega) (by omega)
          have hcutB : ∀ W : World, Sem.run Try.prog (Instr.slice 9 (.string b) (some (.int .i64 (q : Int))) none none) W = .ok (.string (b.extract q b.size)) W := fun W =>
            run_slice_string_l W 9 b Try.underlying9 .i64 (q : Int) (by omega) (by omega)
          have hmax : (if (a.size : Int) - (p : Int) < (b.size : Int) - (q : Int) then (b.size : Int) - (q : Int) else (a.size : Int) - (p : Int)) = ((lowTo a b p q 0 : Nat) : Int) := by
            rw [lowTo_zero]
            split <;> omega
          go_wp2_with fail
          go_region_with (go_at_call 26; refine (HP _ _ _).out.mono ?_; rintro e w6 ⟨v, rfl, hown6, hb6⟩; rw [opsT_end a b hpa hqb] at hown6; obtain ⟨A, c, rfl, hops⟩ := IsOps.of_own hown6; have HO6 := hid hops; have hb6 := below_behind hb6; clear hown6 hops)
          have HF6 := hid (HF.out.below hb6 (Nat.le_refl _))
          have hbw6 := hbw.trans (hb6.mono (by rw [← HUw.out]; exact hbw.size))
          clear HF hbw hb6 hcutA hcutB hmax
          generalize hn : (opsF a b p q).length = n at HO6 ⊢
          have HN := hid hn
          have hn3 : n ≤ 3 := by rw [← hn]; exact ops_len a b p q
          clear hn
          go_simp
          go_wp2_with fail
          go_loopw [10, 52] (fun l x wr => ∃ t : Nat, t ≤ n ∧ x = .int .i64 t ∧ l = .int .i64 (lowTo a b p q t : Nat) ∧ Hid (FarS wr V U T m W (knF a b (p * W + (q + 1)))) ∧ Hid (IsOps wr wr.heap.size A n (opsF a b p q)) ∧ Below U w wr) (fun _ x _ => n - (intOf x).toNat)
          case atStart => exact ⟨0, by omega, rfl, rfl, HF6, HO6, hbw6⟩
          case round =>
            clear HF6 HO6 hbw6
            obtain ⟨t, htn, rfl, rfl, HF, HO, hbw⟩ := hrel
            by_cases hlt : t < n
            · obtain ⟨g, off, rfl, hg, hc⟩ := HO.out.2 (by omega)
              obtain ⟨c1, c2, c3, c4⟩ := hc t hlt
              have hlo := lowTo_succ (a := a) (b := b) (i := p) (j := q) (t := t) (by rw [HN.out]; exact hlt)
              have hin := ops_in (a := a) (b := b) (i := p) (j := q) (x := (opsF a b p q).getD t oz) (by rw [List.getD_eq_getElem?_getD, List.getElem?_eq_getElem (by rw [HN.out]; exact hlt)]; exact List.getElem_mem _) hpa hqb
              unfold costF at hlo
              generalize (opsF a b p q).getD t oz = X at c1 c2 c3 c4 hlo hin
              obtain ⟨sx, oa, ob, od⟩ := X
              simp only at c1 c2 c3 c4 hlo hin
              obtain ⟨h1, h2, h3, h4, h5, h6⟩ := hin
              have hix : p * W + (q + 1) ≤ (p + oa) * W + (q + ob) ∧ (p + oa) * W + (q + ob) < m := by
                have e1 := HM.out
                have e2 := HW.out
                have e3 : (p + oa) * W ≤ a.size * W := Nat.mul_le_mul_right _ h1
                have e4 : (a.size + 1) * W = a.size * W + W := Nat.succ_mul _ _
                have e5 : (p + oa) * W = p * W + oa * W := Nat.add_mul _ _ _
                rcases (by omega : oa = 0 ∨ oa = 1) with rfl | rfl
                · omega
                · omega
              have hat : knF a b (p * W + (q + 1)) ((p + oa) * W + (q + ob)) = (tbF a b (p + oa) (q + ob) : Nat) := by
                have := knF_at (a := a) (b := b) (t := p * W + (q + 1)) (i := p + oa) (j := q + ob) (by rw [← HW.out]; exact hix.1) h2
                rw [← HW.out] at this
                exact this
              have hFar := fun W' (h : FarS W' V U T m W (knF a b (p * W + (q + 1)))) => far_fn V U T m W (p + oa) (q + ob) _ W' h hix.2 (by omega)
              rw [hat] at hFar
              have hft := tb_le a b (p + oa) (q + ob) ha hb
              have hl24 : lowTo a b p q t ≤ 24 := lowTo_le a b p q t ha hb
              generalize tbF a b (p + oa) (q + ob) = f at hFar hft hlo
              have hmin : (if od + f < lowTo a b p q t then ((od + f : Nat) : Int) else ((lowTo a b p q t : Nat) : Int)) = ((lowTo a b p q (t + 1) : Nat) : Int) := by
                rw [hlo]
                split <;> omega
              have hHF := fun W' (h : FarS W' V U T m W (knF a b (p * W + (q + 1)))) => hid (hFar W' h)
              clear hFar hat hix hlo hc
              have e1 : IntKind.i64.wrap ((p : Int) + (oa : Int)) = ((p + oa : Nat) : Int) := by rw [IntWalk.i64_in _ (by omega)]; push_cast; rfl
              have e2 : IntKind.i64.wrap ((q : Int) + (ob : Int)) = ((q + ob : Nat) : Int) := by rw [IntWalk.i64_in _ (by omega)]; push_cast; rfl
              have e3 : IntKind.i64.wrap ((od : Int) + (f : Int)) = ((od + f : Nat) : Int) := by rw [IntWalk.i64_in _ (by omega)]; push_cast; rfl
              generalize p + oa = P at hHF e1 h1
              generalize q + ob = Q at hHF e2 h2
              generalize od + f = C at hmin e3
              generalize lowTo a b p q t = L at hmin hl24 ⊢
              obtain ⟨L', hL'⟩ : ∃ z, z = lowTo a b p q (t + 1) := ⟨_, rfl⟩
              rw [← hL'] at hmin
              have HL' := hid hL'
              clear hL'
              have hgr : g < wr.heap.size := hg
              go_wp2_with fail
              generalize hwz : World.alloc wr _ = wz
              have hbz : Below wr.heap.size wr wz := by rw [← hwz]; exact (Below.refl _ _).alloc (Nat.le_refl _) _
              have d1 : wz.cell? ⟨wr.heap.size, 1, none⟩ = some (.int .i64 (oa : Int)) := by rw [← hwz]; exact cell_of_row _ _ 1 _ 60 (0, 0) (heap_alloc_new wr _)
              have d2 : wz.cell? ⟨wr.heap.size, 2, none⟩ = some (.int .i64 (ob : Int)) := by rw [← hwz]; exact cell_of_row _ _ 2 _ 60 (0, 0) (heap_alloc_new wr _)
              have d3 : wz.cell? ⟨wr.heap.size, 3, none⟩ = some (.int .i64 (od : Int)) := by rw [← hwz]; exact cell_of_row _ _ 3 _ 60 (0, 0) (heap_alloc_new wr _)
              have HFz := hid (HF.out.below hbz (Nat.le_refl _))
              have HOz := hid (HO.out.on hbz)
              have hbwz := hbw.trans (hbz.mono (by rw [← HUw.out]; exact hbw.size))
              have hCl := fun q1 => hHF (wz.drewN q1) (HFz.out.drewN q1)
              clear hwz hbz HF HO hbw hHF c1 c2 c3 c4 hgr hg
              generalize wr.heap.size = R at d1 d2 d3 ⊢
              refine (wpIn_wide (n := 1)).1 ?_
              refine wpIn_region_tail (C := fun w' => ∃ q, w' = wz.drewN q) (lets_wide _) 14 (by kernel_rfl) (by kernel_rfl) ⟨1, rfl⟩ ?_
              simp only [List.take_succ_cons, List.take_zero, List.drop_succ_cons, List.drop_zero]
              repeat (quiet_step ((go_at_call 25; exact Calls.quiet_of_same (hCl _).out)))
              refine wpQuiet_nil ?_
              rintro _ ⟨q1, rfl⟩
              have HF1 := hid (HFz.out.drewN q1)
              have HO1 : Hid (IsOps (wz.drewN q1) (wz.drewN q1).heap.size (some ⟨g, off, none⟩) n (opsF a b p q)) := hid HOz.out
              have hbw1 := below_drewN hbwz q1
              clear HFz HOz hbwz d1 d2 d3 hCl
              generalize wz.drewN q1 = wy at HF1 HO1 hbw1 ⊢
              gi_wp2
              go_wp2_with fail
              go_roundw
              case rel => exact ⟨t + 1, by omega, by go_num, by rw [← HL'.out], HF1, HO1, hbw1⟩
              case measure => first | (simp [intOf]; done) | (simp [intOf]; omega)
            · obtain rfl : t = n := by omega
              have hal := lowTo_all hpa hqb
              rw [HN.out] at hal
              rw [hal]
              have cV := cell_of_one HF.out.v
              have cU := cell_of_one HF.out.u
              have hix : p * W + q < m := by
                have e1 := HM.out
                have e2 := HW.out
                have e3 : p * W ≤ a.size * W := Nat.mul_le_mul_right _ hpa
                have e4 : (a.size + 1) * W = a.size * W + W := Nat.succ_mul _ _
                omega
              have cK := HF.out.cell hix
              have fK := BlkAt.frozen HF.out.t (p * W + q)
              have hset := HF.out.set (p * W + q) ((tbF a b p q : Nat) : Int) (G := knF a b (p * W + q)) (by rw [HW.out]; exact knF_set hqb m)
              have HS := hid hset
              clear hset hal HF HO
              have hp : (p : Int) * (W : Int) = ((p * W : Nat) : Int) := by push_cast; rfl
              generalize knF a b (p * W + (q + 1)) (p * W + q) = X at cK
              generalize hP : p * W = P at hp cK fK hix HS ⊢
              have HP2 := hid hP
              clear hP
              have k2 : ((P : Nat) : Int) + (q : Int) < (m : Int) := by omega
              have k3 : ((P : Int) + (q : Int)).toNat = P + q := by omega
              generalize tbF a b p q = Y at HS ⊢
              go_wp2_with fail
              have hS := HS.out
              generalize World.setCell wr _ _ = w9 at hS ⊢
              go_roundw
              case rel => exact ⟨q, _, by omega, by go_num, rfl, hid (by rw [HP2.out]; exact hS.1), hbw.trans (hS.2.below (by have := HUT.out; omega))⟩
              case measure => first | (simp [intOf]; done) | (simp [intOf]; omega)
end Go.Proofs.Ytaodocdddfkglaa
