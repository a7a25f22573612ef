/-
  Contracts of the function that edit.Steps hands to slices.IndexFunc, and of slices.IndexFunc over operations with it: the first one that is as good as can be. Conditions: texts of at most 24 bytes; places within them.
-/
import Derived.Test.YteeajhelnolfcaaEfar
namespace Go.Proofs.Yteeajhelnolfcaa
open Go.RowKit

theorem far_at (V U T P Q : Nat) (a b : ByteArray) (w : World) (h : FarS w V U T ((a.size + 1) * (b.size + 1)) (b.size + 1) (knF a b 0)) (ha : a.size ≤ 24) (hb : b.size ≤ 24) (hP : P ≤ a.size) (hQ : Q ≤ b.size) :
    Calls Try.prog 17 #[.int .i64 (P : Int), .int .i64 (Q : Int), .pointer (some ⟨V, 0, none⟩), .pointer (some ⟨U, 0, none⟩)] w fun e w' => e = .returned (.int .i64 (tbF a b P Q : Nat)) ∧ w' = w := by
  have hm : (a.size + 1) * (b.size + 1) ≤ 625 := Nat.mul_le_mul (show a.size + 1 ≤ 25 by omega) (show b.size + 1 ≤ 25 by omega)
  have e3 : P * (b.size + 1) ≤ a.size * (b.size + 1) := Nat.mul_le_mul_right _ hP
  have e4 : (a.size + 1) * (b.size + 1) = a.size * (b.size + 1) + (b.size + 1) := Nat.succ_mul _ _
  have := far_fn V U T _ (b.size + 1) P Q _ w h (by omega) (by omega)
  rw [knF_at (Nat.zero_le _) hQ] at this
  exact this

/-- The three variables that the function captures. -/
structure CapW (w : World) (FB IB JB V U T i j : Nat) (a b : ByteArray) : Prop where
  far : FarS w V U T ((a.size + 1) * (b.size + 1)) (b.size + 1) (knF a b 0)
  f : w.heap[FB]? = some (.cells #[.func (.func 17) #[] #[.pointer (some ⟨V, 0, none⟩), .pointer (some ⟨U, 0, none⟩)]] 36 (0, 0))
  i : w.heap[IB]? = some (.cells #[.int .i64 (i : Int)] 3 (0, 0))
  j : w.heap[JB]? = some (.cells #[.int .i64 (j : Int)] 3 (0, 0))
theorem CapW.below {w w' : World} {FB IB JB V U T i j B : Nat} {a b : ByteArray} (h : CapW w FB IB JB V U T i j a b) (hb : Below B w w') (hB : w.heap.size ≤ B) : CapW w' FB IB JB V U T i j a b := by
  have l1 := lt_of_block h.f
  have l2 := lt_of_block h.i
  have l3 := lt_of_block h.j
  exact ⟨h.far.below hb hB, (hb.block _ (by omega)).trans h.f, (hb.block _ (by omega)).trans h.i, (hb.block _ (by omega)).trans h.j⟩

set_option maxRecDepth 100000 in
set_option maxHeartbeats 2000000 in
theorem op_fn (FB IB JB V U T i j : Nat) (a b : ByteArray) (x : Opn) (w : World) (h : CapW w FB IB JB V U T i j a b) (ha : a.size ≤ 24) (hb : b.size ≤ 24) (hi : i ≤ a.size) (hj : j ≤ b.size)
    (hx : i + x.2.1 ≤ a.size ∧ j + x.2.2.1 ≤ b.size ∧ x.2.1 ≤ 1 ∧ x.2.2.1 ≤ 1 ∧ x.2.2.2 ≤ 1 ∧ 0 < x.2.1 + x.2.2.1) :
    Calls Try.prog 16 #[.agg #[.int .u8 (x.1.toNat : Int), .int .i64 (x.2.1 : Int), .int .i64 (x.2.2.1 : Int), .int .i64 (x.2.2.2 : Int)], .pointer (some ⟨FB, 0, none⟩), .pointer (some ⟨IB, 0, none⟩), .pointer (some ⟨JB, 0, none⟩)] w
      fun e w' => e = .returned (.bool (decide (costF a b i j x = tbF a b i j))) ∧ Below w.heap.size w w' := by
  obtain ⟨sx, oa, ob, od⟩ := x
  simp only at hx ⊢
  unfold costF
  simp only
  obtain ⟨h1, h2, h3, h4, h5, h6⟩ := hx
  have l1 := lt_of_block h.f
  have l2 := lt_of_block h.i
  have l3 := lt_of_block h.j
  have t1 := tb_le a b (i + oa) (j + ob) ha hb
  have t2 := tb_le a b i j ha hb
  have e1 : IntKind.i64.wrap ((i : Int) + (oa : Int)) = ((i + oa : Nat) : Int) := by rw [IntWalk.i64_in _ (by omega)]; push_cast; rfl
  have e2 : IntKind.i64.wrap ((j : Int) + (ob : Int)) = ((j + ob : Nat) : Int) := by rw [IntWalk.i64_in _ (by omega)]; push_cast; rfl
  have e3 : IntKind.i64.wrap ((od : Int) + ((tbF a b (i + oa) (j + ob) : Nat) : Int)) = ((od + tbF a b (i + oa) (j + ob) : Nat) : Int) := by rw [IntWalk.i64_in _ (by omega)]; push_cast; rfl
  have HH := hid h
  clear h
  generalize i + oa = P at e1 e3 t1 h1 ⊢
  generalize j + ob = Q at e2 e3 t1 h2 ⊢
  go_enter Try.func16, Try.ntmps16
  go_wp2_with fail
  generalize hwz : World.alloc w _ = wz
  have hbz : Below w.heap.size w wz := by rw [← hwz]; exact (Below.refl _ _).alloc (Nat.le_refl _) _
  have d1 : wz.cell? ⟨w.heap.size, 1, none⟩ = some (.int .i64 (oa : Int)) := by rw [← hwz]; exact cell_of_row _ _ 1 _ 42 (0, 0) (heap_alloc_new w _)
  have d2 : wz.cell? ⟨w.heap.size, 2, none⟩ = some (.int .i64 (ob : Int)) := by rw [← hwz]; exact cell_of_row _ _ 2 _ 42 (0, 0) (heap_alloc_new w _)
  have d3 : wz.cell? ⟨w.heap.size, 3, none⟩ = some (.int .i64 (od : Int)) := by rw [← hwz]; exact cell_of_row _ _ 3 _ 42 (0, 0) (heap_alloc_new w _)
  have hz := HH.out.below hbz (Nat.le_refl _)
  have cF := cell_of_one hz.f
  have cI := cell_of_one hz.i
  have cJ := cell_of_one hz.j
  have hG := fun x y q (hx : x ≤ a.size) (hy : y ≤ b.size) => hid (far_at V U T x y a b (wz.drewN q) (hz.far.drewN q) ha hb hx hy)
  clear hz hwz HH l1 l2 l3
  generalize hR : w.heap.size = R at d1 d2 d3 hbz ⊢
  have HR := hid hR
  clear hR
  go_quiet ((go_at_call 17; exact Calls.quiet_of_same (hG _ _ _ (by omega) (by omega)).out))
  go_wp2_with fail
  go_ret
  exact ⟨ret_bool (by rw [Bool.eq_iff_iff, beq_iff_eq, decide_eq_true_iff]; omega), by rw [HR.out]; exact below_drewN hbz _⟩

set_option maxRecDepth 100000 in
set_option maxHeartbeats 2000000 in
theorem idx_any (A : Option Addr) (n c FB IB JB : Nat) (xs : List Opn) (p : Opn → Bool) (w : World) (hl : IsOps w w.heap.size A n xs) (hn : n ≤ 3) (hex : ∃ k, k < n ∧ p (xs.getD k oz) = true)
    (hp : ∀ (W : World) (x : Opn), x ∈ xs → Below w.heap.size w W → Calls Try.prog 16 #[.agg #[.int .u8 (x.1.toNat : Int), .int .i64 (x.2.1 : Int), .int .i64 (x.2.2.1 : Int), .int .i64 (x.2.2.2 : Int)], .pointer (some ⟨FB, 0, none⟩), .pointer (some ⟨IB, 0, none⟩), .pointer (some ⟨JB, 0, none⟩)] W
      fun e w' => e = .returned (.bool (p x)) ∧ Below W.heap.size W w') :
    Calls Try.prog 15 #[.slice A n c, .func (.func 16) #[] #[.pointer (some ⟨FB, 0, none⟩), .pointer (some ⟨IB, 0, none⟩), .pointer (some ⟨JB, 0, none⟩)]] w
      fun e w' => (∃ k : Nat, k < n ∧ p (xs.getD k oz) = true ∧ (∀ t, t < k → p (xs.getD t oz) = false) ∧ e = .returned (.int .i64 (k : Int))) ∧ Below w.heap.size w w' := by
  have HL := hid hl
  have HX := hid hex
  have HP := hid hp
  have hlen := hl.1
  have HLN := hid hlen
  clear hl hex hp hlen
  go_enter Try.func15, Try.ntmps15
  go_wp2_with fail
  go_loopw [5, 8] (fun _ x wr => ∃ t : Nat, t ≤ n ∧ x = .int .i64 t ∧ Hid (∀ s, s < t → p (xs.getD s oz) = false) ∧ Below w.heap.size w wr) (fun _ x _ => n - (intOf x).toNat)
  case atStart => exact ⟨0, by omega, rfl, hid (fun s hs => by omega), Below.refl _ _⟩
  case round =>
    obtain ⟨t, ht, rfl, HN, hb⟩ := hrel
    by_cases hlt : t < n
    · obtain ⟨g, off, rfl, hg, hc⟩ := HL.out.2 (by omega)
      obtain ⟨c1, c2, c3, c4⟩ := hc t hlt
      have c1 := (hb.cell hg).trans c1
      have c2 := (hb.cell hg).trans c2
      have c3 := (hb.cell hg).trans c3
      have c4 := (hb.cell hg).trans c4
      have hmem : xs.getD t oz ∈ xs := by
        rw [List.getD_eq_getElem?_getD, List.getElem?_eq_getElem (by rw [HLN.out]; exact hlt)]
        exact List.getElem_mem _
      have HC := hid (HP.out wr _ hmem hb)
      obtain ⟨X, hX⟩ : ∃ X, X = xs.getD t oz := ⟨_, rfl⟩
      rw [← hX] at c1 c2 c3 c4 HC
      have HXX := hid hX
      clear hmem hX hc
      obtain ⟨sx, oa, ob, od⟩ := X
      simp only at c1 c2 c3 c4 HC
      cases hq : p (sx, oa, ob, od) with
      | true =>
        rw [hq] at HC
        have HQ := hid hq
        clear hq
        go_wp2_with fail
        refine HC.out.mono ?_
        rintro e w2 ⟨rfl, hb2⟩
        go_wp2_with fail
        go_ret
        exact ⟨⟨t, hlt, by rw [← HXX.out]; exact HQ.out, HN.out, rfl⟩, hb.trans (hb2.mono hb.size)⟩
      | false =>
        rw [hq] at HC
        have HQ := hid hq
        clear hq
        go_wp2_with fail
        refine HC.out.mono ?_
        rintro e w2 ⟨rfl, hb2⟩
        have hbw := hb.trans (hb2.mono hb.size)
        clear c1 c2 c3 c4 HC hb hb2
        go_wp2_with fail
        go_roundw
        case rel =>
          refine ⟨t + 1, by omega, by go_num, hid (fun s hs => ?_), hbw⟩
          rcases (by omega : s < t ∨ s = t) with h | rfl
          · exact HN.out s h
          · rw [← HXX.out]; exact HQ.out
        case measure => first | (simp [intOf]; done) | (simp [intOf]; omega)
    · exfalso
      obtain ⟨k, hk, hpk⟩ := HX.out
      rw [HN.out k (by omega)] at hpk
      cases hpk
end Go.Proofs.Yteeajhelnolfcaa
