/-
  Contracts of edit.Steps: the least script from one text to another one, or the error of a text that is too long. Conditions: none but the sizes that a row itself sets.
-/
import Derived.Test.YteeajhelnolfcaaEidx
import Derived.Test.YteeajhelnolfcaaConv
import Derived.Test.YteeajhelnolfcaaByteI
import Derived.Laws.EntriesVeiled
import Derived.Deep.LoopGhost
namespace Go.Proofs.Yteeajhelnolfcaa
open Go.RowKit

def encB1 (c : UInt8) : List Value := [encB c]
theorem encB1_flat (xs : List UInt8) : xs.flatMap encB1 = xs.map encB := by
  induction xs with
  | nil => rfl
  | cons x xs ih => rw [List.flatMap_cons, ih]; rfl
theorem encB1_one (x : UInt8) : ∀ u ∈ encB1 x, u.oneCell' = true := by
  intro u hu; simp [encB1] at hu; subst hu; rfl
theorem OwnX.signs {w : World} {base : Nat} {e : TypeId} {v : Value} {xs : List UInt8} (h : OwnX encB1 1 w base e v xs) : OwnB w base e v xs := by
  unfold OwnX at h
  rw [encB1_flat] at h
  exact h

theorem FarS.only {w w' : World} {V U T m W g : Nat} {F : Nat → Int} (h : FarS w V U T m W F) (ho : Only g w w') (h1 : V ≠ g) (h2 : U ≠ g) (h3 : T ≠ g) : FarS w' V U T m W F :=
  ⟨(ho.block _ h1).trans h.v, (ho.block _ h2).trans h.u, (ho.block _ h3).trans h.t, h.nv, h.nu⟩

/-- The state of Steps: what the function captures, and the script, which lies apart. -/
structure StpW (w : World) (X FB IB JB V U T i j : Nat) (a b : ByteArray) (v : Value) (o : List UInt8) : Prop where
  cap : CapW w FB IB JB V U T i j a b
  old : FB < X ∧ V < X ∧ U < X ∧ T < X
  new : X ≤ IB ∧ X ≤ JB ∧ IB ≠ JB
  own : OwnX encB1 1 w X 5 v o
  off : v.ownBlock ≠ some IB ∧ v.ownBlock ≠ some JB
section
variable {w w' : World} {X FB IB JB V U T i j : Nat} {a b : ByteArray} {v v' : Value} {o o' : List UInt8}
theorem StpW.below (h : StpW w X FB IB JB V U T i j a b v o) (hb : Below w.heap.size w w') : StpW w' X FB IB JB V U T i j a b v o :=
  ⟨h.cap.below hb (Nat.le_refl _), h.old, h.new, h.own.below hb (Nat.le_refl _), h.off⟩
theorem StpW.drewN (h : StpW w X FB IB JB V U T i j a b v o) (q : Nat) : StpW (w.drewN q) X FB IB JB V U T i j a b v o :=
  h.below (below_drewN (Below.refl _ _) q)
/-- The script has grown. -/
theorem StpW.turn (h : StpW w X FB IB JB V U T i j a b v o) (ht : Turn w w' v v') (ho : OwnX encB1 1 w' X 5 v' o') : StpW w' X FB IB JB V U T i j a b v' o' := by
  have l1 := lt_of_block h.cap.f
  have l2 := lt_of_block h.cap.i
  have l3 := lt_of_block h.cap.j
  have l4 := lt_of_block h.cap.far.v
  have l5 := lt_of_block h.cap.far.u
  have l6 := BlkAt.lt h.cap.far.t
  have hlow : ∀ b, b < X → some b ≠ v.ownBlock := fun b hb e => by
    have := (h.own.lt e.symm).1
    omega
  obtain ⟨o1, o2, o3, o4⟩ := h.old
  refine ⟨⟨⟨(ht.block _ l4 (hlow _ o2)).trans h.cap.far.v, (ht.block _ l5 (hlow _ o3)).trans h.cap.far.u, ?_, h.cap.far.nv, h.cap.far.nu⟩, (ht.block _ l1 (hlow _ o1)).trans h.cap.f,
    (ht.block _ l2 fun e => h.off.1 e.symm).trans h.cap.i, (ht.block _ l3 fun e => h.off.2 e.symm).trans h.cap.j⟩, h.old, h.new, ho, ?_, ?_⟩
  · unfold NumAt BlkAt
    rw [ht.block _ l6 (hlow _ o4)]
    exact h.cap.far.t
  · rcases ht.here with e | ⟨g, e, hg⟩
    · rw [e]; exact h.off.1
    · rw [e]; intro e2; injection e2 with e2; omega
  · rcases ht.here with e | ⟨g, e, hg⟩
    · rw [e]; exact h.off.2
    · rw [e]; intro e2; injection e2 with e2; omega
/-- Both places go on: stored, and then laid anew. -/
theorem StpW.next (h : StpW w X FB IB JB V U T i j a b v o) (P Q : Nat) :
    (w.cell? ⟨IB, 0, none⟩ = some (.int .i64 (i : Int)) ∧ w.frozen? ⟨IB, 0, none⟩ = false ∧ w.cell? ⟨JB, 0, none⟩ = some (.int .i64 (j : Int))) ∧
    ((w.setCell ⟨IB, 0, none⟩ (.int .i64 (P : Int))).cell? ⟨JB, 0, none⟩ = some (.int .i64 (j : Int)) ∧ (w.setCell ⟨IB, 0, none⟩ (.int .i64 (P : Int))).frozen? ⟨JB, 0, none⟩ = false) ∧
    (((w.setCell ⟨IB, 0, none⟩ (.int .i64 (P : Int))).setCell ⟨JB, 0, none⟩ (.int .i64 (Q : Int))).cell? ⟨IB, 0, none⟩ = some (.int .i64 (P : Int)) ∧ ((w.setCell ⟨IB, 0, none⟩ (.int .i64 (P : Int))).setCell ⟨JB, 0, none⟩ (.int .i64 (Q : Int))).cell? ⟨JB, 0, none⟩ = some (.int .i64 (Q : Int))) ∧
    ((w.setCell ⟨IB, 0, none⟩ (.int .i64 (P : Int))).setCell ⟨JB, 0, none⟩ (.int .i64 (Q : Int))).heap.size = w.heap.size ∧
    StpW ((((w.setCell ⟨IB, 0, none⟩ (.int .i64 (P : Int))).setCell ⟨JB, 0, none⟩ (.int .i64 (Q : Int))).alloc (.cells #[.int .i64 (P : Int)] 3)).alloc (.cells #[.int .i64 (Q : Int)] 3)) X FB w.heap.size (w.heap.size + 1) V U T P Q a b v o ∧
    Below X w ((((w.setCell ⟨IB, 0, none⟩ (.int .i64 (P : Int))).setCell ⟨JB, 0, none⟩ (.int .i64 (Q : Int))).alloc (.cells #[.int .i64 (P : Int)] 3)).alloc (.cells #[.int .i64 (Q : Int)] 3)) := by
  have bI : BlkAt w IB 3 [.int .i64 (i : Int)] := h.cap.i
  have bJ : BlkAt w JB 3 [.int .i64 (j : Int)] := h.cap.j
  obtain ⟨s1, s2⟩ := bI.stored 0 (.int .i64 (P : Int))
  have bJ2 : BlkAt (w.setCell ⟨IB, 0, none⟩ (.int .i64 (P : Int))) JB 3 [.int .i64 (j : Int)] := (s2.block _ (fun e => h.new.2.2 e.symm)).trans bJ
  obtain ⟨s3, s4⟩ := bJ2.stored 0 (.int .i64 (Q : Int))
  have bI3 : BlkAt ((w.setCell ⟨IB, 0, none⟩ (.int .i64 (P : Int))).setCell ⟨JB, 0, none⟩ (.int .i64 (Q : Int))) IB 3 [.int .i64 (P : Int)] := (s4.block _ h.new.2.2).trans s1
  have hlI := bI.lt
  have hlJ := bJ.lt
  obtain ⟨o1, o2, o3, o4⟩ := h.old
  obtain ⟨n1, n2, n3⟩ := h.new
  have hsz : ((w.setCell ⟨IB, 0, none⟩ (.int .i64 (P : Int))).setCell ⟨JB, 0, none⟩ (.int .i64 (Q : Int))).heap.size = w.heap.size := by rw [s4.size, s2.size]
  refine ⟨⟨bI.cell rfl, bI.frozen 0, bJ.cell rfl⟩, ⟨bJ2.cell rfl, bJ2.frozen 0⟩, ⟨bI3.cell rfl, s3.cell rfl⟩, hsz, ?_⟩
  have hf := (h.cap.far.only s2 (by omega) (by omega) (by omega)).only s4 (by omega) (by omega) (by omega)
  have hff := (s4.block FB (by omega)).trans ((s2.block FB (by omega)).trans h.cap.f)
  have hown : OwnX encB1 1 ((w.setCell ⟨IB, 0, none⟩ (.int .i64 (P : Int))).setCell ⟨JB, 0, none⟩ (.int .i64 (Q : Int))) X 5 v o :=
    (h.own.keep fun b hb => s2.block b fun e => h.off.1 (by rw [hb, e])).keep fun b hb => s4.block b fun e => h.off.2 (by rw [hb, e])
  have hbx : Below X w ((w.setCell ⟨IB, 0, none⟩ (.int .i64 (P : Int))).setCell ⟨JB, 0, none⟩ (.int .i64 (Q : Int))) := (s2.below n1).trans (s4.below n2)
  generalize (w.setCell ⟨IB, 0, none⟩ (.int .i64 (P : Int))).setCell ⟨JB, 0, none⟩ (.int .i64 (Q : Int)) = w9 at hsz hf hff hown hbx ⊢
  rw [← hsz] at hlI hlJ ⊢
  have hb1 : Below w9.heap.size w9 (w9.alloc (.cells #[.int .i64 (P : Int)] 3)) := (Below.refl _ _).alloc (Nat.le_refl _) _
  have hb2 : Below (w9.heap.size + 1) (w9.alloc (.cells #[.int .i64 (P : Int)] 3)) ((w9.alloc (.cells #[.int .i64 (P : Int)] 3)).alloc (.cells #[.int .i64 (Q : Int)] 3)) := (Below.refl _ _).alloc (by simp) _
  have hb3 := hb1.trans (hb2.mono (by omega))
  have hnew : ((w9.alloc (.cells #[.int .i64 (P : Int)] 3)).alloc (.cells #[.int .i64 (Q : Int)] 3)).heap[w9.heap.size + 1]? = some (.cells #[.int .i64 (Q : Int)] 3 (0, 0)) := by
    have := heap_alloc_new (w9.alloc (.cells #[.int .i64 (P : Int)] 3)) (.cells #[.int .i64 (Q : Int)] 3)
    simpa using this
  refine ⟨⟨⟨hf.below hb3 (Nat.le_refl _), (hb3.block FB (lt_of_block hff)).trans hff, (hb2.block _ (by omega)).trans (heap_alloc_new w9 _), hnew⟩, h.old, ⟨by omega, by omega, by omega⟩, hown.below hb3 (Nat.le_refl _), fun e => ?_, fun e => ?_⟩, hbx.trans (hb3.mono (by omega))⟩
  · have := (hown.lt e).2; omega
  · have := (hown.lt e).2; omega
end

theorem stp_below (w : World) (o1 o2 o3 : Obj) {B : Nat} (hB : B ≤ w.heap.size) : Below B w (((w.alloc o1).alloc o2).alloc o3) :=
  (((Below.refl _ w).alloc hB o1).alloc (by simp; omega) o2).alloc (by simp; omega) o3
theorem stp_start (w : World) (V U T : Nat) (a b : ByteArray) (h : FarS w V U T ((a.size + 1) * (b.size + 1)) (b.size + 1) (knF a b 0)) :
    StpW (((w.alloc (.cells #[.func (.func 17) #[] #[.pointer (some ⟨V, 0, none⟩), .pointer (some ⟨U, 0, none⟩)]] 36)).alloc (.cells #[.int .i64 0] 3)).alloc (.cells #[.int .i64 0] 3)) (w.heap.size + 1) w.heap.size (w.heap.size + 1) (w.heap.size + 1 + 1) V U T 0 0 a b (.slice none 0 0) [] := by
  have l1 := lt_of_block h.v
  have l2 := lt_of_block h.u
  have l3 := BlkAt.lt h.t
  have hb := stp_below w (.cells #[.func (.func 17) #[] #[.pointer (some ⟨V, 0, none⟩), .pointer (some ⟨U, 0, none⟩)]] 36) (.cells #[.int .i64 0] 3) (.cells #[.int .i64 0] 3) (Nat.le_refl _)
  have hF := heap_alloc_new w (.cells #[.func (.func 17) #[] #[.pointer (some ⟨V, 0, none⟩), .pointer (some ⟨U, 0, none⟩)]] 36)
  generalize hw1 : w.alloc (.cells #[.func (.func 17) #[] #[.pointer (some ⟨V, 0, none⟩), .pointer (some ⟨U, 0, none⟩)]] 36) = w1 at hb hF ⊢
  have hs1 : w1.heap.size = w.heap.size + 1 := by rw [← hw1]; simp
  have hI := heap_alloc_new w1 (.cells #[.int .i64 0] 3)
  have hb1 : Below w1.heap.size w1 (w1.alloc (.cells #[.int .i64 0] 3)) := (Below.refl _ _).alloc (Nat.le_refl _) _
  generalize hw2 : w1.alloc (.cells #[.int .i64 0] 3) = w2 at hb hI hb1 ⊢
  have hs2 : w2.heap.size = w1.heap.size + 1 := by rw [← hw2]; simp
  have hJ := heap_alloc_new w2 (.cells #[.int .i64 0] 3)
  have hb2 : Below w2.heap.size w2 (w2.alloc (.cells #[.int .i64 0] 3)) := (Below.refl _ _).alloc (Nat.le_refl _) _
  rw [hs1] at hI
  rw [hs2, hs1] at hJ
  exact ⟨⟨h.below hb (Nat.le_refl _), (hb2.block _ (by omega)).trans ((hb1.block _ (by omega)).trans hF), (hb2.block _ (by omega)).trans hI, hJ⟩, ⟨by omega, by omega, by omega, by omega⟩, ⟨by omega, by omega, by omega⟩, OwnX.nil _ _ _ _ _, by simp [Value.ownBlock], by simp [Value.ownBlock]⟩

theorem esteps_full (a b : ByteArray) (w : World) (h : 24 < a.size ∨ 24 < b.size) (ha : a.size ≤ maxLen) (hb : b.size ≤ maxLen) :
    Calls Try.prog 10 #[.string a, .string b] w fun e w' => e = .returned (.tuple #[.string ByteArray.empty, .iface 35 (.int .i64 4)]) ∧ Below w.heap.size w w' := by
  have H1 := hid (long_two a b w h ha hb)
  clear h
  go_enter Try.func10, Try.ntmps10
  go_wp2_with fail
  refine H1.out.mono ?_
  rintro e w1 ⟨rfl, hw1⟩
  subst w1
  go_wp2_with fail
  go_ret2
  exact ⟨rfl, Below.refl _ _⟩

set_option maxRecDepth 100000 in
set_option maxHeartbeats 8000000 in
theorem esteps_any (a b : ByteArray) (w : World) (ha : a.size ≤ 24) (hb : b.size ≤ 24) :
    Calls Try.prog 10 #[.string a, .string b] w fun e w' => (∃ o, e = .returned (.tuple #[.string (txt o), .nilIface]) ∧ Least (bs a) (bs b) o) ∧ Below w.heap.size w w' := by
  obtain ⟨i0, hi, hz0, hz1, hz2⟩ := info_parts byteI
  have hmf : ∀ (fn : Fn) (first cap : Array Value) (w : World), (Instr.makeFunc fn first cap).run Try.prog w = .ok (.func fn first cap) w := fun _ _ _ _ => rfl
  have HP := fun x y W => hid (poss_any x y W)
  have H1 := hid (short_two a b w ha hb)
  have H2 := hid (dist_any a b w ha hb)
  go_enter Try.func10, Try.ntmps10
  go_wp2_with fail
  refine H1.out.mono ?_
  rintro e w1 ⟨rfl, hw1⟩
  subst w1
  go_wp2_with fail
  refine H2.out.mono ?_
  rintro e w1 ⟨V, U, T, rfl, hF, _, _, _, hb1⟩
  have HF := hid hF
  clear H1 H2 hF
  go_wp2_with fail
  have hl1 : V < w1.heap.size ∧ U < w1.heap.size ∧ T < w1.heap.size := ⟨lt_of_block HF.out.v, lt_of_block HF.out.u, BlkAt.lt HF.out.t⟩
  have HS0 := hid (stp_start w1 V U T a b HF.out)
  have hbw0 := hb1.trans (stp_below w1 (.cells #[.func (.func 17) #[] #[.pointer (some ⟨V, 0, none⟩), .pointer (some ⟨U, 0, none⟩)]] 36) (.cells #[.int .i64 0] 3) (.cells #[.int .i64 0] 3) hb1.size)
  have hX : w.heap.size ≤ w1.heap.size + 1 := by have := hb1.size; omega
  clear HF hl1 hb1
  generalize w1.heap.size + 1 + 1 = JB0 at HS0 ⊢
  generalize w1.heap.size + 1 = X at HS0 hX ⊢
  generalize w1.heap.size = FB at HS0 ⊢
  generalize World.alloc _ _ = w2 at HS0 hbw0 ⊢
  go_loopg [7, 8, 9] (a.size + b.size) (fun g v x y wr => ∃ (i j IB JB : Nat) (o : List UInt8) (z : Value), v = z ∧ x = .pointer (some ⟨IB, 0, none⟩) ∧ y = .pointer (some ⟨JB, 0, none⟩) ∧ i ≤ a.size ∧ j ≤ b.size ∧ a.size + b.size ≤ g + (i + j) ∧ o.length ≤ i + j ∧ Hid (StTo a b i j o) ∧
    Hid (StpW wr X FB IB JB V U T i j a b z o) ∧ Below w.heap.size w wr)
  case atStart => exact ⟨0, 0, X, JB0, [], _, rfl, rfl, rfl, by omega, by omega, by omega, by simp, hid (stTo_start a b), HS0, hbw0⟩
  case round =>
    clear HS0 hbw0
    obtain ⟨i, j, IB, JB, o, v, hv, rfl, rfl, hia, hjb, hg, hol, HST, HS, hbw⟩ := hrel
    have hv := hv.symm
    subst hv
    have cI := cell_of_one HS.out.cap.i
    have cJ := cell_of_one HS.out.cap.j
    have hcutA : ∀ W : World, Sem.run Try.prog (Instr.slice 9 (.string a) (some (.int .i64 (i : Int))) none none) W = .ok (.string (a.extract i a.size)) W := fun W =>
      run_slice_string_l W 9 a Try.underlying9 .i64 (i : Int) (by omega) (by omega)
    have hcutB : ∀ W : World, Sem.run Try.prog (Instr.slice 9 (.string b) (some (.int .i64 (j : Int))) none none) W = .ok (.string (b.extract j b.size)) W := fun W =>
      run_slice_string_l W 9 b Try.underlying9 .i64 (j : Int) (by omega) (by omega)
    by_cases hgo : i < a.size ∨ j < b.size
    · have HGo := hid hgo
      clear hgo
      rcases (by have := HGo.out; omega : i < a.size ∨ (¬ i < a.size ∧ j < b.size)) with g1 | ⟨g1, g2⟩
      focus
        go_wp2_with fail
      rotate_left
      focus
        go_wp2_with fail
      rotate_left
      all_goals (
        refine (wpIn_wide (n := 1)).1 ?_
        refine wpIn_region_tail (C := fun w' => ∃ q, w' = wr.drewN q) (lets_wide _) 6 (by kernel_rfl) (by kernel_rfl) ⟨1, rfl⟩ ?_
        simp only [List.take_succ_cons, List.take_zero, List.drop_succ_cons, List.drop_zero]
        repeat (quiet_step (fail))
        refine wpQuiet_nil ?_
        rintro _ ⟨q1, rfl⟩
        have HS1 := hid (HS.out.drewN q1)
        have hbw1 := below_drewN hbw q1
        clear HS hbw cI cJ hcutA hcutB
        generalize wr.drewN q1 = w5 at HS1 hbw1 ⊢
        gi_wp2_with fail
        refine ⟨trivial, (callsIn_wide.2 ((HP _ _ _).out)).mono ?_⟩
        rintro e w6 ⟨v6, rfl, hown6, hb6⟩
        rw [opsT_end a b hia hjb] at hown6
        obtain ⟨A, c, rfl, hops⟩ := IsOps.of_own hown6
        have HO6 := hid hops
        have HS6 := hid (HS1.out.below hb6)
        have hbw6 := hbw1.trans (hb6.mono hbw1.size)
        clear hown6 hops HS1 hbw1 hb6
        gi_wp2
        have hn3 := ops_len a b i j
        have hex := ops_hit HGo.out
        generalize hn : (opsF a b i j).length = n at HO6 hn3 hex ⊢
        have HN := hid hn
        have HI := hid (idx_any A n c FB IB JB (opsF a b i j) (fun x => decide (costF a b i j x = tbF a b i j)) w6 HO6.out hn3 (by obtain ⟨k, h1, h2⟩ := hex; exact ⟨k, h1, decide_eq_true h2⟩)
          (fun W x hx hbW => op_fn FB IB JB V U T i j a b x W (HS6.out.cap.below hbW (Nat.le_refl _)) ha hb hia hjb (ops_in hx hia hjb)))
        clear hn hex
        go_wp2_with fail
        refine HI.out.mono ?_
        rintro e w7 ⟨⟨k, hk, hpk, hpn, rfl⟩, hb7⟩
        have hst := stTo_op HST.out (by rw [HN.out]; exact hk) (of_decide_eq_true hpk) (fun t ht => of_decide_eq_false (hpn t ht))
        have hin := ops_in (a := a) (b := b) (i := i) (j := j) (x := (opsF a b i j).getD k oz) (by rw [List.getD_eq_getElem?_getD, List.getElem?_eq_getElem (by rw [HN.out]; exact hk)]; exact List.getElem_mem _) hia hjb
        obtain ⟨g0, off, rfl, hg0, hcl⟩ := HO6.out.2 (by omega)
        obtain ⟨c1, c2, c3, c4⟩ := hcl k hk
        have c1 := (hb7.cell hg0).trans c1
        have c2 := (hb7.cell hg0).trans c2
        have c3 := (hb7.cell hg0).trans c3
        have c4 := (hb7.cell hg0).trans c4
        have hg7 : g0 < w7.heap.size := Nat.lt_of_lt_of_le hg0 hb7.size
        clear hpk hpn HI hcl hg0
        generalize (opsF a b i j).getD k oz = X0 at c1 c2 c3 c4 hst hin
        obtain ⟨sx, oa, ob, od⟩ := X0
        simp only at c1 c2 c3 c4 hst hin
        obtain ⟨h1, h2, h3, h4, _, h6⟩ := hin
        have HST2 := hid hst
        have HS7 := hid (HS6.out.below hb7)
        have hbw7 := hbw6.trans (hb7.mono hbw6.size)
        have hb8 : Below w7.heap.size w7 (w7.alloc (.cells #[.int .u8 (sx.toNat : Int), .int .i64 (oa : Int), .int .i64 (ob : Int), .int .i64 (od : Int)] 42)) := (Below.refl _ _).alloc (Nat.le_refl _) _
        have HS8 := hid (HS7.out.below hb8)
        have HOff := hid (show ∀ b, v.ownBlock = some b → b < w7.heap.size from fun b hb => (HS7.out.own.lt hb).2)
        have hown8 := HS8.out.own
        have hlen : o.length ≤ 1099511627776 := by omega
        have hX8 : X ≤ (w7.alloc (.cells #[.int .u8 (sx.toNat : Int), .int .i64 (oa : Int), .int .i64 (ob : Int), .int .i64 (od : Int)] 42)).heap.size := by
          have e1 := HS8.out.new
          have e2 := lt_of_block HS8.out.cap.i
          omega
        have hsz8 : (w7.alloc (.cells #[.int .u8 (sx.toNat : Int), .int .i64 (oa : Int), .int .i64 (ob : Int), .int .i64 (od : Int)] 42)).heap.size = w7.heap.size + 1 := by simp
        have HD2 := hid (heap_alloc_new w7 (.cells #[.int .u8 (sx.toNat : Int), .int .i64 (oa : Int), .int .i64 (ob : Int), .int .i64 (od : Int)] 42))
        have hbw8 := hbw7.trans (hb8.mono hbw7.size)
        have k1 : (k : Int) < (n : Int) := by omega
        clear hst HS6 hbw6 hb7 HO6 hb8
        go_wp2_with (at_builtin; refine wpList_append_x _ rfl (.tmp 44) (.tmp 47) 33 rfl X 5 i0 encB1 1 (.int .u8 0) 1 (fun _ => rfl) encB1_one (by decide) (by decide) Try.underlying33 hi hz0 hz1 hz2 rfl v o rfl hown8 sx (congrArg (fun z => Value.slice (some ⟨z, 0, none⟩) 1 1) hsz8.symm) hlen hX8 ?_)
        intro v9 w9 hown9 hturn9
        have HS9 := hid (HS8.out.turn hturn9 hown9)
        have hbw9 := hbw8.trans (hturn9.below (B := w.heap.size) (by have := hbw8.size; exact this) fun b hb => Nat.le_trans hX (HS8.out.own.lt hb).1)
        have hR9 : w9.heap[w7.heap.size]? = some (.cells #[.int .u8 (sx.toNat : Int), .int .i64 (oa : Int), .int .i64 (ob : Int), .int .i64 (od : Int)] 42 (0, 0)) :=
          (hturn9.block _ (by rw [hsz8]; omega) (fun e => by have := HOff.out _ e.symm; omega)).trans HD2.out
        have hd1 := cell_of_row w9 _ 1 _ _ _ hR9
        have hd2 := cell_of_row w9 _ 2 _ _ _ hR9
        have hX9 := hid hX
        have hRI : w7.heap.size ≠ IB := by have := lt_of_block HS7.out.cap.i; omega
        have hO9 : ∀ z : Value, (w9.setCell ⟨IB, 0, none⟩ z).cell? ⟨w7.heap.size, 2, none⟩ = w9.cell? ⟨w7.heap.size, 2, none⟩ := fun z =>
          ((BlkAt.stored (g := IB) (e := 3) (vs := [.int .i64 (i : Int)]) HS9.out.cap.i 0 z).2).cell hRI
        clear hRI c1 c2 c3 c4 hown9 hturn9 hown8 hX8 hsz8 HS8 hbw8 HD2 HOff hbw7 hlen HS7
        generalize w7.heap.size + 1 = R1
        generalize w7.heap.size = R at hR9 hd1 hd2 hO9 ⊢
        have e1 : IntKind.i64.wrap ((i : Int) + (oa : Int)) = ((i + oa : Nat) : Int) := by rw [IntWalk.i64_in _ (by omega)]; push_cast; rfl
        have e2 : IntKind.i64.wrap ((j : Int) + (ob : Int)) = ((j + ob : Nat) : Int) := by rw [IntWalk.i64_in _ (by omega)]; push_cast; rfl
        have hij : i + j + 1 ≤ i + oa + (j + ob) := by omega
        have HQ := hid (HS9.out.next (i + oa) (j + ob))
        obtain ⟨cI, fI, cJ⟩ := HQ.out.1
        clear hR9
        generalize i + oa = P at e1 h1 HST2 HQ hij
        generalize j + ob = Q at e2 h2 HST2 HQ hij
        obtain ⟨cJ2, fJ2⟩ := HQ.out.2.1
        have hd3 := (hO9 (.int .i64 (P : Int))).trans hd2
        go_wp2_with fail
        go_region
        obtain ⟨cI4, cJ4⟩ := HQ.out.2.2.1
        clear cI fI cJ cJ2 fJ2 hd1 hd2 hd3 hO9
        go_wp2_with fail
        have HE := hid HQ.out.2.2.2.2
        have hbX := hbw9.trans (HE.out.2.mono hX9.out)
        have hl1 : (o ++ [sx]).length ≤ P + Q := by rw [List.length_append, List.length_singleton]; omega
        have hgk : gk - 1 < gk := by have := HGo.out; omega
        have hgl : a.size + b.size ≤ gk - 1 + (P + Q) := by omega
        go_roundg (gk - 1)
        case measure => exact hgk
        case rel => exact ⟨P, Q, _, _, o ++ [sx], v9, rfl, rfl, rfl, h1, h2, hgl, hl1, HST2, hid (HE.out.1.drewN 1), below_drewN hbX 1⟩)
    · have g1 : ¬ i < a.size := by omega
      have g2 : ¬ j < b.size := by omega
      have hls := stTo_end HST.out (by omega) (by omega)
      have hconv := conv_own HS.out.own.signs
      have HLs := hid hls
      clear hls hcutA hcutB HST HS
      go_wp2_with fail
      go_ret2
      exact ⟨⟨o, rfl, HLs.out⟩, hbw⟩
end Go.Proofs.Yteeajhelnolfcaa
