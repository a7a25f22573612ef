/-
  Contracts of slices.Grow at numbers (of nil), slices.Concat of two slices of places, and huff.join. Conditions: each slice holds a place, at most ten; weights are at most ten thousand.
-/
import Derived.Test.YtjllgehhdhcobaaDoorBase
import Derived.Test.YtjllgehhdhcobaaDoorHmem
import Derived.Lib.AppendZeros
import Derived.Deep.RegionHeld3
namespace Go.Proofs.YtjllgehhdhcobaaDoor
open Go.RowKit

set_option maxHeartbeats 1000000 in
theorem grow_any (n : Nat) (w : World) (h0 : 0 < n) (h20 : n ≤ 20) :
    Calls Tryd.prog 27 #[.slice none 0 0, .int .i64 (n : Int)] w fun e w' => ∃ v, e = .returned v ∧ OwnI w' w.heap.size 3 v [] ∧ Below w.heap.size w w' := by
  obtain ⟨i0, hi, hz0, hz1, hz2⟩ := info_parts int_info
  have hrun : ∀ ty, (Builtin.append_ #[22, 3] ty #[.slice none 0 0, .int .i64 (n : Int)]).run Tryd.prog w = .ok (.slice (some ⟨w.heap.size, 0, none⟩) n (grownCap w n 0 3)) (w.drew.alloc (.cells (Builtin.zeroCells (Value.int .i64 0).cells n ++ Builtin.zeroCells (Value.int .i64 0).cells (grownCap w n 0 3 - n)) 3)) :=
    fun ty => Lib.run_append_nil_zeros w _ _ ty _ i0 _ _ _ Tryd.underlying22 Tryd.underlying3 hi hz0 n h0 (by rw [hz1]; decide) (by omega) (by rw [hz2]; omega)
  have hown : OwnI (w.drew.alloc (.cells (Builtin.zeroCells (Value.int .i64 0).cells n ++ Builtin.zeroCells (Value.int .i64 0).cells (grownCap w n 0 3 - n)) 3)) w.heap.size 3 (.slice (some ⟨w.heap.size, 0, none⟩) 0 (grownCap w n 0 3)) [] := by
    have hge := grownCap_ge w n 0 3
    refine World.ownsRow_made w.drew _ _ (Nat.le_refl _) (grownCap_le_maxLen w n 0 _ (by unfold maxLen; omega)) ?_
    rw [Array.size_append, size_zeroCells, size_zeroCells]
    show n * 1 + (grownCap w n 0 3 - n) * 1 = grownCap w n 0 3 * 1
    omega
  have hb : Below w.heap.size w (w.drew.alloc (.cells (Builtin.zeroCells (Value.int .i64 0).cells n ++ Builtin.zeroCells (Value.int .i64 0).cells (grownCap w n 0 3 - n)) 3)) := (Below.refl _ _).drew.alloc (Nat.le_refl _) _
  have hcap : (0 : Nat) ≤ grownCap w n 0 3 := Nat.zero_le _
  generalize World.alloc w.drew _ = W at hrun hown hb
  generalize grownCap w n 0 3 = K at hrun hown hcap
  have HO := hid hown
  have HR := hid hrun
  clear hown hrun
  go_enter Tryd.func27, Tryd.ntmps27
  go_wp2_with (at_builtin; refine Lib.wpList_append_run _ rfl (.tmp 20) (.tmp 21) 22 3 rfl (.slice none 0 0) (.int .i64 (n : Int)) rfl rfl _ _ (HR.out _) ?_)
  go_wp2_with fail
  go_ret
  exact ⟨_, rfl, HO.out, hb⟩

/-- How many places the first i of two slices hold. -/
def len2 (a b i : Nat) : Nat := if i = 0 then 0 else if i = 1 then a else a + b
/-- The places of the first i of two slices. -/
def cat2 (xs ys : List Int) (i : Nat) : List Int := if i = 0 then [] else if i = 1 then xs else xs ++ ys

set_option maxRecDepth 100000 in
set_option maxHeartbeats 2000000 in
theorem concat_any (D : Nat) (t u : Tr) (S : Nat → Prop) (w : World) (hD : BlkAt w D 22 [sv t, sv u]) (ht : Leaf w S t) (hu : Leaf w S u) (h1 : t.2.2.length ≤ 10) (h2 : u.2.2.length ≤ 10) :
    Calls Tryd.prog 22 #[.slice (some ⟨D, 0, none⟩) 2 2] w fun e w' => ∃ g c : Nat, e = .returned (.slice (some ⟨g, 0, none⟩) (t.2.2 ++ u.2.2).length c) ∧ (t.2.2 ++ u.2.2).length ≤ c ∧ w.heap.size ≤ g ∧ IsInts w' w'.heap.size (some ⟨g, 0, none⟩) (t.2.2 ++ u.2.2).length (nums (t.2.2 ++ u.2.2)) ∧ Below w.heap.size w w' := by
  obtain ⟨i0, hi, hz0, hz1, hz2⟩ := info_parts int_info
  have hDlt := hD.lt
  have HC : Hid (∀ i, i < 2 → ∃ (G M C : Nat) (xs : List Int), w.cell? ⟨D, i, none⟩ = some (.slice (some ⟨G, 0, none⟩) M C) ∧ 0 < M ∧ M ≤ 10 ∧ M ≤ C ∧ len2 t.2.2.length u.2.2.length (i + 1) = len2 t.2.2.length u.2.2.length i + M ∧
      cat2 (nums t.2.2) (nums u.2.2) (i + 1) = cat2 (nums t.2.2) (nums u.2.2) i ++ xs ∧ xs.length = M ∧ G < w.heap.size ∧ ∀ j, j < M → w.cell? ⟨G, j, none⟩ = some (.int .i64 (xs.getD j 0))) := by
    intro i hi2
    match i, hi2 with
    | 0, _ => exact ⟨t.2.1.1, t.2.2.length, t.2.1.2, nums t.2.2, hD.cell rfl, ht.1, h1, ht.2.1, by simp [len2], by simp [cat2], nums_len _, ht.2.2.2.1, fun j hj => by rw [nums_at]; exact ht.2.2.2.2 j hj⟩
    | 1, _ => exact ⟨u.2.1.1, u.2.2.length, u.2.1.2, nums u.2.2, hD.cell rfl, hu.1, h2, hu.2.1, by simp [len2], by simp [cat2], nums_len _, hu.2.2.2.1, fun j hj => by rw [nums_at]; exact hu.2.2.2.2 j hj⟩
  have HL : Hid (∀ i, i ≤ 2 → len2 t.2.2.length u.2.2.length i ≤ 20 ∧ (cat2 (nums t.2.2) (nums u.2.2) i).length ≤ 20) := by
    intro i hi2
    match i, hi2 with
    | 0, _ => simp [len2, cat2]
    | 1, _ => simp [len2, cat2, nums_len]; omega
    | 2, _ => simp [len2, cat2, nums_len]; omega
  have hG := fun w1 => hid (grow_any (len2 t.2.2.length u.2.2.length 2) w1 (by have := ht.1; simp [len2]; omega) (HL.out 2 (by omega)).1)
  have HE : Hid (cat2 (nums t.2.2) (nums u.2.2) 2 = nums (t.2.2 ++ u.2.2) ∧ cat2 (nums t.2.2) (nums u.2.2) 0 = [] ∧ len2 t.2.2.length u.2.2.length 0 = 0 ∧ 0 < (t.2.2 ++ u.2.2).length) := hid ⟨by simp [cat2, nums_app], rfl, rfl, by have := ht.1; simp; omega⟩
  generalize t.2.2 ++ u.2.2 = zs at HE ⊢
  generalize cat2 (nums t.2.2) (nums u.2.2) = cat at HC HL HE
  generalize len2 t.2.2.length u.2.2.length = len at HC HL hG HE
  clear hD ht hu h1 h2
  go_enter Tryd.func22, Tryd.ntmps22
  go_wp2_with fail
  go_loopw [3, 11] (fun v x wr => ∃ i : Nat, i ≤ 2 ∧ x = .int .i64 i ∧ v = .int .i64 (len i : Nat) ∧ wr = w) (fun _ x _ => 2 - (intOf x).toNat)
  case atStart => exact ⟨0, by omega, rfl, by rw [HE.out.2.2.1]; rfl, rfl⟩
  case round =>
    obtain ⟨i, hi2, rfl, rfl, hw⟩ := hrel
    subst wr
    by_cases hlt : i < 2
    · obtain ⟨G, M, C, xs, c1, m0, m1, m2, hlen, _, _, _, _⟩ := HC.out i hlt
      have hl1 := (HL.out i hi2).1
      have hl2 := (HL.out (i + 1) (by omega)).1
      have HS := hid hlen
      rw [hlen] at hl2
      clear hlen
      generalize len i = s at hl1 hl2 HS
      have i1 : (i : Int) < 2 := by omega
      have s1 : ¬ ((s : Int) + (M : Int) < 0) := by omega
      go_wp2_with fail
      go_roundw
      case rel => exact ⟨i + 1, by omega, by go_num, by rw [HS.out]; push_cast; rfl, by first | rfl | trivial⟩
      case measure => simp [intOf]; omega
    · obtain rfl : i = 2 := by omega
      go_wp2_with fail
      refine ((hG w).out).mono ?_
      rintro e w1 ⟨v, rfl, hown, hb1⟩
      have HO : Hid (OwnI w1 w.heap.size 3 v (cat 0)) := hid (by rw [HE.out.2.1]; exact hown)
      clear hown
      go_wp2_with fail
      go_loopw [6, 27] (fun v x wr => ∃ i : Nat, i ≤ 2 ∧ x = .int .i64 i ∧ Hid (OwnI wr w.heap.size 3 v (cat i)) ∧ Below w.heap.size w wr) (fun _ x _ => 2 - (intOf x).toNat)
      case atStart => exact ⟨0, by omega, rfl, HO, hb1⟩
      case round =>
        clear HO hb1
        obtain ⟨i, hi2, rfl, HO, hb⟩ := hrel
        by_cases hlt : i < 2
        · obtain ⟨G, M, C, xs, c1, m0, m1, m2, _, hcat, hxl, hGlt, hx⟩ := HC.out i hlt
          have c1 := (hb.cell (p := ⟨D, i, none⟩) hDlt).trans c1
          have hx : ∀ j, j < M → wr.cell? ⟨G, j, none⟩ = some (.int .i64 (xs.getD j 0)) := fun j hj => (hb.cell (p := ⟨G, j, none⟩) hGlt).trans (hx j hj)
          have hl1 := (HL.out i hi2).2
          have HX : Hid (∀ j, j < M → wr.cell? ⟨G, 0 + j, none⟩ = some (.int .i64 (xs.getD j 0))) := hid (fun j hj => by rw [Nat.zero_add]; exact hx j hj)
          have HCt := hid hcat
          have hsz := hb.size
          have i1 : (i : Int) < 2 := by omega
          clear hx hcat
          go_wp2_with (at_builtin; refine wpList_append_ints _ rfl (.tmp 31) (.tmp 32) 22 rfl w.heap.size 3 i0 Tryd.underlying22 hi hz0 hz1 hz2 _ (cat i) rfl HO.out G 0 M C xs hxl rfl HX.out (by omega) hsz ?_)
          intro v' w6 hown6 hb6
          have HO6 : Hid (OwnI w6 w.heap.size 3 v' (cat (i + 1))) := hid (by rw [HCt.out]; exact hown6)
          clear hown6
          go_wp2_with fail
          go_roundw
          case rel => exact ⟨i + 1, by omega, by go_num, HO6, hb.trans hb6⟩
          case measure => simp [intOf]; omega
        · obtain rfl : i = 2 := by omega
          have hO2 := HO.out
          rw [HE.out.1] at hO2
          obtain ⟨g, c, rfl, hc, hg, hI⟩ := hO2.blk (by rw [nums_len]; exact HE.out.2.2.2)
          rw [nums_len] at hc hI ⊢
          have HI := hid hI
          clear HO hO2 hI
          go_wp2_with fail
          go_ret
          exact ⟨g, c, rfl, hc, hg, HI.out, hb⟩

set_option maxRecDepth 100000 in
set_option maxHeartbeats 4000000 in
theorem join_any (t u : Tr) (S : Nat → Prop) (w : World) (ht : Leaf w S t) (hu : Leaf w S u) (hS : ∀ b, S b → b < w.heap.size) (h1 : t.2.2.length ≤ 10) (h2 : u.2.2.length ≤ 10) (ht0 : 0 ≤ t.1) (ht1 : t.1 ≤ 10000) (hu0 : 0 ≤ u.1) (hu1 : u.1 ≤ 10000) :
    Calls Tryd.prog 19 #[.agg #[.int .i64 t.1, sv t], .agg #[.int .i64 u.1, sv u]] w fun e w' => ∃ g c : Nat, e = .returned (.agg #[.int .i64 (t.1 + u.1), sv (t.1 + u.1, (g, c), t.2.2 ++ u.2.2)]) ∧ Leaf w' S (t.1 + u.1, (g, c), t.2.2 ++ u.2.2) ∧ Below w.heap.size w w' := by
  have HC := fun (D : Nat) (w1 : World) (hD : BlkAt w1 D 22 [sv t, sv u]) (h3 : Below w.heap.size w w1) => hid (concat_any D t u S w1 hD (ht.chg (Chg.of_below h3)) (hu.chg (Chg.of_below h3)) h1 h2)
  have H0 : Hid (0 < (t.2.2 ++ u.2.2).length) := hid (by have := ht.1; simp; omega)
  have HSS := hid hS
  clear ht hu hS h1 h2
  unfold sv at HC ⊢
  obtain ⟨x, ⟨g1, c1⟩, xs⟩ := t
  obtain ⟨y, ⟨g2, c2⟩, ys⟩ := u
  simp only at HC H0 ht0 ht1 hu0 hu1 ⊢
  generalize xs ++ ys = zs at HC H0 ⊢
  generalize xs.length = m1 at HC ⊢
  generalize ys.length = m2 at HC ⊢
  have hxy : IntKind.i64.wrap (x + y) = x + y := IntWalk.i64_in _ (by omega)
  go_enter Tryd.func19, Tryd.ntmps19
  go_wp2_with fail
  generalize hwa : World.alloc (World.alloc (World.alloc w _) _) _ = wa
  have b1 : BlkAt wa w.heap.size 46 [.int .i64 x, .slice (some ⟨g1, 0, none⟩) m1 c1] := by
    rw [← hwa]
    exact ((BlkAt.new w _ [.int .i64 x, .slice (some ⟨g1, 0, none⟩) m1 c1] _ rfl).alloc _).alloc _
  have b2 : BlkAt wa (w.heap.size + 1) 46 [.int .i64 y, .slice (some ⟨g2, 0, none⟩) m2 c2] := by
    rw [← hwa]
    exact (BlkAt.new _ _ [.int .i64 y, .slice (some ⟨g2, 0, none⟩) m2 c2] _ (by simp)).alloc _
  have b3 : BlkAt wa (w.heap.size + 1 + 1) 46 [.int .i64 0, .slice none 0 0] := by
    rw [← hwa]
    exact BlkAt.new _ _ [.int .i64 0, .slice none 0 0] _ (by simp)
  have hba : Below w.heap.size w wa := by
    rw [← hwa]
    exact (((Below.refl _ w).alloc (Nat.le_refl _) _).alloc (by simp) _).alloc (by simp; omega) _
  have hsz : wa.heap.size = w.heap.size + 1 + 1 + 1 := by rw [← hwa]; simp
  clear hwa
  have e12 : w.heap.size ≠ w.heap.size + 1 + 1 := by omega
  have e23 : w.heap.size + 1 ≠ w.heap.size + 1 + 1 := by omega
  obtain ⟨R1, hR1⟩ : ∃ R, R = w.heap.size := ⟨_, rfl⟩
  obtain ⟨R2, hR2⟩ : ∃ R, R = w.heap.size + 1 := ⟨_, rfl⟩
  obtain ⟨R3, hR3⟩ : ∃ R, R = w.heap.size + 1 + 1 := ⟨_, rfl⟩
  have HR := hid (show w.heap.size ≤ R1 ∧ w.heap.size ≤ R3 ∧ R1 < wa.heap.size ∧ R2 < wa.heap.size ∧ R3 < wa.heap.size ∧ w.heap.size ≤ wa.heap.size by omega)
  rw [← hR3] at b3 e12 e23 ⊢
  rw [← hR2] at b2 e23 ⊢
  rw [← hR1] at b1 e12 ⊢
  clear hR1 hR2 hR3 hsz
  have HK : ∀ W : World, Hid (BlkAt W wa.heap.size 22 [.slice (some ⟨g1, 0, none⟩) m1 c1, .slice (some ⟨g2, 0, none⟩) m2 c2]) → Hid (Below wa.heap.size wa W) →
      Calls Tryd.prog 22 #[.slice (some ⟨wa.heap.size, 0, none⟩) 2 2] W fun e w' => ∃ g c : Nat, e = .returned (.slice (some ⟨g, 0, none⟩) zs.length c) ∧
        w'.cell? ⟨R1, 0, none⟩ = some (.int .i64 x) ∧ w'.cell? ⟨R1, 1, none⟩ = some (.slice (some ⟨g1, 0, none⟩) m1 c1) ∧ w'.cell? ⟨R2, 0, none⟩ = some (.int .i64 y) ∧ w'.cell? ⟨R2, 1, none⟩ = some (.slice (some ⟨g2, 0, none⟩) m2 c2) ∧
        w'.cell? ⟨R3, 0, none⟩ = some (.int .i64 0) ∧ w'.cell? ⟨R3, 1, none⟩ = some (.slice none 0 0) ∧ w'.frozen? ⟨R3, 0, none⟩ = false ∧ w'.frozen? ⟨R3, 1, none⟩ = false ∧
        Hid (BlkAt w' R3 46 [.int .i64 0, .slice none 0 0] ∧ zs.length ≤ c ∧ w.heap.size ≤ g ∧ R3 ≠ g ∧ IsInts w' w'.heap.size (some ⟨g, 0, none⟩) zs.length (nums zs) ∧ Below w.heap.size w w') := by
    intro W hD hB
    have hr := HR.out
    have hsW := hB.out.size
    refine ((HC _ W hD.out (hba.trans (hB.out.mono (by omega)))).out).mono ?_
    rintro e w' ⟨g, c, rfl, hc, hg, hI, hb⟩
    have d1 := (b1.below hB.out (Nat.le_refl _)).below hb (Nat.le_refl _)
    have d2 := (b2.below hB.out (Nat.le_refl _)).below hb (Nat.le_refl _)
    have d3 := (b3.below hB.out (Nat.le_refl _)).below hb (Nat.le_refl _)
    exact ⟨g, c, rfl, d1.cell rfl, d1.cell rfl, d2.cell rfl, d2.cell rfl, d3.cell rfl, d3.cell rfl, d3.frozen 0, d3.frozen 1, d3, hc, by omega, by omega, hI, (hba.trans (hB.out.mono (by omega))).trans (hb.mono (by omega))⟩
  have k1 := b1.cell (k := 0) rfl
  have k2 := b1.cell (k := 1) rfl
  have k3 := b2.cell (k := 0) rfl
  have k4 := b2.cell (k := 1) rfl
  have k5 := b3.cell (k := 0) rfl
  have k6 := b3.cell (k := 1) rfl
  have k7 := b3.frozen 0
  have k8 := b3.frozen 1
  have HK1 := hid (HK ((wa.alloc (.cells #[.slice (some ⟨g1, 0, none⟩) m1 c1, .slice (some ⟨g2, 0, none⟩) m2 c2] 22)).drew) (hid (BlkAt.new wa _ [.slice (some ⟨g1, 0, none⟩) m1 c1, .slice (some ⟨g2, 0, none⟩) m2 c2] _ rfl)) (hid ((Below.refl _ wa).alloc (Nat.le_refl _) _).drew))
  clear b1 b2 b3 HC HK
  have KK : Hid (∀ (W : World) (v1 v2 : Value), W.cell? ⟨R1, 0, none⟩ = some (.int .i64 x) ∧ W.cell? ⟨R1, 1, none⟩ = some (.slice (some ⟨g1, 0, none⟩) m1 c1) ∧ W.cell? ⟨R2, 0, none⟩ = some (.int .i64 y) ∧ W.cell? ⟨R2, 1, none⟩ = some (.slice (some ⟨g2, 0, none⟩) m2 c2) → ((W.setCell ⟨R3, 0, none⟩ v1).setCell ⟨R3, 1, none⟩ v2).cell? ⟨R1, 0, none⟩ = some (.int .i64 x) ∧ ((W.setCell ⟨R3, 0, none⟩ v1).setCell ⟨R3, 1, none⟩ v2).cell? ⟨R1, 1, none⟩ = some (.slice (some ⟨g1, 0, none⟩) m1 c1) ∧ ((W.setCell ⟨R3, 0, none⟩ v1).setCell ⟨R3, 1, none⟩ v2).cell? ⟨R2, 0, none⟩ = some (.int .i64 y) ∧ ((W.setCell ⟨R3, 0, none⟩ v1).setCell ⟨R3, 1, none⟩ v2).cell? ⟨R2, 1, none⟩ = some (.slice (some ⟨g2, 0, none⟩) m2 c2)) := by
    intro W v1 v2 h
    have n1 : ∀ (b o k : Nat), b ≠ R3 → (⟨R3, k, none⟩ : Addr) ≠ ⟨b, o, none⟩ := fun b o k h e => h (congrArg Addr.block e).symm
    rw [World.cell?_setCell_other _ _ _ _ (n1 R1 0 1 e12), World.cell?_setCell_other _ _ _ _ (n1 R1 0 0 e12), World.cell?_setCell_other _ _ _ _ (n1 R1 1 1 e12), World.cell?_setCell_other _ _ _ _ (n1 R1 1 0 e12),
      World.cell?_setCell_other _ _ _ _ (n1 R2 0 1 e23), World.cell?_setCell_other _ _ _ _ (n1 R2 0 0 e23), World.cell?_setCell_other _ _ _ _ (n1 R2 1 1 e23), World.cell?_setCell_other _ _ _ _ (n1 R2 1 0 e23)]
    exact h
  go_region_held3 (fun w' => w'.cell? ⟨R1, 0, none⟩ = some (.int .i64 x) ∧ w'.cell? ⟨R1, 1, none⟩ = some (.slice (some ⟨g1, 0, none⟩) m1 c1) ∧ w'.cell? ⟨R2, 0, none⟩ = some (.int .i64 y) ∧ w'.cell? ⟨R2, 1, none⟩ = some (.slice (some ⟨g2, 0, none⟩) m2 c2)) (first | go_keep | exact KK.out _ _ _ ⟨by assumption, by assumption, by assumption, by assumption⟩)
    (first | (go_at_call 22; refine HK1.out.mono ?_; rintro e w6 ⟨g, c, rfl, j1, j2, j3, j4, j5, j6, j7, j8, HF⟩; clear k1 k2 k3 k4 k5 k6 k7 k8))
  obtain ⟨d3, hc, hg, hne, hI, hb⟩ := HF.out
  obtain ⟨d4, hO4⟩ := d3.stored 0 (.int .i64 (x + y))
  obtain ⟨d5, hO5⟩ := d4.stored 1 (.slice (some ⟨g, 0, none⟩) zs.length c)
  have hr := HR.out
  have hO := hO4.trans hO5
  have HE := hid (show Below w.heap.size w _ from hb.trans (hO.below (B := w.heap.size) (by omega)))
  have HI := hid (show IsInts _ _ (some ⟨g, 0, none⟩) zs.length (nums zs) from by
    have := hI
    exact (⟨this.1, fun h => by
      obtain ⟨g', off, e, hg', hx⟩ := this.2 h
      injection e with e
      injection e with e1 e2
      subst e1
      subst e2
      exact ⟨g, 0, rfl, by rw [hO.size]; exact hg', fun j hj => (hO.cell (Ne.symm hne)).trans (hx j hj)⟩⟩ : IsInts ((w6.setCell ⟨R3, 0, none⟩ (.int .i64 (x + y))).setCell ⟨R3, 1, none⟩ (.slice (some ⟨g, 0, none⟩) zs.length c)) ((w6.setCell ⟨R3, 0, none⟩ (.int .i64 (x + y))).setCell ⟨R3, 1, none⟩ (.slice (some ⟨g, 0, none⟩) zs.length c)).heap.size (some ⟨g, 0, none⟩) zs.length (nums zs)))
  have HD := hid d5
  have HCs := hid (show zs.length ≤ c ∧ w.heap.size ≤ g from ⟨hc, hg⟩)
  clear d3 d4 d5 hO4 hO5 hO hI hb hr HF hc hg
  go_wp2_with fail
  refine bodyPost_ret (run_results_blk rfl _ _ R3 _ _ rfl HD.out Tryd.underlying46 (by kernel_rfl)) rfl ?_
  exact ⟨g, c, rfl, Leaf.of_ints HI.out H0.out HCs.out.1 (fun h => by have := HSS.out g h; have := HCs.out.2; omega), HE.out⟩
end Go.Proofs.YtjllgehhdhcobaaDoor
