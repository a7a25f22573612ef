/-
  Plain facts on slices of hits (structs of two numbers), 'out = append(out, hit)', and slices.SortFunc over a slice of the call's own. No condition.
-/
import Derived.Test.YtdkbgikniacekaaMcmp
namespace Go.Proofs.Ytdkbgikniacekaa
open Go.RowKit Go.Shelf Go.Sort

/-! ### Slices of hits -/
/-- The slice value '.slice A n _' holds the hits xs in world w, below block B. -/
def IsHits (w : World) (B : Nat) (A : Option Addr) (n : Nat) (xs : List (Nat × Nat)) : Prop :=
  xs.length = n ∧ (0 < n → ∃ g off, A = some ⟨g, off, none⟩ ∧ g < B ∧ ∀ j, j < n → w.cell? ⟨g, off + j * 2, none⟩ = some (.int .i64 ((xs.getD j (0, 0)).1 : Int)) ∧ w.cell? ⟨g, off + j * 2 + 1, none⟩ = some (.int .i64 ((xs.getD j (0, 0)).2 : Int)))
theorem IsHits.keep {w w' : World} {B B' n : Nat} {A : Option Addr} {xs : List (Nat × Nat)} (h : IsHits w B A n xs) (hB : B ≤ B')
    (hk : ∀ b o, b < B → w'.cell? ⟨b, o, none⟩ = w.cell? ⟨b, o, none⟩) : IsHits w' B' A n xs :=
  ⟨h.1, fun hn => by
    obtain ⟨g, off, e, hg, hc⟩ := h.2 hn
    exact ⟨g, off, e, by omega, fun j hj => ⟨(hk _ _ hg).trans (hc j hj).1, (hk _ _ hg).trans (hc j hj).2⟩⟩⟩
theorem IsHits.below {w w' : World} {B n : Nat} {A : Option Addr} {xs : List (Nat × Nat)} (h : IsHits w B A n xs) (hb : Below B w w') : IsHits w' B A n xs :=
  h.keep (Nat.le_refl _) fun _ _ hp => hb.cell hp
theorem IsHits.on {w w' : World} {n : Nat} {A : Option Addr} {xs : List (Nat × Nat)} (h : IsHits w w.heap.size A n xs) (hb : Below w.heap.size w w') : IsHits w' w'.heap.size A n xs :=
  h.keep hb.size fun _ _ hp => hb.cell hp
theorem IsHits.nil {w : World} {B : Nat} {A : Option Addr} : IsHits w B A 0 [] := ⟨rfl, fun h => absurd h (by omega)⟩

theorem flat_len (xs : List (Nat × Nat)) : (xs.flatMap encH).length = xs.length * 2 := by
  induction xs with
  | nil => rfl
  | cons x xs ih => rw [List.flatMap_cons, List.length_append, ih]; simp [encH]; omega
theorem flat_get (xs : List (Nat × Nat)) : ∀ j, j < xs.length → (xs.flatMap encH)[j * 2]? = some (.int .i64 ((xs.getD j (0, 0)).1 : Int)) ∧ (xs.flatMap encH)[j * 2 + 1]? = some (.int .i64 ((xs.getD j (0, 0)).2 : Int)) := by
  induction xs with
  | nil => intro j hj; simp at hj
  | cons x xs ih =>
    intro j hj
    cases j with
    | zero => simp [encH]
    | succ j =>
      have := ih j (by simpa using hj)
      rw [List.flatMap_cons, show (j + 1) * 2 = j * 2 + 2 by omega, show j * 2 + 2 + 1 = (j * 2 + 1) + 2 by omega]
      simpa [encH] using this
/-- A slice value that is the call's own and holds the hits xs. Shut for the walk. -/
def OwnH (w : World) (base : Nat) (e : TypeId) (v : Value) (xs : List (Nat × Nat)) : Prop := w.ownsRow base e 2 v xs.length (xs.flatMap encH)
theorem OwnH.nil (w : World) (base : Nat) (e : TypeId) : OwnH w base e (.slice none 0 0) [] := World.ownsRow_nil _ _ _ _
theorem OwnH.below {w w' : World} {base B : Nat} {e : TypeId} {v : Value} {xs : List (Nat × Nat)} (h : OwnH w base e v xs) (hb : Below B w w') (hB : w.heap.size ≤ B) : OwnH w' base e v xs := by
  refine ⟨h.1, ?_⟩
  rcases h.2 with h' | ⟨g, cap, cur, h1, h2, h3, h4⟩
  · exact .inl h'
  · refine .inr ⟨g, cap, cur, h1, h2, ?_, h4⟩
    have hlt : g < w.heap.size := by
      rcases Nat.lt_or_ge g w.heap.size with hlt | hge
      · exact hlt
      · rw [Array.getElem?_eq_none hge] at h3; cases h3
    rw [hb.block g (by omega)]; exact h3
theorem IsHits.of_own {w : World} {base : Nat} {e : TypeId} {v : Value} {xs : List (Nat × Nat)} (h : OwnH w base e v xs) :
    ∃ A c, v = .slice A xs.length c ∧ xs.length ≤ c ∧ IsHits w w.heap.size A xs.length xs := by
  unfold OwnH at h
  rcases h.2 with ⟨rfl, h0⟩ | ⟨g, cap, cur, rfl, hg, hh, hnc, hcm, hcs, htk⟩
  · exact ⟨none, 0, by rw [h0], by omega, rfl, fun h => absurd h (by omega)⟩
  · refine ⟨_, _, rfl, hnc, rfl, fun hn => ⟨g, 0, rfl, ?_, fun j hj => ?_⟩⟩
    · rcases Nat.lt_or_ge g w.heap.size with hlt | hge
      · exact hlt
      · rw [Array.getElem?_eq_none hge] at hh; cases hh
    · have hf := flat_get xs j hj
      rw [Nat.zero_add, h.cellAt (j * 2) (by omega), h.cellAt (j * 2 + 1) (by omega)]
      exact hf

/-- 'out = append(out, hit)', out nil or the call's own. -/
theorem wpList_append_hit {P : Program} (wr : World) {ops : Array Oper} {rest : List Oper} {o : Oper} {a : Act} {Q : Exit → Act → World → Prop} (hgd : o.guard = none) (s x : Operand) (t : TypeId)
    (ho : o.op = .call { callee := .builtin .append, args := #[s, x], argTypes := #[t, t] }) (base : Nat) (e : TypeId) (i : TypeInfo)
    (ht : P.underlying t = some (.slice e)) (hi : P.info? e = some i) (hz : i.zero = some (.agg #[.int .i64 0, .int .i64 0])) (hsize : i.size = 2) (hby : i.bytes = 16)
    (v : Value) (cs : List (Nat × Nat)) (hs : a.eval s = v) (hown : OwnH wr base e v cs) (k : Nat × Nat) (hx : a.eval x = .slice (some ⟨wr.heap.size, 0, none⟩) 1 1)
    (hlen : cs.length ≤ 1099511627776) (hbase : base ≤ wr.heap.size)
    (h : ∀ v' w', OwnH w' base e v' (cs ++ [k]) → Below base wr w' → wpList P ops Q rest (a.put o.dst v') w') :
    wpList P ops Q (o :: rest) a (wr.alloc (.cells #[.int .i64 (k.1 : Int), .int .i64 (k.2 : Int)] e)) := by
  refine wpList_append_own _ hgd s x t ho base e i (.agg #[.int .i64 0, .int .i64 0]) 2 16 ht hi hz hsize hby rfl (by decide) v _ _ hs (World.ownsRow.alloc hown _) ⟨wr.heap.size, 0, none⟩ 1 1 [.int .i64 (k.1 : Int), .int .i64 (k.2 : Int)] hx rfl ?_ ?_ ?_ ?_ ?_ ?_
  · intro j u hj
    match j, hj with
    | 0, hj => simp at hj; subst hj; simp [Addr.add]
    | 1, hj => simp at hj; subst hj; simp [Addr.add]
  · intro u hu; simp at hu; rcases hu with rfl | rfl <;> rfl
  · unfold maxLen; omega
  · omega
  · simp; omega
  · intro v' w' ho hg _
    refine h v' w' ?_ (((Below.refl base wr).alloc hbase _).grown hg (by simp; omega) fun b hb => ?_)
    · unfold OwnH
      rw [List.flatMap_append, List.length_append]
      exact ho
    · exact (World.ownsRow.lt hown b hb).1

/-! ### The sort -/
theorem below_sort {base blk off n : Nat} {w : World} {d : Array (Nat × Nat)} {os : Array Obj} (hb : base ≤ blk) (hblk : blk < w.heap.size) : Below base w (sortWorldK encH 2 w blk off n d os) := by
  unfold sortWorldK
  refine ⟨rfl, rfl, rfl, ?_, fun k hk => ?_⟩
  · rw [size_grow]; unfold putRowK putRow mapBlock; simp
  · rw [heap_grow_old _ _ (by unfold putRowK putRow mapBlock; simp; omega)]
    unfold putRowK putRow mapBlock
    rw [Array.getElem?_modify]
    simp [show blk ≠ k by omega]
theorem getD_arr (l : List (Nat × Nat)) (j : Nat) : l.toArray[j]! = l.getD j (0, 0) := by
  rw [getElem!_def, List.getD_eq_getElem?_getD]
  simp only [List.getElem?_toArray]
  cases l[j]? <;> rfl
theorem holds_own {w : World} {base g n cap : Nat} {e : TypeId} {xs : List (Nat × Nat)} (h : OwnH w base e (.slice (some ⟨g, 0, none⟩) n cap) xs) (hn : n = xs.length) : HoldsK encH 2 w g 0 xs.toArray := by
  subst hn
  unfold OwnH at h
  intro j hj
  rw [size_flatK, List.size_toArray] at hj
  have hd : j / 2 < xs.length := by omega
  have hf := flat_get xs (j / 2) hd
  rw [Nat.zero_add, get_flatK _ _ _ _ (by rw [List.size_toArray]; exact hj), h.frozenAt j, h.cellAt j (by omega), getD_arr]
  refine ⟨?_, rfl⟩
  rcases Nat.mod_two_eq_zero_or_one j with hm | hm
  · have e : j = j / 2 * 2 := by omega
    rw [hm]
    conv => lhs; rw [e]
    rw [hf.1]; rfl
  · have e : j = j / 2 * 2 + 1 := by omega
    rw [hm]
    conv => lhs; rw [e]
    rw [hf.2]; rfl
theorem hits_holds {w : World} {g : Nat} {d : Array (Nat × Nat)} (hg : g < w.heap.size) (h : HoldsK encH 2 w g 0 d) : IsHits w w.heap.size (some ⟨g, 0, none⟩) d.size d.toList := by
  refine ⟨by simp, fun _ => ⟨g, 0, rfl, hg, fun j hj => ?_⟩⟩
  have h0 := (h.cell (i := j) (c := 0) hj (by omega)).1
  have h1 := (h.cell (i := j) (c := 1) hj (by omega)).1
  have e : d[j]! = d.toList.getD j (0, 0) := by have := getD_arr d.toList j; simpa using this
  rw [e] at h0 h1
  exact ⟨h0, h1⟩
theorem perm_in {d d' : Array (Nat × Nat)} (h : PermIn 0 d.size d d') : d'.toList.Perm d.toList := by
  have := h.2.2
  rw [Array.extract_size] at this
  rw [show d'.extract 0 d.size = d' by rw [← h.1, Array.extract_size]] at this
  exact this
theorem sorted_in {d : Array (Nat × Nat)} {n : Nat} (h : SortedIn (ltOf cmpH) 0 n d) (hn : d.size = n) : d.toList.Pairwise fun x y => ¬ hlt y x := by
  rw [List.pairwise_iff_getElem]
  intro i j hi hj hij hl
  have hi' : i < d.size := by simpa using hi
  have hj' : j < d.size := by simpa using hj
  have := h i j (Nat.zero_le _) hij (by omega)
  rw [getElem!_pos d i hi', getElem!_pos d j hj'] at this
  have h2 := (cmpH_lt d[j] d[i]).2 (by simpa using hl)
  rw [this] at h2; cases h2

set_option maxRecDepth 100000 in
theorem insert_none (fv : Value) (w : World) : Calls Try.prog 71 #[.slice none 0 0, .int .i64 0, .int .i64 0, fv] w fun e w' => e = .returned (.tuple #[]) ∧ w' = w := by
  go_enter Try.func71, Try.ntmps71
  go_wp2_with fail
  go_rounds 1
  go_end0
  exact ⟨rfl, rfl⟩
set_option maxHeartbeats 2000000 in
set_option maxRecDepth 100000 in
theorem pdq_none (fv : Value) (x : Int) (w : World) : Calls Try.prog 53 #[.slice none 0 0, .int .i64 0, .int .i64 0, .int .i64 x, fv] w fun e w' => e = .returned (.tuple #[]) ∧ w' = w := by
  have HC := hid (insert_none fv w)
  go_enter Try.func53, Try.ntmps53
  go_wp2_with fail
  go_loopw [1, 2] (fun a b wr => a = .int .i64 0 ∧ b = .int .i64 0 ∧ wr = w) (fun _ _ _ => 0)
  case atStart => exact ⟨rfl, rfl, rfl⟩
  case round =>
    obtain ⟨rfl, rfl, rfl⟩ := hrel
    go_wp2_with (go_at_call 71; refine HC.out.mono ?_; rintro e w1 ⟨rfl, hr⟩; subst w1)
    go_wp2_with fail
    refine bodyPost_ret (results_none rfl _ _ _) rfl ?_
    exact ⟨rfl, rfl⟩
theorem sort_none (fv : Value) (w : World) : Calls Try.prog 38 #[.slice none 0 0, fv] w fun e w' => e = .returned (.tuple #[]) ∧ w' = w := by
  have HL : Calls Try.prog 45 #[.int .u64 0] w fun e w' => e = .returned (.int .i64 (Lib.bitLen 0 : Nat)) ∧ w' = w := Any.bits_Len (SlLaysF0.n15.bits (P := Try.prog) (ρ := sortHit_ren) { sortHit with }) 0 w (by omega) (by omega)
  have HL := hid HL
  have HC := fun x => hid (pdq_none fv x w)
  go_enter Try.func38, Try.ntmps38
  go_wp2_with (first
    | (go_at_call 45; refine HL.out.mono ?_; rintro e w1 ⟨rfl, hr⟩; subst w1)
    | (go_at_call 53; refine (HC _).out.mono ?_; rintro e w1 ⟨rfl, hr⟩; subst w1))
  go_end0
  exact ⟨rfl, rfl⟩
/-- slices.SortFunc over a slice of the call's own: the same hits, by place, then by word. -/
theorem sort_own (base : Nat) (v : Value) (xs : List (Nat × Nat)) (w : World) (hl : xs.length ≤ 1000000) (h : OwnH w base 46 v xs) :
    Calls Try.prog 38 #[v, .func (.func 39) #[] #[]] w fun e w' =>
      e = .returned (.tuple #[]) ∧ ∃ A c l, v = .slice A xs.length c ∧ l.Perm xs ∧ (l.Pairwise fun x y => ¬ hlt y x) ∧ IsHits w' w'.heap.size A xs.length l ∧ Below base w w' := by
  rcases h.2 with ⟨rfl, h0⟩ | ⟨g, cap, cur, rfl, hg, hh, hnc, hcm, hcs, htk⟩
  · obtain rfl := List.eq_nil_of_length_eq_zero h0
    exact (sort_none _ w).mono fun e w' ⟨he, hw⟩ => by subst hw; exact ⟨he, none, 0, [], rfl, List.Perm.refl _, List.Pairwise.nil, IsHits.nil, Below.refl _ _⟩
  · have hgl : g < w.heap.size := by
      rcases Nat.lt_or_ge g w.heap.size with hlt | hge
      · exact hlt
      · rw [Array.getElem?_eq_none hge] at hh; cases hh
    have hH := holds_own h rfl
    have := sort_any g 0 cap xs.toArray w hH hgl (by simp; omega)
    rw [List.size_toArray] at this
    refine this.mono fun e w' ⟨he, d', n, os, hp, hs, hw⟩ => ⟨he, some ⟨g, 0, none⟩, cap, d'.toList, rfl, ?_, ?_, ?_, ?_⟩
    · have := perm_in (d := xs.toArray) (d' := d') (by simpa using hp)
      simpa using this
    · exact sorted_in hs (by have := hp.1; simpa using this)
    · have hsz : d'.size = xs.length := by have := hp.1; simpa using this
      have hW : SWK encH 2 w g 0 d' w' := ⟨n, os, hw⟩
      have := hits_holds (hW.lt hgl) (hW.holds hgl hH (by simpa using hsz))
      rwa [hsz] at this
    · rw [hw]; exact below_sort hg hgl
end Go.Proofs.Ytdkbgikniacekaa
