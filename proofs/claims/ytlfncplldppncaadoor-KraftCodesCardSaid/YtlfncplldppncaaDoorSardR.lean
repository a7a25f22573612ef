/-
  Plain facts for the search of Sardinas and Patterson over a list of texts that grows: the states of its two loops, and how long the list may grow. No program.
-/
import Derived.Test.YtlfncplldppncaaDoorStrs
import Derived.Test.YtlfncplldppncaaDoorSard
namespace Go.Proofs.YtlfncplldppncaaDoor

/-- What is left of a behind b. -/
def rst (a b : ByteArray) : ByteArray := a.extract b.size a.size
theorem rst_bs {a b : ByteArray} (h : bs b <+: bs a) : bs a = bs b ++ bs (rst a b) := by
  unfold rst
  rw [wb_ext, List.take_of_length_le (by rw [bs_len]; exact Nat.le_refl _), ← bs_len b]
  obtain ⟨r, e⟩ := h
  rw [← e, List.drop_left]
theorem rst_one {a b : ByteArray} {r : List UInt8} (e : bs a = bs b ++ r) : rst a b = txt r := by
  have h := rst_bs (a := a) (b := b) ⟨r, e.symm⟩
  rw [e] at h
  have := List.append_cancel_left h
  rw [this, txt_bs]
theorem nodup_sub {α : Type} [DecidableEq α] : ∀ (B S : List α), B.Nodup → (∀ x ∈ B, x ∈ S) → B.length ≤ S.length
  | [], _, _, _ => Nat.zero_le _
  | x :: B, S, hn, h => by
    rw [List.nodup_cons] at hn
    have hx : x ∈ S := h x (by simp)
    have := nodup_sub B (S.erase x) hn.2 (fun y hy => (List.mem_erase_of_ne (fun e => hn.1 (by rw [← e]; exact hy))).2 (h y (by simp [hy])))
    rw [List.length_erase_of_mem hx] at this
    have : 0 < S.length := List.length_pos_of_mem hx
    rw [List.length_cons]
    omega
/-- All ends of words. -/
def sufs (W : List (List UInt8)) : List (List UInt8) := W.flatMap fun x => (List.range (x.length + 1)).map fun k => x.drop k
theorem sufs_mem {W : List (List UInt8)} {s : List UInt8} (h : Dang W s) : s ∈ sufs W := by
  obtain ⟨i, hi, p, e⟩ := dang_end_of h
  refine List.mem_flatMap.2 ⟨W.getD i [], ?_, List.mem_map.2 ⟨p.length, List.mem_range.2 ?_, by rw [e, List.drop_left]⟩⟩
  · rw [List.getD_eq_getElem?_getD, List.getElem?_eq_getElem hi]
    exact List.getElem_mem hi
  · rw [e, List.length_append]; omega
theorem sufs_len {W : List (List UInt8)} (h : ∀ x ∈ W, x.length ≤ 8) : (sufs W).length ≤ 9 * W.length := by
  induction W with
  | nil => simp [sufs]
  | cons x W ih =>
    have h1 := ih (fun y hy => h y (by simp [hy]))
    have h2 := h x (by simp)
    have : (sufs (x :: W)).length = (x.length + 1) + (sufs W).length := by
      unfold sufs
      rw [List.flatMap_cons, List.length_append]
      simp
    rw [this, List.length_cons]
    omega
/-- The first loop, at a pair of words. -/
structure St1 (W : List (List UInt8)) (l : List ByteArray) (i k : Nat) : Prop where
  sound : ∀ a ∈ l, Dang W (bs a)
  start : ∀ i' k' s, i' < W.length → k' < W.length → i' ≠ k' → (i' < i ∨ (i' = i ∧ k' < k)) → W.getD i' [] = W.getD k' [] ++ s → txt s ∈ l
  few : l.length ≤ 6 * i + k
theorem st1_nil (W : List (List UInt8)) : St1 W [] 0 0 := ⟨fun _ h => (by cases h), fun _ _ _ _ _ _ h => (by omega), Nat.zero_le _⟩
theorem st1_row {W : List (List UInt8)} {l : List ByteArray} {i : Nat} (h : St1 W l i W.length) (h6 : W.length ≤ 6) : St1 W l (i + 1) 0 :=
  ⟨h.sound, fun i' k' s h1 h2 h3 h4 e => h.start i' k' s h1 h2 h3 (by omega) e, by have := h.few; omega⟩
theorem st1_yes {W : List (List UInt8)} {l : List ByteArray} {i k : Nat} (h : St1 W l i k) (hi : i < W.length) (hk : k < W.length) (hne : i ≠ k) {a : ByteArray} (ha : W.getD i [] = W.getD k [] ++ bs a) : St1 W (l ++ [a]) i (k + 1) := by
  refine ⟨fun b hb => ?_, fun i' k' s h1 h2 h3 h4 e => ?_, by rw [List.length_append, List.length_singleton]; have := h.few; omega⟩
  · rcases List.mem_append.1 hb with hb | hb
    · exact h.sound b hb
    · rw [List.mem_singleton.1 hb]
      exact .start hi hk hne ha
  · by_cases e1 : i' = i ∧ k' = k
    · obtain ⟨rfl, rfl⟩ := e1
      rw [ha] at e
      have := List.append_cancel_left e
      rw [← this, txt_bs]
      simp
    · exact List.mem_append_left _ (h.start i' k' s h1 h2 h3 (by omega) e)
theorem st1_no {W : List (List UInt8)} {l : List ByteArray} {i k : Nat} (h : St1 W l i k) (hno : i = k ∨ ¬ W.getD k [] <+: W.getD i []) : St1 W l i (k + 1) := by
  refine ⟨h.sound, fun i' k' s h1 h2 h3 h4 e => ?_, by have := h.few; omega⟩
  by_cases e1 : i' = i ∧ k' = k
  · obtain ⟨rfl, rfl⟩ := e1
    rcases hno with hno | hno
    · exact absurd hno h3
    · exact absurd ⟨s, e.symm⟩ hno
  · exact h.start i' k' s h1 h2 h3 (by omega) e
/-- What comes of a by word i is in l. -/
def Shut (W : List (List UInt8)) (l : List ByteArray) (a : ByteArray) (i : Nat) : Prop := ∀ r, (W.getD i [] = bs a ++ r ∨ bs a = W.getD i [] ++ r) → txt r ∈ l
theorem Shut.more {W : List (List UInt8)} {l : List ByteArray} {a : ByteArray} {i : Nat} (h : Shut W l a i) (m : List ByteArray) : Shut W (l ++ m) a i := fun r hr => List.mem_append_left _ (h r hr)
/-- The second loop, at place n of the list and word i. -/
structure St2 (W : List (List UInt8)) (l : List ByteArray) (n i : Nat) : Prop where
  sound : ∀ a ∈ l, Dang W (bs a)
  start : ∀ i' k' s, i' < W.length → k' < W.length → i' ≠ k' → W.getD i' [] = W.getD k' [] ++ s → txt s ∈ l
  done : ∀ j, j < n → j < l.length → 0 < (l.getD j ByteArray.empty).size ∧ ∀ i', i' < W.length → Shut W l (l.getD j ByteArray.empty) i'
  part : n < l.length → ∀ i', i' < i → Shut W l (l.getD n ByteArray.empty) i'
  few : ∃ A B : List ByteArray, l = A ++ B ∧ A.length ≤ 42 ∧ (B.map bs).Nodup ∧ ∀ b ∈ B, bs b ∈ sufs W
theorem st2_start {W : List (List UInt8)} {l : List ByteArray} (h : St1 W l W.length 0) (h6 : W.length ≤ 6) : St2 W l 0 0 :=
  ⟨h.sound, fun i' k' s h1 h2 h3 e => h.start i' k' s h1 h2 h3 (.inl h1) e, fun _ h => (by omega), fun _ _ h => (by omega), l, [], by simp, by have := h.few; omega, by simp, fun _ h => (by cases h)⟩
theorem st2_few {W : List (List UInt8)} {l : List ByteArray} {n i : Nat} (h : St2 W l n i) (h6 : W.length ≤ 6) (h8 : ∀ x ∈ W, x.length ≤ 8) : l.length ≤ 96 := by
  obtain ⟨A, B, e, hA, hB, hs⟩ := h.few
  have h1 := nodup_sub (B.map bs) (sufs W) hB (fun x hx => by obtain ⟨b, hb, rfl⟩ := List.mem_map.1 hx; exact hs b hb)
  rw [List.length_map] at h1
  have h2 := sufs_len h8
  rw [e, List.length_append]
  omega
theorem getD_more (l m : List ByteArray) {j : Nat} (hj : j < l.length) : (l ++ m).getD j ByteArray.empty = l.getD j ByteArray.empty := by
  simp [List.getD_eq_getElem?_getD, List.getElem?_append_left hj]
theorem st2_row {W : List (List UInt8)} {l : List ByteArray} {n : Nat} (h : St2 W l n W.length) (h0 : 0 < (l.getD n ByteArray.empty).size) : St2 W l (n + 1) 0 :=
  ⟨h.sound, h.start, fun j hj hl => by
    rcases Nat.lt_or_ge j n with h1 | h1
    · exact h.done j h1 hl
    · obtain rfl : j = n := by omega
      exact ⟨h0, h.part hl⟩, fun _ _ h => (by omega), h.few⟩
/-- What is left is one. -/
theorem rest_same {x y r r' : List UInt8} (h : x = y ++ r ∨ y = x ++ r) (h' : x = y ++ r' ∨ y = x ++ r') : r' = r := by
  rcases h with e | e <;> rcases h' with e' | e'
  · rw [e] at e'; exact (List.append_cancel_left e').symm
  · have h1 : (r ++ r').length = 0 := by
      have := congrArg List.length e
      have h2 := congrArg List.length e'
      rw [List.length_append] at this h2 ⊢
      omega
    have h3 := List.append_eq_nil_iff.1 (List.eq_nil_of_length_eq_zero h1)
    rw [h3.1, h3.2]
  · have h1 : (r ++ r').length = 0 := by
      have := congrArg List.length e
      have h2 := congrArg List.length e'
      rw [List.length_append] at this h2 ⊢
      omega
    have h3 := List.append_eq_nil_iff.1 (List.eq_nil_of_length_eq_zero h1)
    rw [h3.1, h3.2]
  · rw [e] at e'; exact (List.append_cancel_left e').symm
theorem shut_in {W : List (List UInt8)} {l : List ByteArray} {a r : ByteArray} {i : Nat} (hr : W.getD i [] = bs a ++ bs r ∨ bs a = W.getD i [] ++ bs r) (hm : r ∈ l) : Shut W l a i := fun r' h' => by
  rw [rest_same hr h', txt_bs]
  exact hm
theorem shut_no {W : List (List UInt8)} {l : List ByteArray} {a : ByteArray} {i : Nat} (h1 : ¬ bs a <+: W.getD i []) (h2 : ¬ W.getD i [] <+: bs a) : Shut W l a i := fun r h => by
  rcases h with e | e
  · exact absurd ⟨r, e.symm⟩ h1
  · exact absurd ⟨r, e.symm⟩ h2
/-- Nothing new comes of word i. -/
theorem st2_old {W : List (List UInt8)} {l : List ByteArray} {n i : Nat} (h : St2 W l n i) (hs : n < l.length → Shut W l (l.getD n ByteArray.empty) i) : St2 W l n (i + 1) :=
  ⟨h.sound, h.start, h.done, fun hn i' hi => by
    rcases Nat.lt_or_ge i' i with h1 | h1
    · exact h.part hn i' h1
    · obtain rfl : i' = i := by omega
      exact hs hn, h.few⟩
theorem st2_new {W : List (List UInt8)} {l : List ByteArray} {n i : Nat} (h : St2 W l n i) (hn : n < l.length) (hi : i < W.length) {r : ByteArray}
    (hr : W.getD i [] = bs (l.getD n ByteArray.empty) ++ bs r ∨ bs (l.getD n ByteArray.empty) = W.getD i [] ++ bs r) (hnew : r ∉ l) : St2 W (l ++ [r]) n (i + 1) := by
  have hd : Dang W (bs r) := by
    have ha : Dang W (bs (l.getD n ByteArray.empty)) := h.sound _ (by rw [List.getD_eq_getElem?_getD, List.getElem?_eq_getElem hn]; exact List.getElem_mem hn)
    rcases hr with e | e
    · exact .fwd ha hi e
    · exact .back ha hi e
  have hone : ∀ r', (W.getD i [] = bs (l.getD n ByteArray.empty) ++ r' ∨ bs (l.getD n ByteArray.empty) = W.getD i [] ++ r') → r' = bs r := fun r' h' => rest_same hr h'
  refine ⟨fun a ha => ?_, fun i' k' s h1 h2 h3 e => List.mem_append_left _ (h.start i' k' s h1 h2 h3 e), fun j hj hl => ?_, fun _ i' hi' => ?_, ?_⟩
  · rcases List.mem_append.1 ha with ha | ha
    · exact h.sound a ha
    · rw [List.mem_singleton.1 ha]; exact hd
  · have hjl : j < l.length := by omega
    rw [getD_more l [r] hjl]
    have := h.done j hj hjl
    exact ⟨this.1, fun i' hi' => (this.2 i' hi').more _⟩
  · rw [getD_more l [r] hn]
    rcases Nat.lt_or_ge i' i with h1 | h1
    · exact (h.part hn i' h1).more _
    · obtain rfl : i' = i := by omega
      intro r' h'
      rw [hone r' h', txt_bs]
      simp
  · obtain ⟨A, B, e, hA, hB, hs⟩ := h.few
    refine ⟨A, B ++ [r], by rw [e, List.append_assoc], hA, ?_, fun b hb => ?_⟩
    · rw [List.map_append, List.nodup_append]
      refine ⟨hB, by simp, fun x hx y hy hxy => ?_⟩
      obtain ⟨b, hb, rfl⟩ := List.mem_map.1 hx
      have hy : y = bs r := by simpa using hy
      rw [hy] at hxy
      exact hnew (by rw [e, ← bs_inj hxy]; exact List.mem_append_right _ hb)
    · rcases List.mem_append.1 hb with hb | hb
      · exact hs b hb
      · rw [List.mem_singleton.1 hb]; exact sufs_mem hd
/-- At the end of the search nothing is ahead by nothing. -/
theorem st2_end {W : List (List UInt8)} {l : List ByteArray} (h : St2 W l l.length 0) (hw : Okw W) : UD W := by
  refine (ud_iff hw).2 fun hd => ?_
  have key : ∀ s, Dang W s → txt s ∈ l := by
    intro s hs
    have : s ∈ l.map bs := by
      refine dang_in (A := l.map bs) ?_ ?_ hs
      · intro i k s h1 h2 h3 e
        have := h.start i k s h1 h2 h3 e
        exact List.mem_map.2 ⟨_, this, bs_txt s⟩
      · intro a ha i r hi hr
        obtain ⟨b, hb, rfl⟩ := List.mem_map.1 ha
        obtain ⟨j, hj, e⟩ := List.getElem_of_mem hb
        have h1 := (h.done j hj hj).2 i hi
        have e2 : l.getD j ByteArray.empty = b := by rw [List.getD_eq_getElem?_getD, List.getElem?_eq_getElem hj]; exact e
        rw [e2] at h1
        exact List.mem_map.2 ⟨_, h1 r hr, bs_txt r⟩
    obtain ⟨b, hb, e⟩ := List.mem_map.1 this
    rw [← e, txt_bs]
    exact hb
  have hm := key [] hd
  obtain ⟨j, hj, e⟩ := List.getElem_of_mem hm
  have h1 := (h.done j hj hj).1
  have e2 : l.getD j ByteArray.empty = txt [] := by rw [List.getD_eq_getElem?_getD, List.getElem?_eq_getElem hj]; exact e
  rw [e2] at h1
  simp [txt_size] at h1
/-- An end that is empty tells it. -/
theorem st2_void {W : List (List UInt8)} {l : List ByteArray} {n i : Nat} (h : St2 W l n i) (hn : n < l.length) (h0 : (l.getD n ByteArray.empty).size = 0) : ¬ UD W := by
  have := h.sound (l.getD n ByteArray.empty) (by rw [List.getD_eq_getElem?_getD, List.getElem?_eq_getElem hn]; exact List.getElem_mem hn)
  rw [bs_zero h0] at this
  exact dang_two this
end Go.Proofs.YtlfncplldppncaaDoor
