/-
  Plain mathematics, without a program: how far the ends of two texts are, by places; the least script, step by step; a script read from its first step on. No condition.
-/
import Derived.Test.YtaodocdddfkglaaLev
import Derived.Test.YtaodocdddfkglaaBs
namespace Go.Proofs.Ytaodocdddfkglaa

/-- How far the ends of two texts are. -/
def tbF (a b : ByteArray) (i j : Nat) : Nat := far ((bs a).drop i) ((bs b).drop j)
theorem bs_drop_cons {a : ByteArray} {i : Nat} (h : i < a.size) : (bs a).drop i = sg a i :: (bs a).drop (i + 1) := by
  rw [List.drop_eq_getElem_cons (by rw [bs_len]; exact h)]
  congr 1
  rw [← bs_sg, List.getD_eq_getElem?_getD, List.getElem?_eq_getElem (by rw [bs_len]; exact h)]
  rfl
theorem bs_drop_nil {a : ByteArray} {i : Nat} (h : a.size ≤ i) : (bs a).drop i = [] := List.drop_eq_nil_of_le (by rw [bs_len]; exact h)
theorem tb_left {a b : ByteArray} {i : Nat} (h : a.size ≤ i) (j : Nat) : tbF a b i j = b.size - j := by
  unfold tbF
  rw [bs_drop_nil h, far_left, List.length_drop, bs_len]
theorem tb_right {a b : ByteArray} {j : Nat} (h : b.size ≤ j) (i : Nat) : tbF a b i j = a.size - i := by
  unfold tbF
  rw [bs_drop_nil h, far_right, List.length_drop, bs_len]
theorem tb_in {a b : ByteArray} {i j : Nat} (hi : i < a.size) (hj : j < b.size) : tbF a b i j = min (min (tbF a b (i + 1) j + 1) (tbF a b i (j + 1) + 1)) (tbF a b (i + 1) (j + 1) + if sg a i = sg b j then 0 else 1) := by
  unfold tbF
  rw [bs_drop_cons hi, bs_drop_cons hj, far_cons]
theorem tb_le (a b : ByteArray) (i j : Nat) (ha : a.size ≤ 24) (hb : b.size ≤ 24) : tbF a b i j ≤ 24 := by
  have h := far_high ((bs a).drop i) ((bs b).drop j)
  rw [List.length_drop, List.length_drop, bs_len, bs_len] at h
  unfold tbF
  omega
theorem tb_zero (a b : ByteArray) : tbF a b 0 0 = far (bs a) (bs b) := rfl

/-- The least script under way: what is done up to the places i and j. -/
def StTo (a b : ByteArray) (i j : Nat) (o : List UInt8) : Prop := ∀ r, Least ((bs a).drop i) ((bs b).drop j) r → Least (bs a) (bs b) (o ++ r)
theorem stTo_start (a b : ByteArray) : StTo a b 0 0 [] := fun _ h => h
theorem stTo_end {a b : ByteArray} {i j : Nat} {o : List UInt8} (h : StTo a b i j o) (hi : a.size ≤ i) (hj : b.size ≤ j) : Least (bs a) (bs b) o := by
  have := h [] (by rw [bs_drop_nil hi, bs_drop_nil hj]; exact least_nil)
  rwa [List.append_nil] at this
theorem stTo_chg {a b : ByteArray} {i j : Nat} {o : List UInt8} (h : StTo a b i j o) (hi : i < a.size) (hj : j < b.size) (hne : sg a i ≠ sg b j) (hc : tbF a b (i + 1) (j + 1) + 1 = tbF a b i j) : StTo a b (i + 1) (j + 1) (o ++ [33]) := fun r hr => by
  rw [List.append_assoc]
  refine h _ ?_
  unfold tbF at hc
  rw [bs_drop_cons hi, bs_drop_cons hj] at hc ⊢
  exact least_chg hne hc hr
theorem stTo_ins {a b : ByteArray} {i j : Nat} {o : List UInt8} (h : StTo a b i j o) (hj : j < b.size) (hno : i < a.size → sg a i ≠ sg b j → tbF a b (i + 1) (j + 1) + 1 ≠ tbF a b i j) (hc : tbF a b i (j + 1) + 1 = tbF a b i j) : StTo a b i (j + 1) (o ++ [43]) := fun r hr => by
  rw [List.append_assoc]
  refine h _ ?_
  unfold tbF at hc hno
  rw [bs_drop_cons hj] at hc ⊢
  refine least_ins (fun x a' e hxy => ?_) hc hr
  have hi : i < a.size := by
    rcases Nat.lt_or_ge i a.size with h1 | h1
    · exact h1
    · rw [bs_drop_nil h1] at e; cases e
  have := hno hi
  rw [bs_drop_cons hi] at e
  injection e with e1 e2
  rw [bs_drop_cons hj, e1, e2, bs_drop_cons hi] at this
  rw [bs_drop_cons hi, e1, e2]
  have h2 := this hxy
  rwa [e1, e2] at h2
theorem stTo_del {a b : ByteArray} {i j : Nat} {o : List UInt8} (h : StTo a b i j o) (hi : i < a.size) (hno : j < b.size → (sg a i ≠ sg b j → tbF a b (i + 1) (j + 1) + 1 ≠ tbF a b i j) ∧ tbF a b i (j + 1) + 1 ≠ tbF a b i j) (hc : tbF a b (i + 1) j + 1 = tbF a b i j) : StTo a b (i + 1) j (o ++ [45]) := fun r hr => by
  rw [List.append_assoc]
  refine h _ ?_
  unfold tbF at hc hno
  rw [bs_drop_cons hi] at hc ⊢
  refine least_del (fun y b' e => ?_) hc hr
  have hj : j < b.size := by
    rcases Nat.lt_or_ge j b.size with h1 | h1
    · exact h1
    · rw [bs_drop_nil h1] at e; cases e
  obtain ⟨h1, h2⟩ := hno hj
  rw [bs_drop_cons hj] at e
  injection e with e1 e2
  rw [bs_drop_cons hi] at h1 h2
  rw [e1, e2] at h1
  rw [e2] at h2
  exact ⟨h1, h2⟩
theorem stTo_eq {a b : ByteArray} {i j : Nat} {o : List UInt8} (h : StTo a b i j o) (hi : i < a.size) (hj : j < b.size) (h0 : sg a i ≠ sg b j → tbF a b (i + 1) (j + 1) + 1 ≠ tbF a b i j) (h1 : tbF a b i (j + 1) + 1 ≠ tbF a b i j) (h2 : tbF a b (i + 1) j + 1 ≠ tbF a b i j) :
    sg a i = sg b j ∧ StTo a b (i + 1) (j + 1) (o ++ [61]) := by
  unfold tbF at h0 h1 h2
  rw [bs_drop_cons hi, bs_drop_cons hj] at h0 h1 h2
  have e := least_left h0 h1 h2
  refine ⟨e, fun r hr => ?_⟩
  rw [List.append_assoc]
  refine h _ ?_
  rw [← e] at h1 h2
  rw [bs_drop_cons hi, bs_drop_cons hj, ← e]
  exact least_eq h1 h2 hr
/-- Where one text is used up the other one's next sign is the step. -/
theorem tb_only_ins {a b : ByteArray} {i j : Nat} (hi : a.size ≤ i) (hj : j < b.size) : tbF a b i (j + 1) + 1 = tbF a b i j := by rw [tb_left hi, tb_left hi]; omega
theorem tb_only_del {a b : ByteArray} {i j : Nat} (hi : i < a.size) (hj : b.size ≤ j) : tbF a b (i + 1) j + 1 = tbF a b i j := by rw [tb_right hj, tb_right hj]; omega

/-- What is left of a script is a script for what is left. -/
def ScAt (a b s : ByteArray) (i j k : Nat) : Prop := Sc ((bs a).drop i) ((bs b).drop j) ((bs s).drop k)
theorem scAt_end {a b s : ByteArray} {i j k : Nat} (h : ScAt a b s i j k) (hk : s.size ≤ k) (hi : i ≤ a.size) (hj : j ≤ b.size) : i = a.size ∧ j = b.size := by
  unfold ScAt at h
  rw [bs_drop_nil hk] at h
  generalize hA : (bs a).drop i = A at h
  generalize hB : (bs b).drop j = B at h
  cases h
  have h1 := congrArg List.length hA
  have h2 := congrArg List.length hB
  rw [List.length_drop, bs_len] at h1 h2
  simp at h1 h2
  omega
theorem scAt_step {a b s : ByteArray} {i j k : Nat} (h : ScAt a b s i j k) (hk : k < s.size) :
    (sg s k = 61 ∧ i < a.size ∧ j < b.size ∧ sg a i = sg b j ∧ ScAt a b s (i + 1) (j + 1) (k + 1)) ∨ (sg s k = 33 ∧ i < a.size ∧ j < b.size ∧ sg a i ≠ sg b j ∧ ScAt a b s (i + 1) (j + 1) (k + 1)) ∨
    (sg s k = 43 ∧ j < b.size ∧ ScAt a b s i (j + 1) (k + 1)) ∨ (sg s k = 45 ∧ i < a.size ∧ ScAt a b s (i + 1) j (k + 1)) := by
  unfold ScAt at h ⊢
  rw [bs_drop_cons hk] at h
  have hA : ∀ x A, (bs a).drop i = x :: A → i < a.size ∧ x = sg a i ∧ A = (bs a).drop (i + 1) := fun x A e => by
    have hi : i < a.size := by
      rcases Nat.lt_or_ge i a.size with h1 | h1
      · exact h1
      · rw [bs_drop_nil h1] at e; cases e
    rw [bs_drop_cons hi] at e
    injection e with e1 e2
    exact ⟨hi, e1.symm, e2.symm⟩
  have hB : ∀ x B, (bs b).drop j = x :: B → j < b.size ∧ x = sg b j ∧ B = (bs b).drop (j + 1) := fun x B e => by
    have hj : j < b.size := by
      rcases Nat.lt_or_ge j b.size with h1 | h1
      · exact h1
      · rw [bs_drop_nil h1] at e; cases e
    rw [bs_drop_cons hj] at e
    injection e with e1 e2
    exact ⟨hj, e1.symm, e2.symm⟩
  generalize hX : (bs a).drop i = X at h hA
  generalize hY : (bs b).drop j = Y at h hB
  generalize hz : sg s k = z at h
  cases h with
  | eq h =>
    obtain ⟨hi, e1, e2⟩ := hA _ _ rfl
    obtain ⟨hj, e3, e4⟩ := hB _ _ rfl
    rw [e2, e4] at h
    exact .inl ⟨rfl, hi, hj, by rw [← e1, ← e3], h⟩
  | chg hne h =>
    obtain ⟨hi, e1, e2⟩ := hA _ _ rfl
    obtain ⟨hj, e3, e4⟩ := hB _ _ rfl
    rw [e2, e4] at h
    exact .inr (.inl ⟨rfl, hi, hj, by rw [← e1, ← e3]; exact hne, h⟩)
  | ins h =>
    obtain ⟨hj, e3, e4⟩ := hB _ _ rfl
    rw [e4] at h
    exact .inr (.inr (.inl ⟨rfl, hj, h⟩))
  | del h =>
    obtain ⟨hi, e1, e2⟩ := hA _ _ rfl
    rw [e2] at h
    exact .inr (.inr (.inr ⟨rfl, hi, h⟩))
/-- The cost of the first k steps. -/
def coTo (s : ByteArray) (k : Nat) : Nat := co ((bs s).take k)
theorem coTo_zero (s : ByteArray) : coTo s 0 = 0 := rfl
theorem coTo_all (s : ByteArray) : coTo s s.size = co (bs s) := by
  unfold coTo
  rw [List.take_of_length_le (by rw [bs_len]; exact Nat.le_refl _)]
theorem coTo_succ {s : ByteArray} {k : Nat} (h : k < s.size) : coTo s (k + 1) = coTo s k + if sg s k = 61 then 0 else 1 := by
  unfold coTo
  have e : (bs s).take (k + 1) = (bs s).take k ++ [sg s k] := by
    rw [List.take_succ_eq_append_getElem (by rw [bs_len]; exact h)]
    congr 2
    rw [← bs_sg, List.getD_eq_getElem?_getD, List.getElem?_eq_getElem (by rw [bs_len]; exact h)]
    rfl
  rw [e, co_app]
  by_cases e1 : sg s k = 61 <;> simp [co, e1]
theorem coTo_le (s : ByteArray) (k : Nat) : coTo s k ≤ k := by
  unfold coTo co
  refine Nat.le_trans (List.length_filter_le _ _) ?_
  rw [List.length_take]; omega
end Go.Proofs.Ytaodocdddfkglaa
