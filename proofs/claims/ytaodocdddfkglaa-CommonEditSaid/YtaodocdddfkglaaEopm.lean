/-
  Plain mathematics, without a program: the operations with which a script can begin, what each of them costs, that the least of them is the distance, and that the first of the least ones is the least script's step. No condition.
-/
import Derived.Test.YtaodocdddfkglaaEdm
import Derived.Test.YtaodocdddfkglaaTab
namespace Go.Proofs.Ytaodocdddfkglaa

/-- An operation: its sign, what it takes of both texts, what it adds. -/
abbrev Opn := UInt8 × Nat × Nat × Nat
def encO (x : Opn) : List Value := [.int .u8 (x.1.toNat : Int), .int .i64 (x.2.1 : Int), .int .i64 (x.2.2.1 : Int), .int .i64 (x.2.2.2 : Int)]
theorem encO_len (x : Opn) : (encO x).length = 4 := rfl
def oRep : Opn := (33, 1, 1, 1)
def oIns : Opn := (43, 0, 1, 1)
def oDel : Opn := (45, 1, 0, 1)
def oEq : Opn := (61, 1, 1, 0)
/-- With which ones a script for the ends from i and j on can begin. -/
def opsF (a b : ByteArray) (i j : Nat) : List Opn :=
  if i < a.size then (if j < b.size then (if sg a i = sg b j then [oIns, oDel, oEq] else [oRep, oIns, oDel]) else [oDel]) else if j < b.size then [oIns] else []
/-- With which ones a script for two whole texts can begin. -/
def opsT (x y : ByteArray) : List Opn := opsF x y 0 0
theorem sg_end (a : ByteArray) {i : Nat} (h : i < a.size) : sg (a.extract i a.size) 0 = sg a i := by
  rw [sg_cut _ _ _ _ (Nat.le_refl _) (by omega), Nat.add_zero]
theorem opsT_end (a b : ByteArray) {i j : Nat} (hi : i ≤ a.size) (hj : j ≤ b.size) : opsT (a.extract i a.size) (b.extract j b.size) = opsF a b i j := by
  unfold opsT opsF
  rw [ByteArray.size_extract, ByteArray.size_extract]
  by_cases h1 : i < a.size
  · rw [if_pos (show 0 < min a.size a.size - i by omega), if_pos h1, sg_end a h1]
    by_cases h2 : j < b.size
    · rw [if_pos (show 0 < min b.size b.size - j by omega), if_pos h2, sg_end b h2]
    · rw [if_neg (show ¬ 0 < min b.size b.size - j by omega), if_neg h2]
  · rw [if_neg (show ¬ 0 < min a.size a.size - i by omega), if_neg h1]
    by_cases h2 : j < b.size
    · rw [if_pos (show 0 < min b.size b.size - j by omega), if_pos h2]
    · rw [if_neg (show ¬ 0 < min b.size b.size - j by omega), if_neg h2]
theorem ops_len (a b : ByteArray) (i j : Nat) : (opsF a b i j).length ≤ 3 := by
  unfold opsF
  repeat' split
  all_goals simp
theorem ops_in {a b : ByteArray} {i j : Nat} {x : Opn} (h : x ∈ opsF a b i j) (hi : i ≤ a.size) (hj : j ≤ b.size) : i + x.2.1 ≤ a.size ∧ j + x.2.2.1 ≤ b.size ∧ x.2.1 ≤ 1 ∧ x.2.2.1 ≤ 1 ∧ x.2.2.2 ≤ 1 ∧ 0 < x.2.1 + x.2.2.1 := by
  unfold opsF at h
  repeat' split at h
  all_goals (simp [oRep, oIns, oDel, oEq] at h)
  all_goals (first | (rcases h with rfl | rfl | rfl) | subst h)
  all_goals (simp; omega)
theorem ops_none {a b : ByteArray} {i j : Nat} (h : i < a.size ∨ j < b.size) : 0 < (opsF a b i j).length := by
  unfold opsF
  repeat' split
  all_goals (first | (simp; done) | omega)

/-- What a script that begins so costs at least. -/
def costF (a b : ByteArray) (i j : Nat) (x : Opn) : Nat := x.2.2.2 + tbF a b (i + x.2.1) (j + x.2.2.1)
/-- The least of the first t of them, from the longer one's length down. -/
def lowTo (a b : ByteArray) (i j t : Nat) : Nat := ((opsF a b i j).take t).foldl (fun m x => min m (costF a b i j x)) (max (a.size - i) (b.size - j))
theorem lowTo_zero (a b : ByteArray) (i j : Nat) : lowTo a b i j 0 = max (a.size - i) (b.size - j) := rfl
def oz : Opn := (0, 0, 0, 0)
theorem lowTo_succ {a b : ByteArray} {i j t : Nat} (h : t < (opsF a b i j).length) : lowTo a b i j (t + 1) = min (lowTo a b i j t) (costF a b i j ((opsF a b i j).getD t oz)) := by
  unfold lowTo
  rw [List.take_succ_eq_append_getElem h, List.foldl_append]
  simp [h]
theorem tb_high (a b : ByteArray) (i j : Nat) : tbF a b i j ≤ max (a.size - i) (b.size - j) := by
  have h := far_high ((bs a).drop i) ((bs b).drop j)
  rw [List.length_drop, List.length_drop, bs_len, bs_len] at h
  exact h
theorem tb_same {a b : ByteArray} {i j : Nat} (hi : i < a.size) (hj : j < b.size) (h : sg a i = sg b j) : tbF a b i j = tbF a b (i + 1) (j + 1) := by
  unfold tbF
  rw [bs_drop_cons hi, bs_drop_cons hj, h, far_same]
theorem lowTo_all {a b : ByteArray} {i j : Nat} (hi : i ≤ a.size) (hj : j ≤ b.size) : lowTo a b i j (opsF a b i j).length = tbF a b i j := by
  have hh := tb_high a b i j
  unfold lowTo
  rw [List.take_length]
  unfold opsF
  by_cases h1 : i < a.size
  · rw [if_pos h1]
    by_cases h2 : j < b.size
    · rw [if_pos h2]
      have hin := tb_in h1 h2
      by_cases h3 : sg a i = sg b j
      · rw [if_pos h3] at hin ⊢
        simp only [List.foldl_cons, List.foldl_nil, costF, oIns, oDel, oEq, Nat.add_zero]
        omega
      · rw [if_neg h3] at hin ⊢
        simp only [List.foldl_cons, List.foldl_nil, costF, oIns, oDel, oRep, Nat.add_zero]
        omega
    · rw [if_neg h2]
      have := tb_only_del h1 (show b.size ≤ j by omega)
      simp only [List.foldl_cons, List.foldl_nil, costF, oDel, Nat.add_zero]
      omega
  · rw [if_neg h1]
    by_cases h2 : j < b.size
    · rw [if_pos h2]
      have := tb_only_ins (show a.size ≤ i by omega) h2
      simp only [List.foldl_cons, List.foldl_nil, costF, oIns, Nat.add_zero]
      omega
    · rw [if_neg h2]
      have := tb_left (a := a) (b := b) (show a.size ≤ i by omega) j
      simp only [List.foldl_nil]
      omega
/-- Where something is left one of them is as good as can be. -/
theorem ops_hit {a b : ByteArray} {i j : Nat} (h : i < a.size ∨ j < b.size) : ∃ k, k < (opsF a b i j).length ∧ costF a b i j ((opsF a b i j).getD k oz) = tbF a b i j := by
  unfold opsF
  by_cases h1 : i < a.size
  · rw [if_pos h1]
    by_cases h2 : j < b.size
    · rw [if_pos h2]
      have hin := tb_in h1 h2
      by_cases h3 : sg a i = sg b j
      · rw [if_pos h3]
        exact ⟨2, by simp, by simpa [costF, oEq] using (tb_same h1 h2 h3).symm⟩
      · rw [if_neg h3] at hin ⊢
        rcases (by omega : tbF a b (i + 1) (j + 1) + 1 = tbF a b i j ∨ tbF a b i (j + 1) + 1 = tbF a b i j ∨ tbF a b (i + 1) j + 1 = tbF a b i j) with e | e | e
        · exact ⟨0, by simp, by simp [costF, oRep]; omega⟩
        · exact ⟨1, by simp, by simp [costF, oIns]; omega⟩
        · exact ⟨2, by simp, by simp [costF, oDel]; omega⟩
    · rw [if_neg h2]
      have := tb_only_del h1 (show b.size ≤ j by omega)
      exact ⟨0, by simp, by simp [costF, oDel]; omega⟩
  · rw [if_neg h1]
    have h2 : j < b.size := by omega
    rw [if_pos h2]
    have := tb_only_ins (show a.size ≤ i by omega) h2
    exact ⟨0, by simp, by simp [costF, oIns]; omega⟩
/-- The first one that is as good as can be is the least script's step. -/
theorem stTo_op {a b : ByteArray} {i j k : Nat} {o : List UInt8} (h : StTo a b i j o) (hk : k < (opsF a b i j).length) (hc : costF a b i j ((opsF a b i j).getD k oz) = tbF a b i j) (hn : ∀ t, t < k → costF a b i j ((opsF a b i j).getD t oz) ≠ tbF a b i j) :
    StTo a b (i + ((opsF a b i j).getD k oz).2.1) (j + ((opsF a b i j).getD k oz).2.2.1) (o ++ [((opsF a b i j).getD k oz).1]) := by
  unfold opsF at hk hc hn ⊢
  by_cases h1 : i < a.size
  · rw [if_pos h1] at hk hc hn ⊢
    by_cases h2 : j < b.size
    · rw [if_pos h2] at hk hc hn ⊢
      have hin := tb_in h1 h2
      by_cases h3 : sg a i = sg b j
      · rw [if_pos h3] at hk hc hn ⊢
        match k, hk with
        | 0, _ =>
          show StTo a b i (j + 1) (o ++ [43])
          refine stTo_ins h h2 (fun _ e => absurd h3 e) ?_
          simp [costF, oIns] at hc; omega
        | 1, _ =>
          have n0 := hn 0 (by omega)
          simp [costF, oIns] at n0
          show StTo a b (i + 1) j (o ++ [45])
          refine stTo_del h h1 (fun _ => ⟨fun e => absurd h3 e, by omega⟩) ?_
          simp [costF, oDel] at hc; omega
        | 2, _ =>
          have n0 := hn 0 (by omega)
          have n1 := hn 1 (by omega)
          simp [costF, oIns] at n0
          simp [costF, oDel] at n1
          show StTo a b (i + 1) (j + 1) (o ++ [61])
          exact (stTo_eq h h1 h2 (fun e => absurd h3 e) (by omega) (by omega)).2
        | k + 3, hk => exact absurd hk (by simp)
      · rw [if_neg h3] at hk hc hn ⊢
        match k, hk with
        | 0, _ =>
          show StTo a b (i + 1) (j + 1) (o ++ [33])
          refine stTo_chg h h1 h2 h3 ?_
          simp [costF, oRep] at hc; omega
        | 1, _ =>
          have n0 := hn 0 (by omega)
          simp [costF, oRep] at n0
          show StTo a b i (j + 1) (o ++ [43])
          refine stTo_ins h h2 (fun _ _ => by omega) ?_
          simp [costF, oIns] at hc; omega
        | 2, _ =>
          have n0 := hn 0 (by omega)
          have n1 := hn 1 (by omega)
          simp [costF, oRep] at n0
          simp [costF, oIns] at n1
          show StTo a b (i + 1) j (o ++ [45])
          refine stTo_del h h1 (fun _ => ⟨fun _ => by omega, by omega⟩) ?_
          simp [costF, oDel] at hc; omega
        | k + 3, hk => exact absurd hk (by simp)
    · rw [if_neg h2] at hk hc hn ⊢
      match k, hk with
      | 0, _ => exact stTo_del h h1 (fun e => absurd e h2) (tb_only_del h1 (by omega))
      | k + 1, hk => exact absurd hk (by simp)
  · rw [if_neg h1] at hk hc hn ⊢
    by_cases h2 : j < b.size
    · rw [if_pos h2] at hk hc hn ⊢
      match k, hk with
      | 0, _ => exact stTo_ins h h2 (fun e => absurd e h1) (tb_only_ins (by omega) h2)
      | k + 1, hk => exact absurd hk (by simp)
    · rw [if_neg h2] at hk
      exact absurd hk (by simp)

/-- The table in one row, as it fills from the end on. -/
def knF (a b : ByteArray) (t : Nat) : Nat → Int := fun k => if t ≤ k then (tbF a b (k / (b.size + 1)) (k % (b.size + 1)) : Nat) else 0
theorem knF_at {a b : ByteArray} {t i j : Nat} (h : t ≤ i * (b.size + 1) + j) (hj : j ≤ b.size) : knF a b t (i * (b.size + 1) + j) = (tbF a b i j : Nat) := by
  unfold knF
  rw [if_pos h]
  have e1 : (i * (b.size + 1) + j) / (b.size + 1) = i := by
    rw [Nat.add_comm, Nat.add_mul_div_right _ _ (Nat.succ_pos _), Nat.div_eq_of_lt (by omega), Nat.zero_add]
  have e2 : (i * (b.size + 1) + j) % (b.size + 1) = j := by
    rw [Nat.add_comm, Nat.add_mul_mod_self_right, Nat.mod_eq_of_lt (by omega)]
  rw [e1, e2]
theorem knF_set {a b : ByteArray} {i j : Nat} (hj : j ≤ b.size) (m : Nat) : (rowN m (knF a b (i * (b.size + 1) + j + 1))).set (i * (b.size + 1) + j) ((tbF a b i j : Nat) : Int) = rowN m (knF a b (i * (b.size + 1) + j)) := by
  rw [rowN_set]
  refine rowN_congr fun k _ => ?_
  by_cases e : k = i * (b.size + 1) + j
  · subst e
    rw [if_pos rfl, knF_at (Nat.le_refl _) hj]
  · rw [if_neg e]
    unfold knF
    by_cases h : i * (b.size + 1) + j ≤ k
    · rw [if_pos h, if_pos (by omega)]
    · rw [if_neg h, if_neg (by omega)]
theorem knF_none (a b : ByteArray) : rowN ((a.size + 1) * (b.size + 1)) (knF a b ((a.size + 1) * (b.size + 1))) = List.replicate ((a.size + 1) * (b.size + 1)) 0 := by
  rw [← rowN_zero]
  refine rowN_congr fun k hk => ?_
  unfold knF
  rw [if_neg (by omega)]
end Go.Proofs.Ytaodocdddfkglaa
