/-
  Plain facts on slices of texts, and on what is wrong with a list of words: the first fault, or none. No condition.
-/
import Derived.Test.YtlbefiaieehcfaaMem
import Derived.Test.YtlbefiaieehcfaaTmath
import Derived.Test.YtlbefiaieehcfaaStr
import Derived.Test.YtlbefiaieehcfaaBs
namespace Go.Proofs.Ytlbefiaieehcfaa
open Go.RowKit

/-- The slice value '.slice A n _' holds the texts ws in world w, below block B. -/
def IsStrs (w : World) (B : Nat) (A : Option Addr) (n : Nat) (ws : List ByteArray) : Prop :=
  ws.length = n ∧ (0 < n → ∃ g off, A = some ⟨g, off, none⟩ ∧ g < B ∧ ∀ j, j < n → w.cell? ⟨g, off + j, none⟩ = some (.string (ws.getD j ByteArray.empty)))
theorem IsStrs.keep {w w' : World} {B B' n : Nat} {A : Option Addr} {ws : List ByteArray} (h : IsStrs w B A n ws) (hB : B ≤ B')
    (hk : ∀ b o, b < B → w'.cell? ⟨b, o, none⟩ = w.cell? ⟨b, o, none⟩) : IsStrs w' B' A n ws :=
  ⟨h.1, fun hn => by
    obtain ⟨g, off, e, hg, hc⟩ := h.2 hn
    exact ⟨g, off, e, by omega, fun j hj => (hk _ _ hg).trans (hc j hj)⟩⟩
theorem IsStrs.below {w w' : World} {B n : Nat} {A : Option Addr} {ws : List ByteArray} (h : IsStrs w B A n ws) (hb : Below B w w') : IsStrs w' B A n ws :=
  h.keep (Nat.le_refl _) fun _ _ hp => hb.cell hp
theorem IsStrs.mono {w : World} {B B' n : Nat} {A : Option Addr} {ws : List ByteArray} (h : IsStrs w B A n ws) (hB : B ≤ B') : IsStrs w B' A n ws :=
  h.keep hB fun _ _ _ => rfl
theorem IsStrs.lit (w : World) (ws : List ByteArray) (cs : Array Value) (e : TypeId) (h : cs = (ws.map Value.string).toArray) :
    IsStrs (w.alloc (.cells cs e)) (w.heap.size + 1) (some ⟨w.heap.size, 0, none⟩) ws.length ws := by
  subst h
  refine ⟨rfl, fun _ => ⟨w.heap.size, 0, rfl, by omega, fun j hj => ?_⟩⟩
  rw [Nat.zero_add, cell_of_row _ _ j _ e (0, 0) (heap_alloc_new w _)]
  simp [hj]

/-- The word at place i. -/
def wat (ws : List ByteArray) (i : Nat) : ByteArray := ws.getD i ByteArray.empty
theorem wat_get {ws : List ByteArray} {i : Nat} (h : i < ws.length) : ws[i]? = some (wat ws i) := by simp [wat, List.getD_eq_getElem?_getD, h]
/-- The first k words are as they should be. -/
def FineTo (ws : List ByteArray) (k : Nat) : Prop := ∀ j, j < k → (wat ws j).size ≤ 8 ∧ 0 < (wat ws j).size ∧ ∀ m, m < j → wat ws m ≠ wat ws j
def Fine (ws : List ByteArray) : Prop := ws.length ≤ 6 ∧ FineTo ws ws.length
/-- What is wrong with the word at place i, the words ahead being as they should be. -/
def BadAt (ws : List ByteArray) (i : Nat) (k : Int) : Prop :=
  (k = 4 ∧ 8 < (wat ws i).size) ∨ (k = 5 ∧ (wat ws i).size = 0) ∨ (k = 6 ∧ (wat ws i).size ≤ 8 ∧ 0 < (wat ws i).size ∧ ∃ m, m < i ∧ wat ws m = wat ws i)
def Bad (ws : List ByteArray) (k : Int) : Prop := (k = 4 ∧ 6 < ws.length) ∨ (ws.length ≤ 6 ∧ ∃ i, i < ws.length ∧ FineTo ws i ∧ BadAt ws i k)
theorem badAt_no {ws : List ByteArray} {i n : Nat} {k : Int} (h : BadAt ws i k) (hf : FineTo ws n) (hi : i < n) : False := by
  obtain ⟨h1, h2, h3⟩ := hf i hi
  rcases h with ⟨_, h⟩ | ⟨_, h⟩ | ⟨_, _, _, m, hm, e⟩
  · omega
  · omega
  · exact h3 m hm e
theorem badAt_one {ws : List ByteArray} {i : Nat} {k k' : Int} (h : BadAt ws i k) (h' : BadAt ws i k') : k = k' := by
  rcases h with ⟨rfl, h⟩ | ⟨rfl, h⟩ | ⟨rfl, h1, h2, _⟩ <;> rcases h' with ⟨rfl, h'⟩ | ⟨rfl, h'⟩ | ⟨rfl, h1', h2', _⟩ <;> first | rfl | omega
theorem bad_fine {ws : List ByteArray} {k : Int} (h : Bad ws k) (hf : Fine ws) : False := by
  rcases h with ⟨_, h⟩ | ⟨_, i, hi, _, hb⟩
  · have := hf.1; omega
  · exact badAt_no hb hf.2 hi
theorem bad_one {ws : List ByteArray} {k k' : Int} (h : Bad ws k) (h' : Bad ws k') : k = k' := by
  rcases h with ⟨rfl, h⟩ | ⟨hl, i, hi, hf, hb⟩
  · rcases h' with ⟨rfl, _⟩ | ⟨hl, _⟩
    · rfl
    · omega
  · rcases h' with ⟨rfl, h'⟩ | ⟨_, j, hj, hf', hb'⟩
    · omega
    · rcases Nat.lt_trichotomy i j with h1 | h1 | h1
      · exact (badAt_no hb hf' h1).elim
      · subst h1; exact badAt_one hb hb'
      · exact (badAt_no hb' hf h1).elim
theorem bad_code {ws : List ByteArray} {k : Int} (h : Bad ws k) : k = 4 ∨ k = 5 ∨ k = 6 := by
  rcases h with ⟨rfl, _⟩ | ⟨_, i, _, _, ⟨rfl, _⟩ | ⟨rfl, _⟩ | ⟨rfl, _⟩⟩ <;> simp
theorem fineTo_succ {ws : List ByteArray} {k : Nat} (h : FineTo ws k) (h1 : (wat ws k).size ≤ 8) (h2 : 0 < (wat ws k).size) (h3 : ∀ m, m < k → wat ws m ≠ wat ws k) : FineTo ws (k + 1) := by
  intro j hj
  by_cases e : j = k
  · subst e; exact ⟨h1, h2, h3⟩
  · exact h j (by omega)
theorem fineTo_or (ws : List ByteArray) (n : Nat) : FineTo ws n ∨ ∃ i k, i < n ∧ FineTo ws i ∧ BadAt ws i k := by
  induction n with
  | zero => exact .inl fun j hj => by omega
  | succ n ih =>
    rcases ih with ih | ⟨i, k, hi, h⟩
    · by_cases h1 : 8 < (wat ws n).size
      · exact .inr ⟨n, 4, by omega, ih, .inl ⟨rfl, h1⟩⟩
      · by_cases h2 : (wat ws n).size = 0
        · exact .inr ⟨n, 5, by omega, ih, .inr (.inl ⟨rfl, h2⟩)⟩
        · by_cases h3 : ∃ m, m < n ∧ wat ws m = wat ws n
          · exact .inr ⟨n, 6, by omega, ih, .inr (.inr ⟨rfl, by omega, by omega, h3⟩)⟩
          · exact .inl (fineTo_succ ih (by omega) (by omega) fun m hm e => h3 ⟨m, hm, e⟩)
    · exact .inr ⟨i, k, by omega, h⟩
theorem words_or (ws : List ByteArray) : Fine ws ∨ ∃ k, Bad ws k := by
  by_cases h : ws.length ≤ 6
  · rcases fineTo_or ws ws.length with h' | ⟨i, k, hi, h'⟩
    · exact .inl ⟨h, h'⟩
    · exact .inr ⟨k, .inr ⟨h, i, hi, h'⟩⟩
  · exact .inr ⟨4, .inl ⟨rfl, by omega⟩⟩
/-- The words as lists of signs. -/
def wl (ws : List ByteArray) : List (List UInt8) := ws.map bs
theorem wl_get {ws : List ByteArray} {i : Nat} (h : i < ws.length) : (wl ws)[i]? = some (bs (wat ws i)) := by
  unfold wl; rw [List.getElem?_map, wat_get h]; rfl
theorem wl_getD {ws : List ByteArray} {i : Nat} (h : i < ws.length) : (wl ws).getD i [] = bs (wat ws i) := by
  rw [List.getD_eq_getElem?_getD, wl_get h]; rfl
theorem wl_len (ws : List ByteArray) : (wl ws).length = ws.length := by simp [wl]
theorem wl_take (ws : List ByteArray) (k : Nat) : (wl ws).take k = wl (ws.take k) := by simp [wl, List.map_take]
theorem wl_take_succ {ws : List ByteArray} {k : Nat} (h : k < ws.length) : (wl ws).take (k + 1) = (wl ws).take k ++ [bs (wat ws k)] := by
  rw [List.take_add_one, wl_get h]; rfl
theorem fine_new {ws : List ByteArray} {k : Nat} (hf : FineTo ws (k + 1)) (hk : k < ws.length) : bs (wat ws k) ∉ (wl ws).take k := by
  intro h
  obtain ⟨m, hm⟩ := List.mem_iff_getElem?.1 h
  rw [List.getElem?_take] at hm
  split at hm
  · rename_i hlt
    rw [wl_get (by omega)] at hm
    exact (hf k (by omega)).2.2 m hlt (bs_inj (by simpa using hm))
  · cases hm
theorem fine_nodup {ws : List ByteArray} (hf : FineTo ws ws.length) : ∀ k, k ≤ ws.length → ((wl ws).take k).Nodup := by
  intro k
  induction k with
  | zero => intro _; simp
  | succ k ih =>
    intro hk
    rw [wl_take_succ (by omega), List.nodup_append]
    refine ⟨ih (by omega), by simp, ?_⟩
    rintro a ha b hb rfl
    obtain rfl : a = bs (wat ws k) := by simpa using hb
    exact fine_new (fun j hj => hf j (by omega)) (by omega) ha
theorem fine_wl {ws : List ByteArray} (hf : Fine ws) : (wl ws).Nodup ∧ ∀ x ∈ wl ws, x.length ≤ 8 ∧ 0 < x.length := by
  refine ⟨?_, ?_⟩
  · have := fine_nodup hf.2 ws.length (Nat.le_refl _)
    rwa [List.take_of_length_le (by rw [wl_len]; exact Nat.le_refl _)] at this
  · intro x hx
    obtain ⟨i, hi⟩ := List.mem_iff_getElem?.1 hx
    have hlt : i < ws.length := by have := (List.getElem?_eq_some_iff.1 hi).1; rw [wl_len] at this; exact this
    rw [wl_get hlt] at hi
    obtain rfl : bs (wat ws i) = x := by simpa using hi
    rw [bs_len]
    have := hf.2 i hlt
    exact ⟨this.1, this.2.1⟩
end Go.Proofs.Ytlbefiaieehcfaa
