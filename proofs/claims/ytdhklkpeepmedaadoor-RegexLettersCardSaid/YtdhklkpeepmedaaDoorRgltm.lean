/-
  Letters of a pattern, rising and each once: they rise, they are no more than the letters that stand in it, and each of them stands there once. No program in it but what XPlet imports.
-/
import Derived.Test.YtdhklkpeepmedaaDoorPlet
import Derived.Test.YtdhklkpeepmedaaDoorRgm
import Derived.Test.YtdhklkpeepmedaaDoorOcc
namespace Go.Proofs.YtdhklkpeepmedaaDoor
open Go.RowKit

theorem sgn_mem {l : List UInt8} {c : UInt8} : c ∈ sgnL l ↔ c ∈ l ∧ ltr c = true := by
  unfold sgnL sgTo
  rw [List.mem_filter, List.mem_map, decide_eq_true_eq]
  constructor
  · rintro ⟨⟨i, hi, rfl⟩, h⟩
    refine ⟨h, plt_num.2 ?_⟩
    rw [chr_num (List.mem_range.1 hi)]
    have := List.mem_range.1 hi
    omega
  · rintro ⟨h, hl⟩
    obtain ⟨h1, h2⟩ := plt_num.1 hl
    refine ⟨⟨c.toNat - 97, List.mem_range.2 (by omega), ?_⟩, h⟩
    apply UInt8.toNat_inj.1
    rw [chr_num (by omega)]
    omega
theorem sgTo_rise (l : List UInt8) : ∀ m, m ≤ 26 → (sgTo l m).Pairwise (fun a b => a.toNat < b.toNat) ∧ ∀ c ∈ sgTo l m, c.toNat < 97 + m := by
  intro m
  induction m with
  | zero => intro _; exact ⟨List.Pairwise.nil, fun c hc => by simp [sgTo] at hc⟩
  | succ m ih =>
    intro hm
    obtain ⟨h1, h2⟩ := ih (by omega)
    have hn := chr_num (m := m) (by omega)
    rw [sgTo_succ]
    split
    · refine ⟨List.pairwise_append.2 ⟨h1, List.pairwise_singleton _ _, fun a ha b hb => ?_⟩, fun c hc => ?_⟩
      · rw [List.mem_singleton.1 hb, hn]; exact h2 a ha
      · rcases List.mem_append.1 hc with h | h
        · have := h2 c h; omega
        · rw [List.mem_singleton.1 h, hn]; omega
    · rw [List.append_nil]
      exact ⟨h1, fun c hc => by have := h2 c hc; omega⟩
theorem sgn_rise (l : List UInt8) : (sgnL l).Pairwise (fun a b => a.toNat < b.toNat) := (sgTo_rise l 26 (Nat.le_refl _)).1
theorem rise_len {a b : List UInt8} (h : a.Pairwise (fun x y => x.toNat < y.toNat)) (hs : ∀ c ∈ a, c ∈ b) : a.length ≤ b.length := by
  induction a generalizing b with
  | nil => exact Nat.zero_le _
  | cons x a ih =>
    have hx := hs x (List.mem_cons_self ..)
    have h2 := List.pairwise_cons.1 h
    have := ih (b := b.erase x) h2.2 (fun c hc => by
      refine (List.mem_erase_of_ne fun e => ?_).2 (hs c (List.mem_cons_of_mem _ hc))
      have := h2.1 c hc
      rw [e] at this
      exact Nat.lt_irrefl _ this)
    rw [List.length_erase_of_mem hx] at this
    have hp := List.length_pos_of_mem hx
    rw [List.length_cons]
    omega
theorem sgn_len (l : List UInt8) : (sgnL l).length ≤ (l.filter ltr).length :=
  rise_len (sgn_rise l) fun _ hc => List.mem_filter.2 (sgn_mem.1 hc)
/-- The text of them rises. -/
theorem sgn_text (l : List UInt8) {t : ByteArray} (ht : t = txt (sgnL l)) {i j : Nat} (hij : i < j) (hj : j < t.size) : (sg t i).toNat < (sg t j).toNat := by
  subst ht
  rw [txt_size] at hj
  have h := List.pairwise_iff_getElem.1 (sgn_rise l) i j (by omega) hj hij
  have e : ∀ k (hk : k < (sgnL l).length), sg (txt (sgnL l)) k = (sgnL l)[k] := fun k hk => by
    rw [← bs_sg, bs_txt, List.getD_eq_getElem?_getD, List.getElem?_eq_getElem hk, Option.getD_some]
  rw [e i (by omega), e j hj]
  exact h
/-- A sign that is among them stands there once. -/
theorem sgn_once (l : List UInt8) {t u : ByteArray} {c : UInt8} (ht : t = txt (sgnL l)) (hc : c ∈ sgnL l) (hu : u = txt [c]) : (occL t u).length = 1 := by
  have hu1 : u.size = 1 := by rw [hu, txt_size]; rfl
  have hu0 : sg u 0 = c := by rw [hu, ← bs_sg, bs_txt]; rfl
  obtain ⟨i0, h0, e0⟩ := List.mem_iff_getElem.1 hc
  have h0t : i0 < t.size := by rw [ht, txt_size]; exact h0
  have e1 : sg t i0 = c := by rw [ht, ← bs_sg, bs_txt, List.getD_eq_getElem?_getD, List.getElem?_eq_getElem h0, Option.getD_some, e0]
  have hoc : ∀ i, i < t.size → (Oc (sg t) (sg u) t.size u.size i ↔ i = i0) := fun i hi => by
    rw [hu1]
    constructor
    · intro h
      have h3 := h.2 0 (by omega)
      rw [hu0, Nat.add_zero] at h3
      rcases Nat.lt_trichotomy i i0 with hlt | he | hgt
      · have := sgn_text l ht hlt h0t
        rw [← h3, e1] at this
        omega
      · exact he
      · have := sgn_text l ht hgt hi
        rw [← h3, e1] at this
        omega
    · rintro rfl
      refine ⟨by omega, fun j hj => ?_⟩
      obtain rfl : j = 0 := by omega
      rw [hu0, Nat.add_zero, e1]
  have key : ∀ k, k ≤ t.size → (occTo (sg t) (sg u) t.size u.size k).length = if i0 < k then 1 else 0 := by
    intro k
    induction k with
    | zero => intro _; rfl
    | succ k ih =>
      intro hk
      have := ih (by omega)
      by_cases he : k = i0
      · rw [occTo_yes ((hoc k (by omega)).2 he), List.length_append, this, if_neg (by omega), if_pos (by omega)]; rfl
      · rw [occTo_no (fun h => he ((hoc k (by omega)).1 h)), this]
        by_cases hlt : i0 < k
        · rw [if_pos hlt, if_pos (by omega)]
        · rw [if_neg hlt, if_neg (by omega)]
  have := key t.size (Nat.le_refl _)
  rw [if_pos h0t] at this
  exact this
/-- A text that fits has no sign but these. -/
theorem sgn_fits {p : ByteArray} {r : Re UInt8} {s : List UInt8} (h : RgOk p r) (hm : Mt r s) : ∀ c ∈ s, c ∈ sgnL (bs p) := fun c hc => by
  have h1 := mt_sgs hm c hc
  rw [prs_sgs h.2] at h1
  exact sgn_mem.2 (List.mem_filter.1 h1)
end Go.Proofs.YtdhklkpeepmedaaDoor
