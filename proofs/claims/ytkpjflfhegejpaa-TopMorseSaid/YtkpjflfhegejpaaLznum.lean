/-
  Plain mathematics, without a program: a map that tells of each text of a list which number it has, and how the pieces of a text are found with it. No condition.
-/
import Derived.Test.YtkpjflfhegejpaaLzr
import Derived.Test.YtkpjflfhegejpaaKeyS
namespace Go.Proofs.Ytkpjflfhegejpaa
open Go.RowKit Go.Maps

/-- The map D holds the texts T, each with its number. -/
structure NumD (D : DataW Unit) (T : List (List UInt8)) : Prop where
  map : IsMap D
  has : ∀ u : ByteArray, Maps.has D (keyS u) = true ↔ bs u ∈ T
  num : ∀ k, k < T.length → ∀ u : ByteArray, bs u = T.getD k [] → ∀ z, D.atKey (keyS u) z = .lit (.int .i64 (k : Int))
theorem numD_start : NumD ((DataW.map (H := Unit) []).put (keyS ByteArray.empty) (.lit (.int .i64 0))) [[]] := by
  refine ⟨isMap_empty.put _ _, fun u => ?_, fun k hk u hu z => ?_⟩
  · by_cases e : u = ByteArray.empty
    · subst e
      rw [has_put_same isMap_empty (keyS_key _)]
      simp; rfl
    · rw [has_put_other (keyS_ne e)]
      refine ⟨fun h => absurd h (by simp [Maps.has]), fun h => absurd (bs_inj ?_) e⟩
      rw [List.mem_singleton.1 h]; rfl
  · obtain rfl : k = 0 := by simpa using hk
    obtain rfl : u = ByteArray.empty := bs_inj hu
    exact atKey_put_same isMap_empty (keyS_key _) _ _
theorem numD_step {D : DataW Unit} {T : List (List UInt8)} {u : ByteArray} (h : NumD D T) (hu : bs u ∉ T) : NumD (D.put (keyS u) (.lit (.int .i64 (T.length : Int)))) (T ++ [bs u]) := by
  refine ⟨h.map.put _ _, fun v => ?_, fun k hk v hv z => ?_⟩
  · by_cases e : v = u
    · subst e
      rw [has_put_same h.map (keyS_key _)]
      simp
    · rw [has_put_other (keyS_ne e), h.has v, List.mem_append, List.mem_singleton]
      exact ⟨.inl, fun h' => h'.elim id fun h' => absurd (bs_inj h') e⟩
  · rw [List.length_append, List.length_singleton] at hk
    by_cases e : k = T.length
    · subst e
      obtain rfl : v = u := bs_inj (by rw [hv]; simp)
      exact atKey_put_same h.map (keyS_key _) _ _
    · have hg : (T ++ [bs u]).getD k [] = T.getD k [] := by
        rw [List.getD_eq_getElem?_getD, List.getElem?_append_left (by omega), ← List.getD_eq_getElem?_getD]
      rw [hg] at hv
      have hne : v ≠ u := fun e' => by
        subst e'
        exact hu (by rw [hv]; exact mem_getD (by omega))
      rw [atKey_put_other (keyS_ne hne)]
      exact h.num k (by omega) v hv z
/-- The longest text of T with which s begins has L signs. -/
structure LgT (T : List (List UInt8)) (s : List UInt8) (L : Nat) : Prop where
  le : L ≤ s.length
  mem : s.take L ∈ T
  most : ∀ t ∈ T, t <+: s → t.length ≤ L
/-- The search ends where the next text is not there. -/
theorem lgT_of {T : List (List UInt8)} {s : List UInt8} {L : Nat} (hc : Clo T) (hL : L ≤ s.length) (hm : s.take L ∈ T) (hno : L < s.length → s.take (L + 1) ∉ T) : LgT T s L := by
  refine ⟨hL, hm, fun t ht hp => Nat.le_of_not_lt fun hlt => ?_⟩
  have hle := hp.length_le
  refine hno (by omega) (clo_pre hc t.length t ht _ ?_ (by omega))
  rw [List.prefix_iff_eq_take.1 hp]
  exact List.take_prefix_take_left (by omega)
theorem lgT_best {T : List (List UInt8)} {s : List UInt8} {L : Nat} (h : LgT T s L) (hn : T.Nodup) : ∃ k, k < T.length ∧ T.getD k [] = s.take L ∧ Bst T s k := by
  obtain ⟨k, hk, e⟩ := List.getElem_of_mem h.mem
  have e2 : T.getD k [] = s.take L := by rw [List.getD_eq_getElem?_getD, List.getElem?_eq_getElem hk, Option.getD_some, e]
  have hl := h.le
  refine ⟨k, hk, e2, bst_of hn hk (by rw [e2]; exact List.take_prefix _ _) fun t ht hp => ?_⟩
  rw [e2, List.length_take, Nat.min_eq_left hl]
  exact h.most t ht hp
/-- What Write has done: from r on, the texts T, the pieces ps, the numbers D. -/
structure WSo (s r : ByteArray) (ps : List (Nat × UInt8)) (T : List (List UInt8)) (D : DataW Unit) : Prop where
  to_ : WrTo (bs s) (bs r) T ps
  len : T.length = ps.length + 1
  room : ps.length + r.size ≤ s.size
  live : 0 < r.size → T.Nodup ∧ Clo T ∧ [] ∈ T ∧ NumD D T
theorem wso_start (s : ByteArray) : WSo s s [] [[]] ((DataW.map (H := Unit) []).put (keyS ByteArray.empty) (.lit (.int .i64 0))) :=
  ⟨wrTo_start _, rfl, by simp, fun _ => ⟨by simp, clo_nil, by simp, numD_start⟩⟩
theorem wso_step {s r rp : ByteArray} {ps : List (Nat × UInt8)} {T : List (List UInt8)} {D : DataW Unit} {L : Nat} (h : WSo s r ps T D) (h0 : 0 < r.size) (hrp : bs rp = (bs r).dropLast) (hl : LgT T (bs rp) L) :
    L < r.size ∧ ∃ k, k ≤ ps.length ∧ (∀ z, D.atKey (keyS (r.extract 0 L)) z = .lit (.int .i64 (k : Int))) ∧
      WSo s (r.extract (L + 1) r.size) (ps ++ [(k, sg r L)]) (T ++ [bs (r.extract 0 (L + 1))]) (D.put (keyS (r.extract 0 (L + 1))) (.lit (.int .i64 ((ps.length : Int) + 1)))) := by
  obtain ⟨hn, hc, hz, hd⟩ := h.live h0
  obtain ⟨k, hk, e, hb⟩ := lgT_best hl hn
  have hle := hl.le
  rw [hrp, List.length_dropLast, bs_len] at hle
  have hlt : L < r.size := by omega
  rw [hrp] at hb e
  have hne : bs r ≠ [] := fun e => by have := bs_len r; rw [e] at this; simp at this; omega
  have hkl : (T.getD k []).length = L := by rw [e, List.length_take, List.length_dropLast, bs_len]; omega
  have e1 : bs (r.extract 0 (L + 1)) = (bs r).take (L + 1) := by rw [wb_ext, List.drop_zero]
  have e0 : bs (r.extract 0 L) = T.getD k [] := by rw [wb_ext, List.drop_zero, e, List.dropLast_eq_take, List.take_take, bs_len, Nat.min_eq_left (by omega)]
  have e2 : bs (r.extract (L + 1) r.size) = (bs r).drop (L + 1) := by rw [wb_ext, List.take_of_length_le (by rw [bs_len]; exact Nat.le_refl _)]
  have hlen := h.len
  have hroom := h.room
  refine ⟨hlt, k, by omega, fun z => hd.num k hk _ e0 z, ?_, ?_, ?_, fun hr2 => ?_⟩
  · have ht := wrTo_step h.to_ hne hb
    rw [hkl] at ht
    rw [e1, e2]
    exact ht
  · rw [List.length_append, List.length_append, hlen]; rfl
  · rw [List.length_append, List.length_singleton, ByteArray.size_extract]; omega
  · have hnew : bs (r.extract 0 (L + 1)) ∉ T := by
      have := best_new hb (by rw [hkl, ← e2]; intro e'; have := bs_len (r.extract (L + 1) r.size); rw [e'] at this; simp at this; rw [ByteArray.size_extract] at hr2; omega)
      rw [hkl, ← e1] at this
      exact this
    refine ⟨nodup_more hn hnew, ?_, List.mem_append_left _ hz, ?_⟩
    · have := clo_more hc hne hb
      rw [hkl, ← e1] at this
      exact this
    · have := numD_step hd hnew
      rw [hlen] at this
      simpa using this
theorem wso_end {s r : ByteArray} {ps : List (Nat × UInt8)} {T : List (List UInt8)} {D : DataW Unit} (h : WSo s r ps T D) (h0 : bs r = []) : Wr [[]] (bs s) ps := by
  have := h.to_
  rw [h0] at this
  exact wrTo_end this
end Go.Proofs.Ytkpjflfhegejpaa
