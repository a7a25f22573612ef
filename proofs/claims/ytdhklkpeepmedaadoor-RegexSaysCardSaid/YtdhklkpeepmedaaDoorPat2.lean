/-
  Plain mathematics, without a program: short texts between brackets with a star: what they mean again and again, and unfolded once; patterns that are read by hand. No condition.
-/
import Derived.Test.YtdhklkpeepmedaaDoorPat
import Derived.Test.YtdhklkpeepmedaaDoorFit
namespace Go.Proofs.YtdhklkpeepmedaaDoor

/-- The kinds of signs in a pattern. -/
theorem sign_kind (c : UInt8) : c = 124 ∨ c = 40 ∨ c = 41 ∨ c = 42 ∨ ltr c = true ∨ (ltr c = false ∧ c ≠ 124 ∧ c ≠ 40 ∧ c ≠ 41 ∧ c ≠ 42) := by
  by_cases h1 : c = 124
  · exact .inl h1
  by_cases h2 : c = 40
  · exact .inr (.inl h2)
  by_cases h3 : c = 41
  · exact .inr (.inr (.inl h3))
  by_cases h4 : c = 42
  · exact .inr (.inr (.inr (.inl h4)))
  cases h5 : ltr c with
  | true => exact .inr (.inr (.inr (.inr (.inl rfl))))
  | false => exact .inr (.inr (.inr (.inr (.inr ⟨rfl, h1, h2, h3, h4⟩))))
/-- A pattern in brackets, with a star behind: of at most two signs it is one by itself, or ')('. -/
theorem star_short {p : List UInt8} {r : Re UInt8} (hp : p.length ≤ 2) (h : prs (40 :: (p ++ [41, 42])) = some r) : (∃ q, prs p = some q) ∨ p = [41, 40] := by
  match p, hp with
  | [], _ => exact .inl ⟨.eps, rfl⟩
  | [c], _ =>
    rcases sign_kind c with rfl | rfl | rfl | rfl | hl | ⟨hl, h1, h2, h3, h4⟩
    · exact .inl ⟨.alt .eps .eps, rfl⟩
    · exact nomatch (show none = some r from h)
    · exact nomatch (show none = some r from h)
    · exact nomatch (show none = some r from h)
    · have h1 := ltr_ne hl ltr_bar
      have h2 := ltr_ne hl ltr_open
      have h3 := ltr_ne hl ltr_shut
      have h4 := ltr_ne hl ltr_star
      exact .inl ⟨.ch c, by simp [prs, pE_eq, pA_nil, pR_nil, prS_nil, pR_part, pP_letter, catO, *]⟩
    · exfalso
      simp [prs, pE_eq, pP_open, pR_part, pP_bad, *] at h
  | [c, d], _ =>
    rcases sign_kind c with rfl | rfl | rfl | rfl | hl | ⟨hl, h1, h2, h3, h4⟩
    · rcases sign_kind d with rfl | rfl | rfl | rfl | kl | ⟨kl, k1, k2, k3, k4⟩
      · exact .inl ⟨_, rfl⟩
      · exact nomatch (show none = some r from h)
      · exact nomatch (show none = some r from h)
      · exact nomatch (show none = some r from h)
      · have k1 := ltr_ne kl ltr_bar
        have k2 := ltr_ne kl ltr_open
        have k3 := ltr_ne kl ltr_shut
        have k4 := ltr_ne kl ltr_star
        exact .inl ⟨.alt .eps (.ch d), by simp [prs, pE_eq, pA_nil, pA_bar, pR_nil, prS_nil, pR_part, pR_stop, pP_letter, catO, *]⟩
      · exfalso
        simp [prs, pE_eq, pA_bar, pP_open, pR_part, pR_stop, pP_bad, *] at h
    · rcases sign_kind d with rfl | rfl | rfl | rfl | kl | ⟨kl, k1, k2, k3, k4⟩
      · exact nomatch (show none = some r from h)
      · exact nomatch (show none = some r from h)
      · exact .inl ⟨_, rfl⟩
      · exact nomatch (show none = some r from h)
      · have k1 := ltr_ne kl ltr_bar
        have k2 := ltr_ne kl ltr_open
        have k3 := ltr_ne kl ltr_shut
        have k4 := ltr_ne kl ltr_star
        exfalso
        simp [prs, pE_eq, pA_nil, pA_other, pR_nil, pP_open, pR_part, pR_stop, pP_letter, prS_other, prS_star, prS_nil, catO, *] at h
      · exfalso
        simp [prs, pE_eq, pP_open, pR_part, pP_bad, *] at h
    · rcases sign_kind d with rfl | rfl | rfl | rfl | kl | ⟨kl, k1, k2, k3, k4⟩
      · exact nomatch (show none = some r from h)
      · exact .inr rfl
      · exact nomatch (show none = some r from h)
      · exact nomatch (show none = some r from h)
      · have k1 := ltr_ne kl ltr_bar
        have k2 := ltr_ne kl ltr_open
        have k3 := ltr_ne kl ltr_shut
        have k4 := ltr_ne kl ltr_star
        exfalso
        simp [prs, pE_eq, pA_other, pP_open, pR_part, pR_stop, pP_letter, prS_other, catO, *] at h
      · exfalso
        simp [prs, pE_eq, pA_other, pP_open, pR_part, pR_stop, pP_bad, prS_other, catO, *] at h
    · rcases sign_kind d with rfl | rfl | rfl | rfl | kl | ⟨kl, k1, k2, k3, k4⟩
      · exact nomatch (show none = some r from h)
      · exact nomatch (show none = some r from h)
      · exact nomatch (show none = some r from h)
      · exact nomatch (show none = some r from h)
      · exfalso
        simp [prs, pE_eq, pP_open, pR_part, pP_bad, ltr_star] at h
      · exfalso
        simp [prs, pE_eq, pP_open, pR_part, pP_bad, ltr_star] at h
    · have h1 := ltr_ne hl ltr_bar
      have h2 := ltr_ne hl ltr_open
      have h3 := ltr_ne hl ltr_shut
      have h4 := ltr_ne hl ltr_star
      rcases sign_kind d with rfl | rfl | rfl | rfl | kl | ⟨kl, k1, k2, k3, k4⟩
      · exact .inl ⟨.alt (.ch c) .eps, by simp [prs, pE_eq, pA_nil, pA_bar, pR_nil, prS_other, pR_part, pR_stop, pP_letter, catO, *]⟩
      · exfalso
        simp [prs, pE_eq, pA_nil, pA_other, pR_nil, pP_open, pR_part, pR_stop, pP_letter, prS_other, prS_star, prS_nil, catO, *] at h
      · exfalso
        simp [prs, pE_eq, pA_other, pP_open, pR_part, pR_stop, pP_letter, prS_other, catO, *] at h
      · exact .inl ⟨.star (.ch c), by simp [prs, pE_eq, pA_nil, pR_nil, prS_nil, prS_star, pR_part, pP_letter, catO, *]⟩
      · have k1 := ltr_ne kl ltr_bar
        have k2 := ltr_ne kl ltr_open
        have k3 := ltr_ne kl ltr_shut
        have k4 := ltr_ne kl ltr_star
        exact .inl ⟨.cat (.ch c) (.ch d), by simp [prs, pE_eq, pA_nil, pR_nil, prS_nil, prS_other, pR_part, pP_letter, catO, *]⟩
      · exfalso
        simp [prs, pE_eq, pP_open, pR_part, pP_letter, pP_bad, prS_other, catO, *] at h
    · exfalso
      simp [prs, pE_eq, pP_open, pR_part, pP_bad, *] at h
/-- Unfolded once it means the same. -/
theorem star_unfold {p : List UInt8} {r : Re UInt8} (hp : p.length ≤ 2) (h : prs (40 :: (p ++ [41, 42])) = some r) : ∃ q, prs (124 :: 40 :: (p ++ 41 :: 40 :: (p ++ [41, 42]))) = some q ∧ ∀ s, mtB r s = mtB q s := by
  rcases star_short hp h with ⟨q, hq⟩ | rfl
  · rw [prs_starred hq] at h
    cases h
    exact ⟨_, prs_unfold hq, fun s => mtB_congr star_kleene⟩
  · obtain rfl : Re.cat .eps (.star .eps) = r := Option.some.inj h
    have e0 : ∀ s : List UInt8, Mt (.star .eps) s ↔ s = [] := fun s => by
      rw [mt_star]
      constructor
      · rintro (h | ⟨u, v, _, hu, hm, _⟩)
        · exact h
        · exact absurd (mt_eps.1 hm) hu
      · exact .inl
    have e1 : ∀ s : List UInt8, Mt (.cat .eps (.star .eps)) s ↔ s = [] := fun s => by
      rw [mt_cat]
      constructor
      · rintro ⟨u, v, rfl, hu, hv⟩
        rw [mt_eps.1 hu, (e0 v).1 hv]; rfl
      · rintro rfl
        exact ⟨[], [], rfl, .eps, .none⟩
    refine ⟨.alt .eps (.cat (.cat (.cat .eps .eps) .eps) (.star .eps)), rfl, fun s => mtB_congr ?_⟩
    rw [e1, mt_alt, mt_eps]
    constructor
    · exact .inl
    · rintro (h | h)
      · exact h
      · obtain ⟨u, v, rfl, hu, hv⟩ := mt_cat.1 h
        obtain ⟨u1, u2, rfl, hu1, hu2⟩ := mt_cat.1 hu
        obtain ⟨u3, u4, rfl, hu3, hu4⟩ := mt_cat.1 hu1
        rw [mt_eps.1 hu3, mt_eps.1 hu4, mt_eps.1 hu2, (e0 v).1 hv]; rfl
end Go.Proofs.YtdhklkpeepmedaaDoor
