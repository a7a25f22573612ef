/-
  Contract of slices.Compact at signs that do not fall: each of them once, rising, at the same place. Conditions: at most a thousand signs.
-/
import Derived.Test.YtdhklkpeepmedaaDoorSortB
import Derived.Lib.SliceRun
import Derived.Laws.IdiomCopy
namespace Go.Proofs.YtdhklkpeepmedaaDoor
open Go.RowKit

/-! ### Plain facts -/
/-- R: the first j signs of l, each once, rising. -/
def RzTo (l : List UInt8) (j : Nat) (R : List UInt8) : Prop := R.Pairwise (fun a b => a.toNat < b.toNat) ∧ ∀ c, c ∈ R ↔ c ∈ l.take j
theorem getD_at (l : List UInt8) (j : Nat) (h : j < l.length) : l.getD j 0 = l[j] := by simp [List.getD_eq_getElem?_getD, h]
theorem take_snoc (l : List UInt8) {j : Nat} (hj : j < l.length) : l.take (j + 1) = l.take j ++ [l[j]] := by
  rw [List.take_add_one, List.getElem?_eq_getElem hj]; rfl
theorem rz_one {l : List UInt8} (h : 0 < l.length) : RzTo l 1 (l.take 1) := by
  cases l with
  | nil => exact absurd h (by decide)
  | cons a l => exact ⟨by simp, fun c => Iff.rfl⟩
theorem rz_new {l : List UInt8} {j : Nat} {R : List UInt8} (hs : l.Pairwise (· ≤ ·)) (h : RzTo l (j + 1) R) (hj : j + 1 < l.length) (hne : l.getD (j + 1) 0 ≠ l.getD j 0) : RzTo l (j + 2) (R ++ [l.getD (j + 1) 0]) := by
  rw [getD_at l j (by omega), getD_at l (j + 1) hj] at hne
  rw [getD_at l (j + 1) hj]
  have hle : ∀ i (hi : i < l.length), i ≤ j → l[i].toNat ≤ l[j].toNat := fun i hi hij => by
    rcases Nat.lt_or_ge i j with h' | h'
    · exact UInt8.le_iff_toNat_le.1 (List.pairwise_iff_getElem.1 hs i j hi (by omega) h')
    · obtain rfl : i = j := by omega
      exact Nat.le_refl _
  have hlt : l[j].toNat < l[j + 1].toNat := by
    have h1 := UInt8.le_iff_toNat_le.1 (List.pairwise_iff_getElem.1 hs j (j + 1) (by omega) hj (by omega))
    rcases Nat.lt_or_ge l[j].toNat l[j + 1].toNat with h' | h'
    · exact h'
    · exact absurd (UInt8.toNat_inj.1 (by omega)) hne
  refine ⟨List.pairwise_append.2 ⟨h.1, List.pairwise_singleton _ _, fun a ha b hb => ?_⟩, fun c => ?_⟩
  · rw [List.mem_singleton.1 hb]
    obtain ⟨i, hi, e⟩ := List.mem_iff_getElem.1 ((h.2 a).1 ha)
    rw [List.length_take] at hi
    rw [List.getElem_take] at e
    rw [← e]
    exact Nat.lt_of_le_of_lt (hle i (by omega) (by omega)) hlt
  · rw [List.mem_append, h.2, take_snoc l hj, List.mem_append]
theorem rz_same {l : List UInt8} {j : Nat} {R : List UInt8} (h : RzTo l (j + 1) R) (hj : j + 1 < l.length) (he : l.getD (j + 1) 0 = l.getD j 0) : RzTo l (j + 2) R := by
  rw [getD_at l j (by omega), getD_at l (j + 1) hj] at he
  refine ⟨h.1, fun c => ?_⟩
  rw [h.2, take_snoc l hj, List.mem_append, List.mem_singleton]
  constructor
  · exact .inl
  · rintro (hc | rfl)
    · exact hc
    · rw [he, take_snoc l (show j < l.length by omega), List.mem_append, List.mem_singleton]
      exact .inr rfl
theorem take_more (l : List UInt8) {j : Nat} (hj : j < l.length) : l.take (j + 1) = l.take j ++ [l.getD j 0] := by
  rw [List.take_add_one, List.getElem?_eq_getElem hj, getD_at l j hj]; rfl
/-- Two rising lists with the same signs are one. -/
theorem rise_one : ∀ {a b : List UInt8}, a.Pairwise (fun x y => x.toNat < y.toNat) → b.Pairwise (fun x y => x.toNat < y.toNat) → (∀ c, c ∈ a ↔ c ∈ b) → a = b
  | [], [], _, _, _ => rfl
  | [], y :: b, _, _, h => absurd ((h y).2 (List.mem_cons_self ..)) (by simp)
  | x :: a, [], _, _, h => absurd ((h x).1 (List.mem_cons_self ..)) (by simp)
  | x :: a, y :: b, ha, hb, h => by
    have ha2 := List.pairwise_cons.1 ha
    have hb2 := List.pairwise_cons.1 hb
    have hxy : x = y := by
      rcases List.mem_cons.1 ((h x).1 (List.mem_cons_self ..)) with e | h1
      · exact e
      · rcases List.mem_cons.1 ((h y).2 (List.mem_cons_self ..)) with e | h2
        · exact e.symm
        · have := hb2.1 x h1
          have := ha2.1 y h2
          omega
    subst hxy
    congr 1
    refine rise_one ha2.2 hb2.2 fun c => ?_
    constructor
    · intro hc
      rcases List.mem_cons.1 ((h c).1 (List.mem_cons_of_mem _ hc)) with e | h1
      · subst e; exact absurd (ha2.1 c hc) (Nat.lt_irrefl _)
      · exact h1
    · intro hc
      rcases List.mem_cons.1 ((h c).2 (List.mem_cons_of_mem _ hc)) with e | h1
      · subst e; exact absurd (hb2.1 c hc) (Nat.lt_irrefl _)
      · exact h1

/-! ### In memory -/
/-- The cells from place off on hold the signs l. Shut for the walk. -/
def SgAt (w : World) (g off : Nat) (l : List UInt8) : Prop := ∀ j, j < l.length → w.cell? ⟨g, off + j, none⟩ = some (.int .u8 ((l.getD j 0).toNat : Int)) ∧ w.frozen? ⟨g, off + j, none⟩ = false
theorem SgAt.drew {w : World} {g off : Nat} {l : List UInt8} (h : SgAt w g off l) : SgAt w.drew g off l := h
theorem SgAt.set {w : World} {g off : Nat} {l : List UInt8} (h : SgAt w g off l) (k : Nat) (c : UInt8) : SgAt (w.setCell ⟨g, off + k, none⟩ (.int .u8 (c.toNat : Int))) g off (l.set k c) := by
  intro j hj
  rw [List.length_set] at hj
  obtain ⟨h1, h2⟩ := h j hj
  refine ⟨?_, by rw [World.frozen?_setCell]; exact h2⟩
  by_cases e : j = k
  · subst e
    rw [World.cell?_setCell_same _ _ _ h1, List.getD_eq_getElem?_getD, List.getElem?_set_self hj]
    rfl
  · rw [World.cell?_setCell_other _ _ _ _ (fun e' => e (by simp only [Addr.mk.injEq] at e'; omega)), h1, List.getD_eq_getElem?_getD, List.getD_eq_getElem?_getD, List.getElem?_set_ne (Ne.symm e)]
theorem below_cells {B g : Nat} (hg : B ≤ g) : ∀ (vs : List Value) (o : Nat) (w : World), Below B w (w.setCells g o vs)
  | [], _, w => Below.refl _ w
  | v :: vs, o, w => by
    rw [World.setCells]
    exact ((Below.refl B w).setCell (by simpa using hg) v).trans (below_cells hg vs (o + 1) _)
theorem RowB.at {w : World} {base g n c : Nat} {l : List UInt8} (h : RowB w base g n c l) : SgAt w g 0 l := fun j hj => by
  rw [Nat.zero_add]
  exact ⟨h.cell j (by have := h.2; omega), h.1.frozenAt j⟩

/-- What Compact answers: R, rising, the same signs, at the same place. -/
def CpO (base g off c : Nat) (l : List UInt8) (w : World) (e : Ending) (w' : World) : Prop :=
  ∃ R, e = .returned (.slice (some ⟨g, off, none⟩) R.length c) ∧ RzTo l l.length R ∧ (∀ j, j < R.length → w'.cell? ⟨g, off + j, none⟩ = some (.int .u8 ((R.getD j 0).toNat : Int))) ∧ Below base w w'
set_option maxRecDepth 100000 in
set_option maxHeartbeats 4000000 in
theorem compact_any (base g off n c : Nat) (l : List UInt8) (w : World) (hl : l.length = n) (hn : n ≤ 1000) (hnc : n ≤ c) (hg : base ≤ g) (hA : SgAt w g off l) (hs : l.Pairwise (· ≤ ·)) (h0 : 0 < n) :
    Calls Tryd.prog 24 #[.slice (some ⟨g, off, none⟩) n c] w (CpO base g off c l w) := by
  have HA := hid hA
  have HS := hid hs
  have HL := hid hl
  have z0 : ∀ w : World, (zeroValue 5).run Tryd.prog w = .ok (.int .u8 0) w := fun _ => rfl
  have Z := hid z0
  clear hA hs hl z0
  by_cases h2 : n < 2
  · have HE := hid (show RzTo l l.length l from by
      have h1 : l.length = 1 := by have := HL.out; omega
      have := rz_one (l := l) (by omega)
      rw [List.take_of_length_le (by omega)] at this
      rw [h1]; exact this)
    go_enter Tryd.func24, Tryd.ntmps24
    go_wp2
    go_ret
    exact ⟨l, by rw [HL.out]; rfl, HE.out, fun j hj => (HA.out j hj).1, Below.refl _ _⟩
  · go_enter Tryd.func24, Tryd.ntmps24
    go_wp2
    go_loopw [3] (fun x wr => ∃ m : Nat, m + 1 ≤ n ∧ x = .int .i64 ((m + 1 : Nat) : Int) ∧ Hid (RzTo l (m + 1) (l.take (m + 1))) ∧ Hid (SgAt wr g off l) ∧ Below base w wr) (fun x _ => n - (intOf x).toNat)
    case atStart => exact ⟨0, by omega, rfl, hid (rz_one (by have := HL.out; omega)), HA, Below.refl _ _⟩
    case round =>
      obtain ⟨m, hm, rfl, HR, HW, hb⟩ := hrel
      by_cases hlt : m + 1 < n
      · have c1 := (HW.out (m + 1) (by rw [HL.out]; exact hlt)).1
        have c0 := (HW.out m (by rw [HL.out]; omega)).1
        have hmi : ((m : Int) + 1 - 1) = m := by omega
        by_cases hd : l.getD (m + 1) 0 = l.getD m 0
        · have HN := hid (show RzTo l (m + 1 + 1) (l.take (m + 1)) from rz_same HR.out (by rw [HL.out]; exact hlt) hd)
          rw [hd] at c1
          generalize l.getD m 0 = y at c0 c1
          clear HR hd
          go_wp2_with fail
          go_region
          go_wp2_with fail
          have HW0 := hid HW.out.drew
          have hb0 := hb.drew
          clear c0 c1 HW hb
          generalize wr.drew = wz at HW0 hb0 ⊢
          go_loopw [3, 5] (fun x y wr => ∃ (k p : Nat) (q : List UInt8), x = .int .i64 (k : Int) ∧ y = .int .i64 ((p + 1 : Nat) : Int) ∧ k ≤ m + 1 + p ∧ m + 1 + (p + 1) ≤ n ∧ Hid (q.length = n ∧ RzTo l (m + 1 + (p + 1)) (q.take k) ∧ SgAt wr g off q ∧ ∀ i, m + 1 + p ≤ i → q.getD i 0 = l.getD i 0) ∧ Below base w wr) (fun _ y _ => n - (intOf y).toNat)
          case atStart => exact ⟨m + 1, 0, l, by go_num, rfl, by omega, by omega, hid ⟨HL.out, HN.out, HW0.out, fun _ _ => rfl⟩, hb0⟩
          case round =>
            obtain ⟨k, p, q, rfl, rfl, hk, hp, HQ, hb⟩ := hrel
            have hql := HQ.out.1
            have HQL := hid hql
            have ck := HQ.out.2.2.1 k (by omega)
            have cf := ck.2
            have ck := ck.1
            by_cases hlt2 : m + 1 + (p + 1) < n
            · have c1 := (HQ.out.2.2.1 (m + 1 + (p + 1)) (by omega)).1
              have c0 := (HQ.out.2.2.1 (m + 1 + p) (by omega)).1
              rw [HQ.out.2.2.2 _ (by omega), show off + (m + 1 + (p + 1)) = off + (m + 1) + (p + 1) by omega] at c1
              rw [HQ.out.2.2.2 _ (by omega), show off + (m + 1 + p) = off + (m + 1) + p by omega] at c0
              have hpi : ((p : Int) + 1 - 1) = p := by omega
              clear hql
              by_cases hd : l.getD (m + 1 + (p + 1)) 0 = l.getD (m + 1 + p) 0
              · have HN := hid (show RzTo l (m + 1 + (p + 1) + 1) (q.take k) from rz_same HQ.out.2.1 (by rw [HL.out]; exact hlt2) hd)
                rw [hd] at c1
                generalize l.getD (m + 1 + p) 0 = y at c0 c1
                clear hd
                go_wp2_with fail
                go_region
                go_wp2_with fail
                go_roundw
                case rel => exact ⟨k, p + 1, q, rfl, by go_num, by omega, by omega, hid ⟨HQL.out, HN.out, HQ.out.2.2.1.drew, fun i hi => HQ.out.2.2.2 i (by omega)⟩, hb.drew⟩
                case measure => simp [intOf]; omega
              · have HN := hid (show RzTo l (m + 1 + (p + 1) + 1) (q.take k ++ [l.getD (m + 1 + (p + 1)) 0]) from rz_new HS.out HQ.out.2.1 (by rw [HL.out]; exact hlt2) hd)
                have hd2 := byte_apart hd
                have HX := hid (show ∀ i, m + 1 + (p + 1) ≤ i → (q.set k (l.getD (m + 1 + (p + 1)) 0)).getD i 0 = l.getD i 0 from fun i hi => by
                  rw [List.getD_eq_getElem?_getD, List.getElem?_set_ne (by omega), ← List.getD_eq_getElem?_getD]
                  exact HQ.out.2.2.2 i (by omega))
                have HT := hid (show (q.set k (l.getD (m + 1 + (p + 1)) 0)).take (k + 1) = q.take k ++ [l.getD (m + 1 + (p + 1)) 0] from by
                  rw [take_snoc _ (by rw [List.length_set, HQL.out]; omega), List.getElem_set_self, List.take_set_of_le (Nat.le_refl _)])
                generalize l.getD (m + 1 + (p + 1)) 0 = x at c1 hd2 HN HX HT
                generalize l.getD (m + 1 + p) 0 = y at c0 hd2
                have HA2 := hid (show SgAt (wr.drew.setCell ⟨g, off + k, none⟩ (.int .u8 (x.toNat : Int))) g off (q.set k x) from HQ.out.2.2.1.drew.set k x)
                clear hd
                go_wp2_with fail
                go_region
                go_wp2_with fail
                go_roundw
                case rel => exact ⟨k + 1, p + 1, q.set k x, by go_num, by go_num, by omega, by omega, hid ⟨by rw [List.length_set]; exact HQL.out, by rw [HT.out]; exact HN.out, HA2.out, HX.out⟩, hb.drew.setCell (by simpa using hg) _⟩
                case measure => simp [intOf]; omega
            · have hcl : ∀ ty, (Builtin.clear_ #[50] ty #[.slice (some ⟨g, off + k, none⟩) (n - k) (c - k)]).run Tryd.prog wr = .ok (.tuple #[]) (wr.setCells g (off + k) (List.replicate (n - k) (.int .u8 0))) :=
                fun ty => Lib.run_clear_slice wr _ 5 ty _ Tryd.underlying50 Z.out rfl rfl g (off + k) _ _ (by omega) (fun j hj => by rw [show off + k + j = off + (k + j) by omega, (HQ.out.2.2.1 (k + j) (by omega)).1]; rfl) (fun j hj => by rw [show off + k + j = off + (k + j) by omega]; exact (HQ.out.2.2.1 (k + j) (by omega)).2)
              clear ck cf hql
              go_wp2
              go_ret
              have hlen : (q.take k).length = k := by rw [List.length_take, HQL.out]; omega
              refine ⟨q.take k, by rw [hlen]; rfl, ?_, fun j hj => ?_, hb.trans (below_cells hg _ _ _)⟩
              · have := HQ.out.2.1
                rwa [show m + 1 + (p + 1) = l.length by rw [HL.out]; omega] at this
              · rw [hlen] at hj
                rw [World.cell?_setCells_out g _ _ _ _ (fun _ _ => .inl (by simp only; omega)), (HQ.out.2.2.1 j (by rw [HQL.out]; omega)).1, List.getD_eq_getElem?_getD, List.getD_eq_getElem?_getD, List.getElem?_take_of_lt hj]
        · have HN := hid (show RzTo l (m + 1 + 1) (l.take (m + 1 + 1)) from by
            rw [take_more l (by rw [HL.out]; exact hlt)]
            exact rz_new HS.out HR.out (by rw [HL.out]; exact hlt) hd)
          have hd2 := byte_apart hd
          generalize l.getD (m + 1) 0 = x at c1 hd2
          generalize l.getD m 0 = y at c0 hd2
          clear HR hd
          go_wp2_with fail
          go_region
          go_wp2_with fail
          go_roundw
          case rel => exact ⟨m + 1, by omega, by go_num, HN, hid (HW.out.drew), hb.drew⟩
          case measure => simp [intOf]; omega
      · have HE := hid (show RzTo l l.length l from by
          have h1 := HR.out
          rw [List.take_of_length_le (by rw [HL.out]; omega)] at h1
          rw [show l.length = m + 1 by rw [HL.out]; omega]
          exact h1)
        clear HR
        go_wp2
        go_ret
        exact ⟨l, by rw [HL.out]; rfl, HE.out, fun j hj => (HW.out j hj).1, hb⟩
end Go.Proofs.YtdhklkpeepmedaaDoor
