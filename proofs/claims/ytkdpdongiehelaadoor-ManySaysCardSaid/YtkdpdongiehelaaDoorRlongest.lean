/-
  Contract of letterbeckref1.Longest: the place of the longest word with which a text begins, or -1. Conditions: words as they should be, a text of at most 24 bytes.
-/
import Derived.Test.YtkdpdongiehelaaDoorBegl
namespace Go.Proofs.YtkdpdongiehelaaDoor
open Go.RowKit

/-- Of the first i words the longest with which t begins. -/
def LgN (ws : List ByteArray) (t : ByteArray) (i : Nat) (k : Int) : Prop :=
  (k = -1 ∧ ∀ m, m < i → ¬ bs (wat ws m) <+: bs t) ∨ ∃ j, j < i ∧ k = (j : Nat) ∧ bs (wat ws j) <+: bs t ∧ ∀ m, m < i → bs (wat ws m) <+: bs t → (wat ws m).size ≤ (wat ws j).size
theorem lgN_end {ws : List ByteArray} {t : ByteArray} {k : Int} (h : LgN ws t ws.length k) : Lg (wds (wl ws)) (bs t) k := by
  have hm : ∀ p ∈ wds (wl ws), p.2 < ws.length ∧ p.1 = bs (wat ws p.2) := by
    rintro ⟨x, i⟩ hp
    have h1 := wds_mem.1 hp
    have h2 : i < ws.length := by have := (List.getElem?_eq_some_iff.1 h1).1; rw [wl_len] at this; exact this
    rw [wl_get h2] at h1
    exact ⟨h2, by simpa using h1.symm⟩
  rcases h with ⟨rfl, h⟩ | ⟨j, hj, rfl, hp, h⟩
  · exact .inl ⟨rfl, fun p hp' => by rw [(hm p hp').2]; exact h _ (hm p hp').1⟩
  · refine .inr ⟨_, j, wds_mem.2 (wl_get hj), rfl, hp, fun p hp' hpt => ?_⟩
    rw [(hm p hp').2] at hpt ⊢
    rw [bs_len, bs_len]
    exact h _ (hm p hp').1 hpt
theorem lgN_no {ws : List ByteArray} {t : ByteArray} {i : Nat} {k : Int} (h : LgN ws t i k) (hp : ¬ bs (wat ws i) <+: bs t) : LgN ws t (i + 1) k := by
  rcases h with ⟨rfl, h⟩ | ⟨j, hj, rfl, h1, h2⟩
  · refine .inl ⟨rfl, fun m hm => ?_⟩
    by_cases e : m = i
    · subst e; exact hp
    · exact h m (by omega)
  · refine .inr ⟨j, by omega, rfl, h1, fun m hm hmp => ?_⟩
    by_cases e : m = i
    · subst e; exact absurd hmp hp
    · exact h2 m (by omega) hmp
theorem lgN_first {ws : List ByteArray} {t : ByteArray} {i : Nat} (h : LgN ws t i (-1)) (hp : bs (wat ws i) <+: bs t) : LgN ws t (i + 1) (i : Nat) := by
  rcases h with ⟨_, h⟩ | ⟨j, _, e, _⟩
  · refine .inr ⟨i, by omega, rfl, hp, fun m hm hmp => ?_⟩
    by_cases e : m = i
    · subst e; exact Nat.le_refl _
    · exact absurd hmp (h m (by omega))
  · omega
theorem lgN_more {ws : List ByteArray} {t : ByteArray} {i j : Nat} (h : LgN ws t i (j : Nat)) (hp : bs (wat ws i) <+: bs t) (hl : (wat ws j).size < (wat ws i).size) : LgN ws t (i + 1) (i : Nat) := by
  rcases h with ⟨e, _⟩ | ⟨j', hj, e, h1, h2⟩
  · omega
  · obtain rfl : j = j' := by omega
    refine .inr ⟨i, by omega, rfl, hp, fun m hm hmp => ?_⟩
    by_cases e : m = i
    · subst e; exact Nat.le_refl _
    · have := h2 m (by omega) hmp; omega
theorem lgN_less {ws : List ByteArray} {t : ByteArray} {i j : Nat} (h : LgN ws t i (j : Nat)) (hl : (wat ws i).size ≤ (wat ws j).size) : LgN ws t (i + 1) (j : Nat) := by
  rcases h with ⟨e, _⟩ | ⟨j', hj, e, h1, h2⟩
  · omega
  · obtain rfl : j = j' := by omega
    refine .inr ⟨j, by omega, rfl, h1, fun m hm hmp => ?_⟩
    by_cases e : m = i
    · subst e; exact hl
    · exact h2 m (by omega) hmp
theorem lgN_place {ws : List ByteArray} {t : ByteArray} {i : Nat} {k : Int} (h : LgN ws t i k) : k = -1 ∨ ∃ j, j < i ∧ k = (j : Nat) := by
  rcases h with ⟨rfl, _⟩ | ⟨j, hj, rfl, _⟩
  · exact .inl rfl
  · exact .inr ⟨j, hj, rfl⟩

set_option maxHeartbeats 1000000 in
theorem rlong_any (A : Option Addr) (n c : Nat) (ws : List ByteArray) (t : ByteArray) (w : World) (hf : Fine ws) (ht : t.size ≤ 24) (h : IsStrs w w.heap.size A n ws) :
    Calls Tryd.prog 20 #[.slice A n c, .string t] w fun e w' => ∃ k, e = .returned (.int .i64 k) ∧ Lg (wds (wl ws)) (bs t) k ∧ ∃ q, w' = w.drewN q := by
  have hl : ws.length = n := h.1
  have hn : n ≤ 6 := by have := hf.1; omega
  have H := hid h
  have HF := hid hf
  have HL := hid hl
  clear h hf hl
  go_enter Tryd.func20, Tryd.ntmps20
  go_wp2_with fail
  go_loopw [5, 6] (fun b x wr => ∃ (i q : Nat) (k : Int), i ≤ n ∧ b = .int .i64 k ∧ x = .int .i64 i ∧ Hid (LgN ws t i k) ∧ Hid (wr = w.drewN q)) (fun _ x _ => n - (intOf x).toNat)
  case atStart => exact ⟨0, 0, -1, by omega, rfl, rfl, hid (.inl ⟨rfl, fun m hm => by omega⟩), hid rfl⟩
  case round =>
    obtain ⟨i, q, k, hi, rfl, rfl, HK, HQ⟩ := hrel
    by_cases hlt : i < n
    · obtain ⟨g, off, rfl, hg, hcw⟩ := H.out.2 (by omega)
      have hwi : wr.cell? ⟨g, off + i, none⟩ = some (.string (wat ws i)) := by rw [HQ.out]; exact hcw i hlt
      have hsi := (HF.out.2 i (by rw [HL.out]; exact hlt)).1
      have HG := fun W => hid (begins_any t (wat ws i) W (by omega) (by omega))
      by_cases hp : bs (wat ws i) <+: bs t
      · rw [begB_iff.2 hp] at HG
        rcases lgN_place HK.out with rfl | ⟨j, hj, rfl⟩
        · have HK2 := hid (lgN_first HK.out hp)
          clear HK hp hcw
          generalize wat ws i = s at hwi hsi HG
          go_wp2_with fail
          go_quiet ((go_at_call 13; exact Calls.quiet_of_same (HG _).out))
          go_wp2_with fail
          go_roundw
          case rel => exact ⟨i + 1, _, (i : Nat), by omega, rfl, by go_num, HK2, hid (by rw [HQ.out]; exact World.drewN_drewN _ _ _)⟩
          case measure => simp [intOf]; omega
        · have hjn : j < n := by omega
          have hwj : wr.cell? ⟨g, off + j, none⟩ = some (.string (wat ws j)) := by rw [HQ.out]; exact hcw j hjn
          have hsj := (HF.out.2 j (by rw [HL.out]; exact hjn)).1
          have hnl : ¬ ((j : Int) < 0) := by omega
          by_cases hle : (wat ws i).size ≤ (wat ws j).size
          · have HK2 := hid (lgN_less HK.out hle)
            clear HK hp hcw
            generalize wat ws i = s at hwi hsi HG hle
            generalize wat ws j = u at hwj hsj hle
            go_wp2_with fail
            go_quiet ((go_at_call 13; exact Calls.quiet_of_same (HG _).out))
            go_wp2_with fail
            go_roundw
            case rel => exact ⟨i + 1, _, (j : Nat), by omega, rfl, by go_num, HK2, hid (by rw [HQ.out]; exact World.drewN_drewN _ _ _)⟩
            case measure => simp [intOf]; omega
          · have hgt : (wat ws j).size < (wat ws i).size := by omega
            have HK2 := hid (lgN_more HK.out hp hgt)
            clear HK hp hcw hle
            generalize wat ws i = s at hwi hsi HG hgt
            generalize wat ws j = u at hwj hsj hgt
            go_wp2_with fail
            go_quiet ((go_at_call 13; exact Calls.quiet_of_same (HG _).out))
            go_wp2_with fail
            go_roundw
            case rel => exact ⟨i + 1, _, (i : Nat), by omega, rfl, by go_num, HK2, hid (by rw [HQ.out]; exact World.drewN_drewN _ _ _)⟩
            case measure => simp [intOf]; omega
      · rw [begB_no hp] at HG
        have HK2 := hid (lgN_no HK.out hp)
        clear HK hp hcw
        generalize wat ws i = s at hwi hsi HG
        go_wp2_with fail
        go_quiet ((go_at_call 13; exact Calls.quiet_of_same (HG _).out))
        go_wp2_with fail
        go_roundw
        case rel => exact ⟨i + 1, _, k, by omega, rfl, by go_num, HK2, hid (by rw [HQ.out]; exact World.drewN_drewN _ _ _)⟩
        case measure => simp [intOf]; omega
    · have HE := hid (lgN_end (k := k) (by rw [show ws.length = i by have := HL.out; omega]; exact HK.out))
      clear HK
      go_wp2_with fail
      go_ret
      exact ⟨k, rfl, HE.out, q, HQ.out⟩
end Go.Proofs.YtkdpdongiehelaaDoor
