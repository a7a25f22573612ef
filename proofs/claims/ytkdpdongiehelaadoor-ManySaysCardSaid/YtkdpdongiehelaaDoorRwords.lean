/-
  Contract of letterbeckref1.Words: what is wrong with a list of words: the number of the first fault, or 0. Conditions: the row's own sizes.
-/
import Derived.Test.YtkdpdongiehelaaDoorBase
import Derived.Test.YtkdpdongiehelaaDoorStrs
namespace Go.Proofs.YtkdpdongiehelaaDoor
open Go.RowKit

set_option maxHeartbeats 1000000 in
theorem rwords_any (A : Option Addr) (n c : Nat) (ws : List ByteArray) (w : World) (hn : n ≤ maxLen) (hs : ∀ i, i < n → (wat ws i).size ≤ maxLen) (h : IsStrs w w.heap.size A n ws) :
    Calls Tryd.prog 4 #[.slice A n c] w fun e w' => (∃ k, e = .returned (.int .i64 k) ∧ ((k = 0 ∧ Fine ws) ∨ Bad ws k)) ∧ ∃ q, w' = w.drewN q := by
  unfold maxLen at hn
  have hl : ws.length = n := h.1
  by_cases h6 : 6 < n
  · go_enter Tryd.func4, Tryd.ntmps4
    go_wp2
    go_ret
    exact ⟨⟨4, rfl, .inr (.inl ⟨rfl, by omega⟩)⟩, 0, rfl⟩
  · have H := hid h
    have HS := hid hs
    have HL := hid hl
    clear h hs hl
    go_enter Tryd.func4, Tryd.ntmps4
    go_wp2
    go_loopw [3] (fun x wr => ∃ i q : Nat, i ≤ n ∧ x = .int .i64 i ∧ Hid (FineTo ws i) ∧ wr = w.drewN q) (fun x _ => n - (intOf x).toNat)
    case atStart => exact ⟨0, 0, by omega, rfl, hid (fun j hj => by omega), rfl⟩
    case round =>
      obtain ⟨i, q, hi, rfl, HF, rfl⟩ := hrel
      by_cases hlt : i < n
      · obtain ⟨g, off, rfl, hg, hc⟩ := H.out.2 (by omega)
        have hx : w.cell? ⟨g, off + i, none⟩ = some (.string (wat ws i)) := hc i hlt
        have hsz := HS.out i hlt
        have hbad : ∀ k, BadAt ws i k → Bad ws k := fun k hk => .inr ⟨by have := HL.out; omega, i, by have := HL.out; omega, HF.out, hk⟩
        have HB := hid hbad
        have HC := hid hc
        clear hc hbad
        by_cases h8 : 8 < (wat ws i).size
        · have HR := hid (HB.out 4 (.inl ⟨rfl, h8⟩))
          clear HB
          generalize wat ws i = s at hx hsz h8
          unfold maxLen at hsz
          go_wp2
          go_ret
          exact ⟨⟨4, rfl, .inr HR.out⟩, _, rfl⟩
        · by_cases h0 : (wat ws i).size = 0
          · have HR := hid (HB.out 5 (.inr (.inl ⟨rfl, h0⟩)))
            clear HB
            generalize wat ws i = s at hx hsz h0 h8
            have hq : ((s.size : Int) == 0) = true := by simp [h0]
            have h1 : s.size ≤ 8 := by omega
            clear h0 h8
            go_wp2
            go_ret
            exact ⟨⟨5, rfl, .inr HR.out⟩, _, rfl⟩
          · have h1 : (wat ws i).size ≤ 8 := by omega
            have hq : (((wat ws i).size : Int) == 0) = false := beq_eq_false_iff_ne.2 (by omega)
            have h0' : 0 < (wat ws i).size := by omega
            clear h0 h8
            obtain ⟨s, hse⟩ : ∃ z, z = wat ws i := ⟨_, rfl⟩
            have HSE := hid hse
            rw [← hse] at hx hsz h1 hq h0'
            clear hse
            obtain ⟨Q, hQ⟩ : ∃ z, z = q := ⟨_, rfl⟩
            subst hQ
            go_wp2
            go_loopw [4] (fun x wr => ∃ k q : Nat, k ≤ i ∧ x = .int .i64 k ∧ Hid (∀ m, m < k → wat ws m ≠ s) ∧ wr = w.drewN q) (fun x _ => i - (intOf x).toNat)
            case atStart => exact ⟨0, Q, by omega, rfl, hid (fun m hm => by omega), rfl⟩
            case round =>
              obtain ⟨k, q, hk, rfl, HM, rfl⟩ := hrel
              by_cases hlt2 : k < i
              · have hkn : k < n := by omega
                have hxk : w.cell? ⟨g, off + k, none⟩ = some (.string (wat ws k)) := HC.out k hkn
                by_cases he : wat ws k = s
                · have HR := hid (HB.out 6 (.inr (.inr ⟨rfl, by rw [← HSE.out]; exact h1, by rw [← HSE.out]; exact h0', k, hlt2, by rw [← HSE.out]; exact he⟩)))
                  have hsm := same_yes he
                  clear he
                  generalize wat ws k = t at hxk hsm
                  go_wp2
                  go_quiet (fail)
                  go_wp2
                  go_ret
                  exact ⟨⟨6, rfl, .inr HR.out⟩, by first | exact ⟨_, rfl⟩ | (simp only [World.drewN_drewN]; exact ⟨_, rfl⟩)⟩
                · have HM2 := hid (show ∀ m, m < k + 1 → wat ws m ≠ s from fun m hm => by
                    by_cases e : m = k
                    · subst e; exact he
                    · exact HM.out m (by omega))
                  have hsm := same_no he
                  clear he HM
                  generalize wat ws k = t at hxk hsm
                  go_wp2
                  go_quiet (fail)
                  go_wp2
                  go_roundw
                  case rel => exact ⟨k + 1, _, by omega, by go_num, HM2, by first | rfl | rw [World.drewN_drewN]⟩
                  case measure => simp [intOf]; omega
              · have HF2 := hid (fineTo_succ HF.out (by rw [← HSE.out]; exact h1) (by rw [← HSE.out]; exact h0') (fun m hm => by rw [← HSE.out]; exact HM.out m (by omega)))
                clear HM
                go_wp2
                go_roundw
                case rel => exact ⟨i + 1, _, by omega, by go_num, HF2, rfl⟩
                case measure => simp [intOf]; omega
      · have HR := hid (show Fine ws from ⟨by have := HL.out; omega, by rw [show ws.length = i by have := HL.out; omega]; exact HF.out⟩)
        clear HF
        go_wp2
        go_ret
        exact ⟨⟨0, rfl, .inl ⟨rfl, HR.out⟩⟩, _, rfl⟩
theorem rwords_ok (A : Option Addr) (n c : Nat) (ws : List ByteArray) (w : World) (hf : Fine ws) (h : IsStrs w w.heap.size A n ws) :
    Calls Tryd.prog 4 #[.slice A n c] w fun e w' => e = .returned (.int .i64 0) ∧ ∃ q, w' = w.drewN q :=
  (rwords_any A n c ws w (by have := h.1; have := hf.1; unfold maxLen; omega) (fun i hi => by have := hf.2 i (by have := h.1; omega); unfold maxLen; omega) h).mono fun e w' ⟨⟨k, he, hk⟩, hq⟩ =>
    ⟨by rcases hk with ⟨rfl, _⟩ | hk
        · exact he
        · exact (bad_fine hk hf).elim, hq⟩
theorem rwords_bad (A : Option Addr) (n c : Nat) (ws : List ByteArray) (k : Int) (w : World) (hn : n ≤ maxLen) (hs : ∀ i, i < n → (wat ws i).size ≤ maxLen) (hk : Bad ws k) (h : IsStrs w w.heap.size A n ws) :
    Calls Tryd.prog 4 #[.slice A n c] w fun e w' => e = .returned (.int .i64 k) ∧ ∃ q, w' = w.drewN q :=
  (rwords_any A n c ws w hn hs h).mono fun e w' ⟨⟨k', he, hk'⟩, hq⟩ =>
    ⟨by rcases hk' with ⟨_, hf⟩ | hk'
        · exact (bad_fine hk hf).elim
        · rw [he, bad_one hk' hk], hq⟩
end Go.Proofs.YtkdpdongiehelaaDoor
