/-
  Contract of trie.Check: nil where the words are as they should be, else the error of the first fault. Conditions: the sizes that a row itself sets.
-/
import Derived.Test.YtlfncplldppncaaDoorBase
import Derived.Test.YtlfncplldppncaaDoorStrs
import Derived.Test.YtlfncplldppncaaDoorMaps
import Derived.StringKeys
namespace Go.Proofs.YtlfncplldppncaaDoor
open Go.RowKit Go.Maps

/-- The key of a text. -/
def keyS (s : ByteArray) : Lit := .string (bs s)
theorem keyS_key (s : ByteArray) : WideAt.IsKeyLit (keyS s) := trivial
theorem keyS_ne {s t : ByteArray} (h : s ≠ t) : keyS s ≠ keyS t := fun e => h (bs_inj (by simpa [keyS] using e))
/-- The map D tells of every text whether it is among the first k words. -/
def SeenD (D : DataW Unit) (ws : List ByteArray) (k : Nat) : Prop :=
  IsMap D ∧ ∀ s : ByteArray, ((∃ m, m < k ∧ wat ws m = s) → D.atKey (keyS s) (.lit (.bool false)) = .lit (.bool true)) ∧ ((∀ m, m < k → wat ws m ≠ s) → D.atKey (keyS s) (.lit (.bool false)) = .lit (.bool false))
theorem seenD_start (ws : List ByteArray) : SeenD (.map []) ws 0 := ⟨isMap_empty, fun _ => ⟨fun ⟨_, h, _⟩ => by omega, fun _ => rfl⟩⟩
theorem seenD_step {D : DataW Unit} {ws : List ByteArray} {k : Nat} (h : SeenD D ws k) : SeenD (D.put (keyS (wat ws k)) (.lit (.bool true))) ws (k + 1) := by
  refine ⟨h.1.put _ _, fun s => ?_⟩
  by_cases e : wat ws k = s
  · subst e
    refine ⟨fun _ => atKey_put_same h.1 (keyS_key _) _ _, fun hn => absurd rfl (hn k (by omega))⟩
  · rw [atKey_put_other (keyS_ne (Ne.symm e))]
    refine ⟨fun ⟨m, hm, he⟩ => (h.2 s).1 ⟨m, ?_, he⟩, fun hn => (h.2 s).2 fun m hm => hn m (by omega)⟩
    rcases Nat.lt_or_ge m k with h' | h'
    · exact h'
    · obtain rfl : m = k := by omega
      exact absurd he e

theorem str_keyed : Keyed Tryd.prog 9 := string_keyed Tryd.underlying9
theorem zero_bool (w : World) : (zeroValue 4).run Tryd.prog w = .ok (.bool false) w := by kernel_rfl
theorem key_str {s : ByteArray} (h : s.size ≤ maxLen) : keyOf Tryd.prog 9 (.string s) = some (keyS s) := Go.WideMaps.keyOf_string_mk Tryd.underlying9 h
theorem empty_yes {s : ByteArray} (h : s.size = 0) : s.toList.isEmpty = true := by
  have : s.toList.length = s.size := by rw [ByteArray.toList_eq, Array.length_toList]; rfl
  rw [h] at this
  simp [List.length_eq_zero_iff.1 this]
theorem empty_not {s : ByteArray} (h : 0 < s.size) : s.toList.isEmpty = false := by
  have : s.toList.length = s.size := by rw [ByteArray.toList_eq, Array.length_toList]; rfl
  cases e : s.toList with
  | nil => rw [e] at this; simp at this; omega
  | cons => rfl

set_option maxRecDepth 100000 in
set_option maxHeartbeats 1000000 in
theorem tcheck_any (A : Option Addr) (n c : Nat) (ws : List ByteArray) (w : World) (hn : n ≤ maxLen) (hs : ∀ i, i < n → (wat ws i).size ≤ maxLen) (h : IsStrs w w.heap.size A n ws) :
    Calls Tryd.prog 26 #[.slice A n c] w fun e w' =>
      ((e = .returned .nilIface ∧ Fine ws) ∨ ∃ k, e = .returned (.iface 44 (.int .i64 k)) ∧ Bad ws k) ∧ Below w.heap.size w w' := by
  unfold maxLen at hn
  have hl : ws.length = n := h.1
  by_cases h6 : 6 < n
  · go_enter Tryd.func26, Tryd.ntmps26
    go_wp2
    go_ret
    exact ⟨.inr ⟨4, rfl, .inl ⟨rfl, by omega⟩⟩, Below.refl _ _⟩
  · have hmm := @run_makeMap Tryd.prog
    have H := hid h
    have HS := hid hs
    have HL := hid hl
    clear h hs hl
    go_enter Tryd.func26, Tryd.ntmps26
    go_wp2
    go_loopw [13] (fun x wr => ∃ (k : Nat) (D : DataW Unit), k ≤ n ∧ x = .int .i64 k ∧ Hid (FineTo ws k) ∧ wr.ownsMap Tryd.prog 9 (plainElem Tryd.prog 4) w.heap.size k D ∧ Hid (SeenD D ws k) ∧ Below w.heap.size w wr) (fun x _ => n - (intOf x).toNat)
    case atStart => exact ⟨0, _, by omega, rfl, hid (fun j hj => by omega), World.ownsMap_made _ _ _ _, hid (seenD_start ws), (Below.refl _ _).alloc (Nat.le_refl _) _⟩
    case round =>
      obtain ⟨k, D, hk, rfl, HF, hm, HD, hb⟩ := hrel
      by_cases hlt : k < n
      · obtain ⟨g, off, rfl, hg, hc⟩ := H.out.2 (by omega)
        have hx : wr.cell? ⟨g, off + k, none⟩ = some (.string (wat ws k)) := (hb.cell hg).trans (hc k hlt)
        have hsz := HS.out k hlt
        have hbad : ∀ q, BadAt ws k q → Bad ws q := fun q hq => .inr ⟨by have := HL.out; omega, k, by have := HL.out; omega, HF.out, hq⟩
        have HB := hid hbad
        clear hc hbad
        by_cases h8 : 8 < (wat ws k).size
        · have HR := hid (HB.out 4 (.inl ⟨rfl, h8⟩))
          clear HB
          generalize wat ws k = s at hx hsz h8
          unfold maxLen at hsz
          go_wp2
          go_ret
          exact ⟨.inr ⟨4, rfl, HR.out⟩, hb⟩
        · by_cases h0 : (wat ws k).size = 0
          · have HR := hid (HB.out 5 (.inr (.inl ⟨rfl, h0⟩)))
            clear HB
            generalize wat ws k = s at hx hsz h0 h8
            have he := empty_yes h0
            have h1 : s.size ≤ 8 := by omega
            clear h0
            go_wp2
            go_ret
            exact ⟨.inr ⟨5, rfl, HR.out⟩, hb⟩
          · have he := empty_not (s := wat ws k) (by omega)
            have h1 : (wat ws k).size ≤ 8 := by omega
            have hkey := key_str hsz
            by_cases h3 : ∃ m, m < k ∧ wat ws m = wat ws k
            · have HR := hid (HB.out 6 (.inr (.inr ⟨rfl, h1, by omega, h3⟩)))
              have hat := (HD.out.2 (wat ws k)).1 h3
              clear HB h3 HD h0 h8
              generalize wat ws k = s at hx hsz h1 he hkey hat
              go_wp2_with (at_lookup; refine wpList_lookup_bool _ rfl _ _ 51 rfl 9 4 str_keyed Tryd.underlying51 Tryd.underlying4 (zero_bool _) w.heap.size k D rfl hm _ _ rfl hkey true hat ?_)
              go_wp2
              go_ret
              exact ⟨.inr ⟨6, rfl, HR.out⟩, hb⟩
            · have h3' : ∀ m, m < k → wat ws m ≠ wat ws k := fun m hm e => h3 ⟨m, hm, e⟩
              have HR := hid (fineTo_succ HF.out h1 (by omega) h3')
              have hat := (HD.out.2 (wat ws k)).2 h3'
              have HN := hid (seenD_step HD.out)
              clear HB h3 h3' HD h0 h8 HF
              generalize wat ws k = s at hx hsz h1 he hkey hat HN
              go_wp2_with (first
                | (at_lookup; refine wpList_lookup_bool _ rfl _ _ 51 rfl 9 4 str_keyed Tryd.underlying51 Tryd.underlying4 (zero_bool _) w.heap.size k D rfl hm _ _ rfl hkey false hat ?_)
                | (at_mapUpdate; refine wpList_mapUpdate_own _ rfl _ _ _ 51 rfl 9 4 str_keyed Tryd.underlying51 _ w.heap.size k _ rfl hm (by unfold maxLen; omega) _ _ _ rfl rfl hkey _ [] (plainElem_bool Tryd.underlying4 true) ?_; intro w1 hown1 hgrow1)
                | go_in)
              go_roundw
              case rel => exact ⟨k + 1, _, by omega, by go_num, HR, hown1, HN, hb.grown hgrow1 hb.size (fun j hj => by cases hj; exact Nat.le_refl _)⟩
              case measure => simp [intOf]; omega
      · have HR := hid (show Fine ws from ⟨by have := HL.out; omega, by rw [show ws.length = k by have := HL.out; omega]; exact HF.out⟩)
        clear HF HD
        go_wp2
        go_ret
        exact ⟨.inl ⟨rfl, HR.out⟩, hb⟩
theorem tcheck_ok (A : Option Addr) (n c : Nat) (ws : List ByteArray) (w : World) (hf : Fine ws) (h : IsStrs w w.heap.size A n ws) :
    Calls Tryd.prog 26 #[.slice A n c] w fun e w' => e = .returned .nilIface ∧ Below w.heap.size w w' :=
  (tcheck_any A n c ws w (by have := h.1; have := hf.1; unfold maxLen; omega) (fun i hi => by have := hf.2 i (by have := h.1; omega); unfold maxLen; omega) h).mono fun e w' ⟨he, hb⟩ =>
    ⟨he.elim (fun h => h.1) fun ⟨_, _, h⟩ => (bad_fine h hf).elim, hb⟩
theorem tcheck_bad (A : Option Addr) (n c : Nat) (ws : List ByteArray) (k : Int) (w : World) (hn : n ≤ maxLen) (hs : ∀ i, i < n → (wat ws i).size ≤ maxLen) (hk : Bad ws k) (h : IsStrs w w.heap.size A n ws) :
    Calls Tryd.prog 26 #[.slice A n c] w fun e w' => e = .returned (.iface 44 (.int .i64 k)) ∧ Below w.heap.size w w' :=
  (tcheck_any A n c ws w hn hs h).mono fun e w' ⟨he, hb⟩ =>
    ⟨he.elim (fun h => (bad_fine hk h.2).elim) fun ⟨q, he, h⟩ => by rw [he, bad_one h hk], hb⟩
end Go.Proofs.YtlfncplldppncaaDoor
