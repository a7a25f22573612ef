/-
  Contracts of strings.HasSuffix and many.prefixes: whether a text ends with another one; the set of the words' beginnings, in new memory. Conditions: texts of at most 2^40 bytes; words as they should be.
-/
import Derived.Test.YtdkbgikniacekaaMmath
import Derived.Test.YtdkbgikniacekaaTcheck
namespace Go.Proofs.Ytdkbgikniacekaa
open Go.RowKit Go.Maps

theorem bs_cut (s : ByteArray) (a b : Nat) : bs (s.extract a b) = ((bs s).take b).drop a := by
  unfold bs
  rw [ByteArray.data_extract, Array.toList_extract, List.extract_eq_take_drop, List.drop_take]
/-- Does s end with t? -/
def sufB (s t : ByteArray) : Bool := decide (bs t <:+ bs s)
theorem suf_text {s t : ByteArray} (_h : t.size ≤ s.size) : s.extract (s.size - t.size) s.size = t ↔ bs t <:+ bs s := by
  rw [List.suffix_iff_eq_drop, bs_len, bs_len]
  constructor
  · intro e
    conv => lhs; rw [← e]
    rw [bs_cut, List.take_of_length_le (by rw [bs_len]; exact Nat.le_refl _)]
  · intro e
    apply bs_inj
    rw [bs_cut, List.take_of_length_le (by rw [bs_len]; exact Nat.le_refl _), ← e]
set_option maxHeartbeats 400000 in
theorem lite_any (s t : ByteArray) (w : World) (hs : s.size ≤ 1099511627776) (ht : t.size ≤ 1099511627776) :
    Calls Try.prog 70 #[.string s, .string t] w fun e w' => e = .returned (.bool (sufB s t)) ∧ w' = w := by
  by_cases h : t.size ≤ s.size
  · have hcut : ∀ W : World, Sem.run Try.prog (Instr.slice 9 (.string s) (some (.int .i64 ((s.size : Int) - (t.size : Int)))) none none) W = .ok (.string (s.extract (s.size - t.size) s.size)) W := fun W => by
      have := run_slice_string_l (P := Try.prog) W 9 s Try.underlying9 .i64 ((s.size : Int) - (t.size : Int)) (by omega) (by omega)
      rwa [show ((s.size : Int) - (t.size : Int)).toNat = s.size - t.size by omega] at this
    have hd : decide (t.size ≤ s.size) = true := by simpa using h
    by_cases e : s.extract (s.size - t.size) s.size = t
    · have HR : Hid (sufB s t = true) := hid (decide_eq_true ((suf_text h).1 e))
      have hq := same_yes e
      clear e
      generalize s.extract (s.size - t.size) s.size = s1 at hcut hq
      go_enter Try.func70, Try.ntmps70
      go_wp2
      go_ret
      exact ⟨ret_bool HR.out.symm, rfl⟩
    · have HR : Hid (sufB s t = false) := hid (decide_eq_false fun h' => e ((suf_text h).2 h'))
      have hq := same_no e
      clear e
      generalize s.extract (s.size - t.size) s.size = s1 at hcut hq
      go_enter Try.func70, Try.ntmps70
      go_wp2
      go_ret
      exact ⟨ret_bool HR.out.symm, rfl⟩
  · have HR : Hid (sufB s t = false) := hid (decide_eq_false fun h' => by have := h'.length_le; rw [bs_len, bs_len] at this; omega)
    have hd : decide (t.size ≤ s.size) = false := by simpa using h
    go_enter Try.func70, Try.ntmps70
    go_wp2
    go_ret
    exact ⟨ret_bool HR.out.symm, rfl⟩
theorem suffix_any (s t : ByteArray) (w : World) (hs : s.size ≤ 1099511627776) (ht : t.size ≤ 1099511627776) :
    Calls Try.prog 52 #[.string s, .string t] w fun e w' => e = .returned (.bool (sufB s t)) ∧ w' = w := by
  have HC := hid (lite_any s t w hs ht)
  go_enter Try.func52, Try.ntmps52
  go_wp2_with fail
  refine HC.out.mono ?_
  rintro e w1 ⟨rfl, hw⟩
  subst w1
  go_wp2_with fail
  go_ret
  exact ⟨rfl, rfl⟩

/-- The beginnings of the first k words, and those of word k of at most i signs. -/
def PreTo (ws : List ByteArray) (k i : Nat) (p : List UInt8) : Prop := p ≠ [] ∧ ((∃ m, m < k ∧ p <+: bs (wat ws m)) ∨ (p.length ≤ i ∧ p <+: bs (wat ws k)))
def PreD (D : DataW Unit) (S : List UInt8 → Prop) : Prop := IsMap D ∧ ∀ s : ByteArray, Maps.has D (keyS s) = true ↔ S (bs s)
theorem preD_start (ws : List ByteArray) : PreD (.map []) (PreTo ws 0 0) := by
  refine ⟨isMap_empty, fun s => ⟨fun h => ?_, fun h => ?_⟩⟩
  · exact absurd h (by simp [Maps.has])
  · rcases h with ⟨hne, ⟨m, hm, _⟩ | ⟨hl, _⟩⟩
    · omega
    · exact absurd (List.length_eq_zero_iff.1 (by omega)) hne
theorem preTo_succ {ws : List ByteArray} {k i : Nat} (hi : i < (wat ws k).size) (p : List UInt8) : PreTo ws k (i + 1) p ↔ (PreTo ws k i p ∨ p = (bs (wat ws k)).take (i + 1)) := by
  unfold PreTo
  constructor
  · rintro ⟨hne, h | ⟨hl, hp⟩⟩
    · exact .inl ⟨hne, .inl h⟩
    · by_cases e : p.length = i + 1
      · exact .inr (by rw [← e]; exact List.prefix_iff_eq_take.1 hp)
      · exact .inl ⟨hne, .inr ⟨by omega, hp⟩⟩
  · rintro (⟨hne, h | ⟨hl, hp⟩⟩ | rfl)
    · exact ⟨hne, .inl h⟩
    · exact ⟨hne, .inr ⟨by omega, hp⟩⟩
    · have hl : ((bs (wat ws k)).take (i + 1)).length = i + 1 := by rw [List.length_take, bs_len]; omega
      exact ⟨fun e => by rw [e] at hl; simp at hl, .inr ⟨by omega, List.take_prefix _ _⟩⟩
theorem preD_step {D : DataW Unit} {ws : List ByteArray} {k i : Nat} {u : ByteArray} (hi : i < (wat ws k).size) (hu : bs u = (bs (wat ws k)).take (i + 1)) (h : PreD D (PreTo ws k i)) : PreD (D.put (keyS u) (.lit (.bool true))) (PreTo ws k (i + 1)) := by
  refine ⟨h.1.put _ _, fun s => ?_⟩
  rw [preTo_succ hi]
  by_cases e : s = u
  · subst e
    rw [has_put_same h.1 (keyS_key _)]
    simp [hu]
  · rw [has_put_other (keyS_ne e), h.2 s]
    constructor
    · exact .inl
    · rintro (h' | h')
      · exact h'
      · exact absurd (bs_inj (by rw [h', hu])) e
theorem preD_next {D : DataW Unit} {ws : List ByteArray} {k : Nat} (h : PreD D (PreTo ws k (wat ws k).size)) : PreD D (PreTo ws (k + 1) 0) := by
  refine ⟨h.1, fun s => (h.2 s).trans ?_⟩
  unfold PreTo
  constructor
  · rintro ⟨hne, ⟨m, hm, hp⟩ | ⟨_, hp⟩⟩
    · exact ⟨hne, .inl ⟨m, by omega, hp⟩⟩
    · exact ⟨hne, .inl ⟨k, by omega, hp⟩⟩
  · rintro ⟨hne, ⟨m, hm, hp⟩ | ⟨hl, _⟩⟩
    · by_cases e : m = k
      · subst e; exact ⟨hne, .inr ⟨by have := hp.length_le; rwa [bs_len] at this, hp⟩⟩
      · exact ⟨hne, .inl ⟨m, by omega, hp⟩⟩
    · exact absurd (List.length_eq_zero_iff.1 (by omega)) hne
theorem preD_end {D : DataW Unit} {ws : List ByteArray} (h : PreD D (PreTo ws ws.length 0)) : PreD D (IsPre ws) := by
  refine ⟨h.1, fun s => (h.2 s).trans ?_⟩
  unfold PreTo IsPre
  constructor
  · rintro ⟨hne, h | ⟨hl, _⟩⟩
    · exact ⟨hne, h⟩
    · exact absurd (List.length_eq_zero_iff.1 (by omega)) hne
  · rintro ⟨hne, h⟩; exact ⟨hne, .inl h⟩

set_option maxRecDepth 100000 in
set_option maxHeartbeats 1000000 in
theorem prefixes_any (A : Option Addr) (n c : Nat) (ws : List ByteArray) (w : World) (hf : Fine ws) (h : IsStrs w w.heap.size A n ws) :
    Calls Try.prog 51 #[.slice A n c] w fun e w' => e = .returned (.map (some w.heap.size)) ∧ (∃ D, w'.ownsMap Try.prog 9 (plainElem Try.prog 4) w.heap.size 48 D ∧ PreD D (IsPre ws)) ∧ Below w.heap.size w w' := by
  have hl : ws.length = n := h.1
  have hn : n ≤ 6 := by have := hf.1; omega
  have hmm := @run_makeMap Try.prog
  have H := hid h
  have HL := hid hl
  have HF := hid hf
  clear h hl hf
  go_enter Try.func51, Try.ntmps51
  go_wp2
  go_loopw [10] (fun x wr => ∃ (k : Nat) (D : DataW Unit), k ≤ n ∧ x = .int .i64 k ∧ wr.ownsMap Try.prog 9 (plainElem Try.prog 4) w.heap.size (8 * k) D ∧ Hid (PreD D (PreTo ws k 0)) ∧ Below w.heap.size w wr) (fun x _ => n - (intOf x).toNat)
  case atStart => exact ⟨0, _, by omega, rfl, World.ownsMap_made _ _ _ _, hid (preD_start ws), (Below.refl _ _).alloc (Nat.le_refl _) _⟩
  case round =>
    obtain ⟨k, D, hk, rfl, hm, HD, hb⟩ := hrel
    by_cases hlt : k < n
    · obtain ⟨g, off, rfl, hg, hc⟩ := H.out.2 (by omega)
      have hx : wr.cell? ⟨g, off + k, none⟩ = some (.string (wat ws k)) := (hb.cell hg).trans (hc k hlt)
      have hs8 := (HF.out.2 k (by rw [HL.out]; exact hlt)).1
      clear hc
      obtain ⟨s, hse⟩ : ∃ z, z = wat ws k := ⟨_, rfl⟩
      have HSE := hid hse
      rw [← hse] at hx hs8
      clear hse
      obtain ⟨wz, hwz⟩ : ∃ z, z = wr := ⟨_, rfl⟩
      subst hwz
      go_wp2
      go_loopw [16] (fun x wr => ∃ (i : Nat) (D : DataW Unit), i ≤ s.size ∧ x = .int .i64 i ∧ wr.ownsMap Try.prog 9 (plainElem Try.prog 4) w.heap.size (8 * k + i) D ∧ Hid (PreD D (PreTo ws k i)) ∧ Below w.heap.size w wr) (fun x _ => s.size - (intOf x).toNat)
      case atStart => exact ⟨0, D, by omega, rfl, hm, HD, hb⟩
      case round =>
        obtain ⟨i, D, hi, rfl, hm, HD, hb⟩ := hrel
        by_cases hlt2 : i < s.size
        · have hcut : ∀ W : World, Sem.run Try.prog (Instr.slice 9 (.string s) none (some (.int .i64 ((i : Int) + 1))) none) W = .ok (.string (s.extract 0 (i + 1))) W := fun W =>
            run_slice_string_h W 9 s Try.underlying9 .i64 ((i : Int) + 1) (by omega) (by omega)
          have hsz : (s.extract 0 (i + 1)).size ≤ maxLen := by rw [ByteArray.size_extract]; unfold maxLen; omega
          have hkey := key_str hsz
          have HN := hid (preD_step (u := s.extract 0 (i + 1)) (by rw [← HSE.out]; exact hlt2) (by rw [← HSE.out, bs_cut]; simp) HD.out)
          clear HD hsz
          generalize s.extract 0 (i + 1) = u at hcut hkey HN
          go_wp2_with (first
            | (at_mapUpdate; refine wpList_mapUpdate_own _ rfl _ _ _ 80 rfl 9 4 str_keyed Try.underlying80 _ w.heap.size (8 * k + i) _ rfl hm (by unfold maxLen; omega) _ _ _ rfl rfl hkey _ [] (plainElem_bool Try.underlying4 true) ?_; intro w1 hown1 hgrow1)
            | go_in)
          go_roundw
          case rel => exact ⟨i + 1, _, by omega, by go_num, hown1, HN, hb.grown hgrow1 hb.size (fun j hj => by cases hj; exact Nat.le_refl _)⟩
          case measure => simp [intOf]; omega
        · have HN := hid (preD_next (D := D) (ws := ws) (k := k) (by rw [← HSE.out, show s.size = i by omega]; exact HD.out))
          have hm2 := hm.mono (show 8 * k + i ≤ 8 * (k + 1) by omega)
          clear HD hm
          go_wp2
          go_roundw
          case rel => exact ⟨k + 1, D, by omega, by go_num, hm2, HN, hb⟩
          case measure => simp [intOf]; omega
    · have HE := hid (preD_end (D := D) (ws := ws) (by rw [show ws.length = k by have := HL.out; omega]; exact HD.out))
      have hm2 := hid (hm.mono (show 8 * k ≤ 48 by omega))
      clear HD hm
      go_wp2
      go_ret
      exact ⟨rfl, ⟨D, hm2.out, HE.out⟩, hb⟩
end Go.Proofs.Ytdkbgikniacekaa
