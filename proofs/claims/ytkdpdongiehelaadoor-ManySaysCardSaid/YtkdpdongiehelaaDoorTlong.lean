/-
  Contract of trie.Longest: the place of the longest word with which the text begins, or -1. Conditions: words as they should be and a text of at most 24 bytes, or the error that comes first.
-/
import Derived.Test.YtkdpdongiehelaaDoorTbuild
namespace Go.Proofs.YtkdpdongiehelaaDoor
open Go.RowKit Go.Maps

/-- The longest word of at most i signs with which the text t begins. -/
def LgTo (W : List Wd) (t : List UInt8) (i : Nat) (k : Int) : Prop :=
  (k = -1 ∧ ∀ p ∈ W, p.1 <+: t → ¬ p.1.length ≤ i) ∨ ∃ x j, (x, j) ∈ W ∧ k = (j : Nat) ∧ x <+: t ∧ x.length ≤ i ∧ ∀ p ∈ W, p.1 <+: t → p.1.length ≤ i → p.1.length ≤ x.length
theorem lgTo_start {W : List Wd} (h : ∀ p ∈ W, 0 < p.1.length) (t : List UInt8) : LgTo W t 0 (-1) := .inl ⟨rfl, fun p hp _ hl => by have := h p hp; omega⟩
theorem lgTo_end {W : List Wd} {t : List UInt8} {i : Nat} {k : Int} (h : LgTo W t i k) (hi : ∀ p ∈ W, p.1 <+: t → p.1.length ≤ i) : Lg W t k := by
  rcases h with ⟨rfl, h⟩ | ⟨x, j, hj, rfl, hx, _, hm⟩
  · exact .inl ⟨rfl, fun p hp hpt => h p hp hpt (hi p hp hpt)⟩
  · exact .inr ⟨x, j, hj, rfl, hx, fun p hp hpt => hm p hp hpt (hi p hp hpt)⟩
theorem lg_full {W : List Wd} {t : List UInt8} {k : Int} (h : LgTo W t t.length k) : Lg W t k := lgTo_end h fun _ _ hp => hp.length_le
theorem lg_stop {W : List Wd} {t : List UInt8} {i : Nat} {k : Int} (h : LgTo W t i k) (hi : i < t.length) (hn : nodeB W (t.take (i + 1)) = false) : Lg W t k := by
  refine lgTo_end h fun p hp hpt => ?_
  have hs : subs (t.take (i + 1)) W = [] := by
    simp only [nodeB, Bool.or_eq_false_iff, Bool.not_eq_false', List.isEmpty_iff] at hn
    exact hn.2
  rcases Nat.lt_or_ge i p.1.length with h' | h'
  · exact absurd (List.prefix_of_prefix_length_le (List.take_prefix _ _) hpt (by rw [List.length_take]; omega)) (subs_empty.1 hs p hp)
  · exact h'
theorem lgTo_yes {W : List Wd} {t : List UInt8} {i : Nat} {u : Int} (hi : i < t.length) (hu : wd (subs (t.take (i + 1)) W) = u) (hn : u ≠ -1) : LgTo W t (i + 1) u := by
  rcases wd_or (subs (t.take (i + 1)) W) with h | ⟨j, hj, e⟩
  · exact absurd (hu.symm.trans h) hn
  · have hj' := mem_subs.1 hj
    rw [List.append_nil] at hj'
    refine .inr ⟨_, j, hj', by rw [← hu, e], List.take_prefix _ _, by rw [List.length_take]; omega, fun p _ _ hl => ?_⟩
    rw [List.length_take]; omega
theorem lgTo_no {W : List Wd} (hO : Once W) {t : List UInt8} {i : Nat} {k : Int} (h : LgTo W t i k) (hu : wd (subs (t.take (i + 1)) W) = -1) : LgTo W t (i + 1) k := by
  have hno : ∀ p ∈ W, p.1 <+: t → p.1.length ≤ i + 1 → p.1.length ≤ i := by
    rintro ⟨x, j⟩ hp hpt hl
    rcases Nat.lt_or_ge i x.length with h' | h'
    · exfalso
      have hx : x = t.take (i + 1) := by have := pre_take hpt; simp at this hl; rw [show x.length = i + 1 by omega] at this; exact this
      have hm : ([], j) ∈ subs (t.take (i + 1)) W := mem_subs.2 (by rw [List.append_nil, ← hx]; exact hp)
      have := wd_mem (once_subs hO) hm
      rw [hu] at this; omega
    · exact h'
  rcases h with ⟨rfl, h⟩ | ⟨x, j, hj, rfl, hx, hl, hm⟩
  · exact .inl ⟨rfl, fun p hp hpt hl => h p hp hpt (hno p hp hpt hl)⟩
  · exact .inr ⟨x, j, hj, rfl, hx, by omega, fun p hp hpt hl' => hm p hp hpt (hno p hp hpt hl')⟩
theorem lgTo_small {W : List Wd} {t : List UInt8} {i : Nat} {k : Int} (h : LgTo W t i k) (hW : ∀ p ∈ W, p.2 < 6) : -1 ≤ k ∧ k < 6 := by
  rcases h with ⟨rfl, _⟩ | ⟨x, j, hj, rfl, _⟩
  · omega
  · have := hW _ hj; simp at this; omega

/-- On the way down: the node of the text's first i signs. -/
def At (wr : World) (W : List Wd) (t : List UInt8) (i b : Nat) : Prop :=
  ∃ base top N B C, Tr wr base top N (nodeB W) (fun p => wd (subs p W)) B C ∧ nodeB W (t.take i) = true ∧ B (t.take i) = b
theorem at_start {w : World} {base N r : Nat} {W : List Wd} (h : TrW w base N W r) (t : List UInt8) : At w W t 0 r := by
  obtain ⟨top, B, C, h, hr⟩ := h
  exact ⟨base, top, N, B, C, h, rfl, by simpa using hr⟩
theorem At.drewN {wr : World} {W : List Wd} {t : List UInt8} {i b : Nat} (h : At wr W t i b) (q : Nat) : At (wr.drewN q) W t i b := by
  obtain ⟨base, top, N, B, C, h, hn, hb⟩ := h
  exact ⟨base, top, N, B, C, h.below (below_drewN (Below.refl _ _) q), hn, hb⟩
theorem at_yes {wr : World} {W : List Wd} {t : List UInt8} {i b : Nat} {c : UInt8} (h : At wr W t i b) (hc : t.take (i + 1) = t.take i ++ [c]) (hn : nodeB W (t.take (i + 1)) = true) :
    ∃ m b', wr.cell? ⟨b, 1, none⟩ = some (.map (some m)) ∧ (∀ q, (Instr.lookup 68 (.map (some m)) (.int .u8 (c.toNat : Int)) true).run Tryd.prog (wr.drewN q) = .ok (.tuple #[.pointer (some ⟨b', 0, none⟩), .bool true]) (wr.drewN q)) ∧
      wr.cell? ⟨b', 0, none⟩ = some (.int .i64 (wd (subs (t.take (i + 1)) W))) ∧ ∀ q, At (wr.drewN q) W t (i + 1) b' := by
  obtain ⟨base, top, N, B, C, h, hp, hb⟩ := h
  obtain ⟨D, hm, hD⟩ := h.map _ hp
  have hS : nodeB W (t.take i ++ [c]) = true := by rw [← hc]; exact hn
  refine ⟨C (t.take i), B (t.take (i + 1)), by rw [← hb]; exact h.c1 hp, fun q => ?_, h.c0 hn, fun q => ⟨base, top, N, B, C, h.below (below_drewN (Below.refl _ _) q), hn, rfl⟩⟩
  have hm' : (wr.drewN q).ownsMap Tryd.prog 5 ptrE (C (t.take i)) N D := hm
  refine look_ptr_yes hm' byte_keyed Tryd.underlying68 (zero_ptr _) (key_byte _) (fun z => ?_) (by rw [(hD.2 _).1]; exact hS)
  rw [(hD.2 _).2 hS z, hc]
theorem at_no {wr : World} {W : List Wd} {t : List UInt8} {i b : Nat} {c : UInt8} (h : At wr W t i b) (hc : t.take (i + 1) = t.take i ++ [c]) (hn : nodeB W (t.take (i + 1)) = false) :
    ∃ m, wr.cell? ⟨b, 1, none⟩ = some (.map (some m)) ∧ (∀ q, (Instr.lookup 68 (.map (some m)) (.int .u8 (c.toNat : Int)) true).run Tryd.prog (wr.drewN q) = .ok (.tuple #[.pointer none, .bool false]) (wr.drewN q)) := by
  obtain ⟨base, top, N, B, C, h, hp, hb⟩ := h
  obtain ⟨D, hm, hD⟩ := h.map _ hp
  refine ⟨C (t.take i), by rw [← hb]; exact h.c1 hp, fun q => ?_⟩
  have hm' : (wr.drewN q).ownsMap Tryd.prog 5 ptrE (C (t.take i)) N D := hm
  exact look_ptr_none hm' byte_keyed Tryd.underlying68 (zero_ptr _) (key_byte _) (by rw [(hD.2 _).1, ← hc]; exact hn)
theorem wds_small {ws : List ByteArray} (hf : Fine ws) : ∀ p ∈ wds (wl ws), p.2 < 6 := by
  rintro ⟨x, i⟩ hp
  have := (List.getElem?_eq_some_iff.1 (wds_mem.1 hp)).1
  rw [wl_len] at this
  have := hf.1
  simp; omega
theorem fine_pos {ws : List ByteArray} (hf : Fine ws) : ∀ p ∈ wds (wl ws), 0 < p.1.length := by
  rintro ⟨x, i⟩ hq
  exact ((fine_wl hf).2 x (List.mem_iff_getElem?.2 ⟨i, wds_mem.1 hq⟩)).2

set_option maxRecDepth 100000 in
set_option maxHeartbeats 1000000 in
theorem long_ok (A : Option Addr) (n c : Nat) (ws : List ByteArray) (t : ByteArray) (w : World) (hf : Fine ws) (ht : t.size ≤ 24) (h : IsStrs w w.heap.size A n ws) :
    Calls Tryd.prog 21 #[.slice A n c, .string t] w fun e w' => ∃ k, e = .returned (.tuple #[.int .i64 k, .nilIface]) ∧ Lg (wds (wl ws)) (bs t) k ∧ Below w.heap.size w w' := by
  have HC := hid (build_ok A n c ws w hf h)
  have HO := hid (wds_once.2 (fine_wl hf).1)
  have HS := hid (wds_small hf)
  have HP := hid (fine_pos hf)
  clear h hf
  go_enter Tryd.func21, Tryd.ntmps21
  go_wp2_with (go_at_call 30; refine HC.out.mono ?_; rintro e w1 ⟨r, base, rfl, ht, hbase, hb1⟩; have HT := hid (at_start ht (bs t)); clear ht)
  clear HC
  obtain ⟨W, hW⟩ : ∃ W, W = wds (wl ws) := ⟨_, rfl⟩
  rw [← hW] at HT HO HS HP
  have HW := hid hW
  clear hW
  go_loopw [6, 8, 26] (fun p v x wr => ∃ (i b : Nat) (k : Int), i ≤ t.size ∧ p = .pointer (some ⟨b, 0, none⟩) ∧ v = .int .i64 k ∧ x = .int .i64 i ∧ Hid (LgTo W (bs t) i k) ∧ Hid (At wr W (bs t) i b) ∧ Below w.heap.size w wr) (fun _ _ x _ => t.size - (intOf x).toNat)
  case atStart => exact ⟨0, r, -1, by omega, rfl, rfl, rfl, hid (lgTo_start HP.out _), HT, hb1⟩
  case round =>
    obtain ⟨i, b, k, hi, rfl, rfl, rfl, HL, HA, hb⟩ := hrel
    by_cases hlt : i < t.size
    · have HTK := hid (bs_take_succ t i hlt)
      have HIL := hid (show i < (bs t).length by rw [bs_len]; exact hlt)
      by_cases hn : nodeB W ((bs t).take (i + 1)) = true
      · obtain ⟨m, b', hc, hlk, hc2, hnext⟩ := at_yes HA.out HTK.out hn
        have HNX := hid hnext
        generalize hu : wd (subs ((bs t).take (i + 1)) W) = u at hc2
        by_cases hu1 : u = -1
        · have HL2 := hid (lgTo_no HO.out HL.out (hu.trans hu1))
          subst hu1
          clear hnext hn HA HTK HIL HL hu
          go_wp2_with fail
          go_quiet (fail)
          go_wp2_with fail
          go_roundw
          case rel => exact ⟨i + 1, b', k, by omega, rfl, rfl, by go_num, HL2, hid (HNX.out _), below_drewN hb _⟩
          case measure => simp [intOf]; omega
        · have HL2 := hid (lgTo_yes HIL.out hu hu1)
          have hq : (u != -1) = true := by simpa using hu1
          clear hnext hn HA HTK HIL HL hu hu1
          go_wp2_with fail
          go_quiet (fail)
          go_wp2_with fail
          go_roundw
          case rel => exact ⟨i + 1, b', u, by omega, rfl, rfl, by go_num, HL2, hid (HNX.out _), below_drewN hb _⟩
          case measure => simp [intOf]; omega
      · have hn := Bool.eq_false_iff.2 hn
        obtain ⟨m, hc, hlk⟩ := at_no HA.out HTK.out hn
        have HL2 := hid (lg_stop HL.out HIL.out hn)
        clear hn HA HTK HIL HL
        go_wp2_with fail
        go_quiet (fail)
        go_wp2_with fail
        go_ret2
        exact ⟨k, rfl, by rw [← HW.out]; exact HL2.out, below_drewN hb _⟩
    · have HL2 := hid (lg_full (W := W) (t := bs t) (k := k) (by rw [bs_len, show t.size = i by omega]; exact HL.out))
      clear HA HL
      go_wp2_with fail
      go_ret2
      exact ⟨k, rfl, by rw [← HW.out]; exact HL2.out, hb⟩
theorem long_full (A : Option Addr) (n c : Nat) (ws : List ByteArray) (t : ByteArray) (w : World) (hf : Fine ws) (ht : 24 < t.size) (htm : t.size ≤ maxLen) (h : IsStrs w w.heap.size A n ws) :
    Calls Tryd.prog 21 #[.slice A n c, .string t] w fun e w' => e = .returned (.tuple #[.int .i64 0, .iface 49 (.int .i64 4)]) ∧ Below w.heap.size w w' := by
  unfold maxLen at htm
  have HC := hid (build_ok A n c ws w hf h)
  clear h hf
  go_enter Tryd.func21, Tryd.ntmps21
  go_wp2_with (go_at_call 30; refine HC.out.mono ?_; rintro e w1 ⟨r, base, rfl, _, _, hb1⟩)
  go_wp2_with fail
  go_ret2
  exact ⟨rfl, hb1⟩
theorem long_bad (A : Option Addr) (n c : Nat) (ws : List ByteArray) (t : ByteArray) (k : Int) (w : World) (hn : n ≤ maxLen) (hs : ∀ i, i < n → (wat ws i).size ≤ maxLen) (hk : Bad ws k) (h : IsStrs w w.heap.size A n ws) :
    Calls Tryd.prog 21 #[.slice A n c, .string t] w fun e w' => e = .returned (.tuple #[.int .i64 0, .iface 49 (.int .i64 k)]) ∧ Below w.heap.size w w' := by
  have HC := hid (build_bad A n c ws k w hn hs hk h)
  clear h hs hk hn
  go_enter Tryd.func21, Tryd.ntmps21
  go_wp2_with (go_at_call 30; refine HC.out.mono ?_; rintro e w1 ⟨rfl, hb1⟩)
  go_wp2_with fail
  go_ret2
  exact ⟨rfl, hb1⟩
end Go.Proofs.YtkdpdongiehelaaDoor
