/-
  Contracts of trie.newNode, (*node).insert and trie.build: the trie of the words in new memory, the old one left alone. Conditions: words as they should be, or the error of the first fault.
-/
import Derived.Test.YtdkbgikniacekaaTrep
import Derived.Test.YtdkbgikniacekaaTcheck
import Derived.StillTailTactics
namespace Go.Proofs.Ytdkbgikniacekaa
open Go.RowKit Go.Maps

theorem byte_keyed : Keyed Try.prog 5 := int_keyed Try.underlying5
theorem zero_ptr (w : World) : (zeroValue 68).run Try.prog w = .ok (.pointer none) w := by kernel_rfl
theorem key_byte (c : UInt8) : keyOf Try.prog 5 (.int .u8 (c.toNat : Int)) = some (keyL c) := keyOf_int_mk Try.underlying5 (keyL_wf c)

/-- The world behind newNode: the map's block, then the node's. -/
def newW (w : World) : World := (w.alloc (.map #[] 0)).alloc (.cells #[.int .i64 (-1), .map (some w.heap.size)] 89)
theorem newW_size (w : World) : (newW w).heap.size = w.heap.size + 2 := by simp [newW]
theorem newW_below (w : World) : Below w.heap.size w (newW w) := ((Below.refl _ _).alloc (Nat.le_refl _) _).alloc (by simp) _
theorem newW_map (w : World) : (newW w).ownsMap Try.prog 5 ptrE w.heap.size 0 (.map []) := (World.ownsMap_made w _ _ _).alloc _
theorem newW_node (w : World) : (newW w).heap[w.heap.size + 1]? = some (.cells #[.int .i64 (-1), .map (some w.heap.size)] 89 (0, 0)) := by
  have := heap_alloc_new (w.alloc (.map #[] 0)) (.cells #[.int .i64 (-1), .map (some w.heap.size)] 89)
  rwa [show (w.alloc (.map #[] 0)).heap.size = w.heap.size + 1 by simp] at this

theorem new_any (w : World) : Calls Try.prog 56 #[] w fun e w' => e = .returned (.pointer (some ⟨w.heap.size + 1, 0, none⟩)) ∧ w' = newW w := by
  have hmm := @run_makeMap Try.prog
  go_enter Try.func56, Try.ntmps56
  go_wp2
  go_ret
  exact ⟨by simp, rfl⟩

theorem trw_new (w : World) : TrW (newW w) w.heap.size 0 [] (w.heap.size + 1) := by
  have hS : ∀ p, nodeB [] p = true → p = [] := fun p h => by
    cases p with
    | nil => rfl
    | cons c p => simp [nodeB, subs_nil] at h
  refine ⟨w.heap.size + 2, fun _ => w.heap.size + 1, fun _ => w.heap.size, ?_, rfl⟩
  refine { root := rfl, closed := fun p c h => nodeB_closed h, cell := ?_, map := ?_, inj := ?_, injC := ?_, lo := ?_, hi := ?_, le := by rw [newW_size]; exact Nat.le_refl _ }
  · intro p hp
    obtain rfl := hS p hp
    exact newW_node w
  · intro p hp
    obtain rfl := hS p hp
    refine ⟨_, newW_map w, isMap_empty, fun c => ?_⟩
    have : nodeB [] ([] ++ [c]) = false := by simp [nodeB, subs_nil]
    exact ⟨this.symm, fun h => absurd (this.symm.trans h) (by simp)⟩
  · intro p q hp hq _
    rw [hS p hp, hS q hq]
  · intro p q hp hq _
    rw [hS p hp, hS q hq]
  · intro p _; omega
  · intro p _; omega

/-- While a word is put in: k signs are done. -/
def InsAt (w wr : World) (base N r : Nat) (W : List Wd) (x : List UInt8) (k b : Nat) : Prop :=
  ∃ top B C, Tr wr base top (N + k) (sk W x k) (fun p => wd (subs p W)) B C ∧ B [] = r ∧ B (x.take k) = b ∧ Below base w wr
theorem ins_start {w : World} {base N r : Nat} {W : List Wd} (h : TrW w base N W r) (x : List UInt8) : InsAt w w base N r W x 0 r := by
  obtain ⟨top, B, C, h, hr⟩ := h
  exact ⟨top, B, C, by rw [sk_zero]; exact h, hr, by simpa using hr, Below.refl _ _⟩
theorem InsAt.drewN {w wr : World} {base N r k b : Nat} {W : List Wd} {x : List UInt8} (h : InsAt w wr base N r W x k b) (q : Nat) : InsAt w (wr.drewN q) base N r W x k b := by
  obtain ⟨top, B, C, h, hr, hb, hB⟩ := h
  exact ⟨top, B, C, h.below (below_drewN (Below.refl _ _) q), hr, hb, below_drewN hB q⟩
theorem ins_end {w wr : World} {base N r b : Nat} {W : List Wd} {x : List UInt8} {i : Nat} (h : InsAt w wr base N r W x x.length b) (hx : ∀ j, (x, j) ∉ W) :
    wr.cell? ⟨b, 0, none⟩ = some (.int .i64 (wd (subs x W))) ∧ wr.frozen? ⟨b, 0, none⟩ = false ∧ TrW (wr.setCell ⟨b, 0, none⟩ (.int .i64 (i : Int))) base (N + x.length) (W ++ [(x, i)]) r ∧ Below base w (wr.setCell ⟨b, 0, none⟩ (.int .i64 (i : Int))) := by
  obtain ⟨top, B, C, h, hr, hb, hB⟩ := h
  rw [List.take_length] at hb
  have hp : sk W x x.length x = true := by have := sk_at W (x := x) (k := x.length); rwa [List.take_length] at this
  have h2 := h.word hp (i : Int)
  rw [sk_end W x i, wd_set hx, hb] at h2
  refine ⟨by rw [← hb]; exact h.c0 hp, by rw [← hb]; exact h.f0 hp, ⟨top, B, C, h2, hr⟩, hB.setCell (by rw [← hb]; exact (h.lo _ hp).1) _⟩
/-- The node is there already. -/
theorem ins_yes {w wr : World} {base N r b : Nat} {W : List Wd} {x : List UInt8} {c : UInt8} {k : Nat} (hk : k < x.length) (hc : x.take (k + 1) = x.take k ++ [c]) (h : InsAt w wr base N r W x k b) (hn : nodeB W (x.take (k + 1)) = true) :
    ∃ m b', wr.cell? ⟨b, 1, none⟩ = some (.map (some m)) ∧ (∀ q, (Instr.lookup 87 (.map (some m)) (.int .u8 (c.toNat : Int)) true).run Try.prog (wr.drewN q) = .ok (.tuple #[.pointer (some ⟨b', 0, none⟩), .bool true]) (wr.drewN q)) ∧
      ∀ q, InsAt w (wr.drewN q) base N r W x (k + 1) b' := by
  obtain ⟨top, B, C, h, hr, hb, hB⟩ := h
  have hp := sk_at W (x := x) (k := k)
  obtain ⟨D, hm, hD⟩ := h.map _ hp
  have hS : sk W x k (x.take k ++ [c]) = true := by rw [← hc, sk_next W hk]; exact hn
  refine ⟨C (x.take k), B (x.take (k + 1)), by rw [← hb]; exact h.c1 hp, fun q => ?_, fun q => ⟨top, B, C, ?_, hr, rfl, below_drewN hB q⟩⟩
  · have hm' : (wr.drewN q).ownsMap Try.prog 5 ptrE (C (x.take k)) (N + k) D := hm
    refine look_ptr_yes hm' byte_keyed Try.underlying87 (zero_ptr _) (key_byte _) (fun z => ?_) (by rw [(hD.2 _).1]; exact hS)
    rw [(hD.2 _).2 hS z, hc]
  · have e : sk W x (k + 1) = sk W x k := by
      rw [sk_succ W hk]
      funext q
      by_cases e : q = x.take (k + 1)
      · subst e; rw [hc, hS]; rfl
      · simp [e]
    rw [e]
    exact (h.below (w' := wr.drewN q) (below_drewN (Below.refl _ _) q)).mono (by omega)
/-- The node is new. -/
theorem ins_no {w wr : World} {base N r b : Nat} {W : List Wd} {x : List UInt8} {c : UInt8} {k : Nat} (hk : k < x.length) (hc : x.take (k + 1) = x.take k ++ [c]) (hbase : base ≤ wr.heap.size) (h : InsAt w wr base N r W x k b) (hn : nodeB W (x.take (k + 1)) = false) :
    ∃ m, wr.cell? ⟨b, 1, none⟩ = some (.map (some m)) ∧ m < wr.heap.size ∧ b < wr.heap.size ∧ (∀ q, (Instr.lookup 87 (.map (some m)) (.int .u8 (c.toNat : Int)) true).run Try.prog (wr.drewN q) = .ok (.tuple #[.pointer none, .bool false]) (wr.drewN q)) ∧
      ∃ D, wr.ownsMap Try.prog 5 ptrE m (N + k) D ∧ ∀ w1 w2 b' m', Below wr.heap.size wr w1 → wr.heap.size ≤ b' → wr.heap.size ≤ m' → w1.ownsMap Try.prog 5 ptrE m' 0 (.map []) →
        w1.heap[b']? = some (.cells #[.int .i64 (-1), .map (some m')] 89 (0, 0)) → w1.grownBy w2 (some m) → w2.ownsMap Try.prog 5 ptrE m (N + k + 1) (D.put (keyL c) (.lit (.int .i64 (b' : Int)))) → InsAt w w2 base N r W x (k + 1) b' := by
  obtain ⟨top, B, C, h, hr, hb, hB⟩ := h
  have hp := sk_at W (x := x) (k := k)
  obtain ⟨D, hm, hD⟩ := h.map _ hp
  have hS : sk W x k (x.take k ++ [c]) = false := by rw [← hc, sk_next W hk]; exact hn
  have hle := h.le
  have hhi := h.hi _ hp
  have hX : wd (subs (x.take k ++ [c]) W) = -1 := by rw [← hc]; exact wd_fresh hn
  refine ⟨C (x.take k), by rw [← hb]; exact h.c1 hp, by omega, by omega, fun q => ?_, D, hm, ?_⟩
  · have hm' : (wr.drewN q).ownsMap Try.prog 5 ptrE (C (x.take k)) (N + k) D := hm
    exact look_ptr_none hm' byte_keyed Try.underlying87 (zero_ptr _) (key_byte _) (by rw [(hD.2 _).1]; exact hS)
  · intro w1 w2 b' m' h1 hb' hm' hm1 hbn hg hown
    have h2 := h.add hp hS hD h1 hbase hb' hm' hm1 (by rw [hX]; exact hbn) hg hown
    rw [← hc, ← sk_succ W hk] at h2
    refine ⟨_, _, _, h2, ?_, by simp, (hB.trans (h1.mono hbase)).grown hg ?_ ?_⟩
    · have : ([] : List UInt8) ≠ x.take (k + 1) := fun e => by have := congrArg List.length e; rw [List.length_take, List.length_nil] at this; omega
      simp only [if_neg this]; exact hr
    · have := h1.size; omega
    · intro j hj
      obtain rfl : C (x.take k) = j := by simpa using hj
      exact (h.lo _ hp).2

set_option maxRecDepth 100000 in
set_option maxHeartbeats 1000000 in
theorem insert_any (s : ByteArray) (i : Nat) (w : World) (base N r : Nat) (W : List Wd) (hs : s.size ≤ 8) (hN : N ≤ 1000) (_hi : i ≤ 1000) (hbase : base ≤ w.heap.size) (h : TrW w base N W r) (hx : ∀ j, (bs s, j) ∉ W) :
    Calls Try.prog 57 #[.pointer (some ⟨r, 0, none⟩), .string s, .int .i64 i] w fun e w' =>
      e = .returned (.tuple #[]) ∧ TrW w' base (N + s.size) (W ++ [(bs s, i)]) r ∧ Below base w w' := by
  have H := hid (ins_start h (bs s))
  have HX := hid hx
  clear h hx
  go_enter Try.func57, Try.ntmps57
  go_wp2
  go_loopw [0, 11] (fun p x wr => ∃ k b : Nat, k ≤ s.size ∧ p = .pointer (some ⟨b, 0, none⟩) ∧ x = .int .i64 k ∧ Hid (InsAt w wr base N r W (bs s) k b) ∧ base ≤ wr.heap.size) (fun _ x _ => s.size - (intOf x).toNat)
  case atStart => exact ⟨0, r, by omega, rfl, rfl, H, hbase⟩
  case round =>
    obtain ⟨k, b, hk, rfl, rfl, HI, hbr⟩ := hrel
    by_cases hlt : k < s.size
    · have HT := hid (bs_take_succ s k hlt)
      have HKL := hid (show k < (bs s).length by rw [bs_len]; exact hlt)
      by_cases hn : nodeB W ((bs s).take (k + 1)) = true
      · obtain ⟨m, b', hc, hlk, hnext⟩ := ins_yes HKL.out HT.out HI.out hn
        have HNX := hid hnext
        clear hnext hn HI HT HKL H HX
        go_wp2
        go_quiet (fail)
        go_wp2
        go_roundw
        case rel => exact ⟨k + 1, b', by omega, rfl, by go_num, hid (HNX.out _), hbr⟩
        case measure => simp [intOf]; omega
      · have HN := hid (Bool.eq_false_iff.2 hn)
        obtain ⟨m, hc, _, _, hlk, _⟩ := ins_no HKL.out HT.out hbr HI.out HN.out
        clear hn H HX
        go_wp2
        go_quiet (fail)
        rename_i nq _
        have HI := hid (HI.out.drewN nq)
        have hbr : base ≤ (wr.drewN nq).heap.size := hbr
        clear hc hlk
        generalize wr.drewN nq = wq at HI hbr ⊢
        obtain ⟨m, hc, hml, hbl, hlk, D, hD, hnext⟩ := ins_no HKL.out HT.out hbr HI.out HN.out
        have HNX := hid hnext
        have HD := hid hD
        clear hnext hD hlk HI HN
        go_wp2_with (go_at_call 56; refine (new_any _).mono ?_; rintro e w' ⟨rfl, rfl⟩)
        have hb1 := newW_below wq
        have hm1 := newW_map wq
        have hn1 := newW_node wq
        have hc1 : (newW wq).cell? ⟨b, 1, none⟩ = some (.map (some m)) := (hb1.cell hbl).trans hc
        generalize newW wq = w1 at hb1 hm1 hn1 hc1 ⊢
        have hs1 : base ≤ w1.heap.size := Nat.le_trans hbr hb1.size
        go_wp2
        go_still_tail 8, (by kernel_rfl)
        change wpList _ _ _ _ _ w1.drew
        have hb2 : Below wq.heap.size wq w1.drew := hb1.drew
        have hm2 : w1.drew.ownsMap Try.prog 5 ptrE wq.heap.size 0 (.map []) := hm1
        have hn2 : w1.drew.heap[wq.heap.size + 1]? = some (.cells #[.int .i64 (-1), .map (some wq.heap.size)] 89 (0, 0)) := hn1
        have hs2 : base ≤ w1.drew.heap.size := hs1
        have hD2 : w1.drew.ownsMap Try.prog 5 ptrE m (N + k) D := ownsMap_block HD.out (hb1.block _ hml)
        clear hb1 hm1 hn1 hs1 HD hc1
        generalize w1.drew = w2 at hb2 hm2 hn2 hs2 hD2 ⊢
        have hkey := key_byte s[k]
        refine wpList_mapUpdate_own _ rfl _ _ _ 87 rfl 5 68 byte_keyed Try.underlying87 ptrE m (N + k) _ rfl hD2 (by unfold maxLen; omega) _ _ _ rfl rfl hkey _ [] (ptrE_mk (wq.heap.size + 1)) ?_
        intro w3 hm3 hg3
        have HE := hid (HNX.out w2 w3 (wq.heap.size + 1) wq.heap.size hb2 (by omega) (by omega) hm2 hn2 hg3 hm3)
        have hs3 : base ≤ w3.heap.size := Nat.le_trans hs2 hg3.size
        clear hm3 hg3 hb2 hm2 hn2 hD2 HNX hkey
        go_wp2
        go_roundw
        case rel => exact ⟨k + 1, _, by omega, rfl, by go_num, HE, hs3⟩
        case measure => simp [intOf]; omega
    · obtain rfl : k = s.size := by omega
      have HE := hid (ins_end (i := i) (by rw [bs_len]; exact HI.out) HX.out)
      obtain ⟨hc, hf, _, _⟩ := HE.out
      clear HI HX H
      go_wp2
      go_end0
      exact ⟨rfl, by have := HE.out.2.2.1; rwa [bs_len] at this, HE.out.2.2.2⟩

theorem fine_once {ws : List ByteArray} {k : Nat} (hf : FineTo ws (k + 1)) (hk : k < ws.length) : ∀ j, (bs (wat ws k), j) ∉ wds ((wl ws).take k) := by
  intro j hj
  exact fine_new hf hk (List.mem_iff_getElem?.2 ⟨j, wds_mem.1 hj⟩)

set_option maxRecDepth 100000 in
set_option maxHeartbeats 1000000 in
theorem build_ok (A : Option Addr) (n c : Nat) (ws : List ByteArray) (w : World) (hf : Fine ws) (h : IsStrs w w.heap.size A n ws) :
    Calls Try.prog 42 #[.slice A n c] w fun e w' => ∃ r base, e = .returned (.tuple #[.pointer (some ⟨r, 0, none⟩), .nilIface]) ∧ TrW w' base 48 (wds (wl ws)) r ∧ w.heap.size ≤ base ∧ Below w.heap.size w w' := by
  have hl : ws.length = n := h.1
  have hn6 := hf.1
  have HF := hid hf
  have H := hid h
  clear hf h
  go_enter Try.func42, Try.ntmps42
  go_wp2_with (go_at_call 50; refine (tcheck_ok A n c ws w HF.out H.out).mono ?_; rintro e w1 ⟨rfl, hb1⟩)
  go_wp2_with (go_at_call 56; refine (new_any _).mono ?_; rintro e w' ⟨rfl, rfl⟩)
  have ht := hid (trw_new w1)
  have hb2 : Below w.heap.size w (newW w1) := hb1.trans ((newW_below w1).mono hb1.size)
  have hs2 : w1.heap.size ≤ (newW w1).heap.size := by rw [newW_size]; omega
  obtain ⟨base, hbase⟩ : ∃ b, b = w1.heap.size := ⟨_, rfl⟩
  have hwb : w.heap.size ≤ base := by rw [hbase]; exact hb1.size
  rw [← hbase] at ht hs2
  rw [← hbase]
  generalize newW w1 = w2 at ht hb2 hs2 ⊢
  clear hbase hb1
  clear w1
  go_wp2
  go_loopw [16] (fun x wr => ∃ k : Nat, k ≤ n ∧ x = .int .i64 k ∧ Hid (TrW wr base (8 * k) (wds ((wl ws).take k)) (base + 1)) ∧ Below w.heap.size w wr ∧ base ≤ wr.heap.size) (fun x _ => n - (intOf x).toNat)
  case atStart => exact ⟨0, by omega, rfl, ht, hb2, hs2⟩
  case round =>
    obtain ⟨k, hk, rfl, HT, hb, hbr⟩ := hrel
    by_cases hlt : k < n
    · obtain ⟨g, off, rfl, hg, hc⟩ := H.out.2 (by omega)
      have hx : wr.cell? ⟨g, off + k, none⟩ = some (.string (wat ws k)) := (hb.cell hg).trans (hc k hlt)
      have hw := HF.out.2 k (by omega)
      have HC := hid ((insert_any (wat ws k) k wr base (8 * k) (base + 1) _ hw.1 (by omega) (by omega) hbr HT.out (fine_once (fun j hj => HF.out.2 j (by omega)) (by omega))).mono (R' := fun e w' => e = .returned (.tuple #[]) ∧ TrW w' base (8 * (k + 1)) (wds ((wl ws).take (k + 1))) (base + 1) ∧ Below base wr w') (fun e w' ⟨h1, h2, h3⟩ => ⟨h1, by
        rw [wl_take_succ (by omega), wds_snoc, List.length_take, wl_len, Nat.min_eq_left (by omega)]
        obtain ⟨top, B, C, h2, hr⟩ := h2
        exact ⟨top, B, C, h2.mono (by omega), hr⟩, h3⟩))
      clear hc hw
      generalize wat ws k = s at hx HC
      go_wp2_with (go_at_call 57; refine HC.out.mono ?_; rintro e w3 ⟨rfl, ht3, hb3⟩; have HT3 := hid ht3; clear ht3)
      go_wp2
      go_roundw
      case rel => exact ⟨k + 1, by omega, by go_num, HT3, hb.trans (hb3.mono hwb), Nat.le_trans hbr hb3.size⟩
      case measure => simp [intOf]; omega
    · obtain rfl : k = n := by omega
      go_wp2
      go_ret2
      refine ⟨_, base, rfl, ?_, hwb, hb⟩
      have := HT.out
      rw [List.take_of_length_le (by rw [wl_len]; omega)] at this
      obtain ⟨top, B, C, h2, hr⟩ := this
      exact ⟨top, B, C, h2.mono (by omega), hr⟩
theorem build_bad (A : Option Addr) (n c : Nat) (ws : List ByteArray) (k : Int) (w : World) (hn : n ≤ maxLen) (hs : ∀ i, i < n → (wat ws i).size ≤ maxLen) (hk : Bad ws k) (h : IsStrs w w.heap.size A n ws) :
    Calls Try.prog 42 #[.slice A n c] w fun e w' => e = .returned (.tuple #[.pointer none, .iface 49 (.int .i64 k)]) ∧ Below w.heap.size w w' := by
  have HC := hid (tcheck_bad A n c ws k w hn hs hk h)
  clear h hs hk hn
  go_enter Try.func42, Try.ntmps42
  go_wp2_with (go_at_call 50; refine HC.out.mono ?_; rintro e w1 ⟨rfl, hb1⟩)
  go_wp2
  go_ret2
  exact ⟨rfl, hb1⟩
end Go.Proofs.Ytdkbgikniacekaa
