/-
  Contracts of (*node).count and trie.Size: how many different beginnings the words have. Conditions: words as they should be, or the error of the first fault.
-/
import Derived.Test.YtdkbgikniacekaaTbuild
namespace Go.Proofs.Ytdkbgikniacekaa
open Go.RowKit Go.Maps

theorem keyL_same (c d : UInt8) : (keyL d).sameKey (keyL c) = decide (d = c) := by
  by_cases e : d = c
  · subst e; rw [WideAt.sameKey_self (keyL_key _)]; simp
  · rw [sameKey_ne (keyL_ne e)]; simp [e]
theorem ranges_below {w w' : World} {b r n cnt : Nat} {D : DataW Unit} {left : Lit → Bool} (h : w.ranges Try.prog 5 ptrE b r n D left cnt) (hb : Below w.heap.size w w') : w'.ranges Try.prog 5 ptrE b r n D left cnt := by
  have l1 := h.owns.lt
  have l2 := h.lt
  obtain ⟨es, clock, since, seen, c0, h1, h2, h3, h4, h5, h6⟩ := h
  exact ⟨es, clock, since, seen, c0, (hb.block _ l1).trans h1, h2, h3, h4, (hb.block _ l2).trans h5, h6⟩
/-- The next child of a node, in whatever order. -/
theorem wpList_next_kid {ops : Array Oper} {rest : List Oper} {o : Oper} {a : Act} {Q : Exit → Act → World → Prop} (w : World) (hg : o.guard = none) (it : Operand) (hop : o.op = Op.next it false) (b r n : Nat) (D : DataW Unit) (S : List UInt8 → Bool) (B : List UInt8 → Nat) (p : List UInt8) (hD : Kids D S B p) (left : Lit → Bool) (cnt : Nat)
    (hit : a.eval it = .pointer (some ⟨r, 0, none⟩)) (h : w.ranges Try.prog 5 ptrE b r n D left cnt)
    (hDone : (∀ kl, left kl = false) → wpList Try.prog ops Q rest (a.put o.dst (.tuple #[.bool false])) w)
    (hMore : ∀ (c : UInt8) (w' : World) (cnt' : Nat), S (p ++ [c]) = true → left (keyL c) = true → w'.ranges Try.prog 5 ptrE b r n D (fun z => left z && !z.sameKey (keyL c)) cnt' → cnt' < cnt →
      w.grownBy w' (some r) → (Instr.entry (.pointer (some ⟨r, 0, none⟩))).run Try.prog w' = .ok (.tuple #[.int .u8 (c.toNat : Int), .pointer (some ⟨B (p ++ [c]), 0, none⟩)]) w' → wpList Try.prog ops Q rest (a.put o.dst (.tuple #[.bool true, .int .u8 (c.toNat : Int), .pointer (some ⟨B (p ++ [c]), 0, none⟩)])) w') :
    wpList Try.prog ops Q (o :: rest) a w := by
  refine wpList_next_ranges w hg it hop 5 byte_keyed ptrE (Value.int .u8) Value.pointer (fun key kl hkey => by obtain ⟨x, rfl, _⟩ := Maps.keyOf_int_inv Try.underlying5 hkey; exact ⟨x, rfl⟩) (fun v y hv => ptrE_shape hv) b r n D left cnt hit h (fun _ hl => hDone hl) ?_
  intro x v kl y w' cnt' hkey hlk hv hat hrg hlt hgr _ hen
  obtain ⟨x', ex, rfl, hwx⟩ := Maps.keyOf_int_inv Try.underlying5 hkey
  cases ex
  obtain ⟨c, rfl⟩ := byte_of hwx
  have hh : Maps.has D (keyL c) = true := has_true_of_atKey hat
  have hS : S (p ++ [c]) = true := by rw [← (hD.2 c).1]; exact hh
  have hy : y.1 = .lit (.int .i64 (B (p ++ [c]) : Int)) := by rw [← hat (.lit (.bool true))]; exact (hD.2 c).2 hS _
  have hv' : ptrE (.pointer v) = some (.lit (.int .i64 (B (p ++ [c]) : Int)), y.2) := by rw [hv, ← hy]
  have e := ptrE_inv hv'
  cases e
  exact hMore c w' cnt' hS hlk hrg hlt hgr hen

/-- What the children that have come count together. -/
def cam (S : UInt8 → Bool) (f : UInt8 → Nat) (left : Lit → Bool) : Nat := sum256 fun c => if S c && !left (keyL c) then f c else 0
theorem cam_start {S : UInt8 → Bool} {f : UInt8 → Nat} {left : Lit → Bool} (h : ∀ c, left (keyL c) = S c) : cam S f left = 0 :=
  sum256_zero fun c => by rw [h c]; cases S c <;> rfl
theorem cam_end {S : UInt8 → Bool} {f : UInt8 → Nat} {left : Lit → Bool} (h : ∀ kl, left kl = false) : cam S f left = sum256 fun c => if S c then f c else 0 :=
  sum_congr fun c => by rw [h]; simp
theorem cam_step {S : UInt8 → Bool} {f : UInt8 → Nat} {left : Lit → Bool} {c : UInt8} (hS : S c = true) (hl : left (keyL c) = true) : cam S f (fun z => left z && !z.sameKey (keyL c)) = cam S f left + f c := by
  have := sum256_upd c (fun d => if S d && !(left (keyL d) && !(keyL d).sameKey (keyL c)) then f d else 0) (fun d => if S d && !left (keyL d) then f d else 0) (fun d hd => by rw [keyL_same]; simp [hd])
  simp only [keyL_same, hS, hl] at this
  simp only [cam, keyL_same]
  simp at this ⊢
  omega
theorem cam_le (S : UInt8 → Bool) (f : UInt8 → Nat) (left : Lit → Bool) : cam S f left ≤ sum256 fun c => if S c then f c else 0 :=
  sum256_le fun c => by cases S c <;> simp; split <;> omega

set_option maxRecDepth 100000 in
set_option maxHeartbeats 1000000 in
theorem count_step {w0 w : World} {base top N : Nat} {S : List UInt8 → Bool} {X : List UInt8 → Int} {B C : List UInt8 → Nat} (h : Tr w0 base top N S X B C) (p : List UInt8) (hp : S p = true) (hb : Below top w0 w) (f : UInt8 → Nat)
    (ih : ∀ c w', S (p ++ [c]) = true → Below top w0 w' → Calls Try.prog 43 #[.pointer (some ⟨B (p ++ [c]), 0, none⟩)] w' fun e w'' => e = .returned (.int .i64 (f c : Int)) ∧ Below w'.heap.size w' w'')
    (hf : (sum256 fun c => if S (p ++ [c]) then f c else 0) ≤ 1000000) :
    Calls Try.prog 43 #[.pointer (some ⟨B p, 0, none⟩)] w fun e w' => e = .returned (.int .i64 ((1 + sum256 fun c => if S (p ++ [c]) then f c else 0 : Nat) : Int)) ∧ Below w.heap.size w w' := by
  have hw := h.below hb
  have hc := hw.c1 hp
  have hlt := hw.hi p hp
  have htop := hw.le
  obtain ⟨D, hm, hD⟩ := hw.map p hp
  have HD := hid hD
  have IH := hid ih
  have HF := hid hf
  have HB := hid hb
  clear ih hf hb hD hw h hp
  generalize B p = bp at hc hlt
  generalize C p = cp at hc hlt hm
  go_enter Try.func43, Try.ntmps43
  go_wp2_with (first
    | (at_range; refine wpList_range_own _ rfl _ 87 rfl 5 68 byte_keyed Try.underlying87 ptrE cp N D rfl hm ?_; intro w1 hrg1 hg1 hs1)
    | go_in)
  go_frame
  go_loopw [3] (fun v wr => ∃ (a : Nat) (left : Lit → Bool) (cnt : Nat), v = .int .i64 (a : Int) ∧ Hid (a = 1 + cam (fun c => S (p ++ [c])) f left) ∧ wr.ranges Try.prog 5 ptrE cp w.heap.size N D left cnt ∧ Below w.heap.size w wr) (fun _ wr => wr.rangeLeft cp w.heap.size)
  case atStart =>
    exact ⟨1, _, _, rfl, hid (by rw [cam_start (fun c => (HD.out.2 c).1)]), hrg1, (Below.refl _ _).grown hg1 (Nat.le_refl _) (fun k hk => by cases hk)⟩
  case round =>
    obtain ⟨a, left, cnt, rfl, HA, hrg, hbw⟩ := hrel
    go_wp2_with (first
      | (at_next; refine wpList_next_kid _ rfl _ rfl cp w.heap.size N D S B p HD.out left cnt rfl hrg ?_ ?_)
      | go_in)
    · intro hl0
      have HE := hid (show a = 1 + sum256 (fun c => if S (p ++ [c]) then f c else 0) by rw [HA.out, cam_end hl0])
      clear HA hl0
      go_wp2_with fail
      go_ret
      exact ⟨ret_int (by rw [HE.out]), hbw⟩
    · intro c w2 cnt2 hS hl hrg2 hlt2 hg2 hen
      have hb2 : Below w.heap.size w w2 := hbw.grown hg2 hbw.size (fun k hk => by cases hk; exact Nat.le_refl _)
      have HC := hid (IH.out c w2 hS (HB.out.trans (hb2.mono htop)))
      have hle := cam_le (fun c => S (p ++ [c])) f (fun z => left z && !z.sameKey (keyL c))
      have hst := cam_step (S := fun c => S (p ++ [c])) (f := f) (left := left) (c := c) hS hl
      have hbd : a + f c ≤ 1000001 := by have := HF.out; have := HA.out; omega
      have HA2 := hid (show a + f c = 1 + cam (fun c => S (p ++ [c])) f (fun z => left z && !z.sameKey (keyL c)) by rw [hst, HA.out]; omega)
      have HM := hid hrg.left_eq
      have HL := hid hlt2
      clear hle hst HA hS hl hg2 hrg hlt2
      generalize f c = fc at HC hbd HA2
      generalize B (p ++ [c]) = bc at HC hen
      go_wp2_with (go_at_call 43; refine HC.out.mono ?_; rintro e w3 ⟨rfl, hb3⟩; have hrg3 := ranges_below hrg2 hb3; clear hrg2)
      go_wp2_with fail
      go_roundw
      case rel => exact ⟨a + fc, _, cnt2, by go_num, HA2, hrg3, hb2.trans (hb3.mono hb2.size)⟩
      case measure => rw [hrg3.left_eq, HM.out]; exact HL.out
theorem sz_kids {k : Nat} {W : List Wd} {p : List UInt8} : sz (k + 1) (subs p W) = 1 + sum256 fun c => if nodeB W (p ++ [c]) then sz k (kid c (subs p W)) else 0 := by
  rw [sz]
  refine congrArg (1 + ·) (sum_congr fun c => ?_)
  rw [nodeB_kid]
  cases (kid c (subs p W)).isEmpty <;> rfl
theorem kid_short {k : Nat} {L : List Wd} (h : ∀ q ∈ L, q.1.length ≤ k + 1) (c : UInt8) : ∀ q ∈ kid c L, q.1.length ≤ k := by
  rintro ⟨r, i⟩ hq
  have := h _ (mem_kid.1 hq)
  simp at this ⊢; omega
theorem kid_len (c : UInt8) (L : List Wd) : (kid c L).length ≤ L.length := List.length_filterMap_le _ _
theorem subs_len (p : List UInt8) : ∀ L : List Wd, (subs p L).length ≤ L.length := by
  induction p with
  | nil => intro L; exact Nat.le_refl _
  | cons c p ih => intro L; exact Nat.le_trans (ih _) (kid_len c L)
theorem count_any {w0 : World} {base top N : Nat} {W : List Wd} {B C : List UInt8 → Nat} (h : Tr w0 base top N (nodeB W) (fun p => wd (subs p W)) B C) (hW : W.length ≤ 6) (k : Nat) : k ≤ 8 → ∀ (p : List UInt8) (w : World), nodeB W p = true → (∀ q ∈ subs p W, q.1.length ≤ k) → Below top w0 w →
    Calls Try.prog 43 #[.pointer (some ⟨B p, 0, none⟩)] w fun e w' => e = .returned (.int .i64 (sz k (subs p W) : Int)) ∧ Below w.heap.size w w' := by
  induction k with
  | zero =>
    intro _ p w hp hk hb
    have hno : ∀ c, nodeB W (p ++ [c]) = false := fun c => by
      rw [nodeB_kid]
      have : kid c (subs p W) = [] := by
        rw [List.eq_nil_iff_forall_not_mem]
        rintro ⟨r, i⟩ hm
        have := hk _ (mem_kid.1 hm)
        simp at this
      rw [this]; rfl
    have hz : (sum256 fun c => if nodeB W (p ++ [c]) then 0 else 0) = 0 := sum256_zero fun c => by simp
    refine (count_step h p hp hb (fun _ => 0) (fun c w' hc => by rw [hno c] at hc; cases hc) (by rw [hz]; omega)).mono fun e w' ⟨he, hb⟩ => ⟨?_, hb⟩
    rw [he, hz]; rfl
  | succ k ih =>
    intro hk8 p w hp hk hb
    have e := sz_kids (k := k) (W := W) (p := p)
    rw [e]
    refine count_step h p hp hb (fun c => sz k (kid c (subs p W))) (fun c w' hc hb' => ?_) ?_
    · have := ih (by omega) (p ++ [c]) w' hc (by rw [subs_snoc]; exact kid_short hk c) hb'
      rwa [subs_snoc] at this
    · have h1 := sz_le (k + 1) 8 (subs p W) (fun q hq => ⟨hk q hq, by have := hk q hq; omega⟩)
      have h2 := subs_len p W
      omega

theorem fine_len {ws : List ByteArray} (hf : Fine ws) : (wds (wl ws)).length ≤ 6 ∧ ∀ q ∈ wds (wl ws), q.1.length ≤ 8 ∧ 0 < q.1.length := by
  refine ⟨by simp [wds, wl]; exact hf.1, ?_⟩
  rintro ⟨x, i⟩ hq
  exact (fine_wl hf).2 x (List.mem_iff_getElem?.2 ⟨i, wds_mem.1 hq⟩)
/-- What Size answers. -/
def sizeN (ws : List ByteArray) : Nat := sz 8 (wds (wl ws))
theorem sizeN_le {ws : List ByteArray} (hf : Fine ws) : sizeN ws ≤ 49 := by
  have h := fine_len hf
  have := sz_le 8 8 (wds (wl ws)) (fun q hq => ⟨(h.2 q hq).1, (h.2 q hq).1⟩)
  unfold sizeN; omega
theorem size_ok (A : Option Addr) (n c : Nat) (ws : List ByteArray) (w : World) (hf : Fine ws) (h : IsStrs w w.heap.size A n ws) :
    Calls Try.prog 24 #[.slice A n c] w fun e w' => e = .returned (.tuple #[.int .i64 (sizeN ws : Int), .nilIface]) ∧ Below w.heap.size w w' := by
  have HC := hid (build_ok A n c ws w hf h)
  have HF := hid hf
  clear h hf
  go_enter Try.func24, Try.ntmps24
  go_wp2_with (go_at_call 42; refine HC.out.mono ?_; rintro e w1 ⟨r, base, rfl, ht, hbase, hb1⟩; have HT := hid ht; clear ht)
  obtain ⟨top, B, C, h, hr⟩ := HT.out
  have h8 := fine_len HF.out
  have HK := hid (count_any h h8.1 8 (Nat.le_refl _) [] w1 (nodeB_root _) (fun q hq => (h8.2 q hq).1) (Below.refl _ _))
  rw [hr] at HK
  clear h hr h8 HT HC
  go_wp2_with (go_at_call 43; refine HK.out.mono ?_; rintro e w2 ⟨rfl, hb2⟩)
  go_wp2_with fail
  go_ret2
  exact ⟨rfl, hb1.trans (hb2.mono hb1.size)⟩
theorem size_bad (A : Option Addr) (n c : Nat) (ws : List ByteArray) (k : Int) (w : World) (hn : n ≤ maxLen) (hs : ∀ i, i < n → (wat ws i).size ≤ maxLen) (hk : Bad ws k) (h : IsStrs w w.heap.size A n ws) :
    Calls Try.prog 24 #[.slice A n c] w fun e w' => e = .returned (.tuple #[.int .i64 0, .iface 49 (.int .i64 k)]) ∧ Below w.heap.size w w' := by
  have HC := hid (build_bad A n c ws k w hn hs hk h)
  clear h hs hk hn
  go_enter Try.func24, Try.ntmps24
  go_wp2_with (go_at_call 42; refine HC.out.mono ?_; rintro e w1 ⟨rfl, hb1⟩)
  go_wp2_with fail
  go_ret2
  exact ⟨rfl, hb1⟩
end Go.Proofs.Ytdkbgikniacekaa
