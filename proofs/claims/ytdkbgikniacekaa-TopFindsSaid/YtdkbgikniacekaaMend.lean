/-
  Contracts of many.endings and many.has: for each beginning of the words the places of the words with which it ends, in new memory. Conditions: words as they should be.
-/
import Derived.Test.YtdkbgikniacekaaMpre
namespace Go.Proofs.Ytdkbgikniacekaa
open Go.RowKit Go.Maps

/-- How a slice reads here, as an element of a map: as it is. -/
def slE : Value → Option (DataW Value × List MemPlace)
  | .slice A n c => some (.held (.slice A n c), [])
  | _ => none
theorem slE_mk (A : Option Addr) (n c : Nat) : slE (.slice A n c) = some (.held (.slice A n c), []) := rfl
theorem slE_inv {v u : Value} {ps : List MemPlace} (h : slE v = some (.held u, ps)) : v = u := by
  unfold slE at h
  split at h
  · simp at h; exact h.1
  · cases h
theorem zero_sl (w : World) : (zeroValue 23).run Try.prog w = .ok (.slice none 0 0) w := by kernel_rfl
/-- A slice of numbers, in blocks from lo on. -/
def SlI (w : World) (lo : Nat) (A : Option Addr) (xs : List Int) : Prop := IsInts w w.heap.size A xs.length xs ∧ ∀ a, A = some a → lo ≤ a.block
theorem SlI.keep {w w' : World} {lo : Nat} {A : Option Addr} {xs : List Int} (h : SlI w lo A xs) (hs : w.heap.size ≤ w'.heap.size) (hk : ∀ k, lo ≤ k → k < w.heap.size → w'.heap[k]? = w.heap[k]?) : SlI w' lo A xs := by
  refine ⟨⟨rfl, fun h0 => ?_⟩, h.2⟩
  obtain ⟨g, off, e, hg, hc⟩ := h.1.2 h0
  exact ⟨g, off, e, by omega, fun j hj => (World.cell?_of_block (hk g (h.2 _ e) hg)).trans (hc j hj)⟩
theorem SlI.of_own {w : World} {base lo : Nat} {e : TypeId} {v : Value} {xs : List Int} (h : OwnI w base e v xs) (hl : lo ≤ base) : ∃ A c, v = .slice A xs.length c ∧ SlI w lo A xs := by
  obtain ⟨A, c, rfl, _, hI⟩ := IsInts.of_own h
  refine ⟨A, c, rfl, hI, fun a ha => ?_⟩
  subst ha
  rcases h.2 with ⟨e, _⟩ | ⟨g, cap, cur, e, hg, _⟩
  · cases e
  · cases e; exact Nat.le_trans hl hg
/-- The map of the endings: S tells which beginnings it has. -/
def StsD (w : World) (lo : Nat) (ws : List ByteArray) (S : List UInt8 → Prop) (D : DataW Value) : Prop :=
  IsMap D ∧ ∀ s : ByteArray, (¬ S (bs s) → Maps.has D (keyS s) = false) ∧ (S (bs s) → Maps.has D (keyS s) = true ∧
    ∃ A c, (∀ z, D.atKey (keyS s) z = .held (.slice A (endI ws (bs s) ws.length).length c)) ∧ SlI w lo A (endI ws (bs s) ws.length))
def Sts (w : World) (lo b N : Nat) (ws : List ByteArray) (S : List UInt8 → Prop) : Prop :=
  b < lo ∧ ∃ D, w.ownsMap Try.prog 9 slE b N D ∧ StsD w lo ws S D
theorem owns_block {H : Type} {R : Value → Option (DataW H × List MemPlace)} {w w' : World} {k : TypeId} {b n : Nat} {D : DataW H} (h : w.ownsMap Try.prog k R b n D) (e : w'.heap[b]? = w.heap[b]?) : w'.ownsMap Try.prog k R b n D := by
  obtain ⟨es, clock, hb, r⟩ := h
  exact ⟨es, clock, e.trans hb, r⟩
theorem StsD.keep {w w' : World} {lo : Nat} {ws : List ByteArray} {S : List UInt8 → Prop} {D : DataW Value} (h : StsD w lo ws S D) (hs : w.heap.size ≤ w'.heap.size) (hk : ∀ k, lo ≤ k → k < w.heap.size → w'.heap[k]? = w.heap[k]?) : StsD w' lo ws S D := by
  refine ⟨h.1, fun s => ⟨(h.2 s).1, fun hS => ?_⟩⟩
  obtain ⟨h1, A, c, h2, h3⟩ := (h.2 s).2 hS
  exact ⟨h1, A, c, h2, h3.keep hs hk⟩
theorem Sts.below {w w' : World} {lo b N : Nat} {ws : List ByteArray} {S : List UInt8 → Prop} (h : Sts w lo b N ws S) (hb : Below w.heap.size w w') : Sts w' lo b N ws S := by
  obtain ⟨h1, D, hm, hD⟩ := h
  exact ⟨h1, D, owns_block hm (hb.block _ hm.lt), hD.keep hb.size fun k _ hk => hb.block k hk⟩
theorem Sts.grown {w w' : World} {lo b N r : Nat} {ws : List ByteArray} {S : List UInt8 → Prop} (h : Sts w lo b N ws S) (hg : w.grownBy w' (some r)) (hr : r < lo) (hrb : r ≠ b) : Sts w' lo b N ws S := by
  obtain ⟨h1, D, hm, hD⟩ := h
  exact ⟨h1, D, hm.kept hg (by simpa using Ne.symm hrb), hD.keep hg.size fun k hl hk => hg.block k hk (by simp; omega)⟩
theorem Sts.congr {w : World} {lo b N : Nat} {ws : List ByteArray} {S S' : List UInt8 → Prop} (h : Sts w lo b N ws S) (e : ∀ p, S p ↔ S' p) : Sts w lo b N ws S' := by
  have : S = S' := funext fun p => propext (e p)
  rwa [← this]
theorem sts_start (w : World) (lo b : Nat) (ws : List ByteArray) (hb : b < lo) (hm : w.ownsMap Try.prog 9 slE b 0 (.map [])) : Sts w lo b 0 ws (fun _ => False) :=
  ⟨hb, _, hm, isMap_empty, fun _ => ⟨fun _ => rfl, fun h => h.elim⟩⟩
theorem sts_put {w w2 : World} {lo b N : Nat} {ws : List ByteArray} {S : List UInt8 → Prop} {D : DataW Value} {s : ByteArray} {A : Option Addr} {c : Nat} (hb : b < lo) (hD : StsD w lo ws S D) (hA : SlI w lo A (endI ws (bs s) ws.length))
    (hg : w.grownBy w2 (some b)) (hm : w2.ownsMap Try.prog 9 slE b N (D.put (keyS s) (.held (.slice A (endI ws (bs s) ws.length).length c)))) : Sts w2 lo b N ws (fun p => S p ∨ p = bs s) := by
  have hk : ∀ k, lo ≤ k → k < w.heap.size → w2.heap[k]? = w.heap[k]? := fun k hl hk => hg.block k hk (by simp; omega)
  have hD' := hD.keep hg.size hk
  refine ⟨hb, _, hm, hD.1.put _ _, fun u => ?_⟩
  by_cases e : u = s
  · subst e
    refine ⟨fun h => absurd (.inr rfl) h, fun _ => ⟨has_put_same hD.1 (keyS_key _) _, A, c, fun z => atKey_put_same hD.1 (keyS_key _) _ _, hA.keep hg.size hk⟩⟩
  · rw [has_put_other (keyS_ne e)]
    refine ⟨fun h => (hD'.2 u).1 fun h' => h (.inl h'), fun h => ?_⟩
    rcases h with h | h
    · obtain ⟨h1, A', c', h2, h3⟩ := (hD'.2 u).2 h
      exact ⟨h1, A', c', fun z => by rw [atKey_put_other (keyS_ne e)]; exact h2 z, h3⟩
    · exact absurd (bs_inj h) e

/-- The beginnings that have come. -/
def Came (ws : List ByteArray) (left : Lit → Bool) (p : List UInt8) : Prop := IsPre ws p ∧ left (.string p) = false
theorem came_start {D : DataW Unit} {ws : List ByteArray} (h : PreD D (IsPre ws)) (p : List UInt8) : False ↔ Came ws (Maps.has D) p := by
  refine ⟨False.elim, fun ⟨h1, h2⟩ => ?_⟩
  have := (h.2 ⟨⟨p⟩⟩).2 h1
  rw [show keyS ⟨⟨p⟩⟩ = .string p from rfl] at this
  rw [h2] at this; cases this
theorem came_end {ws : List ByteArray} {left : Lit → Bool} (h : ∀ kl, left kl = false) (p : List UInt8) : Came ws left p ↔ IsPre ws p := ⟨fun h' => h'.1, fun h' => ⟨h', h _⟩⟩
theorem came_step {ws : List ByteArray} {left : Lit → Bool} {s : ByteArray} (hs : IsPre ws (bs s)) (p : List UInt8) : (Came ws left p ∨ p = bs s) ↔ Came ws (fun z => left z && !z.sameKey (keyS s)) p := by
  unfold Came
  by_cases e : p = bs s
  · subst e
    have : (Lit.string (bs s)).sameKey (keyS s) = true := WideAt.sameKey_self (keyS_key s)
    simp [hs, this]
  · have : (Lit.string p).sameKey (keyS s) = false := sameKey_ne (by simpa [keyS] using e)
    simp [e, this]
theorem ranges_on {H : Type} {R : Value → Option (DataW H × List MemPlace)} {w w' : World} {k : TypeId} {b r n cnt : Nat} {D : DataW H} {left : Lit → Bool} (h : w.ranges Try.prog k R b r n D left cnt) (hb : Below w.heap.size w w') : w'.ranges Try.prog k R b r n D left cnt := by
  have l1 := h.owns.lt
  have l2 := h.lt
  obtain ⟨es, clock, since, seen, c0, h1, h2, h3, h4, h5, h6⟩ := h
  exact ⟨es, clock, since, seen, c0, (hb.block _ l1).trans h1, h2, h3, h4, (hb.block _ l2).trans h5, h6⟩
theorem keyOf_str_inv {key : Value} {kl : Lit} (h : keyOf Try.prog 9 key = some kl) : ∃ s : ByteArray, key = .string s ∧ kl = keyS s ∧ s.size ≤ maxLen := by
  have hu := Try.underlying9
  cases key <;> simp [keyOf, hu, mapKey] at h
  exact ⟨_, rfl, h.2.symm, h.1⟩
/-- The next beginning, in whatever order. -/
theorem wpList_next_pre {ops : Array Oper} {rest : List Oper} {o : Oper} {a : Act} {Q : Exit → Act → World → Prop} (w : World) (hg : o.guard = none) (it : Operand) (hop : o.op = Op.next it false) (b r n : Nat) (D : DataW Unit) (left : Lit → Bool) (cnt : Nat)
    (hit : a.eval it = .pointer (some ⟨r, 0, none⟩)) (h : w.ranges Try.prog 9 (plainElem Try.prog 4) b r n D left cnt)
    (hDone : (∀ kl, left kl = false) → wpList Try.prog ops Q rest (a.put o.dst (.tuple #[.bool false])) w)
    (hMore : ∀ (s : ByteArray) (x : Value) (w' : World) (cnt' : Nat), Maps.has D (keyS s) = true → w'.ranges Try.prog 9 (plainElem Try.prog 4) b r n D (fun z => left z && !z.sameKey (keyS s)) cnt' → cnt' < cnt →
      w.grownBy w' (some r) → w'.heap.size = w.heap.size → (Instr.entry (.pointer (some ⟨r, 0, none⟩))).run Try.prog w' = .ok (.tuple #[.string s, x]) w' → wpList Try.prog ops Q rest (a.put o.dst (.tuple #[.bool true, .string s, x])) w') :
    wpList Try.prog ops Q (o :: rest) a w := by
  refine wpList_next_ranges w hg it hop 9 str_keyed (plainElem Try.prog 4) Value.string (fun v => v) (fun key kl hkey => by obtain ⟨s, rfl, _⟩ := keyOf_str_inv hkey; exact ⟨s, rfl⟩) (fun v _ _ => ⟨v, rfl⟩) b r n D left cnt hit h (fun _ hl => hDone hl) ?_
  intro s x kl y w' cnt' hkey _ hv hat hrg hlt hgr hsz hen
  obtain ⟨s', e, rfl, _⟩ := keyOf_str_inv hkey
  cases e
  exact hMore s x w' cnt' (has_true_of_atKey hat) hrg hlt hgr hsz hen
theorem pre_small {ws : List ByteArray} (hf : Fine ws) {s : ByteArray} (h : IsPre ws (bs s)) : s.size ≤ 8 := by
  obtain ⟨_, k, hk, hp⟩ := h
  have := hp.length_le
  rw [bs_len, bs_len] at this
  have := (hf.2 k hk).1
  omega

set_option maxRecDepth 100000 in
set_option maxHeartbeats 2000000 in
theorem endings_any (A : Option Addr) (n c : Nat) (ws : List ByteArray) (w : World) (hf : Fine ws) (h : IsStrs w w.heap.size A n ws) :
    Calls Try.prog 36 #[.slice A n c] w fun e w' => ∃ lo b, e = .returned (.map (some b)) ∧ Sts w' lo b 1000 ws (IsPre ws) ∧ Below w.heap.size w w' := by
  obtain ⟨i0, hi, hz0, hz1, hz2⟩ := info_parts int_info
  have hl : ws.length = n := h.1
  have hn : n ≤ 6 := by have := hf.1; omega
  have hmm := @run_makeMap Try.prog
  have H := hid h
  have HL := hid hl
  have HF := hid hf
  clear h hl hf
  go_enter Try.func36, Try.ntmps36
  go_wp2_with fail
  have hb1 : Below w.heap.size w (w.alloc (.map #[] 0)) := (Below.refl _ _).alloc (Nat.le_refl _) _
  have hm1 : (w.alloc (.map #[] 0)).ownsMap Try.prog 9 slE w.heap.size 0 (.map []) := World.ownsMap_made _ _ _ _
  have hs1 : (w.alloc (.map #[] 0)).heap.size = w.heap.size + 1 := by simp
  generalize w.alloc (.map #[] 0) = w1 at hb1 hm1 hs1 ⊢
  refine (prefixes_any A n c ws w1 HF.out ((H.out.below hb1).mono hb1.size)).mono ?_
  rintro e w2 ⟨rfl, ⟨D0, hm2, hD0⟩, hb2⟩
  have hm1a := owns_block hm1 (hb2.block _ (by omega))
  have hb2a := hb1.trans (hb2.mono hb1.size)
  clear hm1 hb2
  have hs2 : w1.heap.size < w2.heap.size := hm2.lt
  obtain ⟨b, hbb⟩ : ∃ z, z = w.heap.size := ⟨_, rfl⟩
  obtain ⟨m, hmm1⟩ : ∃ z, z = w1.heap.size := ⟨_, rfl⟩
  have hbm : b < m := by omega
  rw [← hmm1] at hm2 hs2
  rw [← hmm1]
  rw [← hbb] at hm1a
  have HD0 := hid hD0
  clear hb1 hD0 hmm1 hs1
  clear w1
  obtain ⟨r, hr⟩ : ∃ z, z = w2.heap.size := ⟨_, rfl⟩
  go_wp2_with (first
    | (at_range; refine wpList_range_own _ rfl _ 80 rfl 9 4 str_keyed Try.underlying80 (plainElem Try.prog 4) m 48 D0 rfl hm2 ?_; intro w3 hrg3 hg3 hs3)
    | go_in)
  rw [← hr] at hrg3 hs3 hs2 ⊢
  have hm3 := hm1a.kept hg3 (by simp)
  have hb3 : Below w.heap.size w w3 := hb2a.grown hg3 hb2a.size (fun k hk => by cases hk)
  have HST := hid ((sts_start w3 (r + 1) b ws (by omega) hm3).congr (came_start HD0.out))
  rw [← hbb]
  have HBB := hid hbb
  clear hm1a hm2 hb2a hg3 hm3 hr hbb
  clear w2
  have hrs := hrg3.lt
  go_frame
  go_loopw [4] (fun _ wr => ∃ (left : Lit → Bool) (cnt N : Nat), Hid (cnt + N ≤ 100) ∧ wr.ranges Try.prog 9 (plainElem Try.prog 4) m r 48 D0 left cnt ∧ Hid (Sts wr (r + 1) b N ws (Came ws left)) ∧ Below w.heap.size w wr ∧ r < wr.heap.size) (fun _ wr => wr.rangeLeft m r)
  case atStart =>
    exact ⟨_, _, 0, hid (by have := hrg3.owns.size_le; omega), hrg3, HST, hb3, hrs⟩
  case round =>
    obtain ⟨left, cnt, N, HN, hrg, HS, hbw, hrw⟩ := hrel
    go_wp2_with (first
      | (at_next; refine wpList_next_pre _ rfl _ rfl m r 48 D0 left cnt rfl hrg ?_ ?_)
      | go_in)
    · intro hl0
      have HE := hid (HS.out.congr (came_end hl0))
      clear HS hl0
      go_wp2_with fail
      go_ret
      refine ⟨r + 1, b, rfl, ?_, hbw⟩
      obtain ⟨h1, D, h2, h3⟩ := HE.out
      exact ⟨h1, D, h2.mono (by have := HN.out; omega), h3⟩
    · intro s x w4 cnt4 hh hrg4 hlt4 hg4 hs4 hen
      have HP := hid ((HD0.out.2 s).1 hh)
      have hs8 := pre_small HF.out HP.out
      have hb4 : Below w.heap.size w w4 := hbw.grown hg4 hbw.size (fun k hk => by cases hk; have := HBB.out; omega)
      have HS4 := hid (HS.out.grown hg4 (by omega) (by omega))
      have HM := hid hrg.left_eq
      have HLT := hid hlt4
      have hr4 : r < w4.heap.size := by omega
      clear hh HS hg4 hrg hlt4 hbw hs4
      go_wp2_with fail
      go_loopw [5, 18] (fun v x wr => ∃ k : Nat, k ≤ n ∧ x = .int .i64 k ∧ OwnI wr w4.heap.size 3 v (endI ws (bs s) k) ∧ Below w4.heap.size w4 wr) (fun _ x _ => n - (intOf x).toNat)
      case atStart => exact ⟨0, by omega, rfl, OwnI.nil _ _ _, Below.refl _ _⟩
      case round =>
        obtain ⟨k, hk, rfl, hown, hbr⟩ := hrel
        have hlen := endI_len ws (bs s) k
        have hsz := hbr.size
        by_cases hlt : k < n
        · obtain ⟨g, off, rfl, hg, hc⟩ := H.out.2 (by omega)
          have hx : wr.cell? ⟨g, off + k, none⟩ = some (.string (wat ws k)) := (hbr.cell (show g < w4.heap.size by have := hb4.size; omega)).trans ((hb4.cell hg).trans (hc k hlt))
          have hwk := (HF.out.2 k (by rw [HL.out]; exact hlt)).1
          have HC := fun W => hid (suffix_any s (wat ws k) W (by omega) (by omega))
          clear hc
          by_cases hp : bs (wat ws k) <:+ bs s
          · have HE := hid (endI_yes hp)
            rw [show sufB s (wat ws k) = true from decide_eq_true hp] at HC
            clear hp
            generalize wat ws k = u at hx hwk HC
            generalize endI ws (bs s) k = cs at hown HE hlen
            go_wp2_with fail
            refine (HC _).out.mono ?_
            rintro e w5 ⟨rfl, hw5⟩
            subst w5
            go_wp2_with (at_builtin; refine wpList_append_int _ rfl (.tmp 26) (.tmp 28) 23 rfl w4.heap.size 3 i0 Try.underlying23 hi hz0 hz1 hz2 _ cs rfl hown (k : Int) rfl (by omega) (by omega) ?_)
            intro v' w6 hown6 hb6
            go_wp2_with fail
            go_roundw
            case rel => exact ⟨k + 1, by omega, by go_num, by rw [HE.out]; exact hown6, hbr.trans hb6⟩
            case measure => simp [intOf]; omega
          · have HE := hid (endI_no hp)
            rw [show sufB s (wat ws k) = false from decide_eq_false hp] at HC
            clear hp
            generalize wat ws k = u at hx hwk HC
            generalize endI ws (bs s) k = cs at hown HE hlen
            go_wp2_with fail
            refine (HC _).out.mono ?_
            rintro e w5 ⟨rfl, hw5⟩
            subst w5
            go_wp2_with fail
            go_roundw
            case rel => exact ⟨k + 1, by omega, by go_num, by rw [HE.out]; exact hown, hbr⟩
            case measure => simp [intOf]; omega
        · have hkn : k = ws.length := by have := HL.out; omega
          subst hkn
          obtain ⟨A5, c5, rfl, hsl⟩ := SlI.of_own hown (show r + 1 ≤ w4.heap.size by omega)
          have hS5 := HS4.out.below hbr
          have hrg5 := ranges_on hrg4 hbr
          have hr5 : r < wr.heap.size := by omega
          obtain ⟨hblo, D5, hm5, hD5⟩ := hS5
          have hkey := key_str (s := s) (by unfold maxLen; omega)
          have HD5 := hid hD5
          have HSL := hid hsl
          have hNm : N < maxLen := by have := HN.out; unfold maxLen; omega
          have hrm := hrg5.owns.lt
          have hbm' : b ≠ m := by omega
          clear hD5 hsl hown hrg4 hlen
          obtain ⟨wz, hwz⟩ : ∃ z, z = wr := ⟨_, rfl⟩
          subst hwz
          obtain ⟨L, hL⟩ : ∃ z, z = (endI ws (bs s) ws.length).length := ⟨_, rfl⟩
          rw [← hL]
          have HLL := hid hL
          clear hL
          go_wp2_with (first
            | (at_mapUpdate; refine wpList_mapUpdate_own _ rfl _ _ _ 61 rfl 9 23 str_keyed Try.underlying61 slE b N D5 rfl hm5 hNm _ _ _ rfl rfl hkey _ [] (slE_mk A5 L c5) ?_; intro w6 hm6 hg6)
            | go_in)
          have HE := hid ((sts_put (s := s) (A := A5) (c := c5) hblo HD5.out HSL.out hg6 (by rw [← HLL.out]; exact hm6)).congr (came_step HP.out))
          have hrg6 := hrg5.kept hg6 (by simp; omega) (by simp; omega)
          simp only [Act.put]
          go_roundw
          case rel => exact ⟨_, cnt4, N + 1, hid (by have := HN.out; have := HLT.out; omega), hrg6, HE, (hb4.trans (hbr.mono hb4.size)).grown hg6 (by have := hb4.size; have := hbr.size; omega) (fun k hk => by cases hk; have := HBB.out; omega), hrg6.lt⟩
          case measure => rw [hrg6.left_eq, HM.out]; exact HLT.out
theorem pre_dec (ws : List ByteArray) (p : List UInt8) : IsPre ws p ∨ ¬ IsPre ws p := Classical.em _
theorem has_yes (b lo N : Nat) (ws : List ByteArray) (s : ByteArray) (w : World) (h : Sts w lo b N ws (IsPre ws)) (hs : s.size ≤ maxLen) (hp : IsPre ws (bs s)) :
    Calls Try.prog 37 #[.map (some b), .string s] w fun e w' => e = .returned (.bool true) ∧ w' = w := by
  obtain ⟨_, D, hm, hD⟩ := h
  obtain ⟨v, ps, hrun, _⟩ := hm.look_ok str_keyed Try.underlying61 (zero_sl w) (slE_mk none 0 0) (key_str hs)
  rw [((hD.2 s).2 hp).1] at hrun
  clear hD hm hp
  go_enter Try.func37, Try.ntmps37
  go_wp2_with fail
  go_ret
  exact ⟨rfl, rfl⟩
theorem has_no (b lo N : Nat) (ws : List ByteArray) (s : ByteArray) (w : World) (h : Sts w lo b N ws (IsPre ws)) (hs : s.size ≤ maxLen) (hp : ¬ IsPre ws (bs s)) :
    Calls Try.prog 37 #[.map (some b), .string s] w fun e w' => e = .returned (.bool false) ∧ w' = w := by
  obtain ⟨_, D, hm, hD⟩ := h
  obtain ⟨v, ps, hrun, _⟩ := hm.look_ok str_keyed Try.underlying61 (zero_sl w) (slE_mk none 0 0) (key_str hs)
  rw [(hD.2 s).1 hp] at hrun
  clear hD hm hp
  go_enter Try.func37, Try.ntmps37
  go_wp2_with fail
  go_ret
  exact ⟨rfl, rfl⟩
/-- 'states[s]' as an equation: the places of the words with which s ends. -/
theorem look_any (b lo N : Nat) (ws : List ByteArray) (s : ByteArray) (w w' : World) (hf : Fine ws) (h : Sts w lo b N ws (IsPre ws)) (hb : Below w.heap.size w w') (hs : s.size ≤ maxLen) (hp : IsPre ws (bs s) ∨ bs s = []) :
    ∃ A c, (Instr.lookup 61 (.map (some b)) (.string s) false).run Try.prog w' = .ok (.slice A (endI ws (bs s) ws.length).length c) w' ∧ SlI w lo A (endI ws (bs s) ws.length) := by
  obtain ⟨_, D, hm, hD⟩ := h
  have hm' := owns_block hm (hb.block _ hm.lt)
  obtain ⟨v, ps, hrun, hv⟩ := hm'.lookup str_keyed Try.underlying61 (zero_sl w') (slE_mk none 0 0) (key_str hs)
  rcases hp with hp | hp
  · obtain ⟨_, A, c, hat, hsl⟩ := (hD.2 s).2 hp
    rw [hat] at hv
    obtain rfl := slE_inv hv
    exact ⟨A, c, hrun, hsl⟩
  · have hn : ¬ IsPre ws (bs s) := fun h' => h'.1 hp
    rw [atKey_of_not_has ((hD.2 s).1 hn)] at hv
    obtain rfl := slE_inv hv
    have e : endI ws (bs s) ws.length = [] := by rw [hp]; unfold endI; rw [endN_nil hf]; rfl
    rw [e]
    exact ⟨none, 0, hrun, IsInts.nil, fun a ha => by cases ha⟩
end Go.Proofs.Ytdkbgikniacekaa
