/-
  Contracts of package regex's three methods 'null', by which a part, a row, alternatives tell whether the empty text fits; what a part, a row and alternatives in memory are: whatever answers so. Conditions: slices of at most a thousand things.
-/
import Derived.Test.YtdhklkpeepmedaaDoorBase
import Derived.Test.YtdhklkpeepmedaaDoorOwn
namespace Go.Proofs.YtdhklkpeepmedaaDoor
open Go.RowKit

theorem cell_block {w W : World} {g : Nat} (h : W.heap[g]? = w.heap[g]?) (j : Nat) (o : Option Nat) : W.cell? ⟨g, j, o⟩ = w.cell? ⟨g, j, o⟩ := by simp only [World.cell?, h]
/-- The blocks of S are left alone. -/
structure Fr (S : Nat → Prop) (w W : World) : Prop where
  os : W.os = w.os
  tape : W.tape = w.tape
  output : W.output = w.output
  size : w.heap.size ≤ W.heap.size
  block : ∀ j, j < w.heap.size → S j → W.heap[j]? = w.heap[j]?
theorem Fr.of_below {S : Nat → Prop} {w W : World} (h : Below w.heap.size w W) : Fr S w W := ⟨h.os, h.tape, h.output, h.size, fun j hj _ => h.block j hj⟩
theorem Fr.trans {S T : Nat → Prop} {u w W : World} (h : Fr S u w) (k : Fr T w W) (hS : ∀ j, j < u.heap.size → S j → T j) : Fr S u W :=
  ⟨k.os.trans h.os, k.tape.trans h.tape, k.output.trans h.output, Nat.le_trans h.size k.size, fun j hj hs => (k.block j (Nat.lt_of_lt_of_le hj h.size) (hS j hj hs)).trans (h.block j hj hs)⟩
/-- Alternatives, a row: a slice value that answers b wherever the blocks of S are left alone. -/
def ChoV (S : Nat → Prop) (w : World) (v : Value) (b : Bool) : Prop := ∀ W, Fr S w W → Calls Tryd.prog 21 #[v] W fun e w' => e = .returned (.bool b) ∧ Below W.heap.size W w'
def SeqV (S : Nat → Prop) (w : World) (v : Value) (b : Bool) : Prop := ∀ W, Fr S w W → Calls Tryd.prog 32 #[v] W fun e w' => e = .returned (.bool b) ∧ Below W.heap.size W w'
theorem ChoV.to {S T : Nat → Prop} {w w' : World} {v : Value} {b : Bool} (h : ChoV S w v b) (hf : Fr S w w') (hS : ∀ j, j < w.heap.size → S j → T j) : ChoV T w' v b := fun W hW => h W (hf.trans hW hS)
theorem SeqV.to {S T : Nat → Prop} {w w' : World} {v : Value} {b : Bool} (h : SeqV S w v b) (hf : Fr S w w') (hS : ∀ j, j < w.heap.size → S j → T j) : SeqV T w' v b := fun W hW => h W (hf.trans hW hS)
/-- A part: its kind, its value; what it answers. -/
def PartV (S : Nat → Prop) (w : World) (t : TypeId) (v : Value) (b : Bool) : Prop :=
  (t = 126 ∧ (∃ c : UInt8, v = .int .u8 (c.toNat : Int)) ∧ b = false) ∨ (t = 122 ∧ (∃ u x, v = .agg #[.iface u x]) ∧ b = true) ∨ (t = 46 ∧ ChoV S w v b)
theorem PartV.to {S T : Nat → Prop} {w w' : World} {t : TypeId} {v : Value} {b : Bool} (h : PartV S w t v b) (hf : Fr S w w') (hS : ∀ j, j < w.heap.size → S j → T j) : PartV T w' t v b := by
  rcases h with h | h | ⟨ht, h⟩
  · exact .inl h
  · exact .inr (.inl h)
  · exact .inr (.inr ⟨ht, h.to hf hS⟩)
/-- All blocks. -/
def Ev : Nat → Prop := fun _ => True
theorem PartV.below {w w' : World} {t : TypeId} {v : Value} {b : Bool} (h : PartV Ev w t v b) (hb : Below w.heap.size w w') : PartV Ev w' t v b := h.to (Fr.of_below hb) fun _ _ _ => trivial
theorem SeqV.below {w w' : World} {v : Value} {b : Bool} (h : SeqV Ev w v b) (hb : Below w.heap.size w w') : SeqV Ev w' v b := h.to (Fr.of_below hb) fun _ _ _ => trivial

theorem letter_null (c : UInt8) (w : World) : Calls Tryd.prog 100 #[.int .u8 (c.toNat : Int)] w fun e w' => e = .returned (.bool false) ∧ w' = w := by
  go_enter Tryd.func100, Tryd.ntmps100
  go_wp2
  go_ret
  exact ⟨rfl, rfl⟩
theorem starred_null (u : TypeId) (x : Value) (w : World) : Calls Tryd.prog 99 #[.agg #[.iface u x]] w fun e w' => e = .returned (.bool true) ∧ Below w.heap.size w w' := by
  go_enter Tryd.func99, Tryd.ntmps99
  go_wp2
  go_ret
  exact ⟨rfl, (Below.refl _ _).alloc (Nat.le_refl _) _⟩

/-- Parts in cells: each with its kind, its value, its answer. -/
abbrev Pv := TypeId × Value × Bool
def encP1 (x : Pv) : List Value := [.iface x.1 x.2.1]
def PartsV (S : Nat → Prop) (w : World) (xs : List Pv) : Prop := ∀ x ∈ xs, PartV S w x.1 x.2.1 x.2.2
theorem PartsV.to {S T : Nat → Prop} {w w' : World} {xs : List Pv} (h : PartsV S w xs) (hf : Fr S w w') (hS : ∀ j, j < w.heap.size → S j → T j) : PartsV T w' xs := fun x hx => (h x hx).to hf hS
/-- Rows in cells: each with its slice value, its answer. -/
abbrev Sv := Option Addr × Nat × Nat × Bool
def svV (x : Sv) : Value := .slice x.1 x.2.1 x.2.2.1
def encS1 (x : Sv) : List Value := [svV x]
def RowsV (S : Nat → Prop) (w : World) (xs : List Sv) : Prop := ∀ x ∈ xs, SeqV S w (svV x) x.2.2.2
theorem RowsV.to {S T : Nat → Prop} {w w' : World} {xs : List Sv} (h : RowsV S w xs) (hf : Fr S w w') (hS : ∀ j, j < w.heap.size → S j → T j) : RowsV T w' xs := fun x hx => (h x hx).to hf hS

theorem all_to {xs : List Pv} {k : Nat} (hk : k < xs.length) : (xs.take (k + 1)).all (·.2.2) = ((xs.take k).all (·.2.2) && xs[k].2.2) := by
  rw [List.take_add_one, List.getElem?_eq_getElem hk, List.all_append]; simp
set_option maxRecDepth 100000 in
set_option maxHeartbeats 4000000 in
theorem seq_any (A : Option Addr) (n c : Nat) (xs : List Pv) (w : World) (hl : xs.length = n) (hn : n ≤ 1000) (hr : 0 < n → ∃ g, A = some ⟨g, 0, none⟩ ∧ g < w.heap.size ∧ ∀ j (h : j < xs.length), w.cell? ⟨g, j, none⟩ = some (.iface xs[j].1 xs[j].2.1)) (hp : PartsV Ev w xs) :
    Calls Tryd.prog 32 #[.slice A n c] w fun e w' => e = .returned (.bool (xs.all (·.2.2))) ∧ Below w.heap.size w w' := by
  have HR := hid hr
  have HP := hid hp
  have HL := hid hl
  have m1 : ∀ (v : Value) (W : World), (method 324 126 v "letterbeck/regex.null").run Tryd.prog W = .ok (100, v) W := fun _ _ => by kernel_rfl
  have m2 : ∀ (v : Value) (W : World), (method 324 122 v "letterbeck/regex.null").run Tryd.prog W = .ok (99, v) W := fun _ _ => by kernel_rfl
  have m3 : ∀ (v : Value) (W : World), (method 324 46 v "letterbeck/regex.null").run Tryd.prog W = .ok (21, v) W := fun _ _ => by kernel_rfl
  have L1 := fun c W => hid (letter_null c W)
  have L2 := fun u x W => hid (starred_null u x W)
  clear hr hp hl
  go_enter Tryd.func32, Tryd.ntmps32
  go_wp2_with fail
  go_loopw [4, 7] (fun _ x wr => ∃ k : Nat, k ≤ n ∧ x = .int .i64 k ∧ Hid ((xs.take k).all (·.2.2) = true) ∧ Below w.heap.size w wr) (fun _ x _ => n - (intOf x).toNat)
  case atStart => exact ⟨0, Nat.zero_le _, rfl, hid rfl, Below.refl _ _⟩
  case round =>
    obtain ⟨k, hk, rfl, HA, hb⟩ := hrel
    by_cases hlt : k < n
    · have hkl : k < xs.length := by rw [HL.out]; exact hlt
      obtain ⟨g, rfl, hg, hc⟩ := HR.out (by omega)
      have hc := (hb.cell hg).trans (hc k hkl)
      have hP := (HP.out xs[k] (List.getElem_mem hkl)).below hb
      have hS := all_to hkl
      rw [HA.out, Bool.true_and] at hS
      have hall : xs[k].2.2 = false → xs.all (·.2.2) = false := fun h => by
        rw [List.all_eq_false]
        exact ⟨xs[k], List.getElem_mem hkl, by rw [h]; decide⟩
      generalize xs[k] = x at hc hP hS hall
      obtain ⟨t, v, b⟩ := x
      simp only at hc hP hS hall
      have HC := hid (And.intro hS hall)
      clear hS hall hkl
      rcases hP with ⟨rfl, ⟨ch, rfl⟩, rfl⟩ | ⟨rfl, ⟨u, y, rfl⟩, rfl⟩ | ⟨rfl, hP⟩
      · go_wp2_with fail
        refine (L1 _ _).out.mono ?_
        rintro e w2 ⟨rfl, hw2⟩
        subst hw2
        go_wp2_with fail
        go_ret
        exact ⟨ret_bool (HC.out.2 (by trivial)).symm, hb⟩
      · go_wp2_with fail
        refine (L2 _ _ _).out.mono ?_
        rintro e w2 ⟨rfl, hb2⟩
        have hbw := hb.trans (hb2.mono hb.size)
        clear hb hb2 hc
        go_wp2_with fail
        go_roundw
        case rel => exact ⟨k + 1, hlt, by go_num, hid HC.out.1, hbw⟩
        case measure => first | (simp [intOf]; done) | (simp [intOf]; omega)
      · have HP2 := hid (hP wr (Fr.of_below (Below.refl _ _)))
        clear hP
        cases b with
        | false =>
          go_wp2_with fail
          refine HP2.out.mono ?_
          rintro e w2 ⟨rfl, hb2⟩
          have hbw := hb.trans (hb2.mono hb.size)
          clear hb hb2 hc HP2
          go_wp2_with fail
          go_ret
          exact ⟨ret_bool (HC.out.2 (by trivial)).symm, hbw⟩
        | true =>
          go_wp2_with fail
          refine HP2.out.mono ?_
          rintro e w2 ⟨rfl, hb2⟩
          have hbw := hb.trans (hb2.mono hb.size)
          clear hb hb2 hc HP2
          go_wp2_with fail
          go_roundw
          case rel => exact ⟨k + 1, hlt, by go_num, hid HC.out.1, hbw⟩
          case measure => first | (simp [intOf]; done) | (simp [intOf]; omega)
    · have hE : Hid (xs.all (·.2.2) = true) := hid (by
        have := HA.out
        rwa [List.take_of_length_le (by rw [HL.out]; omega)] at this)
      go_wp2_with fail
      go_ret
      exact ⟨ret_bool hE.out.symm, hb⟩
/-- 'slices.IndexFunc(c, sequence.null)' and 'slices.ContainsFunc'. -/
theorem any_to {xs : List Sv} {k : Nat} (hk : k < xs.length) : (xs.take (k + 1)).any (·.2.2.2) = ((xs.take k).any (·.2.2.2) || xs[k].2.2.2) := by
  rw [List.take_add_one, List.getElem?_eq_getElem hk, List.any_append]; simp
set_option maxRecDepth 100000 in
set_option maxHeartbeats 4000000 in
theorem idx_any (A : Option Addr) (n c : Nat) (xs : List Sv) (w : World) (hl : xs.length = n) (hn : n ≤ 1000) (hr : 0 < n → ∃ g, A = some ⟨g, 0, none⟩ ∧ g < w.heap.size ∧ ∀ j (h : j < xs.length), w.cell? ⟨g, j, none⟩ = some (svV xs[j])) (hp : RowsV Ev w xs) :
    Calls Tryd.prog 42 #[.slice A n c, .func (.func 32) #[] #[]] w fun e w' => (∃ x : Int, e = .returned (.int .i64 x) ∧ decide (0 ≤ x) = xs.any (·.2.2.2)) ∧ Below w.heap.size w w' := by
  have HR := hid hr
  have HP := hid hp
  have HL := hid hl
  clear hr hp hl
  go_enter Tryd.func42, Tryd.ntmps42
  go_wp2_with fail
  go_loopw [5, 8] (fun _ x wr => ∃ k : Nat, k ≤ n ∧ x = .int .i64 k ∧ Hid ((xs.take k).any (·.2.2.2) = false) ∧ Below w.heap.size w wr) (fun _ x _ => n - (intOf x).toNat)
  case atStart => exact ⟨0, Nat.zero_le _, rfl, hid rfl, Below.refl _ _⟩
  case round =>
    obtain ⟨k, hk, rfl, HA, hb⟩ := hrel
    by_cases hlt : k < n
    · have hkl : k < xs.length := by rw [HL.out]; exact hlt
      obtain ⟨g, rfl, hg, hc⟩ := HR.out (by omega)
      have hc := (hb.cell hg).trans (hc k hkl)
      have hP := (HP.out xs[k] (List.getElem_mem hkl)).below hb
      have hS := any_to hkl
      rw [HA.out, Bool.false_or] at hS
      have hall : xs[k].2.2.2 = true → xs.any (·.2.2.2) = true := fun h => by
        rw [List.any_eq_true]
        exact ⟨xs[k], List.getElem_mem hkl, h⟩
      generalize xs[k] = x at hc hP hS hall
      have HC := hid (And.intro hS hall)
      clear hS hall hkl
      have HP2 := hid (hP wr (Fr.of_below (Below.refl _ _)))
      clear hP
      obtain ⟨sA, sn, sc, b⟩ := x
      unfold svV at hc HP2
      simp only at hc HP2 HC
      cases b with
      | true =>
        go_wp2_with fail
        refine HP2.out.mono ?_
        rintro e w2 ⟨rfl, hb2⟩
        have hbw := hb.trans (hb2.mono hb.size)
        clear hb hb2 hc HP2
        go_wp2_with fail
        go_ret
        exact ⟨⟨_, rfl, by rw [HC.out.2 (by trivial)]; simp⟩, hbw⟩
      | false =>
        go_wp2_with fail
        refine HP2.out.mono ?_
        rintro e w2 ⟨rfl, hb2⟩
        have hbw := hb.trans (hb2.mono hb.size)
        clear hb hb2 hc HP2
        go_wp2_with fail
        go_roundw
        case rel => exact ⟨k + 1, hlt, by go_num, hid HC.out.1, hbw⟩
        case measure => first | (simp [intOf]; done) | (simp [intOf]; omega)
    · have hE : Hid (xs.any (·.2.2.2) = false) := hid (by
        have := HA.out
        rwa [List.take_of_length_le (by rw [HL.out]; omega)] at this)
      go_wp2_with fail
      go_ret
      exact ⟨⟨_, rfl, by rw [hE.out]; decide⟩, hb⟩
set_option maxRecDepth 100000 in
set_option maxHeartbeats 4000000 in
theorem contains_any (A : Option Addr) (n c : Nat) (xs : List Sv) (w : World) (hl : xs.length = n) (hn : n ≤ 1000) (hr : 0 < n → ∃ g, A = some ⟨g, 0, none⟩ ∧ g < w.heap.size ∧ ∀ j (h : j < xs.length), w.cell? ⟨g, j, none⟩ = some (svV xs[j])) (hp : RowsV Ev w xs) :
    Calls Tryd.prog 31 #[.slice A n c, .func (.func 32) #[] #[]] w fun e w' => e = .returned (.bool (xs.any (·.2.2.2))) ∧ Below w.heap.size w w' := by
  have HC := hid (idx_any A n c xs w hl hn hr hp)
  clear hr hp hl
  go_enter Tryd.func31, Tryd.ntmps31
  go_wp2_with fail
  refine HC.out.mono ?_
  rintro e w1 ⟨⟨x, rfl, hx⟩, hb⟩
  have HX := hid hx
  clear hx
  go_wp2_with fail
  go_ret
  exact ⟨ret_bool (by rw [← HX.out]), hb⟩
set_option maxRecDepth 100000 in
set_option maxHeartbeats 4000000 in
theorem cho_any (A : Option Addr) (n c : Nat) (xs : List Sv) (w : World) (hl : xs.length = n) (hn : n ≤ 1000) (hr : 0 < n → ∃ g, A = some ⟨g, 0, none⟩ ∧ g < w.heap.size ∧ ∀ j (h : j < xs.length), w.cell? ⟨g, j, none⟩ = some (svV xs[j])) (hp : RowsV Ev w xs) :
    Calls Tryd.prog 21 #[.slice A n c] w fun e w' => e = .returned (.bool (xs.any (·.2.2.2))) ∧ Below w.heap.size w w' := by
  have HC := hid (contains_any A n c xs w hl hn hr hp)
  clear hr hp hl
  go_enter Tryd.func21, Tryd.ntmps21
  go_wp2_with fail
  refine HC.out.mono ?_
  rintro e w1 ⟨rfl, hb⟩
  go_wp2_with fail
  go_ret
  exact ⟨rfl, hb⟩
/-- A row, alternatives of the call's own answer so. -/
theorem SeqV.of_own {w : World} {S T : Nat → Prop} {base : Nat} {e : TypeId} {v : Value} {xs : List Pv} (h : OwnX encP1 1 w base e v xs) (hn : xs.length ≤ 1000) (hp : PartsV S w xs) (hS : ∀ j, j < w.heap.size → S j → T j) (hT : ∀ j, base ≤ j → T j) : SeqV T w v (xs.all (·.2.2)) := by
  intro W hW
  have hW2 : Fr S w W := ⟨hW.os, hW.tape, hW.output, hW.size, fun j hj hs => hW.block j hj (hS j hj hs)⟩
  obtain ⟨A, c, rfl, hc, hr⟩ := h.read (fun x => (rfl : (encP1 x).length = 1))
  refine seq_any A _ c xs W rfl hn (fun h0 => ?_) (hp.to hW2 fun _ _ _ => trivial)
  obtain ⟨g, rfl, hbg, hg, hcell⟩ := hr h0
  refine ⟨g, rfl, by have := hW.size; omega, fun j hj => ?_⟩
  have := (cell_block (hW.block g hg (hT g hbg)) _ _).trans (hcell j hj 0 (by decide))
  simpa [encP1] using this
theorem ChoV.of_own {w : World} {S T : Nat → Prop} {base : Nat} {e : TypeId} {v : Value} {xs : List Sv} (h : OwnX encS1 1 w base e v xs) (hn : xs.length ≤ 1000) (hp : RowsV S w xs) (hS : ∀ j, j < w.heap.size → S j → T j) (hT : ∀ j, base ≤ j → T j) : ChoV T w v (xs.any (·.2.2.2)) := by
  intro W hW
  have hW2 : Fr S w W := ⟨hW.os, hW.tape, hW.output, hW.size, fun j hj hs => hW.block j hj (hS j hj hs)⟩
  obtain ⟨A, c, rfl, hc, hr⟩ := h.read (fun x => (rfl : (encS1 x).length = 1))
  refine cho_any A _ c xs W rfl hn (fun h0 => ?_) (hp.to hW2 fun _ _ _ => trivial)
  obtain ⟨g, rfl, hbg, hg, hcell⟩ := hr h0
  refine ⟨g, rfl, by have := hW.size; omega, fun j hj => ?_⟩
  have := (cell_block (hW.block g hg (hT g hbg)) _ _).trans (hcell j hj 0 (by decide))
  simpa [encS1] using this
/-- Rows of parts that turn at their own block only: the others stay. -/
def Oth (base : Nat) (v : Value) : Nat → Prop := fun j => base ≤ j ∧ some j ≠ v.ownBlock
theorem Turn.fr {w w' : World} {v v' : Value} {base : Nat} (h : Turn w w' v v') : Fr (Oth base v) w w' ∧ ∀ j, j < w.heap.size → Oth base v j → Oth base v' j := by
  refine ⟨⟨h.os, h.tape, h.output, h.size, fun j hj hs => h.block j hj hs.2⟩, fun j hj hs => ⟨hs.1, fun e => ?_⟩⟩
  rcases h.here with h' | ⟨g, h', hg⟩
  · exact hs.2 (e.trans h')
  · have : j = g := Option.some.inj (e.trans h')
    omega
theorem encP1_len (x : Pv) : (encP1 x).length = 1 := rfl
theorem encS1_len (x : Sv) : (encS1 x).length = 1 := rfl
theorem encP1_one (x : Pv) : ∀ u ∈ encP1 x, u.oneCell' = true := fun u hu => by
  simp only [encP1, List.mem_singleton] at hu; subst hu; rfl
theorem encS1_one (x : Sv) : ∀ u ∈ encS1 x, u.oneCell' = true := fun u hu => by
  simp only [encS1, List.mem_singleton, svV] at hu; subst hu; rfl
theorem part_info : (Tryd.prog.info? 85).map (fun i => (i.zero, i.size, i.bytes)) = some (some .nilIface, 1, 16) := by kernel_rfl
theorem seq_info : (Tryd.prog.info? 64).map (fun i => (i.zero, i.size, i.bytes)) = some (some (.slice none 0 0), 1, 24) := by kernel_rfl
end Go.Proofs.YtdhklkpeepmedaaDoor
