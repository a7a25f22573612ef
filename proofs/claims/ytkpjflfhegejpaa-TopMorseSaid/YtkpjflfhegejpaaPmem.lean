/-
  Plain facts on slices of pieces (structs of a number and a sign) and on slices of texts of the call's own that grow by turns: what they hold, that it is kept, 'append'. No condition.
-/
import Derived.Test.YtkpjflfhegejpaaMem
import Derived.Test.YtkpjflfhegejpaaOwn
namespace Go.Proofs.Ytkpjflfhegejpaa
open Go.RowKit

/-- A piece's two cells. -/
def encP (x : Int × UInt8) : List Value := [.int .i64 x.1, .int .u8 (x.2.toNat : Int)]
/-- A text's cell. -/
def encS (s : ByteArray) : List Value := [.string s]
/-- The slice value '.slice A n _' holds the pieces xs in world w, below block B. -/
def IsPcs (w : World) (B : Nat) (A : Option Addr) (n : Nat) (xs : List (Int × UInt8)) : Prop :=
  xs.length = n ∧ (0 < n → ∃ g off, A = some ⟨g, off, none⟩ ∧ g < B ∧ ∀ j, j < n → w.cell? ⟨g, off + j * 2, none⟩ = some (.int .i64 (xs.getD j (0, 0)).1) ∧ w.cell? ⟨g, off + j * 2 + 1, none⟩ = some (.int .u8 ((xs.getD j (0, 0)).2.toNat : Int)))
theorem IsPcs.keep {w w' : World} {B B' n : Nat} {A : Option Addr} {xs : List (Int × UInt8)} (h : IsPcs w B A n xs) (hB : B ≤ B')
    (hk : ∀ b o, b < B → w'.cell? ⟨b, o, none⟩ = w.cell? ⟨b, o, none⟩) : IsPcs w' B' A n xs :=
  ⟨h.1, fun hn => by
    obtain ⟨g, off, e, hg, hc⟩ := h.2 hn
    exact ⟨g, off, e, by omega, fun j hj => ⟨(hk _ _ hg).trans (hc j hj).1, (hk _ _ hg).trans (hc j hj).2⟩⟩⟩
theorem IsPcs.below {w w' : World} {B n : Nat} {A : Option Addr} {xs : List (Int × UInt8)} (h : IsPcs w B A n xs) (hb : Below B w w') : IsPcs w' B A n xs :=
  h.keep (Nat.le_refl _) fun _ _ hp => hb.cell hp
theorem IsPcs.on {w w' : World} {n : Nat} {A : Option Addr} {xs : List (Int × UInt8)} (h : IsPcs w w.heap.size A n xs) (hb : Below w.heap.size w w') : IsPcs w' w'.heap.size A n xs :=
  h.keep hb.size fun _ _ hp => hb.cell hp
theorem IsPcs.nil {w : World} {B : Nat} {A : Option Addr} : IsPcs w B A 0 [] := ⟨rfl, fun h => absurd h (by omega)⟩
theorem encP_len (x : Int × UInt8) : (encP x).length = 2 := rfl
theorem encS_len (x : ByteArray) : (encS x).length = 1 := rfl
theorem encP_one (x : Int × UInt8) : ∀ u ∈ encP x, u.oneCell' = true := by
  intro u hu; simp [encP] at hu; rcases hu with rfl | rfl <;> rfl
theorem encS_one (x : ByteArray) : ∀ u ∈ encS x, u.oneCell' = true := by
  intro u hu; simp [encS] at hu; subst hu; rfl
theorem flatP_len (xs : List (Int × UInt8)) : (xs.flatMap encP).length = xs.length * 2 := by
  induction xs with
  | nil => rfl
  | cons x xs ih => rw [List.flatMap_cons, List.length_append, ih]; simp [encP]; omega
theorem flatS_len (xs : List ByteArray) : (xs.flatMap encS).length = xs.length * 1 := by
  induction xs with
  | nil => rfl
  | cons x xs ih => rw [List.flatMap_cons, List.length_append, ih]; simp [encS]; omega
theorem IsPcs.of_own {w : World} {base : Nat} {e : TypeId} {v : Value} {xs : List (Int × UInt8)} (h : OwnX encP 2 w base e v xs) :
    ∃ A c, v = .slice A xs.length c ∧ xs.length ≤ c ∧ IsPcs w w.heap.size A xs.length xs := by
  obtain ⟨A, c, hv, hc, hr⟩ := h.read encP_len
  refine ⟨A, c, hv, hc, rfl, fun hn => ?_⟩
  obtain ⟨g, hA, _, hg, hcell⟩ := hr hn
  refine ⟨g, 0, hA, hg, fun j hj => ?_⟩
  have e : xs.getD j (0, 0) = xs[j] := by rw [List.getD_eq_getElem?_getD, List.getElem?_eq_getElem hj]; rfl
  rw [Nat.zero_add, e]
  exact ⟨hcell j hj 0 (by omega), hcell j hj 1 (by omega)⟩
/-- A slice of texts of the call's own, by its cells. -/
theorem textsOf {w : World} {base : Nat} {e : TypeId} {v : Value} {ws : List ByteArray} (h : OwnX encS 1 w base e v ws) (h0 : 0 < ws.length) :
    ∃ g c, v = .slice (some ⟨g, 0, none⟩) ws.length c ∧ base ≤ g ∧ g < w.heap.size ∧ ∀ j, j < ws.length → w.cell? ⟨g, j, none⟩ = some (.string (ws.getD j ByteArray.empty)) := by
  obtain ⟨A, c, hv, hc, hr⟩ := h.read encS_len
  obtain ⟨g, rfl, hb, hg, hcell⟩ := hr h0
  refine ⟨g, c, hv, hb, hg, fun j hj => ?_⟩
  have e : ws.getD j ByteArray.empty = ws[j] := by rw [List.getD_eq_getElem?_getD, List.getElem?_eq_getElem hj]; rfl
  have := hcell j hj 0 (by omega)
  rw [Nat.mul_one, Nat.add_zero] at this
  rw [this, e]
  rfl
/-- A slice literal of pieces, as it has just been laid. -/
theorem IsPcs.lit (w : World) (xs : List (Int × UInt8)) (cs : Array Value) (e : TypeId) (h : cs = (xs.flatMap encP).toArray) (hm : xs.length ≤ maxLen) :
    IsPcs (w.alloc (.cells cs e)) (w.heap.size + 1) (some ⟨w.heap.size, 0, none⟩) xs.length xs := by
  obtain ⟨A, c, hv, _, hI⟩ := IsPcs.of_own (OwnX.lit w 0 e xs cs h (flatP_len xs) (Nat.zero_le _) hm)
  injection hv with h1 h2 h3
  subst h1
  simpa using hI

/-- 'out = append(out, piece)', out nil or the call's own. -/
theorem wpList_append_piece {P : Program} (wr : World) {ops : Array Oper} {rest : List Oper} {o : Oper} {a : Act} {Q : Exit → Act → World → Prop} (hgd : o.guard = none) (s x : Operand) (t : TypeId)
    (ho : o.op = .call { callee := .builtin .append, args := #[s, x], argTypes := #[t, t] }) (base : Nat) (e : TypeId) (i : TypeInfo)
    (ht : P.underlying t = some (.slice e)) (hi : P.info? e = some i) (hz : i.zero = some (.agg #[.int .i64 0, .int .u8 0])) (hsize : i.size = 2) (hby : i.bytes = 16)
    (v : Value) (cs : List (Int × UInt8)) (hs : a.eval s = v) (hown : OwnX encP 2 wr base e v cs) (k : Int × UInt8) (hx : a.eval x = .slice (some ⟨wr.heap.size, 0, none⟩) 1 1)
    (hlen : cs.length ≤ 1099511627776) (hbase : base ≤ wr.heap.size)
    (h : ∀ v' w', OwnX encP 2 w' base e v' (cs ++ [k]) → Turn wr w' v v' → wpList P ops Q rest (a.put o.dst v') w') :
    wpList P ops Q (o :: rest) a (wr.alloc (.cells #[.int .i64 k.1, .int .u8 (k.2.toNat : Int)] e)) :=
  wpList_append_x wr hgd s x t ho base e i encP 2 _ 16 encP_len encP_one (by decide) (by decide) ht hi hz hsize hby rfl v cs hs hown k hx hlen hbase h
/-- 'texts = append(texts, t)', texts nil or the call's own. -/
theorem wpList_append_text {P : Program} (wr : World) {ops : Array Oper} {rest : List Oper} {o : Oper} {a : Act} {Q : Exit → Act → World → Prop} (hgd : o.guard = none) (s x : Operand) (t : TypeId)
    (ho : o.op = .call { callee := .builtin .append, args := #[s, x], argTypes := #[t, t] }) (base : Nat) (e : TypeId) (i : TypeInfo)
    (ht : P.underlying t = some (.slice e)) (hi : P.info? e = some i) (hz : i.zero = some (.string ByteArray.empty)) (hsize : i.size = 1) (hby : i.bytes = 16)
    (v : Value) (cs : List ByteArray) (hs : a.eval s = v) (hown : OwnX encS 1 wr base e v cs) (k : ByteArray) (hx : a.eval x = .slice (some ⟨wr.heap.size, 0, none⟩) 1 1)
    (hlen : cs.length ≤ 1099511627776) (hbase : base ≤ wr.heap.size)
    (h : ∀ v' w', OwnX encS 1 w' base e v' (cs ++ [k]) → Turn wr w' v v' → wpList P ops Q rest (a.put o.dst v') w') :
    wpList P ops Q (o :: rest) a (wr.alloc (.cells #[.string k] e)) :=
  wpList_append_x wr hgd s x t ho base e i encS 1 _ 16 encS_len encS_one (by decide) (by decide) ht hi hz hsize hby rfl v cs hs hown k hx hlen hbase h
end Go.Proofs.Ytkpjflfhegejpaa
