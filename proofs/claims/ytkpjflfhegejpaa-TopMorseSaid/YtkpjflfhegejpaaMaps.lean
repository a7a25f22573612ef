/-
  Look-ups in maps of the call's own whose elements are bools or pointers, with the answer known ahead. No condition.
-/
import Derived.Test.YtkpjflfhegejpaaMem
import Derived.Maps.OwnSet
import Derived.Maps.RangeWalk
import Derived.OneCell
namespace Go.Proofs.Ytkpjflfhegejpaa
open Go.RowKit Go.Maps

/-- The key of a sign. -/
def keyL (c : UInt8) : Lit := .int .u8 (c.toNat : Int)
theorem keyL_wf (c : UInt8) : (keyL c).wf = true := WalkArith.wf_u8 (by have := c.toNat_lt; omega)
theorem keyL_ne {c d : UInt8} (h : c ≠ d) : keyL c ≠ keyL d := by
  intro e
  apply h
  simp [keyL] at e
  exact UInt8.toNat_inj.1 (by omega)
theorem keyL_key (c : UInt8) : WideAt.IsKeyLit (keyL c) := trivial

/-- How a pointer to a whole block reads here: by the block's number. -/
def ptrE : Value → Option (DataW Unit × List MemPlace)
  | .pointer none => some (.lit (.int .i64 (-1)), [])
  | .pointer (some ⟨b, 0, none⟩) => some (.lit (.int .i64 (b : Int)), [])
  | _ => none
theorem ptrE_mk (b : Nat) : ptrE (.pointer (some ⟨b, 0, none⟩)) = some (.lit (.int .i64 (b : Int)), []) := rfl
theorem ptrE_nil : ptrE (.pointer none) = some (.lit (.int .i64 (-1)), []) := rfl
theorem ptrE_inv {v : Value} {b : Nat} {ps : List MemPlace} (h : ptrE v = some (.lit (.int .i64 (b : Int)), ps)) : v = .pointer (some ⟨b, 0, none⟩) := by
  unfold ptrE at h
  split at h
  · simp at h
  · simp at h; obtain ⟨h, _⟩ := h; obtain rfl := Int.ofNat_inj.1 h; rfl
  · cases h
theorem ptrE_inv_nil {v : Value} {ps : List MemPlace} (h : ptrE v = some (.lit (.int .i64 (-1)), ps)) : v = .pointer none := by
  unfold ptrE at h
  split at h
  · rfl
  · simp at h
  · cases h
theorem ptrE_shape {v : Value} {y : DataW Unit × List MemPlace} (h : ptrE v = some y) : ∃ p, v = .pointer p := by
  unfold ptrE at h
  split at h
  · exact ⟨_, rfl⟩
  · exact ⟨_, rfl⟩
  · cases h

theorem plainElem_bool_inv {H : Type} {P : Program} {e : TypeId} (he : P.underlying e = some .bool) {v : Value} {z : DataW H × List MemPlace} (h : plainElem P e v = some z) : ∃ x, v = .bool x ∧ z = (.lit (.bool x), []) := by
  unfold plainElem at h
  rw [he] at h
  cases v <;> simp at h
  exact ⟨_, rfl, h.symm⟩

section
variable {P : Program} {ops : Array Oper} {rest : List Oper} {o : Oper} {a : Act} {Q : Exit → Act → World → Prop}
/-- 'm[k]' in a map of bools. -/
theorem wpList_lookup_bool {H : Type} (w : World) (hg : o.guard = none) (m x : Operand) (t : TypeId) (hop : o.op = Op.lookup t m x false)
    (k e : TypeId) (K : Keyed P k) (ht : P.underlying t = some (.map k e)) (he : P.underlying e = some .bool) (hz : (zeroValue e).run P w = .ok (.bool false) w) (b n : Nat) (D : DataW H)
    (hm : a.eval m = .map (some b)) (hown : w.ownsMap P k (plainElem P e) b n D) (key : Value) (kl : Lit) (hx : a.eval x = key) (hkey : keyOf P k key = some kl)
    (c : Bool) (hat : D.atKey kl (.lit (.bool false)) = .lit (.bool c)) (hK : wpList P ops Q rest (a.put o.dst (.bool c)) w) :
    wpList P ops Q (o :: rest) a w := by
  refine wpList_plain hg fun K' hK' => ?_
  obtain ⟨v, ps, hrun, hv⟩ := hown.lookup K ht hz (plainElem_bool he false) hkey
  rw [hat] at hv
  obtain ⟨x', rfl, e'⟩ := plainElem_bool_inv he hv
  obtain rfl : c = x' := by simpa using congrArg Prod.fst e'
  unfold Oper.wp
  simp [execOp, hop, hm, hx, hrun, Result.andThen]
  exact hK' _ _ hK
/-- 'm[k]' in a map of pointers, where there is one. -/
theorem wpList_lookup_ptr (w : World) (hg : o.guard = none) (m x : Operand) (t : TypeId) (hop : o.op = Op.lookup t m x false)
    (k e : TypeId) (K : Keyed P k) (ht : P.underlying t = some (.map k e)) (hz : (zeroValue e).run P w = .ok (.pointer none) w) (b n : Nat) (D : DataW Unit)
    (hm : a.eval m = .map (some b)) (hown : w.ownsMap P k ptrE b n D) (key : Value) (kl : Lit) (hx : a.eval x = key) (hkey : keyOf P k key = some kl)
    (c : Nat) (hat : ∀ z, D.atKey kl z = .lit (.int .i64 (c : Int))) (hK : wpList P ops Q rest (a.put o.dst (.pointer (some ⟨c, 0, none⟩))) w) :
    wpList P ops Q (o :: rest) a w := by
  refine wpList_plain hg fun K' hK' => ?_
  obtain ⟨v, ps, hrun, hv⟩ := hown.lookup K ht hz ptrE_nil hkey
  rw [hat] at hv
  obtain rfl := ptrE_inv hv
  unfold Oper.wp
  simp [execOp, hop, hm, hx, hrun, Result.andThen]
  exact hK' _ _ hK
end
/-- 'v, ok := m[k]' as an equation: there is one. -/
theorem look_ptr_yes {P : Program} {w : World} {t k e : TypeId} {b n : Nat} {D : DataW Unit} (hown : w.ownsMap P k ptrE b n D) (K : Keyed P k) (ht : P.underlying t = some (.map k e)) (hz : (zeroValue e).run P w = .ok (.pointer none) w)
    {key : Value} {kl : Lit} (hkey : keyOf P k key = some kl) {c : Nat} (hat : ∀ z, D.atKey kl z = .lit (.int .i64 (c : Int))) (hh : Maps.has D kl = true) :
    (Instr.lookup t (.map (some b)) key true).run P w = .ok (.tuple #[.pointer (some ⟨c, 0, none⟩), .bool true]) w := by
  obtain ⟨v, ps, hrun, hv⟩ := hown.look_ok K ht hz ptrE_nil hkey
  rw [hat] at hv
  obtain rfl := ptrE_inv hv
  rw [hrun, hh]
/-- .. there is none. -/theorem look_ptr_none {P : Program} {w : World} {t k e : TypeId} {b n : Nat} {D : DataW Unit} (hown : w.ownsMap P k ptrE b n D) (K : Keyed P k) (ht : P.underlying t = some (.map k e)) (hz : (zeroValue e).run P w = .ok (.pointer none) w)
    {key : Value} {kl : Lit} (hkey : keyOf P k key = some kl) (hh : Maps.has D kl = false) :
    (Instr.lookup t (.map (some b)) key true).run P w = .ok (.tuple #[.pointer none, .bool false]) w := by
  obtain ⟨v, ps, hrun, hv⟩ := hown.look_ok K ht hz ptrE_nil hkey
  rw [atKey_of_not_has hh] at hv
  obtain rfl := ptrE_inv_nil hv
  rw [hrun, hh]
end Go.Proofs.Ytkpjflfhegejpaa
