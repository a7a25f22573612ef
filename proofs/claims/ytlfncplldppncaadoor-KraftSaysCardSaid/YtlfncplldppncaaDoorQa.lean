/-
  Several of this claim's texts in one (As, Err, Post, Mem, Border, Base, Iarg): what each proves stands at its own head. Conditions: as each says.
-/
import Derived.Test.YtlfncplldppncaaDoorProg
import Derived.WalkKit
import Derived.LaidEql
import Derived.Stop.Asserts
import Derived.RowKitTokens
import Derived.Handy
import Derived.Below
import Derived.ChangeSame
import Derived.ProofKit
import Derived.Deep.QuietTactic
import Derived.BigQuiet
import Derived.Deep.Draws
import Derived.Outline
import Derived.ChangeSlices
import Derived.Carry

/-
  Contracts of errors.As at the target *api.Errno, and of plain.Told and letterbecksame.Error: of no error the answer is 0, of an Errno it is that number. Conditions: package errors' variable errorType holds the handle of the type error, as the program's own text lays it.
-/
namespace Go.Proofs.YtlfncplldppncaaDoor
open Go.RowKit Go.Extern.Stop Go.Stop Go.Extern

theorem as_nil (t : Value) (w : World) : Calls Tryd.prog 32 #[.nilIface, t] w fun e w' => e = .returned (.bool false) ∧ w' = w := by
  go_enter Tryd.func32, Tryd.ntmps32
  go_wp2
  go_ret
  exact ⟨rfl, rfl⟩

theorem rl_method (z : Sem Value) (f : TypeId → Addr → Nat → Nat → Sem Value) (v : Value) :
    ReflectliteValue.method z f #[v] = (do match ← ReflectliteValue.parts v with | none => z | some (t, a, fl) => f t a fl (fl % 32)) := rfl
theorem rl_valueOfP (t : Addr) (w : World) : (ReflectliteValue.unpack (.iface 57 (.pointer (some t)))).run Tryd.prog w
    = .ok (.agg #[.pointer (some ⟨1, 57, none⟩), .pointer (some ⟨w.heap.size, 0, none⟩), .int .u64 150]) (w.alloc (.cells #[.pointer (some t)] 57)) := by kernel_rfl
theorem rl_typeP (a : Addr) (w : World) : (ReflectliteValue.methodAny (ReflectliteValue.valueError "reflectlite.Value.Type" 0) (fun t _ _ _ => ReflectliteType.toType t) #[.agg #[.pointer (some ⟨1, 57, none⟩), .pointer (some a), .int .u64 150]]).run Tryd.prog w
    = .ok (.iface 75 (.agg #[.pointer (some ⟨1, 57, none⟩)])) w := by kernel_rfl
theorem rl_kindP (w : World) : ((ReflectliteType.abiMethod fun t => (fun a : Nat => Value.int IntKind.u8 (a : Int)) <$> Rtype.kind t) #[.pointer (some ⟨1, 57, none⟩)]).run Tryd.prog w = .ok (.int .u8 22) w := by kernel_rfl
theorem rl_kindE (w : World) : ((ReflectliteType.abiMethod fun t => (fun a : Nat => Value.int IntKind.u8 (a : Int)) <$> Rtype.kind t) #[.pointer (some ⟨1, 44, none⟩)]).run Tryd.prog w = .ok (.int .u8 2) w := by kernel_rfl
theorem rl_partsP (a : Addr) (w : World) : (ReflectliteValue.parts (.agg #[.pointer (some ⟨1, 57, none⟩), .pointer (some a), .int .u64 150])).run Tryd.prog w = .ok (some (57, a, 150)) w := by kernel_rfl
theorem rl_isNilP (a p : Addr) (W : World) (ha : W.cell? a = some (.pointer (some p))) :
    (ReflectliteValue.method (ReflectliteValue.valueError "reflectlite.Value.IsNil" 0) ReflectliteValue.isNil #[.agg #[.pointer (some ⟨1, 57, none⟩), .pointer (some a), .int .u64 150]]).run Tryd.prog W = .ok (.bool false) W := by
  rw [rl_method]
  simp only [Sem.run_bind, rl_partsP, Result.andThen]
  simp [ReflectliteValue.isNil, loadVar, isAgg, underlying, Tryd.underlying57, ha, Result.andThen]
theorem rl_methodKind (h : Value) (w : World) : (Go.method 254 75 (.agg #[h]) "Kind").run Tryd.prog w = .ok (63, h) w := by kernel_rfl
theorem rl_methodElem (h : Value) (w : World) : (Go.method 254 75 (.agg #[h]) "Elem").run Tryd.prog w = .ok (73, .agg #[h]) w := by kernel_rfl
theorem rl_methodImplements (h : Value) (w : World) : (Go.method 254 75 (.agg #[h]) "Implements").run Tryd.prog w = .ok (74, .agg #[h]) w := by kernel_rfl
theorem rl_methodAssignableTo (h : Value) (w : World) : (Go.method 254 75 (.agg #[h]) "AssignableTo").run Tryd.prog w = .ok (71, .agg #[h]) w := by kernel_rfl
theorem rl_elemP (w : World) : (ReflectliteType.method ReflectliteType.elem #[.agg #[.pointer (some ⟨1, 57, none⟩)]]).run Tryd.prog w = .ok (.iface 75 (.agg #[.pointer (some ⟨1, 44, none⟩)])) w := by kernel_rfl
theorem rl_implementsE (w : World) : (ReflectliteType.relation "Implements" ReflectliteType.implements_ #[.agg #[.pointer (some ⟨1, 44, none⟩)], .iface 75 (.agg #[.pointer (some ⟨1, 27, none⟩)])]).run Tryd.prog w = .ok (.bool true) w := by kernel_rfl
theorem rl_typeOfE (v : Value) (w : World) : (ReflectliteType.typeOf #[.iface 44 v]).run Tryd.prog w = .ok (.iface 75 (.agg #[.pointer (some ⟨1, 44, none⟩)])) w := by kernel_rfl
theorem rl_assignableE (w : World) : (ReflectliteType.relation "AssignableTo" ReflectliteType.assignableTo #[.agg #[.pointer (some ⟨1, 44, none⟩)], .iface 75 (.agg #[.pointer (some ⟨1, 44, none⟩)])]).run Tryd.prog w = .ok (.bool true) w := by kernel_rfl
theorem rl_valueOfE (k : Int) (w : World) : (ReflectliteValue.unpack (.iface 44 (.int .i64 k))).run Tryd.prog w
    = .ok (.agg #[.pointer (some ⟨1, 44, none⟩), .pointer (some ⟨w.heap.size, 0, none⟩), .int .u64 130]) (w.alloc (.cells #[.int .i64 k] 44)) := by kernel_rfl
theorem rl_elemOfP (w : World) : (Rtype.elem? 57).run Tryd.prog w = .ok (some 44) w := by kernel_rfl
theorem rl_mkE (p : Addr) (w : World) : (ReflectliteValue.mk 44 p ReflectliteValue.flagAddr).run Tryd.prog w = .ok (.agg #[.pointer (some ⟨1, 44, none⟩), .pointer (some p), .int .u64 386]) w := by kernel_rfl
theorem rl_elemVP (a p : Addr) (W : World) (ha : W.cell? a = some (.pointer (some p))) :
    (ReflectliteValue.method (ReflectliteValue.valueError "reflectlite.Value.Elem" 0) ReflectliteValue.elem #[.agg #[.pointer (some ⟨1, 57, none⟩), .pointer (some a), .int .u64 150]]).run Tryd.prog W
      = .ok (.agg #[.pointer (some ⟨1, 44, none⟩), .pointer (some p), .int .u64 386]) W := by
  rw [rl_method]
  simp only [Sem.run_bind, rl_partsP, Result.andThen]
  simp [ReflectliteValue.elem, loadVar, isAgg, underlying, Tryd.underlying57, ha, Result.andThen, rl_elemOfP, rl_mkE]
theorem rl_partsEa (a : Addr) (w : World) : (ReflectliteValue.parts (.agg #[.pointer (some ⟨1, 44, none⟩), .pointer (some a), .int .u64 386])).run Tryd.prog w = .ok (some (44, a, 386)) w := by kernel_rfl
theorem rl_partsE (a : Addr) (w : World) : (ReflectliteValue.parts (.agg #[.pointer (some ⟨1, 44, none⟩), .pointer (some a), .int .u64 130])).run Tryd.prog w = .ok (some (44, a, 130)) w := by kernel_rfl
theorem rl_directE (w : World) : (Rtype.directlyAssignable 44 44).run Tryd.prog w = .ok true w := by kernel_rfl
theorem rl_setE (ta b : Addr) (k : Int) (old : Value) (W : World) (hb : W.cell? b = some (.int .i64 k)) (ht : W.cell? ta = some old) (hf : W.frozen? ta = false) :
    (ReflectliteValue.set #[.agg #[.pointer (some ⟨1, 44, none⟩), .pointer (some ta), .int .u64 386], .agg #[.pointer (some ⟨1, 44, none⟩), .pointer (some b), .int .u64 130]]).run Tryd.prog W
      = .ok (.tuple #[]) (W.setCell ta (.int .i64 k)) := by
  refine Eq.trans (congrArg (fun m => Sem.run Tryd.prog m W) (show ReflectliteValue.set #[.agg #[.pointer (some ⟨1, 44, none⟩), .pointer (some ta), .int .u64 386], .agg #[.pointer (some ⟨1, 44, none⟩), .pointer (some b), .int .u64 130]]
    = (ReflectliteValue.parts (.agg #[.pointer (some ⟨1, 44, none⟩), .pointer (some ta), .int .u64 386]) >>= fun p => ReflectliteValue.parts (.agg #[.pointer (some ⟨1, 44, none⟩), .pointer (some b), .int .u64 130]) >>= fun q => _) from rfl)) ?_
  simp only [Sem.run_bind, rl_partsEa, rl_partsE, Result.andThen]
  simp [ReflectliteValue.flagAddr, loadVar, isAgg, underlying, Tryd.underlying44, hb, Result.andThen, rl_directE, storeVar, Value.cells, storeCells, Addr.add]
  rw [run_store Tryd.prog W ta _ _ (by rfl)]
  simp [ht, hf]

set_option maxHeartbeats 4000000 in
theorem as_hit (k : Int) (t : Addr) (old : Value) (w : World) (hg : w.cell? ⟨0, 0, none⟩ = some (.iface 75 (.agg #[.pointer (some ⟨1, 27, none⟩)]))) (ht0 : w.cell? t = some old) (hf0 : w.frozen? t = false) :
    Calls Tryd.prog 32 #[.iface 44 (.int .i64 k), .iface 57 (.pointer (some t))] w fun ev w' => ev = .returned (.bool true) ∧ w' = ((((w.alloc (.cells #[.pointer (some t)] 57)).alloc (.cells #[.pointer (some ⟨1, 57, none⟩), .pointer (some ⟨w.heap.size, 0, none⟩), .int .u64 150] 64)).alloc (.cells #[.pointer (some ⟨1, 57, none⟩), .pointer (some ⟨w.heap.size, 0, none⟩), .int .u64 150] 64)).alloc (.cells #[.int .i64 k] 44)).setCell t (.int .i64 k) := by
  have h15 := @run_callFunc_extern Tryd.prog 36 _ (fun args => ReflectliteValue.unpack (args.getD 0 (.tuple #[]))) Tryd.func36 (by kernel_rfl) (by kernel_rfl) (by kernel_rfl) (by kernel_rfl)
  have h16 := @run_callFunc_extern Tryd.prog 37 _ (ReflectliteValue.methodAny (ReflectliteValue.valueError "reflectlite.Value.Type" 0) (fun t _ _ _ => ReflectliteType.toType t)) Tryd.func37 (by kernel_rfl) (by kernel_rfl) (by kernel_rfl) (by kernel_rfl)
  have h17 := @run_callFunc_extern Tryd.prog 38 _ (ReflectliteValue.method (ReflectliteValue.valueError "reflectlite.Value.IsNil" 0) ReflectliteValue.isNil) Tryd.func38 (by kernel_rfl) (by kernel_rfl) (by kernel_rfl) (by kernel_rfl)
  have h36 := @run_callFunc_extern Tryd.prog 63 _ (ReflectliteType.abiMethod fun t => do pure (.int .u8 (← Rtype.kind t))) Tryd.func63 (by kernel_rfl) (by kernel_rfl) (by kernel_rfl) (by kernel_rfl)
  have h46 := @run_callFunc_extern Tryd.prog 73 _ (ReflectliteType.method ReflectliteType.elem) Tryd.func73 (by kernel_rfl) (by kernel_rfl) (by kernel_rfl) (by kernel_rfl)
  have h47 := @run_callFunc_extern Tryd.prog 74 _ (ReflectliteType.relation "Implements" ReflectliteType.implements_) Tryd.func74 (by kernel_rfl) (by kernel_rfl) (by kernel_rfl) (by kernel_rfl)
  have h19 := @run_callFunc_extern Tryd.prog 42 _ ReflectliteType.typeOf Tryd.func42 (by kernel_rfl) (by kernel_rfl) (by kernel_rfl) (by kernel_rfl)
  have h44 := @run_callFunc_extern Tryd.prog 71 _ (ReflectliteType.relation "AssignableTo" ReflectliteType.assignableTo) Tryd.func71 (by kernel_rfl) (by kernel_rfl) (by kernel_rfl) (by kernel_rfl)
  have h20 := @run_callFunc_extern Tryd.prog 43 _ (ReflectliteValue.method (ReflectliteValue.valueError "reflectlite.Value.Elem" 0) ReflectliteValue.elem) Tryd.func43 (by kernel_rfl) (by kernel_rfl) (by kernel_rfl) (by kernel_rfl)
  have h21 := @run_callFunc_extern Tryd.prog 44 _ ReflectliteValue.set Tryd.func44 (by kernel_rfl) (by kernel_rfl) (by kernel_rfl) (by kernel_rfl)
  have x1 := rl_typeOfE
  have x2 := rl_methodAssignableTo
  have x3 := rl_assignableE
  have x4 := rl_valueOfE
  have x5 := rl_valueOfP
  have x6 := rl_typeP
  have x7 := rl_methodKind
  have x8 := rl_methodElem
  have x9 := rl_methodImplements
  have x10 := rl_kindP
  have x11 := rl_kindE
  have x12 := rl_elemP
  have x13 := rl_implementsE
  have x14 := rl_isNilP ⟨w.heap.size, 0, none⟩ t ((w.alloc (.cells #[.pointer (some t)] 57)).alloc (.cells #[.pointer (some ⟨1, 57, none⟩), .pointer (some ⟨w.heap.size, 0, none⟩), .int .u64 150] 64)) (by simp)
  have hlt : 0 < w.heap.size := by
    rcases Nat.lt_or_ge 0 w.heap.size with h | h
    · exact h
    · simp [World.cell?, Array.getElem?_eq_none h] at hg
  have hg2 : ((w.alloc (.cells #[.pointer (some t)] 57)).alloc (.cells #[.pointer (some ⟨1, 57, none⟩), .pointer (some ⟨w.heap.size, 0, none⟩), .int .u64 150] 64)).cell? ⟨0, 0, none⟩ = some (.iface 75 (.agg #[.pointer (some ⟨1, 27, none⟩)])) := by
    rw [World.cell?_alloc_lt _ _ ⟨0, 0, none⟩ (by first | (simp; done) | (simp; omega)), World.cell?_alloc_lt _ _ ⟨0, 0, none⟩ hlt]; exact hg
  have htl : t.block < w.heap.size := by
    rcases Nat.lt_or_ge t.block w.heap.size with h | h
    · exact h
    · simp [World.cell?, Array.getElem?_eq_none h] at ht0
  have x15 := rl_elemVP ⟨w.heap.size, 0, none⟩ t (((w.alloc (.cells #[.pointer (some t)] 57)).alloc (.cells #[.pointer (some ⟨1, 57, none⟩), .pointer (some ⟨w.heap.size, 0, none⟩), .int .u64 150] 64)).alloc (.cells #[.pointer (some ⟨1, 57, none⟩), .pointer (some ⟨w.heap.size, 0, none⟩), .int .u64 150] 64)) (by rw [World.cell?_alloc_lt _ _ ⟨w.heap.size, 0, none⟩ (by simp; omega)]; simp)
  have x16 := rl_setE t ⟨w.heap.size + 1 + 1 + 1, 0, none⟩ k old ((((w.alloc (.cells #[.pointer (some t)] 57)).alloc (.cells #[.pointer (some ⟨1, 57, none⟩), .pointer (some ⟨w.heap.size, 0, none⟩), .int .u64 150] 64)).alloc (.cells #[.pointer (some ⟨1, 57, none⟩), .pointer (some ⟨w.heap.size, 0, none⟩), .int .u64 150] 64)).alloc (.cells #[.int .i64 k] 44))
    (by rw [World.cell?_alloc_at _ _ _ _ (by simp)]; rfl)
    (by rw [World.cell?_alloc_lt _ _ t (by simp; omega), World.cell?_alloc_lt _ _ t (by simp; omega), World.cell?_alloc_lt _ _ t (by simp; omega), World.cell?_alloc_lt _ _ t htl]; exact ht0)
    (by rw [World.frozen?_alloc_old _ _ t (by simp; omega), World.frozen?_alloc_old _ _ t (by simp; omega), World.frozen?_alloc_old _ _ t (by simp; omega), World.frozen?_alloc_old _ _ t (Nat.ne_of_lt htl)]; exact hf0)
  go_enter Tryd.func32, Tryd.ntmps32
  go_wp2
  refine wp_loop_rounds 1 ?_
  rw [rounds_succ]
  go_wp2
  go_ret
  exact ⟨rfl, rfl⟩

theorem told_nil (w : World) : Calls Tryd.prog 20 #[.nilIface] w fun e w' => e = .returned (.int .i64 0) ∧ w' = w := by
  go_enter Tryd.func20, Tryd.ntmps20
  go_wp2
  go_ret
  exact ⟨rfl, rfl⟩

set_option maxHeartbeats 1000000 in
theorem told_err (k : Int) (w : World) (hg : w.cell? ⟨0, 0, none⟩ = some (.iface 75 (.agg #[.pointer (some ⟨1, 27, none⟩)]))) :
    Calls Tryd.prog 20 #[.iface 44 (.int .i64 k)] w fun e w' => e = .returned (.int .i64 k) ∧ Below w.heap.size w w' := by
  have hlt : 0 < w.heap.size := by
    rcases Nat.lt_or_ge 0 w.heap.size with h | h
    · exact h
    · simp [World.cell?, Array.getElem?_eq_none h] at hg
  have hgA : (w.alloc (.cells #[.int .i64 0] 44)).cell? ⟨0, 0, none⟩ = some (.iface 75 (.agg #[.pointer (some ⟨1, 27, none⟩)])) := by
    rw [World.cell?_alloc_lt _ _ ⟨0, 0, none⟩ hlt]; exact hg
  have hcon := as_hit k ⟨w.heap.size, 0, none⟩ (.int .i64 0) (w.alloc (.cells #[.int .i64 0] 44)) hgA (by simp) (by simp)
  go_enter Tryd.func20, Tryd.ntmps20
  go_wp2_with fail
  refine hcon.mono ?_
  rintro e w' ⟨rfl, rfl⟩
  clear hcon hgA
  go_wp2
  go_ret
  refine ⟨rfl, ?_⟩
  go_grown
end Go.Proofs.YtlfncplldppncaaDoor

/-
  Contracts of letterbecksame.Error: of no error it says yes to 0, of an Errno it says yes to that number. Conditions: errors.errorType as the program's text lays it.
-/
namespace Go.Proofs.YtlfncplldppncaaDoor
open Go.RowKit

/-- The variable errors.errorType holds the handle of the type error. -/
def Laid (w : World) : Prop := w.cell? ⟨0, 0, none⟩ = some (.iface 75 (.agg #[.pointer (some ⟨1, 27, none⟩)]))
theorem Laid.below {w w' : World} (h : Laid w) {B : Nat} (hB : 0 < B) (hb : Below B w w') : Laid w' := (hb.cell (p := ⟨0, 0, none⟩) hB).trans h
theorem Laid.pos {w : World} (h : Laid w) : 0 < w.heap.size := by
  unfold Laid at h
  rcases Nat.lt_or_ge 0 w.heap.size with h' | h'
  · exact h'
  · simp [World.cell?, Array.getElem?_eq_none h'] at h

theorem error_nil (w : World) : Calls Tryd.prog 6 #[.nilIface, .int .i64 0] w fun e w' => e = .returned (.bool true) ∧ w' = w := by
  go_enter Tryd.func6, Tryd.ntmps6
  go_wp2_with fail
  refine (told_nil _).mono ?_
  rintro e w' ⟨rfl, rfl⟩
  go_wp2
  go_ret
  exact ⟨rfl, rfl⟩
theorem error_err (k : Int) (w : World) (hg : Laid w) : Calls Tryd.prog 6 #[.iface 44 (.int .i64 k), .int .i64 k] w fun e w' => e = .returned (.bool true) ∧ Below w.heap.size w w' := by
  have hcon := told_err k w hg
  go_enter Tryd.func6, Tryd.ntmps6
  go_wp2_with fail
  refine hcon.mono ?_
  rintro e w' ⟨rfl, hb⟩
  clear hcon
  go_wp2
  go_ret
  exact ⟨by simp, hb⟩
end Go.Proofs.YtlfncplldppncaaDoor

/-
  The last step of a law's row where the call has laid new blocks of which only 'Below' is known: what was there before reads as it did. No condition.
-/
namespace Go.Proofs.YtlfncplldppncaaDoor
open Go.RowKit Go.WideShapes Go.ChangeShapes

theorem post_fresh {H : Type} {enc : TypeId × Value → H} {P : Program} {f : Func} {s : ChangeSpec} {apart fresh handsOn again : Bool} {W W' : World} {args : Array Value} {v : Value} {ds gs : List (DataW H)}
    {before pa pv : List MemPlace} (hW : DataW.Whole enc P f.params.toList s.vars apart W args.toList ds gs before)
    (hres : ∀ (b : Nat) (sp : Nat → Bool) (hd : Bool), DataW.TrodAll enc P W' b sp hd f.resultTypes.toList (v.resultList f.resultTypes.size) (s.fn H (ds ++ gs)).results [])
    (hargs : ∀ sp : Nat → Bool, (∀ p ∈ before, sp p.block = true) → DataW.TrodAll enc P W' 0 sp true f.params.toList args.toList (s.fn H (ds ++ gs)).args pa)
    (hvars : ∀ sp : Nat → Bool, (∀ p ∈ before, sp p.block = true) → DataW.TrodVars enc P W' sp s.vars (s.fn H (ds ++ gs)).vars pv)
    (hps : before = pa ++ pv) (hb : Below W.heap.size W W')
    (hok : ∀ (j : Nat) (t : TypeId) (r : Value), f.resultTypes[j]? = some t → (v.resultList f.resultTypes.size)[j]? = some r → Value.okWide P W' .any 0 t r) :
    s.post enc P f apart fresh handsOn again W args v W' := by
  have old : ∀ p ∈ before, p.block < W.heap.size := fun p hp => hW.lt p hp
  have old' : ∀ p ∈ before, (fun b => decide (b < W.heap.size)) p.block = true := fun p hp => by simpa using old p hp
  refine ⟨ds, gs, before, [], pa, pv, hW, hres _ _ _, hargs _ old', hvars _ old', World.keptBut_mono (fun p hp => ⟨hp, Or.inr ?_⟩) (hb.frame (· ∈ before)), fun _ => ?_⟩
  · simpa [hps] using hp
  · obtain ⟨_, _, _, _, _, hz, hn⟩ := hW
    refine ⟨hok, _, _, ([] ++ pa) ++ pv, ⟨[] ++ pa, pv, trodAll_append (hargs _ (fun _ _ => rfl)) (hres _ _ _), hvars _ (fun _ _ => rfl), rfl, ?_, ?_⟩, ?_⟩
    · intro b off hp
      have hin : MemPlace.cell b off ∈ before := by simpa [hps] using hp
      rw [hb.frozen (old _ hin)]
      exact hz b off hin
    · intro ha
      have := hn ha
      simpa [hps] using this
    · intro p hp _
      simpa [hps] using hp
end Go.Proofs.YtlfncplldppncaaDoor

/-
  Plain facts on memory for this seat's proofs: a slice of ints that reads as a list (nil let in), kept by draws, by new blocks and by whatever leaves the old blocks alone. No condition.
-/
namespace Go.Proofs.YtlfncplldppncaaDoor
open Go.RowKit

/-- The slice value '.slice A n _' holds the numbers xs in world w, below block B. -/
def IsInts (w : World) (B : Nat) (A : Option Addr) (n : Nat) (xs : List Int) : Prop :=
  xs.length = n ∧ (0 < n → ∃ g off, A = some ⟨g, off, none⟩ ∧ g < B ∧ ∀ j, j < n → w.cell? ⟨g, off + j, none⟩ = some (.int .i64 (xs.getD j 0)))

theorem IsInts.keep {w w' : World} {B B' n : Nat} {A : Option Addr} {xs : List Int} (h : IsInts w B A n xs) (hB : B ≤ B')
    (hk : ∀ b o, b < B → w'.cell? ⟨b, o, none⟩ = w.cell? ⟨b, o, none⟩) : IsInts w' B' A n xs :=
  ⟨h.1, fun hn => by
    obtain ⟨g, off, e, hg, hc⟩ := h.2 hn
    exact ⟨g, off, e, by omega, fun j hj => (hk _ _ hg).trans (hc j hj)⟩⟩
theorem IsInts.drewN {w : World} {B n : Nat} {A : Option Addr} {xs : List Int} (h : IsInts w B A n xs) (q : Nat) : IsInts (w.drewN q) B A n xs := h
theorem IsInts.below {w w' : World} {B n : Nat} {A : Option Addr} {xs : List Int} (h : IsInts w B A n xs) (hb : Below B w w') : IsInts w' B A n xs :=
  h.keep (Nat.le_refl _) fun _ _ hp => hb.cell hp
theorem IsInts.nil {w : World} {B : Nat} {A : Option Addr} : IsInts w B A 0 [] := ⟨rfl, fun h => absurd h (by omega)⟩
theorem IsInts.take {w : World} {B n k : Nat} {A : Option Addr} {xs : List Int} (h : IsInts w B A n xs) (hk : k ≤ n) : IsInts w B A k (xs.take k) := by
  refine ⟨by rw [List.length_take, h.1]; omega, fun h0 => ?_⟩
  obtain ⟨g, off, e, hg, hc⟩ := h.2 (by omega)
  refine ⟨g, off, e, hg, fun j hj => ?_⟩
  rw [hc j (by omega)]
  simp [List.getD_eq_getElem?_getD, hj]

theorem hid {p : Prop} (h : p) : Hid p := h

/-- Are two lists the same? Kept shut for the walk. -/
def sameInts (xs ys : List Int) : Bool := decide (xs = ys)
theorem sameInts_true {xs ys : List Int} (h : xs = ys) : sameInts xs ys = true := by simp [sameInts, h]

theorem take_eq_succ {xs ys : List Int} {k : Nat} (hx : k < xs.length) (hy : k < ys.length) (h : xs.take k = ys.take k) (e : xs.getD k 0 = ys.getD k 0) : xs.take (k + 1) = ys.take (k + 1) := by
  rw [List.take_succ_eq_append_getElem hx, List.take_succ_eq_append_getElem hy, h]
  simp [List.getD_eq_getElem?_getD, hx, hy] at e
  rw [e]
theorem ne_of_getD {xs ys : List Int} {k : Nat} (e : xs.getD k 0 ≠ ys.getD k 0) : sameInts xs ys = false := by
  simp only [sameInts, decide_eq_false_iff_not]; rintro rfl; exact e rfl
theorem ne_of_len {xs ys : List Int} (e : xs.length ≠ ys.length) : sameInts xs ys = false := by
  simp only [sameInts, decide_eq_false_iff_not]; rintro rfl; exact e rfl
theorem same_of_take {xs ys : List Int} {k : Nat} (hx : xs.length ≤ k) (hy : ys.length ≤ k) (h : xs.take k = ys.take k) : sameInts xs ys = true := by
  rw [List.take_of_length_le hx, List.take_of_length_le hy] at h; exact sameInts_true h
/-- A row of the call's own, of numbers, by a function on places. -/
def rowF (n : Nat) (f : Nat → Int) : List Value := (List.range n).map fun j => Value.int .i64 (f j)
theorem rowF_len (n : Nat) (f : Nat → Int) : (rowF n f).length = n := by simp [rowF]
theorem rowF_get (n : Nat) (f : Nat → Int) (j : Nat) (h : j < n) : (rowF n f)[j]? = some (.int .i64 (f j)) := by simp [rowF, h]
theorem rowF_set (n : Nat) (f : Nat → Int) (k : Nat) (x : Int) : (rowF n f).set k (.int .i64 x) = rowF n (fun j => if j = k then x else f j) := by
  apply List.ext_getElem?
  intro j
  by_cases hj : j < n
  · by_cases hk : j = k
    · subst hk; simp [rowF, hj]
    · simp [rowF, hj, hk, Ne.symm hk]
  · simp [rowF, hj]
theorem rowF_congr {n : Nat} {f g : Nat → Int} (h : ∀ j, j < n → f j = g j) : rowF n f = rowF n g :=
  List.map_congr_left fun j hj => by rw [h j (by simpa using hj)]
theorem rowF_made (n : Nat) : (madeCells #[Value.int .i64 0] n).toList = rowF n (fun _ => 0) := by
  rw [toList_madeCells_one]
  apply List.ext_getElem?
  intro j
  by_cases hj : j < n <;> simp [rowF, hj]

theorem rowF_of_list (xs : List Int) : xs.map (Value.int .i64) = rowF xs.length fun j => xs.getD j 0 := by
  apply List.ext_getElem?
  intro j
  by_cases hj : j < xs.length <;> simp [rowF, hj]
theorem rowF_rev (xs : List Int) : (rowF xs.length fun j => xs.getD (xs.length - 1 - j) 0) = xs.reverse.map (Value.int .i64) := by
  apply List.ext_getElem?
  intro j
  by_cases hj : j < xs.length
  · simp [rowF, hj, show xs.length - 1 - j < xs.length by omega]
  · simp [rowF, hj]
/-- A slice value that is the call's own (nil, or a row from block 'base' on) and holds the numbers xs. Shut for the walk. -/
def OwnI (w : World) (base : Nat) (e : TypeId) (v : Value) (xs : List Int) : Prop := w.ownsRow base e 1 v xs.length (xs.map (Value.int .i64))
theorem OwnI.mk_ {w : World} {base : Nat} {e : TypeId} {v : Value} {xs : List Int} (h : w.ownsRow base e 1 v xs.length (xs.map (Value.int .i64))) : OwnI w base e v xs := h
theorem OwnI.nil (w : World) (base : Nat) (e : TypeId) : OwnI w base e (.slice none 0 0) [] := World.ownsRow_nil _ _ _ _
theorem OwnI.base {w : World} {b b' : Nat} {e : TypeId} {v : Value} {xs : List Int} (h : OwnI w b e v xs) (hb : b' ≤ b) : OwnI w b' e v xs := by
  refine ⟨h.1, ?_⟩
  rcases h.2 with h' | ⟨g, cap, cur, h1, h2, h3⟩
  · exact .inl h'
  · exact .inr ⟨g, cap, cur, h1, by omega, h3⟩
/-- What is owned stays owned where all that lay there is kept. -/
theorem OwnI.below {w w' : World} {base B : Nat} {e : TypeId} {v : Value} {xs : List Int} (h : OwnI w base e v xs) (hb : Below B w w') (hB : w.heap.size ≤ B) : OwnI w' base e v xs := by
  refine ⟨h.1, ?_⟩
  rcases h.2 with h' | ⟨g, cap, cur, h1, h2, h3, h4⟩
  · exact .inl h'
  · refine .inr ⟨g, cap, cur, h1, h2, ?_, h4⟩
    have hlt : g < w.heap.size := by
      rcases Nat.lt_or_ge g w.heap.size with hlt | hge
      · exact hlt
      · rw [Array.getElem?_eq_none hge] at h3; cases h3
    rw [hb.block g (by omega)]; exact h3
theorem OwnI.drewN {w : World} {base : Nat} {e : TypeId} {v : Value} {xs : List Int} (h : OwnI w base e v xs) (q : Nat) : OwnI (w.drewN q) base e v xs := h
/-- A row of the call's own reads as its list. -/
theorem IsInts.of_own {w : World} {base : Nat} {e : TypeId} {v : Value} {xs : List Int} (h : OwnI w base e v xs) :
    ∃ A c, v = .slice A xs.length c ∧ xs.length ≤ c ∧ IsInts w w.heap.size A xs.length xs := by
  unfold OwnI at h
  generalize hn : xs.length = n at h ⊢
  have hl : xs.length = n := by have := h.1; simpa using this
  rcases h.2 with ⟨rfl, rfl⟩ | ⟨g, cap, cur, rfl, hg, hh, hnc, hcm, hcs, htk⟩
  · exact ⟨none, 0, rfl, Nat.le_refl _, hl, fun h => absurd h (by omega)⟩
  · refine ⟨_, _, rfl, hnc, hl, fun hn => ⟨g, 0, rfl, ?_, fun j hj => ?_⟩⟩
    · rcases Nat.lt_or_ge g w.heap.size with hlt | hge
      · exact hlt
      · rw [Array.getElem?_eq_none hge] at hh; cases hh
    · rw [Nat.zero_add, h.cellAt j (by omega)]
      simp [show j < xs.length by omega]

/-- 'out = append(out, k)', out nil or the call's own: one number more, and nothing below 'base' has turned. -/
theorem wpList_append_int {P : Program} (wr : World) {ops : Array Oper} {rest : List Oper} {o : Oper} {a : Act} {Q : Exit → Act → World → Prop} (hgd : o.guard = none) (s x : Operand) (t : TypeId)
    (ho : o.op = .call { callee := .builtin .append, args := #[s, x], argTypes := #[t, t] }) (base : Nat) (e : TypeId) (i : TypeInfo)
    (ht : P.underlying t = some (.slice e)) (hi : P.info? e = some i) (hz : i.zero = some (.int .i64 0)) (hsize : i.size = 1) (hby : i.bytes = 8)
    (v : Value) (cs : List Int) (hs : a.eval s = v) (hown : OwnI wr base e v cs) (k : Int) (hx : a.eval x = .slice (some ⟨wr.heap.size, 0, none⟩) 1 1)
    (hlen : cs.length ≤ 1099511627776) (hbase : base ≤ wr.heap.size)
    (h : ∀ v' w', OwnI w' base e v' (cs ++ [k]) → Below base wr w' → wpList P ops Q rest (a.put o.dst v') w') :
    wpList P ops Q (o :: rest) a (wr.alloc (.cells #[.int .i64 k] e)) := by
  refine wpList_append_own _ hgd s x t ho base e i (.int .i64 0) 1 8 ht hi hz hsize hby rfl (by decide) v _ _ hs (World.ownsRow.alloc hown _) ⟨wr.heap.size, 0, none⟩ 1 1 [.int .i64 k] hx rfl ?_ ?_ ?_ ?_ ?_ ?_
  · intro j u hj
    match j, hj with
    | 0, hj => simp at hj; subst hj; simp [Addr.add]
  · intro u hu; simp at hu; subst hu; rfl
  · unfold maxLen; omega
  · omega
  · simp; omega
  · intro v' w' ho hg _
    refine h v' w' (OwnI.mk_ (by simpa using ho)) (((Below.refl base wr).alloc hbase _).grown hg (by simp; omega) fun b hb => ?_)
    exact (World.ownsRow.lt hown b hb).1

/-- A slice literal of numbers, as it has just been laid. -/
theorem IsInts.lit (w : World) (xs : List Int) (cs : Array Value) (e : TypeId) (h : cs = (xs.map (Value.int .i64)).toArray) :
    IsInts (w.alloc (.cells cs e)) (w.heap.size + 1) (some ⟨w.heap.size, 0, none⟩) xs.length xs := by
  subst h
  refine ⟨rfl, fun _ => ⟨w.heap.size, 0, rfl, by omega, fun j hj => ?_⟩⟩
  rw [Nat.zero_add, cell_of_row _ _ j _ e (0, 0) (heap_alloc_new w _)]
  simp [hj]
theorem IsInts.alloc {w : World} {B n : Nat} {A : Option Addr} {xs : List Int} (h : IsInts w B A n xs) (hB : B ≤ w.heap.size) (o : Obj) : IsInts (w.alloc o) B A n xs :=
  h.below ((Below.refl B w).alloc hB o)
theorem below_drewN {B : Nat} {a w : World} (h : Below B a w) (n : Nat) : Below B a (w.drewN n) := ⟨h.os, h.tape, h.output, h.size, h.block⟩
theorem own_drewN {w : World} {base : Nat} {e : TypeId} {size : Nat} {v : Value} {n : Nat} {xs : List Value} (h : w.ownsRow base e size v n xs) (q : Nat) : (w.drewN q).ownsRow base e size v n xs := h

theorem ret_bool {a b : Bool} (h : a = b) : Ending.returned (.bool a) = .returned (.bool b) := by rw [h]
theorem ret_int {k : IntKind} {a b : Int} (h : a = b) : Ending.returned (.int k a) = .returned (.int k b) := by rw [h]

end Go.Proofs.YtlfncplldppncaaDoor

/-
  Plain mathematics of borders, without a program: borders of borders, the longest border of each beginning, how it grows, and borders from the end. No condition.
-/
namespace Go.Proofs.YtlfncplldppncaaDoor

/-- Of the first m signs, k are a border (a proper one). -/
def Bd (f : Nat → UInt8) (m k : Nat) : Prop := k < m ∧ ∀ j, j < k → f j = f (m - k + j)
def bdB (f : Nat → UInt8) (m k : Nat) : Bool := decide (k < m) && (List.range k).all fun j => f j == f (m - k + j)
theorem bdB_iff {f : Nat → UInt8} {m k : Nat} : bdB f m k = true ↔ Bd f m k := by simp [bdB, Bd]

theorem bd_zero {f : Nat → UInt8} {m : Nat} (h : 0 < m) : Bd f m 0 := ⟨h, fun j hj => absurd hj (by omega)⟩
theorem bd_trans {f : Nat → UInt8} {m k j : Nat} (h : Bd f m k) (h' : Bd f k j) : Bd f m j := by
  refine ⟨by have := h.1; have := h'.1; omega, fun i hi => ?_⟩
  have h1 := h.1; have h2 := h'.1
  rw [h'.2 i hi, h.2 (k - j + i) (by omega)]
  congr 1; omega
theorem bd_nest {f : Nat → UInt8} {m k j : Nat} (h : Bd f m k) (h' : Bd f m j) (hlt : j < k) : Bd f k j := by
  refine ⟨hlt, fun i hi => ?_⟩
  have h1 := h.1; have h2 := h'.1
  rw [h'.2 i hi, h.2 (k - j + i) (by omega)]
  congr 1; omega
theorem bd_pred {f : Nat → UInt8} {m k : Nat} (h : Bd f (m + 1) (k + 1)) : Bd f m k := by
  refine ⟨by have := h.1; omega, fun i hi => ?_⟩
  have h1 := h.1
  rw [h.2 i (by omega)]
  congr 1; omega
theorem bd_last {f : Nat → UInt8} {m k : Nat} (h : Bd f (m + 1) (k + 1)) : f k = f m := by
  have h1 := h.1
  rw [h.2 k (by omega)]
  congr 1; omega
theorem bd_succ {f : Nat → UInt8} {m k : Nat} (h : Bd f m k) (e : f k = f m) : Bd f (m + 1) (k + 1) := by
  have h1 := h.1
  refine ⟨by omega, fun i hi => ?_⟩
  by_cases hik : i = k
  · subst hik; rw [e]; congr 1; omega
  · rw [h.2 i (by omega)]; congr 1; omega

/-- The greatest border of m signs that has at most k. -/
def top (f : Nat → UInt8) (m : Nat) : Nat → Nat
  | 0 => 0
  | k + 1 => if bdB f m (k + 1) then k + 1 else top f m k
/-- The longest border of the first m signs. -/
def lon (f : Nat → UInt8) (m : Nat) : Nat := top f m (m - 1)

theorem top_le (f : Nat → UInt8) (m k : Nat) : top f m k ≤ k := by
  induction k with
  | zero => exact Nat.le_refl _
  | succ k ih => unfold top; split <;> omega
theorem top_bd {f : Nat → UInt8} {m : Nat} (h : 0 < m) (k : Nat) : Bd f m (top f m k) := by
  induction k with
  | zero => exact bd_zero h
  | succ k ih =>
    unfold top
    split
    · exact bdB_iff.1 ‹_›
    · exact ih
theorem top_max {f : Nat → UInt8} {m k j : Nat} (h : Bd f m j) (hj : j ≤ k) : j ≤ top f m k := by
  induction k with
  | zero => omega
  | succ k ih =>
    unfold top
    split
    · exact hj
    · rename_i hn
      have : j ≠ k + 1 := by rintro rfl; exact hn (bdB_iff.2 h)
      exact ih (by omega)
theorem lon_bd {f : Nat → UInt8} {m : Nat} (h : 0 < m) : Bd f m (lon f m) := top_bd h _
theorem lon_max {f : Nat → UInt8} {m j : Nat} (h : Bd f m j) : j ≤ lon f m := top_max h (by have := h.1; omega)
theorem lon_lt {f : Nat → UInt8} {m : Nat} (h : 0 < m) : lon f m < m := (lon_bd h).1
theorem lon_eq {f : Nat → UInt8} {m k : Nat} (h : Bd f m k) (hm : ∀ j, Bd f m j → j ≤ k) : lon f m = k :=
  Nat.le_antisymm (hm _ (lon_bd (by have := h.1; omega))) (lon_max h)
theorem lon_one (f : Nat → UInt8) : lon f 1 = 0 := rfl

/-- The search's state: l is a border of i signs, and no border of i + 1 signs is longer than l + 1. -/
def St (f : Nat → UInt8) (i l : Nat) : Prop := Bd f i l ∧ ∀ k, Bd f (i + 1) k → k ≤ l + 1
theorem st_start {f : Nat → UInt8} {i : Nat} (h : 0 < i) : St f i (lon f i) := by
  refine ⟨lon_bd h, fun k hk => ?_⟩
  rcases k with _ | k
  · omega
  · have := lon_max (bd_pred hk); omega
theorem st_step {f : Nat → UInt8} {i l : Nat} (h : St f i l) (hl : 0 < l) (hne : f l ≠ f i) : St f i (lon f l) := by
  refine ⟨bd_trans h.1 (lon_bd hl), fun k hk => ?_⟩
  rcases k with _ | k
  · omega
  · have h1 := h.2 _ hk
    have h2 : k ≠ l := by rintro rfl; exact hne (bd_last hk)
    have := lon_max (bd_nest h.1 (bd_pred hk) (by omega))
    omega
theorem st_hit {f : Nat → UInt8} {i l : Nat} (h : St f i l) (e : f l = f i) : lon f (i + 1) = l + 1 := lon_eq (bd_succ h.1 e) h.2
theorem st_miss {f : Nat → UInt8} {i : Nat} (h : St f i 0) (hne : f 0 ≠ f i) : lon f (i + 1) = 0 := by
  refine lon_eq (bd_zero (by omega)) fun j hj => ?_
  rcases j with _ | j
  · omega
  · have h1 := h.2 _ hj
    have : j = 0 := by omega
    subst this
    exact absurd (bd_last hj) hne

theorem lon_grow (f : Nat → UInt8) (m : Nat) : lon f (m + 1) ≤ lon f m + 1 := by
  have h := lon_bd (f := f) (m := m + 1) (by omega)
  generalize lon f (m + 1) = k at h
  rcases k with _ | k
  · omega
  · have := lon_max (bd_pred h); omega
theorem lon_sign {f : Nat → UInt8} {m : Nat} (h : 0 < lon f (m + 1)) : f (lon f (m + 1) - 1) = f m := by
  have hb := lon_bd (f := f) (m := m + 1) (by omega)
  generalize lon f (m + 1) = k at h hb ⊢
  rcases k with _ | k
  · omega
  · exact bd_last hb

/-- All borders but the empty one, rising. -/
def eds (f : Nat → UInt8) (m : Nat) : List Nat := (List.range m).filter fun k => decide (0 < k) && bdB f m k
theorem mem_eds {f : Nat → UInt8} {m k : Nat} : k ∈ eds f m ↔ 0 < k ∧ Bd f m k := by
  simp only [eds, List.mem_filter, List.mem_range, Bool.and_eq_true, decide_eq_true_eq, bdB_iff]
  exact ⟨fun h => h.2, fun h => ⟨h.2.1, h⟩⟩

theorem filter_range_stop (p : Nat → Bool) (a : Nat) : ∀ b, a ≤ b → (∀ k, a ≤ k → k < b → p k = false) → (List.range b).filter p = (List.range a).filter p := by
  intro b
  induction b with
  | zero => intro h _; have : a = 0 := by omega
            subst this; rfl
  | succ b ih =>
    intro hab h
    by_cases e : a = b + 1
    · subst e; rfl
    · rw [List.range_succ, List.filter_append, ih (by omega) (fun k h1 h2 => h k h1 (by omega))]
      simp [h b (by omega) (by omega)]
theorem filter_range_congr (p q : Nat → Bool) (b : Nat) (h : ∀ k, k < b → p k = q k) : (List.range b).filter p = (List.range b).filter q :=
  List.filter_congr fun k hk => h k (by simpa using hk)

/-- The borders of a text are those of its longest one, and that one. -/
theorem eds_chain {f : Nat → UInt8} {m : Nat} (h : 0 < lon f m) : eds f m = eds f (lon f m) ++ [lon f m] := by
  have hm : 0 < m := by
    rcases m with _ | m
    · simp [lon, top] at h
    · omega
  have hb := lon_bd (f := f) hm
  have hlt := hb.1
  unfold eds
  rw [filter_range_stop _ (lon f m + 1) m (by omega), List.range_succ, List.filter_append]
  · congr 1
    · refine filter_range_congr _ _ _ fun k hk => ?_
      by_cases hk0 : 0 < k
      · simp only [hk0, decide_true, Bool.true_and]
        rw [Bool.eq_iff_iff, bdB_iff, bdB_iff]
        exact ⟨fun h' => bd_nest hb h' hk, fun h' => bd_trans hb h'⟩
      · simp [hk0]
    · simp [h, bdB_iff.2 hb]
  · intro k h1 h2
    have : bdB f m k = false := by
      rw [← Bool.not_eq_true, bdB_iff]
      intro hk
      have := lon_max hk
      omega
    simp [this]
theorem eds_none {f : Nat → UInt8} {m : Nat} (h : lon f m = 0) : eds f m = [] := by
  rw [List.eq_nil_iff_forall_not_mem]
  intro k hk
  have ⟨h1, h2⟩ := mem_eds.1 hk
  have := lon_max h2
  omega

/-- The borders that the search has still to tell, at l. -/
def edsAt (f : Nat → UInt8) (l : Nat) : List Nat := if l = 0 then [] else eds f l ++ [l]
theorem edsAt_start {f : Nat → UInt8} {m : Nat} : edsAt f (lon f m) = eds f m := by
  unfold edsAt
  split
  · rw [eds_none ‹_›]
  · rw [← eds_chain (by omega)]
theorem edsAt_step {f : Nat → UInt8} {l : Nat} (h : 0 < l) : edsAt f l = edsAt f (lon f l) ++ [l] := by
  rw [edsAt_start]
  unfold edsAt
  rw [if_neg (by omega)]
theorem eds_len (f : Nat → UInt8) (m : Nat) : (eds f m).length ≤ m := by
  unfold eds
  have := List.length_filter_le (fun k => decide (0 < k) && bdB f m k) (List.range m)
  simpa using this
/-- What is gathered at l, the longest first. -/
def Got (f : Nat → UInt8) (m l : Nat) (cs : List Int) : Prop := ∃ c : List Nat, cs = c.map (fun k => ((k : Nat) : Int)) ∧ eds f m = edsAt f l ++ c.reverse
theorem got_start (f : Nat → UInt8) (m : Nat) : Got f m (lon f m) [] := ⟨[], rfl, by rw [edsAt_start]; simp⟩
theorem got_step {f : Nat → UInt8} {m l : Nat} {cs : List Int} (h : Got f m l cs) (hl : 0 < l) : Got f m (lon f l) (cs ++ [(l : Int)]) := by
  obtain ⟨c, rfl, e⟩ := h
  exact ⟨c ++ [l], by simp, by rw [e, edsAt_step hl]; simp⟩
theorem got_end {f : Nat → UInt8} {m : Nat} {cs : List Int} (h : Got f m 0 cs) : cs.reverse = (eds f m).map fun k => ((k : Nat) : Int) := by
  obtain ⟨c, rfl, e⟩ := h
  rw [e]; simp [edsAt]
theorem got_len {f : Nat → UInt8} {m l : Nat} {cs : List Int} (h : Got f m l cs) : cs.length ≤ m := by
  obtain ⟨c, rfl, e⟩ := h
  have := eds_len f m
  rw [e] at this
  simp at this ⊢
  omega

/-- Only the first m signs matter. -/
theorem bd_congr {f g : Nat → UInt8} {m k : Nat} (h : ∀ i, i < m → f i = g i) (hb : Bd f m k) : Bd g m k := by
  refine ⟨hb.1, fun j hj => ?_⟩
  have := hb.1
  rw [← h j (by omega), ← h (m - k + j) (by omega)]
  exact hb.2 j hj
theorem eds_congr {f g : Nat → UInt8} {m : Nat} (h : ∀ i, i < m → f i = g i) : eds f m = eds g m := by
  refine filter_range_congr _ _ _ fun k _ => ?_
  congr 1
  rw [Bool.eq_iff_iff, bdB_iff, bdB_iff]
  exact ⟨bd_congr h, bd_congr fun i hi => (h i hi).symm⟩
/-- From its end a text has borders as long. -/
theorem bd_back {f g : Nat → UInt8} {m k : Nat} (h : ∀ i, i < m → g i = f (m - 1 - i)) (hb : Bd f m k) : Bd g m k := by
  refine ⟨hb.1, fun j hj => ?_⟩
  have := hb.1
  rw [h j (by omega), h (m - k + j) (by omega)]
  have e := hb.2 (k - 1 - j) (by omega)
  have e1 : m - 1 - (m - k + j) = k - 1 - j := by omega
  have e2 : m - k + (k - 1 - j) = m - 1 - j := by omega
  rw [e1, e, e2]
theorem eds_back {f g : Nat → UInt8} {m : Nat} (h : ∀ i, i < m → g i = f (m - 1 - i)) : eds g m = eds f m := by
  refine filter_range_congr _ _ _ fun k _ => ?_
  congr 1
  rw [Bool.eq_iff_iff, bdB_iff, bdB_iff]
  refine ⟨bd_back fun i hi => ?_, bd_back h⟩
  rw [h (m - 1 - i) (by omega)]
  congr 1; omega

/-- The signs of a text. -/
def sg (s : ByteArray) (i : Nat) : UInt8 := s.data.toList.getD i 0
theorem sg_eq (s : ByteArray) (i : Nat) (h : i < s.size) : sg s i = s[i] := by
  have h' : i < s.data.size := h
  simp only [sg, List.getD_eq_getElem?_getD, Array.getElem?_toList, Array.getElem?_eq_getElem h', Option.getD_some]
  rfl
/-- What 'Of' answers. -/
def ofL (s : ByteArray) (n : Nat) : List Int := (List.range n).map fun i => ((lon (sg s) (i + 1) : Nat) : Int)
/-- What 'All' answers. -/
def allL (s : ByteArray) : List Int := (eds (sg s) s.size).map fun k => ((k : Nat) : Int)
theorem all_len (s : ByteArray) : (allL s).length ≤ s.size := by simpa [allL] using eds_len (sg s) s.size
theorem sg_cut (s : ByteArray) (a b i : Nat) (hb : b ≤ s.size) (h : i < b - a) : sg (s.extract a b) i = sg s (a + i) := by
  rw [sg_eq _ _ (by rw [ByteArray.size_extract]; omega), sg_eq _ _ (by omega), ByteArray.getElem_extract]
theorem all_cut (s : ByteArray) (k : Nat) (h : k ≤ s.size) : (eds (sg s) k).map (fun j => ((j : Nat) : Int)) = allL (s.extract 0 k) := by
  unfold allL
  have e : (s.extract 0 k).size = k := by rw [ByteArray.size_extract]; omega
  rw [e, eds_congr (g := sg (s.extract 0 k)) fun i hi => by rw [sg_cut s 0 k i h (by omega), Nat.zero_add]]
theorem ofL_len (s : ByteArray) (n : Nat) : (ofL s n).length = n := by simp [ofL]
theorem ofL_get (s : ByteArray) (n j : Nat) (h : j < n) : (ofL s n).getD j 0 = ((lon (sg s) (j + 1) : Nat) : Int) := by simp [ofL, h]
/-- The borders shorter than k. -/
def edsTo (f : Nat → UInt8) (m k : Nat) : List Int := ((List.range k).filter fun j => decide (0 < j) && bdB f m j).map fun j => ((j : Nat) : Int)
theorem edsTo_one (f : Nat → UInt8) (m : Nat) : edsTo f m 1 = [] := by simp [edsTo]
theorem edsTo_yes {f : Nat → UInt8} {m k : Nat} (h0 : 0 < k) (h : Bd f m k) : edsTo f m (k + 1) = edsTo f m k ++ [(k : Int)] := by
  simp [edsTo, List.range_succ, h0, bdB_iff.2 h]
theorem edsTo_no {f : Nat → UInt8} {m k : Nat} (h : ¬ Bd f m k) : edsTo f m (k + 1) = edsTo f m k := by
  have : bdB f m k = false := by rw [← Bool.not_eq_true, bdB_iff]; exact h
  simp [edsTo, List.range_succ, this]
theorem edsTo_len (f : Nat → UInt8) (m k : Nat) : (edsTo f m k).length ≤ k := by
  have := List.length_filter_le (fun j => decide (0 < j) && bdB f m j) (List.range k)
  simpa [edsTo] using this
theorem edsTo_all (s : ByteArray) : edsTo (sg s) s.size s.size = allL s := rfl
theorem edsTo_end (s : ByteArray) (k : Nat) (hk : k ≤ s.size ∨ k = 1) (hlt : ¬ k < s.size) : edsTo (sg s) s.size k = allL s := by
  rcases hk with hk | hk
  · rw [show k = s.size by omega]; rfl
  · subst hk
    rcases Nat.eq_zero_or_pos s.size with e | e
    · rw [edsTo_one]; simp [allL, e, eds]
    · rw [show s.size = 1 by omega, edsTo_one]; simp [allL, show s.size = 1 by omega, eds]

end Go.Proofs.YtlfncplldppncaaDoor

/-
  What every walk of this seat rests on: comparisons of two signs as the walk spells them, and the row of the type int. No condition.
-/
namespace Go.Proofs.YtlfncplldppncaaDoor
open Go.RowKit

theorem byte_eq (s : ByteArray) (a b : Nat) (ha : a < s.size) (hb : b < s.size) (h : sg s a = sg s b) : ((s[a].toNat : Int) == (s[b].toNat : Int)) = true := by
  rw [sg_eq s a ha, sg_eq s b hb] at h; simp [h]
theorem byte_ne_false (s : ByteArray) (a b : Nat) (ha : a < s.size) (hb : b < s.size) (h : sg s a = sg s b) : ((s[a].toNat : Int) != (s[b].toNat : Int)) = false := by
  rw [sg_eq s a ha, sg_eq s b hb] at h; simp [h]
theorem byte_apart {x y : UInt8} (h : x ≠ y) : (x.toNat : Int) ≠ (y.toNat : Int) := fun e => h (UInt8.toNat_inj.1 (by omega))
theorem byte_eq_false (s : ByteArray) (a b : Nat) (ha : a < s.size) (hb : b < s.size) (h : sg s a ≠ sg s b) : ((s[a].toNat : Int) == (s[b].toNat : Int)) = false := by
  rw [sg_eq s a ha, sg_eq s b hb] at h; simpa using byte_apart h
theorem byte_ne (s : ByteArray) (a b : Nat) (ha : a < s.size) (hb : b < s.size) (h : sg s a ≠ sg s b) : ((s[a].toNat : Int) != (s[b].toNat : Int)) = true := by
  rw [sg_eq s a ha, sg_eq s b hb] at h; simpa using byte_apart h

/-- A byte's number is a sign's. -/
theorem byte_of {a : Int} (h : (Lit.int .u8 a).wf = true) : ∃ c : UInt8, a = (c.toNat : Int) := by
  have hx : 0 ≤ a ∧ a ≤ 255 := by simpa [Lit.wf, IntKind.min, IntKind.max, IntKind.signed, IntKind.bits] using h
  refine ⟨UInt8.ofNat a.toNat, ?_⟩
  rw [UInt8.toNat_ofNat']
  omega

theorem int_info : (Tryd.prog.info? 3).map (fun i => (i.zero, i.size, i.bytes)) = some (some (.int .i64 0), 1, 8) := by kernel_rfl

end Go.Proofs.YtlfncplldppncaaDoor

/-
  A slice of numbers among a law's arguments: opened as a list of numbers, and read again behind the call. No condition.
-/
namespace Go.Proofs.YtlfncplldppncaaDoor
open Go.RowKit Go.ChangeShapes Go.WideShapes

set_option maxRecDepth 100000 in
theorem open_nums {H : Type} {enc : TypeId × Value → H} {W : World} {base : Nat} {v : Value} {d : DataW H} {p : List MemPlace} (hv : Value.okWide Tryd.prog W .any base 22 v)
    (h : DataW.Trod enc Tryd.prog W 0 (fun _ => true) true 22 v d p) :
    ∃ (A : Option Addr) (n c : Nat) (l : List Int), v = .slice A n c ∧ n ≤ maxLen ∧ (∀ k ∈ l, (Lit.int .i64 k).wf = true) ∧ n ≤ c ∧ IsInts W W.heap.size A n l := by
  obtain ⟨a0, len, cap, rfl⟩ := okWide_slice Tryd.underlying22 hv
  obtain ⟨fuel, hf⟩ := h
  have e : (Value.slice a0 len cap).cells.toList = [.slice a0 len cap] := rfl
  rcases open_ints Tryd.underlying22 Tryd.underlying3 (by kernel_rfl) hf with ⟨hcs, _⟩ | ⟨a, len', cap', zs, hcs, _, hl, hm, hz, _, hcell, hwf⟩
  · rw [e] at hcs
    simp only [List.cons.injEq, Value.slice.injEq, and_true] at hcs
    obtain ⟨rfl, rfl, rfl⟩ := hcs
    exact ⟨none, 0, 0, [], rfl, by unfold maxLen; omega, fun k hk => (by cases hk), by omega, IsInts.nil⟩
  · rw [e] at hcs
    simp only [List.cons.injEq, Value.slice.injEq, and_true] at hcs
    obtain ⟨rfl, rfl, rfl⟩ := hcs
    rw [if_pos rfl] at hz
    have hw : ∀ i, i < len → (zs.take len).getD i 0 = zs.getD i 0 := fun i hi => by simp [List.getD_eq_getElem?_getD, hi]
    refine ⟨some a, len, cap, zs.take len, rfl, by omega, fun k hk => hwf k (List.mem_of_mem_take hk), by omega, by rw [List.length_take]; omega, fun h0 => ?_⟩
    have h1 := hcell 0 (by omega)
    have hsp : a.spot = none := by
      cases es : a.spot with
      | none => rfl
      | some x =>
        have : (a.add 0).spot = some x := by simp [Addr.add, es]
        simp [World.cell?, this] at h1
        split at h1 <;> simp at h1
    have ha : a = ⟨a.block, a.off, none⟩ := by cases a; simp at hsp; simp [hsp]
    refine ⟨a.block, a.off, by rw [← ha], ?_, fun j hj => ?_⟩
    · rcases Nat.lt_or_ge a.block W.heap.size with h' | h'
      · exact h'
      · simp [World.cell?, Addr.add, Array.getElem?_eq_none h'] at h1
    · have := hcell j (by omega)
      rw [ha] at this
      rw [show (⟨a.block, a.off, none⟩ : Addr).add j = ⟨a.block, a.off + j, none⟩ by by_cases e : j = 0 <;> simp [Addr.add, e]] at this
      rw [hw j hj]
      exact this
set_option maxRecDepth 100000 in
theorem stay_nums {H : Type} {enc : TypeId × Value → H} {W W' : World} {v : Value} {d : DataW H} {p : List MemPlace} (h : DataW.Trod enc Tryd.prog W 0 (fun _ => true) true 22 v d p) (hb : Below W.heap.size W W')
    (hlt : ∀ x ∈ p, x.block < W.heap.size) (sp : Nat → Bool) (hs : ∀ x ∈ p, sp x.block = true) : DataW.Trod enc Tryd.prog W' 0 sp true 22 v d p :=
  WideElems.Trod_stays (by kernel_rfl) (by kernel_rfl) (of_decide_eq_true (by kernel_rfl)) h (fun x hx => hb.same (hlt x hx)) hs
end Go.Proofs.YtlfncplldppncaaDoor
