/-
  Contracts of slices.stableCmpFunc and slices.SortStableFunc at ints, for fewer than 20 elements: the row comes into the order T that the test tells of any two elements, the first one standing ahead. No element: nothing turns.
-/
import Derived.Test.YtlfncplldppncaaDoorStm
import Derived.Test.YtlfncplldppncaaDoorInsL
import Derived.Test.YtlfncplldppncaaDoorMem
namespace Go.Proofs.YtlfncplldppncaaDoor
open Go.Shelf Go.RowKit Go.Lib Go.Sort
variable {α : Type} [Inhabited α]

theorem ins_none (p : Option Addr) (cap : Nat) (fv : Value) (w : World) :
    Calls Tryd.prog 45 #[.slice p 0 cap, .int .i64 0, .int .i64 0, fv] w fun e w' => e = .returned (.tuple #[]) ∧ w' = w := by
  go_enter Tryd.func45, Tryd.ntmps45
  go_wp2
  refine wp_loop_rounds 1 ?_
  rw [rounds_succ]
  go_wp2
  go_end0
  exact ⟨rfl, rfl⟩
set_option maxRecDepth 100000 in
theorem stable_none (p : Option Addr) (cap : Nat) (fv : Value) (w : World) :
    Calls Tryd.prog 40 #[.slice p 0 cap, .int .i64 0, fv] w fun e w' => e = .returned (.tuple #[]) ∧ w' = w := by
  have H := hid (ins_none p cap fv w)
  go_enter Tryd.func40, Tryd.ntmps40
  go_wp2
  refine wp_loop_rounds 1 ?_
  rw [rounds_succ]
  go_wp2_with fail
  refine H.out.mono ?_
  rintro e w' ⟨rfl, hw'⟩
  subst w'
  go_wp2_with fail
  refine wp_loop_rounds 1 ?_
  rw [rounds_succ]
  go_wp2
  go_end0
  exact ⟨rfl, rfl⟩
theorem sortstable_none (p : Option Addr) (cap : Nat) (fv : Value) (w : World) :
    Calls Tryd.prog 33 #[.slice p 0 cap, fv] w fun e w' => e = .returned (.tuple #[]) ∧ w' = w := by
  have H := hid (stable_none p cap fv w)
  go_enter Tryd.func33, Tryd.ntmps33
  go_wp2_with fail
  refine H.out.mono ?_
  rintro e w' ⟨rfl, hw'⟩
  subst w'
  go_wp2_with fail
  go_end0
  exact ⟨rfl, rfl⟩

/-- What a stable sort of few elements gives. -/
def StbL (enc : α → Value) (T : α → α → Prop) (blk off : Nat) (d : Array α) (w : World) (e : Ending) (w' : World) : Prop :=
  e = .returned (.tuple #[]) ∧ ∃ d', (Frm d d' 0 d.size ∧ Srt T d' 0 d.size) ∧ SW enc w blk off d' w'

set_option maxHeartbeats 4000000 in
set_option maxRecDepth 1000000 in
theorem stable_few (enc : α → Value) (cf : α → α → Int) (T : α → α → Prop) (hT : Tot T) (g : Nat) (cb : Array Value) (blk off cap : Nat) (d : Array α) (w : World)
    (eg : ∀ args w, (callFunc g args).run Tryd.prog w = .ok (.enter g args) w) (hcmp : CmpLays1 Tryd.prog g cb enc cf blk off d.size w) (R : Row1 enc w blk off d) (hsz : d.size < 20)
    (hA : ∀ x y, x < y → y < d.size → (ltOf cf d[y]! d[x]! = true → T d[y]! d[x]!) ∧ (ltOf cf d[y]! d[x]! = false → T d[x]! d[y]!)) :
    Calls Tryd.prog 40 #[.slice (some ⟨blk, off, none⟩) d.size cap, .int .i64 d.size, .func (.func g) #[] cb] w (StbL enc T blk off d w) := by
  have S0 : SW enc w blk off d w := SW.start R.hH
  have h20z : ¬ (20 : Int) ≤ (d.size : Int) := by omega
  have h20y : ¬ (20 : Int) < (d.size : Int) := by omega
  have c1 := hid (Any.insertionSortCmpFunc_s insInt enc cf g cb blk off cap 0 d.size d d w w eg hcmp R rfl S0 (by omega) (Nat.le_refl _) (by omega))
  have HF := hid (ins_srt (lt := ltOf cf) hT 0 d.size d (Nat.zero_le _) (Nat.le_refl _) (fun x y _ h1 h2 => hA x y h1 h2))
  clear S0 hA hcmp R
  go_enter Tryd.func40, Tryd.ntmps40
  go_wp2
  refine wp_loop_rounds 1 ?_
  rw [rounds_succ]
  go_wp2_with fail
  refine c1.out.mono ?_
  rintro e w1 ⟨rfl, S1⟩
  have HS1 := hid S1
  clear S1
  go_wp2_with fail
  refine wp_loop_rounds 1 ?_
  rw [rounds_succ]
  go_wp2_with fail
  go_end0
  exact ⟨rfl, _, HF.out, HS1.out⟩

theorem sortstable_few (enc : α → Value) (cf : α → α → Int) (T : α → α → Prop) (hT : Tot T) (g : Nat) (cb : Array Value) (blk off cap : Nat) (d : Array α) (w : World)
    (eg : ∀ args w, (callFunc g args).run Tryd.prog w = .ok (.enter g args) w) (hcmp : CmpLays1 Tryd.prog g cb enc cf blk off d.size w) (R : Row1 enc w blk off d) (hsz : d.size < 20)
    (hA : ∀ x y, x < y → y < d.size → (ltOf cf d[y]! d[x]! = true → T d[y]! d[x]!) ∧ (ltOf cf d[y]! d[x]! = false → T d[x]! d[y]!)) :
    Calls Tryd.prog 33 #[.slice (some ⟨blk, off, none⟩) d.size cap, .func (.func g) #[] cb] w (StbL enc T blk off d w) := by
  have H := hid (stable_few enc cf T hT g cb blk off cap d w eg hcmp R hsz hA)
  clear hcmp R hA
  go_enter Tryd.func33, Tryd.ntmps33
  go_wp2_with fail
  refine H.out.mono ?_
  rintro e w' ⟨rfl, hr⟩
  go_wp2_with fail
  go_end0
  exact ⟨rfl, hr⟩
end Go.Proofs.YtlfncplldppncaaDoor
