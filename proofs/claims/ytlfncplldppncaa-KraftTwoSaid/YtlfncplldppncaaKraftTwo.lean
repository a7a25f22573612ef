/-
  Sardinas and Patterson: at every list of words and every two lists of numbers the law KraftTwo returns true: two different rows of words that make the same text are never of words that can be told apart, and words from their ends are told apart alike. No condition.
-/
import Derived.Test.YtlfncplldppncaaRows
import Derived.WalkKit
import Derived.ProofKit
import Derived.OpenShut
import Derived.ShutString
import Derived.Test.YtlfncplldppncaaPost
import Derived.Test.YtlfncplldppncaaWords
import Derived.Test.YtlfncplldppncaaIarg
import Derived.Test.YtlfncplldppncaaKtwoW
namespace Go.Proofs.Ytlfncplldppncaa.kraftTwo
open Go.ChangeShapes Go.WideShapes Go.ChangeAt Go.RowKit
open Go.ChangeMaps (open_string shut_string)
set_option linter.unusedVariables false

theorem knob : ownKnob Try.prog.godebug = none := by kernel_rfl

theorem walk (A0 : Option Addr) (n0 c0 : Nat) (ws0 : List ByteArray) (b0 : n0 ≤ maxLen) (s0 : ∀ i, i < n0 → (wat ws0 i).size ≤ maxLen) (A1 : Option Addr) (n1 c1 : Nat) (l1 : List Int) (b1 : n1 ≤ maxLen) (f1 : ∀ k ∈ l1, (Lit.int .i64 k).wf = true) (e1 : n1 ≤ c1) (A2 : Option Addr) (n2 c2 : Nat) (l2 : List Int) (b2 : n2 ≤ maxLen) (f2 : ∀ k ∈ l2, (Lit.int .i64 k).wf = true) (e2 : n2 ≤ c2) (w : World) (k0 : IsStrs w w.heap.size A0 n0 ws0) (k1 : IsInts w w.heap.size A1 n1 l1) (k2 : IsInts w w.heap.size A2 n2 l2) : Calls Try.prog 4 #[.slice A0 n0 c0, .slice A1 n1 c1, .slice A2 n2 c2] w fun e w' => e = .returned (.bool true) ∧ Below w.heap.size w w' := by
  exact kraftTwo_any A0 A1 A2 n0 c0 n1 c1 n2 c2 ws0 l1 l2 w b0 s0 k0 b1 b2 k1 k2

set_option maxRecDepth 100000 in
theorem lifted (os : Os) (started : os.Started) (H : Type) (enc : TypeId × Value → H) :
    ReturnsInHanded {} Try.checked os 4 .any (Rows.kraftTwoSpec.pre6 enc Try.prog Try.f4 Rows.kraftTwoRow.domain false) (Rows.kraftTwoSpec.post enc Try.prog Try.f4 false true false false) := by
  refine returnsInHanded_of_change (C := Try.checked) knob started (by kernel_rfl) Try.func4
    (ChangeSpec.witness6 (enc := enc) (C := Try.checked) false ⟨#[], #[.slice none 0 0, .slice none 0 0, .slice none 0 0], []⟩ 8 (by kernel_rfl) (by kernel_rfl) (by kernel_rfl) (by kernel_rfl)) ?_
  intro W base args ds gs before hval0 hW hcnd _
  have hval : ∀ (j : Nat) t v, Try.f4.params[j]? = some t → args[j]? = some v → Value.okWide Try.prog W .any base t v := hval0
  have hW' := hW
  obtain ⟨p, q, hA0, hV, rfl, hfz, hnd⟩ := hW
  have hA : DataW.TrodAll enc Try.prog W 0 (fun _ => true) true Try.f4.params.toList args.toList ds p := hA0
  rw [Try.params4] at hA hval
  obtain ⟨v0, vs0, d0, ds0, p0, q0, hargs, rfl, rfl, h0, r0⟩ := trodAll_cons hA
  obtain ⟨v1, vs1, d1, ds1, p1, q1, rfl, rfl, rfl, h1, r1⟩ := trodAll_cons r0
  obtain ⟨v2, vs2, d2, ds2, p2, q2, rfl, rfl, rfl, h2, r2⟩ := trodAll_cons r1
  obtain ⟨rfl, rfl, rfl⟩ := trodAll_nil r2
  obtain rfl : args = #[v0, v1, v2] := by cases args; simp_all
  obtain ⟨rfl, rfl⟩ := trodVars_none hV
  obtain ⟨A0, n0, c0, ws0, rfl, b0, s0, k0⟩ := open_words (hval 0 22 v0 rfl rfl) h0
  obtain ⟨A1, n1, c1, l1, rfl, b1, f1, e1, k1⟩ := open_nums (hval 1 28 v1 rfl rfl) h1
  obtain ⟨A2, n2, c2, l2, rfl, b2, f2, e2, k2⟩ := open_nums (hval 2 28 v2 rfl rfl) h2
  refine (walk A0 n0 c0 ws0 b0 s0 A1 n1 c1 l1 b1 f1 e1 A2 n2 c2 l2 b2 f2 e2 W k0 k1 k2).mono fun e W' ⟨he, hb⟩ => ?_
  subst he
  exact ⟨_, rfl, post_fresh (pa := (p0 ++ (p1 ++ (p2 ++ [])))) (pv := []) hW' (fun _ _ _ => (trodAll_cons_mk (shut_bool Try.underlying4 _) trodAll_mk0)) (fun sp hsp => (trodAll_cons_mk (stay_words h0 hb (fun x hx => hW'.lt x (by simp [hx])) sp (fun x hx => hsp x (by simp [hx]))) (trodAll_cons_mk (stay_nums h1 hb (fun x hx => hW'.lt x (by simp [hx])) sp (fun x hx => hsp x (by simp [hx]))) (trodAll_cons_mk (stay_nums h2 hb (fun x hx => hW'.lt x (by simp [hx])) sp (fun x hx => hsp x (by simp [hx]))) trodAll_mk0)))) (fun _ _ => rfl) rfl hb
    (ok_one (by kernel_rfl) rfl (okWide_bool_mk Try.underlying4 _))⟩

theorem over : Rows.kraftTwoRow.holds Try.pinned (OpenSpec.ofChange Rows.kraftTwoSpec) :=
  OpenClaim.holds_of_wide 4 Try.f4 rfl rfl rfl rfl rfl rfl rfl ⟨rfl, rfl, rfl, rfl, rfl⟩ rfl rfl rfl rfl rfl (by kernel_rfl) Try.func4 (by kernel_rfl)
    (of_decide_eq_true (by kernel_rfl)) (by unfold Func.isWrapper; first | (rw [if_pos (by decide +kernel)]; kernel_rfl) | (rw [if_neg (by decide +kernel)]; exact ⟨rfl, rfl⟩))
    (fun os started H enc _ => lifted os started H enc)

/-- ████ THE STATEMENT ████ -/
theorem proved : Rows.KraftTwoSaid :=
  over
#print axioms proved
end Go.Proofs.Ytlfncplldppncaa.kraftTwo
