/-
  Contract of letterbecklaw1.added: a list of texts of the call's own, with one more if it is not in it. Conditions: a list of at most 2^40 texts.
-/
import Derived.Test.YtojpapeomahegaaBase
import Derived.Test.YtojpapeomahegaaOwnS
import Derived.Test.YtojpapeomahegaaStr
namespace Go.Proofs.Ytojpapeomahegaa
open Go.RowKit

theorem string_info : (Try.prog.info? 9).map (fun i => (i.zero, i.size, i.bytes)) = some (some (.string ByteArray.empty), 1, 16) := by kernel_rfl

open Classical in
/-- The list with t, if it is not in it. -/
noncomputable def addW (ws : List ByteArray) (t : ByteArray) : List ByteArray := if t ∈ ws then ws else ws ++ [t]
theorem addW_in {ws : List ByteArray} {t : ByteArray} {k : Nat} (hk : k < ws.length) (h : ws.getD k ByteArray.empty = t) : addW ws t = ws := by
  have : t ∈ ws := by
    rw [← h]
    simp only [List.getD_eq_getElem?_getD, List.getElem?_eq_getElem hk, Option.getD_some]
    exact List.getElem_mem hk
  rw [addW, if_pos this]
theorem addW_new {ws : List ByteArray} {t : ByteArray} (h : ∀ j, j < ws.length → ws.getD j ByteArray.empty ≠ t) : addW ws t = ws ++ [t] := by
  have : ¬ t ∈ ws := fun hm => by
    obtain ⟨j, hj, e⟩ := List.getElem_of_mem hm
    exact h j hj (by simp [List.getD_eq_getElem?_getD, hj, e])
  rw [addW, if_neg this]

set_option maxHeartbeats 400000 in
theorem added_any (v : Value) (ws : List ByteArray) (t : ByteArray) (w : World) (base : Nat) (hown : OwnS w base 9 v ws) (hb : base ≤ w.heap.size) (hl : ws.length ≤ 1099511627776) :
    Calls Try.prog 14 #[v, .string t] w fun e w' => ∃ v', e = .returned v' ∧ OwnS w' base 9 v' (addW ws t) ∧ Below base w w' := by
  obtain ⟨i0, hi, hz0, hz1, hz2⟩ := info_parts string_info
  obtain ⟨A, c, rfl, hrd⟩ := hown.read
  have HO := hid hown
  have HR := hid hrd
  have HN : Hid (∀ k, k = ws.length → (∀ j, j < k → ws.getD j ByteArray.empty ≠ t) → addW ws t = ws ++ [t]) := hid fun k hk hj => addW_new fun j h' => hj j (by omega)
  have HY : Hid (∀ k, k < ws.length → ws.getD k ByteArray.empty = t → addW ws t = ws) := hid fun k hk h' => addW_in hk h'
  clear hown hrd
  have HL : Hid (ws.length = ws.length) := hid rfl
  go_enter Try.func14, Try.ntmps14
  go_wp2
  go_loopw [5] (fun u wr => ∃ k : Nat, u = .int .i64 k ∧ k ≤ ws.length ∧ Hid (∀ j, j < k → ws.getD j ByteArray.empty ≠ t) ∧ wr = w) (fun u _ => ws.length - (intOf u).toNat)
  case atStart => exact ⟨0, rfl, by omega, hid (fun j hj => absurd hj (by omega)), rfl⟩
  case round =>
    obtain ⟨k, rfl, hk, HK, rfl⟩ := hrel
    by_cases hlt : k < ws.length
    · obtain ⟨g, rfl, hx⟩ := HR.out k hlt
      by_cases he : ws.getD k ByteArray.empty = t
      · have hs := same_yes he
        have HE := hid (HY.out k hlt he)
        clear he HK HN HY
        generalize ws.getD k ByteArray.empty = x at hx hs
        go_wp2
        go_ret
        exact ⟨_, rfl, by rw [HE.out]; exact HO.out, Below.refl _ _⟩
      · have hs := same_no he
        have HN' : Hid (∀ j, j < k + 1 → ws.getD j ByteArray.empty ≠ t) := hid fun j hj => by
          by_cases hjk : j = k
          · subst hjk; exact he
          · exact HK.out j (by omega)
        clear he HK
        generalize ws.getD k ByteArray.empty = x at hx hs
        go_wp2
        go_roundw
        case rel => exact ⟨k + 1, by go_num, by omega, HN', by first | rfl | trivial⟩
        case measure => simp [intOf]; omega
    · have HE := hid (HN.out k (by omega) HK.out)
      clear HK HN HY HL
      go_wp2_with (at_builtin; refine wpList_append_str _ rfl (.tmp 19) (.tmp 21) 33 rfl base 9 i0 Try.underlying33 hi hz0 hz1 hz2 _ ws rfl HO.out t rfl (by omega) (by omega) ?_)
      intro v' w2 hown2 hb2
      go_wp2
      go_ret
      exact ⟨_, rfl, by rw [HE.out]; exact hown2, hb2⟩
end Go.Proofs.Ytojpapeomahegaa
