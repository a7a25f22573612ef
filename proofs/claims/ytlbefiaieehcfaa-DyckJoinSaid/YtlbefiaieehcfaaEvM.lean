/-
  Plain mathematics, without a program: all texts of brackets behind a beginning, in order. No condition.
-/
import Derived.Test.YtlbefiaieehcfaaDyckM
namespace Go.Proofs.Ytlbefiaieehcfaa

/-- All texts of l brackets more that close with o open ones, behind s. -/
def evS (s : ByteArray) (o l : Nat) : List ByteArray := (ev o l).map fun t => s ++ txt t
theorem evS_len (s : ByteArray) (o l : Nat) : (evS s o l).length = bal o l := List.length_map _
theorem app_none (s : ByteArray) : s ++ txt [] = s := bs_inj (by rw [wb_app, bs_txt, List.append_nil])
theorem app_more (s : ByteArray) (c : UInt8) (t : List UInt8) : (s ++ (⟨#[c]⟩ : ByteArray)) ++ txt t = s ++ txt (c :: t) := bs_inj (by
  rw [wb_app, wb_app, wb_app, bs_txt, bs_txt, List.append_assoc]
  rfl)
theorem evS_zero (s : ByteArray) (o : Nat) : evS s o 0 = [s] := by
  unfold evS
  rw [ev, List.map_cons, List.map_nil, app_none]
theorem evS_succ (s : ByteArray) (o l : Nat) : evS s o (l + 1) = (if o < l + 1 then evS (s ++ (⟨#[40]⟩ : ByteArray)) (o + 1) l else []) ++ (if 0 < o then evS (s ++ (⟨#[41]⟩ : ByteArray)) (o - 1) l else []) := by
  unfold evS
  rw [ev, List.map_append]
  congr 1
  · split
    · rw [List.map_map]
      exact List.map_congr_left fun t _ => (app_more s 40 t).symm
    · rfl
  · split
    · rw [List.map_map]
      exact List.map_congr_left fun t _ => (app_more s 41 t).symm
    · rfl
theorem bal_pos : ∀ (l o : Nat), 0 < bal o l
  | 0, o => by rw [bal_zero]; omega
  | l + 1, o => by
    rw [bal_succ]
    by_cases h : o < l + 1
    · rw [if_pos h]
      have := bal_pos l (o + 1)
      omega
    · rw [if_pos (show 0 < o by omega)]
      have := bal_pos l (o - 1)
      omega
theorem bal_pow : ∀ (l o : Nat), bal o l ≤ 2 ^ l
  | 0, o => by rw [bal_zero]; exact Nat.le_refl _
  | l + 1, o => by
    rw [bal_succ, Nat.pow_succ]
    have h1 := bal_pow l (o + 1)
    have h2 := bal_pow l (o - 1)
    split <;> split <;> omega
theorem pow_16 {l : Nat} (h : l ≤ 16) : 2 ^ l ≤ 65536 := Nat.pow_le_pow_right (by decide) h
theorem evS_empty (o l : Nat) {k : Nat} {t : List UInt8} (h : (ev o l)[k]? = some t) : (evS ByteArray.empty o l).getD k ByteArray.empty = txt t := by
  unfold evS
  rw [List.getD_eq_getElem?_getD, List.getElem?_map, h]
  show ByteArray.empty ++ txt t = txt t
  exact bs_inj (by rw [wb_app]; rfl)
end Go.Proofs.Ytlbefiaieehcfaa
