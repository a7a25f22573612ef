/-
  Contract of letterbeckref1.Before: whether a text stands ahead of another one in their order. Conditions: texts of at most 2^40 bytes.
-/
import Derived.Test.YtlbefiaieehcfaaBase
import Derived.Test.YtlbefiaieehcfaaStrs
namespace Go.Proofs.Ytlbefiaieehcfaa
open Go.RowKit

theorem lt_app (p : List UInt8) {x y : List UInt8} : p ++ x < p ++ y ↔ x < y := by
  induction p with
  | nil => rfl
  | cons c p ih => rw [List.cons_append, List.cons_append, List.cons_lt_cons_self, ih]
theorem split_at (s : ByteArray) (i : Nat) (h : i < s.size) : bs s = (bs s).take i ++ s[i] :: (bs s).drop (i + 1) := by
  have := List.take_append_drop (i + 1) (bs s)
  rw [bs_take_succ s i h, List.append_assoc] at this
  exact this.symm
theorem before_at {a b : ByteArray} {i : Nat} (ha : i < a.size) (hb : i < b.size) (h : (bs a).take i = (bs b).take i) (hne : a[i] ≠ b[i]) : bs a < bs b ↔ a[i] < b[i] := by
  rw [split_at a i ha, split_at b i hb, h, lt_app, List.cons_lt_cons_iff]
  constructor
  · rintro (h | ⟨e, _⟩)
    · exact h
    · exact absurd e hne
  · exact .inl
theorem before_end {a b : ByteArray} {i : Nat} (ha : i ≤ a.size) (hb : i ≤ b.size) (h : (bs a).take i = (bs b).take i) (he : i = a.size ∨ i = b.size) : bs a < bs b ↔ a.size < b.size := by
  have e1 : bs a = (bs b).take i ++ (bs a).drop i := by rw [← h, List.take_append_drop]
  have e2 : bs b = (bs b).take i ++ (bs b).drop i := by rw [List.take_append_drop]
  have l1 : ((bs a).drop i).length = a.size - i := by rw [List.length_drop, bs_len]
  have l2 : ((bs b).drop i).length = b.size - i := by rw [List.length_drop, bs_len]
  rw [e2] ; conv => lhs; rw [e1]
  rw [lt_app]
  rcases he with he | he
  · rw [List.length_eq_zero_iff.1 (show ((bs a).drop i).length = 0 by omega)]
    cases hd : (bs b).drop i with
    | nil => rw [hd] at l2; simp at l2 ⊢; omega
    | cons c r => rw [hd] at l2; simp at l2 ⊢; omega
  · rw [List.length_eq_zero_iff.1 (show ((bs b).drop i).length = 0 by omega)]
    constructor
    · intro h'; simp at h'
    · intro h'; omega
theorem take_step {a b : ByteArray} {i : Nat} (ha : i < a.size) (hb : i < b.size) (h : (bs a).take i = (bs b).take i) (he : a[i] = b[i]) : (bs a).take (i + 1) = (bs b).take (i + 1) := by
  rw [bs_take_succ a i ha, bs_take_succ b i hb, h, he]
/-- Does a stand ahead of b? -/
def befB (a b : ByteArray) : Bool := decide (bs a < bs b)
theorem befB_at {a b : ByteArray} {i : Nat} (ha : i < a.size) (hb : i < b.size) (h : (bs a).take i = (bs b).take i) (hne : a[i] ≠ b[i]) : decide (a[i].toNat < b[i].toNat) = befB a b := by
  unfold befB
  rw [decide_eq_decide, before_at ha hb h hne, UInt8.lt_iff_toNat_lt]
theorem befB_end {a b : ByteArray} {i : Nat} (ha : i ≤ a.size) (hb : i ≤ b.size) (h : (bs a).take i = (bs b).take i) (he : i = a.size ∨ i = b.size) : decide (a.size < b.size) = befB a b := by
  unfold befB
  rw [decide_eq_decide, before_end ha hb h he]

set_option maxHeartbeats 400000 in
theorem before_any (a b : ByteArray) (w : World) (ha : a.size ≤ 1099511627776) (hb : b.size ≤ 1099511627776) :
    Calls Try.prog 12 #[.string a, .string b] w fun e w' => e = .returned (.bool (befB a b)) ∧ ∃ q, w' = w.drewN q := by
  go_enter Try.func12, Try.ntmps12
  go_wp2
  go_loopw [5] (fun v wr => ∃ l q : Nat, l ≤ a.size ∧ l ≤ b.size ∧ v = .int .i64 l ∧ Hid ((bs a).take l = (bs b).take l) ∧ wr = w.drewN q) (fun v _ => a.size - (intOf v).toNat)
  case atStart => exact ⟨0, 0, by omega, by omega, rfl, hid (by simp), rfl⟩
  case round =>
    obtain ⟨l, q, hla, hlb, rfl, HK, rfl⟩ := hrel
    by_cases h1 : l < a.size
    · by_cases h2 : l < b.size
      · have d1 : decide (l < a.size) = true := by simp; omega
        have d2 : decide (l < b.size) = true := by simp; omega
        by_cases he : a[l] = b[l]
        · have HR := hid (take_step h1 h2 HK.out he)
          have hq : ((a[l].toNat : Int) != (b[l].toNat : Int)) = false := by simp [he]
          clear he HK
          go_wp2
          go_quiet (fail)
          go_wp2
          go_roundw
          case rel => exact ⟨l + 1, _, by omega, by omega, by go_num, HR, rfl⟩
          case measure => simp [intOf]; omega
        · have HR := hid (befB_at h1 h2 HK.out he)
          have hq : ((a[l].toNat : Int) != (b[l].toNat : Int)) = true := by simpa using byte_apart he
          clear he HK
          go_wp2
          go_quiet (fail)
          go_wp2
          go_quiet (fail)
          go_wp2
          go_ret
          exact ⟨ret_bool HR.out, by first | exact ⟨_, rfl⟩ | (simp only [World.drewN_drewN]; exact ⟨_, rfl⟩)⟩
      · have HR := hid (befB_end hla hlb HK.out (.inr (by omega)))
        have d1 : decide (l < a.size) = true := by simp; omega
        have d2 : decide (l < b.size) = false := by simp; omega
        clear HK
        go_wp2
        go_ret
        exact ⟨ret_bool HR.out, by first | exact ⟨_, rfl⟩ | (simp only [World.drewN_drewN]; exact ⟨_, rfl⟩)⟩
    · have HR := hid (befB_end hla hlb HK.out (.inl (by omega)))
      have d1 : decide (l < a.size) = false := by simp; omega
      clear HK
      go_wp2
      go_ret
      exact ⟨ret_bool HR.out, by first | exact ⟨_, rfl⟩ | (simp only [World.drewN_drewN]; exact ⟨_, rfl⟩)⟩
theorem befB_yes {a b : ByteArray} (h : bs a < bs b) : befB a b = true := decide_eq_true h
theorem befB_no {a b : ByteArray} (h : ¬ bs a < bs b) : befB a b = false := decide_eq_false h
end Go.Proofs.Ytlbefiaieehcfaa
