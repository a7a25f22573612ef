/-
  Contracts of letterbeckref3's Letters and Signs: a pattern's letters as they stand in it, and rising, each once. Conditions: a text of at most a thousand signs.
-/
import Derived.Test.YtdhklkpeepmedaaDoorBase
import Derived.Test.YtdhklkpeepmedaaDoorBs
import Derived.Test.YtdhklkpeepmedaaDoorPat
import Derived.Test.YtdhklkpeepmedaaDoorOneT
import Derived.Laws.Concat
namespace Go.Proofs.YtdhklkpeepmedaaDoor
open Go.RowKit

theorem plt_num {c : UInt8} : ltr c = true ↔ 97 ≤ c.toNat ∧ c.toNat ≤ 122 := by
  unfold ltr
  rw [decide_eq_true_eq, UInt8.le_iff_toNat_le, UInt8.le_iff_toNat_le]
  rfl
theorem cut_at (s : ByteArray) (i : Nat) (h : i < s.size) : s.extract i (i + 1) = txt [s[i]] := bs_inj (by
  rw [wb_ext, bs_txt, bs_take_succ s i h, List.drop_left' (by rw [List.length_take, bs_len]; omega)])
theorem txt_app (a b : List UInt8) : txt a ++ txt b = txt (a ++ b) := bs_inj (by rw [wb_app, bs_txt, bs_txt, bs_txt])
set_option maxRecDepth 100000 in
set_option maxHeartbeats 1000000 in
theorem letters_any (s : ByteArray) (w : World) (hs : s.size ≤ 1000) :
    Calls Tryd.prog 12 #[.string s] w fun e w' => e = .returned (.string (txt ((bs s).filter ltr))) ∧ w' = w := by
  go_enter Tryd.func12, Tryd.ntmps12
  go_wp2_with fail
  go_loopw [3, 4] (fun o x wr => ∃ (i : Nat) (t : ByteArray), o = .string t ∧ x = .int .i64 i ∧ i ≤ s.size ∧ Hid (t = txt (((bs s).take i).filter ltr)) ∧ wr = w) (fun _ x _ => s.size - (intOf x).toNat)
  case atStart => exact ⟨0, _, rfl, rfl, Nat.zero_le _, hid rfl, rfl⟩
  case round =>
    obtain ⟨i, t, rfl, rfl, hi, HT, rfl⟩ := hrel
    by_cases hlt : i < s.size
    · have hlI : (i : Int) < (s.size : Int) := by omega
      have hstep := bs_take_succ s i hlt
      by_cases hl : ltr s[i] = true
      · obtain ⟨k1, k2⟩ := plt_num.1 hl
        have k97 : (97 : Int) ≤ (s[i].toNat : Int) := by omega
        have k122 : (s[i].toNat : Int) ≤ 122 := by omega
        have HN : Hid (t ++ s.extract i (i + 1) = txt (((bs s).take (i + 1)).filter ltr)) := hid (by
          rw [HT.out, cut_at s i hlt, txt_app, hstep, List.filter_append, List.filter_cons, if_pos hl]; rfl)
        have htl : t.size ≤ 1000 := by
          rw [HT.out, txt_size]
          have h1 := List.length_filter_le ltr ((bs s).take i)
          rw [List.length_take, bs_len] at h1
          omega
        have hxl : (s.extract i (i + 1)).size ≤ 1 := by rw [ByteArray.size_extract]; omega
        have hcut : ∀ W : World, Sem.run Tryd.prog (Instr.slice 9 (.string s) (some (.int .i64 (i : Int))) (some (.int .i64 ((i : Int) + 1))) none) W = .ok (.string (s.extract i (i + 1))) W := fun W =>
          run_slice_string W 9 s .i64 .i64 (i : Int) ((i : Int) + 1) Tryd.underlying9 (by omega) (by omega) (by omega)
        generalize s.extract i (i + 1) = x at hcut HN hxl
        have hadd := fun W => run_string_add_sum (P := Tryd.prog) W t x (by omega)
        generalize t ++ x = t2 at hadd HN
        clear HT hstep hl k1 k2
        go_wp2_with fail
        go_roundw
        case rel => exact ⟨i + 1, t2, rfl, by go_num, by omega, HN, by first | rfl | trivial⟩
        case measure => simp [intOf]; omega
      · have hno : ¬ (97 ≤ s[i].toNat ∧ s[i].toNat ≤ 122) := fun h => hl (plt_num.2 h)
        have HN : Hid (t = txt (((bs s).take (i + 1)).filter ltr)) := hid (by
          rw [HT.out, hstep, List.filter_append, List.filter_cons, if_neg hl]; simp)
        clear HT hstep hl
        by_cases h97 : 97 ≤ s[i].toNat
        · have k97 : (97 : Int) ≤ (s[i].toNat : Int) := by omega
          have k122 : ¬ (s[i].toNat : Int) ≤ 122 := by omega
          clear hno h97
          go_wp2_with fail
          go_roundw
          case rel => exact ⟨i + 1, t, rfl, by go_num, by omega, HN, by first | rfl | trivial⟩
          case measure => simp [intOf]; omega
        · have k97 : ¬ (97 : Int) ≤ (s[i].toNat : Int) := by omega
          clear hno h97
          go_wp2_with fail
          go_roundw
          case rel => exact ⟨i + 1, t, rfl, by go_num, by omega, HN, by first | rfl | trivial⟩
          case measure => simp [intOf]; omega
    · obtain rfl : i = s.size := by omega
      have HR : Hid (t = txt ((bs s).filter ltr)) := hid (by rw [HT.out, List.take_of_length_le (by rw [bs_len]; exact Nat.le_refl _)])
      clear HT
      go_wp2_with fail
      go_ret
      exact ⟨by rw [HR.out]; rfl, by first | rfl | trivial⟩

/-- Small letters rising, below the one with this number, that stand in a list. -/
def sgTo (l : List UInt8) (m : Nat) : List UInt8 := ((List.range m).map fun i => (97 + i).toUInt8).filter fun c => decide (c ∈ l)
/-- Its letters, rising, each once. -/
def sgnL (l : List UInt8) : List UInt8 := sgTo l 26
theorem sgTo_succ (l : List UInt8) (m : Nat) : sgTo l (m + 1) = sgTo l m ++ if (97 + m).toUInt8 ∈ l then [(97 + m).toUInt8] else [] := by
  unfold sgTo
  rw [List.range_succ, List.map_append, List.filter_append]
  congr 1
  rw [List.map_cons, List.map_nil, List.filter_cons]
  by_cases h : (97 + m).toUInt8 ∈ l
  · rw [if_pos h, if_pos (decide_eq_true h)]; rfl
  · rw [if_neg h, if_neg (by rw [decide_eq_false h]; decide)]; rfl
theorem sgTo_len (l : List UInt8) (m : Nat) : (sgTo l m).length ≤ m := by
  unfold sgTo
  refine Nat.le_trans (List.length_filter_le _ _) ?_
  simp
theorem chr_num {m : Nat} (h : m < 26) : (97 + m).toUInt8.toNat = 97 + m := by
  show (97 + m) % 256 = 97 + m
  omega
set_option maxRecDepth 100000 in
set_option maxHeartbeats 4000000 in
theorem signs_any (s : ByteArray) (w : World) (hs : s.size ≤ 1000) :
    Calls Tryd.prog 11 #[.string s] w fun e w' => e = .returned (.string (txt (sgnL (bs s)))) ∧ Below w.heap.size w w' := by
  go_enter Tryd.func11, Tryd.ntmps11
  go_wp2_with fail
  go_loopw [3, 4] (fun o x wr => ∃ (m : Nat) (t : ByteArray) (z : Int), o = .string t ∧ x = .int .i64 z ∧ z = 97 + (m : Int) ∧ m ≤ 26 ∧ Hid (t = txt (sgTo (bs s) m)) ∧ Below w.heap.size w wr) (fun _ x _ => 123 - (intOf x).toNat)
  case atStart => exact ⟨0, _, _, rfl, rfl, rfl, by omega, hid rfl, Below.refl _ _⟩
  case round =>
    obtain ⟨m, t, z, rfl, rfl, hz, hm, HT, hb⟩ := hrel
    have htl : t.size ≤ 26 := by
      rw [HT.out, txt_size]
      have := sgTo_len (bs s) m
      omega
    by_cases hlt : m < 26
    · have hlI : z < 123 := by omega
      have hzl : 97 ≤ z := by omega
      have HZ := hid hz
      clear hz
      obtain ⟨w0, hw0⟩ : ∃ y, y = wr := ⟨_, rfl⟩
      subst hw0
      go_wp2_with fail
      go_loopw [5, 6] (fun f x wr => ∃ (i : Nat) (q : Bool), f = .bool q ∧ x = .int .i64 i ∧ i ≤ s.size ∧ Hid (q = decide ((97 + m).toUInt8 ∈ (bs s).take i)) ∧ wr = w0) (fun _ x _ => s.size - (intOf x).toNat)
      case atStart => exact ⟨0, false, rfl, rfl, Nat.zero_le _, hid (by simp), rfl⟩
      case round =>
        obtain ⟨i, q, rfl, rfl, hi, HQ, rfl⟩ := hrel
        by_cases hli : i < s.size
        · have hiI : (i : Int) < (s.size : Int) := by omega
          have hstep := bs_take_succ s i hli
          have hnum := chr_num hlt
          have hw64 : wrap64 (s[i].toNat : Int) = (s[i].toNat : Int) := by
            have := UInt8.toNat_lt s[i]
            rw [← IntWalk.i64_left, IntWalk.i64_in _ (by omega)]
          obtain ⟨r, hr⟩ : ∃ r, r = ((s[i].toNat : Int) == z) := ⟨_, rfl⟩
          have hcmp : (wrap64 (s[i].toNat : Int) == z) = r := by rw [hw64, hr]
          have HN : Hid ((q || r) = decide ((97 + m).toUInt8 ∈ (bs s).take (i + 1))) := hid (by
            have hz := HZ.out
            rw [HQ.out, hstep, hr]
            refine Bool.eq_iff_iff.2 ?_
            rw [Bool.or_eq_true, decide_eq_true_eq, decide_eq_true_eq, beq_iff_eq, List.mem_append, List.mem_singleton]
            refine or_congr Iff.rfl ⟨fun h => UInt8.toNat_inj.1 (by rw [hnum]; omega), fun h => ?_⟩
            rw [← h, hnum]; omega)
          clear HQ hstep hnum hw64 hr
          rcases Bool.eq_false_or_eq_true q with rfl | rfl
          · rw [Bool.true_or] at HN
            go_wp2_with fail
            go_roundw
            case rel => exact ⟨i + 1, true, rfl, by go_num, by omega, HN, by first | rfl | trivial⟩
            case measure => simp [intOf]; omega
          · rw [Bool.false_or] at HN
            go_wp2_with fail
            go_roundw
            case rel => exact ⟨i + 1, r, rfl, by go_num, by omega, HN, by first | rfl | trivial⟩
            case measure => simp [intOf]; omega
        · obtain rfl : i = s.size := by omega
          have hq : q = decide ((97 + m).toUInt8 ∈ bs s) := by rw [HQ.out, List.take_of_length_le (by rw [bs_len]; exact Nat.le_refl _)]
          have hsucc := sgTo_succ (bs s) m
          rcases Bool.eq_false_or_eq_true q with hqv | hqv
          · rw [hqv] at hq
            rw [if_pos (by simpa using hq.symm)] at hsucc
            have HN : Hid (t ++ oneT (97 + m).toUInt8 = txt (sgTo (bs s) (m + 1))) := hid (by
              rw [HT.out, hsucc, ← txt_app]; rfl)
            subst hqv
            have hconv : IntKind.u8.wrap z = ((97 + m).toUInt8.toNat : Int) := by
              have hz := HZ.out
              rw [chr_num hlt, IntWalk.u8_in z (by omega)]
              omega
            have hadd := fun W => run_string_add_sum (P := Tryd.prog) W t (oneT (97 + m).toUInt8) (by rw [oneT_size]; omega)
            generalize hC : (97 + m).toUInt8 = C at hconv hadd HN
            have hone := fun W => run_one (P := Tryd.prog) W C 50 9 5 Tryd.underlying50 Tryd.underlying5 Tryd.underlying9
            generalize t ++ oneT C = t2 at hadd HN
            clear HT HQ hq hsucc hC
            go_wp2_with fail
            go_roundw
            case rel => exact ⟨m + 1, t2, _, rfl, rfl, by have := HZ.out; omega, by omega, HN, hb.alloc hb.size _⟩
            case measure => simp [intOf]; omega
          · rw [hqv] at hq
            rw [if_neg (by simpa using hq.symm), List.append_nil] at hsucc
            have HN : Hid (t = txt (sgTo (bs s) (m + 1))) := hid (by rw [HT.out, hsucc])
            subst hqv
            clear HT HQ hq hsucc
            go_wp2_with fail
            go_roundw
            case rel => exact ⟨m + 1, t, _, rfl, rfl, by have := HZ.out; omega, by omega, HN, hb⟩
            case measure => simp [intOf]; omega
    · obtain rfl : m = 26 := by omega
      have hnI : ¬ z < 123 := by omega
      clear hz
      go_wp2_with fail
      go_ret
      exact ⟨by rw [HT.out]; rfl, hb⟩
end Go.Proofs.YtdhklkpeepmedaaDoor
