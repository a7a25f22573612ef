/-
  Contract of mirror.Longest: the longest palindrome of a text, the first of several. Conditions: the row's own sizes.
-/
import Derived.Test.YtaodocdddfkglaaMir
namespace Go.Proofs.Ytaodocdddfkglaa
open Go.RowKit

set_option maxHeartbeats 400000 in
theorem longest_long (s : ByteArray) (w : World) (h : 24 < s.size) (hs : s.size ≤ maxLen) :
    Calls Try.prog 14 #[.string s] w fun e w' => e = .returned (.tuple #[.int .i64 0, .int .i64 0, .iface 47 (.int .i64 4)]) ∧ Below w.heap.size w w' := by
  have HQ := hid (measure_long s w h hs)
  unfold maxLen at hs
  go_enter Try.func14, Try.ntmps14
  go_wp2_with fail
  refine HQ.out.mono ?_
  rintro e w1 ⟨rfl, hb1⟩
  have hs1 := hb1.size
  clear HQ
  go_wp2_with (refine wpList_alloc_arr rfl 52 rfl 49 wz ?_)
  intro w2 hA2 hb2 _
  go_wp2_with (refine wpList_store_arr rfl 52 _ _ rfl 49 w1.heap.size _ _ rfl rfl hA2 wi ?_)
  intro w3 hA3 hb3 _ _
  clear hA2 hA3
  go_wp2
  go_ret3
  exact ⟨rfl, hb1.trans ((hb2.trans hb3).mono hs1)⟩

set_option maxHeartbeats 800000 in
theorem longest_any (s : ByteArray) (w : World) (h : s.size ≤ 24) :
    Calls Try.prog 14 #[.string s] w fun e w' => ∃ a m : Nat, e = .returned (.tuple #[.int .i64 a, .int .i64 m, .nilIface]) ∧ Lgst (sg s) s.size a m ∧ Below w.heap.size w w' := by
  have HQ := hid (measure_any s w h)
  go_enter Try.func14, Try.ntmps14
  go_wp2_with fail
  refine HQ.out.mono ?_
  rintro e w1 ⟨rfl, hb1⟩
  have hs1 := hb1.size
  clear HQ
  go_wp2_with (refine wpList_alloc_arr rfl 52 rfl 49 wz ?_)
  intro w2 hA2 hb2 hs2
  go_wp2_with (refine wpList_store_arr rfl 52 _ _ rfl 49 w1.heap.size _ _ rfl rfl hA2 wi ?_)
  intro w3 hA3 hc3 _ es3
  have HA := hid hA3
  have hb3 := hb1.trans ((hb2.trans hc3).mono hs1)
  clear hA2 hA3 hs2 es3 hb1 hb2 hc3
  generalize w1.heap.size = g at hs1 HA ⊢
  go_wp2_with (refine wpList_load_arr rfl 52 _ rfl 49 3 g rfl _ HA.out Try.underlying52 wi ?_)
  go_loopw [2, 3, 17] (fun x y c wr => ∃ a m k : Nat, x = .int .i64 a ∧ y = .int .i64 m ∧ c = .int .i64 k ∧ k ≤ 49 ∧ Hid (Mid (sg s) s.size k a m) ∧ wr = w3) (fun _ _ c _ => 49 - (intOf c).toNat)
  case atStart => exact ⟨0, 0, 0, rfl, rfl, rfl, by omega, hid (mid_start _ _), rfl⟩
  case round =>
    obtain ⟨a, m, k, rfl, rfl, rfl, hk, HM, rfl⟩ := hrel
    by_cases hlt : k < 49
    · have hix : ∀ W : World, Sem.run Try.prog (Instr.index 52 (aggF 49 (tabF s 49)) (.int .i64 (k : Int))) W = .ok (.int .i64 (widT (sg s) s.size k : Nat)) W := fun W => by
        rw [run_index_arr W 52 49 3 (tabF s 49) k Try.underlying52 Try.isAgg3 Try.sizeOf3 hlt, tab_any s k hlt]
      have hwz := widT_le (sg s) s.size k
      have hml := mid_le HM.out
      by_cases hgt : m < widT (sg s) s.size k
      · have HN := hid (mid_yes HM.out hgt)
        generalize widT (sg s) s.size k = z at hix hwz hgt HN
        have hq : ((k : Int) - (z : Int)) / 2 = (((k - z) / 2 : Nat) : Int) := by omega
        generalize (k - z) / 2 = o at hq HN
        clear HM
        go_wp2
        go_roundw
        case rel => exact ⟨o, z, k + 1, by first | rfl | (rw [hq]; rfl) | go_num, rfl, by go_num, by omega, HN, by first | rfl | trivial⟩
        case measure => simp [intOf]; omega
      · have HN := hid (mid_no HM.out hgt)
        generalize widT (sg s) s.size k = z at hix hwz hgt
        clear HM
        go_wp2
        go_roundw
        case rel => exact ⟨a, m, k + 1, rfl, rfl, by go_num, by omega, HN, by first | rfl | trivial⟩
        case measure => simp [intOf]; omega
    · have HL := hid (mid_end HM.out (by omega))
      clear HM
      go_wp2
      go_ret3
      exact ⟨a, m, rfl, HL.out, hb3⟩
end Go.Proofs.Ytaodocdddfkglaa
