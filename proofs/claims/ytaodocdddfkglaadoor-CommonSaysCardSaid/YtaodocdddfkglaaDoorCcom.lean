/-
  Contracts of package common: Long, Of and Within: what two texts have in common, or the error of a text that is too long; the old memory is left alone. Conditions: none but the sizes that a row itself sets.
-/
import Derived.Test.YtaodocdddfkglaaDoorCbeg
import Derived.Test.YtaodocdddfkglaaDoorCmeas
import Derived.Test.YtaodocdddfkglaaDoorByteI
import Derived.Test.YtaodocdddfkglaaDoorConv
import Derived.Lib.Bytealg
namespace Go.Proofs.YtaodocdddfkglaaDoor
open Go.RowKit

set_option maxRecDepth 100000 in
set_option maxHeartbeats 400000 in
theorem clong_full (a b : ByteArray) (w : World) (h : 24 < a.size ∨ 24 < b.size) (ha : a.size ≤ maxLen) (hb : b.size ≤ maxLen) :
    Calls Tryd.prog 6 #[.string a, .string b] w fun e w' => e = .returned (.tuple #[.int .i64 0, .iface 40 (.int .i64 4)]) ∧ Below w.heap.size w w' := by
  have HQ := hid (cmeasure_full a b w h ha hb)
  clear h ha hb
  go_enter Tryd.func6, Tryd.ntmps6
  go_wp2_with fail
  refine HQ.out.mono ?_
  rintro e w1 ⟨rfl, hb1⟩
  have hs1 := hb1.size
  clear HQ
  go_wp2_with (refine wpList_alloc_arr rfl 37 rfl 625 lz ?_)
  intro w2 hA2 hb2 _
  go_wp2_with (refine wpList_store_arr rfl 37 _ _ rfl 625 w1.heap.size _ _ rfl rfl hA2 li ?_)
  intro w3 hA3 hb3 _ _
  clear hA2 hA3
  go_wp2
  go_ret2
  exact ⟨rfl, hb1.trans ((hb2.trans hb3).mono hs1)⟩

set_option maxRecDepth 100000 in
set_option maxHeartbeats 800000 in
theorem clong_any (a b : ByteArray) (w : World) (ha : a.size ≤ 24) (hb : b.size ≤ 24) :
    Calls Tryd.prog 6 #[.string a, .string b] w fun e w' => e = .returned (.tuple #[.int .i64 ((cmn (bs a) (bs b)).length : Nat), .nilIface]) ∧ Below w.heap.size w w' := by
  have HQ := hid (cmeasure_any a b w ha hb)
  obtain ⟨n, hn⟩ : ∃ n, n = (cmn (bs a) (bs b)).length := ⟨_, rfl⟩
  rw [← hn]
  have HN := hid hn
  clear ha hb hn
  go_enter Tryd.func6, Tryd.ntmps6
  go_wp2_with fail
  refine HQ.out.mono ?_
  rintro e w1 ⟨rfl, hb1⟩
  have hs1 := hb1.size
  clear HQ
  go_wp2_with (refine wpList_alloc_arr rfl 37 rfl 625 lz ?_)
  intro w2 hA2 hb2 _
  go_wp2_with (refine wpList_store_arr rfl 37 _ _ rfl 625 w1.heap.size _ _ rfl rfl hA2 li ?_)
  intro w3 hA3 hb3 _ _
  have hc : w3.cell? ⟨w1.heap.size, 0, none⟩ = some (.int .i64 (n : Nat)) := by
    rw [hA3.cell 0 (by omega), HN.out, ← lcT_zero]
    exact congrArg (fun z => some (Value.int .i64 z)) (lcF_at (a := a) (b := b) (t := 0) (i := 0) (j := 0) (Nat.le_refl _) (by omega))
  have hb3 := hb1.trans ((hb2.trans hb3).mono hs1)
  clear hA2 hA3 hb2 hb1 HN
  go_wp2
  go_ret2
  exact ⟨rfl, hb3⟩

set_option maxRecDepth 100000 in
set_option maxHeartbeats 400000 in
theorem cof_full (a b : ByteArray) (w : World) (h : 24 < a.size ∨ 24 < b.size) (ha : a.size ≤ maxLen) (hb : b.size ≤ maxLen) :
    Calls Tryd.prog 8 #[.string a, .string b] w fun e w' => e = .returned (.tuple #[.string ByteArray.empty, .iface 40 (.int .i64 4)]) ∧ Below w.heap.size w w' := by
  have HQ := hid (cmeasure_full a b w h ha hb)
  clear h ha hb
  go_enter Tryd.func8, Tryd.ntmps8
  go_wp2_with fail
  refine HQ.out.mono ?_
  rintro e w1 ⟨rfl, hb1⟩
  have hs1 := hb1.size
  clear HQ
  go_wp2_with (refine wpList_alloc_arr rfl 37 rfl 625 lz ?_)
  intro w2 hA2 hb2 _
  go_wp2_with (refine wpList_store_arr rfl 37 _ _ rfl 625 w1.heap.size _ _ rfl rfl hA2 li ?_)
  intro w3 hA3 hb3 _ _
  clear hA2 hA3
  go_wp2
  go_ret2
  exact ⟨rfl, hb1.trans ((hb2.trans hb3).mono hs1)⟩

set_option maxRecDepth 100000 in
set_option maxHeartbeats 4000000 in
theorem cof_any (a b : ByteArray) (w : World) (ha : a.size ≤ 24) (hb : b.size ≤ 24) :
    Calls Tryd.prog 8 #[.string a, .string b] w fun e w' => e = .returned (.tuple #[.string (txt (cmn (bs a) (bs b))), .nilIface]) ∧ Below w.heap.size w w' := by
  obtain ⟨i0, hi0, hz0, hz1, hz2⟩ := info_parts byteI
  have HQ := hid (cmeasure_any a b w ha hb)
  go_enter Tryd.func8, Tryd.ntmps8
  go_wp2_with fail
  refine HQ.out.mono ?_
  rintro e w1 ⟨rfl, hb1⟩
  have hs1 := hb1.size
  clear HQ
  go_wp2_with (refine wpList_alloc_arr rfl 37 rfl 625 lz ?_)
  intro w2 hA2 hb2 hs2
  go_wp2_with (refine wpList_store_arr rfl 37 _ _ rfl 625 w1.heap.size _ _ rfl rfl hA2 li ?_)
  intro w3 hA3 hc3 _ hs3
  have HA := hid hA3
  have hb3 := hb1.trans ((hb2.trans hc3).mono hs1)
  have hg3 : w1.heap.size < w3.heap.size := by omega
  clear hA2 hA3 hb1 hb2 hc3 hs2 hs3
  generalize w1.heap.size = g at hs1 HA hg3 ⊢
  go_wp2_with fail
  go_loopw [8, 9, 10] (fun v x y wr => ∃ (cs : List UInt8) (i j : Nat) (V : Value), V = v ∧ x = .int .i64 i ∧ y = .int .i64 j ∧ i ≤ a.size ∧ j ≤ b.size ∧ Hid (cmn (bs a) (bs b) = cs ++ cmn ((bs a).drop i) ((bs b).drop j)) ∧ Hid (Arr wr g 37 625 (lcF a b 0)) ∧ Hid (OwnB wr (g + 1) 5 V cs) ∧ Hid (g < wr.heap.size) ∧ Below w.heap.size w wr) (fun _ x _ _ => a.size - (intOf x).toNat)
  case atStart => exact ⟨[], 0, 0, _, rfl, rfl, rfl, Nat.zero_le _, Nat.zero_le _, hid rfl, HA, hid (OwnB.nil _ _ _), hid hg3, hb3⟩
  case round =>
    clear HA hb3 hg3
    obtain ⟨cs, i, j, v, hv, rfl, rfl, hi, hj, HC, HA, HO, HG, hbw⟩ := hrel
    subst hv
    have hc0 : wr.cell? ⟨g, i * 25 + j, none⟩ = some (.int .i64 (lcT a b i j : Nat)) := by rw [Nat.mul_comm i 25, HA.out.cell (25 * i + j) (by omega), lcF_at (Nat.zero_le _) (by omega)]
    have hn0 := lcT_le a b i j
    have k1 : (i : Int) < 25 := by omega
    have k2 : (j : Int) < 25 := by omega
    by_cases hp : 0 < lcT a b i j
    · have HB := hid (cbegin_any g a b i j wr ha hb hi hj hp HA.out)
      have HP := hid hp
      have hlen : cs.length ≤ 24 := by
        have h1 := (cmn_le (bs a) (bs b)).1
        rw [HC.out, List.length_append, bs_len] at h1
        omega
      generalize hn : lcT a b i j = n at hc0 hn0 hp
      have HN := hid hn
      clear hn
      go_wp2_with fail
      refine HB.out.mono ?_
      rintro e w4 ⟨x, y, rfl, hbg, hb4⟩
      have hgr := HG.out
      have HA4 := hid (HA.out.below hb4 hgr)
      have HO4 := hid (HO.out.below hb4 (Nat.le_refl _))
      have hbw4 := hbw.trans (hb4.mono hbw.size)
      have hx : x < a.size := hbg.1.2.2.1
      have hy : y < b.size := hbg.1.2.2.2.1
      have hix : i ≤ x := hbg.1.1
      have hsz := hb4.size
      have HC2 : Hid (cmn (bs a) (bs b) = (cs ++ [a[x]]) ++ cmn ((bs a).drop (x + 1)) ((bs b).drop (y + 1))) := hid (by
        rw [HC.out, bg_cmn hbg HP.out, sg_eq a x hx, List.append_assoc]; rfl)
      have HG4 : Hid (g < w4.heap.size) := hid (by omega)
      clear HB HA HO hbw hbg hc0 hn0 hp HC HP HN HG hb4
      generalize hC : a[x] = C at HC2
      have hlen2 : cs.length ≤ 1099511627776 := by omega
      have hsz4 : g + 1 ≤ w4.heap.size := HG4.out
      have hout : Out v 0 0 := fun b _ => .inr (Nat.zero_le _)
      go_wp2_with (at_builtin; refine wpList_append_byte _ rfl (.tmp 38) (.tmp 42) 42 rfl (g + 1) 5 i0 Tryd.underlying42 hi0 hz0 hz1 hz2 _ cs rfl HO4.out C rfl hlen2 hsz4 0 0 hout (Nat.zero_le _) ?_)
      intro v' w6 hown6 hb6 _ _
      have HO6 := hid hown6
      have HA6 := hid (HA4.out.below hb6 (Nat.lt_succ_self g))
      have hbx := hbw4.trans (hb6.mono (Nat.le_succ_of_le hs1))
      have HG6 : Hid (g < w6.heap.size) := hid (by have := hb6.size; omega)
      clear hown6 hb6 HO4 HA4 hbw4 hout hC HG4
      go_wp2_with fail
      go_roundw
      case rel => exact ⟨_, x + 1, y + 1, _, rfl, by go_num, by go_num, by omega, by omega, HC2, HA6, HO6, HG6, hbx⟩
      case measure => simp [intOf]; omega
    · have hz : lcT a b i j = 0 := by omega
      have hconv := conv_own HO.out
      have hres := HC.out
      rw [cmn_done hz, List.append_nil] at hres
      have HR := hid hres
      rw [hz] at hc0
      clear HA HC HO hp hn0 hres hz
      go_wp2_with fail
      go_ret2
      exact ⟨by rw [HR.out]; rfl, hbw⟩

/-- strings.IndexByte: the first place of a sign. -/
theorem indexByte_at (l : List UInt8) (c : UInt8) : (Lib.indexByte l c = -1 ∧ ∀ i : Nat, l[i]? ≠ some c) ∨ (∃ k : Nat, Lib.indexByte l c = (k : Int) ∧ l[k]? = some c ∧ ∀ i, i < k → l[i]? ≠ some c) := by
  induction l with
  | nil => exact .inl ⟨rfl, fun i => by simp⟩
  | cons x l ih =>
    unfold Lib.indexByte
    by_cases hx : x = c
    · subst hx
      exact .inr ⟨0, by simp, by simp, fun i hi => by omega⟩
    · have hne : (x == c) = false := by simpa using hx
      rw [hne]
      rcases ih with ⟨h1, h2⟩ | ⟨k, h1, h2, h3⟩
      · refine .inl ⟨by simp [h1], fun i => ?_⟩
        cases i with
        | zero => simpa using hx
        | succ i => simpa using h2 i
      · refine .inr ⟨k + 1, ?_, by simpa using h2, fun i hi => ?_⟩
        · have hk : (Lib.indexByte l c == -1) = false := by rw [h1, beq_eq_false_iff_ne]; omega
          rw [hk, h1]; simp
        · cases i with
          | zero => simpa using hx
          | succ i => simpa using h3 i (by omega)
set_option maxHeartbeats 400000 in
theorem cindex_any (s : ByteArray) (x : UInt8) (w : World) :
    Calls Tryd.prog 16 #[.string s, .int .u8 (x.toNat : Int)] w fun e w' => e = .returned (.int .i64 (Lib.indexByte (bs s) x)) ∧ w' = w := by
  have hrun := fun W => Lib.run_indexByteString (P := Tryd.prog) s (x.toNat : Int) W
  rw [show ((x.toNat : Int)).toNat.toUInt8 = x by simp, show s.data.toList = bs s from rfl] at hrun
  generalize Lib.indexByte (bs s) x = k at hrun ⊢
  have inner : ∀ W, Calls Tryd.prog 19 #[.string s, .int .u8 (x.toNat : Int)] W fun e w' => e = .returned (.int .i64 k) ∧ w' = W := fun W => by
    have hrun := hrun W
    go_enter Tryd.func19, Tryd.ntmps19
    go_wp2
    rw [run_callFunc_extern Tryd.func24 (by kernel_rfl) (by kernel_rfl) (by kernel_rfl) (e := Extern.BytealgIndexByte.indexByte) (by kernel_rfl), hrun]
    simp only [Result.andThen]
    rw [Oper.upon_value]
    go_wp2
    go_ret
    exact ⟨rfl, rfl⟩
  have H := fun W => hid (inner W)
  clear inner hrun
  go_enter Tryd.func16, Tryd.ntmps16
  go_wp2_with fail
  refine (H _).out.mono ?_
  rintro e w1 ⟨rfl, hw1⟩
  subst w1
  go_wp2_with fail
  go_ret
  exact ⟨rfl, rfl⟩

theorem cwithin_full (a b : ByteArray) (w : World) (h : 24 < a.size ∨ 24 < b.size) (ha : a.size ≤ maxLen) (hb : b.size ≤ maxLen) :
    Calls Tryd.prog 9 #[.string a, .string b] w fun e w' => e = .returned (.tuple #[.bool false, .iface 40 (.int .i64 4)]) ∧ Below w.heap.size w w' := by
  have H1 := hid (clong_two a b w h ha hb)
  clear h
  go_enter Tryd.func9, Tryd.ntmps9
  go_wp2_with fail
  refine H1.out.mono ?_
  rintro e w1 ⟨rfl, hw1⟩
  subst w1
  go_wp2_with fail
  go_ret2
  exact ⟨rfl, Below.refl _ _⟩

set_option maxHeartbeats 2000000 in
theorem cwithin_any (a b : ByteArray) (w : World) (ha : a.size ≤ 24) (hb : b.size ≤ 24) :
    Calls Tryd.prog 9 #[.string a, .string b] w fun e w' => e = .returned (.tuple #[.bool (wiB (bs a) (bs b)), .nilIface]) ∧ Below w.heap.size w w' := by
  have H1 := hid (cshort_two a b w ha hb)
  have HI := fun s x W => hid (cindex_any s x W)
  go_enter Tryd.func9, Tryd.ntmps9
  go_wp2_with fail
  refine H1.out.mono ?_
  rintro e w1 ⟨rfl, hw1⟩
  subst w1
  clear H1
  go_wp2_with fail
  go_loopw [6, 16] (fun r x wr => ∃ (s : ByteArray) (i : Nat), r = .string s ∧ x = .int .i64 i ∧ i ≤ a.size ∧ s.size ≤ 24 ∧ Hid (wiB (bs a) (bs b) = wiB ((bs a).drop i) (bs s)) ∧ wr = w) (fun _ x _ => a.size - (intOf x).toNat)
  case atStart => exact ⟨b, 0, rfl, rfl, Nat.zero_le _, hb, hid rfl, rfl⟩
  case round =>
    obtain ⟨s, i, rfl, rfl, hi, hs, HW, rfl⟩ := hrel
    by_cases hlt : i < a.size
    · have hd : (bs a).drop i = a[i] :: (bs a).drop (i + 1) := by rw [bs_drop_cons hlt, sg_eq a i hlt]
      have HX := indexByte_at (bs s) a[i]
      go_wp2_with fail
      refine (HI _ _ _).out.mono ?_
      rintro e w1 ⟨rfl, hw1⟩
      subst w1
      rcases HX with ⟨h1, h2⟩ | ⟨k, h1, h2, h3⟩
      · have hR : wiB (bs a) (bs b) = false := by rw [HW.out, hd]; exact wiB_none _ _ _ h2
        have HR := hid hR
        rw [h1]
        clear h1 h2 HW HI hd hR
        go_wp2_with fail
        go_ret2
        exact ⟨by rw [HR.out]; rfl, Below.refl _ _⟩
      · have hk : k < s.size := by
          rw [← bs_len]
          exact (List.getElem?_eq_some_iff.1 h2).1
        have HN : Hid (wiB (bs a) (bs b) = wiB ((bs a).drop (i + 1)) (bs (s.extract (k + 1) s.size))) := hid (by
          rw [HW.out, hd, wiB_some _ _ _ _ h2 h3, wb_ext, List.take_of_length_le (by rw [bs_len]; exact Nat.le_refl _)])
        have hcut : ∀ W : World, Sem.run Tryd.prog (Instr.slice 9 (.string s) (some (.int .i64 ((k : Int) + 1))) none none) W = .ok (.string (s.extract (k + 1) s.size)) W := fun W =>
          run_slice_string_l W 9 s Tryd.underlying9 .i64 ((k : Int) + 1) (by omega) (by omega)
        have hsz : (s.extract (k + 1) s.size).size ≤ 24 := by rw [ByteArray.size_extract]; omega
        generalize s.extract (k + 1) s.size = r at hcut HN hsz
        rw [h1]
        clear h1 h2 h3 HW HI hd
        go_wp2_with fail
        go_roundw
        case rel => exact ⟨r, i + 1, rfl, by go_num, by omega, hsz, HN, by first | rfl | trivial⟩
        case measure => simp [intOf]; omega
    · have hR : wiB (bs a) (bs b) = true := by
        rw [HW.out, bs_drop_nil (by omega), wiB]
      have HR := hid hR
      clear HW HI hR
      go_wp2_with fail
      go_ret2
      exact ⟨by rw [HR.out]; rfl, Below.refl _ _⟩
end Go.Proofs.YtaodocdddfkglaaDoor
