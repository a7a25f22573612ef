/-
  The walk of EditSteps: it returns true at every two texts. Conditions: the row's own sizes.
-/
import Derived.Test.YteeajhelnolfcaaEdfact
namespace Go.Proofs.Yteeajhelnolfcaa
open Go.RowKit

theorem estep_long (a b : ByteArray) (w : World) (h : 24 < a.size ∨ 24 < b.size) (ha : a.size ≤ maxLen) (hb : b.size ≤ maxLen) :
    Calls Try.prog 4 #[.string a, .string b] w fun e w' => e = .returned (.bool true) ∧ Below w.heap.size w w' := by
  have HF := fun W => hid (efact_any W)
  have H1 := fun W => hid (esteps_full a b W h ha hb)
  have hq : ByteArray.empty.toList.isEmpty = true := by rw [ByteArray.toList_eq]; rfl
  clear h ha hb
  generalize ByteArray.empty = u at H1 hq
  go_enter Try.func4, Try.ntmps4
  go_wp2_with fail
  refine (HF _).out.mono ?_
  rintro e w1 ⟨rfl, hb1⟩
  go_wp2_with fail
  refine (H1 _).out.mono ?_
  rintro e w2 ⟨rfl, hb2⟩
  have hbw := hb1.trans (hb2.mono hb1.size)
  clear HF H1 hb1 hb2
  go_wp2_with fail
  go_ret
  exact ⟨rfl, hbw⟩
theorem sc_len {a b s : List UInt8} (h : Sc a b s) : s.length ≤ a.length + b.length := by
  induction h with
  | nil => exact Nat.le_refl _
  | eq _ ih => simp only [List.length_cons]; omega
  | chg _ _ ih => simp only [List.length_cons]; omega
  | ins _ ih => simp only [List.length_cons]; omega
  | del _ ih => simp only [List.length_cons]; omega
set_option maxRecDepth 100000 in
set_option maxHeartbeats 4000000 in
theorem estep_any (a b : ByteArray) (w : World) (ha : a.size ≤ maxLen) (hb : b.size ≤ maxLen) :
    Calls Try.prog 4 #[.string a, .string b] w fun e w' => e = .returned (.bool true) ∧ Below w.heap.size w w' := by
  by_cases h : 24 < a.size ∨ 24 < b.size
  · exact estep_long a b w h ha hb
  have ha2 : a.size ≤ 24 := by omega
  have hb2 : b.size ≤ 24 := by omega
  clear h ha hb
  have HF := fun W => hid (efact_any W)
  have H1 := fun W => hid (esteps_any a b W ha2 hb2)
  have H2 := fun W => hid (efar_any a b W ha2 hb2)
  have hX : far (bs a) (bs b) ≤ 24 := tb_le a b 0 0 ha2 hb2
  go_enter Try.func4, Try.ntmps4
  go_wp2_with fail
  refine (HF _).out.mono ?_
  rintro e w1 ⟨rfl, hb1⟩
  go_wp2_with fail
  refine (H1 _).out.mono ?_
  rintro e w2 ⟨⟨o, rfl, ho⟩, hb2'⟩
  have hb12 := hb1.trans (hb2'.mono hb1.size)
  have hsl := sc_len ho.sc
  rw [bs_len, bs_len] at hsl
  have hco := ho.cost
  have hsc : ScAt a b (txt o) 0 0 0 := by
    have := ho.sc
    rw [← bs_txt o] at this
    exact this
  have hss : (txt o).size ≤ 48 := by rw [txt_size]; omega
  rw [← bs_txt o, ← coTo_all] at hco
  have HSC := hid hsc
  have HCO := hid hco
  clear H1 HF hb1 hb2' ho hsl hsc hco
  generalize txt o = s at HSC HCO hss ⊢
  generalize far (bs a) (bs b) = X at H2 HCO hX
  go_wp2_with fail
  refine (H2 _).out.mono ?_
  rintro e w3 ⟨rfl, hb3⟩
  have hbw := hb12.trans (hb3.mono hb12.size)
  clear H2 hb3 hb12
  go_wp2_with fail
  go_loopw [9, 10, 11, 12] (fun y z m x wr => ∃ i j k : Nat, y = .int .i64 i ∧ z = .int .i64 j ∧ m = .int .i64 (coTo s k : Nat) ∧ x = .int .i64 k ∧ i ≤ a.size ∧ j ≤ b.size ∧ k ≤ s.size ∧ Hid (ScAt a b s i j k) ∧ Hid (∃ q, wr = w3.drewN q)) (fun _ _ _ x _ => s.size - (intOf x).toNat)
  case atStart => exact ⟨0, 0, 0, rfl, rfl, by rw [coTo_zero]; rfl, rfl, by omega, by omega, by omega, HSC, hid ⟨0, rfl⟩⟩
  case round =>
    clear HSC
    obtain ⟨i, j, k, rfl, rfl, rfl, rfl, hi, hj, hk, HS, HQ⟩ := hrel
    have hm := coTo_le s k
    have HQ2 : ∀ q', Hid (∃ q, wr.drewN q' = w3.drewN q) := fun q' => hid (by
      obtain ⟨q, hq⟩ := HQ.out
      rw [hq]
      first | exact ⟨_, rfl⟩ | (simp only [World.drewN_drewN]; exact ⟨_, rfl⟩))
    by_cases hlt : k < s.size
    · have hs := coTo_succ hlt
      have hst := scAt_step HS.out hlt
      have hsg := sg_eq s k hlt
      have hval : ∀ c : UInt8, sg s k = c → (s[k].toNat : Int) = (c.toNat : Int) := fun c h => by rw [← h, hsg]
      clear hsg HS
      rcases hst with ⟨hc, hia, hjb, he, HN⟩ | ⟨hc, hia, hjb, he, HN⟩ | ⟨hc, hjb, HN⟩ | ⟨hc, hia, HN⟩
      · have hv : (s[k].toNat : Int) = 61 := hval 61 hc
        have HS2 : Hid (coTo s (k + 1) = coTo s k) := hid (by rw [hs, hc]; rfl)
        have HN2 := hid HN
        have hq : ((a[i].toNat : Int) == (b[j].toNat : Int)) = true := by rw [sg_eq a i hia, sg_eq b j hjb] at he; simp [he]
        clear hval hc he HN hs
        generalize coTo s k = M at hm HS2 ⊢
        go_wp2_with fail
        go_quiet (fail)
        go_wp2_with fail
        go_roundw
        case rel => exact ⟨i + 1, j + 1, k + 1, by go_num, by go_num, by rw [HS2.out], by go_num, by omega, by omega, by omega, HN2, HQ2 _⟩
        case measure => simp [intOf]; omega
      · have hv : (s[k].toNat : Int) = 33 := hval 33 hc
        have HS2 : Hid (coTo s (k + 1) = coTo s k + 1) := hid (by rw [hs, hc]; rfl)
        have HN2 := hid HN
        have hq : ((a[i].toNat : Int) != (b[j].toNat : Int)) = true := by rw [sg_eq a i hia, sg_eq b j hjb] at he; simpa using byte_apart he
        clear hval hc he HN hs
        generalize coTo s k = M at hm HS2 ⊢
        go_wp2_with fail
        go_quiet (fail)
        go_wp2_with fail
        go_roundw
        case rel => exact ⟨i + 1, j + 1, k + 1, by go_num, by go_num, by rw [HS2.out]; go_num, by go_num, by omega, by omega, by omega, HN2, HQ2 _⟩
        case measure => simp [intOf]; omega
      · have hv : (s[k].toNat : Int) = 43 := hval 43 hc
        have HS2 : Hid (coTo s (k + 1) = coTo s k + 1) := hid (by rw [hs, hc]; rfl)
        have HN2 := hid HN
        clear hval hc HN hs
        generalize coTo s k = M at hm HS2 ⊢
        go_wp2_with fail
        go_roundw
        case rel => exact ⟨i, j + 1, k + 1, by go_num, by go_num, by rw [HS2.out]; go_num, by go_num, by omega, by omega, by omega, HN2, HQ⟩
        case measure => simp [intOf]; omega
      · have hv : (s[k].toNat : Int) = 45 := hval 45 hc
        have HS2 : Hid (coTo s (k + 1) = coTo s k + 1) := hid (by rw [hs, hc]; rfl)
        have HN2 := hid HN
        clear hval hc HN hs
        generalize coTo s k = M at hm HS2 ⊢
        go_wp2_with fail
        go_roundw
        case rel => exact ⟨i + 1, j, k + 1, by go_num, by go_num, by rw [HS2.out]; go_num, by go_num, by omega, by omega, by omega, HN2, HQ⟩
        case measure => simp [intOf]; omega
    · obtain ⟨e1, e2⟩ := scAt_end HS.out (by omega) hi hj
      have hbx : Below w.heap.size w wr := by obtain ⟨q, hq⟩ := HQ.out; rw [hq]; exact below_drewN hbw q
      have hks : k = s.size := by omega
      rw [hks, HCO.out]
      have t1 : ((i : Int) == (a.size : Int)) = true := beq_iff_eq.2 (by omega)
      have t2 : ((j : Int) == (b.size : Int)) = true := beq_iff_eq.2 (by omega)
      have hd : decide (s.size < s.size) = false := by simp
      clear hm e1 e2 hlt HS HQ HQ2 hks HCO
      go_wp2_with fail
      go_ret
      exact ⟨rfl, hbx⟩
end Go.Proofs.Yteeajhelnolfcaa
