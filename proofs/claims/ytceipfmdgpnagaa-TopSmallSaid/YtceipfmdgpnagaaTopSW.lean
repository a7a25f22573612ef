/-
  The walk of TopSmall: it returns true at every text. Conditions: the row's own size.
-/
import Derived.Test.YtceipfmdgpnagaaFthere
import Derived.Test.YtceipfmdgpnagaaWbk
import Derived.Test.YtceipfmdgpnagaaRwrite
import Derived.Test.YtceipfmdgpnagaaRread
import Derived.Test.YtceipfmdgpnagaaStr
namespace Go.Proofs.Ytceipfmdgpnagaa
open Go.RowKit

theorem void_text : (ByteArray.empty.toList).isEmpty = true := by rw [ByteArray.toList_eq]; rfl
theorem ok_none : OkTo [] ([] : List (UInt8 × Int)).length := fun i hi => by simp at hi
/-- How many of the first i numbers are not 0. -/
def movTo (l : List Int) (i : Nat) : Nat := (l.take i).countP fun k => k != 0
theorem movTo_yes {l : List Int} {i : Nat} (h : i < l.length) (h0 : l.getD i 0 ≠ 0) : movTo l (i + 1) = movTo l i + 1 := by
  unfold movTo
  rw [take_snoc (d := 0) l i h, List.countP_append, List.countP_singleton, if_pos (by simpa using h0)]
theorem movTo_no {l : List Int} {i : Nat} (h : i < l.length) (h0 : l.getD i 0 = 0) : movTo l (i + 1) = movTo l i := by
  unfold movTo
  rw [take_snoc (d := 0) l i h, List.countP_append, List.countP_singleton, if_neg (by simpa using h0), Nat.add_zero]
theorem movTo_le (l : List Int) (i : Nat) : movTo l i ≤ i := by
  unfold movTo
  have := List.countP_le_length (p := fun k : Int => k != 0) (l := l.take i)
  rw [List.length_take] at this
  omega

set_option maxHeartbeats 4000000 in
set_option maxRecDepth 100000 in
theorem topSmall_any (s : ByteArray) (w : World) (hs : s.size ≤ maxLen) :
    Calls Try.prog 5 #[.string s] w fun e w' => e = .returned (.bool true) ∧ Below w.heap.size w w' := by
  have hv := void_text
  have HR0 := fun W => hid (read_ok none 0 0 [] W (by unfold maxLen; omega) IsRuns.nil ok_none)
  rw [show txt (unr []) = ByteArray.empty from rfl] at HR0
  by_cases h : s.size ≤ 24
  · have H1 := fun W => hid (there_any s W h)
    have hsl : (bs s).length ≤ 24 := by rw [bs_len]; exact h
    have H9 := fun W => hid (back_wheel (bs s) (wheelN (bs s)) W hsl ⟨fun h0 => (wheelN_here h0).1, fun h0 => by rw [List.length_eq_zero_iff.1 h0, wheelN_nil]⟩)
    have hrow : (wheelM (bs s)).getD (wheelN (bs s)) [] = bs s := by
      rcases Nat.eq_zero_or_pos (bs s).length with e | e
      · have e' := List.length_eq_zero_iff.1 e
        have : wheelM (bs s) = [] := List.length_eq_zero_iff.1 (by rw [wheelM_len]; exact e)
        rw [this, e']; rfl
      · exact (wheelN_here e).2
    rw [hrow, txt_bs] at H9
    have hnn : wheelN (bs s) ≤ 24 := Nat.le_trans (wheelN_le _) hsl
    have hts : (txt (wheelT (bs s))).size = s.size := by rw [txt_size, wheelT_len, bs_len]
    have hq := same_yes (rfl : s = s)
    generalize wheelN (bs s) = n at H1 H9 hnn
    generalize txt (wheelT (bs s)) = t at H1 H9 hts
    clear hrow hsl hs
    have H2 := fun W => hid (fthere_any t W (by omega))
    have H3 := fun W => hid (write_any t W (by omega))
    rw [hts] at H2
    have hqt := same_yes (rfl : t = t)
    go_enter Try.func5, Try.ntmps5
    go_wp2_with fail
    refine (H1 _).out.mono ?_
    rintro e w1 ⟨rfl, hb1⟩
    clear H1
    go_wp2_with fail
    refine (HR0 _).out.mono ?_
    rintro e w2 ⟨rfl, hb2⟩
    have hbA := hb1.trans (hb2.mono hb1.size)
    clear hb1 hb2 HR0
    go_wp2_with fail
    refine (H2 _).out.mono ?_
    rintro e w3 ⟨A3, c3, rfl, hI3, hb3⟩
    have hbB := hbA.trans (hb3.mono hbA.size)
    clear hbA hb3 H2
    go_wp2_with fail
    refine (H3 _).out.mono ?_
    rintro e w4 ⟨A4, c4, r, rfl, hg4, hu4, hI4, hb4⟩
    have hbC := hbB.trans (hb4.mono hbB.size)
    have HI3 := hid (hI3.keep hb4.size fun _ _ hp => hb4.cell hp)
    have hrl := good_len hg4
    rw [hu4, bs_len, hts] at hrl
    have hmr := moved_runs hg4
    rw [hu4] at hmr
    have hcl := hid ((codF_len allB (bs t)).trans ((bs_len t).trans hts))
    have H5 := hid (fback_ok A3 s.size c3 _ w4 (by omega) HI3.out (codF_in full_all _))
    rw [dec_cod full_all, txt_bs] at H5
    have H6 := fun W hW => hid (read_ok A4 r.length c4 r W (by unfold maxLen; omega) hW (okTo_good.2 ⟨hg4, by rw [hu4, bs_len]; omega⟩))
    rw [hu4, txt_bs] at H6
    have HI4 := hid hI4
    clear hI3 hb4 hbB hI4 hg4 hu4 H3
    generalize codF allB (bs t) = L at HI3 hmr hcl H5
    have HMR := hid hmr
    clear hmr
    generalize r.length = R at HMR hrl H6 HI4 ⊢
    go_wp2_with fail
    go_loopw [12, 13] (fun v x wr => ∃ i m : Nat, i ≤ s.size ∧ m ≤ i ∧ Hid (m = movTo L i) ∧ v = .int .i64 m ∧ x = .int .i64 i ∧ wr = w4) (fun _ x _ => s.size - (intOf x).toNat)
    case atStart => exact ⟨0, 0, by omega, by omega, hid (by simp [movTo]), rfl, rfl, rfl⟩
    case round =>
      obtain ⟨i, m, hin, hmi, HM, rfl, rfl, hwr⟩ := hrel
      subst hwr
      by_cases hlt : i < s.size
      · obtain ⟨g, off, rfl, _, hc⟩ := HI3.out.2 (by omega)
        have hci := hc i hlt
        have hli : i < L.length := by rw [hcl.out]; exact hlt
        by_cases h0 : L.getD i 0 = 0
        · have HM2 := hid (movTo_no hli h0)
          rw [h0] at hci
          clear hc hli h0 H5
          go_wp2_with fail
          go_roundw
          case rel => exact ⟨i + 1, m, by omega, by omega, hid (by rw [HM2.out]; exact HM.out), rfl, by go_num, trivial⟩
          case measure => simp [intOf]; omega
        · have HM2 := hid (movTo_yes hli h0)
          generalize L.getD i 0 = X at hci h0
          have hx : (X != 0) = true := by simpa using h0
          clear hc hli h0 H5
          go_wp2_with fail
          go_roundw
          case rel => exact ⟨i + 1, m + 1, by omega, by omega, hid (by rw [HM2.out, HM.out]), by go_num, by go_num, trivial⟩
          case measure => simp [intOf]; omega
      · obtain rfl : i = s.size := by omega
        have hm := HM.out
        unfold movTo at hm
        rw [List.take_of_length_le (by rw [hcl.out]; exact Nat.le_refl _)] at hm
        have h1 : ¬ R < m := by have := HMR.out.1; omega
        have h2 : R ≤ m + 1 := by have := HMR.out.2; omega
        have h3 : ¬ ((m : Int) < (R : Int) - 1) := by omega
        clear hm HM HMR hcl
        go_wp2_with fail
        refine H5.out.mono ?_
        rintro e w5 ⟨rfl, hb5⟩
        have H6 := H6 w5 (HI4.out.on hb5)
        have hbD := hbC.trans (hb5.mono hbC.size)
        clear hb5 hbC H5 HI4 HI3
        go_wp2_with fail
        refine H6.out.mono ?_
        rintro e w6 ⟨rfl, hb6⟩
        have hbE := hbD.trans (hb6.mono hbD.size)
        clear hb6 hbD H6
        go_wp2_with fail
        refine (H9 _).out.mono ?_
        rintro e w7 ⟨rfl, hb7⟩
        have hbF := hbE.trans (hb7.mono hbE.size)
        clear hb7 hbE H9
        go_wp2_with fail
        go_ret
        exact ⟨rfl, hbF⟩
  · have H1 := fun W => hid (there_long s W (by omega) hs)
    clear hs
    go_enter Try.func5, Try.ntmps5
    go_wp2_with fail
    refine (H1 _).out.mono ?_
    rintro e w1 ⟨rfl, hw1⟩
    subst w1
    clear H1
    go_wp2_with fail
    refine (HR0 _).out.mono ?_
    rintro e w2 ⟨rfl, hb2⟩
    clear HR0
    go_wp2_with fail
    go_ret
    exact ⟨rfl, hb2⟩
end Go.Proofs.Ytceipfmdgpnagaa
