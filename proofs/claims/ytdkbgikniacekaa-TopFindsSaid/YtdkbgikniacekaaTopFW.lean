/-
  The walk of TopFinds (five ways to find a word are one): it returns true for every text and word, and leaves the old memory alone. Conditions: the row's own sizes.
-/
import Derived.Test.YtdkbgikniacekaaSufO
import Derived.Test.YtdkbgikniacekaaSufB
import Derived.Test.YtdkbgikniacekaaFind
import Derived.Test.YtdkbgikniacekaaSkipF
import Derived.Test.YtdkbgikniacekaaMany
import Derived.Test.YtdkbgikniacekaaZof
import Derived.Test.YtdkbgikniacekaaJoin
import Derived.Test.YtdkbgikniacekaaInT
import Derived.Test.YtdkbgikniacekaaNats
import Derived.Test.YtdkbgikniacekaaAt0
import Derived.Laws.Concat
namespace Go.Proofs.Ytdkbgikniacekaa
open Go.RowKit

/-- The places of the word, as places. -/
def plN (t u : ByteArray) : List Nat := occN (sg t) (sg u) t.size u.size t.size
theorem plN_occ (t u : ByteArray) : occL t u = (plN t u).map fun i : Nat => (i : Int) := rfl
theorem one_hits (t u : ByteArray) : hitsL [u] t = (plN t u).map fun i => (i, 0) := by
  have key : ∀ n, n ≤ t.size → hitL [u] (bs t) n = (occN (sg t) (sg u) t.size u.size n).map fun i => (i, 0) := by
    intro n
    induction n with
    | zero => intro _; rfl
    | succ n ih =>
      intro hn
      rw [hitL_succ, ih (by omega)]
      unfold occN
      rw [List.range_succ, List.filter_append, List.map_append]
      congr 1
      show hitB [u] (bs t) n (0 + 1) = _
      rw [hitB_succ]
      have h0 : hitB [u] (bs t) n 0 = [] := rfl
      rw [h0, List.nil_append]
      have hob := obB_iff (t := t) (u := u) (i := n) (by omega)
      show (if bs u <+: (bs t).drop n then [(n, 0)] else []) = _
      by_cases hp : bs u <+: (bs t).drop n
      · rw [if_pos hp]
        have : ocB (sg t) (sg u) t.size u.size n = true := hob.2 hp
        simp [this]
      · rw [if_neg hp]
        have : ocB (sg t) (sg u) t.size u.size n = false := by rw [← Bool.not_eq_true]; exact fun h => hp (hob.1 h)
        simp [this]
  unfold hitsL
  rw [bs_len, key t.size (Nat.le_refl _)]
  rfl
theorem far_iff {t u : ByteArray} {j : Nat} (hj : j < t.size) : u.size ≤ zl (sg (u ++ t)) (u ++ t).size (u.size + j) ↔ obB t u j = true := by
  unfold obB
  rw [ocB_iff]
  have hz := size_join u t
  constructor
  · intro h
    have hl := zl_le (sg (u ++ t)) (u ++ t).size (u.size + j)
    refine ⟨by omega, fun x hx => ?_⟩
    have := zl_go (f := sg (u ++ t)) (n := (u ++ t).size) (i := u.size + j) x (by omega)
    rw [sg_left u t x hx, show u.size + j + x = u.size + (j + x) by omega, sg_right u t (j + x) (by omega)] at this
    exact this
  · intro h
    have h1 := h.1
    refine zl_max (by omega) fun x hx => ?_
    rw [sg_left u t x hx, show u.size + j + x = u.size + (j + x) by omega, sg_right u t (j + x) (by omega)]
    exact h.2 x hx

set_option maxHeartbeats 400000 in
theorem skipped_any (t u : ByteArray) (w : World) (h1 : t.size ≤ 24) (h2 : u.size ≤ 24) (h0 : 0 < u.size) :
    Calls Try.prog 20 #[.string t, .string u] w fun e w' => ∃ a : Int, e = .returned (.tuple #[.int .i64 a, .bool true]) ∧ ((occL t u = [] ∧ a = -1) ∨ (0 < (occL t u).length ∧ a = (occL t u).getD 0 0)) ∧ Below w.heap.size w w' := by
  have H1 := fun W => hid (first_any t u W h1 h2 h0)
  go_enter Try.func20, Try.ntmps20
  go_wp2_with fail
  refine (H1 _).out.mono ?_
  rintro e w1 ⟨a, k, rfl, hF, hb1⟩
  have HF := hid (fst_finds h0 hF)
  clear H1 hF
  go_wp2_with fail
  go_quiet (fail)
  go_wp2_with fail
  go_ret2
  refine ⟨a, rfl, ?_, below_drewN hb1 _⟩
  rcases HF.out with ⟨e1, e2⟩ | ⟨e1, e2, _⟩
  · exact .inl ⟨e1, e2⟩
  · exact .inr ⟨e1, e2⟩
theorem skipped_xab (w : World) : Calls Try.prog 20 #[.string ⟨#[120, 97, 98]⟩, .string ⟨#[97, 98]⟩] w fun e w' => e = .returned (.tuple #[.int .i64 1, .bool true]) ∧ Below w.heap.size w w' :=
  (skipped_any ⟨#[120, 97, 98]⟩ ⟨#[97, 98]⟩ w (by decide) (by decide) (by decide)).mono fun e w' ⟨a, he, ha, hb⟩ => by
    have hx : occL ⟨#[120, 97, 98]⟩ ⟨#[97, 98]⟩ = [1] := by decide +kernel
    rw [hx] at ha
    rcases ha with ⟨e1, _⟩ | ⟨_, e2⟩
    · cases e1
    · refine ⟨?_, hb⟩
      rw [he, e2]; rfl

set_option maxRecDepth 100000 in
set_option maxHeartbeats 800000 in
theorem topf_bad (t u : ByteArray) (k : Int) (w : World) (hk : BadW t u k) (ht : t.size ≤ maxLen) (hu : u.size ≤ maxLen) :
    Calls Try.prog 8 #[.string t, .string u] w fun e w' => e = .returned (.bool true) ∧ Below w.heap.size w w' := by
  have H1 := fun W => hid (fall_bad t u k W hk ht hu)
  clear ht hu hk
  go_enter Try.func8, Try.ntmps8
  go_wp2_with fail
  refine (H1 _).out.mono ?_
  rintro e w1 ⟨rfl, hw1⟩
  subst w1
  clear H1
  go_wp2_with fail
  refine (skipped_xab _).mono ?_
  rintro e w2 ⟨rfl, hb2⟩
  go_wp2_with fail
  go_ret
  exact ⟨rfl, hb2⟩
set_option maxRecDepth 100000 in
set_option maxHeartbeats 800000 in
theorem topf_big (t u : ByteArray) (w : World) (h1 : t.size ≤ 24) (h2 : u.size ≤ 24) (h8 : 8 < u.size) :
    Calls Try.prog 8 #[.string t, .string u] w fun e w' => e = .returned (.bool true) ∧ Below w.heap.size w w' := by
  have H1 := fun W => hid (fall_any t u W h1 h2 (by omega))
  have hd : decide (8 < u.size) = true := by simpa using h8
  go_enter Try.func8, Try.ntmps8
  go_wp2_with fail
  refine (H1 _).out.mono ?_
  rintro e w1 ⟨v, rfl, ho, hb1⟩
  obtain ⟨A, c, rfl, _⟩ := own_n ho rfl
  clear H1 ho
  go_wp2_with fail
  refine (skipped_xab _).mono ?_
  rintro e w2 ⟨rfl, hb2⟩
  have hbw := Below.on hb1 hb2 (Nat.le_refl _)
  clear hb1 hb2
  go_wp2_with fail
  go_ret
  exact ⟨rfl, hbw⟩
theorem fine_one {u : ByteArray} (h8 : u.size ≤ 8) (h0 : 0 < u.size) : Fine [u] := by
  refine ⟨by simp, fun j hj => ?_⟩
  obtain rfl : j = 0 := by simpa using hj
  exact ⟨h8, h0, fun m hm => by omega⟩
set_option maxRecDepth 100000 in
set_option maxHeartbeats 8000000 in
theorem topf_main (t u : ByteArray) (w : World) (h1 : t.size ≤ 24) (h8 : u.size ≤ 8) (h0 : 0 < u.size) :
    Calls Try.prog 8 #[.string t, .string u] w fun e w' => e = .returned (.bool true) ∧ Below w.heap.size w w' := by
  have H1 := fun W => hid (fall_any t u W h1 (by omega) h0)
  have H2 := fun W => hid (skipped_any t u W h1 (by omega) h0)
  have H4 := fun W => hid (order_any t W h1)
  have hd8 : decide (8 < u.size) = false := by simpa using h8
  obtain ⟨n, hn⟩ : ∃ n, (plN t u).length = n := ⟨_, rfl⟩
  have hn24 : n ≤ 24 := by
    have := occL_len t u
    rw [plN_occ, List.length_map, hn] at this
    omega
  have HZ : Hid (cnB (obB t u) t.size = n) := hid (by rw [← occ_cnB, plN_occ, List.length_map, hn])
  have HOO : Hid (∀ o, Ord (bs t) o → cnB (fun k => obB t u (o.getD k 0)) t.size = n) := hid fun o ho => by rw [occ_order ho, plN_occ, List.length_map, hn]
  have H3 : ∀ W : World, Hid (Calls Try.prog 21 #[.slice (some ⟨W.heap.size, 0, none⟩) 1 1, .string t] (W.alloc (.cells #[.string u] 9)) fun e w' => ∃ A' c', e = .returned (.tuple #[.slice A' n c', .nilIface]) ∧ IsHits w' w'.heap.size A' n ((plN t u).map fun i => (i, 0)) ∧ Below W.heap.size W w') := fun W => hid (by
    have HS := IsStrs.lit W [u] #[.string u] 9 rfl
    have := all_ok (some ⟨W.heap.size, 0, none⟩) 1 1 [u] t (W.alloc (.cells #[.string u] 9)) (fine_one h8 h0) h1 (by rw [World.size_alloc]; exact HS)
    rw [one_hits, List.length_map, hn] at this
    exact this.mono fun e w' ⟨A', c', e1, e2, e3⟩ => ⟨A', c', e1, e2, ((Below.refl _ W).alloc (Nat.le_refl _) _).trans (e3.mono (by simp))⟩)
  simp only [plN_occ] at H1 H2
  have hnl := hn
  generalize plN t u = ys at H1 H2 H3 hnl
  have HNL := hid hnl
  clear hn hnl
  go_enter Try.func8, Try.ntmps8
  go_wp2_with fail
  refine (H1 _).out.mono ?_
  rintro e w1 ⟨v, rfl, ho, hb1⟩
  obtain ⟨A, c, rfl, hI⟩ := own_n (n := n) ho (by rw [List.length_map]; exact HNL.out)
  clear H1 ho
  go_wp2_with fail
  refine (skipped_xab _).mono ?_
  rintro e w2 ⟨rfl, hb2⟩
  have hI2 := hI.up hb2
  have hbA := Below.on hb1 hb2 (Nat.le_refl _)
  clear hI hb1 hb2
  go_wp2_with fail
  refine (H2 _).out.mono ?_
  rintro e w3 ⟨a, rfl, ha, hb3⟩
  have hI3 := hI2.up hb3
  have hbB := Below.on hbA hb3 (Nat.le_refl _)
  have HA := hid ha
  clear hI2 hb3 hbA H2 ha
  have H3' := H3 w3
  go_wp2_with fail
  refine H3'.out.mono ?_
  rintro e w4 ⟨A4, c4, rfl, hH, hb4⟩
  have hI4 := hI3.up hb4
  have hbC := Below.on hbB hb4 (Nat.le_refl _)
  have HH := hid hH
  clear hI3 hb4 hbB H3 H3' hH
  go_wp2_with fail
  refine (H4 _).out.mono ?_
  rintro e w5 ⟨A5, c5, o, rfl, hO, hI5, hb5⟩
  have HI := hid (hI4.up hb5)
  have HHi := hid (HH.out.on hb5)
  have hbD := Below.on hbC hb5 (Nat.le_refl _)
  have HI5 := hid hI5
  have HNO := hid (HOO.out o hO)
  have HX : Hid (∀ k, k < t.size → o.getD k 0 < t.size) := hid fun k hk => by have := hO.lt (k := k) (by rw [bs_len]; exact hk); rwa [bs_len] at this
  clear hI4 hb5 hbC HH H4 hI5 hO HOO
  have hor : (n = 0 ∧ a = -1) ∨ (0 < n ∧ a = ((ys.getD 0 0 : Nat) : Int)) := by
    rcases HA.out with ⟨e1, e2⟩ | ⟨e1, e2⟩
    · left
      have := congrArg List.length e1
      rw [List.length_map, HNL.out] at this
      exact ⟨by simpa using this, e2⟩
    · right
      rw [List.length_map, HNL.out] at e1
      refine ⟨e1, ?_⟩
      rw [e2]
      have : 0 < ys.length := by rw [HNL.out]; exact e1
      simp [List.getD_eq_getElem?_getD, this]
  clear HA
  obtain ⟨B, hB⟩ : ∃ B : Nat → Bool, B = fun k => obB t u (o.getD k 0) := ⟨_, rfl⟩
  have HNB : Hid (cnB B t.size = n) := hid (by rw [hB]; exact HNO.out)
  have HBE : Hid (∀ k, k < t.size → begB (t.extract (o.getD k 0) t.size) u = B k) := hid fun k hk => by
    rw [hB]; exact beg_cut t u _ (Nat.le_of_lt (HX.out k hk))
  clear HNO hB
  rcases hor with ⟨hn0, ha⟩ | ⟨hn0, ha⟩
  focus
    have d1 : ((n : Int) == 0) = true := by simp [hn0]
    have d2 : decide (0 < n) = false := by simp; omega
    subst ha
    clear hn0
    go_wp2_with fail
  rotate_left
  focus
    obtain ⟨g, off, rfl, hg, hcell⟩ := nats_at HI.out hn0
    have hx0 : w5.cell? ⟨g, off, none⟩ = some (.int .i64 ((ys.getD 0 0 : Nat) : Int)) := hcell 0 hn0
    have d1 : ((n : Int) == 0) = false := by simp; omega
    have d2 : decide (0 < n) = true := by simpa using hn0
    have hix := fun W => run_at0 W g off n c hn0
    generalize ys.getD 0 0 = y0 at hx0 ha
    subst ha
    clear hcell
    go_wp2_with fail
    clear hix hx0
  all_goals
    go_loopw [15, 16] (fun m x wr => ∃ i N : Nat, i ≤ t.size ∧ N ≤ i ∧ m = .int .i64 N ∧ x = .int .i64 i ∧ Hid (N = cnB B i) ∧ wr = w5) (fun _ x _ => t.size - (intOf x).toNat)
    case atStart => exact ⟨0, 0, by omega, by omega, rfl, rfl, hid rfl, rfl⟩
    case round =>
      obtain ⟨i, N, hi, hN, rfl, rfl, HC, hwr⟩ := hrel
      subst wr
      by_cases hlt : i < t.size
      · obtain ⟨g5, off5, rfl, _, hcell⟩ := nats_at HI5.out (by omega)
        have hx := hcell i hlt
        have hxl := HX.out i hlt
        have H5 := fun W => hid (in_yes ((o.getD i 0 : Nat) : Int) 0 ((t.size : Int) - 1) W (by omega) (by omega))
        have hcut : ∀ W : World, Sem.run Try.prog (Instr.slice 9 (.string t) (some (.int .i64 ((o.getD i 0 : Nat) : Int))) none none) W = .ok (.string (t.extract (o.getD i 0) t.size)) W := fun W =>
          run_slice_string_l W 9 t Try.underlying9 .i64 _ (by omega) (by omega)
        have H6 := fun W => hid (begins_any (t.extract (o.getD i 0) t.size) u W (by rw [ByteArray.size_extract]; omega) (by omega))
        rw [HBE.out i hlt] at H6
        generalize t.extract (o.getD i 0) t.size = t1 at hcut H6
        generalize o.getD i 0 = x at hx hxl H5 hcut
        clear hcell
        cases hBi : B i with
        | false =>
          rw [hBi] at H6
          have HC2 : Hid (N = cnB B (i + 1)) := hid (by rw [cnB_no hBi]; exact HC.out)
          clear HC hBi
          go_wp2_with fail
          refine (H5 _).out.mono ?_
          rintro e w6 ⟨rfl, hw6⟩
          subst w6
          go_wp2_with fail
          refine (H6 _).out.mono ?_
          rintro e w6 ⟨rfl, hw6⟩
          subst w6
          go_wp2_with fail
          go_roundw
          case rel => exact ⟨i + 1, N, by omega, by omega, rfl, by go_num, HC2, by first | rfl | trivial⟩
          case measure => simp [intOf]; omega
        | true =>
          rw [hBi] at H6
          have HC2 : Hid (N + 1 = cnB B (i + 1)) := hid (by rw [cnB_yes hBi, HC.out])
          clear HC hBi
          go_wp2_with fail
          refine (H5 _).out.mono ?_
          rintro e w6 ⟨rfl, hw6⟩
          subst w6
          go_wp2_with fail
          refine (H6 _).out.mono ?_
          rintro e w6 ⟨rfl, hw6⟩
          subst w6
          go_wp2_with fail
          go_roundw
          case rel => exact ⟨i + 1, N + 1, by omega, by omega, by go_num, by go_num, HC2, by first | rfl | trivial⟩
          case measure => simp [intOf]; omega
      · obtain rfl : i = t.size := by omega
        obtain rfl : N = n := HC.out.trans HNB.out
        clear HC HNB HBE HX HI5 hN
        go_wp2_with fail
        go_loopw [17] (fun x wr => ∃ i q : Nat, i ≤ N ∧ x = .int .i64 i ∧ Hid (wr = w5.drewN q)) (fun x _ => N - (intOf x).toNat)
        case atStart => exact ⟨0, 0, by omega, rfl, hid rfl⟩
        case round =>
          obtain ⟨i, q, hi2, rfl, HQ⟩ := hrel
          by_cases hlt2 : i < N
          · obtain ⟨gl, offl, e1, _, hcl⟩ := nats_at HI.out (by omega)
            obtain ⟨gh, offh, rfl, _, hch⟩ := HHi.out.2 (by omega)
            have hly : i < ys.length := by rw [HNL.out]; exact hlt2
            have hc1 : wr.cell? ⟨gl, offl + i, none⟩ = some (.int .i64 ((ys.getD i 0 : Nat) : Int)) := by rw [HQ.out]; exact hcl i hlt2
            have hc2 : wr.cell? ⟨gh, offh + i * 2, none⟩ = some (.int .i64 ((ys.getD i 0 : Nat) : Int)) := by
              rw [HQ.out, World.cell?_drewN, (hch i hlt2).1]; simp [List.getD_eq_getElem?_getD, hly]
            have hc3 : wr.cell? ⟨gh, offh + i * 2 + 1, none⟩ = some (.int .i64 0) := by
              rw [HQ.out, World.cell?_drewN, (hch i hlt2).2]; simp [List.getD_eq_getElem?_getD, hly]
            first | (subst e1) | (injection e1 with e1; injection e1 with e1 e2 e3; subst e1; subst e2)
            generalize ys.getD i 0 = X at hc1 hc2
            clear hcl hch hly
            go_wp2_with fail
            go_quiet (fail)
            go_wp2_with fail
            go_roundw
            case rel => exact ⟨i + 1, _, by omega, by go_num, hid (by rw [HQ.out]; exact World.drewN_drewN _ _ _)⟩
            case measure => simp [intOf]; omega
          · have hbq : Below w.heap.size w wr := by rw [HQ.out]; exact below_drewN hbD q
            clear HQ HI HHi HNL hbD
            obtain ⟨wz, hwz⟩ : ∃ z, z = wr := ⟨_, rfl⟩
            subst hwz
            have hz := size_join u t
            have hadd := fun W => run_string_add_sum (P := Try.prog) W u t (by omega)
            have HF : Hid (∀ j, j < t.size → (u.size ≤ zl (sg (u ++ t)) (u ++ t).size (u.size + j) ↔ obB t u j = true)) := hid fun j hj => far_iff hj
            by_cases h24 : u.size + t.size ≤ 24
            · have H7 := fun W => hid (zof_any (u ++ t) W (by omega))
              generalize u ++ t = z at hz hadd HF H7
              have hz1 : z.size ≤ 24 := by omega
              have hz2 : u.size ≤ z.size := by omega
              have HZS := hid hz
              clear hz
              go_wp2_with fail
              refine (H7 _).out.mono ?_
              rintro e w7 ⟨rfl, ho, hb7⟩
              obtain ⟨A7, c7, e7, hI7⟩ := own_n ho (zL_len z z.size)
              have hbr := Below.on hbq hb7 (Nat.le_refl _)
              have HI7 := hid hI7
              injection e7 with e7 _ _
              subst e7
              clear H7 ho hb7 hbq hI7 hadd
              go_wp2_with fail
              go_loopw [19, 20] (fun f x wr => ∃ i M : Nat, u.size ≤ i ∧ i ≤ z.size ∧ M ≤ i ∧ f = .int .i64 M ∧ x = .int .i64 i ∧ Hid (M = cnB (obB t u) (i - u.size)) ∧ wr = w7) (fun _ x _ => z.size - (intOf x).toNat)
              case atStart => exact ⟨u.size, 0, Nat.le_refl _, by omega, by omega, rfl, rfl, hid (by rw [Nat.sub_self]; rfl), rfl⟩
              case round =>
                obtain ⟨i, M, hi3, hi4, hM, rfl, rfl, HC, hwr⟩ := hrel
                subst wr
                by_cases hlt3 : i < z.size
                · obtain ⟨g7, off7, e1, _, hc7⟩ := HI7.out.2 (by omega)
                  have hx := hc7 i hlt3
                  rw [zL_get z z.size i hlt3] at hx
                  have hfr := HF.out (i - u.size) (by have := HZS.out; omega)
                  rw [show u.size + (i - u.size) = i by omega] at hfr
                  injection e1 with e1
                  injection e1 with e1 e2 e3
                  subst e1
                  subst e2
                  rw [Nat.zero_add] at hx
                  have hsx : i + 1 - u.size = i - u.size + 1 := by omega
                  have hlz := zl_le (sg z) z.size i
                  cases hb : obB t u (i - u.size) with
                  | true =>
                    have HC2 : Hid (M + 1 = cnB (obB t u) (i + 1 - u.size)) := hid (by rw [hsx, cnB_yes hb, HC.out])
                    have hd : decide (u.size ≤ zl (sg z) z.size i) = true := by simpa using hfr.2 hb
                    generalize zl (sg z) z.size i = Z at hx hd hlz
                    clear hc7 hfr HC hsx hb
                    go_wp2_with fail
                    go_roundw
                    case rel => exact ⟨i + 1, M + 1, by omega, by omega, by omega, by go_num, by go_num, HC2, by first | rfl | trivial⟩
                    case measure => simp [intOf]; omega
                  | false =>
                    have HC2 : Hid (M = cnB (obB t u) (i + 1 - u.size)) := hid (by rw [hsx, cnB_no hb, HC.out])
                    have hd : decide (u.size ≤ zl (sg z) z.size i) = false := by
                      have : ¬ u.size ≤ zl (sg z) z.size i := fun e => by rw [hfr.1 e] at hb; cases hb
                      simpa using this
                    generalize zl (sg z) z.size i = Z at hx hd hlz
                    clear hc7 hfr HC hsx hb
                    go_wp2_with fail
                    go_roundw
                    case rel => exact ⟨i + 1, M, by omega, by omega, by omega, rfl, by go_num, HC2, by first | rfl | trivial⟩
                    case measure => simp [intOf]; omega
                · have hMN : M = N := by
                    rw [HC.out, show i - u.size = t.size by have := HZS.out; omega]; exact HZ.out
                  subst hMN
                  clear HC HF HI7 HZ
                  go_wp2_with fail
                  go_ret
                  exact ⟨rfl, hbr⟩
            · have H7 := fun W => hid (zof_long (u ++ t) W (by omega) (by unfold maxLen; omega))
              generalize u ++ t = z at hz hadd HF H7
              have hd24 : (24 : Int) < (u.size : Int) + (t.size : Int) := by omega
              clear HF
              go_wp2_with fail
              refine (H7 _).out.mono ?_
              rintro e w7 ⟨rfl, hw7⟩
              subst w7
              clear H7
              go_wp2_with fail
              go_ret
              exact ⟨by first | rfl | exact ret_bool (decide_eq_true hd24), hbq⟩
theorem topf_any (t u : ByteArray) (w : World) (ht : t.size ≤ maxLen) (hu : u.size ≤ maxLen) :
    Calls Try.prog 8 #[.string t, .string u] w fun e w' => e = .returned (.bool true) ∧ Below w.heap.size w w' := by
  rcases bad_or t u with ⟨h1, h2, h0⟩ | ⟨k, hk⟩
  · by_cases h8 : u.size ≤ 8
    · exact topf_main t u w h1 h8 h0
    · exact topf_big t u w h1 h2 (by omega)
  · exact topf_bad t u k w hk ht hu
end Go.Proofs.Ytdkbgikniacekaa
