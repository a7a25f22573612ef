/-
  Contracts of letterbeckref2.Runs and Unrun: the runs of a text; the text of runs, or what is wrong with them; the old memory stays as it was. Conditions: none but the sizes that a row itself sets.
-/
import Derived.Test.YtpnnaomkbncbeaaDoorRread
import Derived.Test.YtpnnaomkbncbeaaDoorRwrite
namespace Go.Proofs.YtpnnaomkbncbeaaDoor
open Go.RowKit

theorem in2_yes (n lo hi : Int) (w : World) (h1 : lo ≤ n) (h2 : n ≤ hi) : Calls Tryd.prog 13 #[.int .i64 n, .int .i64 lo, .int .i64 hi] w fun e w' => e = .returned (.bool true) ∧ w' = w := by
  go_enter Tryd.func13, Tryd.ntmps13
  go_wp2
  go_ret
  exact ⟨by first | rfl | simp, rfl⟩
theorem in2_no (n lo hi : Int) (w : World) (h : ¬ (lo ≤ n ∧ n ≤ hi)) : Calls Tryd.prog 13 #[.int .i64 n, .int .i64 lo, .int .i64 hi] w fun e w' => e = .returned (.bool false) ∧ w' = w := by
  by_cases h1 : lo ≤ n
  · have h2 : ¬ n ≤ hi := fun h2 => h ⟨h1, h2⟩
    clear h
    go_enter Tryd.func13, Tryd.ntmps13
    go_wp2
    go_ret
    exact ⟨by first | rfl | simp [h2], rfl⟩
  · have hd : decide (lo ≤ n) = false := by simpa using h1
    clear h
    go_enter Tryd.func13, Tryd.ntmps13
    go_wp2
    go_ret
    exact ⟨by first | rfl | simp [hd], rfl⟩

set_option maxHeartbeats 4000000 in
set_option maxRecDepth 100000 in
theorem rruns_any (s : ByteArray) (w : World) (h : s.size ≤ 1000) :
    Calls Tryd.prog 5 #[.string s] w fun e w' => ∃ A c l, e = .returned (.slice A (l.length : Nat) c) ∧ Good l ∧ unr l = bs s ∧ IsRuns w' w'.heap.size A l.length l ∧ Below w.heap.size w w' := by
  obtain ⟨i0, hi, hz0, hz1, hz2⟩ := info_parts runI
  go_enter Tryd.func5, Tryd.ntmps5
  go_wp2_with fail
  go_loopw [3, 4] (fun v x wr => ∃ (b : Nat) (ds : List (UInt8 × Int)), b ≤ s.size ∧ x = .int .i64 b ∧ Hid (RunTo (bs s) b ds) ∧ Hid (OwnR wr w.heap.size 37 v ds) ∧ Below w.heap.size w wr) (fun _ x _ => s.size - (intOf x).toNat)
  case atStart => exact ⟨0, [], by omega, rfl, hid (runTo_zero _), hid (OwnR.nil _ _ _), Below.refl _ _⟩
  case round =>
    obtain ⟨b, ds, hb, rfl, HR, hown, hbw⟩ := hrel
    obtain ⟨w0, hw0⟩ : ∃ z, z = wr := ⟨_, rfl⟩
    subst hw0
    by_cases hlt : b < s.size
    · go_wp2_with fail
      go_loopw [5] (fun x wr => ∃ k : Nat, b ≤ k ∧ k ≤ s.size ∧ x = .int .i64 k ∧ Hid (∀ j, b ≤ j → j < k → sg s j = sg s b) ∧ Hid (∃ q, wr = w0.drewN q)) (fun x _ => s.size - (intOf x).toNat)
      case atStart => exact ⟨b, by omega, by omega, rfl, hid (fun j h1 h2 => by omega), hid ⟨0, rfl⟩⟩
      case round =>
        obtain ⟨k, hbk, hk, rfl, HS, HW⟩ := hrel
        by_cases hcont : k < s.size ∧ sg s k = sg s b
        · obtain ⟨hlk, he⟩ := hcont
          have d1 : decide (k < s.size) = true := by simp; omega
          have hx := byte_eq s k b hlk hlt he
          have HR' : Hid (∀ j, b ≤ j → j < k + 1 → sg s j = sg s b) := hid (fun j h1 h2 => by
            by_cases e : j = k
            · rw [e]; exact he
            · exact HS.out j h1 (by omega))
          clear he HS
          go_wp2_with fail
          go_quiet (fail)
          go_wp2_with fail
          go_roundw
          case rel => exact ⟨k + 1, by omega, by omega, by go_num, HR', hid (by obtain ⟨q, hq⟩ := HW.out; rw [hq]; first | exact ⟨_, rfl⟩ | (simp only [World.drewN_drewN]; exact ⟨_, rfl⟩))⟩
          case measure => simp [intOf]; omega
        · have hbk' : b < k := by
            rcases Nat.lt_or_ge b k with h1 | h1
            · exact h1
            · obtain rfl : k = b := by omega
              exact absurd ⟨hlt, rfl⟩ hcont
          have hl : (bs s).length = s.size := bs_len s
          have HN : Hid (RunTo (bs s) k (ds ++ [(s[b], (k : Int) - b)])) := hid (by
            rw [← sg_eq s b hlt]
            exact runTo_next HR.out hbk' (by omega) (fun j h1 h2 => HS.out j h1 h2) (fun h1 e => hcont ⟨by omega, e⟩))
          have hlen : ds.length ≤ 1099511627776 := by
            have := good_len HR.out.1
            rw [HR.out.2.1, List.length_take, hl] at this; omega
          obtain ⟨q, hq⟩ := HW.out
          have ho1 := hown.out.drewN q
          have hb1 := below_drewN hbw q
          rw [← hq] at ho1 hb1
          have HO1 := hid ho1
          have hway : (decide (k < s.size) = false) ∨ (decide (k < s.size) = true ∧ ∃ hk' : k < s.size, ((s[k].toNat : Int) == (s[b].toNat : Int)) = false) := by
            by_cases hlk : k < s.size
            · exact .inr ⟨by simpa using hlk, hlk, byte_eq_false s k b hlk hlt fun e => hcont ⟨hlk, e⟩⟩
            · exact .inl (by simpa using hlk)
          clear hcont HS HW hl hq ho1 hown hbw HR
          rcases hway with d1 | ⟨d1, hk', hx⟩
          focus
            go_wp2_with fail
            go_quiet (fail)
          rotate_left
          focus
            go_wp2_with fail
            go_quiet (fail)
          rotate_left
          all_goals (
            rename_i nq _
            have hown1 := HO1.out.drewN nq
            have hbz := below_drewN hb1 nq
            clear HO1 hb1
            generalize World.drewN _ nq = wz at hown1 hbz ⊢
            have hsz := hbz.size
            go_wp2_with (at_builtin; refine wpList_append_run _ rfl (.tmp 26) (.tmp 34) 22 rfl w.heap.size 37 i0 Tryd.underlying22 hi hz0 hz1 hz2 _ ds rfl hown1 (s[b], (k : Int) - b) rfl hlen (by omega) ?_)
            intro v' w6 hown6 hb6
            have HO6 := hid hown6
            clear hown6 hown1
            go_wp2_with fail
            go_roundw
            case rel => exact ⟨k, _, by omega, rfl, HN, HO6, hbz.trans hb6⟩
            case measure => simp [intOf]; omega)
    · obtain rfl : b = s.size := by omega
      have hR := HR.out
      rw [← bs_len s] at hR
      obtain ⟨hg, hu⟩ := runTo_all hR
      obtain ⟨A, c, rfl, _, hI⟩ := IsRuns.of_own hown.out
      have HI := hid hI
      have HG := hid hg
      have HU := hid hu
      clear hR hI hg hu hown HR
      go_wp2_with fail
      go_ret
      exact ⟨A, c, ds, rfl, HG.out, HU.out, HI.out, hbw⟩

set_option maxHeartbeats 4000000 in
set_option maxRecDepth 100000 in
theorem unrun_any (A : Option Addr) (n c : Nat) (l : List (UInt8 × Int)) (w : World) (hn : n ≤ maxLen) (hl : IsRuns w w.heap.size A n l) :
    Calls Tryd.prog 9 #[.slice A n c] w fun e w' => ((OkTo l l.length ∧ e = .returned (.tuple #[.string (txt (unr l)), .int .i64 0])) ∨ ∃ k, FailR l k ∧ e = .returned (.tuple #[.string ByteArray.empty, .int .i64 k])) ∧ Below w.heap.size w w' := by
  obtain ⟨i0, hi, hz0, hz1, hz2⟩ := info_parts byteI
  unfold maxLen at hn
  have HL := hid hl
  have HN := hid hl.1
  clear hl
  go_enter Tryd.func9, Tryd.ntmps9
  go_wp2_with fail
  go_loopw [4, 5] (fun v x wr => ∃ i : Nat, i ≤ n ∧ x = .int .i64 i ∧ Hid (OkTo l i) ∧ Hid (OwnB wr w.heap.size 5 v (unr (l.take i))) ∧ Below w.heap.size w wr) (fun _ x _ => n - (intOf x).toNat)
  case atStart => exact ⟨0, by omega, rfl, hid (fun j hj => by omega), hid (OwnB.nil _ _ _), Below.refl _ _⟩
  case round =>
    obtain ⟨i, hin, rfl, HO, HB, hb⟩ := hrel
    by_cases hlt : i < n
    · obtain ⟨g, off, rfl, hg, hc⟩ := HL.out.2 (by omega)
      have c1 : wr.cell? ⟨g, off + i * 2, none⟩ = some (.int .u8 ((sgR l i).toNat : Int)) := (hb.cell hg).trans (hc i hlt).1
      have c2 : wr.cell? ⟨g, off + i * 2 + 1, none⟩ = some (.int .i64 (mnR l i)) := (hb.cell hg).trans (hc i hlt).2
      have hli : i < l.length := by have := HN.out; omega
      have hT := okTo_tot HO.out (by omega)
      by_cases hm : 1 ≤ mnR l i ∧ mnR l i ≤ 1000
      · have HI := fun W => hid (in2_yes (mnR l i) 1 1000 W hm.1 hm.2)
        by_cases hp : 0 < i → sgR l (i - 1) ≠ sgR l i
        · have hd : decide (0 < i) = false ∨ (decide (0 < i) = true ∧ ∃ P : UInt8, wr.cell? ⟨g, off + (i - 1) * 2, none⟩ = some (.int .u8 (P.toNat : Int)) ∧ ((P.toNat : Int) == ((sgR l i).toNat : Int)) = false ∧ ((i : Int) - 1).toNat = i - 1 ∧ 0 ≤ (i : Int) - 1 ∧ (i : Int) - 1 < (n : Int) ∧ i - 1 < n) := by
            by_cases h0 : 0 < i
            · exact .inr ⟨by simpa using h0, sgR l (i - 1), (hb.cell hg).trans (hc (i - 1) (by omega)).1, by simpa using byte_apart (hp h0), by omega, by omega, by omega, by omega⟩
            · exact .inl (by simpa using h0)
          have hR : ((totR l i : Int) + mnR l i ≤ 1000 ∧ Hid (OkTo l (i + 1))) ∨ (1000 < (totR l i : Int) + mnR l i ∧ Hid (FailR l 4)) := by
            by_cases h3 : (totR l i : Int) + mnR l i ≤ 1000
            · exact .inl ⟨h3, hid (okTo_succ HO.out hm hp h3)⟩
            · exact .inr ⟨by omega, hid ⟨i, hli, HO.out, .inr (.inr ⟨rfl, hm, hp, by omega⟩)⟩⟩
          obtain ⟨M, hM⟩ : ∃ M : Nat, mnR l i = (M : Int) := ⟨(mnR l i).toNat, by omega⟩
          have HALL := hid (someR_all hli)
          have cw2 := (hc i hlt).2
          change w.cell? ⟨g, off + i * 2 + 1, none⟩ = some (.int .i64 (mnR l i)) at cw2
          have HCW : Hid (w.cell? ⟨g, off + i * 2, none⟩ = some (.int .u8 ((sgR l i).toNat : Int)) ∧ w.cell? ⟨g, off + i * 2 + 1, none⟩ = some (.int .i64 (mnR l i))) := hid ⟨(hc i hlt).1, cw2⟩
          rw [hM] at c2 hm hR HALL HI HCW
          have HB1 : Hid (OwnB wr w.heap.size 5 _ (someR l i 0)) := hid (by rw [someR_zero]; exact HB.out)
          have hlt0 := someR_len l i 0
          clear hp hM HO HB hc cw2
          obtain ⟨C, hC⟩ : ∃ C, C = sgR l i := ⟨_, rfl⟩
          rw [← hC] at c1 hd HCW
          have HC := hid hC
          have HLN : Hid (∀ m, m ≤ 1000 → (someR l i m).length ≤ 1099511627776) := hid (fun m h => by rw [someR_len]; omega)
          clear hC
          obtain ⟨B, cB, hv, _, _⟩ := HB1.out.cells
          rw [hlt0, Nat.add_zero] at hv
          subst hv
          clear hlt0
          rcases hd with d1 | ⟨d1, P, cp, hne, i1, i2, i3, i4⟩
          focus
            go_wp2_with fail
            refine (HI _).out.mono ?_
            rintro e w5 ⟨rfl, hw5⟩
            subst w5
            go_wp2_with fail
            go_quiet (fail)
          rotate_left
          focus
            go_wp2_with fail
            refine (HI _).out.mono ?_
            rintro e w5 ⟨rfl, hw5⟩
            subst w5
            go_wp2_with fail
            go_quiet (fail)
            clear cp hne i1 i2 i3 i4
          rotate_left
          all_goals (
            rename_i nq _
            have HBz := hid (HB1.out.drewN nq)
            have hbw := below_drewN hb nq
            have z2 : (wr.drewN nq).cell? ⟨g, off + i * 2 + 1, none⟩ = some (.int .i64 (M : Int)) := c2
            clear HB1 hb c1 c2
            generalize wr.drewN nq = wz at HBz hbw z2 ⊢
            generalize totR l i = T at hT hR HBz ⊢
            rcases hR with ⟨h3, HO2⟩ | ⟨h3, HF⟩
            · go_wp2_with fail
              clear z2
              go_loopw [4, 6] (fun v x wy => ∃ m : Nat, m ≤ M ∧ x = .int .i64 m ∧ Hid (OwnB wy w.heap.size 5 v (someR l i m)) ∧ Below w.heap.size w wy) (fun _ x _ => M - (intOf x).toNat)
              case atStart => exact ⟨0, by omega, rfl, HBz, hbw⟩
              case round =>
                clear HBz hbw
                obtain ⟨m, hm2, rfl, HBy, hby⟩ := hrel
                have y1 := (hby.cell (p := ⟨g, off + i * 2, none⟩) hg).trans HCW.out.1
                have y2 := (hby.cell (p := ⟨g, off + i * 2 + 1, none⟩) hg).trans HCW.out.2
                have hsy := hby.size
                by_cases hml : m < M
                · have hlen := HLN.out m (by omega)
                  go_wp2_with (at_builtin; refine wpList_append_byte _ rfl (.tmp 54) (.tmp 60) 40 rfl w.heap.size 5 i0 Tryd.underlying40 hi hz0 hz1 hz2 _ (someR l i m) rfl HBy.out C rfl hlen (by omega) 0 0 (fun _ _ => .inr (Nat.zero_le _)) (Nat.zero_le _) ?_)
                  intro v' w6 hown6 hb6 _ _
                  have HO6 := hid hown6
                  clear hown6 HBy y1 y2
                  go_wp2_with fail
                  go_roundw
                  case rel => exact ⟨m + 1, by omega, by go_num, hid (by rw [someR_succ, ← HC.out]; exact HO6.out), hby.trans hb6⟩
                  case measure => simp [intOf]; omega
                · have hmM : m = M := by omega
                  have HR : Hid (OwnB _ w.heap.size 5 _ (unr (l.take (i + 1)))) := hid (by rw [← HALL.out, Int.toNat_natCast, ← hmM]; exact HBy.out)
                  clear hmM HBy HALL
                  go_wp2_with fail
                  go_roundw
                  case rel => exact ⟨i + 1, by omega, by go_num, HO2, HR, hby⟩
                  case measure => simp [intOf]; omega
            · go_wp2_with fail
              go_ret2
              exact ⟨.inr ⟨4, HF.out, rfl⟩, hbw⟩)
        · have h0 : 0 < i := by
            rcases Nat.eq_zero_or_pos i with e | e
            · exact absurd (fun h => absurd h (by omega)) hp
            · exact e
          have hs : sgR l (i - 1) = sgR l i := by
            by_cases e : sgR l (i - 1) = sgR l i
            · exact e
            · exact absurd (fun _ => e) hp
          have HF : Hid (FailR l 6) := hid ⟨i, hli, HO.out, .inr (.inl ⟨rfl, hm, h0, hs⟩)⟩
          have cp : wr.cell? ⟨g, off + (i - 1) * 2, none⟩ = some (.int .u8 ((sgR l i).toNat : Int)) := by rw [← hs]; exact (hb.cell hg).trans (hc (i - 1) (by omega)).1
          have d1 : decide (0 < i) = true := by simpa using h0
          have i1 : ((i : Int) - 1).toNat = i - 1 := by omega
          have i2 : 0 ≤ (i : Int) - 1 := by omega
          have i3 : (i : Int) - 1 < (n : Int) := by omega
          have i4 : i - 1 < n := by omega
          generalize sgR l i = C at c1 cp
          generalize mnR l i = M at c2 hm HI
          clear hm hp hs h0 HO HB HL hc HN hli hT
          go_wp2_with fail
          refine (HI _).out.mono ?_
          rintro e w5 ⟨rfl, hw5⟩
          subst w5
          go_wp2_with fail
          go_quiet (fail)
          go_wp2_with fail
          go_ret2
          exact ⟨.inr ⟨6, HF.out, rfl⟩, below_drewN hb _⟩
      · have HF : Hid (FailR l 1) := hid ⟨i, hli, HO.out, .inl ⟨rfl, hm⟩⟩
        have HI := fun W => hid (in2_no (mnR l i) 1 1000 W hm)
        generalize mnR l i = M at c2 hm HI
        clear hm HO HB HL hc HN hli hT c1
        go_wp2_with fail
        refine (HI _).out.mono ?_
        rintro e w5 ⟨rfl, hw5⟩
        subst w5
        go_wp2_with fail
        go_ret2
        exact ⟨.inr ⟨1, HF.out, rfl⟩, hb⟩
    · obtain rfl : i = n := by omega
      have HBn := HB.out
      rw [List.take_of_length_le (by have := HN.out; omega)] at HBn
      have hcv := conv_own HBn
      have HOn : Hid (OkTo l l.length) := hid (by rw [HN.out]; exact HO.out)
      obtain ⟨X, hX⟩ : ∃ X, X = txt (unr l) := ⟨_, rfl⟩
      rw [← hX] at hcv
      have HX := hid hX
      clear hX HBn HB HO HL
      go_wp2_with fail
      go_ret2
      exact ⟨.inl ⟨HOn.out, by rw [← HX.out]; rfl⟩, hb⟩
theorem unrun_ok (A : Option Addr) (n c : Nat) (l : List (UInt8 × Int)) (w : World) (hn : n ≤ maxLen) (hl : IsRuns w w.heap.size A n l) (hok : OkTo l l.length) :
    Calls Tryd.prog 9 #[.slice A n c] w fun e w' => e = .returned (.tuple #[.string (txt (unr l)), .int .i64 0]) ∧ Below w.heap.size w w' :=
  (unrun_any A n c l w hn hl).mono fun _ _ ⟨hc, hb⟩ => ⟨by
    rcases hc with ⟨_, he⟩ | ⟨k, hf, _⟩
    · exact he
    · exact (failR_no hf hok).elim, hb⟩
theorem unrun_bad (A : Option Addr) (n c : Nat) (l : List (UInt8 × Int)) (k : Int) (w : World) (hn : n ≤ maxLen) (hl : IsRuns w w.heap.size A n l) (hf : FailR l k) :
    Calls Tryd.prog 9 #[.slice A n c] w fun e w' => e = .returned (.tuple #[.string ByteArray.empty, .int .i64 k]) ∧ Below w.heap.size w w' :=
  (unrun_any A n c l w hn hl).mono fun _ _ ⟨hc, hb⟩ => ⟨by
    rcases hc with ⟨hok, _⟩ | ⟨k', hf', he⟩
    · exact (failR_no hf hok).elim
    · rw [he, failR_one hf' hf], hb⟩
end Go.Proofs.YtpnnaomkbncbeaaDoor
