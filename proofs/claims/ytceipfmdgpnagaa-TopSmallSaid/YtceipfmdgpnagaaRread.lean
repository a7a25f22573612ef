/-
  Contract of runs.Read: the text of runs, or what is wrong with the first run that is not as it should be; the old memory stays as it was. Conditions: none but the sizes that a row itself sets.
-/
import Derived.Test.YtceipfmdgpnagaaBase
import Derived.Test.YtceipfmdgpnagaaByteI
import Derived.Test.YtceipfmdgpnagaaBs
import Derived.Test.YtceipfmdgpnagaaRle
import Derived.Test.YtceipfmdgpnagaaRmem
import Derived.Test.YtceipfmdgpnagaaConv
import Derived.Laws.IdiomStrings
namespace Go.Proofs.Ytceipfmdgpnagaa
open Go.RowKit

/-- The bytes appended so far: the first i runs, and m signs of the next one. -/
def someR (l : List (UInt8 × Int)) (i m : Nat) : List UInt8 := unr (l.take i) ++ List.replicate m (sgR l i)
theorem someR_zero (l : List (UInt8 × Int)) (i : Nat) : someR l i 0 = unr (l.take i) := by simp [someR]
theorem someR_succ (l : List (UInt8 × Int)) (i m : Nat) : someR l i (m + 1) = someR l i m ++ [sgR l i] := by simp [someR, List.replicate_succ']
theorem someR_all {l : List (UInt8 × Int)} {i : Nat} (h : i < l.length) : someR l i (mnR l i).toNat = unr (l.take (i + 1)) := by rw [unr_take h]; rfl
theorem someR_len (l : List (UInt8 × Int)) (i m : Nat) : (someR l i m).length = totR l i + m := by simp [someR, totR]

set_option maxHeartbeats 4000000 in
set_option maxRecDepth 100000 in
theorem read_any (A : Option Addr) (n c : Nat) (l : List (UInt8 × Int)) (w : World) (hn : n ≤ maxLen) (hl : IsRuns w w.heap.size A n l) :
    Calls Try.prog 13 #[.slice A n c] w fun e w' => ((OkTo l l.length ∧ e = .returned (.tuple #[.string (txt (unr l)), .nilIface])) ∨ ∃ k, FailR l k ∧ e = .returned (.tuple #[.string ByteArray.empty, .iface 43 (.int .i64 k)])) ∧ Below w.heap.size w w' := by
  obtain ⟨i0, hi, hz0, hz1, hz2⟩ := info_parts byteI
  unfold maxLen at hn
  have HL := hid hl
  have HN := hid hl.1
  clear hl
  go_enter Try.func13, Try.ntmps13
  go_wp2_with fail
  go_loopw [4, 9] (fun v x wr => ∃ i : Nat, i ≤ n ∧ x = .int .i64 i ∧ Hid (OkTo l i) ∧ Hid (OwnB wr w.heap.size 5 v (unr (l.take i))) ∧ Below w.heap.size w wr) (fun _ x _ => n - (intOf x).toNat)
  case atStart => exact ⟨0, by omega, rfl, hid (fun j hj => by omega), hid (OwnB.nil _ _ _), Below.refl _ _⟩
  case round =>
    obtain ⟨i, hin, rfl, HO, HB, hb⟩ := hrel
    by_cases hlt : i < n
    · obtain ⟨g, off, rfl, hg, hc⟩ := HL.out.2 (by omega)
      obtain ⟨c1, c2⟩ := hc i hlt
      have c1 : wr.cell? ⟨g, off + i * 2, none⟩ = some (.int .u8 ((sgR l i).toNat : Int)) := (hb.cell hg).trans c1
      have c2 : wr.cell? ⟨g, off + i * 2 + 1, none⟩ = some (.int .i64 (mnR l i)) := (hb.cell hg).trans c2
      have hli : i < l.length := by have := HN.out; omega
      have hT := okTo_tot HO.out (by omega)
      have hgr : g < wr.heap.size := by have := hb.size; omega
      by_cases hm : 1 ≤ mnR l i ∧ mnR l i ≤ 1000
      · by_cases hp : 0 < i → sgR l (i - 1) ≠ sgR l i
        · have hd : decide (0 < i) = false ∨ (decide (0 < i) = true ∧ ∃ P : UInt8, wr.cell? ⟨g, off + (i - 1) * 2, none⟩ = some (.int .u8 (P.toNat : Int)) ∧ ((P.toNat : Int) == ((sgR l i).toNat : Int)) = false ∧ ((i : Int) - 1).toNat = i - 1 ∧ 0 ≤ (i : Int) - 1 ∧ (i : Int) - 1 < (n : Int) ∧ i - 1 < n) := by
            by_cases h0 : 0 < i
            · exact .inr ⟨by simpa using h0, sgR l (i - 1), (hb.cell hg).trans (hc (i - 1) (by omega)).1, by simpa using byte_apart (hp h0), by omega, by omega, by omega, by omega⟩
            · exact .inl (by simpa using h0)
          have hR : ((totR l i : Int) + mnR l i ≤ 1000 ∧ Hid (OkTo l (i + 1))) ∨ (1000 < (totR l i : Int) + mnR l i ∧ Hid (FailR l 4)) := by
            by_cases h3 : (totR l i : Int) + mnR l i ≤ 1000
            · exact .inl ⟨h3, hid (okTo_succ HO.out hm hp h3)⟩
            · exact .inr ⟨by omega, hid ⟨i, hli, HO.out, .inr (.inr ⟨rfl, hm, hp, by omega⟩)⟩⟩
          obtain ⟨M, hM⟩ : ∃ M : Nat, mnR l i = (M : Int) := ⟨(mnR l i).toNat, by omega⟩
          have HALL := hid (someR_all hli)
          rw [hM] at c2 hm hR HALL
          have HB1 : Hid (OwnB wr w.heap.size 5 _ (someR l i 0)) := hid (by rw [someR_zero]; exact HB.out)
          have hlt0 := someR_len l i 0
          clear hp hM HO HB hc
          obtain ⟨C, hC⟩ : ∃ C, C = sgR l i := ⟨_, rfl⟩
          rw [← hC] at c1 hd
          have HC := hid hC
          have HLN : Hid (∀ m, m ≤ 1000 → (someR l i m).length ≤ 1099511627776) := hid (fun m h => by rw [someR_len]; omega)
          clear hC
          rcases hd with d1 | ⟨d1, P, cp, hne, i1, i2, i3, i4⟩
          focus
            go_wp2_with fail
            go_quiet (fail)
          rotate_left
          focus
            go_wp2_with fail
            go_quiet (fail)
            clear cp hne i1 i2 i3 i4
          rotate_left
          all_goals (
            generalize hwz : (World.alloc wr _).drewN _ = wz
            have hbz : Below wr.heap.size wr wz := by rw [← hwz]; exact below_drewN ((Below.refl _ _).alloc (Nat.le_refl _) _) _
            have hc0 : wz.cell? ⟨wr.heap.size, 0, none⟩ = some (.int .u8 (C.toNat : Int)) := by rw [← hwz]; exact cell_of_row _ _ 0 _ 58 (0, 0) (heap_alloc_new wr _)
            have hc1 : wz.cell? ⟨wr.heap.size, 1, none⟩ = some (.int .i64 (M : Int)) := by rw [← hwz]; exact cell_of_row _ _ 1 _ 58 (0, 0) (heap_alloc_new wr _)
            have hRz : wr.heap.size < wz.heap.size := by rw [← hwz]; exact (by simp : wr.heap.size < (wr.alloc _).heap.size)
            have HBz := hid (HB1.out.below hbz (Nat.le_refl _))
            have HOz := hid (HB1.out.out (lo := wr.heap.size) (hi := wr.heap.size + 1) (Nat.le_refl _))
            have hbw : Below w.heap.size w wz := hb.trans (hbz.mono hb.size)
            have hRw : w.heap.size ≤ wr.heap.size := hb.size
            clear hwz hbz HB1 hb c1 c2 hgr
            generalize wr.heap.size = R at hc0 hc1 hRz HOz hRw ⊢
            obtain ⟨B, cB, hv, _, _⟩ := HBz.out.cells
            rw [hlt0, Nat.add_zero] at hv
            subst hv
            clear hlt0
            generalize totR l i = T at hT hR HBz HOz ⊢
            rcases hR with ⟨h3, HO2⟩ | ⟨h3, HF⟩
            · go_wp2_with fail
              clear hc1 hg HL
              go_loopw [4, 46] (fun v x wy => ∃ m : Nat, m ≤ M ∧ x = .int .i64 m ∧ Hid (OwnB wy w.heap.size 5 v (someR l i m)) ∧ Hid (Out v R (R + 1)) ∧ R < wy.heap.size ∧ wy.cell? ⟨R, 0, none⟩ = some (.int .u8 (C.toNat : Int)) ∧ Below w.heap.size w wy) (fun _ x _ => M - (intOf x).toNat)
              case atStart => exact ⟨0, by omega, rfl, HBz, HOz, hRz, hc0, hbw⟩
              case round =>
                clear HBz HOz hRz hc0 hbw
                obtain ⟨m, hm2, rfl, HBy, HOy, hRy, hcy, hby⟩ := hrel
                by_cases hml : m < M
                · have hlen := HLN.out m (by omega)
                  go_wp2_with (at_builtin; refine wpList_append_byte _ rfl (.tmp 48) (.tmp 51) 48 rfl w.heap.size 5 i0 Try.underlying48 hi hz0 hz1 hz2 _ (someR l i m) rfl HBy.out C rfl hlen (by omega) R (R + 1) HOy.out (by omega) ?_)
                  intro v' w6 hown6 hb6 hout6 hk6
                  have hsz6 := hb6.size
                  have hcy6 := (hk6.cell (b := R) (o := 0) (Nat.le_refl _) (Nat.lt_succ_self _)).trans hcy
                  have HO6 := hid hown6
                  have HU6 := hid hout6
                  clear hown6 hout6 hk6 HBy HOy hcy
                  go_wp2_with fail
                  go_roundw
                  case rel => exact ⟨m + 1, by omega, by go_num, hid (by rw [someR_succ, ← HC.out]; exact HO6.out), HU6, by omega, hcy6, hby.trans hb6⟩
                  case measure => simp [intOf]; omega
                · have hmM : m = M := by omega
                  have HR : Hid (OwnB _ w.heap.size 5 _ (unr (l.take (i + 1)))) := hid (by rw [← HALL.out, Int.toNat_natCast, ← hmM]; exact HBy.out)
                  clear hmM HBy HOy hcy HALL
                  go_wp2_with fail
                  go_roundw
                  case rel => exact ⟨i + 1, by omega, by go_num, HO2, HR, hby⟩
                  case measure => simp [intOf]; omega
            · go_wp2_with fail
              go_ret2
              exact ⟨.inr ⟨4, HF.out, rfl⟩, hbw⟩)
        · have h0 : 0 < i := by
            rcases Nat.eq_zero_or_pos i with e | e
            · exact absurd (fun h => absurd h (by omega)) hp
            · exact e
          have hs : sgR l (i - 1) = sgR l i := by
            by_cases e : sgR l (i - 1) = sgR l i
            · exact e
            · exact absurd (fun _ => e) hp
          have HF : Hid (FailR l 6) := hid ⟨i, hli, HO.out, .inr (.inl ⟨rfl, hm, h0, hs⟩)⟩
          have cp : wr.cell? ⟨g, off + (i - 1) * 2, none⟩ = some (.int .u8 ((sgR l i).toNat : Int)) := by rw [← hs]; exact (hb.cell hg).trans (hc (i - 1) (by omega)).1
          have d1 : decide (0 < i) = true := by simpa using h0
          have i1 : ((i : Int) - 1).toNat = i - 1 := by omega
          have i2 : 0 ≤ (i : Int) - 1 := by omega
          have i3 : (i : Int) - 1 < (n : Int) := by omega
          have i4 : i - 1 < n := by omega
          generalize sgR l i = C at c1 cp
          generalize mnR l i = M at c2 hm
          have m1 : ¬ M < 1 := by omega
          have m2 : ¬ 1000 < M := by omega
          clear hm hp hs h0 HO HB HL hc HN hli hT
          go_wp2_with fail
          go_quiet (fail)
          go_wp2_with fail
          go_ret2
          exact ⟨.inr ⟨6, HF.out, rfl⟩, below_drewN (hb.alloc hb.size _) _⟩
      · have HF : Hid (FailR l 1) := hid ⟨i, hli, HO.out, .inl ⟨rfl, hm⟩⟩
        generalize sgR l i = C at c1
        generalize mnR l i = M at c2 hm
        have hM : M < 1 ∨ (¬ M < 1 ∧ 1000 < M) := by omega
        clear hm HO HB HL hc HN hli hT
        rcases hM with h1 | ⟨h1, h2⟩
        · go_wp2_with fail
          go_ret2
          exact ⟨.inr ⟨1, HF.out, rfl⟩, hb.alloc hb.size _⟩
        · go_wp2_with fail
          go_ret2
          exact ⟨.inr ⟨1, HF.out, rfl⟩, hb.alloc hb.size _⟩
    · obtain rfl : i = n := by omega
      have HBn := HB.out
      rw [List.take_of_length_le (by have := HN.out; omega)] at HBn
      have hcv := conv_own HBn
      have HOn : Hid (OkTo l l.length) := hid (by rw [HN.out]; exact HO.out)
      obtain ⟨X, hX⟩ : ∃ X, X = txt (unr l) := ⟨_, rfl⟩
      rw [← hX] at hcv
      have HX := hid hX
      clear hX HBn HB HO HL
      go_wp2_with fail
      go_ret2
      exact ⟨.inl ⟨HOn.out, by rw [← HX.out]; rfl⟩, hb⟩
theorem read_ok (A : Option Addr) (n c : Nat) (l : List (UInt8 × Int)) (w : World) (hn : n ≤ maxLen) (hl : IsRuns w w.heap.size A n l) (hok : OkTo l l.length) :
    Calls Try.prog 13 #[.slice A n c] w fun e w' => e = .returned (.tuple #[.string (txt (unr l)), .nilIface]) ∧ Below w.heap.size w w' :=
  (read_any A n c l w hn hl).mono fun _ _ ⟨hc, hb⟩ => ⟨by
    rcases hc with ⟨_, he⟩ | ⟨k, hf, _⟩
    · exact he
    · exact (failR_no hf hok).elim, hb⟩
theorem read_bad (A : Option Addr) (n c : Nat) (l : List (UInt8 × Int)) (k : Int) (w : World) (hn : n ≤ maxLen) (hl : IsRuns w w.heap.size A n l) (hf : FailR l k) :
    Calls Try.prog 13 #[.slice A n c] w fun e w' => e = .returned (.tuple #[.string ByteArray.empty, .iface 43 (.int .i64 k)]) ∧ Below w.heap.size w w' :=
  (read_any A n c l w hn hl).mono fun _ _ ⟨hc, hb⟩ => ⟨by
    rcases hc with ⟨hok, _⟩ | ⟨k', hf', he⟩
    · exact (failR_no hf hok).elim
    · rw [he, failR_one hf' hf], hb⟩
end Go.Proofs.Ytceipfmdgpnagaa
