/-
  Contract of lempel.Read: the text of pieces, or what is wrong with them; the old memory stays as it was. Conditions: none but the sizes that a row itself sets.
-/
import Derived.Test.YtkpjflfhegejpaaPtx
namespace Go.Proofs.Ytkpjflfhegejpaa
open Go.RowKit

set_option maxHeartbeats 4000000 in
set_option maxRecDepth 100000 in
theorem lread_any (A : Option Addr) (n c : Nat) (l : List (Int × UInt8)) (w : World) (hn : n ≤ maxLen) (hl : IsPcs w w.heap.size A n l) :
    Calls Try.prog 14 #[.slice A n c] w fun e w' => ((FineP l ∧ e = .returned (.tuple #[.string (txt (whP l)), .nilIface])) ∨ ∃ k, FailP l k ∧ e = .returned (.tuple #[.string ByteArray.empty, .iface 43 (.int .i64 k)])) ∧ Below w.heap.size w w' := by
  obtain ⟨j0, hj, hy0, hy1, hy2⟩ := info_parts textI
  unfold maxLen at hn
  have HL := hid hl
  have HN := hid hl.1
  clear hl
  by_cases h1000 : 1000 < n
  · have HF := hid (show FailP l 4 from .inl ⟨by rw [HN.out]; exact h1000, rfl⟩)
    clear HL HN
    go_enter Try.func14, Try.ntmps14
    go_wp2_with fail
    go_ret2
    exact ⟨.inr ⟨4, HF.out, rfl⟩, Below.refl _ _⟩
  · have hd : decide (1000 < n) = false := by simpa using h1000
    go_enter Try.func14, Try.ntmps14
    go_wp2_with fail
    go_loopw [4, 5, 16] (fun v y x wr => ∃ (i : Nat) (ws : List ByteArray), i ≤ n ∧ x = .int .i64 i ∧ y = .string (soT l i) ∧ Hid (Tx l i ws) ∧ Hid (OwnX encS 1 wr w.heap.size 9 v ws) ∧ Below w.heap.size w wr) (fun _ _ x _ => n - (intOf x).toNat)
    case atStart => exact ⟨0, [ByteArray.empty], by omega, rfl, rfl, hid (tx_start l), hid (OwnX.lit w _ _ [ByteArray.empty] _ rfl rfl (Nat.le_refl _) (by unfold maxLen; simp)), (Below.refl _ _).alloc (Nat.le_refl _) _⟩
    case round =>
      obtain ⟨i, ws, hin, rfl, rfl, HT, HW, hbw⟩ := hrel
      have hwl := HT.out.len
      obtain ⟨gt, ct, rfl, hgtb, hgt, hcell⟩ := textsOf HW.out (by omega)
      by_cases hlt : i < n
      · obtain ⟨g, off, rfl, hg, hc⟩ := HL.out.2 (by omega)
        have c1 : wr.cell? ⟨g, off + i * 2, none⟩ = some (.int .i64 (bkP l i)) := (hbw.cell hg).trans (hc i hlt).1
        have c2 : wr.cell? ⟨g, off + i * 2 + 1, none⟩ = some (.int .u8 ((sgP l i).toNat : Int)) := (hbw.cell hg).trans (hc i hlt).2
        have hli : i < l.length := by have := HN.out; omega
        by_cases hm : 0 ≤ bkP l i ∧ bkP l i ≤ i
        · obtain ⟨b, hb⟩ : ∃ b : Nat, bkP l i = b := ⟨(bkP l i).toNat, by omega⟩
          have hbi : b ≤ i := by omega
          have c3 := hcell b (by omega)
          have hsb := HT.out.short (b := b) (by omega)
          have HNE := hid (HT.out.next hb)
          have hadd := fun W => run_string_add_sum (P := Try.prog) W (ws.getD b ByteArray.empty) (oneT (sgP l i)) (by rw [show (oneT (sgP l i)).size = 1 from rfl]; omega)
          have hcv := fun W : World => run_one (P := Try.prog) W (sgP l i) 44 9 5 Try.underlying44 Try.underlying5 Try.underlying9
          have hcw := fun W : World => run_one_drew (P := Try.prog) W (sgP l i) 44 9 5 Try.underlying44 Try.underlying5 Try.underlying9
          have hts : (ws.getD b ByteArray.empty ++ oneT (sgP l i)).size ≤ 1001 := by rw [ByteArray.size_append, show (oneT (sgP l i)).size = 1 from rfl]; omega
          have HST := hid (fun h => HT.out.step hli hb hbi h)
          obtain ⟨t, ht⟩ : ∃ t, t = ws.getD b ByteArray.empty ++ oneT (sgP l i) := ⟨_, rfl⟩
          rw [← ht] at HNE hadd hts HST
          clear ht
          have hS0 : (soT l i).size ≤ 1000 := by rw [soT_size]; exact okP_tot HT.out.ok
          have hSS : totP l (i + 1) = (soT l i).size + t.size := by rw [totP_succ hli, ← HNE.out, bs_len, soT_size]
          have HS2 := hid (soT_succ hli HNE.out)
          have hadd2 := fun W => run_string_add_sum (P := Try.prog) W (soT l i) t (by omega)
          rw [HS2.out] at hadd2
          have hwl2 : ws.length ≤ 1099511627776 := by omega
          have HR : (¬ 1000 < (soT l i).size + t.size ∧ (soT l i).size + t.size ≤ 1000 ∧ Hid (Tx l (i + 1) (ws ++ [t]))) ∨ (1000 < (soT l i).size + t.size ∧ Hid (FailP l 4)) := by
            by_cases h3 : 1000 < (soT l i).size + t.size
            · exact .inr ⟨h3, hid (.inr ⟨by rw [HN.out]; omega, i, hli, HT.out.ok, .inr ⟨rfl, hm, by omega⟩⟩)⟩
            · exact .inl ⟨h3, by omega, hid (HST.out (by omega))⟩
          have hbl : b < ws.length := by omega
          rw [hb] at c1
          clear hcell HNE HST hSS HS2 HT hm hb hc hd
          generalize ws.getD b ByteArray.empty = sk at c3 hsb hadd
          generalize oneT (sgP l i) = u at hcv hcw hadd
          generalize sgP l i = C at c2 hcv hcw
          obtain ⟨S2, hS2⟩ : ∃ z, z = soT l (i + 1) := ⟨_, rfl⟩
          rw [← hS2] at hadd2
          have HSZ := hid hS2
          clear hS2
          generalize soT l i = S at hadd2 hS0 HR ⊢
          have hb0 : ¬ ((b : Int) < 0) := by omega
          have hge : decide (ws.length ≤ b) = false := decide_eq_false (by omega)
          have hbw2 := hbw.size
          clear hwl
          go_wp2_with fail
          generalize hwz : World.alloc wr _ = wz
          have hbz : Below wr.heap.size wr wz := by rw [← hwz]; exact (Below.refl _ _).alloc (Nat.le_refl _) _
          have k0 : wz.cell? ⟨wr.heap.size, 0, none⟩ = some (.int .i64 (b : Int)) := by rw [← hwz]; exact cell_of_row _ _ 0 _ 53 (0, 0) (heap_alloc_new wr _)
          have k1 : wz.cell? ⟨wr.heap.size, 1, none⟩ = some (.int .u8 (C.toNat : Int)) := by rw [← hwz]; exact cell_of_row _ _ 1 _ 53 (0, 0) (heap_alloc_new wr _)
          have k3 := (hbz.cell (p := ⟨gt, b, none⟩) hgt).trans c3
          have hRz : wr.heap.size < wz.heap.size := by rw [← hwz]; exact (by simp : wr.heap.size < (wr.alloc _).heap.size)
          have hba : Below wz.heap.size wz (wz.alloc (.cells #[.int .u8 (C.toNat : Int)] 5)).drew := below_drewN ((Below.refl _ wz).alloc (Nat.le_refl _) _) 1
          have k0a := (hba.cell (p := ⟨wr.heap.size, 0, none⟩) hRz).trans k0
          have k1a := (hba.cell (p := ⟨wr.heap.size, 1, none⟩) hRz).trans k1
          have k3a := (hba.cell (p := ⟨gt, b, none⟩) (by show gt < wz.heap.size; omega)).trans k3
          have hw1 := (HW.out.below hbz (Nat.le_refl _)).below hba (Nat.le_refl _)
          have HW1 := hid hw1
          have hbw1 := hid ((hbw.trans (hbz.mono hbw.size)).trans (hba.mono (Nat.le_trans hbw.size hbz.size)))
          clear hwz hba hw1 HW hbw hbz c1 c2 c3
          generalize wr.heap.size = R at k0 k1 k0a k1a hRz ⊢
          go_region
          generalize (World.alloc wz _).drew = wy at HW1 hbw1 ⊢
          have hbz := hbw1.out.size
          clear k0 k1 k3 k0a k1a k3a hcv hcw hadd hRz
          rcases HR with ⟨h3, h4, HT2⟩ | ⟨h3, HF⟩
          · go_wp2_with (at_builtin; refine wpList_append_text _ rfl (.tmp 48) (.tmp 50) 54 rfl w.heap.size 9 j0 Try.underlying54 hj hy0 hy1 hy2 _ ws rfl HW1.out t rfl hwl2 hbz ?_)
            intro v' w6 hown6 ht6
            have HO6 := hid hown6
            have hb6 : Below w.heap.size w w6 := hbw1.out.trans (ht6.below hbz fun b hb => (HW1.out.lt hb).1)
            clear hown6 ht6 HW1 hbw1
            go_wp2_with fail
            go_roundw
            case rel => exact ⟨i + 1, _, by omega, by go_num, by rw [HSZ.out], HT2, HO6, hb6⟩
            case measure => simp [intOf]; omega
          · go_wp2_with fail
            go_ret2
            exact ⟨.inr ⟨4, HF.out, rfl⟩, hbw1.out⟩
        · have HF := hid (show FailP l 1 from .inr ⟨by rw [HN.out]; omega, i, hli, HT.out.ok, .inl ⟨rfl, hm⟩⟩)
          have hway : bkP l i < 0 ∨ (¬ (bkP l i < 0) ∧ (ws.length : Int) ≤ bkP l i) := by omega
          clear hm HT HL HN hwl
          generalize bkP l i = B at c1 hway
          generalize sgP l i = C at c2
          generalize soT l i = S
          rcases hway with h1 | ⟨h1, h2⟩
          all_goals (
            go_wp2_with fail
            go_ret2
            exact ⟨.inr ⟨1, HF.out, rfl⟩, hbw.alloc hbw.size _⟩)
      · obtain rfl : i = n := by omega
        have hfine : FineP l := ⟨by rw [HN.out]; omega, by rw [HN.out]; exact HT.out.ok⟩
        have hS : soT l i = txt (whP l) := by unfold soT whP; rw [HN.out]
        have HF := hid hfine
        have HS := hid hS
        clear hfine hS HT HW HL HN
        generalize soT l i = S at HS
        go_wp2_with fail
        go_ret2
        exact ⟨.inl ⟨HF.out, by rw [← HS.out]; rfl⟩, hbw⟩
theorem lread_ok (A : Option Addr) (n c : Nat) (l : List (Int × UInt8)) (w : World) (hn : n ≤ maxLen) (hl : IsPcs w w.heap.size A n l) (hf : FineP l) :
    Calls Try.prog 14 #[.slice A n c] w fun e w' => e = .returned (.tuple #[.string (txt (whP l)), .nilIface]) ∧ Below w.heap.size w w' :=
  (lread_any A n c l w hn hl).mono fun e w' ⟨h, hb⟩ => ⟨by
    rcases h with ⟨_, rfl⟩ | ⟨k, hk, _⟩
    · rfl
    · exact (failP_no hk hf).elim, hb⟩
theorem lread_bad (A : Option Addr) (n c : Nat) (l : List (Int × UInt8)) (k : Int) (w : World) (hn : n ≤ maxLen) (hl : IsPcs w w.heap.size A n l) (hk : FailP l k) :
    Calls Try.prog 14 #[.slice A n c] w fun e w' => e = .returned (.tuple #[.string ByteArray.empty, .iface 43 (.int .i64 k)]) ∧ Below w.heap.size w w' :=
  (lread_any A n c l w hn hl).mono fun e w' ⟨h, hb⟩ => ⟨by
    rcases h with ⟨hf, _⟩ | ⟨k', hk', rfl⟩
    · exact (failP_no hk hf).elim
    · rw [failP_one hk hk'], hb⟩
end Go.Proofs.Ytkpjflfhegejpaa
