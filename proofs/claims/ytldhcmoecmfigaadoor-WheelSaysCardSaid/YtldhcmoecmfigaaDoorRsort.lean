/-
  Contract of letterbeckref1.Sorted for any texts: their places in the texts' order, of equal texts the first one first, in new memory. Conditions: at most 1000 texts of at most 1000 bytes.
-/
import Derived.Test.YtldhcmoecmfigaaDoorBef
import Derived.Test.YtldhcmoecmfigaaDoorRowU
import Derived.Deep.OwnRows
import Derived.Maps.AppendAt
namespace Go.Proofs.YtldhcmoecmfigaaDoor
open Go.RowKit Go.Proofs

/-! ### Plain facts -/
/-- The text at place i stands ahead of the one at place j: it is less, or the same and stands at a lower place. -/
def Bf (ws : List ByteArray) (i j : Nat) : Prop := bs (wat ws i) < bs (wat ws j) ∨ (bs (wat ws i) = bs (wat ws j) ∧ i < j)
theorem bf_trans {ws : List ByteArray} {i j k : Nat} (h : bs (wat ws i) < bs (wat ws j)) (h' : Bf ws j k) : Bf ws i k := by
  rcases h' with h' | ⟨e, _⟩
  · exact .inl (List.lt_trans h h')
  · exact .inl (by rw [← e]; exact h)
/-- os: the places that have been taken, in the order; what is left stands behind them. -/
def Sl (ws : List ByteArray) (os : List Nat) : Prop :=
  (∀ i ∈ os, i < ws.length) ∧ os.Pairwise (fun i j => Bf ws i j) ∧ ∀ i, i < ws.length → i ∉ os → ∀ j ∈ os, Bf ws j i
/-- k: the first one of the first i texts that are left. -/
def Bst (ws : List ByteArray) (os : List Nat) (i : Nat) (k : Int) : Prop :=
  (k = -1 ∧ ∀ m, m < i → m ∈ os) ∨ ∃ j, j < i ∧ k = (j : Nat) ∧ j ∉ os ∧ ∀ m, m < i → m ∉ os → m = j ∨ Bf ws j m
theorem bsf_used {ws : List ByteArray} {os : List Nat} {i : Nat} {k : Int} (h : Bst ws os i k) (hi : i ∈ os) : Bst ws os (i + 1) k := by
  have all : ∀ m, m < i + 1 → m ∉ os → m < i := fun m hm hmo => by
    have : m ≠ i := fun e => hmo (e ▸ hi)
    omega
  rcases h with ⟨rfl, h⟩ | ⟨j, hj, rfl, h1, h2⟩
  · refine .inl ⟨rfl, fun m hm => ?_⟩
    by_cases e : m ∈ os
    · exact e
    · exact h m (all m hm e)
  · exact .inr ⟨j, by omega, rfl, h1, fun m hm hmo => h2 m (all m hm hmo) hmo⟩
theorem bsf_first {ws : List ByteArray} {os : List Nat} {i : Nat} (h : Bst ws os i (-1)) (hi : i ∉ os) : Bst ws os (i + 1) (i : Nat) := by
  rcases h with ⟨_, h⟩ | ⟨j, _, e, _⟩
  · refine .inr ⟨i, by omega, rfl, hi, fun m hm hmo => ?_⟩
    by_cases e : m = i
    · exact .inl e
    · exact absurd (h m (by omega)) hmo
  · omega
theorem bsf_less {ws : List ByteArray} {os : List Nat} {i j : Nat} (h : Bst ws os i (j : Nat)) (hi : i ∉ os) (hl : bs (wat ws i) < bs (wat ws j)) : Bst ws os (i + 1) (i : Nat) := by
  rcases h with ⟨e, _⟩ | ⟨j', hj, e, h1, h2⟩
  · omega
  · obtain rfl : j = j' := by omega
    refine .inr ⟨i, by omega, rfl, hi, fun m hm hmo => ?_⟩
    by_cases e : m = i
    · exact .inl e
    · rcases h2 m (by omega) hmo with rfl | h3
      · exact .inr (.inl hl)
      · exact .inr (bf_trans hl h3)
theorem bsf_keep {ws : List ByteArray} {os : List Nat} {i j : Nat} (h : Bst ws os i (j : Nat)) (hl : ¬ bs (wat ws i) < bs (wat ws j)) : Bst ws os (i + 1) (j : Nat) := by
  rcases h with ⟨e, _⟩ | ⟨j', hj, e, h1, h2⟩
  · omega
  · obtain rfl : j = j' := by omega
    refine .inr ⟨j, by omega, rfl, h1, fun m hm hmo => ?_⟩
    by_cases e : m = i
    · subst e
      rcases List.le_iff_lt_or_eq.1 (List.not_lt.1 hl) with h3 | h3
      · exact .inr (.inl h3)
      · exact .inr (.inr ⟨h3, hj⟩)
    · exact h2 m (by omega) hmo
theorem bsf_place {ws : List ByteArray} {os : List Nat} {i : Nat} {k : Int} (h : Bst ws os i k) : k = -1 ∨ ∃ j, j < i ∧ k = (j : Nat) := by
  rcases h with ⟨rfl, _⟩ | ⟨j, hj, rfl, _⟩
  · exact .inl rfl
  · exact .inr ⟨j, hj, rfl⟩
theorem nodup_room {l m : List Nat} (hn : l.Nodup) (hs : ∀ x ∈ l, x ∈ m) : l.length ≤ m.length := by
  induction l generalizing m with
  | nil => simp
  | cons a l ih =>
    have ⟨h1, h2⟩ := List.nodup_cons.1 hn
    have ha := hs a (by simp)
    have := ih (m := m.erase a) h2 fun x hx => (List.mem_erase_of_ne (show x ≠ a from fun e => h1 (by rw [← e]; exact hx))).2 (hs x (by simp [hx]))
    have := List.length_erase_of_mem ha
    have : 0 < m.length := List.length_pos_of_mem ha
    simp; omega
theorem bsf_end {ws : List ByteArray} {os : List Nat} {n : Nat} {k : Int} (h : Bst ws os n k) (hl : os.length < n) : ∃ j, j < n ∧ k = (j : Nat) ∧ j ∉ os ∧ ∀ m, m < n → m ∉ os → m = j ∨ Bf ws j m := by
  rcases h with ⟨_, h⟩ | h
  · have := nodup_room (l := List.range n) (m := os) List.nodup_range fun x hx => h x (List.mem_range.1 hx)
    rw [List.length_range] at this
    omega
  · exact h
theorem sl_start (ws : List ByteArray) : Sl ws [] := ⟨fun i hi => (by cases hi), List.Pairwise.nil, fun _ _ _ j hj => (by cases hj)⟩
theorem sl_step {ws : List ByteArray} {os : List Nat} {j : Nat} (h : Sl ws os) (hj : j < ws.length) (hjo : j ∉ os) (hm : ∀ m, m < ws.length → m ∉ os → m = j ∨ Bf ws j m) : Sl ws (os ++ [j]) := by
  refine ⟨fun i hi => ?_, ?_, fun i hi hio k hk => ?_⟩
  · rcases List.mem_append.1 hi with h' | h'
    · exact h.1 i h'
    · obtain rfl : i = j := by simpa using h'
      exact hj
  · rw [List.pairwise_append]
    refine ⟨h.2.1, by simp, fun a ha b hb => ?_⟩
    obtain rfl : b = j := by simpa using hb
    exact h.2.2 b hj hjo a ha
  · have h1 : i ∉ os := fun e => hio (List.mem_append.2 (.inl e))
    have h2 : i ≠ j := fun e => hio (List.mem_append.2 (.inr (by simp [e])))
    rcases List.mem_append.1 hk with h' | h'
    · exact h.2.2 i hi h1 k h'
    · obtain rfl : k = j := by simpa using h'
      rcases hm i hi h1 with e | h3
      · exact absurd e h2
      · exact h3

set_option maxRecDepth 100000 in
set_option maxHeartbeats 2000000 in
theorem rsort_any (A : Option Addr) (n c : Nat) (ws : List ByteArray) (w : World) (hn : n ≤ 1000) (hf : ∀ i, i < n → (wat ws i).size ≤ 1000) (h : IsStrs w w.heap.size A n ws) :
    Calls Tryd.prog 12 #[.slice A n c] w fun e w' => ∃ v os, e = .returned v ∧ (Sl ws os ∧ os.length = ws.length) ∧ OwnI w' w.heap.size 3 v (os.map fun i : Nat => (i : Int)) ∧ Below w.heap.size w w' := by
  have hl : ws.length = n := h.1
  obtain ⟨i0, hi0, hz0, hz1, hz2⟩ := info_parts int_info
  have hmk0 := run_make_row' (P := Tryd.prog) 54 4 (.bool false) 1 Tryd.underlying54 bool_info rfl .i64 .i64 n (by omega) (by omega)
  have H := hid h
  have HF := hid hf
  have HL := hid hl
  have HU := hid (RowU.made w n)
  have hB0 : Below w.heap.size w (w.alloc (.cells (madeCells #[Value.bool false] n) 4)) := (Below.refl _ _).alloc (Nat.le_refl _) _
  clear h hf hl
  obtain ⟨w0, hw0⟩ : ∃ z, z = w.alloc (.cells (madeCells #[Value.bool false] n) 4) := ⟨_, rfl⟩
  rw [← hw0] at HU hB0
  have hmk : Sem.run Tryd.prog (Instr.makeSlice 54 (.int .i64 (n : Int)) (.int .i64 (n : Int))) w = .ok (.slice (some ⟨w.heap.size, 0, none⟩) n n) w0 := by rw [hw0]; exact hmk0 w
  have hs0 : w.heap.size < w0.heap.size := by rw [hw0]; simp
  clear hw0 hmk0
  go_enter Tryd.func12, Tryd.ntmps12
  go_wp2_with fail
  go_loopw [3, 5] (fun v x wr => ∃ (m : Nat) (os : List Nat) (vv : Value), m ≤ n ∧ vv = v ∧ x = .int .i64 m ∧ Hid (Sl ws os ∧ os.length = m ∧ RowU wr w.heap.size n (usd os) ∧ OwnI wr w.heap.size 3 vv (os.map fun i : Nat => (i : Int))) ∧ Below w.heap.size w wr ∧ w.heap.size < wr.heap.size) (fun _ x _ => n - (intOf x).toNat)
  case atStart => exact ⟨0, [], _, by omega, rfl, rfl, hid ⟨sl_start ws, rfl, HU.out.congr (fun j _ => rfl), OwnI.nil _ _ _⟩, hB0, hs0⟩
  case round =>
    obtain ⟨m, os, v, hm, rfl, rfl, HR, hb, hsz⟩ := hrel
    by_cases hlt : m < n
    · obtain ⟨g, off, rfl, hg, hcw⟩ := H.out.2 (by omega)
      have HCW := hid (show ∀ j, j < n → wr.cell? ⟨g, off + j, none⟩ = some (.string (wat ws j)) from fun j hj => (hb.cell hg).trans (hcw j hj))
      clear hcw
      obtain ⟨wz, hwz⟩ : ∃ z, z = wr := ⟨_, rfl⟩
      subst hwz
      go_wp2_with fail
      go_loopw [6, 7] (fun b x wr => ∃ (i q : Nat) (k : Int), i ≤ n ∧ b = .int .i64 k ∧ x = .int .i64 i ∧ Hid (Bst ws os i k) ∧ Hid (wr = wz.drewN q)) (fun _ x _ => n - (intOf x).toNat)
      case atStart => exact ⟨0, 0, -1, by omega, rfl, rfl, hid (.inl ⟨rfl, fun m hm => by omega⟩), hid rfl⟩
      case round =>
        obtain ⟨i, q, k, hi, rfl, rfl, HK, HQ⟩ := hrel
        by_cases hli : i < n
        · have hcu : wr.cell? ⟨w.heap.size, i, none⟩ = some (.bool (usd os i)) := by rw [HQ.out]; exact HR.out.2.2.1.cell hli
          have hwi : wr.cell? ⟨g, off + i, none⟩ = some (.string (wat ws i)) := by rw [HQ.out]; exact HCW.out i hli
          have hsi := HF.out i hli
          by_cases hio : i ∈ os
          · have HK2 := hid (bsf_used HK.out hio)
            rw [show usd os i = true by simp [usd, hio]] at hcu
            clear HK hio
            generalize wat ws i = s at hwi hsi
            go_wp2_with fail
            go_quiet (fail)
            go_wp2_with fail
            go_roundw
            case rel => exact ⟨i + 1, _, k, by omega, rfl, by go_num, HK2, hid (by rw [HQ.out]; exact World.drewN_drewN _ _ _)⟩
            case measure => simp [intOf]; omega
          · rw [show usd os i = false by simp [usd, hio]] at hcu
            rcases bsf_place HK.out with rfl | ⟨j, hj, rfl⟩
            · have HK2 := hid (bsf_first HK.out hio)
              clear HK hio
              generalize wat ws i = s at hwi hsi
              go_wp2_with fail
              go_quiet (fail)
              go_wp2_with fail
              go_roundw
              case rel => exact ⟨i + 1, _, (i : Nat), by omega, rfl, by go_num, HK2, hid (by rw [HQ.out]; exact World.drewN_drewN _ _ _)⟩
              case measure => simp [intOf]; omega
            · have hjn : j < n := by omega
              have hwj : wr.cell? ⟨g, off + j, none⟩ = some (.string (wat ws j)) := by rw [HQ.out]; exact HCW.out j hjn
              have hsj := HF.out j hjn
              have hnl : ¬ ((j : Int) < 0) := by omega
              have HB := fun W => hid (before_any (wat ws i) (wat ws j) W (by omega) (by omega))
              by_cases hbf : bs (wat ws i) < bs (wat ws j)
              · have HK2 := hid (bsf_less HK.out hio hbf)
                rw [befB_yes hbf] at HB
                clear HK hio hbf
                generalize wat ws i = s at hwi hsi HB
                generalize wat ws j = t at hwj hsj HB
                go_wp2_with fail
                go_quiet ((go_at_call 20; exact Calls.quiet_of (HB _).out))
                go_wp2_with fail
                go_roundw
                case rel => exact ⟨i + 1, _, (i : Nat), by omega, rfl, by go_num, HK2, hid (by rw [HQ.out]; exact World.drewN_drewN _ _ _)⟩
                case measure => simp [intOf]; omega
              · have HK2 := hid (bsf_keep HK.out hbf)
                rw [befB_no hbf] at HB
                clear HK hio hbf
                generalize wat ws i = s at hwi hsi HB
                generalize wat ws j = t at hwj hsj HB
                go_wp2_with fail
                go_quiet ((go_at_call 20; exact Calls.quiet_of (HB _).out))
                go_wp2_with fail
                go_roundw
                case rel => exact ⟨i + 1, _, (j : Nat), by omega, rfl, by go_num, HK2, hid (by rw [HQ.out]; exact World.drewN_drewN _ _ _)⟩
                case measure => simp [intOf]; omega
        · obtain ⟨j, hj, rfl, hjo, hjm⟩ := bsf_end (n := n) (by rw [show n = i by omega]; exact HK.out) (by have := HR.out.2.1; omega)
          have HSL := hid (sl_step HR.out.1 (by have := HL.out; omega) hjo (by rw [HL.out]; exact hjm))
          have hU : RowU wr w.heap.size n (usd os) := by rw [HQ.out]; exact HR.out.2.2.1
          have hO : OwnI wr w.heap.size 3 v (os.map fun i : Nat => (i : Int)) := by rw [HQ.out]; exact HR.out.2.2.2
          have hcu := hU.cell hj
          have hfu := hU.frozen j
          rw [show usd os j = false by simp [usd, hjo]] at hcu
          have hU2 := (hU.set j).congr (fun i _ => usd_snoc os j i)
          have hO2 := hO.at_block (w' := wr.setCell ⟨w.heap.size, j, none⟩ (.bool true)) (fun g' e => Below.heap_setCell _ _ _ _ (hU.apart hO e))
          have hb2 : Below w.heap.size w wr := by rw [HQ.out]; exact below_drewN hb _
          have hb3 := hb2.setCell (p := ⟨w.heap.size, j, none⟩) (Nat.le_refl _) (.bool true)
          have hsz2 : w.heap.size < wr.heap.size := by rw [HQ.out]; exact hsz
          have HLN := hid (show (os ++ [j]).length = m + 1 by rw [List.length_append, HR.out.2.1]; rfl)
          have hol : (os.map fun i : Nat => (i : Int)).length ≤ 1000 := by rw [List.length_map, HR.out.2.1]; omega
          have HU2 := hid hU2
          have HO2 := hid hO2
          have HB3 := hid hb3
          clear hU hO hU2 hO2 hjo hjm HK hb3
          have hrow := HO2.out
          have HAP := hid (show ∀ g', v.ownBlock = some g' → g' ≠ w.heap.size from fun g' e => HU2.out.apart HO2.out e)
          have HLT := hid (show ∀ g', v.ownBlock = some g' → w.heap.size ≤ g' from fun g' e => (World.ownsRow.lt HO2.out g' e).1)
          unfold OwnI at hrow
          generalize hnn : (os.map fun i : Nat => (i : Int)).length = nn at hrow hol
          generalize hys : (os.map fun i : Nat => (i : Int)).map (Value.int .i64) = ys at hrow
          have HE := hid (And.intro hnn hys)
          clear hnn hys
          go_wp2_with (at_builtin; refine wpList_append_own_at _ rfl _ _ 38 rfl w.heap.size 3 i0 (.int .i64 0) 1 8 Tryd.underlying38 hi0 hz0 hz1 hz2 rfl (by decide) _ _ _ rfl (hrow.alloc _) ⟨(wr.setCell ⟨w.heap.size, j, none⟩ (.bool true)).heap.size, 0, none⟩ 1 1 [.int .i64 (j : Int)] (by first | rfl | simp [Act.eval]) rfl (cell_one_new _ _ _) (by simp [Value.oneCell']) (by unfold maxLen; omega) (by omega) (by simp; omega) ?_; intro v4 w4 hown4 hgrow4 hnil4 hloc4; have HO4 := hid hown4; have HG4 := hid hgrow4; clear hown4 hgrow4 hnil4 hloc4)
          go_wp2_with fail
          have hszs : (wr.setCell ⟨w.heap.size, j, none⟩ (.bool true)).heap.size = wr.heap.size := by simp
          have hs4 := HG4.out.size
          have hsa : ((wr.setCell ⟨w.heap.size, j, none⟩ (.bool true)).alloc (.cells #[.int .i64 (j : Int)] 3)).heap.size = wr.heap.size + 1 := by simp
          go_roundw
          case rel =>
            refine ⟨m + 1, os ++ [j], v4, by omega, rfl, by go_num, hid ⟨HSL.out, HLN.out, ?_, ?_⟩, ?_, by omega⟩
            · exact (HG4.out.block w.heap.size (by omega) (fun e => HAP.out _ e.symm rfl)).trans ((Below.heap_alloc _ _ _ (by omega)).trans HU2.out)
            · obtain ⟨hnn, hys⟩ := HE.out
              have ho := HO4.out
              unfold OwnI
              rw [List.map_append, List.length_append, List.map_append, hnn, hys]
              exact ho
            · exact (HB3.out.alloc (by omega) _).grown HG4.out (by omega) (fun b hb => HLT.out b hb)
          case measure => simp [intOf]; omega
    · have HE := hid (And.intro HR.out.1 (show os.length = ws.length by have := HL.out; have := HR.out.2.1; omega))
      have HO := hid HR.out.2.2.2
      go_wp2_with fail
      go_ret
      exact ⟨v, os, rfl, HE.out, HO.out, hb⟩
end Go.Proofs.YtldhcmoecmfigaaDoor
