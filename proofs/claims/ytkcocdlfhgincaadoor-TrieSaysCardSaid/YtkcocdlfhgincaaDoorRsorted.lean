/-
  Contract of letterbeckref1.Sorted: the places of the words in the words' order, in new memory. Conditions: words as they should be.
-/
import Derived.Test.YtkcocdlfhgincaaDoorBefore
import Derived.Test.YtkcocdlfhgincaaDoorTwalk
import Derived.Deep.OwnRows
import Derived.Maps.AppendAt
namespace Go.Proofs.YtkcocdlfhgincaaDoor
open Go.RowKit Go.Proofs

/-! ### Plain facts -/
/-- os: the places that have been taken, in the words' order; the words that are left stand behind them. -/
def Sel (ws : List ByteArray) (os : List Nat) : Prop :=
  (∀ i ∈ os, i < ws.length) ∧ os.Pairwise (fun i j => bs (wat ws i) < bs (wat ws j)) ∧ ∀ i, i < ws.length → i ∉ os → ∀ j ∈ os, bs (wat ws j) < bs (wat ws i)
/-- k: the least of the first i words that are left. -/
def BestTo (ws : List ByteArray) (os : List Nat) (i : Nat) (k : Int) : Prop :=
  (k = -1 ∧ ∀ m, m < i → m ∈ os) ∨ ∃ j, j < i ∧ k = (j : Nat) ∧ j ∉ os ∧ ∀ m, m < i → m ∉ os → m = j ∨ bs (wat ws j) < bs (wat ws m)
theorem best_used {ws : List ByteArray} {os : List Nat} {i : Nat} {k : Int} (h : BestTo ws os i k) (hi : i ∈ os) : BestTo ws os (i + 1) k := by
  rcases h with ⟨rfl, h⟩ | ⟨j, hj, rfl, h1, h2⟩
  · refine .inl ⟨rfl, fun m hm => ?_⟩
    by_cases e : m = i
    · subst e; exact hi
    · exact h m (by omega)
  · refine .inr ⟨j, by omega, rfl, h1, fun m hm hmo => ?_⟩
    by_cases e : m = i
    · subst e; exact absurd hi hmo
    · exact h2 m (by omega) hmo
theorem best_first {ws : List ByteArray} {os : List Nat} {i : Nat} (h : BestTo ws os i (-1)) (hi : i ∉ os) : BestTo ws os (i + 1) (i : Nat) := by
  rcases h with ⟨_, h⟩ | ⟨j, _, e, _⟩
  · refine .inr ⟨i, by omega, rfl, hi, fun m hm hmo => ?_⟩
    by_cases e : m = i
    · exact .inl e
    · exact absurd (h m (by omega)) hmo
  · omega
theorem best_less {ws : List ByteArray} {os : List Nat} {i j : Nat} (h : BestTo ws os i (j : Nat)) (hi : i ∉ os) (hl : bs (wat ws i) < bs (wat ws j)) : BestTo ws os (i + 1) (i : Nat) := by
  rcases h with ⟨e, _⟩ | ⟨j', hj, e, h1, h2⟩
  · omega
  · obtain rfl : j = j' := by omega
    refine .inr ⟨i, by omega, rfl, hi, fun m hm hmo => ?_⟩
    by_cases e : m = i
    · exact .inl e
    · rcases h2 m (by omega) hmo with rfl | h3
      · exact .inr hl
      · exact .inr (List.lt_trans hl h3)
theorem best_keep {ws : List ByteArray} (hf : Fine ws) {os : List Nat} {i j : Nat} (hin : i < ws.length) (h : BestTo ws os i (j : Nat)) (hl : ¬ bs (wat ws i) < bs (wat ws j)) : BestTo ws os (i + 1) (j : Nat) := by
  rcases h with ⟨e, _⟩ | ⟨j', hj, e, h1, h2⟩
  · omega
  · obtain rfl : j = j' := by omega
    refine .inr ⟨j, by omega, rfl, h1, fun m hm hmo => ?_⟩
    by_cases e : m = i
    · subst e
      rcases List.le_iff_lt_or_eq.1 (List.not_lt.1 hl) with h3 | h3
      · exact .inr h3
      · exact absurd (bs_inj h3) ((hf.2 m hin).2.2 j hj)
    · exact h2 m (by omega) hmo
theorem best_place {ws : List ByteArray} {os : List Nat} {i : Nat} {k : Int} (h : BestTo ws os i k) : k = -1 ∨ ∃ j, j < i ∧ k = (j : Nat) := by
  rcases h with ⟨rfl, _⟩ | ⟨j, hj, rfl, _⟩
  · exact .inl rfl
  · exact .inr ⟨j, hj, rfl⟩
theorem sub_len {l m : List Nat} (hn : l.Nodup) (hs : ∀ x ∈ l, x ∈ m) : l.length ≤ m.length := by
  induction l generalizing m with
  | nil => simp
  | cons a l ih =>
    have ⟨h1, h2⟩ := List.nodup_cons.1 hn
    have ha := hs a (by simp)
    have := ih (m := m.erase a) h2 fun x hx => (List.mem_erase_of_ne (show x ≠ a from fun e => h1 (by rw [← e]; exact hx))).2 (hs x (by simp [hx]))
    have := List.length_erase_of_mem ha
    have : 0 < m.length := List.length_pos_of_mem ha
    simp; omega
theorem best_end {ws : List ByteArray} {os : List Nat} {n : Nat} {k : Int} (h : BestTo ws os n k) (hl : os.length < n) : ∃ j, j < n ∧ k = (j : Nat) ∧ j ∉ os ∧ ∀ m, m < n → m ∉ os → m = j ∨ bs (wat ws j) < bs (wat ws m) := by
  rcases h with ⟨_, h⟩ | h
  · have := sub_len (l := List.range n) (m := os) List.nodup_range fun x hx => h x (List.mem_range.1 hx)
    rw [List.length_range] at this
    omega
  · exact h
theorem sel_start (ws : List ByteArray) : Sel ws [] := ⟨fun i hi => (by cases hi), List.Pairwise.nil, fun _ _ _ j hj => (by cases hj)⟩
theorem sel_step {ws : List ByteArray} {os : List Nat} {j : Nat} (h : Sel ws os) (hj : j < ws.length) (hjo : j ∉ os) (hm : ∀ m, m < ws.length → m ∉ os → m = j ∨ bs (wat ws j) < bs (wat ws m)) : Sel ws (os ++ [j]) := by
  refine ⟨fun i hi => ?_, ?_, fun i hi hio k hk => ?_⟩
  · rcases List.mem_append.1 hi with h' | h'
    · exact h.1 i h'
    · obtain rfl : i = j := by simpa using h'
      exact hj
  · rw [List.pairwise_append]
    refine ⟨h.2.1, by simp, fun a ha b hb => ?_⟩
    obtain rfl : b = j := by simpa using hb
    exact h.2.2 b hj hjo a ha
  · have h1 : i ∉ os := fun e => hio (List.mem_append.2 (.inl e))
    have h2 : i ≠ j := fun e => hio (List.mem_append.2 (.inr (by simp [e])))
    rcases List.mem_append.1 hk with h' | h'
    · exact h.2.2 i hi h1 k h'
    · obtain rfl : k = j := by simpa using h'
      rcases hm i hi h1 with e | h3
      · exact absurd e h2
      · exact h3
theorem sel_end {ws : List ByteArray} (hf : Fine ws) {os : List Nat} (h : Sel ws os) (hl : os.length = ws.length) : (os.map fun i : Nat => (i : Int)) = orderL ws := by
  have h1 : InOrder (wl ws) os := by
    refine ⟨by rw [hl, wl_len], fun i hi => by rw [wl_len]; exact h.1 i hi, ?_⟩
    refine h.2.1.imp_of_mem ?_
    intro a b ha hb hab
    rw [wl_getD (h.1 a ha), wl_getD (h.1 b hb)]; exact hab
  have h2 := od_inorder 8 (fine_wl hf).1 fun x hx => ((fine_wl hf).2 x hx).1
  rw [orderL, inorder_one h1 h2]

/-! ### The row of bools -/
def RowU (w : World) (b n : Nat) (U : Nat → Bool) : Prop := w.heap[b]? = some (.cells ((List.range n).map fun j => Value.bool (U j)).toArray 4 (0, 0))
theorem RowU.cell {w : World} {b n : Nat} {U : Nat → Bool} (h : RowU w b n U) {j : Nat} (hj : j < n) : w.cell? ⟨b, j, none⟩ = some (.bool (U j)) := by
  unfold RowU at h
  simp [World.cell?, h, hj]
theorem RowU.frozen {w : World} {b n : Nat} {U : Nat → Bool} (h : RowU w b n U) (j : Nat) : w.frozen? ⟨b, j, none⟩ = false := by
  unfold RowU at h
  simp [World.frozen?, h]
theorem RowU.congr {w : World} {b n : Nat} {U V : Nat → Bool} (h : RowU w b n U) (e : ∀ j, j < n → U j = V j) : RowU w b n V := by
  unfold RowU at h ⊢
  rw [h, List.map_congr_left fun j hj => by rw [e j (List.mem_range.1 hj)]]
theorem RowU.set {w : World} {b n : Nat} {U : Nat → Bool} (h : RowU w b n U) (k : Nat) : RowU (w.setCell ⟨b, k, none⟩ (.bool true)) b n (fun j => if j = k then true else U j) := by
  unfold RowU at h ⊢
  obtain ⟨hlt, hk⟩ := Array.getElem?_eq_some_iff.1 h
  show (w.heap.modify b _)[b]? = _
  rw [Array.getElem?_eq_getElem (by rw [Array.size_modify]; exact hlt), Array.getElem_modify_self, hk]
  simp only [Option.some.injEq, Obj.cells.injEq, and_true]
  apply Array.toList_inj.1
  show (if false = true then _ else _ : Array Value).toList = _
  rw [if_neg (by simp), Array.toList_setIfInBounds]
  apply List.ext_getElem?
  intro j
  by_cases hj : j < n
  · by_cases e : j = k
    · subst e; simp [hj]
    · simp [hj, e, Ne.symm e]
  · simp [hj]
theorem RowU.made (w : World) (n : Nat) : RowU (w.alloc (.cells (madeCells #[Value.bool false] n) 4)) w.heap.size n (fun _ => false) := by
  unfold RowU
  rw [heap_alloc_new]
  have : madeCells #[Value.bool false] n = ((List.range n).map fun _ => Value.bool false).toArray := by
    apply Array.toList_inj.1
    rw [toList_madeCells_one]
    apply List.ext_getElem?
    intro j
    by_cases hj : j < n <;> simp [hj]
  rw [this]
theorem OwnI.at_block {w w' : World} {base : Nat} {e : TypeId} {v : Value} {xs : List Int} (h : OwnI w base e v xs) (hk : ∀ g, v.ownBlock = some g → w'.heap[g]? = w.heap[g]?) : OwnI w' base e v xs := by
  refine ⟨h.1, ?_⟩
  rcases h.2 with h' | ⟨g, cap, cur, rfl, h2, h3, h4⟩
  · exact .inl h'
  · exact .inr ⟨g, cap, cur, rfl, h2, (hk g rfl).trans h3, h4⟩
/-- The bools lie in no row of numbers. -/
theorem RowU.apart {w : World} {b n base : Nat} {U : Nat → Bool} {v : Value} {xs : List Int} (h : RowU w b n U) (ho : OwnI w base 3 v xs) {g : Nat} (e : v.ownBlock = some g) : g ≠ b := by
  rcases ho.2 with ⟨rfl, _⟩ | ⟨g', cap, cur, rfl, _, h3, _⟩
  · simp [Value.ownBlock] at e
  · obtain rfl : g' = g := by simpa [Value.ownBlock] using e
    rintro rfl
    unfold RowU at h
    rw [h] at h3
    cases h3
theorem bool_info : (Tryd.prog.info? 4).map (fun i => (i.zero, i.size, i.bytes)) = some (some (.bool false), 1, 1) := by kernel_rfl
/-- What has been taken. -/
def usd (os : List Nat) (i : Nat) : Bool := decide (i ∈ os)
theorem usd_snoc (os : List Nat) (j i : Nat) : (if i = j then true else usd os i) = usd (os ++ [j]) i := by
  unfold usd
  by_cases e : i = j
  · simp [e]
  · simp [e]
set_option maxRecDepth 100000 in
set_option maxHeartbeats 2000000 in
theorem rsorted_any (A : Option Addr) (n c : Nat) (ws : List ByteArray) (w : World) (hf : Fine ws) (h : IsStrs w w.heap.size A n ws) :
    Calls Tryd.prog 8 #[.slice A n c] w fun e w' => ∃ v, e = .returned v ∧ OwnI w' w.heap.size 3 v (orderL ws) ∧ Below w.heap.size w w' := by
  have hl : ws.length = n := h.1
  have hn : n ≤ 6 := by have := hf.1; omega
  obtain ⟨i0, hi0, hz0, hz1, hz2⟩ := info_parts int_info
  have hmk0 := run_make_row' (P := Tryd.prog) 43 4 (.bool false) 1 Tryd.underlying43 bool_info rfl .i64 .i64 n (by omega) (by omega)
  have H := hid h
  have HF := hid hf
  have HL := hid hl
  have HU := hid (RowU.made w n)
  have hB0 : Below w.heap.size w (w.alloc (.cells (madeCells #[Value.bool false] n) 4)) := (Below.refl _ _).alloc (Nat.le_refl _) _
  clear h hf hl
  obtain ⟨w0, hw0⟩ : ∃ z, z = w.alloc (.cells (madeCells #[Value.bool false] n) 4) := ⟨_, rfl⟩
  rw [← hw0] at HU hB0
  have hmk : Sem.run Tryd.prog (Instr.makeSlice 43 (.int .i64 (n : Int)) (.int .i64 (n : Int))) w = .ok (.slice (some ⟨w.heap.size, 0, none⟩) n n) w0 := by rw [hw0]; exact hmk0 w
  have hs0 : w.heap.size < w0.heap.size := by rw [hw0]; simp
  clear hw0 hmk0
  go_enter Tryd.func8, Tryd.ntmps8
  go_wp2_with fail
  go_loopw [3, 5] (fun v x wr => ∃ (m : Nat) (os : List Nat) (vv : Value), m ≤ n ∧ vv = v ∧ x = .int .i64 m ∧ Hid (Sel ws os ∧ os.length = m ∧ RowU wr w.heap.size n (usd os) ∧ OwnI wr w.heap.size 3 vv (os.map fun i : Nat => (i : Int))) ∧ Below w.heap.size w wr ∧ w.heap.size < wr.heap.size) (fun _ x _ => n - (intOf x).toNat)
  case atStart => exact ⟨0, [], _, by omega, rfl, rfl, hid ⟨sel_start ws, rfl, HU.out.congr (fun j _ => rfl), OwnI.nil _ _ _⟩, hB0, hs0⟩
  case round =>
    obtain ⟨m, os, v, hm, rfl, rfl, HR, hb, hsz⟩ := hrel
    by_cases hlt : m < n
    · obtain ⟨g, off, rfl, hg, hcw⟩ := H.out.2 (by omega)
      have HCW := hid (show ∀ j, j < n → wr.cell? ⟨g, off + j, none⟩ = some (.string (wat ws j)) from fun j hj => (hb.cell hg).trans (hcw j hj))
      clear hcw
      obtain ⟨wz, hwz⟩ : ∃ z, z = wr := ⟨_, rfl⟩
      subst hwz
      go_wp2_with fail
      go_loopw [6, 7] (fun b x wr => ∃ (i q : Nat) (k : Int), i ≤ n ∧ b = .int .i64 k ∧ x = .int .i64 i ∧ Hid (BestTo ws os i k) ∧ Hid (wr = wz.drewN q)) (fun _ x _ => n - (intOf x).toNat)
      case atStart => exact ⟨0, 0, -1, by omega, rfl, rfl, hid (.inl ⟨rfl, fun m hm => by omega⟩), hid rfl⟩
      case round =>
        obtain ⟨i, q, k, hi, rfl, rfl, HK, HQ⟩ := hrel
        by_cases hli : i < n
        · have hiw : i < ws.length := by have := HL.out; omega
          have hcu : wr.cell? ⟨w.heap.size, i, none⟩ = some (.bool (usd os i)) := by rw [HQ.out]; exact HR.out.2.2.1.cell hli
          have hwi : wr.cell? ⟨g, off + i, none⟩ = some (.string (wat ws i)) := by rw [HQ.out]; exact HCW.out i hli
          have hsi := (HF.out.2 i hiw).1
          by_cases hio : i ∈ os
          · have HK2 := hid (best_used HK.out hio)
            rw [show usd os i = true by simp [usd, hio]] at hcu
            clear HK hio
            generalize wat ws i = s at hwi hsi
            go_wp2_with fail
            go_quiet (fail)
            go_wp2_with fail
            go_roundw
            case rel => exact ⟨i + 1, _, k, by omega, rfl, by go_num, HK2, hid (by rw [HQ.out]; exact World.drewN_drewN _ _ _)⟩
            case measure => simp [intOf]; omega
          · rw [show usd os i = false by simp [usd, hio]] at hcu
            rcases best_place HK.out with rfl | ⟨j, hj, rfl⟩
            · have HK2 := hid (best_first HK.out hio)
              clear HK hio
              generalize wat ws i = s at hwi hsi
              go_wp2_with fail
              go_quiet (fail)
              go_wp2_with fail
              go_roundw
              case rel => exact ⟨i + 1, _, (i : Nat), by omega, rfl, by go_num, HK2, hid (by rw [HQ.out]; exact World.drewN_drewN _ _ _)⟩
              case measure => simp [intOf]; omega
            · have hjn : j < n := by omega
              have hwj : wr.cell? ⟨g, off + j, none⟩ = some (.string (wat ws j)) := by rw [HQ.out]; exact HCW.out j hjn
              have hsj := (HF.out.2 j (by have := HL.out; omega)).1
              have hnl : ¬ ((j : Int) < 0) := by omega
              have HB := fun W => hid (before_any (wat ws i) (wat ws j) W (by omega) (by omega))
              by_cases hbf : bs (wat ws i) < bs (wat ws j)
              · have HK2 := hid (best_less HK.out hio hbf)
                rw [befB_yes hbf] at HB
                clear HK hio hbf
                generalize wat ws i = s at hwi hsi HB
                generalize wat ws j = t at hwj hsj HB
                go_wp2_with fail
                go_quiet ((go_at_call 17; exact Calls.quiet_of (HB _).out))
                go_wp2_with fail
                go_roundw
                case rel => exact ⟨i + 1, _, (i : Nat), by omega, rfl, by go_num, HK2, hid (by rw [HQ.out]; exact World.drewN_drewN _ _ _)⟩
                case measure => simp [intOf]; omega
              · have HK2 := hid (best_keep HF.out hiw HK.out hbf)
                rw [befB_no hbf] at HB
                clear HK hio hbf
                generalize wat ws i = s at hwi hsi HB
                generalize wat ws j = t at hwj hsj HB
                go_wp2_with fail
                go_quiet ((go_at_call 17; exact Calls.quiet_of (HB _).out))
                go_wp2_with fail
                go_roundw
                case rel => exact ⟨i + 1, _, (j : Nat), by omega, rfl, by go_num, HK2, hid (by rw [HQ.out]; exact World.drewN_drewN _ _ _)⟩
                case measure => simp [intOf]; omega
        · obtain ⟨j, hj, rfl, hjo, hjm⟩ := best_end (n := n) (by rw [show n = i by omega]; exact HK.out) (by have := HR.out.2.1; omega)
          have HSL := hid (sel_step HR.out.1 (by have := HL.out; omega) hjo (by rw [HL.out]; exact hjm))
          have hU : RowU wr w.heap.size n (usd os) := by rw [HQ.out]; exact HR.out.2.2.1
          have hO : OwnI wr w.heap.size 3 v (os.map fun i : Nat => (i : Int)) := by rw [HQ.out]; exact HR.out.2.2.2
          have hcu := hU.cell hj
          have hfu := hU.frozen j
          rw [show usd os j = false by simp [usd, hjo]] at hcu
          have hU2 := (hU.set j).congr (fun i _ => usd_snoc os j i)
          have hO2 := hO.at_block (w' := wr.setCell ⟨w.heap.size, j, none⟩ (.bool true)) (fun g' e => Below.heap_setCell _ _ _ _ (hU.apart hO e))
          have hb2 : Below w.heap.size w wr := by rw [HQ.out]; exact below_drewN hb _
          have hb3 := hb2.setCell (p := ⟨w.heap.size, j, none⟩) (Nat.le_refl _) (.bool true)
          have hsz2 : w.heap.size < wr.heap.size := by rw [HQ.out]; exact hsz
          have HLN := hid (show (os ++ [j]).length = m + 1 by rw [List.length_append, HR.out.2.1]; rfl)
          have hol : (os.map fun i : Nat => (i : Int)).length ≤ 1000 := by rw [List.length_map, HR.out.2.1]; omega
          have HU2 := hid hU2
          have HO2 := hid hO2
          have HB3 := hid hb3
          clear hU hO hU2 hO2 hjo hjm HK hb3
          have hrow := HO2.out
          have HAP := hid (show ∀ g', v.ownBlock = some g' → g' ≠ w.heap.size from fun g' e => HU2.out.apart HO2.out e)
          have HLT := hid (show ∀ g', v.ownBlock = some g' → w.heap.size ≤ g' from fun g' e => (World.ownsRow.lt HO2.out g' e).1)
          unfold OwnI at hrow
          generalize hnn : (os.map fun i : Nat => (i : Int)).length = nn at hrow hol
          generalize hys : (os.map fun i : Nat => (i : Int)).map (Value.int .i64) = ys at hrow
          have HE := hid (And.intro hnn hys)
          clear hnn hys
          go_wp2_with (at_builtin; refine wpList_append_own_at _ rfl _ _ 28 rfl w.heap.size 3 i0 (.int .i64 0) 1 8 Tryd.underlying28 hi0 hz0 hz1 hz2 rfl (by decide) _ _ _ rfl (hrow.alloc _) ⟨(wr.setCell ⟨w.heap.size, j, none⟩ (.bool true)).heap.size, 0, none⟩ 1 1 [.int .i64 (j : Int)] (by first | rfl | simp [Act.eval]) rfl (cell_one_new _ _ _) (by simp [Value.oneCell']) (by unfold maxLen; omega) (by omega) (by simp; omega) ?_; intro v4 w4 hown4 hgrow4 hnil4 hloc4; have HO4 := hid hown4; have HG4 := hid hgrow4; clear hown4 hgrow4 hnil4 hloc4)
          go_wp2_with fail
          have hszs : (wr.setCell ⟨w.heap.size, j, none⟩ (.bool true)).heap.size = wr.heap.size := by simp
          have hs4 := HG4.out.size
          have hsa : ((wr.setCell ⟨w.heap.size, j, none⟩ (.bool true)).alloc (.cells #[.int .i64 (j : Int)] 3)).heap.size = wr.heap.size + 1 := by simp
          go_roundw
          case rel =>
            refine ⟨m + 1, os ++ [j], v4, by omega, rfl, by go_num, hid ⟨HSL.out, HLN.out, ?_, ?_⟩, ?_, by omega⟩
            · exact (HG4.out.block w.heap.size (by omega) (fun e => HAP.out _ e.symm rfl)).trans ((Below.heap_alloc _ _ _ (by omega)).trans HU2.out)
            · obtain ⟨hnn, hys⟩ := HE.out
              have ho := HO4.out
              unfold OwnI
              rw [List.map_append, List.length_append, List.map_append, hnn, hys]
              exact ho
            · exact (HB3.out.alloc (by omega) _).grown HG4.out (by omega) (fun b hb => HLT.out b hb)
          case measure => simp [intOf]; omega
    · have HE := hid (sel_end HF.out HR.out.1 (by have := HL.out; have := HR.out.2.1; omega))
      have HO := hid HR.out.2.2.2
      go_wp2_with fail
      go_ret
      exact ⟨v, rfl, by rw [← HE.out]; exact HO.out, hb⟩
end Go.Proofs.YtkcocdlfhgincaaDoor
