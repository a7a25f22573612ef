/-
  Contract of letterbeckref1.Size: how many different beginnings the words have. Conditions: words as they should be.
-/
import Derived.Test.YtkcocdlfhgincaaDoorBefore
import Derived.Test.YtkcocdlfhgincaaDoorTsize
namespace Go.Proofs.YtkcocdlfhgincaaDoor
open Go.RowKit

theorem bs_cut (s : ByteArray) (k : Nat) : bs (s.extract 0 k) = (bs s).take k := by
  unfold bs
  rw [ByteArray.data_extract, Array.toList_extract]
  simp [List.extract]
/-- The first i words, with their places. -/
def fst (ws : List ByteArray) (i : Nat) : List Wd := wds ((wl ws).take i)
theorem fst_mem {ws : List ByteArray} {i : Nat} (hi : i ≤ ws.length) {x : List UInt8} {m : Nat} : (x, m) ∈ fst ws i ↔ m < i ∧ x = bs (wat ws m) := by
  unfold fst
  rw [wds_mem, List.getElem?_take]
  by_cases h : m < i
  · rw [if_pos h, wl_get (by omega)]
    simp only [Option.some.injEq]
    exact ⟨fun e => ⟨h, e.symm⟩, fun e => e.2.symm⟩
  · rw [if_neg h]
    exact ⟨fun e => (by cases e), fun e => absurd e.1 h⟩
theorem fst_subs {ws : List ByteArray} {i : Nat} (hi : i ≤ ws.length) (p : List UInt8) : (subs p (fst ws i)).isEmpty = true ↔ ∀ m, m < i → ¬ p <+: bs (wat ws m) := by
  rw [List.isEmpty_iff, subs_empty]
  constructor
  · intro h m hm
    exact h (bs (wat ws m), m) ((fst_mem hi).2 ⟨hm, rfl⟩)
  · rintro h ⟨x, m⟩ hq
    obtain ⟨hm, rfl⟩ := (fst_mem hi).1 hq
    exact h m hm
theorem fst_succ {ws : List ByteArray} {i : Nat} (hi : i < ws.length) : fst ws (i + 1) = fst ws i ++ [(bs (wat ws i), i)] := by
  unfold fst
  rw [wl_take_succ hi, wds_snoc, List.length_take, wl_len, Nat.min_eq_left (by omega)]
theorem fst_end (ws : List ByteArray) : fst ws ws.length = wds (wl ws) := by
  unfold fst
  rw [List.take_of_length_le (by rw [wl_len]; exact Nat.le_refl _)]
/-- How many of the first m beginnings are new. -/
def cnt (L : List Wd) (x : List UInt8) (m : Nat) : Nat := ((List.range m).filter fun k => (subs (x.take (k + 1)) L).isEmpty).length
theorem cnt_yes {L : List Wd} {x : List UInt8} {m : Nat} (h : (subs (x.take (m + 1)) L).isEmpty = true) : cnt L x (m + 1) = cnt L x m + 1 := by
  simp [cnt, List.range_succ, h]
theorem cnt_no {L : List Wd} {x : List UInt8} {m : Nat} (h : (subs (x.take (m + 1)) L).isEmpty = false) : cnt L x (m + 1) = cnt L x m := by
  simp [cnt, List.range_succ, h]
theorem cnt_le (L : List Wd) (x : List UInt8) (m : Nat) : cnt L x m ≤ m := by
  have := List.length_filter_le (fun k => (subs (x.take (k + 1)) L).isEmpty) (List.range m)
  simpa [cnt] using this
theorem fst_step {ws : List ByteArray} (hf : Fine ws) {i : Nat} (hi : i < ws.length) : sz 8 (fst ws i) + cnt (fst ws i) (bs (wat ws i)) (wat ws i).size = sz 8 (fst ws (i + 1)) := by
  rw [fst_succ hi, sz_snoc 8 _ _ _ (by rw [bs_len]; exact (hf.2 i hi).1), fr_count, bs_len]
  rfl
theorem fst_le {ws : List ByteArray} (hf : Fine ws) {i : Nat} (hi : i ≤ ws.length) : sz 8 (fst ws i) ≤ 49 := by
  have := sz_le 8 8 (fst ws i) (by
    rintro ⟨x, m⟩ hq
    obtain ⟨hm, rfl⟩ := (fst_mem hi).1 hq
    have := (hf.2 m (by omega)).1
    simp only [bs_len]; omega)
  have hl : (fst ws i).length ≤ 6 := by
    have := hf.1
    unfold fst wds
    rw [List.length_zipIdx, List.length_take, wl_len]; omega
  omega
/-- Is p no beginning of the first j words? -/
def Frs (ws : List ByteArray) (p : List UInt8) (j : Nat) (b : Bool) : Prop := b = true ↔ ∀ m, m < j → ¬ p <+: bs (wat ws m)
theorem frs_end {ws : List ByteArray} {i : Nat} (hi : i ≤ ws.length) {p : List UInt8} {b : Bool} (h : Frs ws p i b) : (subs p (fst ws i)).isEmpty = b := by
  rw [Bool.eq_iff_iff, fst_subs hi]; exact h.symm
theorem frs_no {ws : List ByteArray} {p : List UInt8} {j : Nat} (h : Frs ws p j false) : Frs ws p (j + 1) false := by
  refine ⟨fun e => (by cases e), fun hm => ?_⟩
  exact h.2 fun m hm' => hm m (by omega)
theorem frs_yes {ws : List ByteArray} {p : List UInt8} {j : Nat} (h : Frs ws p j true) (hp : ¬ p <+: bs (wat ws j)) : Frs ws p (j + 1) true := by
  refine ⟨fun _ m hm => ?_, fun _ => rfl⟩
  by_cases e : m = j
  · subst e; exact hp
  · exact h.1 rfl m (by omega)
theorem frs_hit {ws : List ByteArray} {p : List UInt8} {j : Nat} (hp : p <+: bs (wat ws j)) : Frs ws p (j + 1) false :=
  ⟨fun e => (by cases e), fun hm => absurd hp (hm j (by omega))⟩

set_option maxRecDepth 100000 in
set_option maxHeartbeats 2000000 in
theorem rsize_any (A : Option Addr) (n c : Nat) (ws : List ByteArray) (w : World) (hf : Fine ws) (h : IsStrs w w.heap.size A n ws) :
    Calls Tryd.prog 7 #[.slice A n c] w fun e w' => e = .returned (.int .i64 (sizeN ws : Int)) ∧ ∃ q, w' = w.drewN q := by
  have hl : ws.length = n := h.1
  have hn : n ≤ 6 := by have := hf.1; omega
  have H := hid h
  have HF := hid hf
  have HL := hid hl
  clear h hf hl
  go_enter Tryd.func7, Tryd.ntmps7
  go_wp2_with fail
  go_loopw [3, 4] (fun v x wr => ∃ i q a : Nat, i ≤ n ∧ v = .int .i64 a ∧ x = .int .i64 i ∧ Hid (a = sz 8 (fst ws i)) ∧ Hid (wr = w.drewN q)) (fun _ x _ => n - (intOf x).toNat)
  case atStart => exact ⟨0, 0, 1, by omega, rfl, rfl, hid (by simp [fst, wds, sz_none]), hid rfl⟩
  case round =>
    obtain ⟨i, Q, a, hi, rfl, rfl, HA, HQ⟩ := hrel
    by_cases hlt : i < n
    · obtain ⟨g, off, rfl, hg, hcw⟩ := H.out.2 (by omega)
      have hiw : i < ws.length := by have := HL.out; omega
      have hwi : w.cell? ⟨g, off + i, none⟩ = some (.string (wat ws i)) := hcw i hlt
      have hsi := (HF.out.2 i hiw).1
      have HST := hid (fst_step HF.out hiw)
      have hale := fst_le HF.out (i := i) (by omega)
      rw [← HA.out] at hale HST
      have HCW := hid hcw
      have HIW := hid (show i ≤ ws.length by omega)
      obtain ⟨s, hse⟩ : ∃ z, z = wat ws i := ⟨_, rfl⟩
      rw [← hse] at hwi hsi HST
      obtain ⟨W0, hW0⟩ : ∃ z, z = wr := ⟨_, rfl⟩
      have hwq : wr.cell? ⟨g, off + i, none⟩ = some (.string s) := by rw [HQ.out]; exact hwi
      clear hcw hse hW0 HA
      obtain ⟨wz, hwz⟩ : ∃ z, z = wr := ⟨_, rfl⟩
      subst hwz
      go_wp2_with fail
      go_loopw [3, 5] (fun v x wr => ∃ k q b : Nat, 1 ≤ k ∧ k ≤ s.size + 1 ∧ v = .int .i64 b ∧ x = .int .i64 k ∧ Hid (b = a + cnt (fst ws i) (bs s) (k - 1)) ∧ Hid (wr = w.drewN q)) (fun _ x _ => s.size + 1 - (intOf x).toNat)
      case atStart => exact ⟨1, Q, a, by omega, by omega, rfl, by go_num, hid rfl, HQ⟩
      case round =>
        obtain ⟨k, Q2, b, hk1, hk2, rfl, rfl, HB, HQ2⟩ := hrel
        by_cases hlk : k ≤ s.size
        · have hwq : wr.cell? ⟨g, off + i, none⟩ = some (.string s) := by rw [HQ2.out]; exact hwi
          have hbl : b ≤ 60 := by have := cnt_le (fst ws i) (bs s) (k - 1); have := HB.out; omega
          have hxs : (s.extract 0 k).size ≤ 8 := by rw [ByteArray.size_extract]; omega
          obtain ⟨u, hu⟩ : ∃ z, z = s.extract 0 k := ⟨_, rfl⟩
          rw [← hu] at hxs
          have hcut : ∀ W : World, Sem.run Tryd.prog (Instr.slice 9 (.string s) none (some (.int .i64 (k : Int))) none) W = .ok (.string u) W := fun W => by
            rw [hu]
            exact run_slice_string_h W 9 s Tryd.underlying9 .i64 (k : Int) (by omega) (by omega)
          have HU := hid (show bs u = (bs s).take k by rw [hu, bs_cut])
          clear hu
          obtain ⟨wy, hwy⟩ : ∃ z, z = wr := ⟨_, rfl⟩
          subst hwy
          go_wp2_with fail
          go_loopw [6, 7] (fun v x wr => ∃ (j q : Nat) (d : Bool), j ≤ i ∧ v = .bool d ∧ x = .int .i64 j ∧ Hid (Frs ws ((bs s).take k) j d) ∧ Hid (wr = w.drewN q)) (fun _ x _ => i - (intOf x).toNat)
          case atStart => exact ⟨0, Q2, true, by omega, rfl, rfl, hid ⟨fun _ m hm => by omega, fun _ => rfl⟩, HQ2⟩
          case round =>
            obtain ⟨j, q3, d, hj, rfl, rfl, HD, HQ3⟩ := hrel
            by_cases hlj : j < i
            · have hjn : j < n := by omega
              cases d with
              | false =>
                have HD2 := hid (frs_no HD.out)
                clear HD
                go_wp2_with fail
                go_quiet (fail)
                go_wp2_with fail
                go_roundw
                case rel => exact ⟨j + 1, _, false, by omega, rfl, by go_num, HD2, hid (by rw [HQ3.out]; exact World.drewN_drewN _ _ _)⟩
                case measure => simp [intOf]; omega
              | true =>
                have hwi3 : wr.cell? ⟨g, off + i, none⟩ = some (.string s) := by rw [HQ3.out]; exact hwi
                have hwj3 : wr.cell? ⟨g, off + j, none⟩ = some (.string (wat ws j)) := by rw [HQ3.out]; exact HCW.out j hjn
                have hsj := (HF.out.2 j (by have := HL.out; omega)).1
                have HG := fun W => hid (begins_any (wat ws j) u W (by omega) (by omega))
                by_cases hp : (bs s).take k <+: bs (wat ws j)
                · have HD2 := hid (frs_hit hp)
                  rw [begB_iff.2 (by rw [HU.out]; exact hp)] at HG
                  clear HD hp
                  generalize wat ws j = t at hwj3 hsj HG
                  go_wp2_with fail
                  go_quiet ((go_at_call 16; exact Calls.quiet_of_same (HG _).out))
                  go_wp2_with fail
                  go_roundw
                  case rel => exact ⟨j + 1, _, false, by omega, rfl, by go_num, HD2, hid (by rw [HQ3.out]; exact World.drewN_drewN _ _ _)⟩
                  case measure => simp [intOf]; omega
                · have HD2 := hid (frs_yes HD.out hp)
                  rw [begB_no (by rw [HU.out]; exact hp)] at HG
                  clear HD hp
                  generalize wat ws j = t at hwj3 hsj HG
                  go_wp2_with fail
                  go_quiet ((go_at_call 16; exact Calls.quiet_of_same (HG _).out))
                  go_wp2_with fail
                  go_roundw
                  case rel => exact ⟨j + 1, _, true, by omega, rfl, by go_num, HD2, hid (by rw [HQ3.out]; exact World.drewN_drewN _ _ _)⟩
                  case measure => simp [intOf]; omega
            · obtain rfl : j = i := by omega
              have hfe := frs_end HIW.out HD.out
              cases d with
              | false =>
                have HB2 := hid (show b = a + cnt (fst ws j) (bs s) (k + 1 - 1) by
                  rw [HB.out, show k + 1 - 1 = (k - 1) + 1 by omega, cnt_no (by rw [show k - 1 + 1 = k by omega]; exact hfe)])
                clear HD hfe HB
                go_wp2_with fail
                go_roundw
                case rel => exact ⟨k + 1, _, b, by omega, by omega, rfl, by go_num, HB2, HQ3⟩
                case measure => simp [intOf]; omega
              | true =>
                have HB2 := hid (show b + 1 = a + cnt (fst ws j) (bs s) (k + 1 - 1) by
                  rw [HB.out, show k + 1 - 1 = (k - 1) + 1 by omega, cnt_yes (by rw [show k - 1 + 1 = k by omega]; exact hfe)]; omega)
                clear HD hfe HB
                go_wp2_with fail
                go_roundw
                case rel => exact ⟨k + 1, _, b + 1, by omega, by omega, by go_num, by go_num, HB2, HQ3⟩
                case measure => simp [intOf]; omega
        · have HN := hid (show b = sz 8 (fst ws (i + 1)) by rw [HB.out, show k - 1 = s.size by omega]; exact HST.out)
          have hwq : wr.cell? ⟨g, off + i, none⟩ = some (.string s) := by rw [HQ2.out]; exact hwi
          clear HB
          go_wp2_with fail
          go_roundw
          case rel => exact ⟨i + 1, _, b, by omega, rfl, by go_num, HN, HQ2⟩
          case measure => simp [intOf]; omega
    · have HE := hid (show a = sizeN ws by rw [HA.out, show i = ws.length by have := HL.out; omega, fst_end]; rfl)
      clear HA
      go_wp2_with fail
      go_ret
      exact ⟨ret_int (by rw [HE.out]), Q, HQ.out⟩
end Go.Proofs.YtkcocdlfhgincaaDoor
