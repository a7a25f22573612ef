/-
  The walk of FindOne: it returns true for every text and byte, and leaves the old memory alone. No condition but the row's own sizes.
-/
import Derived.Test.YtdlekgockdahfaaFfact
import Derived.Laws.IdiomStrings
namespace Go.Proofs.Ytdlekgockdahfaa
open Go.RowKit

/-- The text of one sign. -/
def oneT (c : UInt8) : ByteArray := ⟨#[c]⟩
theorem oneT_size (c : UInt8) : (oneT c).size = 1 := rfl
theorem oneT_sg (c : UInt8) : sg (oneT c) 0 = c := rfl
theorem run_one {P : Program} (w : World) (c : UInt8) (src dst e : TypeId) (hs : P.underlying src = some (.slice e)) (he : P.underlying e = some (.int .u8)) (hd : P.underlying dst = some .string) :
    (convert src dst (.slice (some ⟨w.heap.size, 0, none⟩) 1 1)).run P (w.alloc (.cells #[.int .u8 (c.toNat : Int)] e)) = .ok (.string (oneT c)) (w.alloc (.cells #[.int .u8 (c.toNat : Int)] e)) :=
  run_convert_bytes_back _ src dst e ⟨w.heap.size, 0, none⟩ 1 [c] hs he hd (fun j hj => by
    obtain rfl : j = 0 := by simpa using hj
    rw [show Addr.add ⟨w.heap.size, 0, none⟩ 0 = ⟨w.heap.size, 0, none⟩ from rfl, cell_of_row _ _ 0 _ e (0, 0) (heap_alloc_new w _)]
    rfl)

/-- How many of the first i signs are c. -/
def oneN (t : ByteArray) (c : UInt8) (i : Nat) : Nat := (occTo (sg t) (sg (oneT c)) t.size 1 i).length
theorem oneN_zero (t : ByteArray) (c : UInt8) : oneN t c 0 = 0 := rfl
theorem oneN_le (t : ByteArray) (c : UInt8) (i : Nat) : oneN t c i ≤ i := occTo_len _ _ _ _ _
theorem oneN_end (t : ByteArray) (c : UInt8) : oneN t c t.size = (occL t (oneT c)).length := rfl
theorem one_oc {t : ByteArray} {c : UInt8} {i : Nat} (hi : i < t.size) : Oc (sg t) (sg (oneT c)) t.size 1 i ↔ sg t i = c := by
  constructor
  · intro h
    have := h.2 0 (by omega)
    rw [oneT_sg] at this; exact this.symm
  · intro h
    refine ⟨by omega, fun j hj => ?_⟩
    obtain rfl : j = 0 := by omega
    rw [oneT_sg]; exact h.symm
theorem one_yes {t : ByteArray} {c : UInt8} {i : Nat} (hi : i < t.size) (h : sg t i = c) : oneN t c i < (occL t (oneT c)).length ∧ (occL t (oneT c)).getD (oneN t c i) 0 = (i : Int) ∧ oneN t c (i + 1) = oneN t c i + 1 := by
  have ho := (one_oc (c := c) hi).2 h
  have h1 := occTo_split hi ho
  refine ⟨h1.1, h1.2, ?_⟩
  unfold oneN
  rw [occTo_yes ho]; simp
theorem one_no {t : ByteArray} {c : UInt8} {i : Nat} (hi : i < t.size) (h : sg t i ≠ c) : oneN t c (i + 1) = oneN t c i := by
  unfold oneN
  rw [occTo_no fun ho => h ((one_oc hi).1 ho)]

theorem one_bad (t : ByteArray) (c : UInt8) (w : World) (h : 24 < t.size) (ht : t.size ≤ maxLen) :
    Calls Try.prog 5 #[.string t, .int .u8 (c.toNat : Int)] w fun e w' => e = .returned (.bool true) ∧ Below w.heap.size w w' := by
  have hb : BadW t (oneT c) 4 := .inl ⟨rfl, .inl h⟩
  have HL := fun w => hid (fall_bad t (oneT c) 4 w hb ht (by rw [oneT_size]; decide))
  have HM := fun w => hid (apart_bad t (oneT c) 4 w hb ht (by rw [oneT_size]; decide))
  have hcv := fun W : World => run_one (P := Try.prog) W c 32 9 5 Try.underlying32 Try.underlying5 Try.underlying9
  generalize oneT c = u at HL HM hcv
  unfold maxLen at ht
  clear hb
  go_enter Try.func5, Try.ntmps5
  go_wp2_with fail
  refine (ffact_any _).mono ?_
  rintro e w1 ⟨rfl, hb1⟩
  have hs1 := hb1.size
  go_wp2_with fail
  refine (HL _).out.mono ?_
  rintro e w2 ⟨rfl, rfl⟩
  have hb1 := hb1.alloc hs1 (.cells #[.int .u8 (c.toNat : Int)] 5)
  have hs1 := hb1.size
  generalize w1.alloc (.cells #[.int .u8 (c.toNat : Int)] 5) = w2 at hb1 hs1 ⊢
  go_wp2_with fail
  refine (HM _).out.mono ?_
  rintro e w3 ⟨rfl, rfl⟩
  have hb1 := hb1.alloc hs1 (.cells #[.int .u8 (c.toNat : Int)] 5)
  go_wp2
  go_ret
  exact ⟨ret_bool (decide_eq_true (by omega)), hb1⟩

/-- A byte's number is a sign's. -/
theorem byte_of {a : Int} (h : (Lit.int .u8 a).wf = true) : ∃ c : UInt8, a = (c.toNat : Int) := by
  have hx : 0 ≤ a ∧ a ≤ 255 := by simpa [Lit.wf, IntKind.min, IntKind.max, IntKind.signed, IntKind.bits] using h
  refine ⟨UInt8.ofNat a.toNat, ?_⟩
  rw [UInt8.toNat_ofNat']
  omega

set_option maxHeartbeats 800000 in
theorem one_any (t : ByteArray) (c : UInt8) (w : World) (h : t.size ≤ 24) :
    Calls Try.prog 5 #[.string t, .int .u8 (c.toNat : Int)] w fun e w' => e = .returned (.bool true) ∧ Below w.heap.size w w' := by
  have HL := fun w => hid (fall_any t (oneT c) w h (by rw [oneT_size]; omega) (by rw [oneT_size]; omega))
  have HM := fun w => hid (apart_any t (oneT c) w h (by rw [oneT_size]; omega) (by rw [oneT_size]; omega))
  have hcv := fun W : World => run_one (P := Try.prog) W c 32 9 5 Try.underlying32 Try.underlying5 Try.underlying9
  have e1 : (apL ((oneT c).size : Nat) (occL t (oneT c))).1 = (occL t (oneT c)).length := ap_one t (oneT c)
  rw [e1] at HM
  have hlen := occL_len t (oneT c)
  have HE := hid (oneN_end t c)
  have HY := fun i (hi : i < t.size) (hh : sg t i = c) => hid (one_yes hi hh)
  generalize occL t (oneT c) = xs at HL HM HE HY hlen
  generalize oneT c = u at HL HM hcv
  clear e1
  go_enter Try.func5, Try.ntmps5
  go_wp2_with fail
  refine (ffact_any _).mono ?_
  rintro e w1 ⟨rfl, hb1⟩
  have hs1 := hb1.size
  go_wp2_with fail
  refine (HL _).out.mono ?_
  have hb1 := hb1.alloc hs1 (.cells #[.int .u8 (c.toNat : Int)] 5)
  have hs1 := hb1.size
  generalize w1.alloc (.cells #[.int .u8 (c.toNat : Int)] 5) = w2 at hb1 hs1 ⊢
  rintro e w3 ⟨v, rfl, ho3, hb3⟩
  obtain ⟨A, ca, rfl, _, hI⟩ := IsInts.of_own ho3
  have hb3 := hb1.trans (hb3.mono hs1)
  have hs3 := hb3.size
  clear ho3 hb1 hs1 HL
  go_wp2_with fail
  refine (HM _).out.mono ?_
  have hb3 := hb3.alloc hs3 (.cells #[.int .u8 (c.toNat : Int)] 5)
  have hI := hI.alloc (Nat.le_refl _) (.cells #[.int .u8 (c.toNat : Int)] 5)
  have hs4 : w3.heap.size ≤ (w3.alloc (.cells #[.int .u8 (c.toNat : Int)] 5)).heap.size := ((Below.refl w3.heap.size w3).alloc (Nat.le_refl _) _).size
  generalize w3.alloc (.cells #[.int .u8 (c.toNat : Int)] 5) = w4 at hb3 hI hs4 ⊢
  rintro e w5 ⟨rfl, hb5⟩
  have HI := hid (hI.below (hb5.mono hs4))
  have hb5 := hb3.trans (hb5.mono (Nat.le_trans hs3 hs4))
  clear hI hb3 hs3 hs4 HM hcv
  go_wp2
  go_loopw [10, 11] (fun m x wr => ∃ i q : Nat, i ≤ t.size ∧ m = .int .i64 (oneN t c i : Nat) ∧ x = .int .i64 i ∧ wr = w5.drewN q) (fun _ x _ => t.size - (intOf x).toNat)
  case atStart => exact ⟨0, 0, by omega, by rw [oneN_zero]; rfl, rfl, rfl⟩
  case round =>
    obtain ⟨i, q, hi, rfl, rfl, rfl⟩ := hrel
    have hle := oneN_le t c i
    by_cases hlt : i < t.size
    · by_cases he : sg t i = c
      · obtain ⟨hm, hg, hn⟩ := (HY i hlt he).out
        obtain ⟨g, off, rfl, _, hca⟩ := HI.out.2 (by omega)
        have hx := hca _ hm
        rw [hg] at hx
        obtain ⟨hq1, hq2⟩ := byteC_eq t i c hlt he
        have HN := hid hn
        have hmd : decide (xs.length ≤ oneN t c i) = false := by simp; omega
        generalize oneN t c i = m at hle hm hx HN hmd
        clear hca he hg hn
        go_wp2
        go_roundw
        case rel => exact ⟨i + 1, _, by omega, by rw [HN.out]; go_num, by go_num, by first | rfl | (simp only [World.drewN_drewN]; rfl)⟩
        case measure => simp [intOf]; omega
      · obtain ⟨hq1, hq2⟩ := byteC_ne t i c hlt he
        have HN := hid (one_no hlt he)
        generalize oneN t c i = m at hle HN
        clear he
        go_wp2
        go_roundw
        case rel => exact ⟨i + 1, _, by omega, by rw [HN.out], by go_num, by first | rfl | (simp only [World.drewN_drewN]; rfl)⟩
        case measure => simp [intOf]; omega
    · have he : i = t.size := by omega
      rw [he, HE.out]
      go_wp2
      go_ret
      exact ⟨rfl, below_drewN hb5 _⟩
end Go.Proofs.Ytdlekgockdahfaa
