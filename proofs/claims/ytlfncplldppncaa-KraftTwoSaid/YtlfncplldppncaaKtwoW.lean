/-
  The walk of KraftTwo: it returns true at every list of words and every two rows of numbers. Conditions: the row's own sizes.
-/
import Derived.Test.YtlfncplldppncaaKfact
import Derived.Test.YtlfncplldppncaaKmir
import Derived.Test.YtlfncplldppncaaInts
namespace Go.Proofs.Ytlfncplldppncaa
open Go.RowKit

theorem nums_in {xs : List Int} {n : Nat} (h : InL 0 ((n : Int) - 1) xs) : nums (xs.map Int.toNat) = xs ∧ (∀ i ∈ xs.map Int.toNat, i < n) := by
  constructor
  · apply List.ext_getElem?
    intro j
    by_cases hj : j < xs.length
    · have := h j hj
      rw [List.getD_eq_getElem?_getD, List.getElem?_eq_getElem hj, Option.getD_some] at this
      simp [nums, hj]
      omega
    · simp [nums, hj]
  · intro i hi
    obtain ⟨x, hx, rfl⟩ := List.mem_map.1 hi
    obtain ⟨j, hj, rfl⟩ := List.getElem_of_mem hx
    have := h j hj
    rw [List.getD_eq_getElem?_getD, List.getElem?_eq_getElem hj, Option.getD_some] at this
    omega
/-- The text of the first i words of a row. -/
def catT (ws : List ByteArray) (a : List Nat) (i : Nat) : ByteArray := txt (catW (wl ws) (a.take i))
theorem catT_zero (ws : List ByteArray) (a : List Nat) : catT ws a 0 = ⟨#[]⟩ := rfl
theorem catT_succ {ws : List ByteArray} {a : List Nat} {i : Nat} (hi : i < a.length) (hw : a.getD i 0 < ws.length) : catT ws a i ++ wat ws (a.getD i 0) = catT ws a (i + 1) := by
  apply bs_inj
  unfold catT
  have e : a.getD i 0 = a[i] := by simp [hi]
  rw [wb_app, bs_txt, bs_txt, List.take_succ_eq_append_getElem hi, catW_app, catW_one, ← e, wl_getD hw]
theorem catT_size {ws : List ByteArray} (hf : Fine ws) (a : List Nat) (i : Nat) : (catT ws a i).size ≤ 8 * i := by
  unfold catT
  rw [txt_size]
  have h1 : ∀ b : List Nat, (catW (wl ws) b).length ≤ 8 * b.length := by
    intro b
    induction b with
    | nil => simp [catW]
    | cons j b ih =>
      rw [catW_cons, List.length_append, List.length_cons]
      have : ((wl ws).getD j []).length ≤ 8 := by
        by_cases hj : j < ws.length
        · rw [wl_getD hj, bs_len]; exact (hf.2 j hj).1
        · have : ¬ j < (wl ws).length := by rw [wl_len]; exact hj
          simp [this]
      omega
  exact Nat.le_trans (h1 _) (by rw [List.length_take]; omega)
theorem catT_all (ws : List ByteArray) (a : List Nat) : catT ws a a.length = txt (catW (wl ws) a) := by unfold catT; rw [List.take_length]
theorem txt_inj {x y : List UInt8} (h : txt x = txt y) : x = y := by
  have := congrArg bs h
  rwa [bs_txt, bs_txt] at this

set_option maxHeartbeats 4000000 in
set_option maxRecDepth 100000 in
theorem kraftTwo_any (A B C : Option Addr) (n c na ca nb cb : Nat) (ws : List ByteArray) (xs ys : List Int) (w : World) (hn : n ≤ maxLen) (hs : ∀ i, i < n → (wat ws i).size ≤ maxLen) (h : IsStrs w w.heap.size A n ws)
    (hna : na ≤ maxLen) (hnb : nb ≤ maxLen) (ha : IsInts w w.heap.size B na xs) (hb : IsInts w w.heap.size C nb ys) :
    Calls Try.prog 4 #[.slice A n c, .slice B na ca, .slice C nb cb] w fun e w' => e = .returned (.bool true) ∧ Below w.heap.size w w' := by
  have HF := fun W => hid (kfact_any W)
  have HL := fun (w1 : World) (h1 : Below w.heap.size w w1) => hid ((h.below h1).mono h1.size)
  have HA := fun (w1 : World) (h1 : Below w.heap.size w w1) => hid ((ha.below h1).keep (w' := w1) h1.size fun _ _ _ => rfl)
  have HB := fun (w1 : World) (h1 : Below w.heap.size w w1) => hid ((hb.below h1).keep (w' := w1) h1.size fun _ _ _ => rfl)
  have hwl := h.1
  have HNa := hid ha.1
  have HNb := hid hb.1
  unfold maxLen at hna hnb
  clear h ha hb
  go_enter Try.func4, Try.ntmps4
  go_wp2_with fail
  refine (HF _).out.mono ?_
  rintro e w1 ⟨rfl, hb1⟩
  clear HF
  rcases words_or ws with hf | ⟨k, hk⟩
  rotate_left
  · have H1 := fun W hW => hid (kapart_bad A n c ws k W hn hs hk hW)
    clear hk hwl hs HA HB
    go_wp2_with fail
    refine (H1 _ (HL w1 hb1).out).out.mono ?_
    rintro e w2 ⟨rfl, hb2⟩
    have hbB := hb1.trans (hb2.mono hb1.size)
    clear H1 hb1 hb2 HL
    go_wp2_with fail
    go_ret
    exact ⟨rfl, hbB⟩
  have h6 : n ≤ 6 := by rw [← hwl]; exact hf.1
  have H1 := fun W hW => hid (kapart_ok A n c ws W hf hW)
  have HN := hid hwl
  have HFi := hid hf
  have HSz : Hid (∀ i, i < n → (wat ws i).size ≤ 8) := hid (fun i hi => (hf.2 i (by omega)).1)
  clear hf hwl hs
  go_wp2_with fail
  refine (H1 _ (HL w1 hb1).out).out.mono ?_
  rintro e w2 ⟨ba, hba, rfl, hb2⟩
  have hbB := hb1.trans (hb2.mono hb1.size)
  have HBa := hid hba
  have HAa := hid (rallin_big B na ca xs 0 ((n : Int) - 1) w2 hna (HA w2 hbB).out)
  have HAb := hid (rallin_big C nb cb ys 0 ((n : Int) - 1) w2 hnb (HB w2 hbB).out)
  clear H1 hb1 hb2 hba
  go_wp2_with fail
  refine HAa.out.mono ?_
  rintro e w3 ⟨h1, hw3⟩
  subst w3
  clear HAa
  rcases h1 with ⟨hia, rfl⟩ | ⟨_, rfl⟩
  rotate_left
  · clear HL HA HB HAb
    go_wp2_with fail
    go_ret
    exact ⟨rfl, hbB⟩
  have HIa := hid (nums_in hia)
  clear hia
  go_wp2_with fail
  refine HAb.out.mono ?_
  rintro e w3 ⟨h1, hw3⟩
  subst w3
  clear HAb
  rcases h1 with ⟨hib, rfl⟩ | ⟨_, rfl⟩
  rotate_left
  · clear HL HA HB
    go_wp2_with fail
    go_ret
    exact ⟨rfl, hbB⟩
  have HIb := hid (nums_in hib)
  clear hib
  by_cases hla : na ≤ 30
  rotate_left
  · have l1 : 30 < (na : Int) := by omega
    clear HL HA HB
    go_wp2_with fail
    go_ret
    exact ⟨rfl, hbB⟩
  by_cases hlb : nb ≤ 30
  rotate_left
  · have l1 : ¬ (30 < (na : Int)) := by omega
    have l2 : 30 < (nb : Int) := by omega
    clear HL HA HB
    go_wp2_with fail
    go_ret
    exact ⟨rfl, hbB⟩
  have l1 : ¬ (30 < (na : Int)) := by omega
  have l2 : ¬ (30 < (nb : Int)) := by omega
  obtain ⟨a, hae⟩ : ∃ a, a = xs.map Int.toNat := ⟨_, rfl⟩
  obtain ⟨b, hbe⟩ : ∃ b, b = ys.map Int.toNat := ⟨_, rfl⟩
  rw [← hae] at HIa
  rw [← hbe] at HIb
  have HLa : Hid (a.length = na) := hid (by rw [hae, List.length_map]; exact HNa.out)
  have HLb : Hid (b.length = nb) := hid (by rw [hbe, List.length_map]; exact HNb.out)
  clear hae hbe HNa HNb
  have HXa := hid (HA w2 hbB).out
  have HXb := hid (HB w2 hbB).out
  have HXw := hid (HL w2 hbB).out
  rw [← HIa.out.1] at HXa
  rw [← HIb.out.1] at HXb
  have HSa := hid HIa.out
  have HSb := hid HIb.out
  have HMi := hid (mirrored_any A n c ws w2 HFi.out (HL w2 hbB).out)
  have HCs : Hid (∀ d i, i ≤ 30 → (catT ws d i).size ≤ 240) := hid (fun d i hi => Nat.le_trans (catT_size HFi.out d i) (by omega))
  go_wp2_with fail
  go_loopw [10, 11] (fun v x wr => ∃ i : Nat, i ≤ na ∧ x = .int .i64 i ∧ v = .string (catT ws a i) ∧ wr = w2) (fun _ x _ => na - (intOf x).toNat)
  case atStart => exact ⟨0, by omega, rfl, by rw [catT_zero], rfl⟩
  case round =>
    obtain ⟨i, hin, rfl, rfl, hwr⟩ := hrel
    subst wr
    by_cases hlt : i < na
    · obtain ⟨g, off, rfl, _, hc⟩ := HXa.out.2 (by omega)
      have c1 := hc i hlt
      rw [nums_at] at c1
      have hw : a.getD i 0 < n := HIa.out.2 _ (by rw [List.getD_eq_getElem?_getD, List.getElem?_eq_getElem (by rw [HLa.out]; exact hlt)]; exact List.getElem_mem _)
      obtain ⟨g2, off2, rfl, _, hc2⟩ := HXw.out.2 (by omega)
      have c2 : w2.cell? ⟨g2, off2 + a.getD i 0, none⟩ = some (.string (wat ws (a.getD i 0))) := hc2 _ hw
      have hE := catT_succ (ws := ws) (a := a) (i := i) (by rw [HLa.out]; exact hlt) (by rw [HN.out]; exact hw)
      have s1 := HCs.out a i (by omega)
      have s2 := HSz.out _ hw
      have hadd := fun W => run_string_add_sum (P := Try.prog) W (catT ws a i) (wat ws (a.getD i 0)) (by omega)
      rw [hE] at hadd
      obtain ⟨T2, hT2⟩ : ∃ T2, T2 = catT ws a (i + 1) := ⟨_, rfl⟩
      have HT2 := hid hT2
      rw [← hT2] at hadd
      generalize catT ws a i = T at hadd
      generalize a.getD i 0 = P at c1 c2 hw hadd
      generalize wat ws P = X at c2 hadd
      have p1 : (P : Int) < (n : Int) := by omega
      have p2 : (0 : Int) ≤ (P : Int) := by omega
      have i1 : (i : Int) < (na : Int) := by omega
      clear hc hc2 hE s1 s2 hT2
      go_wp2_with fail
      go_roundw
      case rel => exact ⟨i + 1, by omega, by go_num, by rw [HT2.out], by first | rfl | trivial⟩
      case measure => simp [intOf]; omega
    · obtain rfl : i = na := by omega
      go_wp2_with fail
      go_loopw [12, 13] (fun v x wr => ∃ i : Nat, i ≤ nb ∧ x = .int .i64 i ∧ v = .string (catT ws b i) ∧ wr = w2) (fun _ x _ => nb - (intOf x).toNat)
      case atStart => exact ⟨0, by omega, rfl, by rw [catT_zero], rfl⟩
      case round =>
        obtain ⟨k, hkn, rfl, rfl, hwr⟩ := hrel
        subst wr
        by_cases hlk : k < nb
        · obtain ⟨g, off, rfl, _, hc⟩ := HXb.out.2 (by omega)
          have c1 := hc k hlk
          rw [nums_at] at c1
          have hw : b.getD k 0 < n := HIb.out.2 _ (by rw [List.getD_eq_getElem?_getD, List.getElem?_eq_getElem (by rw [HLb.out]; exact hlk)]; exact List.getElem_mem _)
          obtain ⟨g2, off2, rfl, _, hc2⟩ := HXw.out.2 (by omega)
          have c2 : w2.cell? ⟨g2, off2 + b.getD k 0, none⟩ = some (.string (wat ws (b.getD k 0))) := hc2 _ hw
          have hE := catT_succ (ws := ws) (a := b) (i := k) (by rw [HLb.out]; exact hlk) (by rw [HN.out]; exact hw)
          have s1 := HCs.out b k (by omega)
          have s2 := HSz.out _ hw
          have hadd := fun W => run_string_add_sum (P := Try.prog) W (catT ws b k) (wat ws (b.getD k 0)) (by omega)
          rw [hE] at hadd
          obtain ⟨T2, hT2⟩ : ∃ T2, T2 = catT ws b (k + 1) := ⟨_, rfl⟩
          have HT2 := hid hT2
          rw [← hT2] at hadd
          generalize catT ws b k = T at hadd
          generalize b.getD k 0 = P at c1 c2 hw hadd
          generalize wat ws P = X at c2 hadd
          have p1 : (P : Int) < (n : Int) := by omega
          have p2 : (0 : Int) ≤ (P : Int) := by omega
          have k1 : (k : Int) < (nb : Int) := by omega
          clear hc hc2 hE s1 s2 hT2
          go_wp2_with fail
          go_roundw
          case rel => exact ⟨k + 1, by omega, by go_num, by rw [HT2.out], by first | rfl | trivial⟩
          case measure => simp [intOf]; omega
        · obtain rfl : k = nb := by omega
          have e1 := catT_all ws a
          have e2 := catT_all ws b
          rw [HLa.out] at e1
          rw [HLb.out] at e2
          have HU : Hid (UD (wl ws) → catT ws a i = catT ws b k → xs = ys) := hid (fun hu e => by
            rw [e1, e2] at e
            have h1 := hu a b (fun j hj => by rw [wl_len, HN.out]; exact HIa.out.2 j hj) (fun j hj => by rw [wl_len, HN.out]; exact HIb.out.2 j hj) (txt_inj e)
            rw [← HIa.out.1, ← HIb.out.1, h1])
          generalize catT ws a i = X at HU ⊢
          generalize catT ws b k = Y at HU ⊢
          clear e1 e2
          go_wp2_with fail
          refine HMi.out.mono ?_
          rintro e w3 ⟨v, rfl, hO3, hb3⟩
          obtain ⟨A3, c3, rfl, hI3⟩ := hO3.strs
          have HK3 := hid (kapart_ok A3 (mirT ws).length c3 (mirT ws) w3 (mirT_fine HFi.out) hI3)
          have hbC := hbB.trans (hb3.mono hbB.size)
          generalize (mirT ws).length = n3 at HK3 ⊢
          clear hO3 hI3 hb3 HMi
          go_wp2_with fail
          refine HK3.out.mono ?_
          rintro e w4 ⟨bt, hbt, rfl, hb4⟩
          have hbD := hbC.trans (hb4.mono hbC.size)
          have heq : bt = ba := by
            rw [Bool.eq_iff_iff, hbt, HBa.out, mirT_wl]
            exact mir_iff
          subst heq
          clear hbt HK3 hb4
          have HIx := hid (HA w4 hbD).out
          have HIy := hid (HB w4 hbD).out
          cases bt with
          | false =>
            clear HIx HIy HU
            go_wp2_with fail
            go_ret
            exact ⟨by first | rfl | simp, hbD⟩
          | true =>
            have hu : UD (wl ws) := HBa.out.1 rfl
            by_cases hxy : X = Y
            · have hE := HU.out hu hxy
              subst hE
              have hq := same_yes hxy
              have hl2 : i = k := by
                have := HIx.out.1
                have h2 := HIy.out.1
                omega
              have HS := hid (ints_ok B C i k ca cb xs w4 _ _ (by omega) (by omega) HIx.out HIy.out)
              clear HU hu hxy HIx HIy hl2
              go_wp2_with fail
              refine HS.out.mono ?_
              rintro e w5 ⟨rfl, hb5⟩
              have hbE := hbD.trans (hb5.mono hbD.size)
              clear hb5 HS
              go_wp2_with fail
              go_ret
              exact ⟨by first | rfl | simp, hbE⟩
            · have hq := same_no hxy
              clear HU hu hxy HIx HIy
              go_wp2_with fail
              go_ret
              exact ⟨by first | rfl | simp, hbD⟩
end Go.Proofs.Ytlfncplldppncaa
