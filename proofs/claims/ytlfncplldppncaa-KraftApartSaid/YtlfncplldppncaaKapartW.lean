/-
  The walk of KraftApart: it returns true at every list of words. Conditions: the row's own sizes.
-/
import Derived.Test.YtlfncplldppncaaKfact
namespace Go.Proofs.Ytlfncplldppncaa
open Go.RowKit

/-- How long the words are. -/
def lensW (ws : List ByteArray) : List Nat := (wl ws).map List.length
theorem lensW_len (ws : List ByteArray) : (lensW ws).length = ws.length := by simp [lensW, wl]
theorem lensW_at {ws : List ByteArray} {i : Nat} (hi : i < ws.length) : (lensW ws).getD i 0 = (wat ws i).size := by
  have := wl_get hi
  unfold lensW
  rw [List.getD_eq_getElem?_getD, List.getElem?_map, this]
  exact bs_len _
theorem lensW_ok {ws : List ByteArray} (hf : Fine ws) : LenOk (lensW ws) := fun j hj => by
  rw [lensW_len] at hj
  have := hf.2 j hj
  rw [lensW_at hj]
  omega
theorem nums_succ (E : List Nat) {i : Nat} (hi : i < E.length) : nums (E.take (i + 1)) = nums (E.take i) ++ [((E.getD i 0 : Nat) : Int)] := by
  rw [List.take_succ_eq_append_getElem hi, nums_app]
  simp [nums, hi]
theorem bin_of {s : ByteArray} (h : ∀ k (hk : k < s.size), s[k] = 48 ∨ s[k] = 49) : Bin (bs s) := by
  intro c hc
  obtain ⟨k, hk, e⟩ := List.getElem_of_mem hc
  rw [bs_len] at hk
  have h1 := bs_get s k hk
  rw [List.getElem?_eq_getElem (by rw [bs_len]; exact hk), e] at h1
  injection h1 with h1
  rw [h1]
  exact h k hk
theorem apart_room {ws : List ByteArray} (hf : Fine ws) (hu : UD (wl ws)) (hb : ∀ i, i < ws.length → Bin (bs (wat ws i))) : rm 12 (lensW ws) ≤ 4096 := by
  have h1 := fine_wl hf
  have := mcmillan hu (fun x hx => by
    obtain ⟨i, hi, e⟩ := List.getElem_of_mem hx
    rw [wl_len] at hi
    have h2 := wl_get hi
    rw [List.getElem?_eq_getElem (by rw [wl_len]; exact hi), e] at h2
    injection h2 with h2
    rw [h2]
    exact hb i hi) (fun i => by
    by_cases hi : i < ws.length
    · rw [wl_getD hi, bs_len]
      have := hf.2 i hi
      omega
    · have : ¬ i < (wl ws).length := by rw [wl_len]; exact hi
      simp [this])
  rwa [rmX_rm] at this

set_option maxHeartbeats 4000000 in
set_option maxRecDepth 100000 in
theorem kraftApart_any (A : Option Addr) (n c : Nat) (ws : List ByteArray) (w : World) (hn : n ≤ maxLen) (hs : ∀ i, i < n → (wat ws i).size ≤ maxLen) (h : IsStrs w w.heap.size A n ws) :
    Calls Try.prog 3 #[.slice A n c] w fun e w' => e = .returned (.bool true) ∧ Below w.heap.size w w' := by
  obtain ⟨i0, hi, hz0, hz1, hz2⟩ := info_parts int_info
  have HF := fun W => hid (kfact_any W)
  have HL := fun (w1 : World) (h1 : Below w.heap.size w w1) => hid ((h.below h1).mono h1.size)
  have hwl := h.1
  have HX : Hid (0 < n → ∃ g off, A = some ⟨g, off, none⟩ ∧ g < w.heap.size ∧ ∀ i, i < n → w.cell? ⟨g, off + i, none⟩ = some (.string (wat ws i))) := hid (fun h0 => h.2 h0)
  clear h
  go_enter Try.func3, Try.ntmps3
  go_wp2_with fail
  refine (HF _).out.mono ?_
  rintro e w1 ⟨rfl, hb1⟩
  clear HF
  rcases words_or ws with hf | ⟨k, hk⟩
  rotate_left
  · have H1 := fun W hW => hid (kapart_bad A n c ws k W hn hs hk hW)
    have H2 := fun W hW => hid (kfree_bad A n c ws k W hn hs hk hW)
    clear hk hwl HX hs
    go_wp2_with fail
    refine (H1 _ (HL w1 hb1).out).out.mono ?_
    rintro e w2 ⟨rfl, hb2⟩
    have hbB := hb1.trans (hb2.mono hb1.size)
    clear H1 hb1 hb2
    go_wp2_with fail
    refine (H2 _ (HL w2 hbB).out).out.mono ?_
    rintro e w3 ⟨rfl, hb3⟩
    have hbC := hbB.trans (hb3.mono hbB.size)
    clear H2 hbB hb3 HL
    go_wp2_with fail
    go_ret
    exact ⟨rfl, hbC⟩
  have h6 : n ≤ 6 := by rw [← hwl]; exact hf.1
  have H1 := fun W hW => hid (kapart_ok A n c ws W hf hW)
  have H2 := fun W hW => hid (kfree_ok A n c ws W hf hW)
  have HN := hid hwl
  have HFi := hid hf
  have HSz : Hid (∀ i, i < n → (wat ws i).size ≤ 8) := hid (fun i hi => (hf.2 i (by omega)).1)
  have HLe : Hid ((lensW ws).length = n) := hid (by rw [lensW_len]; exact hwl)
  have HLa : Hid (∀ i, i < n → (lensW ws).getD i 0 = (wat ws i).size) := hid (fun i hi => lensW_at (by omega))
  clear hf hwl hs
  go_wp2_with fail
  refine (H1 _ (HL w1 hb1).out).out.mono ?_
  rintro e w2 ⟨ba, hba, rfl, hb2⟩
  have hbB := hb1.trans (hb2.mono hb1.size)
  have HBa := hid hba
  clear H1 hb1 hb2 hba
  go_wp2_with fail
  refine (H2 _ (HL w2 hbB).out).out.mono ?_
  rintro e w3 ⟨bf, hbf, rfl, hb3⟩
  have hbC := hbB.trans (hb3.mono hbB.size)
  have hor : (bf = false ∧ ba = false) ∨ (bf = false ∧ ba = true) ∨ (bf = true ∧ ba = true) := by
    cases bf with
    | false => cases ba with
      | false => exact .inl ⟨rfl, rfl⟩
      | true => exact .inr (.inl ⟨rfl, rfl⟩)
    | true => exact .inr (.inr ⟨rfl, HBa.out.2 (pfree_ud (ok_of_fine HFi.out) (hbf.1 rfl))⟩)
  clear H2 hbB hb3 hbf HL
  have hG : ∀ W : World, Below w.heap.size w W → 0 < n → ∃ g off, A = some ⟨g, off, none⟩ ∧ ∀ i, i < n → W.cell? ⟨g, off + i, none⟩ = some (.string (wat ws i)) := fun W hW h0 => by
    obtain ⟨g, off, e, hg, hc⟩ := HX.out h0
    exact ⟨g, off, e, fun i hi => (hW.cell (p := ⟨g, off + i, none⟩) hg).trans (hc i hi)⟩
  have HGo := hid hG
  clear hG HX
  rcases hor with ⟨rfl, rfl⟩ | ⟨rfl, rfl⟩ | ⟨rfl, rfl⟩
  all_goals (go_wp2_with fail)
  all_goals (
    go_loopw [8, 9] (fun v x wr => ∃ i : Nat, i ≤ n ∧ x = .int .i64 i ∧ Hid (∀ j, j < i → Bin (bs (wat ws j))) ∧ Hid (OwnI wr w.heap.size 3 v (nums ((lensW ws).take i))) ∧ Below w.heap.size w wr) (fun _ x _ => n - (intOf x).toNat)
    case atStart => exact ⟨0, by omega, rfl, hid (fun j hj => absurd hj (by omega)), hid (OwnI.nil _ _ _), hbC⟩
    case round =>
      clear hbC
      obtain ⟨i, hin, rfl, HBi, HO, hb⟩ := hrel
      have hsz := hb.size
      by_cases hlt : i < n
      · obtain ⟨g, off, rfl, hc⟩ := HGo.out wr hb (by omega)
        have c1 := hc i hlt
        have s1 := HSz.out i hlt
        have i1 : (i : Int) < (n : Int) := by omega
        have HBn : Hid (Bin (bs (wat ws i)) → ∀ j, j < i + 1 → Bin (bs (wat ws j))) := hid (fun hB j hj => by
          rcases Nat.lt_or_ge j i with h | h
          · exact HBi.out j h
          · obtain rfl : j = i := by omega
            exact hB)
        have HNu := hid (nums_succ (lensW ws) (i := i) (by rw [HLe.out]; exact hlt))
        have hle : (nums ((lensW ws).take i)).length ≤ 1099511627776 := by rw [nums_len, List.length_take]; omega
        rw [HLa.out i hlt] at HNu
        generalize nums ((lensW ws).take i) = cs at HO HNu hle
        have HBo : Hid ((∀ k (hk : k < (wat ws i).size), (wat ws i)[k] = 48 ∨ (wat ws i)[k] = 49) → Bin (bs (wat ws i))) := hid bin_of
        have HBm : Hid ((∀ k (hk : k < (wat ws i).size), (wat ws i)[k] = 48 ∨ (wat ws i)[k] = 49) → ∀ j, j < i + 1 → Bin (bs (wat ws j))) := hid (fun h => HBn.out (HBo.out h))
        generalize wat ws i = X at c1 s1 HNu HBm
        clear HBn HBo HBi hc
        go_wp2_with fail
        obtain ⟨wy, rfl⟩ : ∃ q, q = wr := ⟨_, rfl⟩
        go_loopw [10] (fun x wr => ∃ k : Nat, k ≤ X.size ∧ x = .int .i64 k ∧ Hid (∀ j (hj : j < X.size), j < k → X[j] = 48 ∨ X[j] = 49) ∧ wr = wy) (fun x _ => X.size - (intOf x).toNat)
        case atStart => exact ⟨0, by omega, rfl, hid (fun j _ h => absurd h (by omega)), rfl⟩
        case round =>
          obtain ⟨k, hkX, rfl, HK, hwr⟩ := hrel
          subst wr
          by_cases hlk : k < X.size
          · have k1 : (k : Int) < (X.size : Int) := by omega
            have HK2 : Hid (((X[k]'hlk) = 48 ∨ (X[k]'hlk) = 49) → ∀ j (hj : j < X.size), j < k + 1 → X[j] = 48 ∨ X[j] = 49) := hid (fun h j hj hjk => by
              rcases Nat.lt_or_ge j k with h1 | h1
              · exact HK.out j hj h1
              · obtain rfl : j = k := by omega
                exact h)
            by_cases h48 : (X[k]'hlk) = 48
            · have q1 : (((X[k]'hlk).toNat : Int) != 48) = false := by rw [h48]; rfl
              have HK3 := hid (HK2.out (.inl h48))
              clear HK HK2 h48
              go_wp2_with fail
              go_roundw
              case rel => exact ⟨k + 1, by omega, by go_num, HK3, by first | rfl | trivial⟩
              case measure => simp [intOf]; omega
            · have q1 : (((X[k]'hlk).toNat : Int) != 48) = true := by
                have := byte_apart (x := (X[k]'hlk)) (y := 48) h48
                simpa using this
              by_cases h49 : (X[k]'hlk) = 49
              · have q2 : (((X[k]'hlk).toNat : Int) != 49) = false := by rw [h49]; rfl
                have HK3 := hid (HK2.out (.inr h49))
                clear HK HK2 h48 h49
                go_wp2_with fail
                go_roundw
                case rel => exact ⟨k + 1, by omega, by go_num, HK3, by first | rfl | trivial⟩
                case measure => simp [intOf]; omega
              · have q2 : (((X[k]'hlk).toNat : Int) != 49) = true := by
                  have := byte_apart (x := (X[k]'hlk)) (y := 49) h49
                  simpa using this
                clear HK HK2 h48 h49
                go_wp2_with fail
                go_ret
                exact ⟨rfl, hb⟩
          · obtain rfl : k = X.size := by omega
            have HB2 := hid (HBm.out (fun k hk => HK.out k hk hk))
            clear HK
            go_wp2_with (at_builtin; refine wpList_append_int _ rfl (.tmp 82) (.tmp 88) 28 rfl w.heap.size 3 i0 Try.underlying28 hi hz0 hz1 hz2 _ cs rfl HO.out (X.size : Int) rfl hle hsz ?_)
            intro v' w7 hown7 hb7
            have HO7 := hid hown7
            clear hown7
            go_wp2_with fail
            go_roundw
            case rel => exact ⟨i + 1, by omega, by go_num, HB2, hid (by rw [HNu.out]; exact HO7.out), hb.trans hb7⟩
            case measure => simp [intOf]; omega
      · obtain rfl : i = n := by omega
        have hO := HO.out
        rw [List.take_of_length_le (by rw [HLe.out]; exact Nat.le_refl _)] at hO
        obtain ⟨B, cB, rfl, hcB, hIB⟩ := IsInts.of_own hO
        rw [nums_len, HLe.out] at hcB hIB ⊢
        have HRm := hid (kroom_ok B i cB (lensW ws) wr hIB (by omega) (lensW_ok HFi.out))
        have HRl : Hid (UD (wl ws) → rm 12 (lensW ws) ≤ 4096) := hid (fun h => apart_room HFi.out h (fun j hj => HBi.out j (by rw [← HN.out]; exact hj)))
        generalize rm 12 (lensW ws) = R at HRm HRl
        clear HO hO hIB HBi hcB
        by_cases hU : R ≤ 4096
        · have r1 : (R : Int) ≤ 4096 := by omega
          go_wp2_with fail
          refine HRm.out.mono ?_
          rintro e w5 ⟨rfl, hb5⟩
          have hbE := hb.trans (hb5.mono hb.size)
          clear hb5 HRm
          go_wp2_with fail
          go_ret
          exact ⟨by first | rfl | simp, hbE⟩
        · first
            | exact absurd (HRl.out (HBa.out.1 (by first | rfl | trivial))) hU
            | (go_wp2_with fail
               refine HRm.out.mono ?_
               rintro e w5 ⟨rfl, hb5⟩
               have hbE := hb.trans (hb5.mono hb.size)
               clear hb5 HRm
               go_wp2_with fail
               go_ret
               exact ⟨by first | rfl | simp, hbE⟩))
end Go.Proofs.Ytlfncplldppncaa
