/-
  The walk of ManyCut: it returns true, whatever the words and the text. Conditions: the row's own sizes.
-/
import Derived.Test.YtkdpdongiehelaaMfact
import Derived.Test.YtkdpdongiehelaaRlongest
import Derived.Test.YtkdpdongiehelaaIn
namespace Go.Proofs.Ytkdpdongiehelaa
open Go.RowKit

/-- A cutting that goes on: its first word, and the rest. -/
theorem cut_inv {ws : List ByteArray} {t : List UInt8} {k : Int} {r : List Int} (h : CutR (wds (wl ws)) t (some (k :: r))) :
    ∃ j : Nat, k = (j : Int) ∧ j < ws.length ∧ Lg (wds (wl ws)) t (j : Nat) ∧ CutR (wds (wl ws)) (t.drop (bs (wat ws j)).length) (some r) := by
  generalize ho : some (k :: r) = o at h
  cases h with
  | fin => simp at ho
  | bad _ _ => cases ho
  | @step _ x j r' hne hl hm hr =>
    cases r' with
    | none => simp at ho
    | some l =>
      simp at ho
      obtain ⟨rfl, rfl⟩ := ho
      have h1 := wds_mem.1 hm
      have h2 : j < ws.length := by have := (List.getElem?_eq_some_iff.1 h1).1; rw [wl_len] at this; exact this
      rw [wl_get h2] at h1
      obtain rfl : bs (wat ws j) = x := by simpa using h1
      exact ⟨j, rfl, h2, hl, hr⟩
theorem cut_nil {W : List Wd} {t : List UInt8} (h : CutR W t (some [])) : t = [] := by
  generalize ho : some ([] : List Int) = o at h
  cases h with
  | fin => rfl
  | bad _ _ => cases ho
  | @step _ x j r' hne hl hm hr => cases r' <;> simp at ho
theorem mcut_err (A : Option Addr) (n c : Nat) (t : ByteArray) (k : Int) (ws : List ByteArray) (w : World) (h : IsStrs w w.heap.size A n ws)
    (hc : ∀ w1, IsStrs w1 w1.heap.size A n ws → Calls Try.prog 11 #[.slice A n c, .string t] w1 fun e w' => e = .returned (.tuple #[.slice none 0 0, .iface 53 (.int .i64 k)]) ∧ Below w1.heap.size w1 w') :
    Calls Try.prog 4 #[.slice A n c, .string t] w fun e w' => e = .returned (.bool true) ∧ Below w.heap.size w w' := by
  have H := hid h
  have HC := hid hc
  clear h hc
  go_enter Try.func4, Try.ntmps4
  go_wp2_with fail
  refine (mfact_any w).mono ?_
  rintro e w1 ⟨rfl, hb1⟩
  have HC1 := hid (HC.out w1 ((H.out.below hb1).mono hb1.size))
  clear H
  go_wp2_with fail
  refine HC1.out.mono ?_
  rintro e w2 ⟨rfl, hb2⟩
  go_wp2_with fail
  go_ret
  exact ⟨rfl, hb1.trans (hb2.mono hb1.size)⟩

set_option maxHeartbeats 4000000 in
theorem mcut_ok (A : Option Addr) (n c : Nat) (ws : List ByteArray) (t : ByteArray) (w : World) (hf : Fine ws) (ht : t.size ≤ 24) (h : IsStrs w w.heap.size A n ws) :
    Calls Try.prog 4 #[.slice A n c, .string t] w fun e w' => e = .returned (.bool true) ∧ Below w.heap.size w w' := by
  have hl : ws.length = n := h.1
  have hn6 := hf.1
  have hn : n ≤ 6 := by omega
  have H := hid h
  have HF := hid hf
  have HL := hid hl
  have HO := hid (wds_once.2 (fine_wl hf).1)
  clear h hf hl hn6
  go_enter Try.func4, Try.ntmps4
  go_wp2_with fail
  refine (mfact_any w).mono ?_
  rintro e w1 ⟨rfl, hb1⟩
  have HC := hid (cut_ok A n c ws t w1 HF.out ht ((H.out.below hb1).mono hb1.size))
  go_wp2_with fail
  refine HC.out.mono ?_
  rintro e w2 ⟨r, hr, hb2, hcase⟩
  have hb12 := hb1.trans (hb2.mono hb1.size)
  have HS := hid (H.out.below hb12)
  clear HC H hb1 hb2
  rcases hcase with ⟨rfl, rfl⟩ | ⟨out, v, rfl, rfl, ho, hlen⟩
  · clear hr
    clear w1
    go_wp2_with fail
    go_ret
    exact ⟨rfl, hb12⟩
  · obtain ⟨A2, c2, rfl, _, hI⟩ := IsInts.of_own ho
    have HI := hid hI
    have HR := hid hr
    clear hr ho hI
    clear w1
    obtain ⟨L, hLe⟩ : ∃ z, z = out.length := ⟨_, rfl⟩
    rw [← hLe] at HI hlen
    rw [← hLe]
    have HLE := hid hLe
    clear hLe
    go_wp2_with fail
    go_loopw [8, 9] (fun x y wr => ∃ (u : ByteArray) (i q : Nat), i ≤ L ∧ x = .string u ∧ u.size ≤ 24 ∧ y = .int .i64 i ∧ Hid (CutR (wds (wl ws)) (bs u) (some (out.drop i))) ∧ Hid (wr = w2.drewN q)) (fun _ y _ => L - (intOf y).toNat)
    case atStart => exact ⟨t, 0, 0, by omega, rfl, ht, rfl, HR, hid rfl⟩
    case round =>
      obtain ⟨u, i, q, hi, rfl, hu, rfl, HC, HQ⟩ := hrel
      by_cases hlt : i < L
      · have hd : out.drop i = out.getD i 0 :: out.drop (i + 1) := by
          have hlt' : i < out.length := by have := HLE.out; omega
          rw [List.drop_eq_getElem_cons hlt']
          simp [List.getD_eq_getElem?_getD, hlt']
        have hcc := HC.out
        rw [hd] at hcc
        obtain ⟨j, hj, hjl, hlg, hnext⟩ := cut_inv hcc
        clear hd hcc HC
        have hjn : j < n := by have := HL.out; omega
        obtain ⟨g2, off2, rfl, hg2, hc2⟩ := HI.out.2 (by omega)
        obtain ⟨g, off, rfl, hg, hcw⟩ := HS.out.2 (by omega)
        have hci : wr.cell? ⟨g2, off2 + i, none⟩ = some (.int .i64 (j : Int)) := by rw [HQ.out, ← hj]; exact hc2 i hlt
        have hwj : wr.cell? ⟨g, off + j, none⟩ = some (.string (wat ws j)) := by rw [HQ.out]; exact hcw j hjn
        have hsj := (HF.out.2 j hjl).1
        have hpre : bs (wat ws j) <+: bs u := by
          rcases lg_word hlg with h | ⟨j', h, _, hp, _⟩
          · omega
          · obtain rfl : j = j' := by omega
            exact hp
        have hsu := hpre.length_le
        rw [bs_len, bs_len] at hsu
        have HG := fun W => hid (begins_any u (wat ws j) W (by omega) (by omega))
        rw [begB_iff.2 hpre] at HG
        have HN := hid hnext
        rw [bs_len, ← bs_rest] at HN
        have HLO := fun q => hid (show Calls Try.prog 13 #[.slice (some ⟨g, off, none⟩) n c, .string u] (wr.drewN q) fun e w' => e = .returned (.int .i64 (j : Int)) ∧ ∃ m, w' = (wr.drewN q).drewN m from
          (rlong_any (some ⟨g, off, none⟩) n c ws u (wr.drewN q) HF.out hu (by
            have hbq : Below w2.heap.size w2 (wr.drewN q) := by rw [HQ.out]; exact below_drewN (below_drewN (Below.refl _ _) _) _
            exact (HS.out.below (hbq.mono hb12.size)).mono (by have := hb12.size; have := hbq.size; omega))).mono fun e w' ⟨k, he, hk, m, hm⟩ => ⟨by rw [he, lg_one HO.out hk hlg], m, hm⟩)
        have HIN := fun W => hid (in_yes (j : Int) 0 ((n : Int) - 1) W (by omega) (by omega))
        clear hc2 hcw hj hlg hnext hpre
        generalize wat ws j = s at hwj hsj hsu HG HN
        have hcut : ∀ W : World, Sem.run Try.prog (Instr.slice 9 (.string u) (some (.int .i64 (s.size : Int))) none none) W = .ok (.string (u.extract s.size u.size)) W := fun W =>
          run_slice_string_l W 9 u Try.underlying9 .i64 (s.size : Int) (by omega) (by omega)
        have hus : (u.extract s.size u.size).size ≤ 24 := by rw [ByteArray.size_extract]; omega
        generalize u.extract s.size u.size = u2 at hcut hus HN
        go_wp2_with fail
        go_quiet ((first
          | (go_at_call 8; exact Calls.quiet_of_same (HIN _).out)
          | (go_at_call 12; exact Calls.quiet_of_same (HG _).out)
          | (go_at_call 13; exact Calls.quiet_of (HLO _).out)))
        go_wp2_with fail
        go_roundw
        case rel => exact ⟨u2, i + 1, _, by omega, rfl, hus, by go_num, HN, hid (by rw [HQ.out]; exact World.drewN_drewN _ _ _)⟩
        case measure => simp [intOf]; omega
      · have HE := hid (cut_nil (W := wds (wl ws)) (t := bs u) (by have := HC.out; rwa [List.drop_eq_nil_of_le (by have := HLE.out; omega)] at this))
        have he := empty_yes (s := u) (by rw [← bs_len, HE.out]; rfl)
        clear HC
        go_wp2_with fail
        go_ret
        exact ⟨rfl, by rw [HQ.out]; exact below_drewN hb12 _⟩
theorem mcut_any (A : Option Addr) (n c : Nat) (ws : List ByteArray) (t : ByteArray) (w : World) (hn : n ≤ maxLen) (hs : ∀ i, i < n → (wat ws i).size ≤ maxLen) (ht : t.size ≤ maxLen) (h : IsStrs w w.heap.size A n ws) :
    Calls Try.prog 4 #[.slice A n c, .string t] w fun e w' => e = .returned (.bool true) ∧ Below w.heap.size w w' := by
  rcases badM_or ws t with ⟨hf, h24⟩ | ⟨k, hk⟩
  · exact mcut_ok A n c ws t w hf h24 h
  · exact mcut_err A n c t k ws w h fun w1 h1 => cut_bad A n c ws t k w1 hn hs ht hk h1
end Go.Proofs.Ytkdpdongiehelaa
