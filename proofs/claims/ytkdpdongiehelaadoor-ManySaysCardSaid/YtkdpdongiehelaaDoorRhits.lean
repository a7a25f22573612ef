/-
  Contracts of letterbeckref1.Hits and letterbeckref1.Cut: all hits by place, then by word; the places of the words into which a text is cut greedily, and whether it can be. Conditions: words as they should be, a text of at most 24 bytes.
-/
import Derived.Test.YtkdpdongiehelaaDoorMcut
import Derived.Test.YtkdpdongiehelaaDoorBegl
import Derived.Test.YtkdpdongiehelaaDoorRlongest
namespace Go.Proofs.YtkdpdongiehelaaDoor
open Go.RowKit

set_option maxRecDepth 100000 in
set_option maxHeartbeats 2000000 in
theorem rhits_any (A : Option Addr) (n c : Nat) (ws : List ByteArray) (t : ByteArray) (w : World) (hf : Fine ws) (ht : t.size ≤ 24) (h : IsStrs w w.heap.size A n ws) :
    Calls Tryd.prog 6 #[.slice A n c, .string t] w fun e w' => ∃ v, e = .returned v ∧ OwnH w' w.heap.size 42 v (hitsL ws t) ∧ Below w.heap.size w w' := by
  obtain ⟨i0, hi, hz0, hz1, hz2⟩ := info_parts hit_info
  have hl : ws.length = n := h.1
  have hn : n ≤ 6 := by have := hf.1; omega
  have H := hid h
  have HL := hid hl
  have HF := hid hf
  have HT := hid (bs_len t)
  clear h hl hf
  go_enter Tryd.func6, Tryd.ntmps6
  go_wp2_with fail
  go_loopw [5, 6] (fun v x wr => ∃ i : Nat, i ≤ t.size ∧ x = .int .i64 i ∧ OwnH wr w.heap.size 42 v (hitL ws (bs t) i) ∧ Below w.heap.size w wr) (fun _ x _ => t.size - (intOf x).toNat)
  case atStart => exact ⟨0, by omega, rfl, OwnH.nil _ _ _, Below.refl _ _⟩
  case round =>
    obtain ⟨i, hit, rfl, hown, hb⟩ := hrel
    by_cases hlt : i < t.size
    · have hEl := hitL_len ws (bs t) i
      have hEl2 : (hitL ws (bs t) i).length ≤ 1000 := by have := HL.out; have : i * ws.length ≤ 24 * 6 := Nat.mul_le_mul (by omega) (by omega); omega
      clear hEl
      have hcut : ∀ W : World, Sem.run Tryd.prog (Instr.slice 9 (.string t) (some (.int .i64 (i : Int))) none none) W = .ok (.string (t.extract i t.size)) W := fun W =>
        run_slice_string_l W 9 t Tryd.underlying9 .i64 (i : Int) (by omega) (by omega)
      have hus : (t.extract i t.size).size ≤ 24 := by rw [ByteArray.size_extract]; omega
      have HU := hid (bs_rest t i)
      generalize t.extract i t.size = u at hcut hus HU
      obtain ⟨wz, hwz⟩ : ∃ z, z = wr := ⟨_, rfl⟩
      subst hwz
      go_wp2_with fail
      go_loopw [5, 7] (fun v x wr => ∃ k : Nat, k ≤ n ∧ x = .int .i64 k ∧ OwnH wr w.heap.size 42 v (hitL ws (bs t) i ++ hitB ws (bs t) i k) ∧ Below w.heap.size w wr) (fun _ x _ => n - (intOf x).toNat)
      case atStart => exact ⟨0, by omega, rfl, by rw [show hitB ws (bs t) i 0 = [] from rfl, List.append_nil]; exact hown, hb⟩
      case round =>
        obtain ⟨k, hk, rfl, hown, hb⟩ := hrel
        by_cases hlt2 : k < n
        · obtain ⟨g, off, rfl, hg, hcw⟩ := H.out.2 (by omega)
          have hwk : wr.cell? ⟨g, off + k, none⟩ = some (.string (wat ws k)) := (hb.cell hg).trans (hcw k hlt2)
          have hsk := (HF.out.2 k (by have := HL.out; omega)).1
          have hBl := hitB_len ws (bs t) i k
          have hlen4 : (hitL ws (bs t) i ++ hitB ws (bs t) i k).length ≤ 1099511627776 := by rw [List.length_append]; omega
          have HG := fun W => hid (begins_any u (wat ws k) W (by omega) (by omega))
          by_cases hp : bs (wat ws k) <+: (bs t).drop i
          · rw [begB_iff.2 (by rw [HU.out]; exact hp)] at HG
            have HE := hid (hitB_yes hp)
            obtain ⟨cs, hcs⟩ : ∃ z, z = hitL ws (bs t) i ++ hitB ws (bs t) i k := ⟨_, rfl⟩
            have HCS := hid hcs
            rw [← hcs] at hown hlen4
            clear hcs hp hcw hBl
            generalize wat ws k = s at hwk hsk HG
            go_wp2_with fail
            go_quiet ((go_at_call 13; exact Calls.quiet_of_same (HG _).out))
            rename_i nq _
            have hown2 : OwnH (wr.drewN nq) w.heap.size 42 _ cs := hown
            have hb2 : Below w.heap.size w (wr.drewN nq) := below_drewN hb nq
            clear hown hb hwk
            generalize wr.drewN nq = wq at hown2 hb2 ⊢
            have hsz := hb2.size
            go_wp2_with (at_builtin; refine wpList_append_hit _ rfl (.tmp 28) (.tmp 32) 25 rfl w.heap.size 42 i0 Tryd.underlying25 hi hz0 hz1 hz2 _ cs rfl hown2 (i, k) rfl hlen4 (by omega) ?_)
            intro v' w6 hown6 hb6
            go_wp2_with fail
            go_roundw
            case rel => exact ⟨k + 1, by omega, by go_num, by rw [HE.out, ← List.append_assoc, ← HCS.out]; exact hown6, hb2.trans hb6⟩
            case measure => simp [intOf]; omega
          · rw [begB_no (by rw [HU.out]; exact hp)] at HG
            have HE := hid (hitB_no hp)
            obtain ⟨cs, hcs⟩ : ∃ z, z = hitL ws (bs t) i ++ hitB ws (bs t) i k := ⟨_, rfl⟩
            have HCS := hid hcs
            rw [← hcs] at hown hlen4
            clear hcs hp hcw hBl
            generalize wat ws k = s at hwk hsk HG
            go_wp2_with fail
            go_quiet ((go_at_call 13; exact Calls.quiet_of_same (HG _).out))
            go_wp2_with fail
            go_roundw
            case rel => exact ⟨k + 1, by omega, by go_num, by rw [HE.out, ← HCS.out]; exact hown, below_drewN hb _⟩
            case measure => simp [intOf]; omega
        · rw [show k = ws.length by have := HL.out; omega, ← hitL_succ] at hown
          have HO := hid hown
          clear hown
          go_wp2_with fail
          go_roundw
          case rel => exact ⟨i + 1, by omega, by go_num, HO.out, hb⟩
          case measure => simp [intOf]; omega
    · rw [show i = (bs t).length by have := HT.out; omega] at hown
      have HO := hid hown
      clear hown
      go_wp2_with fail
      go_ret
      exact ⟨_, rfl, HO.out, hb⟩

set_option maxRecDepth 100000 in
set_option maxHeartbeats 2000000 in
theorem rcut_any (A : Option Addr) (n c : Nat) (ws : List ByteArray) (t : ByteArray) (w : World) (hf : Fine ws) (ht : t.size ≤ 24) (h : IsStrs w w.heap.size A n ws) :
    Calls Tryd.prog 10 #[.slice A n c, .string t] w fun e w' => ∃ r, CutR (wds (wl ws)) (bs t) r ∧ Below w.heap.size w w' ∧
      ((r = none ∧ e = .returned (.tuple #[.slice none 0 0, .bool false])) ∨ ∃ out v, r = some out ∧ e = .returned (.tuple #[v, .bool true]) ∧ OwnI w' w.heap.size 3 v out ∧ out.length ≤ 24) := by
  obtain ⟨i0, hi, hz0, hz1, hz2⟩ := info_parts int_info
  have hl : ws.length = n := h.1
  have hn : n ≤ 6 := by have := hf.1; omega
  have H := hid h
  have HL := hid hl
  have HF := hid hf
  clear h hl hf
  go_enter Tryd.func10, Tryd.ntmps10
  go_wp2_with fail
  go_loopw [1, 6] (fun x v wr => ∃ (u : ByteArray) (out : List Int), x = .string u ∧ out.length + u.size ≤ 24 ∧ Hid (CutTo (wds (wl ws)) (bs t) out (bs u)) ∧ OwnI wr w.heap.size 3 v out ∧ Below w.heap.size w wr) (fun x _ _ => lenOf x)
  case atStart => exact ⟨t, [], rfl, by simpa using ht, hid (cutTo_start _ _), OwnI.nil _ _ _, Below.refl _ _⟩
  case round =>
    obtain ⟨u, out, rfl, hlen, HC, hown, hb⟩ := hrel
    have hsz := hb.size
    by_cases h0 : u.size = 0
    · have HE := hid (cutTo_fin (W := wds (wl ws)) (t := bs t) (out := out) (by have := HC.out; rwa [bs_none h0] at this))
      have HO := hid hown
      have hd : ¬ (0 : Int) < (u.size : Int) := by omega
      have hd2 : ¬ 0 < u.size := by omega
      clear HC h0 hown
      go_wp2_with fail
      go_ret2
      exact ⟨some out, HE.out, hb, .inr (by first | exact ⟨out, _, rfl, rfl, HO.out, by omega⟩ | exact ⟨out, rfl, _, rfl, HO.out, by omega⟩)⟩
    · have hd2 : 0 < u.size := by omega
      have HNE := hid (bs_ne (u := u) hd2)
      have HG := hid (rlong_any A n c ws u wr HF.out (by omega) ((H.out.below hb).mono hb.size))
      obtain ⟨wz, hwz⟩ : ∃ z, z = wr := ⟨_, rfl⟩
      subst hwz
      clear h0
      go_wp2_with fail
      refine HG.out.mono ?_
      rintro e w2 ⟨k, rfl, hk, q, hw2⟩
      clear HG
      have hb2 : Below wz.heap.size wz w2 := by rw [hw2]; exact below_drewN (Below.refl _ _) q
      clear hw2
      have hb2' := hb.trans (hb2.mono hb.size)
      rcases lg_word hk with rfl | ⟨j, rfl, hj, hp, hm⟩
      · have HE := hid (cutTo_bad HC.out HNE.out hk)
        clear HC hk hown
        go_wp2_with fail
        go_ret2
        exact ⟨none, HE.out, hb2', .inl ⟨rfl, rfl⟩⟩
      · have hjn : j < n := by have := HL.out; omega
        have hown2 := hown.below hb2 (Nat.le_refl _)
        have hpl := hp.length_le
        rw [bs_len, bs_len] at hpl
        have hpos := (HF.out.2 j hj).2.1
        have HC2 := hid (cutTo_step HC.out HNE.out hk hm)
        rw [bs_len, ← bs_rest] at HC2
        obtain ⟨g, off, rfl, hg, hcw⟩ := H.out.2 (by omega)
        have hwj : w2.cell? ⟨g, off + j, none⟩ = some (.string (wat ws j)) := (hb2'.cell hg).trans (hcw j hjn)
        clear hcw HC hk hp hm hown hj
        generalize wat ws j = s at hwj hpl hpos HC2
        have hcut : ∀ W : World, Sem.run Tryd.prog (Instr.slice 9 (.string u) (some (.int .i64 (s.size : Int))) none none) W = .ok (.string (u.extract s.size u.size)) W := fun W =>
          run_slice_string_l W 9 u Tryd.underlying9 .i64 (s.size : Int) (by omega) (by omega)
        have hus : (u.extract s.size u.size).size = u.size - s.size := by rw [ByteArray.size_extract]; omega
        generalize u.extract s.size u.size = u2 at hcut hus HC2
        have hnl : ¬ ((j : Int) < 0) := by omega
        have hsz2 := hb2'.size
        go_wp2_with (at_builtin; refine wpList_append_int _ rfl (.tmp 16) (.tmp 18) 26 rfl w.heap.size 3 i0 Tryd.underlying26 hi hz0 hz1 hz2 _ out rfl hown2 (j : Int) rfl (by omega) (by omega) ?_)
        intro v' w6 hown6 hb6
        have hwj6 : w6.cell? ⟨g, off + j, none⟩ = some (.string s) := (hb6.cell hg).trans hwj
        clear hwj
        go_wp2_with fail
        go_roundw
        case rel => exact ⟨u2, out ++ [(j : Int)], rfl, by rw [List.length_append, List.length_singleton]; omega, HC2, hown6, hb2'.trans hb6⟩
        case measure => show u2.size < u.size; omega
end Go.Proofs.YtkdpdongiehelaaDoor
