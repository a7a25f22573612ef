/-
  Contract of many.Cut: the places of the words into which the text is cut greedily, or the error that comes first. Conditions: the sizes that a row itself sets.
-/
import Derived.Test.YtkdpdongiehelaaDoorMany
import Derived.Test.YtkdpdongiehelaaDoorTlong
namespace Go.Proofs.YtkdpdongiehelaaDoor
open Go.RowKit

def lenOf : Value → Nat
  | .string s => s.size
  | _ => 0
theorem cut_bad (A : Option Addr) (n c : Nat) (ws : List ByteArray) (t : ByteArray) (k : Int) (w : World) (hn : n ≤ maxLen) (hs : ∀ i, i < n → (wat ws i).size ≤ maxLen) (ht : t.size ≤ maxLen) (hk : BadM ws t k) (h : IsStrs w w.heap.size A n ws) :
    Calls Tryd.prog 11 #[.slice A n c, .string t] w fun e w' => e = .returned (.tuple #[.slice none 0 0, .iface 49 (.int .i64 k)]) ∧ Below w.heap.size w w' := by
  have HC := hid (mcheck_bad A n c ws t k w hn hs ht hk h)
  clear h hk hs hn ht
  go_enter Tryd.func11, Tryd.ntmps11
  go_wp2_with fail
  refine HC.out.mono ?_
  rintro e w1 ⟨rfl, hb⟩
  go_wp2_with fail
  go_ret2
  exact ⟨rfl, hb⟩
theorem lg_word {ws : List ByteArray} {t : List UInt8} {k : Int} (h : Lg (wds (wl ws)) t k) : k = -1 ∨ ∃ j : Nat, k = (j : Int) ∧ j < ws.length ∧ bs (wat ws j) <+: t ∧ (bs (wat ws j), j) ∈ wds (wl ws) := by
  rcases h with ⟨rfl, _⟩ | ⟨x, j, hj, rfl, hx, _⟩
  · exact .inl rfl
  · have h1 := wds_mem.1 hj
    have h2 : j < ws.length := by have := (List.getElem?_eq_some_iff.1 h1).1; rw [wl_len] at this; exact this
    rw [wl_get h2] at h1
    obtain rfl : bs (wat ws j) = x := by simpa using h1
    exact .inr ⟨j, rfl, h2, hx, hj⟩
theorem wds_place {ws : List ByteArray} : ∀ x y j, (x, j) ∈ wds (wl ws) → (y, j) ∈ wds (wl ws) → x = y := by
  intro x y j hx hy
  have h1 := wds_mem.1 hx
  rw [wds_mem.1 hy] at h1
  exact (Option.some.inj h1).symm
theorem bs_rest (u : ByteArray) (a : Nat) : bs (u.extract a u.size) = (bs u).drop a := by
  rw [bs_cut, List.take_of_length_le (by rw [bs_len]; exact Nat.le_refl _)]
theorem bs_ne {u : ByteArray} (h : 0 < u.size) : bs u ≠ [] := by
  intro e; have := bs_len u; rw [e] at this; simp at this; omega
theorem bs_none {u : ByteArray} (h : u.size = 0) : bs u = [] := List.eq_nil_of_length_eq_zero (by rw [bs_len]; exact h)

set_option maxRecDepth 100000 in
set_option maxHeartbeats 2000000 in
theorem cut_ok (A : Option Addr) (n c : Nat) (ws : List ByteArray) (t : ByteArray) (w : World) (hf : Fine ws) (ht : t.size ≤ 24) (h : IsStrs w w.heap.size A n ws) :
    Calls Tryd.prog 11 #[.slice A n c, .string t] w fun e w' => ∃ r, CutR (wds (wl ws)) (bs t) r ∧ Below w.heap.size w w' ∧
      ((r = none ∧ e = .returned (.tuple #[.slice none 0 0, .iface 49 (.int .i64 5)])) ∨ ∃ out v, r = some out ∧ e = .returned (.tuple #[v, .nilIface]) ∧ OwnI w' w.heap.size 3 v out ∧ out.length ≤ 24) := by
  obtain ⟨i0, hi, hz0, hz1, hz2⟩ := info_parts int_info
  have hl : ws.length = n := h.1
  have hn : n ≤ 6 := by have := hf.1; omega
  have H := hid h
  have HL := hid hl
  have HF := hid hf
  clear h hl hf
  go_enter Tryd.func11, Tryd.ntmps11
  go_wp2_with fail
  refine (mcheck_ok A n c ws t w HF.out ht H.out).mono ?_
  rintro e w1 ⟨rfl, hb1⟩
  go_wp2_with fail
  go_loopw [1, 7] (fun x v wr => ∃ (u : ByteArray) (out : List Int), x = .string u ∧ out.length + u.size ≤ 24 ∧ Hid (CutTo (wds (wl ws)) (bs t) out (bs u)) ∧ OwnI wr w.heap.size 3 v out ∧ Below w.heap.size w wr) (fun x _ _ => lenOf x)
  case atStart => exact ⟨t, [], rfl, by simpa using ht, hid (cutTo_start _ _), OwnI.nil _ _ _, hb1⟩
  case round =>
    obtain ⟨u, out, rfl, hlen, HC, hown, hb⟩ := hrel
    have hsz := hb.size
    by_cases h0 : u.size = 0
    · have he := empty_yes h0
      have HE := hid (cutTo_fin (W := wds (wl ws)) (t := bs t) (out := out) (by have := HC.out; rwa [bs_none h0] at this))
      have HO := hid hown
      clear HC h0 hown
      go_wp2_with fail
      go_ret2
      exact ⟨some out, HE.out, hb, .inr ⟨out, _, rfl, rfl, HO.out, by omega⟩⟩
    · have he := empty_not (s := u) (by omega)
      have HNE := hid (bs_ne (u := u) (by omega))
      have HG := hid (long_ok A n c ws u wr HF.out (by omega) ((H.out.below hb).mono hb.size))
      obtain ⟨wz, hwz⟩ : ∃ z, z = wr := ⟨_, rfl⟩
      subst hwz
      go_wp2_with fail
      refine HG.out.mono ?_
      rintro e w2 ⟨k, rfl, hk, hb2⟩
      clear HG
      have hb2' := hb.trans (hb2.mono hb.size)
      rcases lg_word hk with rfl | ⟨j, rfl, hj, hp, hm⟩
      · have HE := hid (cutTo_bad HC.out HNE.out hk)
        clear HC hk hown
        go_wp2_with fail
        go_ret2
        exact ⟨none, HE.out, hb2', .inl ⟨rfl, rfl⟩⟩
      · have hjn : j < n := by have := HL.out; omega
        have hown2 := hown.below hb2 (Nat.le_refl _)
        have hpl := hp.length_le
        rw [bs_len, bs_len] at hpl
        have hpos := (HF.out.2 j hj).2.1
        have HC2 := hid (cutTo_step HC.out HNE.out hk hm)
        rw [bs_len, ← bs_rest] at HC2
        obtain ⟨g, off, rfl, hg, hcw⟩ := H.out.2 (by omega)
        have hwj : w2.cell? ⟨g, off + j, none⟩ = some (.string (wat ws j)) := (hb2'.cell hg).trans (hcw j hjn)
        clear hcw HC hk hp hm hown hj
        generalize wat ws j = s at hwj hpl hpos HC2
        have hcut : ∀ W : World, Sem.run Tryd.prog (Instr.slice 9 (.string u) (some (.int .i64 (s.size : Int))) none none) W = .ok (.string (u.extract s.size u.size)) W := fun W =>
          run_slice_string_l W 9 u Tryd.underlying9 .i64 (s.size : Int) (by omega) (by omega)
        have hus : (u.extract s.size u.size).size = u.size - s.size := by rw [ByteArray.size_extract]; omega
        generalize u.extract s.size u.size = u2 at hcut hus HC2
        have hnl : ¬ ((j : Int) < 0) := by omega
        have hsz2 := hb2'.size
        go_wp2_with (at_builtin; refine wpList_append_int _ rfl (.tmp 30) (.tmp 32) 26 rfl w.heap.size 3 i0 Tryd.underlying26 hi hz0 hz1 hz2 _ out rfl hown2 (j : Int) rfl (by omega) (by omega) ?_)
        intro v' w6 hown6 hb6
        have hwj6 : w6.cell? ⟨g, off + j, none⟩ = some (.string s) := (hb6.cell hg).trans hwj
        clear hwj
        go_wp2_with fail
        go_roundw
        case rel => exact ⟨u2, out ++ [(j : Int)], rfl, by rw [List.length_append, List.length_singleton]; omega, HC2, hown6, hb2'.trans hb6⟩
        case measure => show u2.size < u.size; omega
end Go.Proofs.YtkdpdongiehelaaDoor
