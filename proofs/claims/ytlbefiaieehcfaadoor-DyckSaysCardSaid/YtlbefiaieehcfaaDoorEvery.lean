/-
  Contract of letterbeckref3.Every: all texts of brackets behind a beginning, in order, in a slice of its own. Conditions: at most 16 brackets more, a beginning of at most a thousand.
-/
import Derived.Test.YtlbefiaieehcfaaDoorBase
import Derived.Test.YtlbefiaieehcfaaDoorEvM
import Derived.Test.YtlbefiaieehcfaaDoorSapp
import Derived.Laws.Concat
namespace Go.Proofs.YtlbefiaieehcfaaDoor
open Go.RowKit

theorem every_info : (Tryd.prog.info? 9).map (fun i => (i.zero, i.size, i.bytes)) = some (some (.string ByteArray.empty), 1, 16) := by kernel_rfl
/-- What the function says. -/
def EvC (s : ByteArray) (o l : Nat) (w : World) : Prop :=
  Calls Tryd.prog 7 #[.string s, .int .i64 (o : Int), .int .i64 (l : Int)] w fun e w' => ∃ g c, e = .returned (.slice (some ⟨g, 0, none⟩) (bal o l) c) ∧ IsStrs w' w'.heap.size (some ⟨g, 0, none⟩) (bal o l) (evS s o l) ∧ Below w.heap.size w w'
theorem own_strs {w : World} {base : Nat} {e : TypeId} {v : Value} {ws : List ByteArray} (h : OwnS w base e v ws) (h0 : 0 < ws.length) : ∃ g c, v = .slice (some ⟨g, 0, none⟩) ws.length c ∧ IsStrs w w.heap.size (some ⟨g, 0, none⟩) ws.length ws := by
  obtain ⟨A, c, hv, hr⟩ := h.read
  obtain ⟨g, rfl, _⟩ := hr 0 h0
  refine ⟨g, c, hv, rfl, fun _ => ⟨g, 0, rfl, ?_, fun j hj => ?_⟩⟩
  · exact (World.ownsRow.lt h g (by rw [hv]; rfl)).2
  · obtain ⟨g', e1, hc⟩ := hr j hj
    injection e1 with e1
    injection e1 with e1
    subst e1
    rw [Nat.zero_add]
    exact hc
set_option maxHeartbeats 4000000 in
set_option maxRecDepth 100000 in
theorem every_step (s : ByteArray) (o l : Nat) (w : World) (hl : l + 1 ≤ 16) (ho : o ≤ 100) (hs : s.size + l ≤ 1000) (ih : ∀ (s' : ByteArray) (o' : Nat) (W : World), o' ≤ o + 1 → s'.size = s.size + 1 → EvC s' o' l W) : EvC s o (l + 1) w := by
  obtain ⟨i0, hi, hz0, hz1, hz2⟩ := info_parts every_info
  unfold EvC at ih ⊢
  have HS := hid (evS_succ s o l)
  have hB := bal_succ o l
  have HB := hid hB
  have hA1 := fun W => run_string_add_sum (P := Tryd.prog) W s (⟨#[40]⟩ : ByteArray) (by show s.size + 1 ≤ maxLen; unfold maxLen; omega)
  have hA2 := fun W => run_string_add_sum (P := Tryd.prog) W s (⟨#[41]⟩ : ByteArray) (by show s.size + 1 ≤ maxLen; unfold maxLen; omega)
  have hz1' : (s ++ (⟨#[40]⟩ : ByteArray)).size = s.size + 1 := by rw [ByteArray.size_append]; rfl
  have hz2' : (s ++ (⟨#[41]⟩ : ByteArray)).size = s.size + 1 := by rw [ByteArray.size_append]; rfl
  obtain ⟨P, hP⟩ : ∃ P, P = o - 1 := ⟨_, rfl⟩
  have H1 := fun W => ih (s ++ (⟨#[40]⟩ : ByteArray)) (o + 1) W (Nat.le_refl _) hz1'
  rw [show ((o + 1 : Nat) : Int) = (o : Int) + 1 by push_cast; rfl] at H1
  have H1 := fun W => hid (H1 W)
  have H2 := fun W => hid (ih (s ++ (⟨#[41]⟩ : ByteArray)) P W (by omega) hz2')
  rw [← hP] at hB HS
  have HB := hid hB
  have hp1 := Nat.le_trans (bal_pow l (o + 1)) (pow_16 (by omega))
  have hp2 := Nat.le_trans (bal_pow l P) (pow_16 (by omega))
  have hl1 := evS_len (s ++ (⟨#[40]⟩ : ByteArray)) (o + 1) l
  have hl2 := evS_len (s ++ (⟨#[41]⟩ : ByteArray)) P l
  have hpos := bal_pos l (o + 1)
  have hpos2 := bal_pos l P
  clear ih hz1' hz2' hB
  generalize evS (s ++ (⟨#[40]⟩ : ByteArray)) (o + 1) l = X1 at HS H1 hl1
  generalize evS (s ++ (⟨#[41]⟩ : ByteArray)) P l = X2 at HS H2 hl2
  generalize evS s o (l + 1) = X at HS ⊢
  generalize s ++ (⟨#[40]⟩ : ByteArray) = s1 at hA1 H1
  generalize s ++ (⟨#[41]⟩ : ByteArray) = s2 at hA2 H2
  generalize bal (o + 1) l = b1 at HB H1 hp1 hl1 hpos
  generalize bal P l = b2 at HB H2 hp2 hl2 hpos2
  generalize bal o (l + 1) = b at HB ⊢
  obtain ⟨L, hL⟩ : ∃ L, L = l + 1 := ⟨_, rfl⟩
  rw [← hL] at HB HS ⊢
  have hL0 : ((L : Int) == 0) = false := beq_eq_false_iff_ne.2 (by omega)
  have e2 : (L : Int) - 1 = (l : Int) := by omega
  have hL16 : L ≤ 16 := by omega
  by_cases h2 : 0 < o
  focus
    have g2 : (o : Int) > 0 := by omega
    have e3 : (o : Int) - 1 = (P : Int) := by omega
    clear hP
    by_cases h1 : o < L
    · rw [if_pos h1, if_pos h2] at HB
      rw [if_pos h1, if_pos h2] at HS
      have g1 : (o : Int) < (L : Int) := by omega
      clear hL
      go_enter Tryd.func7, Tryd.ntmps7
      go_wp2_with fail
      refine (H1 _).out.mono ?_
      rintro e w1 ⟨ga, ca, rfl, hI1, hb1⟩
      have hlenA : ([] : List ByteArray).length + b1 ≤ 1099511627776 := by simp; omega
      have hsz1 := hb1.size
      go_wp2_with (at_builtin; refine wpList_append_strs _ rfl (.tmp 15) (.tmp 22) 27 rfl w.heap.size 9 i0 Tryd.underlying27 hi hz0 hz1 hz2 _ [] rfl (OwnS.nil _ _ _) ⟨ga, 0, none⟩ b1 ca w1.heap.size X1 hI1 rfl hlenA hsz1 ?_)
      intro v2 w2 hown2 hb2
      have hO2 : OwnS w2 w.heap.size 9 v2 X1 := by simpa using hown2
      have hbB := hb1.trans hb2
      clear hown2 hI1 hb1 hb2 hsz1 hlenA H1
      have hbs := hbB.size
      go_wp2_with fail
      refine (H2 _).out.mono ?_
      rintro e w3 ⟨gb, cb, rfl, hI3, hb3⟩
      have hO3 : OwnS w3 w.heap.size 9 v2 X1 := by
        refine ⟨hO2.1, ?_⟩
        rcases hO2.2 with h' | ⟨g, cap, cur, q1, q2, q3, q4⟩
        · exact .inl h'
        · refine .inr ⟨g, cap, cur, q1, q2, ?_, q4⟩
          have hlt : g < w2.heap.size := (Array.getElem?_eq_some_iff.1 q3).1
          rw [hb3.block g hlt]; exact q3
      have hbC := hbB.trans (hb3.mono hbs)
      have hlenB : X1.length + b2 ≤ 1099511627776 := by rw [hl1]; omega
      have hsz3 := hbC.size
      clear hbB hbs hb3 hO2 H2
      go_wp2_with (at_builtin; refine wpList_append_strs _ rfl (.tmp 26) (.tmp 33) 27 rfl w.heap.size 9 i0 Tryd.underlying27 hi hz0 hz1 hz2 v2 X1 rfl hO3 ⟨gb, 0, none⟩ b2 cb w3.heap.size X2 hI3 rfl hlenB hsz3 ?_)
      intro v4 w4 hown4 hb4
      have hbD := hbC.trans hb4
      rw [← HS.out] at hown4
      have hXl : X.length = b := by rw [HS.out, HB.out, List.length_append, hl1, hl2]
      obtain ⟨g9, c9, rfl, hI9⟩ := own_strs hown4 (by rw [hXl, HB.out]; omega)
      rw [hXl] at hI9 ⊢
      clear hown4 hb4 hbC hO3 hI3
      go_wp2_with fail
      go_ret
      exact ⟨_, _, rfl, hI9, hbD⟩
    · rw [if_neg h1, if_pos h2, Nat.zero_add] at HB
      rw [if_neg h1, if_pos h2, List.nil_append] at HS
      have g1 : ¬ (o : Int) < (L : Int) := by omega
      clear hL
      go_enter Tryd.func7, Tryd.ntmps7
      go_wp2_with fail
      refine (H2 _).out.mono ?_
      rintro e w1 ⟨ga, ca, rfl, hI1, hb1⟩
      have hlenA : ([] : List ByteArray).length + b2 ≤ 1099511627776 := by simp; omega
      have hsz1 := hb1.size
      go_wp2_with (at_builtin; refine wpList_append_strs _ rfl (.tmp 26) (.tmp 33) 27 rfl w.heap.size 9 i0 Tryd.underlying27 hi hz0 hz1 hz2 _ [] rfl (OwnS.nil _ _ _) ⟨ga, 0, none⟩ b2 ca w1.heap.size X2 hI1 rfl hlenA hsz1 ?_)
      intro v2 w2 hown2 hb2
      have hO2 : OwnS w2 w.heap.size 9 v2 X2 := by simpa using hown2
      have hbB := hb1.trans hb2
      rw [← HS.out] at hO2
      have hXl : X.length = b := by rw [HS.out, HB.out, hl2]
      obtain ⟨g9, c9, rfl, hI9⟩ := own_strs hO2 (by rw [hXl, HB.out]; omega)
      rw [hXl] at hI9 ⊢
      clear hown2 hI1 hb1 hb2 hsz1 hlenA H1 H2 hO2
      go_wp2_with fail
      go_ret
      exact ⟨_, _, rfl, hI9, hbB⟩
  have g2 : ¬ (o : Int) > 0 := by omega
  have h1 : o < L := by omega
  rw [if_pos h1, if_neg h2, Nat.add_zero] at HB
  rw [if_pos h1, if_neg h2, List.append_nil] at HS
  have g1 : (o : Int) < (L : Int) := by omega
  clear hL hP
  go_enter Tryd.func7, Tryd.ntmps7
  go_wp2_with fail
  refine (H1 _).out.mono ?_
  rintro e w1 ⟨ga, ca, rfl, hI1, hb1⟩
  have hlenA : ([] : List ByteArray).length + b1 ≤ 1099511627776 := by simp; omega
  have hsz1 := hb1.size
  go_wp2_with (at_builtin; refine wpList_append_strs _ rfl (.tmp 15) (.tmp 22) 27 rfl w.heap.size 9 i0 Tryd.underlying27 hi hz0 hz1 hz2 _ [] rfl (OwnS.nil _ _ _) ⟨ga, 0, none⟩ b1 ca w1.heap.size X1 hI1 rfl hlenA hsz1 ?_)
  intro v2 w2 hown2 hb2
  have hO2 : OwnS w2 w.heap.size 9 v2 X1 := by simpa using hown2
  have hbB := hb1.trans hb2
  rw [← HS.out] at hO2
  have hXl : X.length = b := by rw [HS.out, HB.out, hl1]
  obtain ⟨g9, c9, rfl, hI9⟩ := own_strs hO2 (by rw [hXl, HB.out]; omega)
  rw [hXl] at hI9 ⊢
  clear hown2 hI1 hb1 hb2 hsz1 hlenA H1 H2 hO2
  go_wp2_with fail
  go_ret
  exact ⟨_, _, rfl, hI9, hbB⟩
theorem every_none (s : ByteArray) (o : Nat) (w : World) : EvC s o 0 w := by
  unfold EvC
  rw [evS_zero, bal_zero]
  go_enter Tryd.func7, Tryd.ntmps7
  go_wp2_with fail
  go_ret
  refine ⟨_, _, rfl, ⟨rfl, fun _ => ⟨_, 0, rfl, by simp, fun j hj => ?_⟩⟩, (Below.refl _ _).alloc (Nat.le_refl _) _⟩
  obtain rfl : j = 0 := by omega
  exact cell_of_row _ _ 0 _ 9 (0, 0) (heap_alloc_new w _)
theorem every_any : ∀ (l : Nat) (s : ByteArray) (o : Nat) (w : World), l ≤ 16 → o + l ≤ 100 → s.size + l ≤ 1000 → EvC s o l w
  | 0, s, o, w, _, _, _ => every_none s o w
  | l + 1, s, o, w, h1, h2, h3 => every_step s o l w h1 (by omega) (by omega) fun s' o' W ho hs => every_any l s' o' W (by omega) (by omega) (by omega)
end Go.Proofs.YtlbefiaieehcfaaDoor
