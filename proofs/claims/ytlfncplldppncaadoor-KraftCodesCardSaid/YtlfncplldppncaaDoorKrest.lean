/-
  Contracts of kraft.rests, continued and Free: what follows words in words, what comes of a text, whether no word begins another one, or the error that comes first. Conditions: of the first two words as they should be (and a text of at most 8 signs).
-/
import Derived.Test.YtlfncplldppncaaDoorTcheck
import Derived.Test.YtlfncplldppncaaDoorPref
import Derived.Test.YtlfncplldppncaaDoorOstr
import Derived.Test.YtlfncplldppncaaDoorKsd
namespace Go.Proofs.YtlfncplldppncaaDoor
open Go.RowKit

theorem strK : (Tryd.prog.info? 9).map (fun i => (i.zero, i.size, i.bytes)) = some (some (.string ByteArray.empty), 1, 16) := by kernel_rfl
theorem preB_iff {s t : ByteArray} : preB s t = true ↔ bs t <+: bs s := by
  unfold preB
  rw [decide_eq_true_eq, List.prefix_iff_eq_take, bs_len]
  constructor
  · rintro ⟨_, e⟩
    conv => lhs; rw [← e]
    rw [wb_ext]; simp
  · intro e
    refine ⟨?_, bs_inj (by rw [wb_ext, e]; simp)⟩
    have := congrArg List.length e
    rw [List.length_take, bs_len, bs_len] at this
    omega
theorem preB_no {s t : ByteArray} (h : ¬ bs t <+: bs s) : preB s t = false := by rw [← Bool.not_eq_true]; exact fun e => h (preB_iff.1 e)

set_option maxRecDepth 100000 in
set_option maxHeartbeats 2000000 in
theorem rests_any (A : Option Addr) (n c : Nat) (ws : List ByteArray) (w : World) (hf : Fine ws) (h : IsStrs w w.heap.size A n ws) :
    Calls Tryd.prog 27 #[.slice A n c] w fun e w' => ∃ v l, e = .returned v ∧ Fol (wl ws) l (wl ws).length 0 ∧ l.length ≤ 36 ∧ OwnS w' w.heap.size 9 v l ∧ Below w.heap.size w w' := by
  obtain ⟨i0, hi, hz0, hz1, hz2⟩ := info_parts strK
  have hwl := h.1
  have h6 : n ≤ 6 := by rw [← hwl]; exact hf.1
  have HWl : Hid ((wl ws).length = n) := hid (by rw [wl_len]; exact hwl)
  have HSz : Hid (∀ i, i < n → (wat ws i).size ≤ 8) := hid (fun i hi => (hf.2 i (by omega)).1)
  have HW : Hid (∀ i, i < n → (wl ws).getD i [] = bs (wat ws i)) := hid (fun i hi => wl_getD (by omega))
  have HX : Hid (0 < n → ∃ g off, A = some ⟨g, off, none⟩ ∧ g < w.heap.size ∧ ∀ i, i < n → w.cell? ⟨g, off + i, none⟩ = some (.string (wat ws i))) := hid (fun h0 => h.2 h0)
  clear h hwl hf
  go_enter Tryd.func27, Tryd.ntmps27
  go_wp2_with fail
  go_loopw [3, 10] (fun v x wr => ∃ i : Nat, i ≤ n ∧ x = .int .i64 i ∧ Hid (∃ l, Fol (wl ws) l i 0 ∧ OwnS wr w.heap.size 9 v l) ∧ Below w.heap.size w wr) (fun _ x _ => n - (intOf x).toNat)
  case atStart => exact ⟨0, by omega, rfl, hid ⟨[], fol_nil _, OwnS.nil _ _ _⟩, Below.refl _ _⟩
  case round =>
    obtain ⟨i, hin, rfl, HL, hb⟩ := hrel
    by_cases hlt : i < n
    · obtain ⟨g, off, rfl, hg, hc⟩ := HX.out (by omega)
      have c0 := (hb.cell (p := ⟨g, off + i, none⟩) hg).trans (hc i hlt)
      have s0 := HSz.out i hlt
      have e0 := HW.out i hlt
      obtain ⟨S, hS⟩ : ∃ S, S = wat ws i := ⟨_, rfl⟩
      rw [← hS] at c0 s0 e0
      have HE0 := hid e0
      clear hS e0 hc
      go_wp2_with fail
      obtain ⟨wy, hwy⟩ : ∃ q, q = wr := ⟨_, rfl⟩
      rw [← hwy]
      have hb' : Below w.heap.size w wy := by rw [hwy]; exact hb
      have HL' : Hid (∃ l, Fol (wl ws) l i 0 ∧ OwnS wy w.heap.size 9 u3 l) := hid (by rw [hwy]; exact HL.out)
      clear hwy hb HL
      go_loopw [3, 17] (fun v x wr => ∃ k : Nat, k ≤ n ∧ x = .int .i64 k ∧ Hid (∃ l, Fol (wl ws) l i k ∧ OwnS wr w.heap.size 9 v l) ∧ Below w.heap.size w wr) (fun _ x _ => n - (intOf x).toNat)
      case atStart => exact ⟨0, by omega, rfl, HL', hb'⟩
      case round =>
        clear HL' hb'
        obtain ⟨k, hkn, rfl, HL, hb⟩ := hrel
        have hsz := hb.size
        by_cases hlk : k < n
        · obtain ⟨g', off', hA, hg', hc⟩ := HX.out (by omega)
          obtain ⟨rfl, rfl⟩ : g = g' ∧ off = off' := by injection hA with hA; injection hA with h1 h2 _; exact ⟨h1, h2⟩
          have c1 := (hb.cell (p := ⟨g, off + k, none⟩) hg).trans (hc k hlk)
          have s1 := HSz.out k hlk
          have e1 := HW.out k hlk
          have HP := fun W => hid (prefix_any (wat ws k) S W (by omega) (by omega))
          clear hc hA hg'
          by_cases hik : i = k
          · have hne : ((i : Int) != (k : Int)) = false := by simp [hik]
            have HL2 : Hid (∃ l, Fol (wl ws) l i (k + 1) ∧ OwnS wr w.heap.size 9 u3 l) := hid (by
              obtain ⟨l, h1, h2⟩ := HL.out
              exact ⟨l, fol_no h1 (.inl hik), h2⟩)
            generalize wat ws k = T at c1 s1 e1 HP
            clear HL hik e1
            go_wp2_with fail
            go_roundw
            case rel => exact ⟨k + 1, by omega, by go_num, HL2, hb⟩
            case measure => simp [intOf]; omega
          · have hne : ((i : Int) != (k : Int)) = true := by simp; omega
            by_cases hp : bs S <+: bs (wat ws k)
            · obtain ⟨l, hF, hO⟩ := HL.out
              have HF2 := hid (fol_yes hF (by rw [HWl.out]; exact hlt) (by rw [HWl.out]; exact hlk) hik (a := rst (wat ws k) S) (by rw [e1, HE0.out]; exact rst_bs hp))
              have hll : l.length ≤ 1099511627776 := by have := hF.few; omega
              have HO := hid hO
              rw [preB_iff.2 hp] at HP
              have hle := hp.length_le
              rw [bs_len, bs_len] at hle
              have hcut : ∀ W : World, Sem.run Tryd.prog (Instr.slice 9 (.string (wat ws k)) (some (.int .i64 (S.size : Int))) none none) W = .ok (.string (rst (wat ws k) S)) W := fun W =>
                run_slice_string_l W 9 (wat ws k) Tryd.underlying9 .i64 (S.size : Int) (by omega) (by omega)
              generalize rst (wat ws k) S = X at HF2 hcut
              generalize wat ws k = T at c1 s1 e1 HP hcut hle
              clear hp hF hO HL e1 hle
              go_wp2_with fail
              refine (HP _).out.mono ?_
              rintro e w5 ⟨rfl, hw5⟩
              subst w5
              go_wp2_with (at_builtin; refine wpList_append_str _ rfl (.tmp 30) (.tmp 35) 23 rfl w.heap.size 9 i0 Tryd.underlying23 hi hz0 hz1 hz2 _ l rfl HO.out X rfl hll hsz ?_)
              intro v' w7 hown7 hb7
              have HO7 := hid hown7
              clear hown7
              go_wp2_with fail
              go_roundw
              case rel => exact ⟨k + 1, by omega, by go_num, hid ⟨_, HF2.out, HO7.out⟩, hb.trans hb7⟩
              case measure => simp [intOf]; omega
            · have HL2 : Hid (∃ l, Fol (wl ws) l i (k + 1) ∧ OwnS wr w.heap.size 9 u3 l) := hid (by
                obtain ⟨l, h1, h2⟩ := HL.out
                exact ⟨l, fol_no h1 (.inr (by rw [e1, HE0.out]; exact hp)), h2⟩)
              rw [preB_no hp] at HP
              generalize wat ws k = T at c1 s1 e1 HP
              clear HL hp e1
              go_wp2_with fail
              refine (HP _).out.mono ?_
              rintro e w5 ⟨rfl, hw5⟩
              subst w5
              go_wp2_with fail
              go_roundw
              case rel => exact ⟨k + 1, by omega, by go_num, HL2, hb⟩
              case measure => simp [intOf]; omega
        · obtain rfl : k = n := by omega
          have HL2 : Hid (∃ l, Fol (wl ws) l (i + 1) 0 ∧ OwnS wr w.heap.size 9 u3 l) := hid (by
            obtain ⟨l, h1, h2⟩ := HL.out
            exact ⟨l, fol_row (by rw [HWl.out]; exact h1) (by rw [HWl.out]; exact h6), h2⟩)
          clear HL
          go_wp2_with fail
          go_roundw
          case rel => exact ⟨i + 1, by omega, by go_num, HL2, hb⟩
          case measure => simp [intOf]; omega
    · obtain rfl : i = n := by omega
      go_wp2_with fail
      go_ret
      obtain ⟨l, h1, h2⟩ := HL.out
      exact ⟨_, l, rfl, by rw [HWl.out]; exact h1, by have := h1.few; omega, h2, hb⟩

set_option maxRecDepth 100000 in
set_option maxHeartbeats 2000000 in
theorem continued_any (a : ByteArray) (A : Option Addr) (n c : Nat) (ws : List ByteArray) (w : World) (ha : a.size ≤ 8) (hf : Fine ws) (h : IsStrs w w.heap.size A n ws) :
    Calls Tryd.prog 29 #[.string a, .slice A n c] w fun e w' => ∃ v f, e = .returned v ∧ Cnt (wl ws) a f (wl ws).length ∧ f.length ≤ 6 ∧ OwnS w' w.heap.size 9 v f ∧ Below w.heap.size w w' := by
  obtain ⟨i0, hi, hz0, hz1, hz2⟩ := info_parts strK
  have hwl := h.1
  have h6 : n ≤ 6 := by rw [← hwl]; exact hf.1
  have HWl : Hid ((wl ws).length = n) := hid (by rw [wl_len]; exact hwl)
  have HSz : Hid (∀ i, i < n → (wat ws i).size ≤ 8) := hid (fun i hi => (hf.2 i (by omega)).1)
  have HW : Hid (∀ i, i < n → (wl ws).getD i [] = bs (wat ws i)) := hid (fun i hi => wl_getD (by omega))
  have HX : Hid (0 < n → ∃ g off, A = some ⟨g, off, none⟩ ∧ g < w.heap.size ∧ ∀ i, i < n → w.cell? ⟨g, off + i, none⟩ = some (.string (wat ws i))) := hid (fun h0 => h.2 h0)
  clear h hwl hf
  go_enter Tryd.func29, Tryd.ntmps29
  go_wp2_with fail
  go_loopw [5, 10] (fun v x wr => ∃ i : Nat, i ≤ n ∧ x = .int .i64 i ∧ Hid (∃ f, Cnt (wl ws) a f i ∧ OwnS wr w.heap.size 9 v f) ∧ Below w.heap.size w wr) (fun _ x _ => n - (intOf x).toNat)
  case atStart => exact ⟨0, by omega, rfl, hid ⟨[], cnt_nil _ _, OwnS.nil _ _ _⟩, Below.refl _ _⟩
  case round =>
    obtain ⟨i, hin, rfl, HL, hb⟩ := hrel
    have hsz := hb.size
    by_cases hlt : i < n
    · obtain ⟨g, off, rfl, hg, hc⟩ := HX.out (by omega)
      have c1 := (hb.cell (p := ⟨g, off + i, none⟩) hg).trans (hc i hlt)
      have s1 := HSz.out i hlt
      have e1 := HW.out i hlt
      obtain ⟨f, hF, hO⟩ := HL.out
      have hll : f.length ≤ 1099511627776 := by have := hF.few; omega
      have HO := hid hO
      have HP1 := fun W => hid (prefix_any a (wat ws i) W (by omega) (by omega))
      have HP2 := fun W => hid (prefix_any (wat ws i) a W (by omega) (by omega))
      have hil : i < (wl ws).length := by rw [HWl.out]; exact hlt
      clear hc HL hO
      by_cases hp1 : bs (wat ws i) <+: bs a
      · have HF2 := hid (cnt_yes hF hil (r := rst a (wat ws i)) (.inr (by rw [e1]; exact rst_bs hp1)))
        rw [preB_iff.2 hp1] at HP1
        have hle := hp1.length_le
        rw [bs_len, bs_len] at hle
        have hcut : ∀ W : World, Sem.run Tryd.prog (Instr.slice 9 (.string a) (some (.int .i64 ((wat ws i).size : Int))) none none) W = .ok (.string (rst a (wat ws i))) W := fun W =>
          run_slice_string_l W 9 a Tryd.underlying9 .i64 ((wat ws i).size : Int) (by omega) (by omega)
        generalize rst a (wat ws i) = X at HF2 hcut
        generalize wat ws i = T at c1 s1 e1 HP1 HP2 hcut hle
        clear hp1 hF e1 hle hil HP2
        go_wp2_with fail
        refine (HP1 _).out.mono ?_
        rintro e w5 ⟨rfl, hw5⟩
        subst w5
        go_wp2_with (at_builtin; refine wpList_append_str _ rfl (.tmp 17) (.tmp 22) 23 rfl w.heap.size 9 i0 Tryd.underlying23 hi hz0 hz1 hz2 _ f rfl HO.out X rfl hll hsz ?_)
        intro v' w7 hown7 hb7
        have HO7 := hid hown7
        clear hown7
        go_wp2_with fail
        go_roundw
        case rel => exact ⟨i + 1, by omega, by go_num, hid ⟨_, HF2.out, HO7.out⟩, hb.trans hb7⟩
        case measure => simp [intOf]; omega
      · by_cases hp2 : bs a <+: bs (wat ws i)
        · have HF2 := hid (cnt_yes hF hil (r := rst (wat ws i) a) (.inl (by rw [e1]; exact rst_bs hp2)))
          rw [preB_no hp1] at HP1
          rw [preB_iff.2 hp2] at HP2
          have hle := hp2.length_le
          rw [bs_len, bs_len] at hle
          have hcut : ∀ W : World, Sem.run Tryd.prog (Instr.slice 9 (.string (wat ws i)) (some (.int .i64 (a.size : Int))) none none) W = .ok (.string (rst (wat ws i) a)) W := fun W =>
            run_slice_string_l W 9 (wat ws i) Tryd.underlying9 .i64 (a.size : Int) (by omega) (by omega)
          generalize rst (wat ws i) a = X at HF2 hcut
          generalize wat ws i = T at c1 s1 e1 HP1 HP2 hcut hle
          clear hp1 hp2 hF e1 hle hil
          go_wp2_with fail
          refine (HP1 _).out.mono ?_
          rintro e w5 ⟨rfl, hw5⟩
          subst w5
          go_wp2_with fail
          refine (HP2 _).out.mono ?_
          rintro e w5 ⟨rfl, hw5⟩
          subst w5
          go_wp2_with (at_builtin; refine wpList_append_str _ rfl (.tmp 27) (.tmp 32) 23 rfl w.heap.size 9 i0 Tryd.underlying23 hi hz0 hz1 hz2 _ f rfl HO.out X rfl hll hsz ?_)
          intro v' w7 hown7 hb7
          have HO7 := hid hown7
          clear hown7
          go_wp2_with fail
          go_roundw
          case rel => exact ⟨i + 1, by omega, by go_num, hid ⟨_, HF2.out, HO7.out⟩, hb.trans hb7⟩
          case measure => simp [intOf]; omega
        · have HF2 := hid (cnt_no hF (i := i) (by rw [e1]; exact hp2) (by rw [e1]; exact hp1))
          rw [preB_no hp1] at HP1
          rw [preB_no hp2] at HP2
          generalize wat ws i = T at c1 s1 e1 HP1 HP2
          clear hp1 hp2 hF e1 hil
          go_wp2_with fail
          refine (HP1 _).out.mono ?_
          rintro e w5 ⟨rfl, hw5⟩
          subst w5
          go_wp2_with fail
          refine (HP2 _).out.mono ?_
          rintro e w5 ⟨rfl, hw5⟩
          subst w5
          go_wp2_with fail
          go_roundw
          case rel => exact ⟨i + 1, by omega, by go_num, hid ⟨_, HF2.out, HO.out⟩, hb⟩
          case measure => simp [intOf]; omega
    · obtain rfl : i = n := by omega
      go_wp2_with fail
      go_ret
      obtain ⟨f, h1, h2⟩ := HL.out
      exact ⟨_, f, rfl, by rw [HWl.out]; exact h1, by have := h1.few; omega, h2, hb⟩

theorem kfree_ok (A : Option Addr) (n c : Nat) (ws : List ByteArray) (w : World) (hf : Fine ws) (h : IsStrs w w.heap.size A n ws) :
    Calls Tryd.prog 15 #[.slice A n c] w fun e w' => ∃ b : Bool, (b = true ↔ Pfree (wl ws)) ∧ e = .returned (.tuple #[.bool b, .nilIface]) ∧ Below w.heap.size w w' := by
  have HC := hid (tcheck_ok A n c ws w hf h)
  have HR := fun (W : World) (hW : Below w.heap.size w W) => hid (rests_any A n c ws W hf ((h.below hW).mono hW.size))
  clear h hf
  go_enter Tryd.func15, Tryd.ntmps15
  go_wp2_with fail
  refine HC.out.mono ?_
  rintro e w1 ⟨rfl, hb1⟩
  have HR1 := HR w1 hb1
  clear HC HR
  go_wp2_with fail
  refine HR1.out.mono ?_
  rintro e w2 ⟨v, l, rfl, hF, hl, hO, hb2⟩
  have hb := hb1.trans (hb2.mono hb1.size)
  obtain ⟨B, cB, rfl, _⟩ := hO.strs
  have HF := hid (fol_free hF)
  generalize l.length = m at hl HF
  clear hF hO hb1 hb2 HR1
  by_cases h0 : m = 0
  · have HY := hid (HF.out.1 h0)
    subst h0
    go_wp2_with fail
    go_ret2
    exact ⟨true, ⟨fun _ => HY.out, fun _ => rfl⟩, rfl, hb⟩
  · have HN : Hid (¬ Pfree (wl ws)) := hid (fun hp => h0 (HF.out.2 hp))
    have m1 : ((m : Int) == 0) = false := by simp; omega
    go_wp2_with fail
    go_ret2
    exact ⟨false, ⟨fun h => (by cases h), fun h => absurd h HN.out⟩, rfl, hb⟩
theorem kfree_bad (A : Option Addr) (n c : Nat) (ws : List ByteArray) (k : Int) (w : World) (hn : n ≤ maxLen) (hs : ∀ i, i < n → (wat ws i).size ≤ maxLen) (hk : Bad ws k) (h : IsStrs w w.heap.size A n ws) :
    Calls Tryd.prog 15 #[.slice A n c] w fun e w' => e = .returned (.tuple #[.bool false, .iface 44 (.int .i64 k)]) ∧ Below w.heap.size w w' := by
  have HC := hid (tcheck_bad A n c ws k w hn hs hk h)
  clear h hk hs hn
  go_enter Tryd.func15, Tryd.ntmps15
  go_wp2_with fail
  refine HC.out.mono ?_
  rintro e w1 ⟨rfl, hb1⟩
  go_wp2_with fail
  go_ret2
  exact ⟨rfl, hb1⟩
end Go.Proofs.YtlfncplldppncaaDoor
