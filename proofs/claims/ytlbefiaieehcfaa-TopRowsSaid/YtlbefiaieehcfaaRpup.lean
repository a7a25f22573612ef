/-
  Contracts of rise.pileUp and of the function that it hands to slices.IndexFunc: the tops of the piles by any test of two numbers that changes nothing of the old memory. Conditions: a list of at most 20 numbers from 0 to 1000 (or what is wrong with it).
-/
import Derived.Test.YtlbefiaieehcfaaRchk
import Derived.Test.YtlbefiaieehcfaaIdxI
import Derived.Test.YtlbefiaieehcfaaPilp
import Derived.Test.YtlbefiaieehcfaaRpre
import Derived.Test.YtlbefiaieehcfaaOwnSet
namespace Go.Proofs.Ytlbefiaieehcfaa
open Go.RowKit

/-- A test of two numbers. -/
def TkC (F : FuncId) (tk : Int → Int → Bool) : Prop := (∀ (args : Array Value) (W : World), Sem.run Try.prog (callFunc F args) W = .ok (.enter F args) W) ∧ ∀ (t x : Int) (W : World), Calls Try.prog F #[.int .i64 t, .int .i64 x] W fun e w' => e = .returned (.bool (tk t x)) ∧ w' = W

set_option maxRecDepth 100000 in
theorem tk_fn (F : FuncId) (tk : Int → Int → Bool) (hF : TkC F tk) (V U : Nat) (t x : Int) (w : World)
    (hv : w.heap[V]? = some (.cells #[.func (.func F) #[] #[]] 44 (0, 0))) (hu : w.heap[U]? = some (.cells #[.int .i64 x] 3 (0, 0))) :
    Calls Try.prog 22 (#[.int .i64 t] ++ #[.pointer (some ⟨V, 0, none⟩), .pointer (some ⟨U, 0, none⟩)]) w fun e w' => e = .returned (.bool (tk t x)) ∧ w' = w := by
  have cV := cell_of_one hv
  have cU := cell_of_one hu
  have HF := hid (hF.2 t x w)
  have hcf := hF.1
  clear hF hv hu
  show Calls Try.prog 22 #[.int .i64 t, .pointer (some ⟨V, 0, none⟩), .pointer (some ⟨U, 0, none⟩)] w _
  go_enter Try.func22, Try.ntmps22
  go_wp2_with fail
  refine HF.out.mono ?_
  rintro e w1 ⟨rfl, hw1⟩
  subst w1
  go_wp2_with fail
  go_ret
  exact ⟨rfl, rfl⟩

set_option maxHeartbeats 4000000 in
set_option maxRecDepth 100000 in
theorem pileUp_ok (F : FuncId) (tk : Int → Int → Bool) (hF : TkC F tk) (A : Option Addr) (n c : Nat) (l : List Int) (w : World) (hl : IsInts w w.heap.size A n l) (hg : GoodR l) :
    Calls Try.prog 18 #[.slice A n c, .func (.func F) #[] #[]] w fun e w' => ∃ A' c', e = .returned (.tuple #[.slice A' (topsP tk l.reverse).length c', .nilIface]) ∧ IsInts w' w'.heap.size A' (topsP tk l.reverse).length (topsP tk l.reverse) ∧ Below w.heap.size w w' := by
  obtain ⟨i0, hi, hz0, hz1, hz2⟩ := info_parts int_info
  have hmf : ∀ (fn : Fn) (first cap : Array Value) (w : World), (Instr.makeFunc fn first cap).run Try.prog w = .ok (.func fn first cap) w := fun _ _ _ _ => rfl
  have hcf : ∀ (args : Array Value) (W : World), Sem.run Try.prog (callFunc 22 args) W = .ok (.enter 22 args) W := fun _ _ => rfl
  have HCF := hid hcf
  have HF := hid hF
  have hn20 : n ≤ 20 := by rw [← hl.1]; exact hg.1
  have HLN := hid hl.1
  have hb0 : Below w.heap.size w (w.alloc (.cells #[.func (.func F) #[] #[]] 44)) := (Below.refl _ _).alloc (Nat.le_refl _) _
  have hl0 : IsInts (w.alloc (.cells #[.func (.func F) #[] #[]] 44)) (w.alloc (.cells #[.func (.func F) #[] #[]] 44)).heap.size A n l := (hl.below hb0).keep hb0.size fun _ _ _ => rfl
  have HC := hid ((rcheck_any A n c l (w.alloc (.cells #[.func (.func F) #[] #[]] 44)) hl0).mono fun e w' ⟨h, hw⟩ => (show e = Ending.returned .nilIface ∧ w' = _ from ⟨by
    rcases h with ⟨_, h⟩ | ⟨k, hk, _⟩
    · exact h
    · exact (goodR_not hg hk).elim, hw⟩))
  have HV := hid (heap_alloc_new w (.cells #[.func (.func F) #[] #[]] 44))
  have HL := hid hl0
  clear hl hl0 hg hF hcf
  go_enter Try.func18, Try.ntmps18
  go_wp2_with fail
  refine HC.out.mono ?_
  rintro e w0 ⟨rfl, hw0⟩
  rw [← hw0] at HV HL hb0
  clear HC hw0
  have HB0 := hid hb0
  clear hb0
  go_wp2_with fail
  go_loopw [7, 18] (fun v x wr => ∃ (i : Nat) (z : Value), v = z ∧ i ≤ n ∧ x = .int .i64 i ∧ Hid (OwnI wr w0.heap.size 3 z (topsP tk (pre l i))) ∧ Below w0.heap.size w0 wr) (fun _ x _ => n - (intOf x).toNat)
  case atStart => exact ⟨0, _, rfl, by omega, rfl, hid (OwnI.nil _ _ _), Below.refl _ _⟩
  case round =>
    obtain ⟨i, v, hv, hin, rfl, HO, hbw⟩ := hrel
    have hv := hv.symm
    subst hv
    by_cases hlt : i < n
    · obtain ⟨g, off, rfl, hg, hc⟩ := HL.out.2 (by omega)
      have xi : wr.cell? ⟨g, off + i, none⟩ = some (.int .i64 (l.getD i 0)) := (hbw.cell hg).trans (hc i hlt)
      have hgr : g < wr.heap.size := Nat.lt_of_lt_of_le hg hbw.size
      have HNX := hid (show topsP tk (pre l (i + 1)) = pilP tk (topsP tk (pre l i)) (l.getD i 0) by rw [pre_succ (by rw [HLN.out]; exact hlt)]; rfl)
      have HPA := hid (pilP_at tk (topsP tk (pre l i)) (l.getD i 0))
      have hlen : (topsP tk (pre l i)).length ≤ 20 := by
        have := topsP_len tk (pre l i)
        rw [pre_len (by rw [HLN.out]; exact hin)] at this
        omega
      obtain ⟨T, hT⟩ : ∃ T, T = topsP tk (pre l i) := ⟨_, rfl⟩
      obtain ⟨X, hX⟩ : ∃ X, X = l.getD i 0 := ⟨_, rfl⟩
      rw [← hT, ← hX] at HPA HNX
      rw [← hT] at HO hlen
      rw [← hX] at xi
      clear hT hX hc
      obtain ⟨A3, c3, rfl, hmc, hI⟩ := IsInts.of_own HO.out
      obtain ⟨m, hm⟩ : ∃ m, m = T.length := ⟨_, rfl⟩
      rw [← hm] at hI HPA hlen hmc
      rw [← hm] at HO
      rw [← hm]
      have HTM := hid hm
      have HI := hid hI
      clear hI hm
      have hb1 : Below wr.heap.size wr (wr.alloc (.cells #[.int .i64 X] 3)) := (Below.refl _ _).alloc (Nat.le_refl _) _
      have HO1 := hid (HO.out.below hb1 (Nat.le_refl _))
      have hI1 : IsInts (wr.alloc (.cells #[.int .i64 X] 3)) (wr.alloc (.cells #[.int .i64 X] 3)).heap.size A3 m T := (HI.out.below hb1).keep hb1.size fun _ _ _ => rfl
      have hU1 := heap_alloc_new wr (.cells #[.int .i64 X] 3)
      have hbw1 := hbw.trans (hb1.mono hbw.size)
      have hV1 : (wr.alloc (.cells #[.int .i64 X] 3)).heap[w.heap.size]? = _ := (hbw1.block _ (lt_of_block HV.out)).trans HV.out
      have HIX := hid (idxi_any 22 A3 m c3 #[.pointer (some ⟨w.heap.size, 0, none⟩), .pointer (some ⟨wr.heap.size, 0, none⟩)] T (fun t => tk t X) (wr.alloc (.cells #[.int .i64 X] 3)) (by omega) hI1 HCF.out (fun W x _ hbW =>
        (tk_fn F tk HF.out w.heap.size wr.heap.size x X W ((hbW.block _ (lt_of_block hV1)).trans hV1) ((hbW.block _ (lt_of_block hU1)).trans hU1)).mono fun e w' ⟨he, hw⟩ => ⟨he, by rw [hw]; exact Below.refl _ _⟩))
      have HU1 := hid hU1
      clear hI1 hU1 hV1 hb1 HO HI hbw
      go_wp2_with fail
      refine HIX.out.mono ?_
      clear HIX xi hgr
      generalize wr.heap.size = U at HU1 ⊢
      generalize wr.alloc (.cells #[.int .i64 X] 3) = w1 at HU1 HO1 hbw1 ⊢
      rintro e w2 ⟨hres, hb2⟩
      have HO2 := hid (HO1.out.below hb2 (Nat.le_refl _))
      have hbw2 := hbw1.trans (hb2.mono hbw1.size)
      have hcU := cell_of_one ((hb2.block _ (lt_of_block HU1.out)).trans HU1.out)
      clear HO1 hbw1 HU1 hb2
      rcases hres with ⟨k, hk, hpk, hpn, rfl⟩ | ⟨hpn, rfl⟩
      · have hset := HPA.out k (by omega) (fun j hj => hpn j hj) fun _ => hpk
        rw [if_pos hk] at hset
        have HTX := hid hset
        have hoff : ∃ g3, A3 = some ⟨g3, 0, none⟩ ∧ w0.heap.size ≤ g3 := by
          obtain ⟨g4, c4, e4, hb4, _⟩ := HO2.out.cells (by rw [← HTM.out]; omega)
          injection e4 with e4 _ _
          exact ⟨g4, e4, hb4⟩
        obtain ⟨g3, rfl, hbg⟩ := hoff
        have hf := HO2.out.frozen HTM.out.symm k
        have hck := HO2.out.at_ HTM.out.symm hk
        have HO3 := hid (HO2.out.set HTM.out.symm k X).1
        have hb3 := hbw2.trans (HO2.out.below_set (j := k) (u := .int .i64 X))
        clear HO2 hbw2 hset hpk hpn HPA
        go_wp2_with fail
        go_roundw
        case rel => exact ⟨i + 1, _, rfl, by omega, by go_num, hid (by rw [HNX.out, HTX.out]; exact HO3.out), hb3⟩
        case measure => simp [intOf]; omega
      · have hset := HPA.out m (Nat.le_refl _) (fun j hj => hpn j hj) fun h => absurd h (Nat.lt_irrefl _)
        rw [if_neg (Nat.lt_irrefl _)] at hset
        have HTX := hid hset
        have hlen2 : T.length ≤ 1099511627776 := by rw [← HTM.out]; omega
        have hsz := hbw2.size
        have HOX := HO2.out
        clear hset hpn HPA
        go_wp2_with (at_builtin; refine wpList_append_int _ rfl (.tmp 27) (.tmp 29) 35 rfl w0.heap.size 3 i0 Try.underlying35 hi hz0 hz1 hz2 _ T rfl HOX X rfl hlen2 hsz ?_)
        intro v' w6 hown6 hb6
        have HO6 := hid hown6
        have hbZ := hbw2.trans hb6
        clear hown6 hb6 HO2 hbw2 HOX hcU
        go_wp2_with fail
        go_roundw
        case rel => exact ⟨i + 1, _, rfl, by omega, by go_num, hid (by rw [HNX.out, HTX.out]; exact HO6.out), hbZ⟩
        case measure => simp [intOf]; omega
    · obtain rfl : i = n := by omega
      have HR := hid (pre_all (l := l) (i := i) (by rw [HLN.out]; exact Nat.le_refl _))
      have hd : decide (i < i) = false := decide_eq_false (by omega)
      have HO2 := HO
      rw [HR.out] at HO2
      clear HO HL hlt HR
      obtain ⟨A3, c3, rfl, _, hI⟩ := IsInts.of_own HO2.out
      have HI := hid hI
      clear hI
      obtain ⟨m, hm⟩ : ∃ m, m = (topsP tk l.reverse).length := ⟨_, rfl⟩
      rw [← hm] at HO2 HI ⊢
      have HMM := hid hm
      clear hm
      go_wp2_with fail
      go_ret2
      exact ⟨A3, c3, by rw [← HMM.out]; rfl, by rw [← HMM.out]; exact HI.out, HB0.out.trans (hbw.mono HB0.out.size)⟩

set_option maxRecDepth 100000 in
theorem pileUp_bad (F : FuncId) (A : Option Addr) (n c : Nat) (l : List Int) (k : Int) (w : World) (hl : IsInts w w.heap.size A n l) (hk : BadR l k) :
    Calls Try.prog 18 #[.slice A n c, .func (.func F) #[] #[]] w fun e w' => e = .returned (.tuple #[.slice none 0 0, .iface 40 (.int .i64 k)]) ∧ Below w.heap.size w w' := by
  have hb0 : Below w.heap.size w (w.alloc (.cells #[.func (.func F) #[] #[]] 44)) := (Below.refl _ _).alloc (Nat.le_refl _) _
  have hl0 : IsInts (w.alloc (.cells #[.func (.func F) #[] #[]] 44)) (w.alloc (.cells #[.func (.func F) #[] #[]] 44)).heap.size A n l := (hl.below hb0).keep hb0.size fun _ _ _ => rfl
  have HC := hid ((rcheck_any A n c l (w.alloc (.cells #[.func (.func F) #[] #[]] 44)) hl0).mono fun e w' ⟨h, hw⟩ => (show e = Ending.returned (.iface 40 (.int .i64 k)) ∧ w' = _ from ⟨by
    rcases h with ⟨h, _⟩ | ⟨k', hk', h⟩
    · exact (goodR_not h hk).elim
    · rw [h, badR_one hk hk'], hw⟩))
  clear hl hl0 hk
  go_enter Try.func18, Try.ntmps18
  go_wp2_with fail
  refine HC.out.mono ?_
  rintro e w0 ⟨rfl, hw0⟩
  rw [← hw0] at hb0
  clear HC hw0
  go_wp2_with fail
  go_ret2
  exact ⟨rfl, hb0⟩
end Go.Proofs.Ytlbefiaieehcfaa
