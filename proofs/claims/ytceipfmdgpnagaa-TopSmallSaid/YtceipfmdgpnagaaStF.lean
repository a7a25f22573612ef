/-
  Contracts of slices.stableCmpFunc and slices.SortStableFunc at ints, for at most 24 elements: the row comes into the order T that the test tells of any two elements, the first one standing ahead. No element: nothing turns.
-/
import Derived.Test.YtceipfmdgpnagaaStG
namespace Go.Proofs.Ytceipfmdgpnagaa
open Go.Shelf Go.RowKit Go.Lib Go.Sort
variable {α : Type} [Inhabited α]

/-- Two rows sorted by insertion, one behind the other. -/
theorem two_rows {lt : α → α → Bool} {T : α → α → Prop} (hT : Tot T) {d : Array α} {m b : Nat} (hm : m ≤ b) (hb : b ≤ d.size)
    (hA : ∀ x y, x < y → y < b → (lt d[y]! d[x]! = true → T d[y]! d[x]!) ∧ (lt d[y]! d[x]! = false → T d[x]! d[y]!)) :
    Frm d (insertionSort lt (insertionSort lt d 0 m) m b) 0 b ∧ Srt T (insertionSort lt (insertionSort lt d 0 m) m b) 0 m ∧ Srt T (insertionSort lt (insertionSort lt d 0 m) m b) m b ∧ Agr lt T (insertionSort lt (insertionSort lt d 0 m) m b) 0 m b := by
  obtain ⟨f1, s1⟩ := ins_srt (lt := lt) hT 0 m d (Nat.zero_le _) (by omega) (fun x y _ h1 h2 => hA x y h1 (by omega))
  generalize insertionSort lt d 0 m = e at f1 s1
  obtain ⟨f2, s2⟩ := ins_srt (lt := lt) hT m b e hm (by rw [f1.1]; exact hb) (fun x y hx h1 h2 => by
    rw [f1.2.1 x (.inr hx), f1.2.1 y (.inr (by omega))]; exact hA x y h1 h2)
  generalize insertionSort lt e m b = f at f2 s2
  refine ⟨(f1.wide (Nat.le_refl _) hm).trans (f2.wide (Nat.zero_le _) (Nat.le_refl _)), f2.srt (.inl (Nat.le_refl _)) s1, s2, fun x y x1 x2 y1 y2 => ?_⟩
  obtain ⟨x', _, hx2, hx3⟩ := f1.2.2 x x1 x2
  obtain ⟨y', hy1, hy2, hy3⟩ := f2.2.2 y y1 y2
  rw [f2.2.1 x (.inl x2), hx3, hy3, f1.2.1 y' (.inr hy1)]
  exact hA x' y' (by omega) hy2

theorem ins_none (p : Option Addr) (cap : Nat) (fv : Value) (w : World) :
    Calls Try.prog 53 #[.slice p 0 cap, .int .i64 0, .int .i64 0, fv] w fun e w' => e = .returned (.tuple #[]) ∧ w' = w := by
  go_enter Try.func53, Try.ntmps53
  go_wp2
  refine wp_loop_rounds 1 ?_
  rw [rounds_succ]
  go_wp2
  go_end0
  exact ⟨rfl, rfl⟩
set_option maxRecDepth 100000 in
theorem stable_none (p : Option Addr) (cap : Nat) (fv : Value) (w : World) :
    Calls Try.prog 41 #[.slice p 0 cap, .int .i64 0, fv] w fun e w' => e = .returned (.tuple #[]) ∧ w' = w := by
  have H := hid (ins_none p cap fv w)
  go_enter Try.func41, Try.ntmps41
  go_wp2
  refine wp_loop_rounds 1 ?_
  rw [rounds_succ]
  go_wp2_with fail
  refine H.out.mono ?_
  rintro e w' ⟨rfl, hw'⟩
  subst w'
  go_wp2_with fail
  refine wp_loop_rounds 1 ?_
  rw [rounds_succ]
  go_wp2
  go_end0
  exact ⟨rfl, rfl⟩
theorem sortstable_none (p : Option Addr) (cap : Nat) (fv : Value) (w : World) :
    Calls Try.prog 33 #[.slice p 0 cap, fv] w fun e w' => e = .returned (.tuple #[]) ∧ w' = w := by
  have H := hid (stable_none p cap fv w)
  go_enter Try.func33, Try.ntmps33
  go_wp2_with fail
  refine H.out.mono ?_
  rintro e w' ⟨rfl, hw'⟩
  subst w'
  go_wp2_with fail
  go_end0
  exact ⟨rfl, rfl⟩

/-- What a stable sort asks and gives. -/
def StbC (enc : α → Value) (T : α → α → Prop) (blk off : Nat) (d : Array α) (w : World) (e : Ending) (w' : World) : Prop :=
  e = .returned (.tuple #[]) ∧ ∃ d', (Frm d d' 0 d.size ∧ Srt T d' 0 d.size) ∧ SW enc w blk off d' w'

set_option maxHeartbeats 4000000 in
set_option maxRecDepth 1000000 in
theorem stable_any (enc : α → Value) (cf : α → α → Int) (T : α → α → Prop) (hT : Tot T) (g : Nat) (cb : Array Value) (blk off cap : Nat) (d : Array α) (w : World)
    (eg : ∀ args w, (callFunc g args).run Try.prog w = .ok (.enter g args) w) (hcmp : CmpLays1 Try.prog g cb enc cf blk off d.size w) (R : Row1 enc w blk off d) (hsz : d.size ≤ 24)
    (hA : ∀ x y, x < y → y < d.size → (ltOf cf d[y]! d[x]! = true → T d[y]! d[x]!) ∧ (ltOf cf d[y]! d[x]! = false → T d[x]! d[y]!)) :
    Calls Try.prog 41 #[.slice (some ⟨blk, off, none⟩) d.size cap, .int .i64 d.size, .func (.func g) #[] cb] w (StbC enc T blk off d w) := by
  have hins : ∀ (a b : Nat) (dk : Array α) (wk : World), d.size = dk.size → a ≤ b → b ≤ dk.size → SW enc w blk off dk wk → Calls Try.prog 53 #[.slice (some ⟨blk, off, none⟩) dk.size cap, .int .i64 a, .int .i64 b, .func (.func g) #[] cb] wk fun e w' => e = .returned (.tuple #[]) ∧ SW enc w blk off (insertionSort (ltOf cf) dk a b) w' := fun a b dk wk h1 h2 h3 S =>
    Any.insertionSortCmpFunc_s insInt enc cf g cb blk off cap a b d dk w wk eg hcmp R h1 S h2 h3 (by omega)
  have HIN := hid hins
  have S0 : SW enc w blk off d w := SW.start R.hH
  by_cases h20 : d.size < 20
  · have h20z : ¬ (20 : Int) ≤ (d.size : Int) := by omega
    have h20y : ¬ (20 : Int) < (d.size : Int) := by omega
    have c1 := hid (HIN.out 0 d.size d w rfl (by omega) (Nat.le_refl _) S0)
    have hfin := ins_srt (lt := ltOf cf) hT 0 d.size d (Nat.zero_le _) (Nat.le_refl _) (fun x y _ h1 h2 => hA x y h1 h2)
    have HF := hid hfin
    clear hins HIN S0 hfin hA hcmp R
    go_enter Try.func41, Try.ntmps41
    go_wp2
    refine wp_loop_rounds 1 ?_
    rw [rounds_succ]
    go_wp2_with fail
    refine c1.out.mono ?_
    rintro e w1 ⟨rfl, S1⟩
    have HS1 := hid S1
    clear S1
    go_wp2_with fail
    refine wp_loop_rounds 1 ?_
    rw [rounds_succ]
    go_wp2_with fail
    go_end0
    exact ⟨rfl, _, HF.out, HS1.out⟩
  · have h20z : (20 : Int) ≤ (d.size : Int) := by omega
    have h40z : ¬ (40 : Int) ≤ (d.size : Int) := by omega
    have c1 := hid (HIN.out 0 20 d w rfl (by omega) (by omega) S0)
    have htwo := two_rows (lt := ltOf cf) (m := 20) (b := d.size) hT (by omega) (Nat.le_refl _) hA
    have HT := hid htwo
    obtain ⟨n, hn⟩ : ∃ n, n = d.size := ⟨_, rfl⟩
    have hd1 : (insertionSort (ltOf cf) d 0 20).size = d.size := (ins_srt (lt := ltOf cf) hT 0 20 d (Nat.zero_le _) (by omega) (fun x y _ h1 h2 => hA x y h1 (by omega))).1.1
    have hd2 : (insertionSort (ltOf cf) (insertionSort (ltOf cf) d 0 20) 20 d.size).size = d.size := htwo.1.1
    generalize insertionSort (ltOf cf) d 0 20 = d1 at c1 HT hd1 hd2
    have c2 := fun wk S => hid (HIN.out 20 d.size d1 wk (by omega) (by omega) (by omega) S)
    rw [hd1] at c2
    generalize insertionSort (ltOf cf) d1 20 d.size = d2 at c2 HT hd2
    have HSY := hid (sym_any enc cf T hT g cb blk off cap d w eg hcmp R (by omega) 24)
    have HSZ := hid (And.intro hd1 hd2)
    clear hins HIN S0 htwo hA hcmp R hd1 hd2 hn n
    by_cases h20y : (20 : Int) < (d.size : Int)
    · have c3 := fun wk S => hid (HSY.out 0 20 d.size d2 wk (by omega) (by omega) (by omega) (by rw [HSZ.out.2]; exact Nat.le_refl _) HSZ.out.2.symm HT.out.2.1 HT.out.2.2.1 HT.out.2.2.2 S)
      rw [HSZ.out.2] at c3
      clear HSY
      go_enter Try.func41, Try.ntmps41
      go_wp2
      refine wp_loop_rounds 2 ?_
      rw [rounds_succ]
      go_wp2_with fail
      refine c1.out.mono ?_
      rintro e w1 ⟨rfl, S1⟩
      have c2' := c2 w1 S1
      clear S1 c1 c2
      go_wp2_with fail
      rw [rounds_succ]
      go_wp2_with fail
      refine c2'.out.mono ?_
      rintro e w2 ⟨rfl, S2⟩
      have c3' := c3 w2 S2
      clear S2 c2' c3
      go_wp2_with fail
      refine wp_loop_rounds 2 ?_
      rw [rounds_succ]
      go_wp2_with fail
      refine wp_loop_rounds 1 ?_
      rw [rounds_succ]
      go_wp2_with fail
      refine c3'.out.mono ?_
      rintro e w3 ⟨rfl, d3, hd3, S3⟩
      have HS3 := hid (And.intro hd3 S3)
      clear hd3 S3 c3'
      go_wp2_with fail
      rw [rounds_succ]
      go_wp2_with fail
      go_end0
      exact ⟨rfl, d3, ⟨HT.out.1.trans HS3.out.1.1, HS3.out.1.2⟩, HS3.out.2⟩
    · have HE : Hid (Frm d d2 0 d.size ∧ Srt T d2 0 d.size) := hid ⟨HT.out.1, by have := HT.out.2.1; rwa [show (20 : Nat) = d.size by omega] at this⟩
      clear HSY
      go_enter Try.func41, Try.ntmps41
      go_wp2
      refine wp_loop_rounds 2 ?_
      rw [rounds_succ]
      go_wp2_with fail
      refine c1.out.mono ?_
      rintro e w1 ⟨rfl, S1⟩
      have c2' := c2 w1 S1
      clear S1 c1 c2
      go_wp2_with fail
      rw [rounds_succ]
      go_wp2_with fail
      refine c2'.out.mono ?_
      rintro e w2 ⟨rfl, S2⟩
      have HS2 := hid S2
      clear S2 c2'
      go_wp2_with fail
      refine wp_loop_rounds 1 ?_
      rw [rounds_succ]
      go_wp2_with fail
      go_end0
      exact ⟨rfl, d2, HE.out, HS2.out⟩

theorem sortstable_any (enc : α → Value) (cf : α → α → Int) (T : α → α → Prop) (hT : Tot T) (g : Nat) (cb : Array Value) (blk off cap : Nat) (d : Array α) (w : World)
    (eg : ∀ args w, (callFunc g args).run Try.prog w = .ok (.enter g args) w) (hcmp : CmpLays1 Try.prog g cb enc cf blk off d.size w) (R : Row1 enc w blk off d) (hsz : d.size ≤ 24)
    (hA : ∀ x y, x < y → y < d.size → (ltOf cf d[y]! d[x]! = true → T d[y]! d[x]!) ∧ (ltOf cf d[y]! d[x]! = false → T d[x]! d[y]!)) :
    Calls Try.prog 33 #[.slice (some ⟨blk, off, none⟩) d.size cap, .func (.func g) #[] cb] w (StbC enc T blk off d w) := by
  have H := hid (stable_any enc cf T hT g cb blk off cap d w eg hcmp R hsz hA)
  clear hcmp R hA
  go_enter Try.func33, Try.ntmps33
  go_wp2_with fail
  refine H.out.mono ?_
  rintro e w' ⟨rfl, hr⟩
  go_wp2_with fail
  go_end0
  exact ⟨rfl, hr⟩
end Go.Proofs.Ytceipfmdgpnagaa
