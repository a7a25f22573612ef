/-
  Contracts of package regex's readers: isLetter, readUnstarred, readItem, readAlternative, readPattern: what is read at a text's beginning, and what is left. Conditions: texts of at most a hundred signs.
-/
import Derived.Test.YtdhklkpeepmedaaDoorRgN
import Derived.Test.YtdhklkpeepmedaaDoorRgxM
import Derived.Test.YtdhklkpeepmedaaDoorSb1
import Derived.Test.YtdhklkpeepmedaaDoorPre1
import Derived.Test.YtdhklkpeepmedaaDoorVoid
namespace Go.Proofs.YtdhklkpeepmedaaDoor
open Go.RowKit

theorem isLetter_any (c : UInt8) (w : World) : Calls Tryd.prog 22 #[.int .u8 (c.toNat : Int)] w fun e w' => e = .returned (.bool (ltr c)) ∧ w' = w := by
  by_cases h : ltr c = true
  · obtain ⟨k1, k2⟩ := ltr_num.1 h
    have k97 : (97 : Int) ≤ (c.toNat : Int) := by omega
    have k122 : (c.toNat : Int) ≤ 122 := by omega
    rw [h]
    clear h k1 k2
    go_enter Tryd.func22, Tryd.ntmps22
    go_wp2
    go_ret
    exact ⟨ret_bool (by simp), rfl⟩
  · have h0 : ltr c = false := by simpa using h
    rw [h0]
    have hno : ¬ (97 ≤ c.toNat ∧ c.toNat ≤ 122) := fun h' => h (ltr_num.2 h')
    clear h h0
    by_cases h97 : 97 ≤ c.toNat
    · have k97 : (97 : Int) ≤ (c.toNat : Int) := by omega
      have k122 : ¬ (c.toNat : Int) ≤ 122 := by omega
      clear hno h97
      go_enter Tryd.func22, Tryd.ntmps22
      go_wp2
      go_ret
      exact ⟨ret_bool (by simp), rfl⟩
    · have k97 : ¬ (97 : Int) ≤ (c.toNat : Int) := by omega
      clear hno h97
      go_enter Tryd.func22, Tryd.ntmps22
      go_wp2
      go_ret
      exact ⟨ret_bool (by simp), rfl⟩

/-- The blocks from B on. -/
def From (B : Nat) : Nat → Prop := fun j => B ≤ j
/-- What a reader of one item answers. -/
def ItO (B : Nat) (res : Pt) (e : Ending) (w : World) : Prop :=
  (∃ r t v x, res = some (r, bs x) ∧ PartV (From B) w t v (nul r) ∧ e = .returned (.tuple #[.iface t v, .string x, .bool true])) ∨ (res = none ∧ e = .returned (.tuple #[.nilIface, .string ByteArray.empty, .bool false]))
/-- Alternatives are read as they should be, where a text is shorter than n. -/
def PaL (n : Nat) : Prop := ∀ (s : ByteArray) (w : World), s.size < n → s.size ≤ 100 → Calls Tryd.prog 30 #[.string s] w fun e w' =>
  (∃ A k c x b, e = .returned (.tuple #[.slice A k c, .string x]) ∧ x.size ≤ s.size ∧ PatO (bs s) (bs x) b ∧ ChoV (From w.heap.size) w' (.slice A k c) b) ∧ Below w.heap.size w w'

set_option maxRecDepth 100000 in
set_option maxHeartbeats 4000000 in
theorem unstarred_any (n : Nat) (HP : PaL n) (s : ByteArray) (w : World) (hs : s.size ≤ n) (hs0 : s.size ≤ 100) :
    Calls Tryd.prog 65 #[.string s] w fun e w' => ItO w.heap.size (uP (bs s)) e w' ∧ Below w.heap.size w w' := by
  by_cases h0 : s.size = 0
  · have hb := bs_zero h0
    have he := blank_yes h0
    have HQ := hid (show uP (bs s) = none by rw [hb]; rfl)
    clear h0 hb HP
    go_enter Tryd.func65, Tryd.ntmps65
    go_wp2_with fail
    go_ret3
    exact ⟨.inr ⟨HQ.out, rfl⟩, Below.refl _ _⟩
  · have h0 : 0 < s.size := by omega
    have he := blank_no h0
    obtain ⟨c, hc⟩ : ∃ c, c = s[0] := ⟨_, rfl⟩
    have hcs : bs s = c :: bs (s.extract 1 s.size) := by
      rw [hc, bs_tail]
      have := bs_take_succ s 0 h0
      have h2 := List.take_append_drop 1 (bs s)
      rw [this] at h2
      simpa using h2.symm
    have hcut := cut_one s h0
    have hs1 := cut_size h0
    generalize s.extract 1 s.size = s1 at hcut hcs hs1
    have HL := fun W => hid (isLetter_any c W)
    have hch : s[0] = c := hc.symm
    by_cases hl : ltr c = true
    · have HQ := hid (show uP (bs s) = some (.ch c, bs s1) by rw [hcs, uP_letter _ hl])
      rw [hl] at HL
      clear hcs HP hs1 hc hl
      go_enter Tryd.func65, Tryd.ntmps65
      go_wp2_with fail
      refine (HL _).out.mono ?_
      rintro e w1 ⟨rfl, hw1⟩
      subst hw1
      go_wp2_with fail
      go_region
      go_wp2_with fail
      go_ret3
      exact ⟨.inl ⟨.ch c, _, _, s1, HQ.out, .inl ⟨rfl, ⟨c, rfl⟩, rfl⟩, rfl⟩, (Below.refl _ _).drew⟩
    · have h1 : ltr c = false := by simpa using hl
      rw [h1] at HL
      by_cases h40 : c = 40
      · have k40 : (c.toNat : Int) = 40 := by rw [h40]; rfl
        simp only [k40] at HL
        have HR := hid (HP s1 w (by omega) (by omega))
        have HK := hid (And.intro hcs h40)
        have HZ := hid (show s1.size ≤ 100 from by omega)
        clear hcs HP hs1 hc hl h40 h1
        go_enter Tryd.func65, Tryd.ntmps65
        go_wp2_with fail
        refine (HL _).out.mono ?_
        rintro e w1 ⟨rfl, hw1⟩
        subst hw1
        go_wp2_with fail
        refine HR.out.mono ?_
        rintro e w1 ⟨⟨A, k, cc, x, b, rfl, hx, hO, hC⟩, hb1⟩
        have HPx := fun W => hid (hp_any x ⟨#[41]⟩ W)
        by_cases hp : hpB x ⟨#[41]⟩ = true
        · obtain ⟨u, hu⟩ := hp_one.1 hp
          have hx0 : 0 < x.size := by rw [← bs_len, hu]; simp
          have hcut2 := cut_one x hx0
          have htl : bs (x.extract 1 x.size) = u := by rw [bs_tail, hu]; rfl
          generalize x.extract 1 x.size = x1 at hcut2 htl
          rw [hp] at HPx
          have HQ := hid (show ∃ r, uP (bs s) = some (r, bs x1) ∧ nul r = b by
            rw [hu] at hO
            obtain ⟨r, hr, hn⟩ := patO_shut hO
            exact ⟨r, by rw [HK.out.1, HK.out.2, uP_open hr, htl], hn⟩)
          have HC := hid hC
          clear hC hO hu htl hx hp HK HZ HR HL
          go_wp2_with fail
          refine (HPx _).out.mono ?_
          rintro e w2 ⟨rfl, hw2⟩
          subst hw2
          go_wp2_with fail
          go_region
          go_wp2_with fail
          go_ret3
          obtain ⟨r, hr, hn⟩ := HQ.out
          exact ⟨.inl ⟨r, _, _, x1, hr, .inr (.inr ⟨rfl, by rw [hn]; exact HC.out.to (Fr.of_below (Below.refl _ _).drew) (fun _ _ h => h)⟩), rfl⟩, hb1.drew⟩
        · have hp1 : hpB x ⟨#[41]⟩ = false := by simpa using hp
          rw [hp1] at HPx
          have HQ := hid (show uP (bs s) = none by
            rw [HK.out.1, HK.out.2]
            exact uP_shut fun r u => patO_open hO (fun u e => hp (hp_one.2 ⟨u, e⟩)) r u)
          clear hC hO hx hp hp1 HK HZ HR HL
          go_wp2_with fail
          refine (HPx _).out.mono ?_
          rintro e w2 ⟨rfl, hw2⟩
          subst hw2
          go_wp2_with fail
          go_ret3
          exact ⟨.inr ⟨HQ.out, rfl⟩, hb1⟩
      · have k40 : ¬ (c.toNat : Int) = 40 := fun h => h40 (UInt8.toNat_inj.1 (by have : c.toNat = 40 := by omega
                                                                                 rw [this]; rfl))
        have HQ := hid (show uP (bs s) = none by rw [hcs, uP_bad _ h1 h40])
        clear hcs HP hs1 hc hl h40 h1
        go_enter Tryd.func65, Tryd.ntmps65
        go_wp2_with fail
        refine (HL _).out.mono ?_
        rintro e w1 ⟨rfl, hw1⟩
        subst hw1
        go_wp2_with fail
        go_ret3
        exact ⟨.inr ⟨HQ.out, rfl⟩, Below.refl _ _⟩

def txLen : Value → Nat
  | .string s => s.size
  | _ => 0
/-- Where the stars behind an item are read. -/
def StTo (l x : List UInt8) (q : Re UInt8) : Prop := iP l = some (prS q x)
theorem stTo_step {l x : List UInt8} {q : Re UInt8} (h : StTo l (42 :: x) q) : StTo l x (.star q) := by
  unfold StTo at h ⊢
  rw [h, prS_star]
theorem stTo_end {l x : List UInt8} {q : Re UInt8} (h : StTo l x q) (hx : ∀ u, x ≠ 42 :: u) : iP l = some (q, x) := by
  unfold StTo at h
  rw [h]
  cases x with
  | nil => rw [prS_nil]
  | cons c u => rw [prS_other q u (fun e => hx u (by rw [e]))]
set_option maxRecDepth 100000 in
set_option maxHeartbeats 4000000 in
theorem item_any (n : Nat) (HP : PaL n) (s : ByteArray) (w : World) (hs : s.size ≤ n) (hs0 : s.size ≤ 100) :
    Calls Tryd.prog 57 #[.string s] w fun e w' => ItO w.heap.size (iP (bs s)) e w' ∧ Below w.heap.size w w' := by
  have HU := hid (unstarred_any n HP s w hs hs0)
  clear HP hs
  go_enter Tryd.func57, Tryd.ntmps57
  go_wp2_with fail
  refine HU.out.mono ?_
  rintro e w1 ⟨hI, hb1⟩
  rcases hI with ⟨r, t, v, x, hr, hP, rfl⟩ | ⟨hn, rfl⟩
  · have HS := hid (show StTo (bs s) (bs x) r by unfold StTo; rw [iP_uP, hr])
    have HPP := hid hP
    clear hr hP HU
    go_wp2_with fail
    go_loopw [5, 6] (fun i y wr => ∃ (q : Re UInt8) (t : TypeId) (v : Value) (x : ByteArray), i = .iface t v ∧ y = .string x ∧ Hid (StTo (bs s) (bs x) q ∧ PartV (From w.heap.size) wr t v (nul q)) ∧ Below w.heap.size w wr) (fun _ y _ => txLen y)
    case atStart => exact ⟨r, t, v, x, rfl, rfl, hid ⟨HS.out, HPP.out⟩, hb1⟩
    case round =>
      obtain ⟨q, t, v, x, rfl, rfl, HI, hb⟩ := hrel
      have HPx := fun W => hid (hp_any x ⟨#[42]⟩ W)
      by_cases hp : hpB x ⟨#[42]⟩ = true
      · obtain ⟨u, hu⟩ := hp_one.1 hp
        have hx0 : 0 < x.size := by rw [← bs_len, hu]; simp
        have hcut2 := cut_one x hx0
        have htl : bs (x.extract 1 x.size) = u := by rw [bs_tail, hu]; rfl
        have hsz := cut_size hx0
        generalize x.extract 1 x.size = x1 at hcut2 htl hsz
        rw [hp] at HPx
        have HN := hid (show StTo (bs s) (bs x1) (.star q) by
          rw [htl]
          exact stTo_step (by rw [← hu]; exact HI.out.1))
        clear HI hu htl hp
        go_wp2_with fail
        refine (HPx _).out.mono ?_
        rintro e w2 ⟨rfl, hw2⟩
        subst hw2
        go_wp2_with fail
        go_region
        go_wp2_with fail
        go_roundw
        case rel => exact ⟨.star q, _, _, x1, rfl, rfl, hid ⟨HN.out, .inr (.inl ⟨rfl, ⟨_, _, rfl⟩, rfl⟩)⟩, hb.drew⟩
        case measure => simp only [txLen]; omega
      · have hp1 : hpB x ⟨#[42]⟩ = false := by simpa using hp
        rw [hp1] at HPx
        have HQ := hid (show iP (bs s) = some (q, bs x) from stTo_end HI.out.1 fun u e => hp (hp_one.2 ⟨u, e⟩))
        have HV := hid HI.out.2
        clear HI hp hp1
        go_wp2_with fail
        refine (HPx _).out.mono ?_
        rintro e w2 ⟨rfl, hw2⟩
        subst hw2
        go_wp2_with fail
        go_ret3
        exact ⟨.inl ⟨q, t, v, x, HQ.out, HV.out, rfl⟩, hb⟩
  · have HQ := hid (show iP (bs s) = none by rw [iP_uP, hn])
    clear HU hn
    go_wp2_with fail
    go_ret3
    exact ⟨.inr ⟨HQ.out, rfl⟩, hb1⟩

/-- What the reader of a row answers. -/
def AlO (B : Nat) (s : ByteArray) (e : Ending) (w : World) : Prop := ∃ A k c x b, e = .returned (.tuple #[.slice A k c, .string x]) ∧ x.size ≤ s.size ∧ RowO (bs s) (bs x) b ∧ SeqV (From B) w (.slice A k c) b
theorem item_lt {l : List UInt8} {r : Re UInt8} {x : ByteArray} (h : iP l = some (r, bs x)) : x.size < l.length := by
  have := iP_lt h
  rwa [bs_len] at this
set_option maxRecDepth 100000 in
set_option maxHeartbeats 4000000 in
theorem alternative_any (n : Nat) (HP : PaL n) (s : ByteArray) (w : World) (hs : s.size ≤ n) (hs0 : s.size ≤ 100) :
    Calls Tryd.prog 40 #[.string s] w fun e w' => AlO w.heap.size s e w' ∧ Below w.heap.size w w' := by
  have HI := fun (x : ByteArray) (W : World) (hx : x.size ≤ s.size) => hid (item_any n HP x W (by omega) (by omega))
  obtain ⟨i0, hi, hinfo⟩ := Option.map_eq_some_iff.1 part_info
  have hz0 : i0.zero = some .nilIface := congrArg Prod.fst hinfo
  have hz1 : i0.size = 1 := congrArg (·.2.1) hinfo
  have hz2 : i0.bytes = 16 := congrArg (·.2.2) hinfo
  clear HP hs hinfo
  go_enter Tryd.func40, Tryd.ntmps40
  go_wp2_with fail
  go_loopw [0, 4] (fun y v wr => ∃ (x : ByteArray) (xs : List Pv), y = .string x ∧ x.size ≤ s.size ∧ xs.length + x.size ≤ s.size ∧ Hid (OwnX encP1 1 wr w.heap.size 85 v xs ∧ PartsV (Oth w.heap.size v) wr xs ∧ RowTo (bs s) (bs x) (xs.all (·.2.2))) ∧ Below w.heap.size w wr) (fun y _ _ => txLen y)
  case atStart => exact ⟨s, [], rfl, Nat.le_refl _, by simp, hid ⟨OwnX.nil _ _ _ _ _, (fun x hx => by cases hx), rowTo_start _⟩, Below.refl _ _⟩
  case round =>
    obtain ⟨x, xs, rfl, hx, hxs, HV, hb⟩ := hrel
    go_wp2_with fail
    refine (HI x _ hx).out.mono ?_
    rintro e w2 ⟨hI, hb2⟩
    have hbw := hb.trans (hb2.mono hb.size)
    rcases hI with ⟨r, t, v, x1, hr, hP, rfl⟩ | ⟨hn, rfl⟩
    · have hlt := item_lt hr
      rw [bs_len] at hlt
      obtain ⟨hO, hPs, hR⟩ := HV.out
      obtain ⟨A, c, rfl, _⟩ := hO.read encP1_len
      have hown := hO.below hb2 (Nat.le_refl _)
      have hl1 : xs.length ≤ 1099511627776 := by omega
      have hbs : w.heap.size ≤ w2.heap.size := hbw.size
      have HR2 := hid (rowTo_step hR hr)
      have hPs2 : PartsV (Oth w.heap.size (.slice A xs.length c)) w2 xs := hPs.to (Fr.of_below hb2) fun _ _ h => h
      have hP2 : PartV (Oth w.heap.size (.slice A xs.length c)) w2 t v (nul r) := hP.to (Fr.of_below (Below.refl _ _)) fun j _ hj => ⟨Nat.le_trans hb.size hj, fun e => by
        have h1 := (hO.lt e.symm).2
        have h2 : _ ≤ j := hj
        omega⟩
      have HN := hid (And.intro hPs2 hP2)
      have HL := hid hlt
      clear hO hPs hR HV hb hb2 hr hP hPs2 hP2 hlt
      go_wp2_with (at_builtin; refine wpList_append_x w2 rfl (.tmp 18) (.tmp 20) 64 rfl w.heap.size 85 i0 encP1 1 .nilIface 16 encP1_len encP1_one (by decide) (by decide) Tryd.underlying64 hi hz0 hz1 hz2 rfl (.slice A xs.length c) xs rfl hown (t, v, nul r) rfl hl1 hbs ?_)
      intro v' w' hown' hturn'
      have hb' := hbw.trans (hturn'.below hbs fun b hb => (hown.lt hb).1)
      have hF := hturn'.fr (base := w.heap.size)
      have HN2 := hid (show PartsV (Oth w.heap.size v') w' (xs ++ [(t, v, nul r)]) from fun y hy => by
        rcases List.mem_append.1 hy with hy | hy
        · exact (HN.out.1 y hy).to hF.1 hF.2
        · rw [List.mem_singleton] at hy
          subst hy
          exact HN.out.2.to hF.1 hF.2)
      have HO := hid hown'
      clear hown' hturn' hF HN hown
      go_wp2_with fail
      go_roundw
      case rel => exact ⟨x1, xs ++ [(t, v, nul r)], rfl, by have := HL.out; omega, by have := HL.out; simp; omega, hid ⟨HO.out, HN2.out, by rw [List.all_append]; simpa using HR2.out⟩, hb'⟩
      case measure => have := HL.out; simp only [txLen]; omega
    · obtain ⟨hO, hPs, hR⟩ := HV.out
      obtain ⟨A, c, rfl, _⟩ := hO.read encP1_len
      have HQ := hid (And.intro (SeqV.of_own (S := Oth w.heap.size (.slice A xs.length c)) (T := From w.heap.size) (hO.below hb2 (Nat.le_refl _)) (by omega) (hPs.to (Fr.of_below hb2) fun _ _ h => h) (fun _ _ h => h.1) (fun _ h => h)) (rowTo_end hR hn))
      clear hO hPs hR HV hb hb2 hn
      go_wp2_with fail
      go_ret2
      exact ⟨⟨_, _, _, x, _, rfl, hx, HQ.out.2, HQ.out.1⟩, hbw⟩

theorem bar_any {x : ByteArray} {u : List UInt8} (hu : bs x = 124 :: u) : 0 < x.size ∧ bs (x.extract 1 x.size) = u := ⟨by rw [← bs_len, hu]; simp, by rw [bs_tail, hu]; rfl⟩
set_option maxRecDepth 100000 in
set_option maxHeartbeats 4000000 in
theorem pattern_step (n : Nat) (HP : PaL n) : PaL (n + 1) := by
  intro s w hs hs0
  have HA := fun (x : ByteArray) (W : World) (hx : x.size ≤ s.size) => hid (alternative_any n HP x W (by omega) (by omega))
  obtain ⟨i0, hi, hinfo⟩ := Option.map_eq_some_iff.1 seq_info
  have hz0 : i0.zero = some (.slice none 0 0) := congrArg Prod.fst hinfo
  have hz1 : i0.size = 1 := congrArg (·.2.1) hinfo
  have hz2 : i0.bytes = 24 := congrArg (·.2.2) hinfo
  clear HP hs hinfo
  go_enter Tryd.func30, Tryd.ntmps30
  go_wp2_with fail
  refine (HA s _ (Nat.le_refl _)).out.mono ?_
  rintro e w1 ⟨⟨A, k, c, x, b, rfl, hx, hR, hV⟩, hb1⟩
  have hsz1 := hb1.size
  have hba : Below w.heap.size w (w1.alloc (.cells #[.slice A k c] 64)) := hb1.alloc hsz1 _
  have HS := hid (show OwnX encS1 1 (w1.alloc (.cells #[.slice A k c] 64)) w.heap.size 64 (.slice (some ⟨w1.heap.size, 0, none⟩) 1 1) [(A, k, c, b)] ∧
      RowsV (Oth w.heap.size (.slice (some ⟨w1.heap.size, 0, none⟩) 1 1)) (w1.alloc (.cells #[.slice A k c] 64)) [(A, k, c, b)] from
    ⟨OwnX.lit w1 w.heap.size _ [(A, k, c, b)] _ rfl rfl hsz1 (by unfold maxLen; simp), fun y hy => by
      rw [List.mem_singleton] at hy
      subst hy
      exact SeqV.to hV (Fr.of_below ((Below.refl _ _).alloc (Nat.le_refl _) _)) fun j hj hs => ⟨hs, fun e => by
        have : j = w1.heap.size := Option.some.inj e
        omega⟩⟩)
  have HT := hid (altTo_start hR)
  have HB := hid hba
  clear hR hV hba hb1
  go_wp2_with fail
  go_loopw [4, 5, 6] (fun _ y v wr => ∃ (x : ByteArray) (xs : List Sv), y = .string x ∧ x.size ≤ s.size ∧ xs.length + x.size ≤ s.size + 1 ∧ Hid (OwnX encS1 1 wr w.heap.size 64 v xs ∧ RowsV (Oth w.heap.size v) wr xs ∧ AltTo (bs s) (bs x) (xs.any (·.2.2.2))) ∧ Below w.heap.size w wr) (fun _ y _ _ => txLen y)
  case atStart => exact ⟨x, _, rfl, hx, by simp; omega, hid ⟨HS.out.1, HS.out.2, by simpa using HT.out⟩, HB.out⟩
  case round =>
    clear HS HT HB hx hsz1
    obtain ⟨x, xs, rfl, hx, hxs, HV, hb⟩ := hrel
    have HPx := fun W => hid (hp_any x ⟨#[124]⟩ W)
    obtain ⟨hO, hRs, hT⟩ := HV.out
    obtain ⟨A, k, rfl, _⟩ := hO.read encS1_len
    by_cases hp : hpB x ⟨#[124]⟩ = true
    · obtain ⟨u, hu⟩ := hp_one.1 hp
      obtain ⟨hx0, htl⟩ := bar_any hu
      have hcut2 := cut_one x hx0
      have hsz := cut_size hx0
      rw [hu] at hT
      generalize x.extract 1 x.size = x1 at hcut2 htl hsz
      have HA1 := hid (HA x1 wr (by omega)).out
      rw [hp] at HPx
      have HK := hid (And.intro hT htl)
      clear hu htl hp hT HV
      go_wp2_with fail
      refine (HPx _).out.mono ?_
      rintro e w2 ⟨rfl, hw2⟩
      subst hw2
      go_wp2_with fail
      refine HA1.out.mono ?_
      rintro e w2 ⟨⟨B, m, c, y, b, rfl, hy, hR, hV⟩, hb2⟩
      have hbw := hb.trans (hb2.mono hb.size)
      have hown := hO.below hb2 (Nat.le_refl _)
      have hl1 : xs.length ≤ 1099511627776 := by omega
      have hbs : w.heap.size ≤ w2.heap.size := hbw.size
      have HN := hid (And.intro (show RowsV (Oth w.heap.size (.slice A xs.length k)) w2 xs from hRs.to (Fr.of_below hb2) fun _ _ h => h) (show SeqV (Oth w.heap.size (.slice A xs.length k)) w2 (.slice B m c) b from hV.to (Fr.of_below (Below.refl _ _)) fun j _ hj => ⟨Nat.le_trans hb.size hj, fun e => by
        have h1 := (hO.lt e.symm).2
        have h2 : _ ≤ j := hj
        omega⟩))
      have HR2 := hid (altTo_step HK.out.1 (by rw [← HK.out.2]; exact hR))
      clear hO hRs hV hR HK hb hb2 HA1
      go_wp2_with (at_builtin; refine wpList_append_x w2 rfl (.tmp 22) (.tmp 24) 46 rfl w.heap.size 64 i0 encS1 1 (.slice none 0 0) 24 encS1_len encS1_one (by decide) (by decide) Tryd.underlying46 hi hz0 hz1 hz2 rfl (.slice A xs.length k) xs rfl hown (B, m, c, b) rfl hl1 hbs ?_)
      intro v' w' hown' hturn'
      have hb' := hbw.trans (hturn'.below hbs fun b hb => (hown.lt hb).1)
      have hF := hturn'.fr (base := w.heap.size)
      have HN2 := hid (show RowsV (Oth w.heap.size v') w' (xs ++ [(B, m, c, b)]) from fun y hy => by
        rcases List.mem_append.1 hy with hy | hy
        · exact (HN.out.1 y hy).to hF.1 hF.2
        · rw [List.mem_singleton] at hy
          subst hy
          exact SeqV.to HN.out.2 hF.1 hF.2)
      have HO := hid hown'
      clear hown' hturn' hF HN hown
      go_wp2_with fail
      go_roundw
      case rel => exact ⟨y, xs ++ [(B, m, c, b)], rfl, by omega, by simp; omega, hid ⟨HO.out, HN2.out, by rw [List.any_append]; simpa using HR2.out⟩, hb'⟩
      case measure => simp only [txLen]; omega
    · have hp1 : hpB x ⟨#[124]⟩ = false := by simpa using hp
      rw [hp1] at HPx
      have HQ := hid (And.intro (altTo_end hT fun u e => hp (hp_one.2 ⟨u, e⟩)) (ChoV.of_own (S := Oth w.heap.size (.slice A xs.length k)) (T := From w.heap.size) hO (by omega) hRs (fun _ _ h => h.1) (fun _ h => h)))
      clear hO hRs hT HV hp hp1
      go_wp2_with fail
      refine (HPx _).out.mono ?_
      rintro e w2 ⟨rfl, hw2⟩
      subst hw2
      go_wp2_with fail
      go_ret2
      exact ⟨⟨_, _, _, x, _, rfl, hx, HQ.out.1, HQ.out.2⟩, hb⟩
theorem pattern_any (n : Nat) : PaL n := by
  induction n with
  | zero => exact fun s w hs => absurd hs (Nat.not_lt_zero _)
  | succ n ih => exact pattern_step n ih
end Go.Proofs.YtdhklkpeepmedaaDoor
