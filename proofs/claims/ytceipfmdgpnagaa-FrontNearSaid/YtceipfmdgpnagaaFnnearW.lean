/-
  The walk of FrontNear: it returns true at every text and every number. Conditions: the row's own sizes.
-/
import Derived.Test.YtceipfmdgpnagaaFnfact
import Derived.Test.YtceipfmdgpnagaaStands
import Derived.Test.YtceipfmdgpnagaaIn2
import Derived.Laws.Concat
namespace Go.Proofs.Ytceipfmdgpnagaa
open Go.RowKit

theorem occ_one {O u : ByteArray} {c : UInt8} (hu : u.size = 1) (hc : sg u 0 = c) : (occL O u).length = 0 ↔ c ∉ bs O := by
  constructor
  · intro h hm
    obtain ⟨j, hj, he⟩ := List.getElem_of_mem hm
    rw [bs_len] at hj
    have hO : Oc (sg O) (sg u) O.size u.size j := ⟨by omega, fun x hx => by
      obtain rfl : x = 0 := by omega
      rw [hc, ← he, Nat.add_zero, ← bs_sg]
      simp [List.getD_eq_getElem?_getD, bs_len, hj]⟩
    have := (occTo_split hj hO).1
    unfold occL at h
    omega
  · intro h
    by_cases h0 : 0 < (occL O u).length
    · obtain ⟨p, _, hp, hO⟩ := occ_at h0
      exfalso
      apply h
      have e := hO.2 0 (by omega)
      rw [hc, Nat.add_zero, sg_eq O p hp] at e
      have := bs_get O p hp
      rw [e]
      exact List.mem_of_getElem? this
    · omega
theorem cut_one (s : ByteArray) (k : Nat) (h : k < s.size) : (s.extract k (k + 1)).size = 1 ∧ sg (s.extract k (k + 1)) 0 = s[k] ∧ bs (s.extract k (k + 1)) = [s[k]] := by
  have h1 : (s.extract k (k + 1)).size = 1 := by rw [ByteArray.size_extract]; omega
  have h2 : sg (s.extract k (k + 1)) 0 = s[k] := by rw [sg_cut s k (k + 1) 0 (by omega) (by omega), Nat.add_zero, sg_eq s k h]
  refine ⟨h1, h2, ?_⟩
  have hl := bs_len (s.extract k (k + 1))
  rw [h1] at hl
  obtain ⟨c, hc⟩ := List.length_eq_one_iff.1 hl
  have e := bs_sg (s.extract k (k + 1)) 0
  rw [hc, h2] at e
  rw [hc]
  have e : c = s[k] := e
  rw [e]

set_option maxHeartbeats 4000000 in
set_option maxRecDepth 100000 in
theorem frontNear_any (s : ByteArray) (i : Int) (w : World) (hs : s.size ≤ maxLen) :
    Calls Try.prog 4 #[.string s, .int .i64 i] w fun e w' => e = .returned (.bool true) ∧ Below w.heap.size w w' := by
  have HF := fun W => hid (fnfact_any W)
  go_enter Try.func4, Try.ntmps4
  go_wp2_with fail
  refine (HF _).out.mono ?_
  rintro e w1 ⟨rfl, hb1⟩
  clear HF
  by_cases h : s.size ≤ 1000
  · have H1 := fun W => hid (fthere_any s W h)
    clear hs
    go_wp2_with fail
    refine (H1 _).out.mono ?_
    rintro e w2 ⟨A2, c2, rfl, hI2, hb2⟩
    have HI2 := hid hI2
    have hbB := hb1.trans (hb2.mono hb1.size)
    clear hb1 hb2 hI2 H1
    by_cases hin : 0 ≤ i ∧ i ≤ (s.size : Int) - 1
    · have HIN := fun W => hid (in_yes i 0 ((s.size : Int) - 1) W hin.1 hin.2)
      go_wp2_with fail
      refine (HIN _).out.mono ?_
      rintro e w3 ⟨rfl, hw3⟩
      subst w3
      clear HIN
      obtain ⟨I, rfl⟩ : ∃ I : Nat, i = (I : Int) := ⟨i.toNat, by omega⟩
      have hI : I < s.size := by omega
      have hIi : (I : Int) < (s.size : Int) := by omega
      have hIb : I < (bs s).length := by rw [bs_len]; exact hI
      have hat := codF_at allB (bs s) I hIb
      rw [bs_sg, sg_eq s I hI] at hat
      obtain ⟨g, off, rfl, hg, hc⟩ := HI2.out.2 (by omega)
      have hcI := hc I hI
      rw [hat] at hcI
      have HCI := hid hcI
      clear hc hcI hat HI2 hin
      go_wp2_with fail
      go_loopw [8, 9] (fun v x wr => ∃ (b : Nat) (O : ByteArray), b ≤ I ∧ v = .string O ∧ x = .int .i64 ((b : Int) - 1) ∧ Hid (Near ((bs s).take I) ((bs s).take b) (bs O)) ∧ Hid ((s[I]'hI) ∉ bs O) ∧ O.size + b ≤ I ∧ Below w2.heap.size w2 wr) (fun _ x _ => (intOf x + 1).toNat)
      case atStart => exact ⟨I, ByteArray.empty, Nat.le_refl _, rfl, rfl, hid (near_start _), hid (by simp [bs]), by simp, Below.refl _ _⟩
      case round =>
        obtain ⟨b, O, hbI, rfl, rfl, HNr, HNo, hO, hb⟩ := hrel
        have hcr := (hb.cell (p := ⟨g, off + I, none⟩) hg).trans HCI.out
        have hbE := hbB.trans (hb.mono hbB.size)
        rcases b with _ | k
        · have e0 : ((0 : Nat) : Int) - 1 = -1 := rfl
          rw [e0]
          clear e0
          have hend := near_end HNr.out HNo.out
          rw [bs_len] at hend
          clear HNr HNo HCI
          generalize (rowT allB ((bs s).take I)).idxOf (s[I]'hI) = X at hcr hend
          have hle : (O.size : Int) ≤ (X : Int) := by omega
          go_wp2_with fail
          go_ret
          exact ⟨rfl, hbE⟩
        · have e0 : ((k + 1 : Nat) : Int) - 1 = (k : Int) := by omega
          rw [e0]
          clear e0
          have hk : k < s.size := by omega
          have hkb : k < (bs s).length := by rw [bs_len]; exact hk
          have ht := take_snoc (d := 0) (bs s) k hkb
          rw [bs_sg, sg_eq s k hk] at ht
          have HN1 := HNr.out
          rw [ht] at HN1
          by_cases heq : (s[k]'hk) = (s[I]'hI)
          · have hhit := near_hit HN1 (by rw [heq]; exact HNo.out)
            rw [heq, bs_len] at hhit
            rw [hhit] at hcr
            have q1 : (((s[k]'hk).toNat : Int) == ((s[I]'hI).toNat : Int)) = true := by rw [heq]; simp
            clear HN1 HNr HNo HCI ht hhit
            go_wp2_with fail
            go_quiet (fail)
            go_wp2_with fail
            go_ret
            exact ⟨rfl, below_drewN hbE _⟩
          · obtain ⟨z1, z2, z3⟩ := cut_one s k hk
            have hcut : ∀ W : World, Sem.run Try.prog (Instr.slice 9 (.string s) (some (.int .i64 (k : Int))) (some (.int .i64 ((k : Int) + 1))) none) W = .ok (.string (s.extract k (k + 1))) W := fun W => by
              have h := run_slice_string (P := Try.prog) W 9 s .i64 .i64 (k : Int) ((k : Int) + 1) Try.underlying9 (by omega) (by omega) (by omega)
              rwa [show ((k : Int)).toNat = k by omega, show ((k : Int) + 1).toNat = k + 1 by omega] at h
            have q1 : (((s[k]'hk).toNat : Int) == ((s[I]'hI).toNat : Int)) = false := by simpa using byte_apart heq
            have HS := fun W => hid (stands_any O (s.extract k (k + 1)) W (by omega) (by omega))
            have hone := occ_one (O := O) z1 z2
            have hadd := fun W => run_string_add_sum (P := Try.prog) W O (s.extract k (k + 1)) (by omega)
            have happ : bs (O ++ s.extract k (k + 1)) = bs O ++ [(s[k]'hk)] := by rw [wb_app, z3]
            have hsz : (O ++ s.extract k (k + 1)).size = O.size + 1 := by rw [← bs_len, happ, List.length_append, bs_len]; rfl
            have HR : ((occL O (s.extract k (k + 1))).length = 0 ∧ Hid (Near ((bs s).take I) ((bs s).take k) (bs (O ++ s.extract k (k + 1))) ∧ (s[I]'hI) ∉ bs (O ++ s.extract k (k + 1)))) ∨ (0 < (occL O (s.extract k (k + 1))).length ∧ Hid (Near ((bs s).take I) ((bs s).take k) (bs O))) := by
              rcases Nat.eq_zero_or_pos (occL O (s.extract k (k + 1))).length with e | e
              · refine .inl ⟨e, hid ⟨?_, ?_⟩⟩
                · rw [happ]; exact near_new HN1 (hone.1 e)
                · rw [happ, List.mem_append, List.mem_singleton]
                  rintro (h | h)
                  · exact HNo.out h
                  · exact heq h.symm
              · refine .inr ⟨e, hid (near_seen HN1 ?_)⟩
                rcases Classical.em ((s[k]'hk) ∈ bs O) with hm | hm
                · exact hm
                · have := hone.2 hm; omega
            have HSZ := hid hsz
            generalize O ++ s.extract k (k + 1) = O2 at hadd HR HSZ
            generalize s.extract k (k + 1) = u at hcut HS hadd HR
            generalize hoc : occL O u = oc at HS HR
            have hocl := occL_len O u
            rw [hoc] at hocl
            clear hoc z1 z2 z3 hone happ hsz HN1 ht heq HNr hcr hkb
            go_wp2_with fail
            go_quiet (fail)
            go_wp2_with fail
            refine (HS _).out.mono ?_
            rintro e w5 ⟨v, rfl, ho5, hb5⟩
            obtain ⟨A5, c5, rfl, _, _⟩ := IsInts.of_own ho5
            have hbF : Below w2.heap.size w2 w5 := (below_drewN hb _).trans (hb5.mono hb.size)
            clear ho5 hb5 hb hbE HS
            generalize oc.length = m at HR hocl ⊢
            rcases HR with ⟨rfl, HR⟩ | ⟨hm, HR⟩
            · go_wp2_with fail
              go_roundw
              case rel => exact ⟨k, O2, by omega, rfl, by go_num, hid HR.out.1, hid HR.out.2, by rw [HSZ.out]; omega, hbF⟩
              case measure => simp [intOf]
            · have hm2 : ((m : Int) == 0) = false := by simp; omega
              go_wp2_with fail
              go_roundw
              case rel => exact ⟨k, O, by omega, rfl, by go_num, hid HR.out, HNo, by omega, hbF⟩
              case measure => simp [intOf]
    · have HIN := fun W => hid (in_not i 0 ((s.size : Int) - 1) W hin)
      go_wp2_with fail
      refine (HIN _).out.mono ?_
      rintro e w3 ⟨rfl, hw3⟩
      subst w3
      go_wp2_with fail
      go_ret
      exact ⟨rfl, hbB⟩
  · have H1 := fun W => hid (fthere_long s W (by omega) hs)
    clear hs
    go_wp2_with fail
    refine (H1 _).out.mono ?_
    rintro e w3 ⟨rfl, hw3⟩
    subst w3
    clear H1
    go_wp2_with fail
    go_ret
    exact ⟨rfl, hb1⟩
end Go.Proofs.Ytceipfmdgpnagaa
