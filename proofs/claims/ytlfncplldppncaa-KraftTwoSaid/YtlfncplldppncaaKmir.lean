/-
  Contract of letterbecklaw2.mirrored: each word from its end, in new memory. Conditions: words as they are let in.
-/
import Derived.Test.YtlfncplldppncaaBase
import Derived.Test.YtlfncplldppncaaStrs
import Derived.Test.YtlfncplldppncaaSard
import Derived.Test.YtlfncplldppncaaOwnS
import Derived.Test.YtlfncplldppncaaBack
namespace Go.Proofs.Ytlfncplldppncaa
open Go.RowKit

/-- A text from its end. -/
def revT (s : ByteArray) : ByteArray := backS s s.size
theorem revT_size (s : ByteArray) : (revT s).size = s.size := backS_size s s.size (Nat.le_refl _)
theorem revT_bs (s : ByteArray) : bs (revT s) = (bs s).reverse := by
  apply List.ext_getElem
  · rw [List.length_reverse, bs_len, bs_len, revT_size]
  · intro i h1 h2
    rw [bs_len, revT_size] at h1
    have := sg_back s i h1
    rw [← bs_sg, ← bs_sg, List.getD_eq_getElem?_getD, List.getD_eq_getElem?_getD] at this
    rw [List.getElem?_eq_getElem (by rw [bs_len]; show i < (revT s).size; rw [revT_size]; exact h1), List.getElem?_eq_getElem (by rw [bs_len]; omega)] at this
    simp only [Option.getD_some] at this
    rw [List.getElem_reverse]
    simp only [bs_len]
    exact this
def mirT (ws : List ByteArray) : List ByteArray := ws.map revT
theorem mirT_len (ws : List ByteArray) : (mirT ws).length = ws.length := by simp [mirT]
theorem mirT_at {ws : List ByteArray} {i : Nat} (hi : i < ws.length) : wat (mirT ws) i = revT (wat ws i) := by simp [wat, mirT, hi]
theorem mirT_wl (ws : List ByteArray) : wl (mirT ws) = (wl ws).map List.reverse := by
  unfold wl mirT
  rw [List.map_map, List.map_map]
  exact List.map_congr_left fun s _ => revT_bs s
theorem mirT_fine {ws : List ByteArray} (h : Fine ws) : Fine (mirT ws) := by
  refine ⟨by rw [mirT_len]; exact h.1, fun j hj => ?_⟩
  rw [mirT_len] at hj
  have h1 := h.2 j hj
  rw [mirT_at hj, revT_size]
  refine ⟨h1.1, h1.2.1, fun m hm e => h1.2.2 m hm ?_⟩
  rw [mirT_at (by omega)] at e
  have := congrArg bs e
  rw [revT_bs, revT_bs] at this
  exact bs_inj (List.reverse_inj.1 this)
theorem mirT_succ (ws : List ByteArray) {i : Nat} (hi : i < ws.length) : mirT (ws.take (i + 1)) = mirT (ws.take i) ++ [revT (wat ws i)] := by
  unfold mirT
  rw [List.take_succ_eq_append_getElem hi, List.map_append]
  simp [wat, hi]
theorem str_info2 : (Try.prog.info? 9).map (fun i => (i.zero, i.size, i.bytes)) = some (some (.string ByteArray.empty), 1, 16) := by kernel_rfl
set_option maxHeartbeats 1000000 in
theorem mirrored_any (A : Option Addr) (n c : Nat) (ws : List ByteArray) (w : World) (hf : Fine ws) (h : IsStrs w w.heap.size A n ws) :
    Calls Try.prog 11 #[.slice A n c] w fun e w' => ∃ v, e = .returned v ∧ OwnS w' w.heap.size 9 v (mirT ws) ∧ Below w.heap.size w w' := by
  obtain ⟨i0, hi, hz0, hz1, hz2⟩ := info_parts str_info2
  have hwl := h.1
  have h6 : n ≤ 6 := by rw [← hwl]; exact hf.1
  have HN := hid hwl
  have HSz : Hid (∀ i, i < n → (wat ws i).size ≤ 8) := hid (fun i hi => (hf.2 i (by omega)).1)
  have HX : Hid (0 < n → ∃ g off, A = some ⟨g, off, none⟩ ∧ g < w.heap.size ∧ ∀ i, i < n → w.cell? ⟨g, off + i, none⟩ = some (.string (wat ws i))) := hid (fun h0 => h.2 h0)
  clear h hwl hf
  go_enter Try.func11, Try.ntmps11
  go_wp2_with fail
  go_loopw [3, 4] (fun v x wr => ∃ i : Nat, i ≤ n ∧ x = .int .i64 i ∧ Hid (OwnS wr w.heap.size 9 v (mirT (ws.take i))) ∧ Below w.heap.size w wr) (fun _ x _ => n - (intOf x).toNat)
  case atStart => exact ⟨0, by omega, rfl, hid (OwnS.nil _ _ _), Below.refl _ _⟩
  case round =>
    obtain ⟨i, hin, rfl, HO, hb⟩ := hrel
    have hsz := hb.size
    by_cases hlt : i < n
    · obtain ⟨g, off, rfl, hg, hc⟩ := HX.out (by omega)
      have c1 := (hb.cell (p := ⟨g, off + i, none⟩) hg).trans (hc i hlt)
      have s1 := HSz.out i hlt
      have i1 : (i : Int) < (n : Int) := by omega
      have HB := fun W => hid (back_any (wat ws i) W (by unfold maxLen; omega))
      have HE := hid (mirT_succ ws (i := i) (by rw [HN.out]; exact hlt))
      have hle : (mirT (ws.take i)).length ≤ 1099511627776 := by rw [mirT_len, List.length_take]; omega
      generalize mirT (ws.take i) = cs at HO HE hle
      unfold revT at HE
      generalize backS (wat ws i) (wat ws i).size = X2 at HB HE
      generalize wat ws i = X at c1 HB
      clear hc
      go_wp2_with fail
      refine (HB _).out.mono ?_
      rintro e w5 ⟨rfl, hw5⟩
      have hb5 : Below w.heap.size w w5 := by first | (rw [hw5]; exact hb) | (obtain ⟨q, hw5⟩ := hw5; rw [hw5]; exact below_drewN hb q)
      have HO5 : Hid (OwnS w5 w.heap.size 9 u3 cs) := hid (by first | (rw [hw5]; exact HO.out) | (obtain ⟨q, hw5⟩ := hw5; rw [hw5]; exact HO.out.drewN q))
      have hs5 := hb5.size
      clear hw5 HO hb HB
      go_wp2_with (at_builtin; refine wpList_append_str _ rfl (.tmp 11) (.tmp 17) 22 rfl w.heap.size 9 i0 Try.underlying22 hi hz0 hz1 hz2 _ cs rfl HO5.out X2 rfl hle hs5 ?_)
      intro v' w7 hown7 hb7
      have HO7 := hid hown7
      clear hown7
      go_wp2_with fail
      go_roundw
      case rel => exact ⟨i + 1, by omega, by go_num, hid (by rw [HE.out]; exact HO7.out), hb5.trans hb7⟩
      case measure => simp [intOf]; omega
    · obtain rfl : i = n := by omega
      have HO2 : Hid (OwnS wr w.heap.size 9 u3 (mirT ws)) := hid (by
        have := HO.out
        rwa [List.take_of_length_le (by rw [HN.out]; exact Nat.le_refl _)] at this)
      clear HO
      go_wp2_with fail
      go_ret
      exact ⟨_, rfl, HO2.out, hb⟩
end Go.Proofs.Ytlfncplldppncaa
