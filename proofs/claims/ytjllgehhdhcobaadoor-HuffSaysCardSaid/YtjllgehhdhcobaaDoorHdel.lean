/-
  Contract of slices.Delete at huff's heaps, one of them taken out. Conditions: it is one of them.
-/
import Derived.Test.YtjllgehhdhcobaaDoorBase
import Derived.Test.YtjllgehhdhcobaaDoorHmem
import Derived.Shelf.RegionOpenPlain
import Derived.Deep.RegionLaw
namespace Go.Proofs.YtjllgehhdhcobaaDoor
open Go.RowKit

theorem tree_info : (Tryd.prog.info? 46).map (fun i => (i.zero, i.size, i.bytes)) = some (some (.agg #[.int .i64 0, .slice none 0 0]), 2, 32) := by kernel_rfl
theorem tree_zero : ∀ w, (zeroValue 46).run Tryd.prog w = .ok (.agg #[.int .i64 0, .slice none 0 0]) w := by
  intro w
  obtain ⟨i0, hi, hz0, hz1, hz2⟩ := info_parts tree_info
  simp [zeroValue, typeInfo, hi, hz0]

set_option maxHeartbeats 4000000 in
set_option maxRecDepth 1000000 in
theorem delete_any (T cap n i j : Nat) (ts : List Tr) (w : World) (hT : TreesAt w T 46 cap ts) (hn : ts.length = n) (hi : i < n) (hj : j = i + 1) :
    Calls Tryd.prog 18 #[.slice (some ⟨T, 0, none⟩) n cap, .int .i64 (i : Int), .int .i64 (j : Int)] w
      fun e w' => e = .returned (.slice (some ⟨T, 0, none⟩) (n - 1) cap) ∧ TreesAt w' T 46 cap (ts.eraseIdx i) ∧ Only T w w' := by
  obtain ⟨i0, hi0, hz0, hz1, hz2⟩ := info_parts tree_info
  have hcap : n ≤ cap := by rw [← hn]; exact hT.1
  have hlt : i < j := by omega
  have hjn : j ≤ n := by omega
  obtain ⟨news, hnews⟩ : ∃ news, news = (ts.drop j).flatMap encT := ⟨_, rfl⟩
  have hlen : news.length = (n - j) * 2 := by rw [hnews, flatT_len, List.length_drop, hn]
  have hTd : TreesAt w.drew T 46 cap ts := hT
  obtain ⟨A, hA, hsrc⟩ : ∃ A : Addr, (if cap = j then some (⟨T, 0, none⟩ : Addr) else some ⟨T, j * 2, none⟩) = some A ∧ Hid (∀ t u, news[t]? = some u → w.drew.cell? (A.add t) = some u) := by
    by_cases h : cap = j
    · refine ⟨⟨T, 0, none⟩, by simp [h], fun t u hu => ?_⟩
      have h0 : news.length = 0 := by rw [hlen]; omega
      rw [List.length_eq_zero_iff.1 h0] at hu
      simp at hu
    · refine ⟨⟨T, j * 2, none⟩, by simp [h], fun t u hu => ?_⟩
      obtain ⟨_, rest, _, hb⟩ := hTd
      rw [Addr.add_lit]
      refine hb.cell ?_
      rw [hnews, flatT_drop, List.getElem?_drop] at hu
      rw [List.getElem?_append_left]
      · exact hu
      · have := (List.getElem?_eq_some_iff.1 hu).1
        exact this
  have s1 : Hid (news.length = (n - j) * 2) := hlen
  have s2 : Hid (∀ u ∈ news, u.oneCell' = true) := by
    intro u hu
    rw [hnews] at hu
    obtain ⟨x, _, hx⟩ := List.mem_flatMap.1 hu
    simp [encT] at hx
    rcases hx with rfl | rfl <;> rfl
  have hsome : ∀ t, t < cap * 2 → (w.cell? ⟨T, t, none⟩).isSome = true := by
    intro t ht
    obtain ⟨_, rest, hr, hb⟩ := hT
    have hl : t < (ts.flatMap encT ++ rest).length := by rw [List.length_append, flatT_len]; omega
    rw [hb.cell (List.getElem?_eq_getElem hl)]
    rfl
  have hfroz : ∀ t, w.frozen? ⟨T, t, none⟩ = false := by
    obtain ⟨_, rest, hr, hb⟩ := hT
    exact hb.frozen
  have s3 : Hid (∀ t, t < news.length → (w.drew.cell? ⟨T, 0 + i * 2 + t, none⟩).isSome = true ∧ w.drew.frozen? ⟨T, 0 + i * 2 + t, none⟩ = false) := by
    intro t ht
    rw [hlen] at ht
    rw [Nat.zero_add]
    exact ⟨hsome _ (by omega), hfroz _⟩
  obtain ⟨W1, hW1⟩ : ∃ W1, W1 = w.drew.setCells T (0 + i * 2) news := ⟨_, rfl⟩
  have hdel := hTd.del (i := i) (by omega) (.int .i64 0) (.slice none 0 0)
  rw [← hj, ← hnews, ← Nat.zero_add (i * 2), ← hW1] at hdel
  have hB1 : ∃ vs, BlkAt W1 T 46 vs ∧ vs.length = cap * 2 := by
    obtain ⟨_, rest, hr, hb⟩ := hTd
    have hl := flatT_len ts
    have hst := hb.stores news (0 + i * 2) _ _ (by rw [List.length_append, hl, hlen]; omega)
    rw [← hW1] at hst
    exact ⟨_, hst.1, by rw [length_splice _ _ _ (by rw [List.length_append, hl, hlen]; omega), List.length_append, hl]; omega⟩
  obtain ⟨vs, hB1, hvs⟩ := hB1
  have e1 : i + (n - j) = n - 1 := by omega
  have hcl : ∀ ty, (Builtin.clear_ #[43] ty #[.slice (some ⟨T, (i + (n - j)) * 2, none⟩) (n - (i + (n - j))) (cap - (i + (n - j)))]).run Tryd.prog W1 = .ok (.tuple #[]) (W1.setCells T ((i + (n - j)) * 2) [.int .i64 0, .slice none 0 0]) :=
    fun ty => run_clear_one W1 _ _ ty _ Tryd.underlying43 tree_zero T _ _ _ (by omega) _ _ rfl rfl rfl (fun t ht => by
      have hl : (i + (n - j)) * 2 + t < vs.length := by omega
      rw [hB1.cell (List.getElem?_eq_getElem hl)]
      rfl) (fun t ht => hB1.frozen _)
  have HD : Hid (TreesAt (W1.setCells T ((i + (n - j)) * 2) [.int .i64 0, .slice none 0 0]) T 46 cap (ts.eraseIdx i) ∧ Only T w (W1.setCells T ((i + (n - j)) * 2) [.int .i64 0, .slice none 0 0])) := by
    rw [hn] at hdel
    rw [e1]
    exact ⟨hdel.1, Only.trans (⟨rfl, rfl, rfl, rfl, fun _ _ => rfl⟩ : Only T w w.drew) hdel.2⟩
  have hW : Hid (W1 = w.drew.setCells T (0 + i * 2) news) := hW1
  have HE : Hid (n - 1 = i + (n - j)) := e1.symm
  have mixed : Tryd.prog.follows Departure.mixedOrders = true := by kernel_rfl
  have hic : i ≤ cap := by omega
  have hjc : j ≤ cap := by omega
  clear hW1 hdel hB1 hvs hT hTd hsome hfroz hnews hlen e1 hn hj
  go_enter Tryd.func18, Tryd.ntmps18
  go_wp2_with fail
  go_region_law_o (refine step_append_room rfl (.tmp 22) (.tmp 25) 43 rfl 46 i0 2 Tryd.underlying43 hi0 hz1 T 0 i cap (by simp [Act.eval, Act.put]) A (n - j) (cap - j) news (by simp [Act.eval, Act.put]) s1.out hsrc.out s2.out (by omega) s3.out ?_; rw [← hW.out])
  go_wp2
  go_ret
  exact ⟨by rw [HE.out]; rfl, HD.out⟩
end Go.Proofs.YtjllgehhdhcobaaDoor
