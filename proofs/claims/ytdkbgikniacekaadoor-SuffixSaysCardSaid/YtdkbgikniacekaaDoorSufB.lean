/-
  Where a word stands, by ends of the text: in words of lists; how many places; the ends that begin with a word are a stretch of the order. No condition.
-/
import Derived.Test.YtdkbgikniacekaaDoorSufC
import Derived.Test.YtdkbgikniacekaaDoorBegl
namespace Go.Proofs.YtdkbgikniacekaaDoor

/-- Does the word u stand at place i of t? -/
def obB (t u : ByteArray) (i : Nat) : Bool := ocB (sg t) (sg u) t.size u.size i
theorem obB_iff {t u : ByteArray} {i : Nat} (h : i ≤ t.size) : obB t u i = true ↔ bs u <+: (bs t).drop i := by
  unfold obB
  rw [← beg_cut t u i h, begB_iff, bs_drop]
theorem occ_cnB (t u : ByteArray) : (occL t u).length = cnB (obB t u) t.size := by
  unfold occL occTo occN cnB
  rw [List.length_map]
  rfl
theorem occ_order {t u : ByteArray} {o : List Nat} (h : Ord (bs t) o) : cnB (fun k => obB t u (o.getD k 0)) t.size = (occL t u).length := by
  have := cnB_order h (obB t u)
  rw [bs_len] at this
  rw [this, occ_cnB]
theorem occ_stretch {t u : ByteArray} {o : List Nat} (h : Ord (bs t) o) {x y z : Nat} (h1 : x < y) (h2 : y < z) (h3 : z < t.size) (hx : obB t u (o.getD x 0) = true) (hz : obB t u (o.getD z 0) = true) : obB t u (o.getD y 0) = true := by
  have hb := bs_len t
  have lt : ∀ k, k < t.size → o.getD k 0 ≤ t.size := fun k hk => by have := h.lt (k := k) (by omega); omega
  rw [obB_iff (lt _ (by omega))] at hx hz ⊢
  exact pre_between (.inl (h.less h1 (by omega))) (h.less h2 (by omega)) hx hz
theorem bs_mid (s : ByteArray) (a n : Nat) : bs (s.extract a (a + n)) = ((bs s).drop a).take n := by
  unfold bs
  rw [ByteArray.data_extract, Array.toList_extract, List.extract_eq_take_drop, Nat.add_sub_cancel_left]
end Go.Proofs.YtdkbgikniacekaaDoor
