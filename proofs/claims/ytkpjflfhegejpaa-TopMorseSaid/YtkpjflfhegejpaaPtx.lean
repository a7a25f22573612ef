/-
  Plain facts on the texts of pieces in memory: what they are, the next one, the text so far. No condition.
-/
import Derived.Test.YtkpjflfhegejpaaPinf
import Derived.Test.YtkpjflfhegejpaaOneT
import Derived.Laws.Concat
namespace Go.Proofs.Ytkpjflfhegejpaa
open Go.RowKit

/-- 'string([]byte{c})', the draw told behind the block. -/
theorem run_one_drew {P : Program} (w : World) (c : UInt8) (src dst e : TypeId) (hs : P.underlying src = some (.slice e)) (he : P.underlying e = some (.int .u8)) (hd : P.underlying dst = some .string) :
    (convert src dst (.slice (some ⟨w.heap.size, 0, none⟩) 1 1)).run P (w.alloc (.cells #[.int .u8 (c.toNat : Int)] e)).drew = .ok (.string (oneT c)) (w.alloc (.cells #[.int .u8 (c.toNat : Int)] e)).drew := run_one w.drew c src dst e hs he hd
theorem bs_one (c : UInt8) : bs (oneT c) = [c] := rfl
theorem txt_app (a b : List UInt8) : txt a ++ txt b = txt (a ++ b) := bs_inj (by rw [wb_app, bs_txt, bs_txt, bs_txt])
/-- What the texts of the first i pieces are in memory. -/
structure Tx (l : List (Int × UInt8)) (i : Nat) (ws : List ByteArray) : Prop where
  eq : ws.map bs = txP l i
  ok : OkP l i
  le : i ≤ l.length
theorem Tx.len {l : List (Int × UInt8)} {i : Nat} {ws : List ByteArray} (h : Tx l i ws) : ws.length = i + 1 := by
  rw [← List.length_map (f := bs), h.eq, txP_len h.le]
theorem tx_start (l : List (Int × UInt8)) : Tx l 0 [ByteArray.empty] := ⟨rfl, okP_zero l, Nat.zero_le _⟩
/-- The text of the next piece. -/
theorem Tx.next {l : List (Int × UInt8)} {i b : Nat} {ws : List ByteArray} (h : Tx l i ws) (hb : bkP l i = b) : bs (ws.getD b ByteArray.empty ++ oneT (sgP l i)) = neP l i := by
  rw [wb_app, bs_one, ← map_bs_getD, h.eq]
  unfold neP
  rw [hb]
  rfl
theorem Tx.step {l : List (Int × UInt8)} {i b : Nat} {ws : List ByteArray} (h : Tx l i ws) (hi : i < l.length) (hb : bkP l i = b) (hbi : b ≤ i) (ht : totP l (i + 1) ≤ 1000) : Tx l (i + 1) (ws ++ [ws.getD b ByteArray.empty ++ oneT (sgP l i)]) :=
  ⟨by rw [List.map_append, List.map_singleton, h.next hb, h.eq, txP_succ hi], okP_succ h.ok ⟨by omega, by omega⟩ ht, hi⟩
theorem Tx.short {l : List (Int × UInt8)} {i b : Nat} {ws : List ByteArray} (h : Tx l i ws) (hb : b < ws.length) : (ws.getD b ByteArray.empty).size ≤ 1000 := by
  have hm : bs (ws.getD b ByteArray.empty) ∈ txP l i := by
    rw [← h.eq]
    refine List.mem_map_of_mem ?_
    rw [List.getD_eq_getElem?_getD, List.getElem?_eq_getElem hb]
    exact List.getElem_mem hb
  have := txP_some hm
  rw [bs_len] at this
  exact Nat.le_trans this (okP_tot h.ok)
/-- The text so far. -/
def soT (l : List (Int × UInt8)) (i : Nat) : ByteArray := txt (txP l i).flatten
theorem soT_zero (l : List (Int × UInt8)) : soT l 0 = ByteArray.empty := rfl
theorem soT_size (l : List (Int × UInt8)) (i : Nat) : (soT l i).size = totP l i := txt_size _
theorem soT_succ {l : List (Int × UInt8)} {i : Nat} (hi : i < l.length) {t : ByteArray} (ht : bs t = neP l i) : soT l i ++ t = soT l (i + 1) := by
  refine bs_inj ?_
  unfold soT
  rw [wb_app, bs_txt, bs_txt, txP_succ hi, List.flatten_append, ht]
  simp
end Go.Proofs.Ytkpjflfhegejpaa
