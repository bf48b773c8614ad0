/- cadenceref3's pick, Both, Either: what is in both sets, in one or both. Conditions: fewer than 2^37 names in each. -/
import Derived.Test.YtagoeededpmdkaaNmRefNot
import Derived.Deep.RegionLaw
namespace Go.Proofs.Ytagoeededpmdkaa.Nm
open Go.RowKit
set_option maxRecDepth 100000

theorem four (w : World) (o0 o1 o2 o3 : Obj) : ∃ W, W = (((w.alloc o0).alloc o1).alloc o2).alloc o3 ∧ W.heap[w.heap.size]? = some o0 ∧ W.heap[w.heap.size + 1]? = some o1 ∧ W.heap[w.heap.size + 1 + 1]? = some o2 ∧ W.heap[w.heap.size + 1 + 1 + 1]? = some o3 ∧ W.heap.size = w.heap.size + 4 ∧ Below w.heap.size w W := by
  obtain ⟨W, hW, g0, g1, g2, gs, gb⟩ := three w o0 o1 o2
  refine ⟨_, rfl, ?_, ?_, ?_, ?_, by simp, by rw [← hW]; exact gb.alloc gb.size _⟩
  · rw [← hW, Below.heap_alloc _ _ _ (by omega), g0]
  · rw [← hW, Below.heap_alloc _ _ _ (by omega), g1]
  · rw [← hW, Below.heap_alloc _ _ _ (by omega), g2]
  · rw [← hW, show w.heap.size + 1 + 1 + 1 = W.heap.size by omega, heap_alloc_new]
theorem comb_l (op : Bool → Bool → Bool) (a b : St) {ys : List (List UInt8)} (hp : ys.Pairwise (· < ·)) (hm : ∀ y, y ∈ ys ↔ y ∈ a.l ++ b.l ∧ (op (a.mem y) (b.mem y) != op a.all b.all) = true) : ys = (comb op (fr a) (fr b)).l := by
  refine asc_eq hp (comb_pair _ _ _) fun y => ?_
  rw [hm y]
  simp only [comb, List.mem_filter, ord_mem, fr_mem, List.mem_append]
  simp only [fr, ord_mem]
theorem row_empty {w : World} {base : Nat} (hb : base ≤ w.heap.size) : (w.alloc (Obj.cells #[] 9)).ownsRow base 9 1 (.slice (some ⟨w.heap.size, 0, none⟩) 0 0) 0 [] := by
  have := World.ownsRow_lit (base := base) (e := 9) (size := 1) w #[] 0 hb (by simp [maxLen]) (by simp)
  simpa using this
theorem own_undrew {w : World} {base N size : Nat} {v : Value} {e : TypeId} {xs : List Value} (h : w.ownsRow base e size v N xs) : w.drew.ownsRow base e size v N xs := h.drew

end Go.Proofs.Ytagoeededpmdkaa.Nm
