/- CsvLoads' walk. Conditions: MaxLen's cell. -/
import Derived.Test.YtkgpjohfkfbfhaaGreatDoorRcFile
import Derived.Test.YtkgpjohfkfbfhaaGreatDoorMwRtFits
import Derived.Test.YtkgpjohfkfbfhaaGreatDoorMwOwnWith
import Derived.Laws.IdiomStrings
namespace Go.Proofs.YtkgpjohfkfbfhaaGreatDoor.Cv
open Go.RowKit Go.Proofs.YtkgpjohfkfbfhaaGreatDoor.Jd Go.Proofs.YtkgpjohfkfbfhaaGreatDoor.Li Go.Proofs.YtkgpjohfkfbfhaaGreatDoor.Cl Go.Proofs.YtkgpjohfkfbfhaaGreatDoor.Pt
set_option maxRecDepth 100000

theorem conv_bytes (s : ByteArray) (w : World) : ∃ (Wb : World) (cap : Nat), (convert 9 27 (.string s)).run Tryz.prog w = .ok (.slice (some ⟨w.heap.size, 0, none⟩) s.size cap) Wb ∧ s.size ≤ cap ∧ Below w.heap.size w Wb ∧ w.heap.size < Wb.heap.size ∧
    Sees Wb Wb.heap.size (some ⟨w.heap.size, 0, none⟩) s.size s.data.toList ∧ ∀ j, j < s.size → Wb.frozen? ⟨w.heap.size, j, none⟩ = false := by
  have h := run_bytes_of_string (P := Tryz.prog) w 9 27 5 s Tryz.underlying9 Tryz.underlying27 Tryz.underlying5
  have hge := grownCap_ge w s.size 0 5
  generalize hc : grownCap w s.size 0 5 = cap at h hge
  have hbr : (bytesRow s cap).size = cap := by
    unfold bytesRow
    rw [Array.size_append, Array.size_map, Array.size_replicate]
    have : s.data.size = s.size := rfl
    omega
  rw [hbr] at h
  have hg : (w.drew.alloc (.cells (bytesRow s cap) 5 (cap, cap + 1))).heap[w.heap.size]? = some (.cells (bytesRow s cap) 5 (cap, cap + 1)) := heap_alloc_new w.drew _
  have hgl := (Array.getElem?_eq_some_iff.1 hg).1
  refine ⟨_, cap, h, hge, ((Below.refl w.heap.size w).drew).alloc (Nat.le_refl _) _, hgl, ⟨rfl, fun j u hj => ⟨_, rfl, hgl, ?_⟩⟩, fun j hj => ?_⟩
  · rw [Addr.add_lit, cell_of_row _ _ _ _ _ _ hg, Nat.zero_add]
    have hjs : j < s.data.size := (List.getElem?_eq_some_iff.1 hj).1
    have hu : s.data[j] = u := by
      have := (List.getElem?_eq_some_iff.1 hj).2
      simpa using this
    unfold bytesRow
    rw [Array.getElem?_append_left (by rw [Array.size_map]; exact hjs), Array.getElem?_map, Array.getElem?_eq_getElem hjs, hu]
    rfl
  · unfold World.frozen?
    have e : (w.drew.alloc (.cells (bytesRow s cap) 5 (cap, cap + 1))).heap[w.heap.size]? = some (.cells (bytesRow s cap) 5 (cap, cap + 1)) := hg
    rw [e]
    simp
    omega
theorem sees_set {w : World} {g n j : Nat} {l : List UInt8} (h : Sees w w.heap.size (some ⟨g, 0, none⟩) n l) (hj : j < n) (v : UInt8) : Sees (w.setCell ⟨g, j, none⟩ (.int .u8 (v.toNat : Int))) (w.setCell ⟨g, j, none⟩ (.int .u8 (v.toNat : Int))).heap.size (some ⟨g, 0, none⟩) n (l.set j v) := by
  have hs : (w.setCell ⟨g, j, none⟩ (.int .u8 (v.toNat : Int))).heap.size = w.heap.size := by simp
  refine ⟨by rw [List.length_set]; exact h.len, fun q u hq => ⟨_, rfl, ?_, ?_⟩⟩
  · obtain ⟨a, ha, hb, _⟩ := h.cell j (l[j]'(by rw [← h.len]; exact hj)) (List.getElem?_eq_getElem _)
    injection ha with ha
    rw [hs]
    subst ha
    exact hb
  · rw [Addr.add_lit, Nat.zero_add]
    by_cases hqj : j = q
    · subst hqj
      have e : u = v := by
        rw [List.getElem?_set_self (by rw [← h.len]; exact hj)] at hq
        injection hq with hq
        exact hq.symm
      obtain ⟨a, ha, hb, hc⟩ := h.cell j (l[j]'(by rw [← h.len]; exact hj)) (List.getElem?_eq_getElem _)
      injection ha with ha
      subst ha
      rw [Addr.add_lit, Nat.zero_add] at hc
      rw [e]
      exact World.cell?_setCell_same (a := ⟨g, j, none⟩) (v := .int .u8 (v.toNat : Int)) w hc
    · rw [List.getElem?_set_ne hqj] at hq
      obtain ⟨a, ha, hb, hc⟩ := h.cell q u hq
      injection ha with ha
      subst ha
      rw [Addr.add_lit, Nat.zero_add] at hc
      exact (World.cell?_setCell_other (a := ⟨g, j, none⟩) (b := ⟨g, q, none⟩) (v := .int .u8 (v.toNat : Int)) w (fun e => hqj (by injection e))).trans hc
def Byt (w : World) (g n : Nat) (wx : World) : Prop := ∃ l, Sees wx wx.heap.size (some ⟨g, 0, none⟩) n l ∧ Below w.heap.size w wx
end Go.Proofs.YtkgpjohfkfbfhaaGreatDoor.Cv
