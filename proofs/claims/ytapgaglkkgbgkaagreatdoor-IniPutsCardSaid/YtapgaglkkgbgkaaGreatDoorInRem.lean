import Derived.Test.YtapgaglkkgbgkaaGreatDoorMwInSelf
import Derived.Test.YtapgaglkkgbgkaaGreatDoorMwInTnM
import Derived.Deep.QuietTactic
/- ini: the remarks of a file, as the law's function tells them, are those of its lines; plain mathematics. No conditions. -/
namespace Go.Proofs.YtapgaglkkgbgkaaGreatDoor.In
open Go.RowKit Go.Proofs.YtapgaglkkgbgkaaGreatDoor.Li Go.Proofs.YtapgaglkkgbgkaaGreatDoor.Cv Go.Proofs.YtapgaglkkgbgkaaGreatDoor.Pt
set_option maxRecDepth 100000

end Go.Proofs.YtapgaglkkgbgkaaGreatDoor.In
/- The law's remarks of ini: what the function answers. Conditions: texts of a million bytes at most. -/
namespace Go.Proofs.YtapgaglkkgbgkaaGreatDoor.In
open Go.RowKit Go.Proofs.YtapgaglkkgbgkaaGreatDoor.Jd Go.Proofs.YtapgaglkkgbgkaaGreatDoor.Li Go.Proofs.YtapgaglkkgbgkaaGreatDoor.Cv
set_option maxRecDepth 100000

theorem elem_st : Elem Tryz.prog 28 9 (.string ⟨#[]⟩) 1 16 := ⟨Tryz.underlying28, by kernel_rfl, rfl, by omega⟩
def OwnSt (w : World) (base : Nat) (A : Option Addr) (n c : Nat) (rs : List Bs) : Prop := w.ownsRow base 9 1 (.slice A n c) n (rs.map Li.encs)
theorem OwnSt.alloc {w : World} {base n c : Nat} {A : Option Addr} {rs : List Bs} (h : OwnSt w base A n c rs) (o : Obj) : (w.alloc o).ownsRow base 9 1 (.slice A n c) n (rs.map Li.encs) := World.ownsRow.alloc h o
theorem OwnSt.len {w : World} {base n c : Nat} {A : Option Addr} {rs : List Bs} (h : OwnSt w base A n c rs) : n = rs.length := by have := h.1; rw [List.length_map] at this; omega
theorem OwnSt.sees {w : World} {base n c : Nat} {A : Option Addr} {rs : List Bs} (h : OwnSt w base A n c rs) : SeesV w w.heap.size A n (rs.map Li.encs) := by
  have hl := h.len
  rcases own_form h with ⟨rfl, rfl, hl2⟩ | ⟨g, rfl, _, hgl, _, _, hc⟩
  · rw [hl2]
    exact ⟨rfl, fun j u hu => by simp at hu⟩
  · exact ⟨by rw [List.length_map]; exact hl, fun j u hu => ⟨g, 0, rfl, hgl, hc j u hu⟩⟩
theorem seesv_at {w : World} {B n k : Nat} {A : Option Addr} {rs : List Bs} (h : SeesV w B A n (rs.map Li.encs)) (hk : k < n) : ∃ b o y, A = some ⟨b, o, none⟩ ∧ rs[k]? = some y ∧ b < B ∧ w.cell? ⟨b, o + k, none⟩ = some (.string ⟨y.toArray⟩) := by
  have hl := h.len
  rw [List.length_map] at hl
  have hkl : k < rs.length := by omega
  obtain ⟨b, o, e, hb, hc⟩ := h.cell k (Li.encs rs[k]) (by rw [List.getElem?_map, List.getElem?_eq_getElem hkl]; rfl)
  exact ⟨b, o, rs[k], e, List.getElem?_eq_getElem hkl, hb, hc⟩
def RemP (w : World) (R : List Bs) (e : Ending) (w' : World) : Prop := ∃ A n c, e = .returned (.slice A n c) ∧ OwnSt w' w.heap.size A n c R ∧ Below w.heap.size w w'

end Go.Proofs.YtapgaglkkgbgkaaGreatDoor.In
