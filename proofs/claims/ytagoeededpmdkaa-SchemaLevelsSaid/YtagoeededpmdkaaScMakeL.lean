/- What the law's Make keeps, in words; behind its regions. No conditions. -/
import Derived.Test.YtagoeededpmdkaaScBoth
import Derived.Test.YtagoeededpmdkaaScOpen
import Derived.Deep.RegionHeld3
import Derived.Deep.RegionLaw
import Derived.Deep.Cut
import Derived.Deep.CutRange
namespace Go.Proofs.Ytagoeededpmdkaa.Sc
open Go.RowKit Go.Proofs.Ytagoeededpmdkaa.Nm
set_option maxRecDepth 100000

/-- A walk goes on in whatever world of which so much is known. -/
theorem abs_wp {P : Program} {code : Code} {Q : Exit → Act → World → Prop} {a : Act} {W : World} (R : World → Prop) (hR : R W) (h : ∀ W', R W' → Code.wp P code Q a W') : Code.wp P code Q a W := h W hR
theorem abs_ex {E : Exit → Act → World → Prop} {e : Exit} {a : Act} {W : World} (R : World → Prop) (hR : R W) (h : ∀ W', R W' → E e a W') : E e a W := h W hR
/-- How many definitions; how many names left. -/
def mN (n : Nat) : Nat := max 1 (min n 4)
def bd : Nat → Nat
  | 0 => 0
  | 1 => 6
  | 2 => 18
  | _ => 42
theorem bd_step {j : Nat} (hj : j < 3) : bd j + (6 + bd j) ≤ bd (j + 1) := by
  match j, hj with
  | 0, _ => decide
  | 1, _ => decide
  | 2, _ => decide
theorem bd_le (j : Nat) : bd j ≤ 42 := by
  match j with
  | 0 => decide
  | 1 => decide
  | 2 => decide
  | j + 3 => exact Nat.le_refl _
/-- Definitions as Make makes them. -/
def Good (ds : List Df) : Prop := ∀ d ∈ ds, d.fs.length ≤ 3 ∧ ∀ f ∈ d.fs, f.n.l.length ≤ 100
def Made4 (N : Nat) (w : World) (e : Ending) (w' : World) : Prop := ∃ (A : Option Addr) (c : Nat) (m : List Df), e = .returned (.slice A N c) ∧ Ds w' w'.heap.size A N m ∧ N ≤ c ∧ c ≤ maxLen ∧ Good m ∧ Below w.heap.size w w'


theorem src_blockD {P : Program} (W : World) (tx e e' : TypeId) (hk : P.underlying tx = some (.slice e')) (size : Nat) (vs : List Value) (arr : Array Value) (harr : arr = vs.toArray) (hl : vs.length = 1 * size) (h1 : ∀ u ∈ vs, u.oneCell' = true) : Src P size tx (.slice (some ⟨W.heap.size, 0, none⟩) 1 1) 1 vs (W.alloc (Obj.cells arr e)).drew := by
  subst harr
  refine Src.laid hk hl (fun j u hu => ?_) h1
  show (W.alloc (Obj.cells vs.toArray e)).cell? _ = _
  rw [cell_of_row _ _ _ _ _ _ (heap_alloc_new W _), ← hu]
  simp
theorem In.grown {w w' : World} {a : St} {A : Option Addr} {n : Nat} {v : Value} (h : In w a A n) (hg : w.grownBy w' v.ownBlock) (hk : Kin NoS w v) : In w' a A n := ⟨SeesV.more hg.size (SeesV.grown hg hk h.sees)⟩
theorem In.set {w : World} {a : St} {A : Option Addr} {n g o : Nat} {cur : Array Value} {T : TypeId} (h : In w a A n) (hg : w.heap[g]? = some (.cells cur T (0, 0))) (hk : ∀ u ∈ cur, NoS u) (v : Value) : In (w.setCell ⟨g, o, none⟩ v) a A n :=
  In.grown (v := .slice (some ⟨g, 0, none⟩) 0 0) h (grown_set w ⟨g, o, none⟩ v) (kin_box hg hk)
theorem Fst.set {G base B : Nat} {wo wl : World} {p q : Bool} {A : Option Addr} {n c : Nat} {us : List Value} {fs : List Fld} (h : Fst G base B wo wl p q A n c us fs) {g o : Nat} {cur : Array Value} {T : TypeId} (hg : wl.heap[g]? = some (.cells cur T (0, 0))) (hk : ∀ u ∈ cur, NoS u) (h1 : g ≠ G) (h2 : g < base) (h3 : B ≤ g) (v : Value) : Fst G base B wo (wl.setCell ⟨g, o, none⟩ v) p q A n c us fs where
  box := heap_far h.box (fun e => h1 e.symm) v
  row := h.row.kept (grown_set wl ⟨g, o, none⟩ v) (.inr (fun e => by have := (h.row.lt _ e).1; simp only at this; omega))
  fs := by
    have hsz : (wl.setCell ⟨g, o, none⟩ v).heap.size = wl.heap.size := by simp [World.setCell]
    rw [hsz]
    exact RowF.grown (v := .slice (some ⟨g, 0, none⟩) 0 0) (grown_set wl ⟨g, o, none⟩ v) (kin_box hg hk) h.fs
  kin := by
    intro g' hg' j u hu
    have : g' ≠ g := fun e => by have := (h.row.lt _ hg').1; omega
    rw [World.cell?_setCell_other _ _ _ _ (fun e => this (congrArg Addr.block e).symm)] at hu
    exact h.kin g' hg' j u hu
  keep := h.keep.setCell (by simp only; omega) _
  le := ⟨h.le.1, by simp [World.setCell]; exact h.le.2.1, h.le.2.2⟩
theorem names_box {a : Bool} {A : Option Addr} {n c : Nat} : ∀ u ∈ #[Value.bool a, Value.slice A n c], NoS u := by
  intro u hu
  simp at hu
  rcases hu with rfl | rfl <;> exact fun s h => by cases h
theorem left_push {G base B : Nat} {wo w3 w4 : World} {p q : Bool} {A : Option Addr} {n c : Nat} {us : List Value} {fs : List Fld} {L : St} {AL : Option Addr} {nL cL : Nat} {T : TypeId} (h : Fst G base B wo w3 p q A n c us fs) (hg : w3.grownBy w4 (Value.slice A n c).ownBlock)
    (hL : w3.heap[G + 1]? = some (.cells #[.bool L.all, .slice AL nL cL] T (0, 0))) (hI : In w3 L AL nL) (hb1 : G + 1 < base) (v : Value) :
    (w4.setCell ⟨G, 0, none⟩ v).heap[G + 1]? = some (.cells #[.bool L.all, .slice AL nL cL] T (0, 0)) ∧ In (w4.setCell ⟨G, 0, none⟩ v) L AL nL := by
  have hle := h.le
  have hne : (Value.slice A n c).ownBlock ≠ some G := fun e => by have := (h.row.lt _ e).1; omega
  have hne1 : (Value.slice A n c).ownBlock ≠ some (G + 1) := fun e => by have := (h.row.lt _ e).1; omega
  have hb4 := (hg.block G (by omega) (fun e => hne e.symm)).trans h.box
  have hL4 := (hg.block (G + 1) (by omega) (fun e => hne1 e.symm)).trans hL
  refine ⟨heap_far hL4 (by simp) v, In.set (In.grown hI hg h.kin) hb4 (by
    intro u hu
    simp at hu
    rcases hu with rfl | rfl | rfl <;> exact fun s h => by cases h) v⟩

/-- Behind the first of the round's regions: a set is made, in a variable of its own. -/
def C13 (W3 : World) (j : Nat) (s : Value) (wx : World) : Prop := ∃ (M : Nat) (m : St) (A6 : Option Addr) (c6 : Nat), s = .pointer (some ⟨M, 0, none⟩) ∧ W3.heap.size ≤ M ∧ wx.heap[M]? = some (.cells #[.bool m.all, .slice A6 m.l.length c6] 60 (0, 0)) ∧ In wx m A6 m.l.length ∧ Below W3.heap.size W3 wx ∧ m.l.length ≤ 6 + bd j
/-- Behind the second: what is left. -/
def C14 (G : Nat) (wo : World) (A2 : Option Addr) (j c2 : Nat) (us : List Value) (fs : List Fld) (f : Fld) (A4 : Option Addr) (n4 c4 Fb M : Nat) (m : St) (A6 : Option Addr) (c6 : Nat) (wx : World) : Prop := ∃ (L : St) (AL : Option Addr) (nL cL : Nat),
  wx.heap[G + 1]? = some (.cells #[.bool L.all, .slice AL nL cL] 60 (0, 0)) ∧ In wx L AL nL ∧ L.l.length ≤ bd (j + 1) ∧ Fst G (G + 2) G wo wx false false A2 j c2 us fs ∧ wx.heap[Fb]? = some (fbox f A4 n4 c4) ∧ wx.heap[M]? = some (.cells #[.bool m.all, .slice A6 m.l.length c6] 60 (0, 0)) ∧ In wx m A6 m.l.length
theorem good_add {ds : List Df} {fs : List Fld} {p q : Bool} (h : Good ds) (h1 : fs.length ≤ 3) (h2 : ∀ f ∈ fs, f.n.l.length ≤ 100) : Good (ds ++ [⟨fs, p, q⟩]) := by
  intro d hd
  rcases List.mem_append.1 hd with e | e
  · exact h d e
  · rw [List.mem_singleton] at e
    subst e
    exact ⟨h1, h2⟩
theorem fst_drew {G base B : Nat} {wo wl : World} {p q : Bool} {A : Option Addr} {n c : Nat} {us : List Value} {fs : List Fld} (h : Fst G base B wo wl p q A n c us fs) : Fst G base B wo wl.drew p q A n c us fs := h.below (Below.refl _ _).drew
theorem set_box20 {w : World} {g : Nat} {u v u' : Value} {T : TypeId} (h : w.heap[g]? = some (.cells #[u, v] T (0, 0))) : (w.setCell ⟨g, 0, none⟩ u').heap[g]? = some (.cells #[u', v] T (0, 0)) := by
  rw [heap_setCell_same w g 0 _ _ _ h]
  rfl
theorem c13_set {W3 w5 : World} {g j c6 : Nat} {m : St} {A6 : Option Addr} (hz : w5.heap[g]? = some (.cells #[.bool false, .slice none 0 0] 60 (0, 0))) (hi : In w5 m A6 m.l.length) (hb : Below W3.heap.size W3 w5) (hg : W3.heap.size ≤ g) (hm : m.l.length ≤ 6 + bd j) :
    C13 W3 j (.pointer (some ⟨g, 0, none⟩)) ((w5.setCell ⟨g, 0, none⟩ (.bool m.all)).setCell ⟨g, 1, none⟩ (.slice A6 m.l.length c6)) :=
  ⟨g, m, A6, c6, rfl, hg, set_box2 (set_box20 hz), In.set (In.set hi hz names_box _) (set_box20 hz) names_box _, (hb.setCell (by simpa using hg) _).setCell (by simpa using hg) _, hm⟩
theorem c13_new {W3 w5 : World} {j c6 : Nat} {m : St} {A6 : Option Addr} (hi : In w5 m A6 m.l.length) (hb : Below W3.heap.size W3 w5) (hm : m.l.length ≤ 6 + bd j) :
    C13 W3 j (.pointer (some ⟨w5.heap.size, 0, none⟩)) (w5.alloc (Obj.cells #[Value.bool m.all, Value.slice A6 m.l.length c6] 60)) :=
  ⟨w5.heap.size, m, A6, c6, rfl, hb.size, heap_alloc_new _ _, hi.below ((Below.refl _ _).alloc (Nat.le_refl _) _), hb.alloc hb.size _, hm⟩
theorem c14_of {G : Nat} {wo w7 : World} {A2 : Option Addr} {j c2 : Nat} {us : List Value} {fs : List Fld} {f : Fld} {A4 : Option Addr} {n4 c4 Fb M : Nat} {m : St} {A6 : Option Addr} {c6 : Nat} {L L2 : St} {AL A8 : Option Addr} {nL cL c8 : Nat}
    (hL : w7.heap[G + 1]? = some (.cells #[.bool L.all, .slice AL nL cL] 60 (0, 0))) (hI : In w7 L2 A8 L2.l.length) (hb : L2.l.length ≤ bd (j + 1)) (hF : Fst G (G + 2) G wo w7 false false A2 j c2 us fs) (hf : w7.heap[Fb]? = some (fbox f A4 n4 c4)) (hM : w7.heap[M]? = some (.cells #[.bool m.all, .slice A6 m.l.length c6] 60 (0, 0))) (hm : In w7 m A6 m.l.length) (h1 : Fb ≠ G + 1) (h2 : M ≠ G + 1) :
    C14 G wo A2 j c2 us fs f A4 n4 c4 Fb M m A6 c6 ((w7.setCell ⟨G + 1, 0, none⟩ (.bool L2.all)).setCell ⟨G + 1, 1, none⟩ (.slice A8 L2.l.length c8)) :=
  ⟨L2, A8, L2.l.length, c8, set_box2 (set_box20 hL), In.set (In.set hI hL names_box _) (set_box20 hL) names_box _, hb, (hF.set hL names_box (by omega) (by omega) (by omega) _).set (set_box20 hL) names_box (by omega) (by omega) (by omega) _,
    heap_far (heap_far hf h1 _) h1 _, heap_far (heap_far hM h2 _) h2 _, In.set (In.set hm hL names_box _) (set_box20 hL) names_box _⟩
theorem Fst.flags {G base B : Nat} {wo wl : World} {A : Option Addr} {n c : Nat} {us : List Value} {fs : List Fld} (h : Fst G base B wo wl false false A n c us fs) (p q : Bool) : Fst G base B wo ((wl.setCell ⟨G, 1, none⟩ (.bool p)).setCell ⟨G, 2, none⟩ (.bool q)) p q A n c us fs := by
  have hne : (Value.slice A n c).ownBlock ≠ some G := fun e => by have := (h.row.lt _ e).1; have := h.le; omega
  have hk : ∀ (p q : Bool), ∀ u ∈ #[Value.slice A n c, Value.bool p, Value.bool q], NoS u := by
    intro p q u hu
    simp at hu
    rcases hu with rfl | rfl | rfl <;> exact fun s h => by cases h
  have b1 : (wl.setCell ⟨G, 1, none⟩ (.bool p)).heap[G]? = some (.cells #[.slice A n c, .bool p, .bool false] 80 (0, 0)) := by
    rw [heap_setCell_same wl G 1 _ _ _ h.box]; rfl
  have b2 : ((wl.setCell ⟨G, 1, none⟩ (.bool p)).setCell ⟨G, 2, none⟩ (.bool q)).heap[G]? = some (.cells #[.slice A n c, .bool p, .bool q] 80 (0, 0)) := by
    rw [heap_setCell_same _ G 2 _ _ _ b1]; rfl
  have s1 : (wl.setCell ⟨G, 1, none⟩ (.bool p)).heap.size = wl.heap.size := by simp [World.setCell]
  have s2 : ((wl.setCell ⟨G, 1, none⟩ (.bool p)).setCell ⟨G, 2, none⟩ (.bool q)).heap.size = wl.heap.size := by simp [World.setCell]
  refine ⟨b2, (h.row.kept (grown_set wl ⟨G, 1, none⟩ _) (.inr hne)).kept (grown_set _ ⟨G, 2, none⟩ _) (.inr hne), ?_, ?_, ?_, ?_⟩
  · rw [s2]
    exact RowF.grown (v := .slice (some ⟨G, 0, none⟩) 0 0) (grown_set _ ⟨G, 2, none⟩ _) (kin_box b1 (hk _ _)) (RowF.grown (v := .slice (some ⟨G, 0, none⟩) 0 0) (grown_set wl ⟨G, 1, none⟩ _) (kin_box h.box (hk _ _)) h.fs)
  · intro g' hg' j u hu
    have hgg : g' ≠ G := fun e => hne (by rw [hg', e])
    rw [World.cell?_setCell_other _ _ _ _ (fun e => hgg (congrArg Addr.block e).symm), World.cell?_setCell_other _ _ _ _ (fun e => hgg (congrArg Addr.block e).symm)] at hu
    exact h.kin g' hg' j u hu
  · have := h.le
    exact (h.keep.setCell (by simp only; omega) _).setCell (by simp only; omega) _
  · have := h.le
    exact ⟨this.1, by rw [s2]; exact this.2.1, this.2.2⟩
end Go.Proofs.Ytagoeededpmdkaa.Sc
