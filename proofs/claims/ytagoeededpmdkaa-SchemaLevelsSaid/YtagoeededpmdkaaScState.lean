/- What a loop that makes fields, definitions keeps: the row, what its cells read as, the variable that holds it. No conditions. -/
import Derived.Test.YtagoeededpmdkaaScKind
namespace Go.Proofs.Ytagoeededpmdkaa.Sc
open Go.RowKit Go.Proofs.Ytagoeededpmdkaa.Nm
set_option maxRecDepth 100000

/-- One block just laid, as a source. -/
theorem src_blockE {P : Program} (W : World) (tx e e' : TypeId) (hk : P.underlying tx = some (.slice e')) (size : Nat) (vs : List Value) (arr : Array Value) (harr : arr = vs.toArray) (hl : vs.length = 1 * size) (h1 : ∀ u ∈ vs, u.oneCell' = true) (g : Nat) (hg : g = W.heap.size) : Src P size tx (.slice (some ⟨g, 0, none⟩) 1 1) 1 vs (W.alloc (Obj.cells arr e)) := by
  subst hg; subst harr
  exact src_block W tx e e' hk size vs hl h1
theorem set_box3 {w : World} {g : Nat} {u v x u' : Value} {T : TypeId} (h : w.heap[g]? = some (.cells #[u, v, x] T (0, 0))) : (w.setCell ⟨g, 0, none⟩ u').heap[g]? = some (.cells #[u', v, x] T (0, 0)) := by
  rw [heap_setCell_same w g 0 _ _ _ h]
  rfl
theorem kin_box {K : Value → Prop} {w : World} {g : Nat} {cur : Array Value} {T : TypeId} (h : w.heap[g]? = some (.cells cur T (0, 0))) (hk : ∀ u ∈ cur, K u) : Kin K w (.slice (some ⟨g, 0, none⟩) 0 0) := by
  intro g' hg' j u hu
  simp only [Value.ownBlock, Option.some.injEq] at hg'
  subst hg'
  rw [cell_of_row _ _ _ _ _ _ h] at hu
  exact hk u (Array.mem_of_getElem? hu)

/-- Within a loop that makes fields: the variable in block G, the row from block base on. -/
structure Fst (G base B : Nat) (wo wl : World) (p q : Bool) (A : Option Addr) (n c : Nat) (us : List Value) (fs : List Fld) : Prop where
  box : wl.heap[G]? = some (.cells #[.slice A n c, .bool p, .bool q] 80 (0, 0))
  row : wl.ownsRow base 83 4 (.slice A n c) n us
  fs : RowF wl wl.heap.size us fs
  kin : Kin NoS wl (.slice A n c)
  keep : Below B wo wl
  le : G < base ∧ base ≤ wl.heap.size ∧ B ≤ G
theorem Fst.below {G base B : Nat} {wo wl w' : World} {p q : Bool} {A : Option Addr} {n c : Nat} {us : List Value} {fs : List Fld} (h : Fst G base B wo wl p q A n c us fs) (hb : Below wl.heap.size wl w') : Fst G base B wo w' p q A n c us fs where
  box := Below.box hb h.box
  row := h.row.kept (row := none) ⟨hb.os, hb.tape, hb.output, hb.size, fun i hi _ => hb.block i hi⟩ (by cases hv : (Value.slice A n c).ownBlock <;> simp)
  fs := (h.fs.keep (fun p hp => hb.cell hp)).more hb.size
  kin := h.kin.keep h.row hb
  keep := h.keep.trans (hb.mono (by have := h.le; omega))
  le := ⟨h.le.1, Nat.le_trans h.le.2.1 hb.size, h.le.2.2⟩
theorem Fst.push {G base B : Nat} {wo w3 w4 : World} {p q : Bool} {A A4 An : Option Addr} {n c c4 nn cn : Nat} {us : List Value} {fs : List Fld} {f : Fld} (h : Fst G base B wo w3 p q A n c us fs)
    (hn : SeesV w3 w3.heap.size An nn (f.n.l.map encs)) (h1 : nn ≤ maxLen) (h2 : 0 ≤ cn)
    (ho4 : w4.ownsRow base 83 4 (.slice A4 (n + 1) c4) (n + 1) (us ++ [.bool f.n.all, .slice An nn cn, .int .i64 f.to, .bool f.need])) (hg : w3.grownBy w4 (Value.slice A n c).ownBlock)
    (hk : Kin NoS w4 (.slice A4 (n + 1) c4)) :
    w4.heap[G]? = some (.cells #[.slice A n c, .bool p, .bool q] 80 (0, 0)) ∧
    Fst G base B wo (w4.setCell ⟨G, 0, none⟩ (.slice A4 (n + 1) c4)) p q A4 (n + 1) c4 (us ++ [.bool f.n.all, .slice An nn cn, .int .i64 f.to, .bool f.need]) (fs ++ [f]) := by
  have hle := h.le
  have hG : G < w3.heap.size := by omega
  have hne : (Value.slice A n c).ownBlock ≠ some G := fun e => by have := (h.row.lt _ e).1; omega
  have hne4 : (Value.slice A4 (n + 1) c4).ownBlock ≠ some G := fun e => by have := (ho4.lt _ e).1; omega
  have hb4 : w4.heap[G]? = some (.cells #[.slice A n c, .bool p, .bool q] 80 (0, 0)) := (hg.block G hG (fun e => hne e.symm)).trans h.box
  have hgs := grown_set w4 ⟨G, 0, none⟩ (Value.slice A4 (n + 1) c4)
  have hkb : Kin NoS w4 (.slice (some ⟨G, 0, none⟩) 0 0) := kin_box hb4 (by
    intro u hu
    simp at hu
    rcases hu with rfl | rfl | rfl <;> exact fun s h => by cases h)
  have hsz4 : w3.heap.size ≤ w4.heap.size := hg.size
  have hsz5 : (w4.setCell ⟨G, 0, none⟩ (Value.slice A4 (n + 1) c4)).heap.size = w4.heap.size := by simp [World.setCell]
  refine ⟨hb4, ⟨set_box3 hb4, ho4.kept hgs (.inr hne4), ?_, ?_, ?_, ?_⟩⟩
  · rw [hsz5]
    have e1 : RowF w4 w3.heap.size us fs := h.fs.grown hg h.kin
    have e2 : SeesV w4 w3.heap.size An nn (f.n.l.map encs) := SeesV.grown hg h.kin hn
    have e3 : RowF w4 w4.heap.size (us ++ [.bool f.n.all, .slice An nn cn, .int .i64 f.to, .bool f.need]) (fs ++ [f]) := (e1.more hsz4).append ⟨rfl, rfl, rfl, SeesV.more hsz4 e2, h1, h2, trivial⟩
    exact RowF.grown (v := .slice (some ⟨G, 0, none⟩) 0 0) hgs hkb e3
  · intro g hg' j u hu
    have : g ≠ G := fun e => hne4 (by rw [hg', e])
    rw [World.cell?_setCell_other _ _ _ _ (fun e => this (congrArg Addr.block e).symm)] at hu
    exact hk g hg' j u hu
  · exact ((h.keep.grown hg (by omega) (fun k hk => by have := (h.row.lt k hk).1; omega))).setCell (by simp only; omega) _
  · exact ⟨hle.1, by rw [hsz5]; omega, hle.2.2⟩
/-- What such a loop made. -/
theorem Fst.made {G base B : Nat} {wo wl : World} {p q : Bool} {A : Option Addr} {n c : Nat} {us : List Value} {fs : List Fld} (h : Fst G base B wo wl p q A n c us fs) : Fs wl wl.heap.size A n fs ∧ n ≤ c ∧ c ≤ maxLen := by
  refine ⟨own_fs h.row h.fs, ?_⟩
  rcases h.row.2 with ⟨e1, e2⟩ | ⟨g, cap, cur, e1, _, _, a1, a2, _⟩
  · injection e1 with _ _ e3
    subst e2; subst e3
    exact ⟨Nat.le_refl _, Nat.zero_le _⟩
  · injection e1 with _ _ e3
    subst e3
    exact ⟨a1, a2⟩

/-- Within a loop that makes definitions. -/
structure Dst (base : Nat) (wo wl : World) (A : Option Addr) (n c : Nat) (vs : List Value) (ds : List Df) : Prop where
  row : wl.ownsRow base 80 3 (.slice A n c) n vs
  ds : RowD wl wl.heap.size vs ds
  kin : Kin NoSI wl (.slice A n c)
  keep : Below base wo wl
  le : base ≤ wl.heap.size
theorem Dst.below {base : Nat} {wo wl w' : World} {A : Option Addr} {n c : Nat} {vs : List Value} {ds : List Df} (h : Dst base wo wl A n c vs ds) (hb : Below wl.heap.size wl w') : Dst base wo w' A n c vs ds where
  row := h.row.kept (row := none) ⟨hb.os, hb.tape, hb.output, hb.size, fun i hi _ => hb.block i hi⟩ (by cases hv : (Value.slice A n c).ownBlock <;> simp)
  ds := (h.ds.keep (fun p hp => hb.cell hp)).more hb.size
  kin := h.kin.keep h.row hb
  keep := h.keep.trans (hb.mono h.le)
  le := Nat.le_trans h.le hb.size
theorem Dst.push {base : Nat} {wo w3 w4 : World} {A A4 An : Option Addr} {n c c4 nn cn : Nat} {vs : List Value} {ds : List Df} {d : Df} (h : Dst base wo w3 A n c vs ds)
    (hn : Fs w3 w3.heap.size An nn d.fs) (h1 : nn ≤ cn) (h2 : cn ≤ maxLen)
    (ho4 : w4.ownsRow base 80 3 (.slice A4 (n + 1) c4) (n + 1) (vs ++ [.slice An nn cn, .bool d.one, .bool d.some])) (hg : w3.grownBy w4 (Value.slice A n c).ownBlock)
    (hk : Kin NoSI w4 (.slice A4 (n + 1) c4)) : Dst base wo w4 A4 (n + 1) c4 (vs ++ [.slice An nn cn, .bool d.one, .bool d.some]) (ds ++ [d]) where
  row := ho4
  ds := ((h.ds.grown hg h.kin).more hg.size).append ⟨rfl, rfl, (Fs.grown hg h.kin hn).more hg.size, h1, h2, trivial⟩
  kin := hk
  keep := h.keep.grown hg h.le (fun k hk => (h.row.lt k hk).1)
  le := Nat.le_trans h.le hg.size
theorem Dst.made {base : Nat} {wo wl : World} {A : Option Addr} {n c : Nat} {vs : List Value} {ds : List Df} (h : Dst base wo wl A n c vs ds) : Ds wl wl.heap.size A n ds ∧ n ≤ c ∧ c ≤ maxLen := by
  refine ⟨own_ds h.row h.ds, ?_⟩
  rcases h.row.2 with ⟨e1, e2⟩ | ⟨g, cap, cur, e1, _, _, a1, a2, _⟩
  · injection e1 with _ _ e3
    subst e2; subst e3
    exact ⟨Nat.le_refl _, Nat.zero_le _⟩
  · injection e1 with _ _ e3
    subst e3
    exact ⟨a1, a2⟩
end Go.Proofs.Ytagoeededpmdkaa.Sc
