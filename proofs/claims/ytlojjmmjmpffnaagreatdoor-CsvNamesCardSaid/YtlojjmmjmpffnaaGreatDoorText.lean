/- tree.Text: the document's text of a tree. Conditions: edges, names' bytes below 2^36. -/
import Derived.Test.YtlojjmmjmpffnaaGreatDoorTextWords
import Derived.Test.YtlojjmmjmpffnaaGreatDoorEdges
import Derived.Test.YtlojjmmjmpffnaaGreatDoorRound
import Derived.Test.YtlojjmmjmpffnaaGreatDoorShelf
import Derived.Lib.SlBytesConst
import Derived.IntWalk
import Derived.Deep.RegionWith
namespace Go.Proofs.YtlojjmmjmpffnaaGreatDoor
open Go.RowKit Go.Shelf
set_option maxRecDepth 100000
attribute [local go_sem] Oper.semAt_some

/-- What Text's own cells hold, these edges having come: the bytes are a row of its own; ahead of the first edge they are the brace that the text began with. -/
def TextI (B g1 g2 : Nat) (w0 : World) (pre : List Handed) (W : World) : Prop :=
  (∃ A N c, W.heap[g1]? = some (.cells #[.slice A N c] 26 (0, 0)) ∧
    (Own W B A N c (textRun ([123], 0) (pre.map Handed.word)).1 ∨ (pre = [] ∧ A = some ⟨B, 0, none⟩ ∧ N = 1 ∧ c = 1 ∧ W.heap[B]? = some (.cells #[.int .u8 123] 5 (1, 2))))) ∧
  W.heap[g2]? = some (.cells #[.int .i64 ((textRun ([123], 0) (pre.map Handed.word)).2 : Nat)] 3 (0, 0)) ∧ Below B w0 W

theorem Own.held {W W' : World} {B base n c : Nat} {A : Option Addr} {l : List UInt8} (h : Own W base A n c l) (hk : Keeps (pI kinds) B W W') : Own W' base A n c l := by
  refine ⟨h.row.1, ?_⟩
  rcases h.row.2 with e | ⟨g1, cap, cur, e, hg, hh, rest⟩
  · exact .inl e
  · exact .inr ⟨g1, cap, cur, e, hg, hk.same _ _ hh rfl, rest⟩
theorem TextI.bears (B g1 g2 : Nat) (w0 : World) : Bears kinds B (TextI B g1 g2 w0) := by
  intro pre W W' ⟨⟨A, N, c, hb, ho⟩, h2, hB⟩ hk
  refine ⟨⟨A, N, c, hk.same _ _ hb rfl, ?_⟩, hk.same _ _ h2 rfl, hB.trans hk.below⟩
  rcases ho with ho | ⟨h1, h2, h3, h4, h5⟩
  · exact .inl (ho.held hk)
  · exact .inr ⟨h1, h2, h3, h4, hk.same _ _ h5 rfl⟩

/-- A row of bytes lies in no block of another kind. -/
theorem Own.ne {W : World} {base n c g : Nat} {A : Option Addr} {l : List UInt8} {cs : Array Value} {e : TypeId} {fr : Nat × Nat} (h : Own W base A n c l) (hg : W.heap[g]? = some (.cells cs e fr)) (he : e ≠ 5) : some g ≠ (Value.slice A n c).ownBlock := by
  intro e1
  rcases h.row.2 with ⟨e2, _⟩ | ⟨g1, cap, cur, e2, _, hh, _⟩
  · rw [e2] at e1; cases e1
  · rw [e2] at e1
    injection e1 with e1
    simp only at e1
    subst e1
    rw [hh] at hg
    injection hg with hg
    injection hg with _ hg
    exact he hg.symm
theorem Own.tag {W : World} {base n c : Nat} {A : Option Addr} {l : List UInt8} (h : Own W base A n c l) : ∀ g, (Value.slice A n c).ownBlock = some g → base ≤ g ∧ ∃ cs fr, W.heap[g]? = some (.cells cs 5 fr) := by
  intro g hg
  refine ⟨(h.lt g hg).1, ?_⟩
  rcases h.row.2 with ⟨e2, _⟩ | ⟨g1, cap, cur, e2, _, hh, _⟩
  · rw [e2] at hg; cases hg
  · rw [e2] at hg
    injection hg with hg
    simp only at hg
    subst hg
    exact ⟨_, _, hh⟩
/-- A row of bytes was grown: whatever is of another kind lies as it lay. -/
theorem Grew.keeps {W W' : World} {B : Nat} {row : Option Nat} {A : Option Addr} (h : Grew W W' row A) (hB : B ≤ W.heap.size) (hrow : ∀ g, row = some g → B ≤ g ∧ ∃ cs fr, W.heap[g]? = some (.cells cs 5 fr)) : Keeps (pB kinds) B W W' :=
  Keeps.grown h.by_ hB (fun g hg => ⟨(hrow g hg).1, fun o ho => by
    obtain ⟨cs, fr, hh⟩ := (hrow g hg).2
    rw [hh] at ho
    cases ho
    rfl⟩)
theorem Grew.block {W W' : World} {row : Option Nat} {A : Option Addr} (h : Grew W W' row A) {g : Nat} {o : Obj} (hg : W.heap[g]? = some o) (hne : some g ≠ row) : W'.heap[g]? = some o :=
  (h.by_.block g (Array.getElem?_eq_some_iff.1 hg).1 hne).trans hg
theorem Own.set {W : World} {base n c g : Nat} {A : Option Addr} {l : List UInt8} (h : Own W base A n c l) (hne : some g ≠ (Value.slice A n c).ownBlock) (v : Value) : Own (W.setCell ⟨g, 0, none⟩ v) base A n c l :=
  ⟨h.row.kept (grown_set W ⟨g, 0, none⟩ v) (.inr (fun e => hne e.symm))⟩

/-- Within a round: what has been kept since it began; the boxes; the row that is being grown. -/
structure Mid (B g1 g2 : Nat) (W2 w : World) (v : Value) (o : Nat) (A : Option Addr) (n c : Nat) (out : List UInt8) : Prop where
  keeps : Keeps (pB kinds) B W2 w
  box1 : w.heap[g1]? = some (.cells #[v] 26 (0, 0))
  box2 : w.heap[g2]? = some (.cells #[.int .i64 (o : Nat)] 3 (0, 0))
  own : Own w B A n c out
  le : B ≤ w.heap.size ∧ B ≤ g1 ∧ B ≤ g2
section
variable {B g1 g2 o n c n' c' : Nat} {W2 w w' : World} {v : Value} {A A' : Option Addr} {out out' : List UInt8}
theorem Mid.new (h : Mid B g1 g2 W2 w v o A n c out) (hb : Below w.heap.size w w') : Mid B g1 g2 W2 w' v o A n c out :=
  ⟨h.keeps.trans (Keeps.new hb h.le.1), (hb.block _ (Array.getElem?_eq_some_iff.1 h.box1).1).trans h.box1, (hb.block _ (Array.getElem?_eq_some_iff.1 h.box2).1).trans h.box2, h.own.keep hb, ⟨Nat.le_trans h.le.1 hb.size, h.le.2⟩⟩
theorem Mid.drew (h : Mid B g1 g2 W2 w v o A n c out) : Mid B g1 g2 W2 w.drew v o A n c out := ⟨h.keeps.drew, h.box1, h.box2, h.own.drew, h.le⟩
theorem Mid.grow (h : Mid B g1 g2 W2 w v o A n c out) (hg : w.grownBy w' (Value.slice A n c).ownBlock) (ho : Own w' B A' n' c' out') : Mid B g1 g2 W2 w' v o A' n' c' out' :=
  ⟨h.keeps.trans (Keeps.grown hg h.le.1 (fun g hh => ⟨(h.own.tag g hh).1, fun o' ho' => by
    obtain ⟨cs, fr, hx⟩ := (h.own.tag g hh).2
    rw [hx] at ho'
    cases ho'
    rfl⟩)), (hg.block _ (Array.getElem?_eq_some_iff.1 h.box1).1 (h.own.ne h.box1 (by decide))).trans h.box1, (hg.block _ (Array.getElem?_eq_some_iff.1 h.box2).1 (h.own.ne h.box2 (by decide))).trans h.box2, ho, ⟨Nat.le_trans h.le.1 hg.size, h.le.2⟩⟩
theorem Mid.grew (h : Mid B g1 g2 W2 w v o A n c out) (hg : Grew w w' (Value.slice A n c).ownBlock A') (ho : Own w' B A' n' c' out') : Mid B g1 g2 W2 w' v o A' n' c' out' := h.grow hg.by_ ho
theorem Mid.store1 (h : Mid B g1 g2 W2 w v o A n c out) (hne : g1 ≠ g2) (u : Value) : Mid B g1 g2 W2 (w.setCell ⟨g1, 0, none⟩ u) u o A n c out :=
  ⟨h.keeps.trans (Keeps.setCell (a := ⟨g1, 0, none⟩) w u h.box1 rfl h.le.2.1), box_set h.box1, heap_far (a := ⟨g1, 0, none⟩) h.box2 hne.symm _, h.own.set (h.own.ne h.box1 (by decide)) _, ⟨by simp [World.setCell]; exact h.le.1, h.le.2⟩⟩
theorem Mid.store2 (h : Mid B g1 g2 W2 w v o A n c out) (hne : g1 ≠ g2) (o' : Nat) : Mid B g1 g2 W2 (w.setCell ⟨g2, 0, none⟩ (.int .i64 (o' : Nat))) v o' A n c out :=
  ⟨h.keeps.trans (Keeps.setCell (a := ⟨g2, 0, none⟩) w _ h.box2 rfl h.le.2.2), heap_far (a := ⟨g2, 0, none⟩) h.box1 hne _, box_set h.box2, h.own.set (h.own.ne h.box2 (by decide)) _, ⟨by simp [World.setCell]; exact h.le.1, h.le.2⟩⟩
theorem Mid.start {row : Option Nat} (hb1 : w.heap[g1]? = some (.cells #[v] 26 (0, 0))) (hb2 : w.heap[g2]? = some (.cells #[.int .i64 (o : Nat)] 3 (0, 0))) (hle : B ≤ w.heap.size ∧ B ≤ g1 ∧ B ≤ g2)
    (hrow : ∀ g, row = some g → B ≤ g ∧ ∃ cs fr, w.heap[g]? = some (.cells cs 5 fr)) (hg : Grew w w' row A') (ho : Own w' B A' n' c' out') : Mid B g1 g2 w w' v o A' n' c' out' := by
  have ne : ∀ {g : Nat} {cs : Array Value} {e : TypeId} {fr : Nat × Nat}, w.heap[g]? = some (.cells cs e fr) → e ≠ 5 → some g ≠ row := by
    intro g cs e fr h he e1
    obtain ⟨cs', fr', h'⟩ := (hrow g e1.symm).2
    rw [h] at h'
    injection h' with h'
    injection h' with _ h'
    exact he h'
  exact ⟨hg.keeps hle.1 hrow, hg.block hb1 (ne hb1 (by decide)), hg.block hb2 (ne hb2 (by decide)), ho, ⟨Nat.le_trans hle.1 hg.by_.size, hle.2⟩⟩
theorem Mid.cell1 (h : Mid B g1 g2 W2 w v o A n c out) : w.cell? ⟨g1, 0, none⟩ = some v ∧ w.frozen? ⟨g1, 0, none⟩ = false ∧ g1 < w.heap.size :=
  ⟨by rw [cell_of_row w _ 0 _ _ _ h.box1]; rfl, by simp [World.frozen?, h.box1], (Array.getElem?_eq_some_iff.1 h.box1).1⟩
theorem Mid.cell2 (h : Mid B g1 g2 W2 w v o A n c out) : w.cell? ⟨g2, 0, none⟩ = some (.int .i64 (o : Nat)) ∧ w.frozen? ⟨g2, 0, none⟩ = false ∧ g2 < w.heap.size :=
  ⟨by rw [cell_of_row w _ 0 _ _ _ h.box2]; rfl, by simp [World.frozen?, h.box2], (Array.getElem?_eq_some_iff.1 h.box2).1⟩
/-- A round's end. -/
theorem Mid.text {w0 : World} {ps : List Handed} (h : Mid B g1 g2 W2 w (.slice A n c) o A n c out) (hb : Below B w0 W2) (hr : textRun ([123], 0) (ps.map Handed.word) = (out, o)) : Keeps (pB kinds) B W2 w ∧ TextI B g1 g2 w0 ps w :=
  ⟨h.keeps, ⟨A, n, c, h.box1, .inl (by rw [hr]; exact h.own)⟩, by rw [hr]; exact h.box2, hb.trans h.keeps.below⟩
end

end Go.Proofs.YtlojjmmjmpffnaaGreatDoor
