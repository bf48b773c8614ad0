/- The text of a tree: as the document has it; and as a row of edges makes it, one by one. No conditions. · A region that draws its order, in a round of a range over a function: it goes as it goes everywhere. Conditions: none of its operations is a defer statement. · tree.Text: the document's text of a tree. Conditions: edges, names' bytes below 2^36. -/
import Derived.Test.YtlcbhooiinaalaaGreatDoorMwWords
import Derived.Test.YtlcbhooiinaalaaGreatDoorMwEdges
import Derived.Test.YtlcbhooiinaalaaGreatDoorMwChkMath
import Derived.Deep.RegionHeld
import Derived.OwnWalkIn
import Derived.Test.YtlcbhooiinaalaaGreatDoorShelf
import Derived.Lib.SlBytesConst
import Derived.IntWalk
import Derived.Deep.RegionWith
namespace Go.Proofs.YtlcbhooiinaalaaGreatDoor
open Go.RowKit

/-- Text: braces, its edges between; the edges alone. -/
def Tr.body : Tr → List UInt8
  | .nil => []
  | .cons s k .nil => quo s.data.toList ++ [58, 32, 123] ++ k.body ++ [125]
  | .cons s k (.cons s2 k2 r2) => quo s.data.toList ++ [58, 32, 123] ++ k.body ++ [125, 44, 32] ++ (Tr.cons s2 k2 r2).body
def Tr.text (t : Tr) : List UInt8 := [123] ++ t.body ++ [125]

/-- One edge behind those ahead: what is written so far, how many braces stand open. -/
def textStep (st : List UInt8 × Nat) (x : Nat × ByteArray × Nat) : List UInt8 × Nat :=
  ((if x.1 ≤ st.2 then st.1 ++ (List.replicate (st.2 - x.1 + 1) 125 ++ [44, 32]) else st.1) ++ quo x.2.1.data.toList ++ [58, 32, 123], x.1)
def textRun (st : List UInt8 × Nat) (l : List (Nat × ByteArray × Nat)) : List UInt8 × Nat := l.foldl textStep st
theorem textRun_append (st : List UInt8 × Nat) (l m : List (Nat × ByteArray × Nat)) : textRun st (l ++ m) = textRun (textRun st l) m := by simp [textRun]
theorem textRun_one (st : List UInt8 × Nat) (l : List (Nat × ByteArray × Nat)) (x : Nat × ByteArray × Nat) : textRun st (l ++ [x]) = textStep (textRun st l) x := by simp [textRun]
theorem textStep_more (st : List UInt8 × Nat) (x : Nat × ByteArray × Nat) : st.1.length ≤ (textStep st x).1.length := by
  unfold textStep
  simp only [List.length_append]
  split
  · simp only [List.length_append]; omega
  · omega
theorem textRun_more (l : List (Nat × ByteArray × Nat)) : ∀ st, st.1.length ≤ (textRun st l).1.length := by
  induction l with
  | nil => intro st; exact Nat.le_refl _
  | cons x l ih => intro st; exact Nat.le_trans (textStep_more st x) (ih (textStep st x))

/-- Closed down to m open braces. -/
def shutTo (st : List UInt8 × Nat) (m : Nat) : List UInt8 := st.1 ++ List.replicate (st.2 - m) 125
theorem replicate_down {o d : Nat} (h : d ≤ o) (hd : 1 ≤ d) : List.replicate (o - (d - 1)) (125 : UInt8) = List.replicate (o - d) 125 ++ [125] := by
  rw [show o - (d - 1) = (o - d) + 1 by omega, List.replicate_succ']
theorem shut_down {st : List UInt8 × Nat} {d : Nat} (h : d ≤ st.2) (hd : 1 ≤ d) : shutTo st (d - 1) = shutTo st d ++ [125] := by
  unfold shutTo
  rw [replicate_down h hd, List.append_assoc]

theorem text_flat (t : Tr) : ∀ (d : Nat), 1 ≤ d →
    (∀ out, d - 1 ≤ (textRun (out, d - 1) (t.flat d)).2 ∧ shutTo (textRun (out, d - 1) (t.flat d)) (d - 1) = out ++ t.body) ∧
    (∀ out o, d ≤ o → t ≠ .nil → d ≤ (textRun (out, o) (t.flat d)).2 ∧ shutTo (textRun (out, o) (t.flat d)) (d - 1) = shutTo (out, o) (d - 1) ++ [44, 32] ++ t.body) := by
  induction t with
  | nil =>
    intro d hd
    refine ⟨fun out => ⟨Nat.le_refl _, by simp [Tr.flat, textRun, shutTo, Tr.body]⟩, fun out o _ h => absurd rfl h⟩
  | cons s k r ihk ihr =>
    intro d hd
    -- behind the edge itself
    have rest : ∀ pre : List UInt8, d ≤ (textRun (pre ++ quo s.data.toList ++ [58, 32, 123], d) (k.flat (d + 1) ++ r.flat d)).2 ∧
        shutTo (textRun (pre ++ quo s.data.toList ++ [58, 32, 123], d) (k.flat (d + 1) ++ r.flat d)) (d - 1) = pre ++ (Tr.cons s k r).body := by
      intro pre
      obtain ⟨h1, h2⟩ := (ihk (d + 1) (by omega)).1 (pre ++ quo s.data.toList ++ [58, 32, 123])
      simp only [Nat.add_sub_cancel] at h1 h2
      rw [textRun_append]
      generalize textRun (pre ++ quo s.data.toList ++ [58, 32, 123], d) (k.flat (d + 1)) = st at h1 h2 ⊢
      have h3 := shut_down h1 hd
      rw [h2] at h3
      cases r with
      | nil =>
        simp only [Tr.flat, textRun, List.foldl_nil]
        refine ⟨h1, ?_⟩
        rw [h3]
        simp [Tr.body]
      | cons s2 k2 r2 =>
        obtain ⟨h4, h5⟩ := (ihr d hd).2 st.1 st.2 h1 (by intro e; cases e)
        refine ⟨h4, ?_⟩
        rw [show (st.1, st.2) = st from rfl] at h5
        rw [h5, h3]
        simp [Tr.body]
    refine ⟨fun out => ?_, fun out o ho _ => ?_⟩
    · have hs : textRun (out, d - 1) ((Tr.cons s k r).flat d) = textRun (out ++ quo s.data.toList ++ [58, 32, 123], d) (k.flat (d + 1) ++ r.flat d) := by
        simp only [Tr.flat, textRun, List.foldl_cons, textStep]
        rw [if_neg (by omega)]
      rw [hs]
      obtain ⟨h1, h2⟩ := rest out
      exact ⟨by omega, h2⟩
    · have hs : textRun (out, o) ((Tr.cons s k r).flat d) = textRun ((out ++ (List.replicate (o - d + 1) 125 ++ [44, 32])) ++ quo s.data.toList ++ [58, 32, 123], d) (k.flat (d + 1) ++ r.flat d) := by
        simp only [Tr.flat, textRun, List.foldl_cons, textStep]
        rw [if_pos ho]
      rw [hs]
      obtain ⟨h1, h2⟩ := rest (out ++ (List.replicate (o - d + 1) 125 ++ [44, 32]))
      refine ⟨h1, ?_⟩
      rw [h2]
      unfold shutTo
      simp only
      rw [show o - (d - 1) = o - d + 1 by omega]
      simp

/-- The whole. -/
theorem text_run (t : Tr) : (textRun ([123], 0) (t.flat 1)).1 ++ List.replicate ((textRun ([123], 0) (t.flat 1)).2 + 1) 125 = t.text := by
  obtain ⟨h1, h2⟩ := (text_flat t 1 (Nat.le_refl _)).1 [123]
  simp only [Nat.sub_self] at h1 h2
  unfold shutTo at h2
  rw [Nat.sub_zero] at h2
  rw [List.replicate_succ', ← List.append_assoc, h2]
  rfl
theorem quo_le (s : List UInt8) : (quo s).length ≤ 4 * s.length + 2 := by
  have := quoL_le s
  simp only [quo, List.length_append, List.length_cons, List.length_nil]
  omega
theorem body_le : ∀ t : Tr, t.body.length ≤ 4 * t.bulk + 8 * t.size
  | .nil => by simp [Tr.body]
  | .cons s k .nil => by
    have h1 := quo_le s.data.toList
    have h2 := body_le k
    simp only [Tr.body, Tr.bulk, Tr.size, List.length_append, List.length_cons, List.length_nil, Array.length_toList] at h1 ⊢
    have : s.data.size = s.size := rfl
    omega
  | .cons s k (.cons s2 k2 r2) => by
    have h1 := quo_le s.data.toList
    have h2 := body_le k
    have h3 := body_le (.cons s2 k2 r2)
    simp only [Tr.body, Tr.bulk, Tr.size, List.length_append, List.length_cons, List.length_nil, Array.length_toList] at h1 h3 ⊢
    have : s.data.size = s.size := rfl
    omega
theorem flat_deep (t : Tr) : ∀ d, ∀ x ∈ t.flat d, d ≤ x.1 ∧ x.1 ≤ d + t.size ∧ x.2.1.size ≤ t.bulk := by
  induction t with
  | nil => intro d x hx; cases hx
  | cons s k r ihk ihr =>
    intro d x hx
    simp only [Tr.flat, List.mem_cons, List.mem_append] at hx
    simp only [Tr.size, Tr.bulk]
    rcases hx with rfl | hx | hx
    · simp only; omega
    · have := ihk _ x hx; omega
    · have := ihr _ x hx; omega
end Go.Proofs.YtlcbhooiinaalaaGreatDoor
namespace Go.Proofs.YtlcbhooiinaalaaGreatDoor
open Go.RowKit

variable {P : Program} {l n : Nat}

theorem rows_in {row : String} {args : Array Value} {w : World} {R : Value → World → Prop} (h : Rows P row args w R) : RowsIn (Fence.wide.inRound l) n P row args w R := by
  intro c cs _
  obtain ⟨v, w', hr, hs⟩ := h c cs
  exact ⟨v, w', hr, stepsIn_wide.2 hs⟩

def noDefer (o : Oper) : Bool :=
  match o.op with
  | .defer _ => false
  | _ => true

theorem oper_in {o : Oper} {a : Act} {w : World} {K : Act → World → Prop} {Q : Exit → Act → World → Prop} (hd : noDefer o = true) (h : o.wp P a w K Q) : o.wpIn (Fence.wide.inRound l) n P a w K Q := by
  unfold Oper.wp at h
  unfold Oper.wpIn
  refine ⟨fun _ _ => trivial, ?_⟩
  rw [Oper.semAt_plain _ _ _ (by intro c hc; unfold noDefer at hd; rw [hc] at hd; cases hd)]
  generalize (execOp a.eval o).run P w = r at h ⊢
  cases r with
  | ok x w' =>
    cases x with
    | value v => exact h
    | skip => exact h
    | defer d => exact h
    | enter f args => exact ⟨fun h => (by cases h), CallsIn.inRound l (callsIn_wide.2 h)⟩
    | row r args => exact ⟨fun h => (by cases h), rows_in h⟩
    | _ => exact h.elim
  | halt hh w' =>
    cases hh <;> first | exact h | exact h.elim

theorem wpOp_in {ops : Array Oper} {Q : Exit → Act → World → Prop} {i : Nat} {K : Act → World → Prop} {a : Act} {w : World} (hd : ops.all noDefer = true) (hQ : ¬ LetsOut Q) (h : wpOp P ops Q i K a w) : wpOpIn (Fence.wide.inRound l) n P ops Q i K a w := by
  unfold wpOp at h
  unfold wpOpIn
  cases ho : ops[i]? with
  | none => rw [ho] at h; exact h
  | some o =>
    rw [ho] at h
    simp only at h ⊢
    have hdo : noDefer o = true := by
      obtain ⟨hlt, e⟩ := Array.getElem?_eq_some_iff.1 ho
      rw [← e]
      exact (Array.all_eq_true.1 hd) i hlt
    split
    · rename_i hw
      rw [if_pos hw] at h
      rcases h with h | ⟨_, h⟩
      · exact oper_in hdo h
      · exact absurd h hQ
    · rename_i hw
      rw [if_neg hw] at h
      exact ⟨fun _ _ => trivial, h⟩

theorem wpAny_in {ops : Array Oper} {md : Region.Mode} {Q : Exit → Act → World → Prop} (hd : ops.all noDefer = true) (hQ : ¬ LetsOut Q) (fuel : Nat) : ∀ {listed : Array Bool} {a : Act} {w : World},
    wpAny P md ops Q fuel listed a w → wpAnyIn (Fence.wide.inRound l) n P md ops Q fuel listed a w := by
  induction fuel with
  | zero => exact fun h => h
  | succ fuel ih => exact fun h => ⟨h.1, fun i hi => wpOp_in hd hQ (wpOp_mono (fun a' w' h' => ih h') (h.2 i hi))⟩

theorem no_out {K : Act → World → Prop} : ¬ LetsOut (Exit.then K fun _ _ _ => False) := fun ⟨_, _, h⟩ => h

theorem round_any {id : Nat} {ops : Array Oper} {K : Act → World → Prop} {Q : Exit → Act → World → Prop} {a : Act} {w : World} (hd : ops.all noDefer = true) (hm : P.follows .mixedOrders = true)
    (h : wpAny P .any ops (Exit.then K fun _ _ _ => False) ops.size (Array.replicate ops.size false) a w.drew) : (Code.region id ops true).wpIn (Fence.wide.inRound l) n P (Exit.then K Q) a w :=
  wpIn_shut (wpIn_region_any hm (wpAny_in hd no_out _ h))

/-- Where the region is its block's last: what is asked of another exit than its end is not asked. -/
def onlyN (Q : Exit → Act → World → Prop) : Exit → Act → World → Prop
  | .normal, a, w => Q .normal a w
  | _, _, _ => False
theorem onlyN_out {Q : Exit → Act → World → Prop} : ¬ LetsOut (onlyN Q) := fun ⟨_, _, h⟩ => h
theorem round_last {id : Nat} {ops : Array Oper} {Q : Exit → Act → World → Prop} {a : Act} {w : World} (hd : ops.all noDefer = true) (hm : P.follows .mixedOrders = true)
    (h : wpAny P .any ops (onlyN Q) ops.size (Array.replicate ops.size false) a w.drew) : (Code.region id ops true).wpIn (Fence.wide.inRound l) n P Q a w :=
  wpIn_mono (wpIn_region_any hm (wpAny_in hd onlyN_out _ h)) fun e _ _ hh => by cases e <;> first | exact hh | exact hh.elim

/-- The beginning: what is held is shown of the world behind the draw. -/
theorem round_held {id : Nat} {ops : Array Oper} {S : World → Prop} {K : Act → World → Prop} {Q : Exit → Act → World → Prop} {a : Act} {w : World} (hd : ops.all noDefer = true) (hm : P.follows .mixedOrders = true) (hS : S w.drew)
    (h : S w.drew → wpAnyH P .any ops (Exit.then K fun _ _ _ => False) S ops.size (Array.replicate ops.size false) a w.drew) : (Code.region id ops true).wpIn (Fence.wide.inRound l) n P (Exit.then K Q) a w :=
  wpIn_shut (wpIn_region_any hm (wpAny_in hd no_out _ (wpAny_of_held _ _ _ _ (h hS))))
end Go.Proofs.YtlcbhooiinaalaaGreatDoor
namespace Go.Proofs.YtlcbhooiinaalaaGreatDoor
open Go.RowKit Go.Shelf
set_option maxRecDepth 100000
attribute [local go_sem] Oper.semAt_some

/-- What Text's own cells hold, these edges having come: the bytes are a row of its own; ahead of the first edge they are the brace that the text began with. -/
def TextI (B g1 g2 : Nat) (w0 : World) (pre : List Handed) (W : World) : Prop :=
  (∃ A N c, W.heap[g1]? = some (.cells #[.slice A N c] 26 (0, 0)) ∧
    (Own W B A N c (textRun ([123], 0) (pre.map Handed.word)).1 ∨ (pre = [] ∧ A = some ⟨B, 0, none⟩ ∧ N = 1 ∧ c = 1 ∧ W.heap[B]? = some (.cells #[.int .u8 123] 5 (1, 2))))) ∧
  W.heap[g2]? = some (.cells #[.int .i64 ((textRun ([123], 0) (pre.map Handed.word)).2 : Nat)] 3 (0, 0)) ∧ Below B w0 W

theorem Own.held {W W' : World} {B base n c : Nat} {A : Option Addr} {l : List UInt8} (h : Own W base A n c l) (hk : Keeps (pI kinds) B W W') : Own W' base A n c l := by
  refine ⟨h.row.1, ?_⟩
  rcases h.row.2 with e | ⟨g1, cap, cur, e, hg, hh, rest⟩
  · exact .inl e
  · exact .inr ⟨g1, cap, cur, e, hg, hk.same _ _ hh rfl, rest⟩
theorem TextI.bears (B g1 g2 : Nat) (w0 : World) : Bears kinds B (TextI B g1 g2 w0) := by
  intro pre W W' ⟨⟨A, N, c, hb, ho⟩, h2, hB⟩ hk
  refine ⟨⟨A, N, c, hk.same _ _ hb rfl, ?_⟩, hk.same _ _ h2 rfl, hB.trans hk.below⟩
  rcases ho with ho | ⟨h1, h2, h3, h4, h5⟩
  · exact .inl (ho.held hk)
  · exact .inr ⟨h1, h2, h3, h4, hk.same _ _ h5 rfl⟩

/-- A row of bytes lies in no block of another kind. -/
theorem Own.ne {W : World} {base n c g : Nat} {A : Option Addr} {l : List UInt8} {cs : Array Value} {e : TypeId} {fr : Nat × Nat} (h : Own W base A n c l) (hg : W.heap[g]? = some (.cells cs e fr)) (he : e ≠ 5) : some g ≠ (Value.slice A n c).ownBlock := by
  intro e1
  rcases h.row.2 with ⟨e2, _⟩ | ⟨g1, cap, cur, e2, _, hh, _⟩
  · rw [e2] at e1; cases e1
  · rw [e2] at e1
    injection e1 with e1
    simp only at e1
    subst e1
    rw [hh] at hg
    injection hg with hg
    injection hg with _ hg
    exact he hg.symm
theorem Own.tag {W : World} {base n c : Nat} {A : Option Addr} {l : List UInt8} (h : Own W base A n c l) : ∀ g, (Value.slice A n c).ownBlock = some g → base ≤ g ∧ ∃ cs fr, W.heap[g]? = some (.cells cs 5 fr) := by
  intro g hg
  refine ⟨(h.lt g hg).1, ?_⟩
  rcases h.row.2 with ⟨e2, _⟩ | ⟨g1, cap, cur, e2, _, hh, _⟩
  · rw [e2] at hg; cases hg
  · rw [e2] at hg
    injection hg with hg
    simp only at hg
    subst hg
    exact ⟨_, _, hh⟩
/-- A row of bytes was grown: whatever is of another kind lies as it lay. -/
theorem Grew.keeps {W W' : World} {B : Nat} {row : Option Nat} {A : Option Addr} (h : Grew W W' row A) (hB : B ≤ W.heap.size) (hrow : ∀ g, row = some g → B ≤ g ∧ ∃ cs fr, W.heap[g]? = some (.cells cs 5 fr)) : Keeps (pB kinds) B W W' :=
  Keeps.grown h.by_ hB (fun g hg => ⟨(hrow g hg).1, fun o ho => by
    obtain ⟨cs, fr, hh⟩ := (hrow g hg).2
    rw [hh] at ho
    cases ho
    rfl⟩)
theorem Grew.block {W W' : World} {row : Option Nat} {A : Option Addr} (h : Grew W W' row A) {g : Nat} {o : Obj} (hg : W.heap[g]? = some o) (hne : some g ≠ row) : W'.heap[g]? = some o :=
  (h.by_.block g (Array.getElem?_eq_some_iff.1 hg).1 hne).trans hg
theorem Own.set {W : World} {base n c g : Nat} {A : Option Addr} {l : List UInt8} (h : Own W base A n c l) (hne : some g ≠ (Value.slice A n c).ownBlock) (v : Value) : Own (W.setCell ⟨g, 0, none⟩ v) base A n c l :=
  ⟨h.row.kept (grown_set W ⟨g, 0, none⟩ v) (.inr (fun e => hne e.symm))⟩

/-- Within a round: what has been kept since it began; the boxes; the row that is being grown. -/
structure Mid (B g1 g2 : Nat) (W2 w : World) (v : Value) (o : Nat) (A : Option Addr) (n c : Nat) (out : List UInt8) : Prop where
  keeps : Keeps (pB kinds) B W2 w
  box1 : w.heap[g1]? = some (.cells #[v] 26 (0, 0))
  box2 : w.heap[g2]? = some (.cells #[.int .i64 (o : Nat)] 3 (0, 0))
  own : Own w B A n c out
  le : B ≤ w.heap.size ∧ B ≤ g1 ∧ B ≤ g2
section
variable {B g1 g2 o n c n' c' : Nat} {W2 w w' : World} {v : Value} {A A' : Option Addr} {out out' : List UInt8}
theorem Mid.new (h : Mid B g1 g2 W2 w v o A n c out) (hb : Below w.heap.size w w') : Mid B g1 g2 W2 w' v o A n c out :=
  ⟨h.keeps.trans (Keeps.new hb h.le.1), (hb.block _ (Array.getElem?_eq_some_iff.1 h.box1).1).trans h.box1, (hb.block _ (Array.getElem?_eq_some_iff.1 h.box2).1).trans h.box2, h.own.keep hb, ⟨Nat.le_trans h.le.1 hb.size, h.le.2⟩⟩
theorem Mid.drew (h : Mid B g1 g2 W2 w v o A n c out) : Mid B g1 g2 W2 w.drew v o A n c out := ⟨h.keeps.drew, h.box1, h.box2, h.own.drew, h.le⟩
theorem Mid.grow (h : Mid B g1 g2 W2 w v o A n c out) (hg : w.grownBy w' (Value.slice A n c).ownBlock) (ho : Own w' B A' n' c' out') : Mid B g1 g2 W2 w' v o A' n' c' out' :=
  ⟨h.keeps.trans (Keeps.grown hg h.le.1 (fun g hh => ⟨(h.own.tag g hh).1, fun o' ho' => by
    obtain ⟨cs, fr, hx⟩ := (h.own.tag g hh).2
    rw [hx] at ho'
    cases ho'
    rfl⟩)), (hg.block _ (Array.getElem?_eq_some_iff.1 h.box1).1 (h.own.ne h.box1 (by decide))).trans h.box1, (hg.block _ (Array.getElem?_eq_some_iff.1 h.box2).1 (h.own.ne h.box2 (by decide))).trans h.box2, ho, ⟨Nat.le_trans h.le.1 hg.size, h.le.2⟩⟩
theorem Mid.grew (h : Mid B g1 g2 W2 w v o A n c out) (hg : Grew w w' (Value.slice A n c).ownBlock A') (ho : Own w' B A' n' c' out') : Mid B g1 g2 W2 w' v o A' n' c' out' := h.grow hg.by_ ho
theorem Mid.store1 (h : Mid B g1 g2 W2 w v o A n c out) (hne : g1 ≠ g2) (u : Value) : Mid B g1 g2 W2 (w.setCell ⟨g1, 0, none⟩ u) u o A n c out :=
  ⟨h.keeps.trans (Keeps.setCell (a := ⟨g1, 0, none⟩) w u h.box1 rfl h.le.2.1), box_set h.box1, heap_far (a := ⟨g1, 0, none⟩) h.box2 hne.symm _, h.own.set (h.own.ne h.box1 (by decide)) _, ⟨by simp [World.setCell]; exact h.le.1, h.le.2⟩⟩
theorem Mid.store2 (h : Mid B g1 g2 W2 w v o A n c out) (hne : g1 ≠ g2) (o' : Nat) : Mid B g1 g2 W2 (w.setCell ⟨g2, 0, none⟩ (.int .i64 (o' : Nat))) v o' A n c out :=
  ⟨h.keeps.trans (Keeps.setCell (a := ⟨g2, 0, none⟩) w _ h.box2 rfl h.le.2.2), heap_far (a := ⟨g2, 0, none⟩) h.box1 hne _, box_set h.box2, h.own.set (h.own.ne h.box2 (by decide)) _, ⟨by simp [World.setCell]; exact h.le.1, h.le.2⟩⟩
theorem Mid.start {row : Option Nat} (hb1 : w.heap[g1]? = some (.cells #[v] 26 (0, 0))) (hb2 : w.heap[g2]? = some (.cells #[.int .i64 (o : Nat)] 3 (0, 0))) (hle : B ≤ w.heap.size ∧ B ≤ g1 ∧ B ≤ g2)
    (hrow : ∀ g, row = some g → B ≤ g ∧ ∃ cs fr, w.heap[g]? = some (.cells cs 5 fr)) (hg : Grew w w' row A') (ho : Own w' B A' n' c' out') : Mid B g1 g2 w w' v o A' n' c' out' := by
  have ne : ∀ {g : Nat} {cs : Array Value} {e : TypeId} {fr : Nat × Nat}, w.heap[g]? = some (.cells cs e fr) → e ≠ 5 → some g ≠ row := by
    intro g cs e fr h he e1
    obtain ⟨cs', fr', h'⟩ := (hrow g e1.symm).2
    rw [h] at h'
    injection h' with h'
    injection h' with _ h'
    exact he h'
  exact ⟨hg.keeps hle.1 hrow, hg.block hb1 (ne hb1 (by decide)), hg.block hb2 (ne hb2 (by decide)), ho, ⟨Nat.le_trans hle.1 hg.by_.size, hle.2⟩⟩
theorem Mid.cell1 (h : Mid B g1 g2 W2 w v o A n c out) : w.cell? ⟨g1, 0, none⟩ = some v ∧ w.frozen? ⟨g1, 0, none⟩ = false ∧ g1 < w.heap.size :=
  ⟨by rw [cell_of_row w _ 0 _ _ _ h.box1]; rfl, by simp [World.frozen?, h.box1], (Array.getElem?_eq_some_iff.1 h.box1).1⟩
theorem Mid.cell2 (h : Mid B g1 g2 W2 w v o A n c out) : w.cell? ⟨g2, 0, none⟩ = some (.int .i64 (o : Nat)) ∧ w.frozen? ⟨g2, 0, none⟩ = false ∧ g2 < w.heap.size :=
  ⟨by rw [cell_of_row w _ 0 _ _ _ h.box2]; rfl, by simp [World.frozen?, h.box2], (Array.getElem?_eq_some_iff.1 h.box2).1⟩
/-- A round's end. -/
theorem Mid.text {w0 : World} {ps : List Handed} (h : Mid B g1 g2 W2 w (.slice A n c) o A n c out) (hb : Below B w0 W2) (hr : textRun ([123], 0) (ps.map Handed.word) = (out, o)) : Keeps (pB kinds) B W2 w ∧ TextI B g1 g2 w0 ps w :=
  ⟨h.keeps, ⟨A, n, c, h.box1, .inl (by rw [hr]; exact h.own)⟩, by rw [hr]; exact h.box2, hb.trans h.keeps.below⟩
end

end Go.Proofs.YtlcbhooiinaalaaGreatDoor
