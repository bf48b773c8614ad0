/- tree.clone: the answer reads as what was handed in; what lay there before lies as it did. Conditions: fewer than 2^39 edges. -/
import Derived.Test.YtkponeccenehhaaClStk
namespace Go.Proofs.Ytkponeccenehhaa.Cl
open Go.RowKit
set_option maxRecDepth 100000

/-- Where trees may lie that clone goes through: ahead of its own memory, or in rows of edges of its own. -/
def Pw (w : World) (base : Nat) (b : Nat) : Prop := b < base ∨ (base ≤ b ∧ ∃ cur, w.heap[b]? = some (.cells cur 37 (0, 0)))
theorem Pw.keep {w w' : World} {base b : Nat} (hk : Pw w base b → w'.heap[b]? = w.heap[b]?) (h : Pw w base b) : Pw w' base b := by
  have e := hk h
  rcases h with h | ⟨h, cur, hc⟩
  · exact .inl h
  · exact .inr ⟨h, cur, e.trans hc⟩
theorem Pw.lt {w : World} {base b : Nat} (hb : base ≤ w.heap.size) (h : Pw w base b) : b < w.heap.size := by
  rcases h with h | ⟨_, cur, hc⟩
  · omega
  · exact (Array.getElem?_eq_some_iff.1 hc).1
theorem HoldsP.step {w w' : World} {base : Nat} (hk : ∀ b, Pw w base b → w'.heap[b]? = w.heap[b]?) {A : Option Addr} {n : Nat} {t : Tr} (h : HoldsP w (Pw w base) A n t) : HoldsP w' (Pw w' base) A n t :=
  (h.keep fun b _ hb => World.cell?_of_block (hk b hb)).more fun b hb => hb.keep (hk b)

def Row (w : World) (base : Nat) (A : Option Addr) : Prop := ∀ a, A = some a → ∃ d, a = ⟨d, 0, none⟩ ∧ base ≤ d ∧ ∃ cur, w.heap[d]? = some (.cells cur 37 (0, 0))
theorem Row.step {w w' : World} {base : Nat} (hk : ∀ b, Pw w base b → w'.heap[b]? = w.heap[b]?) {A : Option Addr} (h : Row w base A) : Row w' base A := fun a ha => by
  obtain ⟨d, e, hd, cur, hc⟩ := h a ha
  exact ⟨d, e, hd, cur, (hk d (.inr ⟨hd, cur, hc⟩)).trans hc⟩
structure JobOK (w : World) (base : Nat) (p : CJob × Tr) : Prop where
  holds : HoldsP w (Pw w base) p.1.a1 p.1.n1 p.2
  row : Row w base p.1.a1
theorem JobOK.step {w w' : World} {base : Nat} (hk : ∀ b, Pw w base b → w'.heap[b]? = w.heap[b]?) {p : CJob × Tr} (h : JobOK w base p) : JobOK w' base p := ⟨h.holds.step hk, h.row.step hk⟩

/-- What level's contract leaves. -/
theorem level_ok {w w' : World} {base n c' : Nat} {A' : Option Addr} {t : Tr} (hb : base ≤ w.heap.size) (hg : w.grownBy w' none) (h : HoldsP w' (fun b => Pw w base b ∨ b = w.heap.size) A' n t)
    (ha : ∀ a, A' = some a → a = ⟨w.heap.size, 0, none⟩ ∧ ∃ cur, w'.heap[w.heap.size]? = some (.cells cur 37 (0, 0))) : JobOK w' base (⟨A', n, c'⟩, t) := by
  have hk : ∀ b, Pw w base b → Pw w' base b := fun b h => h.keep fun h => hg.block b (h.lt hb) (fun e => by cases e)
  refine ⟨?_, fun a e => ?_⟩
  · cases t with
    | nil => exact h
    | cons s k r =>
      cases A' with
      | none => obtain ⟨b, o, e, _⟩ := h; cases e
      | some a =>
        obtain ⟨_, cur, hc⟩ := ha a rfl
        exact h.more fun b h => h.elim (hk b) (fun e => by rw [e]; exact .inr ⟨hb, cur, hc⟩)
  · obtain ⟨e1, cur, hc⟩ := ha a e
    exact ⟨_, e1, hb, cur, hc⟩

/-- Behind the store of a slice that reads the same. -/
theorem Pw.set {w : World} {base p q : Nat} {cur : Array Value} {v : Value} (hh : w.heap[p]? = some (.cells cur 37 (0, 0))) {b : Nat} (h : Pw w base b) : Pw (w.setCell ⟨p, q, none⟩ v) base b := by
  rcases h with h | ⟨h, c2, hc⟩
  · exact .inl h
  · by_cases e : b = p
    · subst e
      exact .inr ⟨h, _, heap_setCell_same w b q cur _ _ hh⟩
    · exact .inr ⟨h, c2, (Below.heap_setCell w _ _ b e).trans hc⟩
theorem JobOK.set {w : World} {base p q n1 c1 n2 c2 : Nat} {X Y : Option Addr} {u : Tr} {cur : Array Value} (hh : w.heap[p]? = some (.cells cur 37 (0, 0))) (hq : w.cell? ⟨p, q, none⟩ = some (.slice X n1 c1)) (h1 : HoldsP w (Pw w base) X n1 u) (h2 : HoldsP w (Pw w base) Y n2 u) (hn : n2 ≤ c2) (hm : c2 ≤ maxLen)
    {A : Option Addr} {n : Nat} {t : Tr} (h : HoldsP w (Pw w base) A n t) : HoldsP (w.setCell ⟨p, q, none⟩ (.slice Y n2 c2)) (Pw (w.setCell ⟨p, q, none⟩ (.slice Y n2 c2)) base) A n t :=
  (HoldsP.repl hh hq h1 h2 hn hm h1 h).more fun _ hb => hb.set hh
theorem Row.set {w : World} {base p q : Nat} {cur : Array Value} {v : Value} (hh : w.heap[p]? = some (.cells cur 37 (0, 0))) {A : Option Addr} (h : Row w base A) : Row (w.setCell ⟨p, q, none⟩ v) base A := fun a ha => by
  obtain ⟨d, e, hd, c2, hc⟩ := h a ha
  rcases Pw.set (base := base) (q := q) (v := v) hh (.inr ⟨hd, c2, hc⟩) with h | ⟨_, h⟩
  · omega
  · exact ⟨d, e, hd, h⟩

structure ClSt (w : World) (base g : Nat) (A : Option Addr) (n : Nat) (t : Tr) (X : List (CJob × Tr)) : Prop where
  stk : CStk w base g (X.map Prod.fst)
  whole : HoldsP w (Pw w base) A n t
  jobs : ∀ p ∈ X, JobOK w base p
  size : base ≤ w.heap.size

section
variable {w w' : World} {base g n : Nat} {A : Option Addr} {t : Tr} {X : List (CJob × Tr)}
theorem ClSt.grow (h : ClSt w base g A n t X) (hg : w.grownBy w' none) : ClSt w' base g A n t X :=
  have hk : ∀ b, Pw w base b → w'.heap[b]? = w.heap[b]? := fun b hb => hg.block b (hb.lt h.size) (fun e => by cases e)
  ⟨h.stk.grownNone hg, h.whole.step hk, fun p hp => (h.jobs p hp).step hk, Nat.le_trans h.size hg.size⟩
theorem ClSt.alloc (h : ClSt w base g A n t X) (o : Obj) : ClSt (w.alloc o) base g A n t X :=
  have hk : ∀ b, Pw w base b → (w.alloc o).heap[b]? = w.heap[b]? := fun b hb => Below.heap_alloc w o b (hb.lt h.size)
  ⟨h.stk.alloc o, h.whole.step hk, fun p hp => (h.jobs p hp).step hk, by simp; exact Nat.le_succ_of_le h.size⟩
/-- Popped. -/
theorem ClSt.pop {x : CJob × Tr} (h : ClSt w base g A n t (X ++ [x])) (hs : CStk w' base g (X.map Prod.fst)) (hg : w.grownBy w' (some g)) : ClSt w' base g A n t X ∧ JobOK w' base x := by
  have hk : ∀ b, Pw w base b → w'.heap[b]? = w.heap[b]? := fun b hb => hg.block b (hb.lt h.size) (fun e => by
    injection e with e
    subst e
    rcases hb with hb | ⟨_, cur, hc⟩
    · have := h.stk.le; omega
    · exact (h.stk.kind hc).1 rfl)
  exact ⟨⟨hs, h.whole.step hk, fun p hp => (h.jobs p (List.mem_append.2 (.inl hp))).step hk, Nat.le_trans h.size hg.size⟩, (h.jobs x (by simp)).step hk⟩
/-- Pushed. -/
theorem ClSt.push {x y : CJob × Tr} (h : ClSt w base g A n t X) (hx : JobOK w base x) (hy : JobOK w base y) (hs : CStk w' base g (X.map Prod.fst ++ [x.1])) (hb : Below base w w') (hg : ∀ k, k < w.heap.size → CFar w g k → w'.heap[k]? = w.heap[k]?) : ClSt w' base g A n t (X ++ [x]) ∧ JobOK w' base y := by
  have hk : ∀ b, Pw w base b → w'.heap[b]? = w.heap[b]? := fun b h1 => by
    rcases h1 with h1 | ⟨h0, cur, hc⟩
    · exact hb.block b h1
    · exact hg b (Array.getElem?_eq_some_iff.1 hc).1 (h.stk.kind hc)
  refine ⟨⟨by simpa using hs, h.whole.step hk, fun p hp => ?_, Nat.le_trans h.size hb.size⟩, hy.step hk⟩
  rcases List.mem_append.1 hp with hp | hp
  · exact (h.jobs p hp).step hk
  · simp only [List.mem_cons, List.not_mem_nil, or_false] at hp
    subst hp
    exact hx.step hk
/-- Stored. -/
theorem ClSt.set {p q n1 c1 n2 c2 : Nat} {Z Y : Option Addr} {u : Tr} {cur : Array Value} (h : ClSt w base g A n t X) (hh : w.heap[p]? = some (.cells cur 37 (0, 0))) (hq : w.cell? ⟨p, q, none⟩ = some (.slice Z n1 c1)) (h1 : HoldsP w (Pw w base) Z n1 u) (h2 : HoldsP w (Pw w base) Y n2 u) (hn : n2 ≤ c2) (hm : c2 ≤ maxLen) :
    ClSt (w.setCell ⟨p, q, none⟩ (.slice Y n2 c2)) base g A n t X :=
  ⟨h.stk.set (h.stk.kind hh) _, JobOK.set hh hq h1 h2 hn hm h.whole, fun x hx => ⟨JobOK.set hh hq h1 h2 hn hm (h.jobs x hx).holds, (h.jobs x hx).row.set hh⟩, by simp [World.setCell]; exact h.size⟩
end
end Go.Proofs.Ytkponeccenehhaa.Cl
