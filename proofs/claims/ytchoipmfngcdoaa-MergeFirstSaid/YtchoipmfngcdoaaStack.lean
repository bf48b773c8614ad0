/- The stack of an iterator over trees: pop and push, at edges that stand beside each other (a slice and how deep). Conditions: what is popped is there; sizes below 2^40. -/
import Derived.Test.YtchoipmfngcdoaaMwWords
import Derived.Test.YtchoipmfngcdoaaMwLists
namespace Go.Proofs.Ytchoipmfngcdoaa
open Go.RowKit
set_option maxRecDepth 100000

/-- What is still to be done: a slice of edges, how deep they stand. -/
structure Job where
  at_ : Option Addr
  n : Nat
  c : Nat
  deep : Nat
def Job.cells (x : Job) : List Value := [.slice x.at_ x.n x.c, .int .i64 x.deep]
def jobs (L : List Job) : List Value := L.flatMap Job.cells
theorem jobs_length (L : List Job) : (jobs L).length = L.length * 2 := by
  induction L with
  | nil => rfl
  | cons x l ih => simp only [jobs, List.flatMap_cons, List.length_append, List.length_cons] at ih ⊢; rw [ih]; simp [Job.cells]; omega
theorem jobs_append (L M : List Job) : jobs (L ++ M) = jobs L ++ jobs M := by simp [jobs]

theorem box_set {w : World} {g : Nat} {v u : Value} {e : TypeId} (h : w.heap[g]? = some (.cells #[v] e (0, 0))) : (w.setCell ⟨g, 0, none⟩ u).heap[g]? = some (.cells #[u] e (0, 0)) := by
  simp [World.setCell, Array.getElem?_modify, h]
theorem grown_set (w : World) (a : Addr) (v : Value) : w.grownBy (w.setCell a v) (some a.block) :=
  ⟨rfl, rfl, rfl, by simp [World.setCell], fun k _ hk => Below.heap_setCell w a v k (fun e => hk (by rw [e]))⟩
theorem grown_new {w w' : World} {row : Option Nat} (h : w.grownBy w' row) (o : Obj) : w.grownBy (w'.alloc o) row :=
  ⟨h.os, h.tape, h.output, by simp; exact Nat.le_succ_of_le h.size, fun k hk hn => (Below.heap_alloc w' o k (by have := h.size; omega)).trans (h.block k hk hn)⟩
theorem heap_keep {w : World} {g : Nat} {o : Obj} (h : w.heap[g]? = some o) (o' : Obj) : (w.alloc o').heap[g]? = some o := (Below.heap_alloc w o' g (Array.getElem?_eq_some_iff.1 h).1).trans h
theorem heap_far {w : World} {g : Nat} {o : Obj} (h : w.heap[g]? = some o) {a : Addr} (hne : g ≠ a.block) (v : Value) : (w.setCell a v).heap[g]? = some o := (Below.heap_setCell w a v g hne).trans h

set_option maxHeartbeats 1000000 in
/-- The cells of a slice just laid. -/
theorem Src.laid {P : Program} {w : World} {size n c : Nat} {tx e' : TypeId} (hk : P.underlying tx = some (.slice e')) {b o : Nat} {ys : List Value} (hl : ys.length = n * size)
    (hc : ∀ j u, ys[j]? = some u → w.cell? ⟨b, o + j, none⟩ = some u) (h1 : ∀ u ∈ ys, u.oneCell' = true) : Src P size tx (.slice (some ⟨b, o, none⟩) n c) n ys w :=
  Src.ofSlice w hk ⟨b, o, none⟩ n c ys hl (fun j u hu => by rw [Addr.add_lit]; exact hc j u hu) h1
theorem jobs_one (L : List Job) : ∀ u ∈ jobs L, u.oneCell' = true := by
  intro u hu
  simp only [jobs, List.mem_flatMap] at hu
  obtain ⟨x, _, hx⟩ := hu
  simp only [Job.cells, List.mem_cons, List.not_mem_nil, or_false] at hx
  rcases hx with rfl | rfl <;> rfl

end Go.Proofs.Ytchoipmfngcdoaa
