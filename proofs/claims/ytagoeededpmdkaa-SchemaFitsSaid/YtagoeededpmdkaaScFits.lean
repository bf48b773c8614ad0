/- schema.Fits: its stack of places, the walk. Conditions: fewer than 2^39 edges. -/
import Derived.Test.YtagoeededpmdkaaScLevelW
import Derived.Test.YtagoeededpmdkaaStack
import Derived.Deep.LoopGhost
namespace Go.Proofs.Ytagoeededpmdkaa.Sc
open Go.RowKit Go.Proofs.Ytagoeededpmdkaa.Nm
set_option maxRecDepth 100000

/-- A place: a definition's number, a tree as it lies. -/
structure PL where
  d : Int
  a : Option Addr
  n : Nat
  c : Nat
def PL.cells (x : PL) : List Value := [.int .i64 x.d, .slice x.a x.n x.c]
def pls (L : List PL) : List Value := L.flatMap PL.cells
theorem pls_length (L : List PL) : (pls L).length = L.length * 2 := by
  induction L with
  | nil => rfl
  | cons x L ih => simp only [pls, List.flatMap_cons, List.length_append, List.length_cons, PL.cells, List.length_nil] at ih ⊢; omega
theorem pls_append (L M : List PL) : pls (L ++ M) = pls L ++ pls M := by simp [pls]
/-- The places in L lie in memory; m edges below them; b: all fit. -/
inductive STodo (w : World) (B : Nat) (s : List Df) : List PL → Nat → Bool → Prop where
  | nil : STodo w B s [] 0 true
  | cons {L : List PL} {x : PL} {t : Tr} {m : Nat} {b : Bool} (h1 : Holds w B x.a x.n t) (hl : STodo w B s L m b) : STodo w B s (L ++ [x]) (m + t.size + 1) (b && fits s x.d t)
theorem STodo.keep {w w' : World} {B : Nat} {s : List Df} (hk : ∀ p : Addr, p.block < B → w'.cell? p = w.cell? p) {L : List PL} {m : Nat} {b : Bool} (h : STodo w B s L m b) : STodo w' B s L m b := by
  induction h with
  | nil => exact .nil
  | cons h1 _ ih => exact .cons (h1.keep hk) ih
theorem STodo.len {w : World} {B : Nat} {s : List Df} {L : List PL} {m : Nat} {b : Bool} (h : STodo w B s L m b) : L.length ≤ m := by
  induction h with
  | nil => exact Nat.le_refl _
  | cons h1 _ ih => simp; omega

theorem elem_place : Elem Try.prog 151 150 (.agg #[.int .i64 0, .slice none 0 0]) 2 32 := ⟨Try.underlying151, by kernel_rfl, rfl, by omega⟩
/-- A row of places: the last one's cells, and the row without it. -/
theorem row_last {w : World} {base c : Nat} {A : Option Addr} {L : List PL} {x : PL} (h : w.ownsRow base 150 2 (.slice A (L.length + 1) c) (L.length + 1) (pls (L ++ [x]))) :
    ∃ g, A = some ⟨g, 0, none⟩ ∧ base ≤ g ∧ g < w.heap.size ∧ w.cell? ⟨g, L.length * 2, none⟩ = some (.int .i64 x.d) ∧ w.cell? ⟨g, L.length * 2 + 1, none⟩ = some (.slice x.a x.n x.c) ∧ L.length + 1 ≤ c ∧ c ≤ maxLen ∧ w.ownsRow base 150 2 (.slice A L.length c) L.length (pls L) := by
  obtain ⟨hr1, hr⟩ := h
  rcases hr with ⟨e, e2⟩ | ⟨g1, cap, cur, e, hg, hh, hcap, hmx, hsz, htk⟩
  · omega
  injection e with e1 e2 e3
  subst e1; subst e3
  have hcell : ∀ j v, (pls (L ++ [x]))[j]? = some v → w.cell? ⟨g1, j, none⟩ = some v := by
    intro j v hv
    rw [cell_of_row w g1 j cur _ _ hh]
    rw [← htk, List.getElem?_take] at hv
    split at hv
    · simpa using hv
    · cases hv
  refine ⟨g1, rfl, hg, (Array.getElem?_eq_some_iff.1 hh).1, hcell _ _ (by rw [pls_append, List.getElem?_append_right (by rw [pls_length]; exact Nat.le_refl _), pls_length, Nat.sub_self]; rfl),
    hcell _ _ (by rw [pls_append, List.getElem?_append_right (by rw [pls_length]; omega), pls_length, Nat.add_sub_cancel_left]; rfl), hcap, hmx, ⟨pls_length L, .inr ⟨g1, c, cur, rfl, hg, hh, by omega, hmx, hsz, ?_⟩⟩⟩
  have e3 : (pls L).take (L.length * 2) = pls L := List.take_of_length_le (by rw [pls_length]; exact Nat.le_refl _)
  have := congrArg (List.take (L.length * 2)) htk
  rw [List.take_take, pls_append, List.take_append_of_le_length (by rw [pls_length]; exact Nat.le_refl _), e3, Nat.min_eq_left (by omega)] at this
  exact this

theorem src_place (W : World) (d : Int) (A : Option Addr) (n c : Nat) : Src Try.prog 2 151 (.slice (some ⟨W.heap.size, 0, none⟩) 1 1) 1 (pls [⟨d, A, n, c⟩]) (W.alloc (Obj.cells #[Value.int .i64 d, Value.slice A n c] 150)) :=
  Src.laid Try.underlying151 rfl (fun j u hu => by rw [cell_of_row _ _ _ _ _ _ (heap_alloc_new W _), ← hu]; simp [pls, PL.cells]) (by simp [pls, PL.cells, Value.oneCell'])

theorem fits_split (s : List Df) (d : Int) (t : Tr) (b : Bool) (hl : lvl s d t = true) : (b && fits s d t) = (b && fitsK s d t) := by rw [fits, hl, Bool.true_and]
end Go.Proofs.Ytagoeededpmdkaa.Sc
