/- Sets of names: lists in order, each once; what is combined of two sets. No conditions. · slices.Grow of nil, slices.Concat of rows of strings. Conditions: what is joined is fewer than 2^40 strings. · csv: what a row has in a column; its record. Conditions: trees in order at each level; no level below a name is empty. · csv: two rows of texts behind each other; a row's record. Conditions: as valueAt's; fewer than 100000 columns. · csv.less: a row of one's own without the texts that are among others. No conditions. · tree.Names, told with the row that its answer is; csv.columnsOf. Conditions: fewer than 2^39 names. · csv.each at edges and at rows. Conditions: fewer than 100000 of them. · csv.columnsOf: the names of all levels below a tree's names, in order, each once. Conditions: fewer than 100000 rows, 2^39 names. -/
import Derived.Test.YtapgaglkkgbgkaaGreatDoorSorted
import Derived.Test.YtapgaglkkgbgkaaGreatDoorMwRcMath
import Derived.Test.YtapgaglkkgbgkaaGreatDoorMwRcRows
import Derived.Shelf.SlicesE.DeleteFunc
import Derived.Shelf.SlicesE.IndexFunc
import Derived.Test.YtapgaglkkgbgkaaGreatDoorNames
namespace Go.Proofs.YtapgaglkkgbgkaaGreatDoor.Nm
open Go.RowKit
set_option maxRecDepth 100000

theorem less_iff (x y : ByteArray) : Op.bytesLess x.toList y.toList = true ↔ x.data.toList < y.data.toList := by
  rw [Go.Proofs.bytesLess_eq, ByteArray.toList_eq, ByteArray.toList_eq, decide_eq_true_iff]
theorem upTo_facts (zs : List (List UInt8)) (h : zs.Pairwise (· ≤ ·)) : ∀ m, m ≤ zs.length →
    (Go.Lib.compactUpTo zs.toArray m).Pairwise (· < ·) ∧ (∀ x ∈ Go.Lib.compactUpTo zs.toArray m, ∃ j, j < m ∧ x = zs.toArray[j]!) ∧ ∀ j, j < m → zs.toArray[j]! ∈ Go.Lib.compactUpTo zs.toArray m := by
  have hle : ∀ i j, i ≤ j → j < zs.length → zs.toArray[i]! ≤ zs.toArray[j]! := by
    intro i j hij hj
    rw [getElem!_pos _ i (by simp; omega), getElem!_pos _ j (by simpa using hj)]
    simp only [List.getElem_toArray]
    rcases Nat.lt_or_ge i j with g | g
    · exact List.pairwise_iff_getElem.1 h i j (by omega) hj g
    · obtain rfl : i = j := by omega
      exact List.le_refl _
  intro m
  induction m with
  | zero => intro _; exact ⟨by simp [Go.Lib.compactUpTo], by simp [Go.Lib.compactUpTo], by intro j hj; omega⟩
  | succ m ih =>
    intro hm
    obtain ⟨h1, h2, h3⟩ := ih (by omega)
    rw [Go.Lib.compactUpTo_succ]
    by_cases hk : Go.Lib.keeps zs.toArray m = true
    · rw [if_pos hk]
      have hk' := of_decide_eq_true hk
      refine ⟨?_, ?_, ?_⟩
      · rw [List.pairwise_append]
        refine ⟨h1, List.pairwise_singleton _ _, fun x hx y hy => ?_⟩
        obtain ⟨j, hj, rfl⟩ := h2 x hx
        rw [List.mem_singleton] at hy
        subst hy
        rcases hk' with e | e
        · omega
        · have a1 := hle j (m - 1) (by omega) (by omega)
          have a2 := hle (m - 1) m (by omega) (by omega)
          refine List.lt_of_le_of_lt a1 ?_
          by_cases h4 : zs.toArray[m]! ≤ zs.toArray[m - 1]!
          · exact absurd (List.le_antisymm h4 a2) e
          · simpa using h4
      · intro x hx
        rw [List.mem_append, List.mem_singleton] at hx
        rcases hx with hx | rfl
        · obtain ⟨j, hj, e⟩ := h2 x hx
          exact ⟨j, by omega, e⟩
        · exact ⟨m, by omega, rfl⟩
      · intro j hj
        rw [List.mem_append, List.mem_singleton]
        by_cases e : j = m
        · right; rw [e]
        · left; exact h3 j (by omega)
    · rw [if_neg hk, List.append_nil]
      have hk' : ¬ (m = 0 ∨ zs.toArray[m]! ≠ zs.toArray[m - 1]!) := fun e => hk (decide_eq_true e)
      refine ⟨h1, fun x hx => ?_, fun j hj => ?_⟩
      · obtain ⟨j, hj, e⟩ := h2 x hx
        exact ⟨j, by omega, e⟩
      · by_cases e : j = m
        · subst e
          have e1 : zs.toArray[j]! = zs.toArray[j - 1]! := Classical.byContradiction fun h => hk' (.inr h)
          rw [e1]
          exact h3 (j - 1) (by omega)
        · exact h3 j (by omega)
theorem sorted_pair (ss : List (List UInt8)) : (sorted ss).Pairwise (· ≤ ·) :=
  (List.pairwise_mergeSort (le := fun x y => decide (x ≤ y)) (fun a b c h1 h2 => by simp only [decide_eq_true_eq] at *; exact List.le_trans h1 h2) (fun a b => by simp only [Bool.or_eq_true, decide_eq_true_eq]; exact List.le_total a b) ss).imp (fun h => of_decide_eq_true h)
def ord (ss : List (List UInt8)) : List (List UInt8) := once (sorted ss)
theorem ord_le (ss : List (List UInt8)) : (ord ss).length ≤ ss.length := by
  have := once_le (sorted ss)
  rw [sorted_length] at this
  exact this
theorem len_le {α : Type} [DecidableEq α] : ∀ (l m : List α), l.Nodup → (∀ x ∈ l, x ∈ m) → l.length ≤ m.length
  | [], m, _, _ => Nat.zero_le _
  | a :: l, m, hd, hs => by
    rw [List.nodup_cons] at hd
    have ha := hs a List.mem_cons_self
    have := len_le l (m.erase a) hd.2 (fun x hx => (List.mem_erase_of_ne (fun e => hd.1 (by rw [← e]; exact hx))).2 (hs x (List.mem_cons_of_mem _ hx)))
    rw [List.length_erase_of_mem ha] at this
    have : 0 < m.length := List.length_pos_of_mem ha
    simp only [List.length_cons]
    omega
theorem asc_nodup {l : List (List UInt8)} (h : l.Pairwise (· < ·)) : l.Nodup :=
  h.imp (fun h e => by rw [e] at h; exact List.lt_irrefl _ h)
theorem asc_eq : ∀ {l m : List (List UInt8)}, l.Pairwise (· < ·) → m.Pairwise (· < ·) → (∀ x, x ∈ l ↔ x ∈ m) → l = m
  | [], [], _, _, _ => rfl
  | [], b :: m, _, _, h => by have := (h b).2 List.mem_cons_self; simp at this
  | a :: l, [], _, _, h => by have := (h a).1 List.mem_cons_self; simp at this
  | a :: l, b :: m, hl, hm, h => by
    rw [List.pairwise_cons] at hl hm
    have e : a = b := by
      have h1 := (h a).1 List.mem_cons_self
      have h2 := (h b).2 List.mem_cons_self
      rw [List.mem_cons] at h1 h2
      rcases h1 with e | h1
      · exact e
      · rcases h2 with e | h2
        · exact e.symm
        · exact absurd (List.lt_trans (hl.1 b h2) (hm.1 a h1)) (List.lt_irrefl _)
    subst e
    rw [asc_eq hl.2 hm.2 (fun x => ?_)]
    have := h x
    rw [List.mem_cons, List.mem_cons] at this
    constructor
    · intro hx
      rcases this.1 (.inr hx) with e | e
      · subst e; exact absurd (hl.1 _ hx) (List.lt_irrefl _)
      · exact e
    · intro hx
      rcases this.2 (.inr hx) with e | e
      · subst e; exact absurd (hm.1 _ hx) (List.lt_irrefl _)
      · exact e

theorem cut : ∀ (ss : List (List UInt8)) (x : List UInt8), ss.Pairwise (· < ·) → ∃ p, p ≤ ss.length ∧ (∀ t y, ss[t]? = some y → (y < x ↔ t < p)) ∧ (x ∈ ss ↔ ss[p]? = some x)
  | [], x, _ => ⟨0, Nat.le_refl _, fun t y h => by simp at h, by simp⟩
  | a :: r, x, h => by
    rw [List.pairwise_cons] at h
    by_cases hl : a < x
    · obtain ⟨p, h1, h2, h3⟩ := cut r x h.2
      refine ⟨p + 1, by simpa using h1, fun t y ht => ?_, ?_⟩
      · cases t with
        | zero =>
          simp only [List.getElem?_cons_zero, Option.some.injEq] at ht
          subst ht
          simp [hl]
        | succ t =>
          simp only [List.getElem?_cons_succ] at ht
          rw [h2 t y ht]
          omega
      · rw [List.getElem?_cons_succ, ← h3, List.mem_cons]
        constructor
        · rintro (e | e)
          · rw [e] at hl; exact absurd hl (List.lt_irrefl _)
          · exact e
        · exact Or.inr
    · refine ⟨0, Nat.zero_le _, fun t y ht => ?_, ?_⟩
      · cases t with
        | zero =>
          simp only [List.getElem?_cons_zero, Option.some.injEq] at ht
          subst ht
          simp [hl]
        | succ t =>
          simp only [List.getElem?_cons_succ] at ht
          have := h.1 y (List.mem_of_getElem? ht)
          constructor
          · intro g; exact absurd (List.lt_trans this g) hl
          · intro g; omega
      · rw [List.getElem?_cons_zero, List.mem_cons]
        constructor
        · rintro (e | e)
          · rw [e]
          · exact absurd (h.1 x e) hl
        · intro e
          injection e with e
          exact .inl e.symm

structure St where
  all : Bool
  l : List (List UInt8)
def St.mem (s : St) (x : List UInt8) : Bool := decide (x ∈ s.l) != s.all
def comb (op : Bool → Bool → Bool) (a b : St) : St :=
  ⟨op a.all b.all, (ord (a.l ++ b.l)).filter fun x => op (a.mem x) (b.mem x) != op a.all b.all⟩
def fr (a : St) : St := ⟨a.all, ord a.l⟩
def St.none (s : St) : Bool := !s.all && decide (s.l.length = 0)
def same (a b : St) : Bool := (comb (· != ·) (fr a) (fr b)).none

theorem fr_le (a : St) : (fr a).l.length ≤ a.l.length := ord_le _
end Go.Proofs.YtapgaglkkgbgkaaGreatDoor.Nm
namespace Go.Proofs.YtapgaglkkgbgkaaGreatDoor.Nm
open Go.RowKit
set_option maxRecDepth 100000

def Grown (w : World) (e : Ending) (w' : World) : Prop := ∃ A c, e = .returned (.slice A 0 c) ∧ w'.ownsRow w.heap.size 9 1 (.slice A 0 c) 0 [] ∧ Below w.heap.size w w'

set_option maxHeartbeats 400000 in
structure Parts (w : World) (g : Nat) (vs : List Value) (ls : List (List (List UInt8))) : Prop where
  len : vs.length = ls.length
  cell : ∀ (i : Nat) v, vs[i]? = some v → w.cell? ⟨g, i, none⟩ = some v
  sees : ∀ (i : Nat) l, ls[i]? = some l → ∃ A n c, vs[i]? = some (.slice A n c) ∧ SeesV w w.heap.size A n (l.map encs)

theorem Parts.two {w : World} {g : Nat} {A B : Option Addr} {n m c d : Nat} {l k : List (List UInt8)} (hg : w.heap[g]? = some (.cells #[.slice A n c, .slice B m d] 28 (0, 0))) (h1 : SeesV w w.heap.size A n (l.map encs)) (h2 : SeesV w w.heap.size B m (k.map encs)) :
    Parts w g [.slice A n c, .slice B m d] [l, k] := by
  refine ⟨rfl, fun i v hv => ?_, fun i l' hl => ?_⟩
  · rw [cell_of_row w g i _ _ _ hg]
    simpa using hv
  · match i, hl with
    | 0, hl => simp at hl; subst hl; exact ⟨A, n, c, rfl, h1⟩
    | 1, hl => simp at hl; subst hl; exact ⟨B, m, d, rfl, h2⟩

theorem flat_succ {ls : List (List (List UInt8))} {k : Nat} {l : List (List UInt8)} (h : ls[k]? = some l) : (ls.take (k + 1)).flatten = (ls.take k).flatten ++ l := by
  rw [List.take_add_one, h]
  simp
theorem flat_le (ls : List (List (List UInt8))) (k : Nat) : (ls.take k).flatten.length ≤ ls.flatten.length := by
  conv => rhs; rw [← List.take_append_drop k ls, List.flatten_append, List.length_append]
  exact Nat.le_add_right _ _

def Joined (l : List (List UInt8)) (w : World) (e : Ending) (w' : World) : Prop := ∃ A c, e = .returned (.slice A l.length c) ∧ SeesV w' w'.heap.size A l.length (l.map encs) ∧ Below w.heap.size w w'

end Go.Proofs.YtapgaglkkgbgkaaGreatDoor.Nm
namespace Go.Proofs.YtapgaglkkgbgkaaGreatDoor.Cv
open Go.RowKit Go.Proofs.YtapgaglkkgbgkaaGreatDoor.Jd Go.Proofs.YtapgaglkkgbgkaaGreatDoor.Li Go.Proofs.YtapgaglkkgbgkaaGreatDoor.Pt
set_option maxRecDepth 100000

def valF (t : Tr) (c : ByteArray) : ByteArray :=
  match getT t [c] with
  | (.cons s _ _, true) => s
  | _ => ⟨#[]⟩
def Full (t : Tr) : Prop := ∀ c, (getT t [c]).2 = true → 0 < (getT t [c]).1.len
set_option maxHeartbeats 4000000 in
def recF (name : ByteArray) (cols : List ByteArray) (t : Tr) : List ByteArray := name :: cols.map (valF t)
end Go.Proofs.YtapgaglkkgbgkaaGreatDoor.Cv
namespace Go.Proofs.YtapgaglkkgbgkaaGreatDoor.Cv
open Go.RowKit Go.Proofs.YtapgaglkkgbgkaaGreatDoor.Jd Go.Proofs.YtapgaglkkgbgkaaGreatDoor.Li Go.Proofs.YtapgaglkkgbgkaaGreatDoor.Pt
set_option maxRecDepth 100000

end Go.Proofs.YtapgaglkkgbgkaaGreatDoor.Cv
namespace Go.Proofs.YtapgaglkkgbgkaaGreatDoor.Cv
open Go.RowKit Go.Sort Go.Lib Go.Shelf Go.Proofs.YtapgaglkkgbgkaaGreatDoor.Jd Go.Proofs.YtapgaglkkgbgkaaGreatDoor.Li Go.Proofs.YtapgaglkkgbgkaaGreatDoor.Pt
set_option maxRecDepth 100000

def lessF (ss : List Bs) (others : List ByteArray) : List Bs := ss.filter fun l => !(Lib.containsS others ⟨l.toArray⟩)

theorem row1_cell {w : World} {g : Nat} {ss : List Bs} (h : Go.Sort.Holds encStr w g 0 ss.toArray) (j : Nat) (l : Bs) (hj : ss[j]? = some l) : w.cell? ⟨g, j, none⟩ = some (encStr l) := by
  have hl : j < ss.length := (List.getElem?_eq_some_iff.1 hj).1
  have := (h j (by simpa using hl)).1
  rw [Nat.zero_add] at this
  rw [this, getElem!_pos _ j (by simpa using hl)]
  simp only [List.getElem_toArray]
  rw [← (List.getElem?_eq_some_iff.1 hj).2]

end Go.Proofs.YtapgaglkkgbgkaaGreatDoor.Cv
namespace Go.Proofs.YtapgaglkkgbgkaaGreatDoor
open Go.RowKit
set_option maxRecDepth 100000

set_option maxHeartbeats 2000000 in
theorem Row1.sees {w : World} {base N c : Nat} {A : Option Addr} {ss : List (List UInt8)} (h : Row1 w base A N c ss) : SeesV w w.heap.size A N (ss.map encStr) := by
  obtain ⟨hN, hs⟩ := h
  refine ⟨by rw [List.length_map]; exact hN, fun j u hu => ?_⟩
  rcases hs with rfl | ⟨g, rfl, _, hgl, _, hH⟩
  · simp at hu
  · rw [List.getElem?_map] at hu
    cases hj : ss[j]? with
    | none => rw [hj] at hu; cases hu
    | some l =>
      rw [hj] at hu
      refine ⟨g, 0, rfl, hgl, ?_⟩
      rw [Nat.zero_add, Cv.row1_cell hH j l hj]
      simpa using hu
end Go.Proofs.YtapgaglkkgbgkaaGreatDoor
namespace Go.Proofs.YtapgaglkkgbgkaaGreatDoor.Cv
open Go.RowKit Go.Proofs.YtapgaglkkgbgkaaGreatDoor.Jd Go.Proofs.YtapgaglkkgbgkaaGreatDoor.Li
set_option maxRecDepth 100000

end Go.Proofs.YtapgaglkkgbgkaaGreatDoor.Cv
namespace Go.Proofs.YtapgaglkkgbgkaaGreatDoor.Cv
open Go.RowKit Go.Proofs.YtapgaglkkgbgkaaGreatDoor.Jd Go.Proofs.YtapgaglkkgbgkaaGreatDoor.Li
set_option maxRecDepth 100000

def kidsL : Tr → List Tr
  | .nil => []
  | .cons _ k r => k :: kidsL r
def colsF (t : Tr) : List Bs := namesOf ((kidsL t).flatMap Tr.names)
end Go.Proofs.YtapgaglkkgbgkaaGreatDoor.Cv
