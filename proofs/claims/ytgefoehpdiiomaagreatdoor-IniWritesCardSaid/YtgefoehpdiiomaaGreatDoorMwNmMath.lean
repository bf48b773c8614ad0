/- Sets of names: lists in order, each once; what is combined of two sets. No conditions. · slices.Grow of nil, slices.Concat of rows of strings. Conditions: what is joined is fewer than 2^40 strings. · csv: what a row has in a column; its record. Conditions: trees in order at each level; no level below a name is empty. · csv: two rows of texts behind each other; a row's record. Conditions: as valueAt's; fewer than 100000 columns. · csv.less: a row of one's own without the texts that are among others. No conditions. · tree.Names, told with the row that its answer is; csv.columnsOf. Conditions: fewer than 2^39 names. · csv.each at edges and at rows. Conditions: fewer than 100000 of them. · csv.columnsOf: the names of all levels below a tree's names, in order, each once. Conditions: fewer than 100000 rows, 2^39 names. -/
import Derived.Test.YtgefoehpdiiomaaGreatDoorSorted
import Derived.Test.YtgefoehpdiiomaaGreatDoorMwRcMath
import Derived.Test.YtgefoehpdiiomaaGreatDoorMwRcRows
import Derived.Shelf.SlicesE.DeleteFunc
import Derived.Shelf.SlicesE.IndexFunc
import Derived.Test.YtgefoehpdiiomaaGreatDoorNames
namespace Go.Proofs.YtgefoehpdiiomaaGreatDoor.Nm
open Go.RowKit
set_option maxRecDepth 100000

theorem less_iff (x y : ByteArray) : Op.bytesLess x.toList y.toList = true ↔ x.data.toList < y.data.toList := by
  rw [Go.Proofs.bytesLess_eq, ByteArray.toList_eq, ByteArray.toList_eq, decide_eq_true_iff]
/-- Of a list in order: what compactUpTo keeps. -/
theorem upTo_facts (zs : List (List UInt8)) (h : zs.Pairwise (· ≤ ·)) : ∀ m, m ≤ zs.length →
    (Go.Lib.compactUpTo zs.toArray m).Pairwise (· < ·) ∧ (∀ x ∈ Go.Lib.compactUpTo zs.toArray m, ∃ j, j < m ∧ x = zs.toArray[j]!) ∧ ∀ j, j < m → zs.toArray[j]! ∈ Go.Lib.compactUpTo zs.toArray m := by
  have hle : ∀ i j, i ≤ j → j < zs.length → zs.toArray[i]! ≤ zs.toArray[j]! := by
    intro i j hij hj
    rw [getElem!_pos _ i (by simp; omega), getElem!_pos _ j (by simpa using hj)]
    simp only [List.getElem_toArray]
    rcases Nat.lt_or_ge i j with g | g
    · exact List.pairwise_iff_getElem.1 h i j (by omega) hj g
    · obtain rfl : i = j := by omega
      exact List.le_refl _
  intro m
  induction m with
  | zero => intro _; exact ⟨by simp [Go.Lib.compactUpTo], by simp [Go.Lib.compactUpTo], by intro j hj; omega⟩
  | succ m ih =>
    intro hm
    obtain ⟨h1, h2, h3⟩ := ih (by omega)
    rw [Go.Lib.compactUpTo_succ]
    by_cases hk : Go.Lib.keeps zs.toArray m = true
    · rw [if_pos hk]
      have hk' := of_decide_eq_true hk
      refine ⟨?_, ?_, ?_⟩
      · rw [List.pairwise_append]
        refine ⟨h1, List.pairwise_singleton _ _, fun x hx y hy => ?_⟩
        obtain ⟨j, hj, rfl⟩ := h2 x hx
        rw [List.mem_singleton] at hy
        subst hy
        rcases hk' with e | e
        · omega
        · have a1 := hle j (m - 1) (by omega) (by omega)
          have a2 := hle (m - 1) m (by omega) (by omega)
          refine List.lt_of_le_of_lt a1 ?_
          by_cases h4 : zs.toArray[m]! ≤ zs.toArray[m - 1]!
          · exact absurd (List.le_antisymm h4 a2) e
          · simpa using h4
      · intro x hx
        rw [List.mem_append, List.mem_singleton] at hx
        rcases hx with hx | rfl
        · obtain ⟨j, hj, e⟩ := h2 x hx
          exact ⟨j, by omega, e⟩
        · exact ⟨m, by omega, rfl⟩
      · intro j hj
        rw [List.mem_append, List.mem_singleton]
        by_cases e : j = m
        · right; rw [e]
        · left; exact h3 j (by omega)
    · rw [if_neg hk, List.append_nil]
      have hk' : ¬ (m = 0 ∨ zs.toArray[m]! ≠ zs.toArray[m - 1]!) := fun e => hk (decide_eq_true e)
      refine ⟨h1, fun x hx => ?_, fun j hj => ?_⟩
      · obtain ⟨j, hj, e⟩ := h2 x hx
        exact ⟨j, by omega, e⟩
      · by_cases e : j = m
        · subst e
          have e1 : zs.toArray[j]! = zs.toArray[j - 1]! := Classical.byContradiction fun h => hk' (.inr h)
          rw [e1]
          exact h3 (j - 1) (by omega)
        · exact h3 j (by omega)
theorem sorted_pair (ss : List (List UInt8)) : (sorted ss).Pairwise (· ≤ ·) :=
  (List.pairwise_mergeSort (le := fun x y => decide (x ≤ y)) (fun a b c h1 h2 => by simp only [decide_eq_true_eq] at *; exact List.le_trans h1 h2) (fun a b => by simp only [Bool.or_eq_true, decide_eq_true_eq]; exact List.le_total a b) ss).imp (fun h => of_decide_eq_true h)
/-- In order, each once. -/
def ord (ss : List (List UInt8)) : List (List UInt8) := once (sorted ss)
theorem ord_pair (ss : List (List UInt8)) : (ord ss).Pairwise (· < ·) :=
  (upTo_facts _ (sorted_pair _) _ (Nat.le_refl _)).1
theorem ord_mem (ss : List (List UInt8)) (x : List UInt8) : x ∈ ord ss ↔ x ∈ ss := by
  obtain ⟨_, h2, h3⟩ := upTo_facts _ (sorted_pair ss) _ (Nat.le_refl _)
  have hp : ∀ y, y ∈ sorted ss ↔ y ∈ ss := fun y => List.mem_mergeSort
  rw [← hp]
  constructor
  · intro hx
    obtain ⟨j, hj, rfl⟩ := h2 x hx
    rw [getElem!_pos _ j (by simpa using hj)]
    simp
  · intro hx
    obtain ⟨j, hj, rfl⟩ := List.getElem_of_mem hx
    have := h3 j hj
    rw [getElem!_pos _ j (by simpa using hj), List.getElem_toArray] at this
    exact this
theorem ord_le (ss : List (List UInt8)) : (ord ss).length ≤ ss.length := by
  have := once_le (sorted ss)
  rw [sorted_length] at this
  exact this
theorem len_le {α : Type} [DecidableEq α] : ∀ (l m : List α), l.Nodup → (∀ x ∈ l, x ∈ m) → l.length ≤ m.length
  | [], m, _, _ => Nat.zero_le _
  | a :: l, m, hd, hs => by
    rw [List.nodup_cons] at hd
    have ha := hs a List.mem_cons_self
    have := len_le l (m.erase a) hd.2 (fun x hx => (List.mem_erase_of_ne (fun e => hd.1 (by rw [← e]; exact hx))).2 (hs x (List.mem_cons_of_mem _ hx)))
    rw [List.length_erase_of_mem ha] at this
    have : 0 < m.length := List.length_pos_of_mem ha
    simp only [List.length_cons]
    omega
theorem asc_nodup {l : List (List UInt8)} (h : l.Pairwise (· < ·)) : l.Nodup :=
  h.imp (fun h e => by rw [e] at h; exact List.lt_irrefl _ h)
/-- Two lists in order with the same members are one. -/
theorem asc_eq : ∀ {l m : List (List UInt8)}, l.Pairwise (· < ·) → m.Pairwise (· < ·) → (∀ x, x ∈ l ↔ x ∈ m) → l = m
  | [], [], _, _, _ => rfl
  | [], b :: m, _, _, h => by have := (h b).2 List.mem_cons_self; simp at this
  | a :: l, [], _, _, h => by have := (h a).1 List.mem_cons_self; simp at this
  | a :: l, b :: m, hl, hm, h => by
    rw [List.pairwise_cons] at hl hm
    have e : a = b := by
      have h1 := (h a).1 List.mem_cons_self
      have h2 := (h b).2 List.mem_cons_self
      rw [List.mem_cons] at h1 h2
      rcases h1 with e | h1
      · exact e
      · rcases h2 with e | h2
        · exact e.symm
        · exact absurd (List.lt_trans (hl.1 b h2) (hm.1 a h1)) (List.lt_irrefl _)
    subst e
    rw [asc_eq hl.2 hm.2 (fun x => ?_)]
    have := h x
    rw [List.mem_cons, List.mem_cons] at this
    constructor
    · intro hx
      rcases this.1 (.inr hx) with e | e
      · subst e; exact absurd (hl.1 _ hx) (List.lt_irrefl _)
      · exact e
    · intro hx
      rcases this.2 (.inr hx) with e | e
      · subst e; exact absurd (hm.1 _ hx) (List.lt_irrefl _)
      · exact e

/-- Of a list in order: where a name stands, or would. -/
theorem cut : ∀ (ss : List (List UInt8)) (x : List UInt8), ss.Pairwise (· < ·) → ∃ p, p ≤ ss.length ∧ (∀ t y, ss[t]? = some y → (y < x ↔ t < p)) ∧ (x ∈ ss ↔ ss[p]? = some x)
  | [], x, _ => ⟨0, Nat.le_refl _, fun t y h => by simp at h, by simp⟩
  | a :: r, x, h => by
    rw [List.pairwise_cons] at h
    by_cases hl : a < x
    · obtain ⟨p, h1, h2, h3⟩ := cut r x h.2
      refine ⟨p + 1, by simpa using h1, fun t y ht => ?_, ?_⟩
      · cases t with
        | zero =>
          simp only [List.getElem?_cons_zero, Option.some.injEq] at ht
          subst ht
          simp [hl]
        | succ t =>
          simp only [List.getElem?_cons_succ] at ht
          rw [h2 t y ht]
          omega
      · rw [List.getElem?_cons_succ, ← h3, List.mem_cons]
        constructor
        · rintro (e | e)
          · rw [e] at hl; exact absurd hl (List.lt_irrefl _)
          · exact e
        · exact Or.inr
    · refine ⟨0, Nat.zero_le _, fun t y ht => ?_, ?_⟩
      · cases t with
        | zero =>
          simp only [List.getElem?_cons_zero, Option.some.injEq] at ht
          subst ht
          simp [hl]
        | succ t =>
          simp only [List.getElem?_cons_succ] at ht
          have := h.1 y (List.mem_of_getElem? ht)
          constructor
          · intro g; exact absurd (List.lt_trans this g) hl
          · intro g; omega
      · rw [List.getElem?_cons_zero, List.mem_cons]
        constructor
        · rintro (e | e)
          · rw [e]
          · exact absurd (h.1 x e) hl
        · intro e
          injection e with e
          exact .inl e.symm

/-- A set: all names but some, or some. -/
structure St where
  all : Bool
  l : List (List UInt8)
def St.mem (s : St) (x : List UInt8) : Bool := decide (x ∈ s.l) != s.all
def comb (op : Bool → Bool → Bool) (a b : St) : St :=
  ⟨op a.all b.all, (ord (a.l ++ b.l)).filter fun x => op (a.mem x) (b.mem x) != op a.all b.all⟩
def fr (a : St) : St := ⟨a.all, ord a.l⟩
def nott (a : St) : St := ⟨!a.all, ord a.l⟩
def St.none (s : St) : Bool := !s.all && decide (s.l.length = 0)
def both (a b : St) : St := comb (· && ·) (fr a) (fr b)
def either (a b : St) : St := comb (· || ·) (fr a) (fr b)
def same (a b : St) : Bool := (comb (· != ·) (fr a) (fr b)).none

theorem fr_mem (a : St) (x : List UInt8) : (fr a).mem x = a.mem x := by
  simp only [St.mem, fr]
  congr 1
  exact decide_eq_decide.2 (ord_mem _ _)
theorem nott_mem (a : St) (x : List UInt8) : (nott a).mem x = !a.mem x := by
  have : decide (x ∈ ord a.l) = decide (x ∈ a.l) := decide_eq_decide.2 (ord_mem _ _)
  show (decide (x ∈ ord a.l) != !a.all) = !(decide (x ∈ a.l) != a.all)
  rw [this]
  cases decide (x ∈ a.l) <;> cases a.all <;> rfl
theorem comb_mem (op : Bool → Bool → Bool) (a b : St) (x : List UInt8) : (comb op a b).mem x = op (a.mem x) (b.mem x) := by
  by_cases h : x ∈ a.l ++ b.l
  · have : decide (x ∈ (comb op a b).l) = (op (a.mem x) (b.mem x) != op a.all b.all) := by
      rw [Bool.eq_iff_iff, decide_eq_true_iff]
      simp only [comb, List.mem_filter, ord_mem, h, true_and]
    show (decide (x ∈ (comb op a b).l) != op a.all b.all) = _
    rw [this]
    cases op (a.mem x) (b.mem x) <;> cases op a.all b.all <;> rfl
  · have h0 : decide (x ∈ (comb op a b).l) = false := by
      rw [decide_eq_false_iff_not]
      simp only [comb, List.mem_filter, ord_mem, h, false_and, not_false_eq_true]
    rw [List.mem_append, not_or] at h
    show (decide (x ∈ (comb op a b).l) != op a.all b.all) = _
    rw [h0]
    simp [St.mem, h.1, h.2]
theorem comb_pair (op : Bool → Bool → Bool) (a b : St) : (comb op a b).l.Pairwise (· < ·) := (ord_pair _).filter _
theorem comb_le (op : Bool → Bool → Bool) (a b : St) : (comb op a b).l.length ≤ a.l.length + b.l.length := by
  refine Nat.le_trans (List.length_filter_le ..) (Nat.le_trans (ord_le _) ?_)
  rw [List.length_append]
  exact Nat.le_refl _
theorem fr_le (a : St) : (fr a).l.length ≤ a.l.length := ord_le _
theorem both_mem (a b : St) (x : List UInt8) : (both a b).mem x = (a.mem x && b.mem x) := by rw [both, comb_mem, fr_mem, fr_mem]
theorem either_mem (a b : St) (x : List UInt8) : (either a b).mem x = (a.mem x || b.mem x) := by rw [either, comb_mem, fr_mem, fr_mem]
theorem both_pair (a b : St) : (both a b).l.Pairwise (· < ·) := comb_pair ..
theorem either_pair (a b : St) : (either a b).l.Pairwise (· < ·) := comb_pair ..
theorem nott_pair (a : St) : (nott a).l.Pairwise (· < ·) := ord_pair _
theorem both_le (a b : St) : (both a b).l.length ≤ a.l.length + b.l.length := by
  have := comb_le (· && ·) (fr a) (fr b); have := fr_le a; have := fr_le b
  unfold both; omega
theorem either_le (a b : St) : (either a b).l.length ≤ a.l.length + b.l.length := by
  have := comb_le (· || ·) (fr a) (fr b); have := fr_le a; have := fr_le b
  unfold either; omega
theorem nott_le (a : St) : (nott a).l.length ≤ a.l.length := ord_le _
/-- No name is in it, and it is not All: it is none. -/
theorem none_of {s : St} (h0 : s.all = false) (h : ∀ x, s.mem x = false) : s.none = true := by
  have : s.l = [] := by
    rw [List.eq_nil_iff_forall_not_mem]
    intro x hx
    have := h x
    rw [St.mem, h0, decide_eq_true hx] at this
    cases this
  rw [St.none, h0, this]
  rfl
theorem same_of {a b : St} (h0 : a.all = b.all) (h : ∀ x, a.mem x = b.mem x) : same a b = true := by
  refine none_of ?_ fun x => ?_
  · simp [comb, fr, h0]
  · rw [comb_mem, fr_mem, fr_mem, h x]
    cases b.mem x <;> rfl
theorem same_iff (a b : St) : same a b = true ↔ a.all = b.all ∧ ∀ x, x ∈ a.l ↔ x ∈ b.l := by
  constructor
  · intro h
    unfold same St.none at h
    rw [Bool.and_eq_true, decide_eq_true_iff, Bool.not_eq_true'] at h
    have h0 : a.all = b.all := by
      have := h.1
      simp only [comb, fr] at this
      cases ha : a.all <;> cases hb : b.all <;> simp_all
    refine ⟨h0, fun x => ?_⟩
    have hm := comb_mem (· != ·) (fr a) (fr b) x
    rw [fr_mem, fr_mem] at hm
    have e : (comb (· != ·) (fr a) (fr b)).mem x = false := by
      rw [St.mem, h.1, List.eq_nil_of_length_eq_zero h.2]; rfl
    rw [e] at hm
    have hm' : false = ((decide (x ∈ a.l) != b.all) != (decide (x ∈ b.l) != b.all)) := by unfold St.mem at hm; rw [h0] at hm; exact hm
    have hd : decide (x ∈ a.l) = decide (x ∈ b.l) := by
      revert hm'
      cases decide (x ∈ a.l) <;> cases decide (x ∈ b.l) <;> cases b.all <;> intro e <;> first | rfl | cases e
    exact decide_eq_decide.1 hd
  · rintro ⟨h0, h⟩
    refine same_of h0 fun x => ?_
    have : decide (x ∈ a.l) = decide (x ∈ b.l) := decide_eq_decide.2 (h x)
    rw [St.mem, St.mem, this, h0]
end Go.Proofs.YtgefoehpdiiomaaGreatDoor.Nm
namespace Go.Proofs.YtgefoehpdiiomaaGreatDoor.Nm
open Go.RowKit
set_option maxRecDepth 100000

theorem info_str : (Tryz.prog.info? 9).map (fun i => (i.zero, i.size, i.bytes)) = some (some (.string ⟨#[]⟩), 1, 16) := by kernel_rfl
theorem elem_s : Elem Tryz.prog 28 9 (.string ⟨#[]⟩) 1 16 := ⟨Tryz.underlying28, info_str, rfl, by omega⟩
theorem encs_one (ss : List (List UInt8)) : ∀ u ∈ ss.map encs, u.oneCell' = true := by
  intro u hu
  simp only [List.mem_map] at hu
  obtain ⟨x, _, rfl⟩ := hu
  rfl
/-- What append takes: a row of strings, nil too. -/
theorem src_strs {w : World} {B n c : Nat} {A : Option Addr} {ss : List (List UInt8)} (h : SeesV w B A n (ss.map encs)) : Src Tryz.prog 1 28 (.slice A n c) n (ss.map encs) w := by
  have hl := h.len
  cases A with
  | none =>
    cases ss with
    | nil =>
      have : n = 0 := by simpa using hl
      subst this
      exact Src.ofNil w Tryz.underlying28 c
    | cons y r =>
      obtain ⟨b, o, e, _⟩ := h.cell 0 (encs y) rfl
      cases e
  | some a => exact Src.ofSlice w Tryz.underlying28 a n c (ss.map encs) (by rw [hl, Nat.mul_one]) (fun j u hu => by
      obtain ⟨b, o, e, _, hc⟩ := h.cell j u hu
      injection e with e
      subst e
      rw [Addr.add_lit]
      exact hc) (encs_one ss)
/-- A row of the call's own, seen. -/
theorem sees_own {w : World} {base n c : Nat} {A : Option Addr} {ss : List (List UInt8)} (h : w.ownsRow base 9 1 (.slice A n c) n (ss.map encs)) : SeesV w w.heap.size A n (ss.map encs) := by
  obtain ⟨h1, hr⟩ := h
  refine ⟨by omega, fun j u hu => ?_⟩
  rcases hr with ⟨_, e⟩ | ⟨g, cap, cur, e, hg, hh, hcap, hmx, hsz, htk⟩
  · have : (ss.map encs) = [] := List.eq_nil_of_length_eq_zero (by omega)
    rw [this] at hu
    simp at hu
  · injection e with e1 e2 e3
    subst e1
    refine ⟨g, 0, rfl, (Array.getElem?_eq_some_iff.1 hh).1, ?_⟩
    rw [cell_of_row w g _ cur _ _ hh, Nat.zero_add]
    have hj : (cur.toList.take (n * 1))[j]? = some u := by rw [htk]; exact hu
    rw [List.getElem?_take] at hj
    split at hj
    · rw [← Array.getElem?_toList]; exact hj
    · cases hj

def Grown (w : World) (e : Ending) (w' : World) : Prop := ∃ A c, e = .returned (.slice A 0 c) ∧ w'.ownsRow w.heap.size 9 1 (.slice A 0 c) 0 [] ∧ Below w.heap.size w w'

set_option maxHeartbeats 400000 in
/-- What is joined: the slices at the cells of a slice of slices. -/
structure Parts (w : World) (g : Nat) (vs : List Value) (ls : List (List (List UInt8))) : Prop where
  len : vs.length = ls.length
  cell : ∀ (i : Nat) v, vs[i]? = some v → w.cell? ⟨g, i, none⟩ = some v
  sees : ∀ (i : Nat) l, ls[i]? = some l → ∃ A n c, vs[i]? = some (.slice A n c) ∧ SeesV w w.heap.size A n (l.map encs)

theorem Parts.two {w : World} {g : Nat} {A B : Option Addr} {n m c d : Nat} {l k : List (List UInt8)} (hg : w.heap[g]? = some (.cells #[.slice A n c, .slice B m d] 28 (0, 0))) (h1 : SeesV w w.heap.size A n (l.map encs)) (h2 : SeesV w w.heap.size B m (k.map encs)) :
    Parts w g [.slice A n c, .slice B m d] [l, k] := by
  refine ⟨rfl, fun i v hv => ?_, fun i l' hl => ?_⟩
  · rw [cell_of_row w g i _ _ _ hg]
    simpa using hv
  · match i, hl with
    | 0, hl => simp at hl; subst hl; exact ⟨A, n, c, rfl, h1⟩
    | 1, hl => simp at hl; subst hl; exact ⟨B, m, d, rfl, h2⟩

theorem flat_succ {ls : List (List (List UInt8))} {k : Nat} {l : List (List UInt8)} (h : ls[k]? = some l) : (ls.take (k + 1)).flatten = (ls.take k).flatten ++ l := by
  rw [List.take_add_one, h]
  simp
theorem flat_le (ls : List (List (List UInt8))) (k : Nat) : (ls.take k).flatten.length ≤ ls.flatten.length := by
  conv => rhs; rw [← List.take_append_drop k ls, List.flatten_append, List.length_append]
  exact Nat.le_add_right _ _

def Joined (l : List (List UInt8)) (w : World) (e : Ending) (w' : World) : Prop := ∃ A c, e = .returned (.slice A l.length c) ∧ SeesV w' w'.heap.size A l.length (l.map encs) ∧ Below w.heap.size w w'

end Go.Proofs.YtgefoehpdiiomaaGreatDoor.Nm
namespace Go.Proofs.YtgefoehpdiiomaaGreatDoor.Cv
open Go.RowKit Go.Proofs.YtgefoehpdiiomaaGreatDoor.Jd Go.Proofs.YtgefoehpdiiomaaGreatDoor.Li Go.Proofs.YtgefoehpdiiomaaGreatDoor.Pt
set_option maxRecDepth 100000

/-- What stands below a name, in a tree of values. -/
def valF (t : Tr) (c : ByteArray) : ByteArray :=
  match getT t [c] with
  | (.cons s _ _, true) => s
  | _ => ⟨#[]⟩
/-- No level below one of its names is empty. -/
def Full (t : Tr) : Prop := ∀ c, (getT t [c]).2 = true → 0 < (getT t [c]).1.len
theorem sees_one {w : World} {g : Nat} {c : ByteArray} (h : w.heap[g]? = some (.cells #[.string c] 9 (0, 0))) : SeesV w w.heap.size (some ⟨g, 0, none⟩) 1 ([c].map Value.string) :=
  ⟨rfl, fun j u hu => ⟨g, 0, rfl, (Array.getElem?_eq_some_iff.1 h).1, by rw [cell_of_row _ _ _ _ _ _ h, Nat.zero_add]; simpa using hu⟩⟩

set_option maxHeartbeats 4000000 in
/-- What a row's fields mean. -/
def recF (name : ByteArray) (cols : List ByteArray) (t : Tr) : List ByteArray := name :: cols.map (valF t)
theorem encs_strs (ms : List ByteArray) : (ms.map fun m => m.data.toList).map encs = ms.map Value.string := by
  rw [List.map_map]
  exact List.map_congr_left fun m _ => by simp [encs]
end Go.Proofs.YtgefoehpdiiomaaGreatDoor.Cv
namespace Go.Proofs.YtgefoehpdiiomaaGreatDoor.Cv
open Go.RowKit Go.Proofs.YtgefoehpdiiomaaGreatDoor.Jd Go.Proofs.YtgefoehpdiiomaaGreatDoor.Li Go.Proofs.YtgefoehpdiiomaaGreatDoor.Pt
set_option maxRecDepth 100000

/-- A row of these texts. -/
def StP (w : World) (ms : List ByteArray) (en : Ending) (w' : World) : Prop :=
  ∃ A c, en = .returned (.slice A ms.length c) ∧ SeesV w' w'.heap.size A ms.length (ms.map Value.string) ∧ Below w.heap.size w w'
theorem strs_encs {w : World} {B n : Nat} {A : Option Addr} {ms : List ByteArray} (h : SeesV w B A n (ms.map Value.string)) : SeesV w B A n ((ms.map fun m => m.data.toList).map Go.Proofs.YtgefoehpdiiomaaGreatDoor.encs) := by
  have e : (ms.map fun m => m.data.toList).map Go.Proofs.YtgefoehpdiiomaaGreatDoor.encs = ms.map Value.string := by
    rw [List.map_map]
    exact List.map_congr_left fun m _ => by simp [Go.Proofs.YtgefoehpdiiomaaGreatDoor.encs]
  rw [e]; exact h
theorem encs_strs' {w : World} {B n : Nat} {A : Option Addr} {ms : List ByteArray} (h : SeesV w B A n ((ms.map fun m => m.data.toList).map Go.Proofs.YtgefoehpdiiomaaGreatDoor.encs)) : SeesV w B A n (ms.map Value.string) := by
  have e : (ms.map fun m => m.data.toList).map Go.Proofs.YtgefoehpdiiomaaGreatDoor.encs = ms.map Value.string := by
    rw [List.map_map]
    exact List.map_congr_left fun m _ => by simp [Go.Proofs.YtgefoehpdiiomaaGreatDoor.encs]
  rw [← e]; exact h
end Go.Proofs.YtgefoehpdiiomaaGreatDoor.Cv
namespace Go.Proofs.YtgefoehpdiiomaaGreatDoor.Cv
open Go.RowKit Go.Sort Go.Lib Go.Shelf Go.Proofs.YtgefoehpdiiomaaGreatDoor.Jd Go.Proofs.YtgefoehpdiiomaaGreatDoor.Li Go.Proofs.YtgefoehpdiiomaaGreatDoor.Pt
set_option maxRecDepth 100000

/-- Those that are not among others. -/
def lessF (ss : List Bs) (others : List ByteArray) : List Bs := ss.filter fun l => !(Lib.containsS others ⟨l.toArray⟩)

theorem encStr_one : OneCell encStr := fun _ => rfl
theorem row1_cell {w : World} {g : Nat} {ss : List Bs} (h : Go.Sort.Holds encStr w g 0 ss.toArray) (j : Nat) (l : Bs) (hj : ss[j]? = some l) : w.cell? ⟨g, j, none⟩ = some (encStr l) := by
  have hl : j < ss.length := (List.getElem?_eq_some_iff.1 hj).1
  have := (h j (by simpa using hl)).1
  rw [Nat.zero_add] at this
  rw [this, getElem!_pos _ j (by simpa using hl)]
  simp only [List.getElem_toArray]
  rw [← (List.getElem?_eq_some_iff.1 hj).2]

theorem row_apart {w W : World} {B base n N c : Nat} {A A2 : Option Addr} {vs : List Value} {ss : List Bs} (hs : SeesV w B A n vs) (hv : vs ≠ []) (hr : Row1 W base A2 N c ss) (hn : ss ≠ []) (hB : B ≤ base) : ∀ b o g, A = some ⟨b, o, none⟩ → A2 = some ⟨g, 0, none⟩ → b ≠ g := by
  intro b o g h1 h2
  obtain ⟨v, r, rfl⟩ := List.exists_cons_of_ne_nil hv
  obtain ⟨b', o', ha, hb, _⟩ := hs.cell 0 v rfl
  rcases hr.2 with h0 | ⟨g', e, hg, _⟩
  · exact absurd h0 hn
  · rw [h1] at ha
    rw [h2] at e
    injection ha with ha
    injection ha with e1 _
    injection e with e
    injection e with e2 _
    omega

end Go.Proofs.YtgefoehpdiiomaaGreatDoor.Cv
namespace Go.Proofs.YtgefoehpdiiomaaGreatDoor
open Go.RowKit
set_option maxRecDepth 100000

set_option maxHeartbeats 2000000 in
theorem Row1.sees {w : World} {base N c : Nat} {A : Option Addr} {ss : List (List UInt8)} (h : Row1 w base A N c ss) : SeesV w w.heap.size A N (ss.map encStr) := by
  obtain ⟨hN, hs⟩ := h
  refine ⟨by rw [List.length_map]; exact hN, fun j u hu => ?_⟩
  rcases hs with rfl | ⟨g, rfl, _, hgl, _, hH⟩
  · simp at hu
  · rw [List.getElem?_map] at hu
    cases hj : ss[j]? with
    | none => rw [hj] at hu; cases hu
    | some l =>
      rw [hj] at hu
      refine ⟨g, 0, rfl, hgl, ?_⟩
      rw [Nat.zero_add, Cv.row1_cell hH j l hj]
      simpa using hu
end Go.Proofs.YtgefoehpdiiomaaGreatDoor
namespace Go.Proofs.YtgefoehpdiiomaaGreatDoor.Cv
open Go.RowKit Go.Proofs.YtgefoehpdiiomaaGreatDoor.Jd Go.Proofs.YtgefoehpdiiomaaGreatDoor.Li
set_option maxRecDepth 100000

theorem elem_trees : Elem Tryz.prog 42 30 (.slice none 0 0) 1 24 := ⟨Tryz.underlying42, by kernel_rfl, rfl, by omega⟩
end Go.Proofs.YtgefoehpdiiomaaGreatDoor.Cv
namespace Go.Proofs.YtgefoehpdiiomaaGreatDoor.Cv
open Go.RowKit Go.Proofs.YtgefoehpdiiomaaGreatDoor.Jd Go.Proofs.YtgefoehpdiiomaaGreatDoor.Li
set_option maxRecDepth 100000

def kidsL : Tr → List Tr
  | .nil => []
  | .cons _ k r => k :: kidsL r
/-- The names of all levels below. -/
def colsF (t : Tr) : List Bs := namesOf ((kidsL t).flatMap Tr.names)
theorem kids_of {w : World} {B : Nat} : ∀ {t : Tr} {A : Option Addr} {n : Nat}, Holds w B A n t → ∃ xs : List Slc, n = xs.length ∧ xs.map (·.t) = kidsL t ∧
    ∀ (k : Nat) (x : Slc), xs[k]? = some x → ∃ b o s, A = some ⟨b, o, none⟩ ∧ b < B ∧ w.cell? ⟨b, o + k * 2, none⟩ = some (.string s) ∧ w.cell? ⟨b, o + k * 2 + 1, none⟩ = some (.slice x.at_ x.n x.c) ∧ Holds w B x.at_ x.n x.t
  | .nil, _, _, h => ⟨[], h, rfl, fun k x hx => by simp at hx⟩
  | .cons s k r, _, _, ⟨b, o, rfl, hb, hs, ⟨A', n', c', hc, _, _, hk⟩, m, rfl, hr⟩ => by
    obtain ⟨xs, h1, h2, h3⟩ := kids_of hr
    refine ⟨⟨A', n', c', k⟩ :: xs, by simp [h1], by simp [h2, kidsL], fun j x hx => ?_⟩
    cases j with
    | zero =>
      simp only [List.getElem?_cons_zero, Option.some.injEq] at hx
      subst hx
      exact ⟨b, o, s, rfl, hb, by simpa using hs, by simpa using hc, hk⟩
    | succ j =>
      simp only [List.getElem?_cons_succ] at hx
      obtain ⟨b', o', s', he, hb', h4, h5, h6⟩ := h3 j x hx
      injection he with he
      injection he with e1 e2
      subst e1; subst e2
      exact ⟨b, o, s', rfl, hb', by rw [show o + (j + 1) * 2 = o + 2 + j * 2 by omega]; exact h4, by rw [show o + (j + 1) * 2 + 1 = o + 2 + j * 2 + 1 by omega]; exact h5, h6⟩

end Go.Proofs.YtgefoehpdiiomaaGreatDoor.Cv
