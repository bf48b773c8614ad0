/- Sets of names: lists in order, each once; what is combined of two sets. No conditions. · slices.Grow of nil, slices.Concat of rows of strings. Conditions: what is joined is fewer than 2^40 strings. -/
import Derived.Test.YtecnilcfhicfmaaGreatDoorSorted
namespace Go.Proofs.YtecnilcfhicfmaaGreatDoor.Nm
open Go.RowKit
set_option maxRecDepth 100000

theorem less_iff (x y : ByteArray) : Op.bytesLess x.toList y.toList = true ↔ x.data.toList < y.data.toList := by
  rw [Go.Proofs.bytesLess_eq, ByteArray.toList_eq, ByteArray.toList_eq, decide_eq_true_iff]
/-- Of a list in order: what compactUpTo keeps. -/
theorem upTo_facts (zs : List (List UInt8)) (h : zs.Pairwise (· ≤ ·)) : ∀ m, m ≤ zs.length →
    (Go.Lib.compactUpTo zs.toArray m).Pairwise (· < ·) ∧ (∀ x ∈ Go.Lib.compactUpTo zs.toArray m, ∃ j, j < m ∧ x = zs.toArray[j]!) ∧ ∀ j, j < m → zs.toArray[j]! ∈ Go.Lib.compactUpTo zs.toArray m := by
  have hle : ∀ i j, i ≤ j → j < zs.length → zs.toArray[i]! ≤ zs.toArray[j]! := by
    intro i j hij hj
    rw [getElem!_pos _ i (by simp; omega), getElem!_pos _ j (by simpa using hj)]
    simp only [List.getElem_toArray]
    rcases Nat.lt_or_ge i j with g | g
    · exact List.pairwise_iff_getElem.1 h i j (by omega) hj g
    · obtain rfl : i = j := by omega
      exact List.le_refl _
  intro m
  induction m with
  | zero => intro _; exact ⟨by simp [Go.Lib.compactUpTo], by simp [Go.Lib.compactUpTo], by intro j hj; omega⟩
  | succ m ih =>
    intro hm
    obtain ⟨h1, h2, h3⟩ := ih (by omega)
    rw [Go.Lib.compactUpTo_succ]
    by_cases hk : Go.Lib.keeps zs.toArray m = true
    · rw [if_pos hk]
      have hk' := of_decide_eq_true hk
      refine ⟨?_, ?_, ?_⟩
      · rw [List.pairwise_append]
        refine ⟨h1, List.pairwise_singleton _ _, fun x hx y hy => ?_⟩
        obtain ⟨j, hj, rfl⟩ := h2 x hx
        rw [List.mem_singleton] at hy
        subst hy
        rcases hk' with e | e
        · omega
        · have a1 := hle j (m - 1) (by omega) (by omega)
          have a2 := hle (m - 1) m (by omega) (by omega)
          refine List.lt_of_le_of_lt a1 ?_
          by_cases h4 : zs.toArray[m]! ≤ zs.toArray[m - 1]!
          · exact absurd (List.le_antisymm h4 a2) e
          · simpa using h4
      · intro x hx
        rw [List.mem_append, List.mem_singleton] at hx
        rcases hx with hx | rfl
        · obtain ⟨j, hj, e⟩ := h2 x hx
          exact ⟨j, by omega, e⟩
        · exact ⟨m, by omega, rfl⟩
      · intro j hj
        rw [List.mem_append, List.mem_singleton]
        by_cases e : j = m
        · right; rw [e]
        · left; exact h3 j (by omega)
    · rw [if_neg hk, List.append_nil]
      have hk' : ¬ (m = 0 ∨ zs.toArray[m]! ≠ zs.toArray[m - 1]!) := fun e => hk (decide_eq_true e)
      refine ⟨h1, fun x hx => ?_, fun j hj => ?_⟩
      · obtain ⟨j, hj, e⟩ := h2 x hx
        exact ⟨j, by omega, e⟩
      · by_cases e : j = m
        · subst e
          have e1 : zs.toArray[j]! = zs.toArray[j - 1]! := Classical.byContradiction fun h => hk' (.inr h)
          rw [e1]
          exact h3 (j - 1) (by omega)
        · exact h3 j (by omega)
theorem sorted_pair (ss : List (List UInt8)) : (sorted ss).Pairwise (· ≤ ·) :=
  (List.pairwise_mergeSort (le := fun x y => decide (x ≤ y)) (fun a b c h1 h2 => by simp only [decide_eq_true_eq] at *; exact List.le_trans h1 h2) (fun a b => by simp only [Bool.or_eq_true, decide_eq_true_eq]; exact List.le_total a b) ss).imp (fun h => of_decide_eq_true h)
/-- In order, each once. -/
def ord (ss : List (List UInt8)) : List (List UInt8) := once (sorted ss)
theorem ord_pair (ss : List (List UInt8)) : (ord ss).Pairwise (· < ·) :=
  (upTo_facts _ (sorted_pair _) _ (Nat.le_refl _)).1
theorem ord_mem (ss : List (List UInt8)) (x : List UInt8) : x ∈ ord ss ↔ x ∈ ss := by
  obtain ⟨_, h2, h3⟩ := upTo_facts _ (sorted_pair ss) _ (Nat.le_refl _)
  have hp : ∀ y, y ∈ sorted ss ↔ y ∈ ss := fun y => List.mem_mergeSort
  rw [← hp]
  constructor
  · intro hx
    obtain ⟨j, hj, rfl⟩ := h2 x hx
    rw [getElem!_pos _ j (by simpa using hj)]
    simp
  · intro hx
    obtain ⟨j, hj, rfl⟩ := List.getElem_of_mem hx
    have := h3 j hj
    rw [getElem!_pos _ j (by simpa using hj), List.getElem_toArray] at this
    exact this
theorem ord_le (ss : List (List UInt8)) : (ord ss).length ≤ ss.length := by
  have := once_le (sorted ss)
  rw [sorted_length] at this
  exact this
theorem len_le {α : Type} [DecidableEq α] : ∀ (l m : List α), l.Nodup → (∀ x ∈ l, x ∈ m) → l.length ≤ m.length
  | [], m, _, _ => Nat.zero_le _
  | a :: l, m, hd, hs => by
    rw [List.nodup_cons] at hd
    have ha := hs a List.mem_cons_self
    have := len_le l (m.erase a) hd.2 (fun x hx => (List.mem_erase_of_ne (fun e => hd.1 (by rw [← e]; exact hx))).2 (hs x (List.mem_cons_of_mem _ hx)))
    rw [List.length_erase_of_mem ha] at this
    have : 0 < m.length := List.length_pos_of_mem ha
    simp only [List.length_cons]
    omega
theorem asc_nodup {l : List (List UInt8)} (h : l.Pairwise (· < ·)) : l.Nodup :=
  h.imp (fun h e => by rw [e] at h; exact List.lt_irrefl _ h)
/-- Two lists in order with the same members are one. -/
theorem asc_eq : ∀ {l m : List (List UInt8)}, l.Pairwise (· < ·) → m.Pairwise (· < ·) → (∀ x, x ∈ l ↔ x ∈ m) → l = m
  | [], [], _, _, _ => rfl
  | [], b :: m, _, _, h => by have := (h b).2 List.mem_cons_self; simp at this
  | a :: l, [], _, _, h => by have := (h a).1 List.mem_cons_self; simp at this
  | a :: l, b :: m, hl, hm, h => by
    rw [List.pairwise_cons] at hl hm
    have e : a = b := by
      have h1 := (h a).1 List.mem_cons_self
      have h2 := (h b).2 List.mem_cons_self
      rw [List.mem_cons] at h1 h2
      rcases h1 with e | h1
      · exact e
      · rcases h2 with e | h2
        · exact e.symm
        · exact absurd (List.lt_trans (hl.1 b h2) (hm.1 a h1)) (List.lt_irrefl _)
    subst e
    rw [asc_eq hl.2 hm.2 (fun x => ?_)]
    have := h x
    rw [List.mem_cons, List.mem_cons] at this
    constructor
    · intro hx
      rcases this.1 (.inr hx) with e | e
      · subst e; exact absurd (hl.1 _ hx) (List.lt_irrefl _)
      · exact e
    · intro hx
      rcases this.2 (.inr hx) with e | e
      · subst e; exact absurd (hm.1 _ hx) (List.lt_irrefl _)
      · exact e

/-- Of a list in order: where a name stands, or would. -/
theorem cut : ∀ (ss : List (List UInt8)) (x : List UInt8), ss.Pairwise (· < ·) → ∃ p, p ≤ ss.length ∧ (∀ t y, ss[t]? = some y → (y < x ↔ t < p)) ∧ (x ∈ ss ↔ ss[p]? = some x)
  | [], x, _ => ⟨0, Nat.le_refl _, fun t y h => by simp at h, by simp⟩
  | a :: r, x, h => by
    rw [List.pairwise_cons] at h
    by_cases hl : a < x
    · obtain ⟨p, h1, h2, h3⟩ := cut r x h.2
      refine ⟨p + 1, by simpa using h1, fun t y ht => ?_, ?_⟩
      · cases t with
        | zero =>
          simp only [List.getElem?_cons_zero, Option.some.injEq] at ht
          subst ht
          simp [hl]
        | succ t =>
          simp only [List.getElem?_cons_succ] at ht
          rw [h2 t y ht]
          omega
      · rw [List.getElem?_cons_succ, ← h3, List.mem_cons]
        constructor
        · rintro (e | e)
          · rw [e] at hl; exact absurd hl (List.lt_irrefl _)
          · exact e
        · exact Or.inr
    · refine ⟨0, Nat.zero_le _, fun t y ht => ?_, ?_⟩
      · cases t with
        | zero =>
          simp only [List.getElem?_cons_zero, Option.some.injEq] at ht
          subst ht
          simp [hl]
        | succ t =>
          simp only [List.getElem?_cons_succ] at ht
          have := h.1 y (List.mem_of_getElem? ht)
          constructor
          · intro g; exact absurd (List.lt_trans this g) hl
          · intro g; omega
      · rw [List.getElem?_cons_zero, List.mem_cons]
        constructor
        · rintro (e | e)
          · rw [e]
          · exact absurd (h.1 x e) hl
        · intro e
          injection e with e
          exact .inl e.symm

/-- A set: all names but some, or some. -/
structure St where
  all : Bool
  l : List (List UInt8)
def St.mem (s : St) (x : List UInt8) : Bool := decide (x ∈ s.l) != s.all
def comb (op : Bool → Bool → Bool) (a b : St) : St :=
  ⟨op a.all b.all, (ord (a.l ++ b.l)).filter fun x => op (a.mem x) (b.mem x) != op a.all b.all⟩
def fr (a : St) : St := ⟨a.all, ord a.l⟩
def nott (a : St) : St := ⟨!a.all, ord a.l⟩
def St.none (s : St) : Bool := !s.all && decide (s.l.length = 0)
def both (a b : St) : St := comb (· && ·) (fr a) (fr b)
def either (a b : St) : St := comb (· || ·) (fr a) (fr b)
def same (a b : St) : Bool := (comb (· != ·) (fr a) (fr b)).none

theorem fr_mem (a : St) (x : List UInt8) : (fr a).mem x = a.mem x := by
  simp only [St.mem, fr]
  congr 1
  exact decide_eq_decide.2 (ord_mem _ _)
theorem nott_mem (a : St) (x : List UInt8) : (nott a).mem x = !a.mem x := by
  have : decide (x ∈ ord a.l) = decide (x ∈ a.l) := decide_eq_decide.2 (ord_mem _ _)
  show (decide (x ∈ ord a.l) != !a.all) = !(decide (x ∈ a.l) != a.all)
  rw [this]
  cases decide (x ∈ a.l) <;> cases a.all <;> rfl
theorem comb_mem (op : Bool → Bool → Bool) (a b : St) (x : List UInt8) : (comb op a b).mem x = op (a.mem x) (b.mem x) := by
  by_cases h : x ∈ a.l ++ b.l
  · have : decide (x ∈ (comb op a b).l) = (op (a.mem x) (b.mem x) != op a.all b.all) := by
      rw [Bool.eq_iff_iff, decide_eq_true_iff]
      simp only [comb, List.mem_filter, ord_mem, h, true_and]
    show (decide (x ∈ (comb op a b).l) != op a.all b.all) = _
    rw [this]
    cases op (a.mem x) (b.mem x) <;> cases op a.all b.all <;> rfl
  · have h0 : decide (x ∈ (comb op a b).l) = false := by
      rw [decide_eq_false_iff_not]
      simp only [comb, List.mem_filter, ord_mem, h, false_and, not_false_eq_true]
    rw [List.mem_append, not_or] at h
    show (decide (x ∈ (comb op a b).l) != op a.all b.all) = _
    rw [h0]
    simp [St.mem, h.1, h.2]
theorem comb_pair (op : Bool → Bool → Bool) (a b : St) : (comb op a b).l.Pairwise (· < ·) := (ord_pair _).filter _
theorem comb_le (op : Bool → Bool → Bool) (a b : St) : (comb op a b).l.length ≤ a.l.length + b.l.length := by
  refine Nat.le_trans (List.length_filter_le ..) (Nat.le_trans (ord_le _) ?_)
  rw [List.length_append]
  exact Nat.le_refl _
theorem fr_le (a : St) : (fr a).l.length ≤ a.l.length := ord_le _
theorem both_mem (a b : St) (x : List UInt8) : (both a b).mem x = (a.mem x && b.mem x) := by rw [both, comb_mem, fr_mem, fr_mem]
theorem either_mem (a b : St) (x : List UInt8) : (either a b).mem x = (a.mem x || b.mem x) := by rw [either, comb_mem, fr_mem, fr_mem]
theorem both_pair (a b : St) : (both a b).l.Pairwise (· < ·) := comb_pair ..
theorem either_pair (a b : St) : (either a b).l.Pairwise (· < ·) := comb_pair ..
theorem nott_pair (a : St) : (nott a).l.Pairwise (· < ·) := ord_pair _
theorem both_le (a b : St) : (both a b).l.length ≤ a.l.length + b.l.length := by
  have := comb_le (· && ·) (fr a) (fr b); have := fr_le a; have := fr_le b
  unfold both; omega
theorem either_le (a b : St) : (either a b).l.length ≤ a.l.length + b.l.length := by
  have := comb_le (· || ·) (fr a) (fr b); have := fr_le a; have := fr_le b
  unfold either; omega
theorem nott_le (a : St) : (nott a).l.length ≤ a.l.length := ord_le _
/-- No name is in it, and it is not All: it is none. -/
theorem none_of {s : St} (h0 : s.all = false) (h : ∀ x, s.mem x = false) : s.none = true := by
  have : s.l = [] := by
    rw [List.eq_nil_iff_forall_not_mem]
    intro x hx
    have := h x
    rw [St.mem, h0, decide_eq_true hx] at this
    cases this
  rw [St.none, h0, this]
  rfl
theorem same_of {a b : St} (h0 : a.all = b.all) (h : ∀ x, a.mem x = b.mem x) : same a b = true := by
  refine none_of ?_ fun x => ?_
  · simp [comb, fr, h0]
  · rw [comb_mem, fr_mem, fr_mem, h x]
    cases b.mem x <;> rfl
theorem same_iff (a b : St) : same a b = true ↔ a.all = b.all ∧ ∀ x, x ∈ a.l ↔ x ∈ b.l := by
  constructor
  · intro h
    unfold same St.none at h
    rw [Bool.and_eq_true, decide_eq_true_iff, Bool.not_eq_true'] at h
    have h0 : a.all = b.all := by
      have := h.1
      simp only [comb, fr] at this
      cases ha : a.all <;> cases hb : b.all <;> simp_all
    refine ⟨h0, fun x => ?_⟩
    have hm := comb_mem (· != ·) (fr a) (fr b) x
    rw [fr_mem, fr_mem] at hm
    have e : (comb (· != ·) (fr a) (fr b)).mem x = false := by
      rw [St.mem, h.1, List.eq_nil_of_length_eq_zero h.2]; rfl
    rw [e] at hm
    have hm' : false = ((decide (x ∈ a.l) != b.all) != (decide (x ∈ b.l) != b.all)) := by unfold St.mem at hm; rw [h0] at hm; exact hm
    have hd : decide (x ∈ a.l) = decide (x ∈ b.l) := by
      revert hm'
      cases decide (x ∈ a.l) <;> cases decide (x ∈ b.l) <;> cases b.all <;> intro e <;> first | rfl | cases e
    exact decide_eq_decide.1 hd
  · rintro ⟨h0, h⟩
    refine same_of h0 fun x => ?_
    have : decide (x ∈ a.l) = decide (x ∈ b.l) := decide_eq_decide.2 (h x)
    rw [St.mem, St.mem, this, h0]
end Go.Proofs.YtecnilcfhicfmaaGreatDoor.Nm
namespace Go.Proofs.YtecnilcfhicfmaaGreatDoor.Nm
open Go.RowKit
set_option maxRecDepth 100000

theorem info_str : (Tryz.prog.info? 9).map (fun i => (i.zero, i.size, i.bytes)) = some (some (.string ⟨#[]⟩), 1, 16) := by kernel_rfl
theorem elem_s : Elem Tryz.prog 29 9 (.string ⟨#[]⟩) 1 16 := ⟨Tryz.underlying29, info_str, rfl, by omega⟩
theorem encs_one (ss : List (List UInt8)) : ∀ u ∈ ss.map encs, u.oneCell' = true := by
  intro u hu
  simp only [List.mem_map] at hu
  obtain ⟨x, _, rfl⟩ := hu
  rfl
/-- What append takes: a row of strings, nil too. -/
theorem src_strs {w : World} {B n c : Nat} {A : Option Addr} {ss : List (List UInt8)} (h : SeesV w B A n (ss.map encs)) : Src Tryz.prog 1 29 (.slice A n c) n (ss.map encs) w := by
  have hl := h.len
  cases A with
  | none =>
    cases ss with
    | nil =>
      have : n = 0 := by simpa using hl
      subst this
      exact Src.ofNil w Tryz.underlying29 c
    | cons y r =>
      obtain ⟨b, o, e, _⟩ := h.cell 0 (encs y) rfl
      cases e
  | some a => exact Src.ofSlice w Tryz.underlying29 a n c (ss.map encs) (by rw [hl, Nat.mul_one]) (fun j u hu => by
      obtain ⟨b, o, e, _, hc⟩ := h.cell j u hu
      injection e with e
      subst e
      rw [Addr.add_lit]
      exact hc) (encs_one ss)
/-- A row of the call's own, seen. -/
theorem sees_own {w : World} {base n c : Nat} {A : Option Addr} {ss : List (List UInt8)} (h : w.ownsRow base 9 1 (.slice A n c) n (ss.map encs)) : SeesV w w.heap.size A n (ss.map encs) := by
  obtain ⟨h1, hr⟩ := h
  refine ⟨by omega, fun j u hu => ?_⟩
  rcases hr with ⟨_, e⟩ | ⟨g, cap, cur, e, hg, hh, hcap, hmx, hsz, htk⟩
  · have : (ss.map encs) = [] := List.eq_nil_of_length_eq_zero (by omega)
    rw [this] at hu
    simp at hu
  · injection e with e1 e2 e3
    subst e1
    refine ⟨g, 0, rfl, (Array.getElem?_eq_some_iff.1 hh).1, ?_⟩
    rw [cell_of_row w g _ cur _ _ hh, Nat.zero_add]
    have hj : (cur.toList.take (n * 1))[j]? = some u := by rw [htk]; exact hu
    rw [List.getElem?_take] at hj
    split at hj
    · rw [← Array.getElem?_toList]; exact hj
    · cases hj

def Grown (w : World) (e : Ending) (w' : World) : Prop := ∃ A c, e = .returned (.slice A 0 c) ∧ w'.ownsRow w.heap.size 9 1 (.slice A 0 c) 0 [] ∧ Below w.heap.size w w'

set_option maxHeartbeats 400000 in
theorem grow_any (n : Nat) (hn : n ≤ 1099511627776) (w : World) : Calls Tryz.prog 48 #[.slice none 0 0, .int .i64 n] w (Grown w) := by
  by_cases h0 : n = 0
  · subst h0
    go_enter Tryz.func48, Tryz.ntmps48
    go_wp2
    go_ret
    exact ⟨none, 0, rfl, World.ownsRow_nil _ _ _ _, Below.refl _ _⟩
  · obtain ⟨i0, hi0, hz0, hs0, hb0⟩ := info_parts info_str
    have hr : ∀ ty, (Builtin.append_ #[29, 3] ty #[.slice none 0 0, .int .i64 n]).run Tryz.prog w = .ok (.slice (some ⟨w.heap.size, 0, none⟩) n (grownCap w n 0 9)) (w.drew.alloc (.cells (Builtin.zeroCells (Value.string ⟨#[]⟩).cells n ++ Builtin.zeroCells (Value.string ⟨#[]⟩).cells (grownCap w n 0 9 - n)) 9)) := by
      intro ty
      have h := Lib.run_append_grow_zeros (P := Tryz.prog) w 29 3 ty 9 i0 (.string ⟨#[]⟩) .i64 .i64 Tryz.underlying29 Tryz.underlying3 hi0 hz0 none 0 0 [] (run_firstCells_none w.drew i0.size 0 0 0) n (by omega) (by omega) (by omega) (by omega) (by rw [hb0]; omega) (by
        have := growslice_fits (need := 0 + n) (old := 0) (bytes := i0.bytes) (by omega) (by rw [hb0]; omega)
        exact this)
      simpa using h
    have hge := grownCap_ge w n 0 9
    have hcm := grownCap_le_maxLen w n 0 9 (by simp only [maxLen]; omega)
    obtain ⟨G, hG⟩ : ∃ G, G = grownCap w n 0 9 := ⟨_, rfl⟩
    rw [← hG] at hr hge hcm
    have hzc : (Builtin.zeroCells (Value.string ⟨#[]⟩).cells n ++ Builtin.zeroCells (Value.string ⟨#[]⟩).cells (G - n)).size = G * 1 := by
      simp only [Array.size_append, size_zeroCells]
      rw [show (Value.string ⟨#[]⟩).cells.size = 1 from rfl]
      omega
    have hown := World.ownsRow_made (base := w.heap.size) (e := 9) (size := 1) w.drew (Builtin.zeroCells (Value.string ⟨#[]⟩).cells n ++ Builtin.zeroCells (Value.string ⟨#[]⟩).cells (G - n)) G (by simp) hcm hzc
    generalize (Builtin.zeroCells (Value.string ⟨#[]⟩).cells n ++ Builtin.zeroCells (Value.string ⟨#[]⟩).cells (G - n)) = Z at *
    have hG2 : G ≤ 9223372036854775807 := by simp only [maxLen] at hcm; omega
    have Hown := Lib.hid hown
    clear hown hG hzc hi0 hz0 hs0 hb0 hcm
    go_enter Tryz.func48, Tryz.ntmps48
    go_wp2_with (at_builtin; refine Lib.wpList_append_run _ rfl _ _ _ _ rfl _ _ rfl rfl _ _ (hr _) ?_)
    go_ret
    exact ⟨_, _, rfl, Hown.out, (Below.refl _ _).drew.alloc (Nat.le_refl _) _⟩

/-- What is joined: the slices at the cells of a slice of slices. -/
structure Parts (w : World) (g : Nat) (vs : List Value) (ls : List (List (List UInt8))) : Prop where
  len : vs.length = ls.length
  cell : ∀ (i : Nat) v, vs[i]? = some v → w.cell? ⟨g, i, none⟩ = some v
  sees : ∀ (i : Nat) l, ls[i]? = some l → ∃ A n c, vs[i]? = some (.slice A n c) ∧ SeesV w w.heap.size A n (l.map encs)

theorem Parts.two {w : World} {g : Nat} {A B : Option Addr} {n m c d : Nat} {l k : List (List UInt8)} (hg : w.heap[g]? = some (.cells #[.slice A n c, .slice B m d] 29 (0, 0))) (h1 : SeesV w w.heap.size A n (l.map encs)) (h2 : SeesV w w.heap.size B m (k.map encs)) :
    Parts w g [.slice A n c, .slice B m d] [l, k] := by
  refine ⟨rfl, fun i v hv => ?_, fun i l' hl => ?_⟩
  · rw [cell_of_row w g i _ _ _ hg]
    simpa using hv
  · match i, hl with
    | 0, hl => simp at hl; subst hl; exact ⟨A, n, c, rfl, h1⟩
    | 1, hl => simp at hl; subst hl; exact ⟨B, m, d, rfl, h2⟩

theorem flat_succ {ls : List (List (List UInt8))} {k : Nat} {l : List (List UInt8)} (h : ls[k]? = some l) : (ls.take (k + 1)).flatten = (ls.take k).flatten ++ l := by
  rw [List.take_add_one, h]
  simp
theorem flat_le (ls : List (List (List UInt8))) (k : Nat) : (ls.take k).flatten.length ≤ ls.flatten.length := by
  conv => rhs; rw [← List.take_append_drop k ls, List.flatten_append, List.length_append]
  exact Nat.le_add_right _ _

def Joined (l : List (List UInt8)) (w : World) (e : Ending) (w' : World) : Prop := ∃ A c, e = .returned (.slice A l.length c) ∧ SeesV w' w'.heap.size A l.length (l.map encs) ∧ Below w.heap.size w w'

set_option maxHeartbeats 1000000 in
theorem concat_any (g K : Nat) (vs : List Value) (ls : List (List (List UInt8))) (w : World) (hp : Parts w g vs ls) (hK : K = ls.length) (hK2 : K ≤ 65536) (hT : ls.flatten.length ≤ 1099511627776) (hg : g < w.heap.size) :
    Calls Tryz.prog 25 #[.slice (some ⟨g, 0, none⟩) K K] w (Joined ls.flatten w) := by
  have HK := Lib.hid hK
  clear hK
  obtain ⟨T, hTd⟩ : ∃ T : Nat → Nat, T = fun k => (ls.take k).flatten.length := ⟨_, rfl⟩
  have HT : Hid (∀ k, T k = (ls.take k).flatten.length) := by intro k; rw [hTd]
  have HTb : Hid (∀ k, T k ≤ 1099511627776) := by
    intro k
    rw [hTd]
    exact Nat.le_trans (flat_le ls k) hT
  have HT0 : Hid (T 0 = 0) := by rw [HT.out]; rfl
  clear hTd
  go_enter Tryz.func25, Tryz.ntmps25
  go_wp2
  go_loop [3, 11] (fun v i => ∃ k : Nat, k ≤ K ∧ i = .int .i64 k ∧ v = .int .i64 (T k)) (fun _ i => K - (intOf i).toNat)
  case atStart => exact ⟨0, Nat.zero_le _, rfl, by rw [HT0.out]; rfl⟩
  case round =>
    obtain ⟨k, hk, rfl, rfl⟩ := hrel
    have hTk := HTb.out k
    by_cases hlt : k < K
    · obtain ⟨l, hl⟩ : ∃ l, ls[k]? = some l := ⟨ls[k]'(by rw [← HK.out]; exact hlt), List.getElem?_eq_getElem _⟩
      obtain ⟨A, n, c, hv, hs⟩ := hp.sees k l hl
      have hc := hp.cell k _ hv
      have hnl := hs.len
      rw [List.length_map] at hnl
      have HT1 := Lib.hid (show T (k + 1) = T k + n by rw [HT.out, HT.out, flat_succ hl, List.length_append, hnl])
      have hb1 : T k + n ≤ 1099511627776 := by have := HTb.out (k + 1); rw [HT1.out] at this; exact this
      clear hl hv hnl
      go_wp2
      go_round
      case rel => exact ⟨k + 1, by omega, by go_num, by rw [HT1.out]; go_num⟩
      case measure => simp [intOf]; omega
    · obtain rfl : k = K := by omega
      go_wp2_with (go_at_call 48; refine (grow_any _ hTk _).mono ?_; rintro e w1 ⟨A1, c1, rfl, ho1, hb1⟩)
      go_loopw [6, 27] (fun v i wr => ∃ (j : Nat) (A : Option Addr) (n c : Nat), j ≤ k ∧ i = .int .i64 j ∧ v = .slice A n c ∧ wr.ownsRow w.heap.size 9 1 (.slice A n c) n ((ls.take j).flatten.map encs) ∧ Below w.heap.size w wr) (fun _ i _ => k - (intOf i).toNat)
      case atStart => exact ⟨0, A1, 0, c1, Nat.zero_le _, rfl, rfl, ho1, hb1⟩
      case round =>
        obtain ⟨j, A, n, c, hj, rfl, rfl, ho, hb⟩ := hrel
        have hn := ho.1
        rw [List.length_map] at hn
        by_cases hlt2 : j < k
        · obtain ⟨l, hl⟩ : ∃ l, ls[j]? = some l := ⟨ls[j]'(by rw [← HK.out]; exact hlt2), List.getElem?_eq_getElem _⟩
          obtain ⟨A2, m, c2, hv, hs⟩ := hp.sees j l hl
          have hc := (hb.cell (p := ⟨g, j, none⟩) hg).trans (hp.cell j _ hv)
          have hnl := hs.len
          rw [List.length_map] at hnl
          have hlen : n + m ≤ 1099511627776 := by
            have h1 := HTb.out (j + 1)
            rw [HT.out, flat_succ hl, List.length_append, ← hnl] at h1
            omega
          have hs2 := src_strs (hs.below hb) (c := c2)
          have Hfl := Lib.hid (flat_succ hl)
          clear hl hv hnl hn
          go_wp2_with (at_builtin; refine wpList_append_row rfl _ _ _ _ rfl elem_s rfl rfl ho hs2 hlen hb.size ?_; intro A' c' w' ho' hg' hat')
          go_roundw
          case rel => exact ⟨j + 1, A', n + m, c', by omega, by go_num, rfl, by rw [Hfl.out, List.map_append]; exact ho', hb.grown hg' hb.size (fun q hq => (ho.lt q hq).1)⟩
          case measure => simp [intOf]; omega
        · obtain rfl : j = k := by omega
          have hall : ls.take j = ls := List.take_of_length_le (by rw [HK.out]; exact Nat.le_refl _)
          rw [hall] at ho hn
          obtain rfl : n = ls.flatten.length := by omega
          have Ho := Lib.hid ho
          clear ho hn hall
          go_wp2
          go_ret
          exact ⟨A, c, rfl, sees_own Ho.out, hb⟩
end Go.Proofs.YtecnilcfhicfmaaGreatDoor.Nm
