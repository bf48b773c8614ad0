/- The stack of pairs of trees that Same keeps: pop and push. Conditions: what is popped is there; sizes below 2^40. -/
import Derived.Test.YtkhjpmefekonhaaStack
namespace Go.Proofs.Ytkhjpmefekonhaa
open Go.RowKit
set_option maxRecDepth 100000

/-- A pair still to be compared: two slices of edges. -/
structure PJob where
  a1 : Option Addr
  n1 : Nat
  c1 : Nat
  a2 : Option Addr
  n2 : Nat
  c2 : Nat
def PJob.cells (x : PJob) : List Value := [.slice x.a1 x.n1 x.c1, .slice x.a2 x.n2 x.c2]
def pjobs (L : List PJob) : List Value := L.flatMap PJob.cells
theorem pjobs_length (L : List PJob) : (pjobs L).length = L.length * 2 := by
  induction L with
  | nil => rfl
  | cons x l ih => simp only [pjobs, List.flatMap_cons, List.length_append, List.length_cons] at ih ⊢; rw [ih]; simp [PJob.cells]; omega
theorem pjobs_append (L M : List PJob) : pjobs (L ++ M) = pjobs L ++ pjobs M := by simp [pjobs]

structure PStk (w : World) (base g : Nat) (L : List PJob) : Prop where
  le : base ≤ g
  row : ∃ A c, w.heap[g]? = some (.cells #[.slice A L.length c] 105 (0, 0)) ∧ w.ownsRow base 103 2 (.slice A L.length c) L.length (pjobs L)

theorem PStk.grow {w w' : World} {base g : Nat} {L : List PJob} (h : PStk w base g L) (hk : ∀ k, k < w.heap.size → w'.heap[k]? = w.heap[k]?) : PStk w' base g L := by
  obtain ⟨A, c, hb, hr1, hr⟩ := h.row
  have hs : ∀ (k : Nat) (o : Obj), w.heap[k]? = some o → w'.heap[k]? = some o := fun k o ho => (hk k (Array.getElem?_eq_some_iff.1 ho).1).trans ho
  refine ⟨h.le, A, c, hs _ _ hb, hr1, ?_⟩
  rcases hr with e | ⟨g1, cap, cur, e, hg, hh, rest⟩
  · exact .inl e
  · exact .inr ⟨g1, cap, cur, e, hg, hs _ _ hh, rest⟩
theorem PStk.alloc {w : World} {base g : Nat} {L : List PJob} (h : PStk w base g L) (o : Obj) : PStk (w.alloc o) base g L := h.grow fun k hk => Below.heap_alloc w o k hk
theorem PStk.drewN {w : World} {base g : Nat} {L : List PJob} (h : PStk w base g L) (q : Nat) : PStk (w.drewN q) base g L := h.grow fun _ _ => rfl

/-- Block k is none of the stack's: not its box, not its row. -/
def PFar (w : World) (g k : Nat) : Prop := k ≠ g ∧ ∀ A n c, w.heap[g]? = some (.cells #[.slice A n c] 105 (0, 0)) → (Value.slice A n c).ownBlock ≠ some k
theorem PStk.lt {w : World} {base g : Nat} {L : List PJob} (h : PStk w base g L) : g < w.heap.size := by
  obtain ⟨A, c, hb, _⟩ := h.row
  exact (Array.getElem?_eq_some_iff.1 hb).1
theorem PStk.far {w : World} {base g k : Nat} {L : List PJob} (h : PStk w base g L) (hk : w.heap.size ≤ k) : PFar w g k := by
  have hl := h.lt
  obtain ⟨A, c, hb, hrow⟩ := h.row
  refine ⟨by omega, fun A' n' c' he e => ?_⟩
  rw [hb] at he
  injection he with he
  injection he with he _ _
  have he := congrArg Array.toList he
  simp only [List.cons.injEq, Value.slice.injEq, and_true] at he
  obtain ⟨rfl, rfl, rfl⟩ := he
  have := (hrow.lt k e).2
  omega
theorem PFar.grow {w w' : World} {g k : Nat} (h : PFar w g k) (hg : g < w.heap.size) (hk : ∀ k, k < w.heap.size → w'.heap[k]? = w.heap[k]?) : PFar w' g k :=
  ⟨h.1, fun A n c he => h.2 A n c ((hk g hg).symm.trans he)⟩

set_option maxHeartbeats 1000000 in
theorem ppop_any (base g : Nat) (L : List PJob) (x : PJob) (w : World) (h : PStk w base g (L ++ [x])) (hL : L.length ≤ 1099511627776) :
    Calls Try.prog 59 #[.pointer (some ⟨g, 0, none⟩)] w fun e w' =>
      e = .returned (.agg #[.slice x.a1 x.n1 x.c1, .slice x.a2 x.n2 x.c2]) ∧ PStk w' base g L ∧ w.grownBy w' (some g) := by
  obtain ⟨A, c, hb, hrow⟩ := h.row
  have hrow2 := hrow
  obtain ⟨hr1, hr⟩ := hrow
  rcases hr with ⟨e, e2⟩ | ⟨g1, cap, cur, e, hg, hh, hcap, hmx, hsz, htk⟩
  · simp at e2
  injection e with e1 e2 e3
  subst e1; subst e3
  have hlen : (L ++ [x]).length = L.length + 1 := by simp
  rw [hlen] at hb hcap htk
  have hcell : ∀ j v, (pjobs (L ++ [x]))[j]? = some v → w.cell? ⟨g1, j, none⟩ = some v := by
    intro j v hv
    rw [cell_of_row w g1 j cur _ _ hh]
    rw [← htk, List.getElem?_take] at hv
    split at hv
    · simpa using hv
    · cases hv
  have hc0 : w.cell? ⟨g1, L.length * 2, none⟩ = some (.slice x.a1 x.n1 x.c1) := hcell _ _ (by rw [pjobs_append, List.getElem?_append_right (by rw [pjobs_length]; exact Nat.le_refl _), pjobs_length, Nat.sub_self]; rfl)
  have hc1 : w.cell? ⟨g1, L.length * 2 + 1, none⟩ = some (.slice x.a2 x.n2 x.c2) := hcell _ _ (by rw [pjobs_append, List.getElem?_append_right (by rw [pjobs_length]; omega), pjobs_length, Nat.add_sub_cancel_left]; rfl)
  have hbox : w.cell? ⟨g, 0, none⟩ = some (.slice (some ⟨g1, 0, none⟩) (L.length + 1) c) := by rw [cell_of_row w g 0 _ _ _ hb]; rfl
  have hfr : w.frozen? ⟨g, 0, none⟩ = false := by simp [World.frozen?, hb]
  obtain ⟨k, hk⟩ : ∃ k, k = L.length := ⟨_, rfl⟩
  rw [← hk] at hc0 hc1 hbox hL hcap
  have hgl : g < w.heap.size := (Array.getElem?_eq_some_iff.1 hb).1
  have hg1l : g1 < w.heap.size := (Array.getElem?_eq_some_iff.1 hh).1
  have hne : g1 ≠ g := by rintro rfl; rw [hh] at hb; simp at hb
  have Hk := Lib.hid hk
  have Hb := Lib.hid hb
  have Hh := Lib.hid hh
  have Hsz := Lib.hid hsz
  have Htk := Lib.hid htk
  clear hcell htk hr1 hrow2 hb hlen hh hsz hk e2
  go_enter Try.func59, Try.ntmps59
  go_wp2_with fail
  refine bodyPost_ret (v := .agg #[.slice x.a1 x.n1 x.c1, .slice x.a2 x.n2 x.c2]) (by simp [results, Try.results59, go_sem]) rfl ⟨rfl, ⟨h.le, some ⟨g1, 0, none⟩, c, ?_, ?_⟩, grown_new (grown_new (grown_set _ _ _) _) _⟩
  · rw [← Hk.out]
    exact heap_keep (heap_keep (box_set Hb.out) _) _
  · rw [← Hk.out]
    refine ⟨by rw [pjobs_length, Hk.out], .inr ⟨g1, c, cur, rfl, hg, heap_keep (heap_keep (heap_far Hh.out hne _) _) _, by omega, hmx, Hsz.out, ?_⟩⟩
    have hk := Hk.out
    have e3 : (pjobs L).take (k * 2) = pjobs L := List.take_of_length_le (by rw [pjobs_length, hk]; exact Nat.le_refl _)
    have := congrArg (List.take (k * 2)) Htk.out
    rw [List.take_take, pjobs_append, List.take_append_of_le_length (by rw [pjobs_length, hk]; exact Nat.le_refl _), e3, Nat.min_eq_left (by omega)] at this
    exact this

theorem pjobs_one (L : List PJob) : ∀ u ∈ pjobs L, u.oneCell' = true := by
  intro u hu
  simp only [pjobs, List.mem_flatMap] at hu
  obtain ⟨x, _, hx⟩ := hu
  simp only [PJob.cells, List.mem_cons, List.not_mem_nil, or_false] at hx
  rcases hx with rfl | rfl <;> rfl

theorem elem_pair : Elem Try.prog 105 103 (.agg #[.slice none 0 0, .slice none 0 0]) 2 48 := ⟨Try.underlying105, by kernel_rfl, rfl, by omega⟩

set_option maxHeartbeats 1000000 in
theorem ppush_any (base g b o m c : Nat) (L M : List PJob) (w : World) (h : PStk w base g L) (hm : m = M.length) (hc : ∀ j u, (pjobs M)[j]? = some u → w.cell? ⟨b, o + j, none⟩ = some u) (hL : L.length + m ≤ 1099511627776) (hb : base ≤ w.heap.size) :
    Calls Try.prog 60 #[.pointer (some ⟨g, 0, none⟩), .slice (some ⟨b, o, none⟩) m c] w fun e w' =>
      (∃ v, e = .returned v) ∧ PStk w' base g (L ++ M) ∧ Below base w w' ∧ ∀ k, k < w.heap.size → PFar w g k → w'.heap[k]? = w.heap[k]? ∧ PFar w' g k := by
  obtain ⟨A, c1, hbx, hrow⟩ := h.row
  have hbox : w.cell? ⟨g, 0, none⟩ = some (.slice A L.length c1) := by rw [cell_of_row w g 0 _ _ _ hbx]; rfl
  have hfr : w.frozen? ⟨g, 0, none⟩ = false := by simp [World.frozen?, hbx]
  have hgl : g < w.heap.size := (Array.getElem?_eq_some_iff.1 hbx).1
  have hsrc : Src Try.prog 2 104 (.slice (some ⟨b, o, none⟩) m c) m (pjobs M) w := Src.laid Try.underlying104 (by rw [pjobs_length, hm]) hc (pjobs_one M)
  have hlt := hrow.lt
  have hne : ∀ k, (Value.slice A L.length c1).ownBlock = some k → k ≠ g := by
    rintro k hk rfl
    rcases hrow.2 with ⟨e, _⟩ | ⟨g1, cap, cur, e, _, hh, _⟩
    · rw [e] at hk; cases hk
    · rw [e] at hk
      injection hk with hk
      simp only at hk
      rw [hk] at hh
      rw [hh] at hbx
      simp at hbx
  obtain ⟨k, hk⟩ : ∃ k, k = L.length := ⟨_, rfl⟩
  rw [← hk] at hbox hL hrow hlt hne
  have Hbx := Lib.hid hbx
  have Hm := Lib.hid hm
  have Hk := Lib.hid hk
  have Hlt := Lib.hid hlt
  have Hne := Lib.hid hne
  clear hc hk hm hlt hne hbx
  go_enter Try.func60, Try.ntmps60
  go_wp2_with (at_builtin; refine wpList_append_row rfl (.tmp 7) (.tmp 8) _ _ rfl elem_pair rfl rfl hrow hsrc hL hb ?_; intro A' c' w' ho' hg' hat'; have hbox' := (hg'.cell hbox (fun e => Hne.out _ e.symm rfl)); have hfr' : w'.frozen? ⟨g, 0, none⟩ = false := (World.frozen?_of_block (hg'.block g hgl (fun e => Hne.out _ e.symm rfl))).trans hfr)
  go_end0
  have hnb : (Value.slice A' (k + m) c').ownBlock ≠ some g := by
    cases A' with
    | none => simp [Value.ownBlock]
    | some a =>
      rcases hat' a rfl with e | e
      · simp only [Value.ownBlock, ne_eq, Option.some.injEq]; omega
      · intro e'
        simp only [Value.ownBlock] at e'
        exact Hne.out g (by rw [← e, ← e']) rfl
  have hlen : (L ++ M).length = k + m := by rw [List.length_append, ← Hk.out, ← Hm.out]
  refine ⟨⟨_, rfl⟩, ⟨h.le, A', c', ?_, ?_⟩, ?_, fun q hq hf => ?_⟩
  · rw [hlen]
    exact box_set ((hg'.block g hgl (fun e => Hne.out _ e.symm rfl)).trans Hbx.out)
  · rw [hlen, pjobs_append]
    exact ho'.kept (grown_set w' ⟨g, 0, none⟩ _) (.inr hnb)
  · refine ((Below.refl base w).grown hg' hb (fun q hq => (Hlt.out q hq).1)).trans ?_
    exact (Below.refl base w').setCell h.le _
  · have hq2 := hf.2 _ _ _ Hbx.out
    rw [← Hk.out] at hq2
    refine ⟨(Below.heap_setCell w' ⟨g, 0, none⟩ _ q hf.1).trans (hg'.block q hq (fun e => hq2 e.symm)), hf.1, fun A2 n2 c2 he => ?_⟩
    rw [box_set ((hg'.block g hgl (fun e => Hne.out _ e.symm rfl)).trans Hbx.out)] at he
    injection he with he
    injection he with he _ _
    have he := congrArg Array.toList he
    simp only [List.cons.injEq, Value.slice.injEq, and_true] at he
    obtain ⟨rfl, rfl, rfl⟩ := he
    cases A' with
    | none => simp [Value.ownBlock]
    | some a =>
      rcases hat' a rfl with e | e
      · simp only [Value.ownBlock, ne_eq, Option.some.injEq]; omega
      · simp only [Value.ownBlock]
        rw [e]
        exact hq2
end Go.Proofs.Ytkhjpmefekonhaa
