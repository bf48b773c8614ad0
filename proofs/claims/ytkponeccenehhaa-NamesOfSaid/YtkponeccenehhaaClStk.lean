/- tree.level and the stack of trees that clone keeps: pop and push. Conditions: fewer than 2^40 edges; what is popped is there. -/
import Derived.Test.YtkponeccenehhaaClHold
import Derived.Outline
namespace Go.Proofs.Ytkponeccenehhaa.Cl
open Go.RowKit
set_option maxRecDepth 100000

theorem elem_edge : Elem Try.prog 30 37 (.agg #[.string ⟨#[]⟩, .slice none 0 0]) 2 40 := ⟨Try.underlying30, by kernel_rfl, rfl, by omega⟩
theorem src_edges {w : World} {b o n c : Nat} {vs : List Value} (hl : vs.length = n * 2) (hc : ∀ j u, vs[j]? = some u → w.cell? ⟨b, o + j, none⟩ = some u) (h1 : ∀ u ∈ vs, u.oneCell' = true) : Src Try.prog 2 30 (.slice (some ⟨b, o, none⟩) n c) n vs w :=
  Src.ofSlice w Try.underlying30 ⟨b, o, none⟩ n c vs hl (fun j u hu => by rw [Addr.add_lit]; exact hc j u hu) h1
theorem src_none (w : World) (A : Option Addr) (c : Nat) : Src Try.prog 2 30 (.slice A 0 c) 0 [] w := by
  cases A with
  | none => exact Src.ofNil w Try.underlying30 c
  | some a => exact Src.ofSlice w Try.underlying30 a 0 c [] rfl (fun j u hu => by simp at hu) (fun u hu => by cases hu)

/-- The answer's row lies in the new block, and reads as what was handed. -/
theorem level_hp (t : Tr) (A : Option Addr) (n c : Nat) (P : Nat → Prop) (w : World) (h : HoldsP w P A n t) (hP : ∀ b, P b → b < w.heap.size) (hn : n ≤ 1099511627776) :
    Calls Try.prog 45 #[.slice A n c] w fun e w' => ∃ A' c', e = .returned (.slice A' n c') ∧ w.grownBy w' none ∧ n ≤ c' ∧ c' ≤ maxLen ∧ HoldsP w' (fun b => P b ∨ b = w.heap.size) A' n t ∧
      (∀ a, A' = some a → a = ⟨w.heap.size, 0, none⟩ ∧ ∃ cur, w'.heap[w.heap.size]? = some (.cells cur 37 (0, 0))) := by
  obtain ⟨vs, hl, h1, hc, hA⟩ := h.row
  have hsrc : Src Try.prog 2 30 (.slice A n c) n vs w := by
    rcases Nat.eq_zero_or_pos n with g | g
    · subst g
      have : vs = [] := List.eq_nil_of_length_eq_zero (by rw [hl])
      subst this
      exact src_none w A c
    · obtain ⟨b, o, rfl, _⟩ := hA g
      exact src_edges hl (hc b o rfl) h1
  have hn2 : 0 + n ≤ 1099511627776 := by omega
  have H := Lib.hid h
  have HP := Lib.hid hP
  have Hc := Lib.hid hc
  have HA := Lib.hid hA
  have Hl := Lib.hid hl
  clear h hP hc hA hl
  go_enter Try.func45, Try.ntmps45
  go_wp2_with (at_builtin; refine wpList_append_row rfl (.const (.slice none 0 0)) (.tmp 3) _ _ rfl elem_edge rfl rfl (World.ownsRow_nil w w.heap.size _ _) hsrc hn2 (Nat.le_refl _) ?_; intro A2 c2 w2 ho2 hg2 hat2; simp only [Nat.zero_add, List.nil_append] at ho2; rw [Nat.zero_add])
  go_ret
  have hkeep : ∀ b o, P b → w2.cell? ⟨b, o, none⟩ = w.cell? ⟨b, o, none⟩ := fun b o hb => World.cell?_of_block (hg2.block b (HP.out b hb) (fun e => by cases e))
  rcases ho2.2 with ⟨e1, e2⟩ | ⟨g, cap, cur, e1, hg, hh, hcap, hmx, hsz, htk⟩
  · injection e1 with a1 a2 a3
    subst a1; subst a2; subst a3
    have ht := H.out.len
    have hH := H.out
    cases t with
    | nil => exact ⟨none, 0, rfl, hg2, Nat.le_refl _, by simp [maxLen], rfl, fun a ha => by cases ha⟩
    | cons s k r => simp [Tr.len] at ht
  · injection e1 with a1 a2 a3
    subst a1; subst a3
    have hgw : g = w.heap.size := by
      rcases hat2 _ rfl with e | e
      · exact e
      · simp [Value.ownBlock] at e
    subst hgw
    refine ⟨_, c2, rfl, hg2, hcap, hmx, ?_, fun a ha => ⟨by injection ha with ha; exact ha.symm, cur, hh⟩⟩
    have hcp : ∀ j u, vs[j]? = some u → w2.cell? ⟨w.heap.size, 0 + j, none⟩ = some u := by
      intro j u hu
      rw [cell_of_row w2 _ _ cur _ _ hh, Nat.zero_add]
      rw [← htk, List.getElem?_take] at hu
      split at hu
      · simpa using hu
      · cases hu
    rcases Nat.eq_zero_or_pos n with g0 | g0
    · subst g0
      have ht := H.out.len
      cases t with
      | nil => exact rfl
      | cons s k r => simp [Tr.len] at ht
    · obtain ⟨b, o, rfl, hb⟩ := HA.out g0
      refine HoldsP.copy hkeep (fun b hb => .inl hb) H.out (.inr rfl) (fun j hj => ?_)
      have hlt : j < vs.length := by rw [Hl.out]; exact hj
      rw [hcp j _ (List.getElem?_eq_getElem hlt), Hc.out b o rfl j _ (List.getElem?_eq_getElem hlt)]

/-- A slice of edges still to be gone through. -/
structure CJob where
  a1 : Option Addr
  n1 : Nat
  c1 : Nat
def CJob.cells (x : CJob) : List Value := [.slice x.a1 x.n1 x.c1]
def cjobs (L : List CJob) : List Value := L.flatMap CJob.cells
theorem cjobs_length (L : List CJob) : (cjobs L).length = L.length * 1 := by
  induction L with
  | nil => rfl
  | cons x l ih => simp only [cjobs, List.flatMap_cons, List.length_append, List.length_cons] at ih ⊢; rw [ih]; simp [CJob.cells]; omega
theorem cjobs_append (L M : List CJob) : cjobs (L ++ M) = cjobs L ++ cjobs M := by simp [cjobs]

structure CStk (w : World) (base g : Nat) (L : List CJob) : Prop where
  le : base ≤ g
  row : ∃ A c, w.heap[g]? = some (.cells #[.slice A L.length c] 68 (0, 0)) ∧ w.ownsRow base 30 1 (.slice A L.length c) L.length (cjobs L)

theorem CStk.grow {w w' : World} {base g : Nat} {L : List CJob} (h : CStk w base g L) (hk : ∀ k, k < w.heap.size → w'.heap[k]? = w.heap[k]?) : CStk w' base g L := by
  obtain ⟨A, c, hb, hr1, hr⟩ := h.row
  have hs : ∀ (k : Nat) (o : Obj), w.heap[k]? = some o → w'.heap[k]? = some o := fun k o ho => (hk k (Array.getElem?_eq_some_iff.1 ho).1).trans ho
  refine ⟨h.le, A, c, hs _ _ hb, hr1, ?_⟩
  rcases hr with e | ⟨g1, cap, cur, e, hg, hh, rest⟩
  · exact .inl e
  · exact .inr ⟨g1, cap, cur, e, hg, hs _ _ hh, rest⟩
theorem CStk.alloc {w : World} {base g : Nat} {L : List CJob} (h : CStk w base g L) (o : Obj) : CStk (w.alloc o) base g L := h.grow fun k hk => Below.heap_alloc w o k hk
theorem CStk.drewN {w : World} {base g : Nat} {L : List CJob} (h : CStk w base g L) (q : Nat) : CStk (w.drewN q) base g L := h.grow fun _ _ => rfl

/-- Block k is none of the stack's: not its box, not its row. -/
def CFar (w : World) (g k : Nat) : Prop := k ≠ g ∧ ∀ A n c, w.heap[g]? = some (.cells #[.slice A n c] 68 (0, 0)) → (Value.slice A n c).ownBlock ≠ some k
theorem CStk.lt {w : World} {base g : Nat} {L : List CJob} (h : CStk w base g L) : g < w.heap.size := by
  obtain ⟨A, c, hb, _⟩ := h.row
  exact (Array.getElem?_eq_some_iff.1 hb).1
theorem CStk.far {w : World} {base g k : Nat} {L : List CJob} (h : CStk w base g L) (hk : w.heap.size ≤ k) : CFar w g k := by
  have hl := h.lt
  obtain ⟨A, c, hb, hrow⟩ := h.row
  refine ⟨by omega, fun A' n' c' he e => ?_⟩
  rw [hb] at he
  injection he with he
  injection he with he _ _
  have he := congrArg Array.toList he
  simp only [List.cons.injEq, Value.slice.injEq, and_true] at he
  obtain ⟨rfl, rfl, rfl⟩ := he
  have := (hrow.lt k e).2
  omega
theorem CFar.grow {w w' : World} {g k : Nat} (h : CFar w g k) (hg : g < w.heap.size) (hk : ∀ k, k < w.heap.size → w'.heap[k]? = w.heap[k]?) : CFar w' g k :=
  ⟨h.1, fun A n c he => h.2 A n c ((hk g hg).symm.trans he)⟩

set_option maxHeartbeats 1000000 in
theorem cpop_any (base g : Nat) (L : List CJob) (x : CJob) (w : World) (h : CStk w base g (L ++ [x])) (hL : L.length ≤ 1099511627776) :
    Calls Try.prog 46 #[.pointer (some ⟨g, 0, none⟩)] w fun e w' =>
      e = .returned (.slice x.a1 x.n1 x.c1) ∧ CStk w' base g L ∧ w.grownBy w' (some g) := by
  obtain ⟨A, c, hb, hrow⟩ := h.row
  have hrow2 := hrow
  obtain ⟨hr1, hr⟩ := hrow
  rcases hr with ⟨e, e2⟩ | ⟨g1, cap, cur, e, hg, hh, hcap, hmx, hsz, htk⟩
  · simp at e2
  injection e with e1 e2 e3
  subst e1; subst e3
  have hlen : (L ++ [x]).length = L.length + 1 := by simp
  rw [hlen] at hb hcap htk
  have hcell : ∀ j v, (cjobs (L ++ [x]))[j]? = some v → w.cell? ⟨g1, j, none⟩ = some v := by
    intro j v hv
    rw [cell_of_row w g1 j cur _ _ hh]
    rw [← htk, List.getElem?_take] at hv
    split at hv
    · simpa using hv
    · cases hv
  have hc0 : w.cell? ⟨g1, L.length, none⟩ = some (.slice x.a1 x.n1 x.c1) := hcell _ _ (by rw [cjobs_append, List.getElem?_append_right (by rw [cjobs_length, Nat.mul_one]; exact Nat.le_refl _), cjobs_length, Nat.mul_one, Nat.sub_self]; rfl)
  have hbox : w.cell? ⟨g, 0, none⟩ = some (.slice (some ⟨g1, 0, none⟩) (L.length + 1) c) := by rw [cell_of_row w g 0 _ _ _ hb]; rfl
  have hfr : w.frozen? ⟨g, 0, none⟩ = false := by simp [World.frozen?, hb]
  obtain ⟨k, hk⟩ : ∃ k, k = L.length := ⟨_, rfl⟩
  rw [← hk] at hc0 hbox hL hcap
  have hgl : g < w.heap.size := (Array.getElem?_eq_some_iff.1 hb).1
  have hg1l : g1 < w.heap.size := (Array.getElem?_eq_some_iff.1 hh).1
  have hne : g1 ≠ g := by rintro rfl; rw [hh] at hb; simp at hb
  have Hk := Lib.hid hk
  have Hb := Lib.hid hb
  have Hh := Lib.hid hh
  have Hsz := Lib.hid hsz
  have Htk := Lib.hid htk
  clear hcell htk hr1 hrow2 hb hlen hh hsz hk e2
  go_enter Try.func46, Try.ntmps46
  go_wp2_with fail
  refine bodyPost_ret (v := .slice x.a1 x.n1 x.c1) (by simp [results, Try.results46, go_sem]) rfl ⟨rfl, ⟨h.le, some ⟨g1, 0, none⟩, c, ?_, ?_⟩, grown_set _ _ _⟩
  · rw [← Hk.out]
    exact box_set Hb.out
  · rw [← Hk.out]
    refine ⟨by rw [cjobs_length, Hk.out], .inr ⟨g1, c, cur, rfl, hg, heap_far Hh.out hne _, by omega, hmx, Hsz.out, ?_⟩⟩
    have hk := Hk.out
    have e3 : (cjobs L).take (k * 1) = cjobs L := List.take_of_length_le (by rw [cjobs_length, hk]; exact Nat.le_refl _)
    have := congrArg (List.take (k * 1)) Htk.out
    rw [List.take_take, cjobs_append, List.take_append_of_le_length (by rw [cjobs_length, hk]; exact Nat.le_refl _), e3, Nat.min_eq_left (by omega)] at this
    exact this

theorem cjobs_one (L : List CJob) : ∀ u ∈ cjobs L, u.oneCell' = true := by
  intro u hu
  simp only [cjobs, List.mem_flatMap] at hu
  obtain ⟨x, _, hx⟩ := hu
  simp only [CJob.cells, List.mem_cons, List.not_mem_nil, or_false] at hx
  subst hx; rfl

theorem elem_tree : Elem Try.prog 68 30 (.slice none 0 0) 1 24 := ⟨Try.underlying68, by kernel_rfl, rfl, by omega⟩

set_option maxHeartbeats 1000000 in
theorem cpush_any (base g b o m c : Nat) (L M : List CJob) (w : World) (h : CStk w base g L) (hm : m = M.length) (hc : ∀ j u, (cjobs M)[j]? = some u → w.cell? ⟨b, o + j, none⟩ = some u) (hL : L.length + m ≤ 1099511627776) (hb : base ≤ w.heap.size) :
    Calls Try.prog 47 #[.pointer (some ⟨g, 0, none⟩), .slice (some ⟨b, o, none⟩) m c] w fun e w' =>
      (∃ v, e = .returned v) ∧ CStk w' base g (L ++ M) ∧ Below base w w' ∧ ∀ k, k < w.heap.size → CFar w g k → w'.heap[k]? = w.heap[k]? ∧ CFar w' g k := by
  obtain ⟨A, c1, hbx, hrow⟩ := h.row
  have hbox : w.cell? ⟨g, 0, none⟩ = some (.slice A L.length c1) := by rw [cell_of_row w g 0 _ _ _ hbx]; rfl
  have hfr : w.frozen? ⟨g, 0, none⟩ = false := by simp [World.frozen?, hbx]
  have hgl : g < w.heap.size := (Array.getElem?_eq_some_iff.1 hbx).1
  have hsrc : Src Try.prog 1 67 (.slice (some ⟨b, o, none⟩) m c) m (cjobs M) w := Src.laid Try.underlying67 (by rw [cjobs_length, hm]) hc (cjobs_one M)
  have hlt := hrow.lt
  have hne : ∀ k, (Value.slice A L.length c1).ownBlock = some k → k ≠ g := by
    rintro k hk rfl
    rcases hrow.2 with ⟨e, _⟩ | ⟨g1, cap, cur, e, _, hh, _⟩
    · rw [e] at hk; cases hk
    · rw [e] at hk
      injection hk with hk
      simp only at hk
      rw [hk] at hh
      rw [hh] at hbx
      simp at hbx
  obtain ⟨k, hk⟩ : ∃ k, k = L.length := ⟨_, rfl⟩
  rw [← hk] at hbox hL hrow hlt hne
  have Hbx := Lib.hid hbx
  have Hm := Lib.hid hm
  have Hk := Lib.hid hk
  have Hlt := Lib.hid hlt
  have Hne := Lib.hid hne
  clear hc hk hm hlt hne hbx
  go_enter Try.func47, Try.ntmps47
  go_wp2_with (at_builtin; refine wpList_append_row rfl (.tmp 7) (.tmp 8) _ _ rfl elem_tree rfl rfl hrow hsrc hL hb ?_; intro A' c' w' ho' hg' hat'; have hbox' := (hg'.cell hbox (fun e => Hne.out _ e.symm rfl)); have hfr' : w'.frozen? ⟨g, 0, none⟩ = false := (World.frozen?_of_block (hg'.block g hgl (fun e => Hne.out _ e.symm rfl))).trans hfr)
  go_end0
  have hnb : (Value.slice A' (k + m) c').ownBlock ≠ some g := by
    cases A' with
    | none => simp [Value.ownBlock]
    | some a =>
      rcases hat' a rfl with e | e
      · simp only [Value.ownBlock, ne_eq, Option.some.injEq]; omega
      · intro e'
        simp only [Value.ownBlock] at e'
        exact Hne.out g (by rw [← e, ← e']) rfl
  have hlen : (L ++ M).length = k + m := by rw [List.length_append, ← Hk.out, ← Hm.out]
  refine ⟨⟨_, rfl⟩, ⟨h.le, A', c', ?_, ?_⟩, ?_, fun q hq hf => ?_⟩
  · rw [hlen]
    exact box_set ((hg'.block g hgl (fun e => Hne.out _ e.symm rfl)).trans Hbx.out)
  · rw [hlen, cjobs_append]
    exact ho'.kept (grown_set w' ⟨g, 0, none⟩ _) (.inr hnb)
  · refine ((Below.refl base w).grown hg' hb (fun q hq => (Hlt.out q hq).1)).trans ?_
    exact (Below.refl base w').setCell h.le _
  · have hq2 := hf.2 _ _ _ Hbx.out
    rw [← Hk.out] at hq2
    refine ⟨(Below.heap_setCell w' ⟨g, 0, none⟩ _ q hf.1).trans (hg'.block q hq (fun e => hq2 e.symm)), hf.1, fun A2 n2 c2 he => ?_⟩
    rw [box_set ((hg'.block g hgl (fun e => Hne.out _ e.symm rfl)).trans Hbx.out)] at he
    injection he with he
    injection he with he _ _
    have he := congrArg Array.toList he
    simp only [List.cons.injEq, Value.slice.injEq, and_true] at he
    obtain ⟨rfl, rfl, rfl⟩ := he
    cases A' with
    | none => simp [Value.ownBlock]
    | some a =>
      rcases hat' a rfl with e | e
      · simp only [Value.ownBlock, ne_eq, Option.some.injEq]; omega
      · simp only [Value.ownBlock]
        rw [e]
        exact hq2
/-- A block of edges is none of the stack's. -/
theorem CStk.kind {w : World} {base g k : Nat} {L : List CJob} (h : CStk w base g L) {cur : Array Value} (hk : w.heap[k]? = some (.cells cur 37 (0, 0))) : CFar w g k := by
  obtain ⟨A, c, hb, hrow⟩ := h.row
  refine ⟨fun e => ?_, fun A' n' c' he e => ?_⟩
  · subst e
    rw [hk] at hb
    injection hb with hb
    injection hb with _ hb _
    exact absurd hb (by decide)
  · rw [hb] at he
    injection he with he
    injection he with he _ _
    have he := congrArg Array.toList he
    simp only [List.cons.injEq, Value.slice.injEq, and_true] at he
    obtain ⟨rfl, rfl, rfl⟩ := he
    rcases hrow.2 with ⟨e1, _⟩ | ⟨g1, cap, cur1, e1, _, hh, _⟩
    · rw [e1] at e; cases e
    · rw [e1] at e
      simp only [Value.ownBlock, Option.some.injEq] at e
      subst e
      rw [hk] at hh
      injection hh with hh
      injection hh with _ hh _
      exact absurd hh (by decide)
/-- A store into a block that is none of the stack's. -/
theorem CStk.set {w : World} {base g : Nat} {L : List CJob} (h : CStk w base g L) {a : Addr} (hf : CFar w g a.block) (v : Value) : CStk (w.setCell a v) base g L := by
  obtain ⟨A, c, hb, hrow⟩ := h.row
  refine ⟨h.le, A, c, heap_far hb (fun e => hf.1 e.symm) v, hrow.kept (grown_set w a v) (.inr ?_)⟩
  exact hf.2 _ _ _ hb
theorem CStk.grownNone {w w' : World} {base g : Nat} {L : List CJob} (h : CStk w base g L) (hg : w.grownBy w' none) : CStk w' base g L := h.grow fun k hk => hg.block k hk (by simp)
end Go.Proofs.Ytkponeccenehhaa.Cl
