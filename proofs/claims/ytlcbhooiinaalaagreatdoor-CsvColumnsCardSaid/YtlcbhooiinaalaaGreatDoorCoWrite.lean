/- tree.level and the stack of trees that clone keeps: pop and push. Conditions: fewer than 2^40 edges; what is popped is there. · tree.clone: the answer reads as what was handed in; what lay there before lies as it did. Conditions: fewer than 2^39 edges. · tree.clone, walked. Conditions: fewer than 2^39 edges. · tree.Get: what is below a path, anew. Conditions: edges in order at each level, fewer than 2^38 of them. · Sets of names: lists in order, each once; what is combined of two sets. No conditions. · slices.Grow of nil, slices.Concat of rows of strings. Conditions: what is joined is fewer than 2^40 strings. · csv: what a row has in a column; its record. Conditions: trees in order at each level; no level below a name is empty. · csv: two rows of texts behind each other; a row's record. Conditions: as valueAt's; fewer than 100000 columns. · csv.less: a row of one's own without the texts that are among others. No conditions. · tree.Names, told with the row that its answer is; csv.columnsOf. Conditions: fewer than 2^39 names. · csv.each at edges and at rows. Conditions: fewer than 100000 of them. · csv.columnsOf: the names of all levels below a tree's names, in order, each once. Conditions: fewer than 100000 rows, 2^39 names. · csv's file: the file of a tree that fits. Conditions: as the tree's and the file's bounds say (PutOk); MaxLen's cell. -/
import Derived.Test.YtlcbhooiinaalaaGreatDoorClHold
import Derived.Outline
import Derived.Deep.LoopGhost
import Derived.Test.YtlcbhooiinaalaaGreatDoorPthMath
import Derived.Test.YtlcbhooiinaalaaGreatDoorSorted
import Derived.Test.YtlcbhooiinaalaaGreatDoorCoText
import Derived.Test.YtlcbhooiinaalaaGreatDoorDelLay
import Derived.Test.YtlcbhooiinaalaaGreatDoorNames
import Derived.Test.YtlcbhooiinaalaaGreatDoorMwCvCols
import Derived.Test.YtlcbhooiinaalaaGreatDoorMwLiEach
import Derived.Deep.RegionHeld3
import Derived.Deep.RegionWith
import Derived.Deep.CutRange
namespace Go.Proofs.YtlcbhooiinaalaaGreatDoor.Cl
open Go.RowKit
set_option maxRecDepth 100000

theorem elem_edge : Elem Tryz.prog 30 55 (.agg #[.string ⟨#[]⟩, .slice none 0 0]) 2 40 := ⟨Tryz.underlying30, by kernel_rfl, rfl, by omega⟩
theorem src_edges {w : World} {b o n c : Nat} {vs : List Value} (hl : vs.length = n * 2) (hc : ∀ j u, vs[j]? = some u → w.cell? ⟨b, o + j, none⟩ = some u) (h1 : ∀ u ∈ vs, u.oneCell' = true) : Src Tryz.prog 2 30 (.slice (some ⟨b, o, none⟩) n c) n vs w :=
  Src.ofSlice w Tryz.underlying30 ⟨b, o, none⟩ n c vs hl (fun j u hu => by rw [Addr.add_lit]; exact hc j u hu) h1
theorem src_none (w : World) (A : Option Addr) (c : Nat) : Src Tryz.prog 2 30 (.slice A 0 c) 0 [] w := by
  cases A with
  | none => exact Src.ofNil w Tryz.underlying30 c
  | some a => exact Src.ofSlice w Tryz.underlying30 a 0 c [] rfl (fun j u hu => by simp at hu) (fun u hu => by cases hu)

/-- The answer's row lies in the new block, and reads as what was handed. -/
theorem level_hp (t : Tr) (A : Option Addr) (n c : Nat) (P : Nat → Prop) (w : World) (h : HoldsP w P A n t) (hP : ∀ b, P b → b < w.heap.size) (hn : n ≤ 1099511627776) :
    Calls Tryz.prog 130 #[.slice A n c] w fun e w' => ∃ A' c', e = .returned (.slice A' n c') ∧ w.grownBy w' none ∧ n ≤ c' ∧ c' ≤ maxLen ∧ HoldsP w' (fun b => P b ∨ b = w.heap.size) A' n t ∧
      (∀ a, A' = some a → a = ⟨w.heap.size, 0, none⟩ ∧ ∃ cur, w'.heap[w.heap.size]? = some (.cells cur 55 (0, 0))) := by
  obtain ⟨vs, hl, h1, hc, hA⟩ := h.row
  have hsrc : Src Tryz.prog 2 30 (.slice A n c) n vs w := by
    rcases Nat.eq_zero_or_pos n with g | g
    · subst g
      have : vs = [] := List.eq_nil_of_length_eq_zero (by rw [hl])
      subst this
      exact src_none w A c
    · obtain ⟨b, o, rfl, _⟩ := hA g
      exact src_edges hl (hc b o rfl) h1
  have hn2 : 0 + n ≤ 1099511627776 := by omega
  have H := Lib.hid h
  have HP := Lib.hid hP
  have Hc := Lib.hid hc
  have HA := Lib.hid hA
  have Hl := Lib.hid hl
  clear h hP hc hA hl
  go_enter Tryz.func130, Tryz.ntmps130
  go_wp2_with (at_builtin; refine wpList_append_row rfl (.const (.slice none 0 0)) (.tmp 3) _ _ rfl elem_edge rfl rfl (World.ownsRow_nil w w.heap.size _ _) hsrc hn2 (Nat.le_refl _) ?_; intro A2 c2 w2 ho2 hg2 hat2; simp only [Nat.zero_add, List.nil_append] at ho2; rw [Nat.zero_add])
  go_ret
  have hkeep : ∀ b o, P b → w2.cell? ⟨b, o, none⟩ = w.cell? ⟨b, o, none⟩ := fun b o hb => World.cell?_of_block (hg2.block b (HP.out b hb) (fun e => by cases e))
  rcases ho2.2 with ⟨e1, e2⟩ | ⟨g, cap, cur, e1, hg, hh, hcap, hmx, hsz, htk⟩
  · injection e1 with a1 a2 a3
    subst a1; subst a2; subst a3
    have ht := H.out.len
    have hH := H.out
    cases t with
    | nil => exact ⟨none, 0, rfl, hg2, Nat.le_refl _, by simp [maxLen], rfl, fun a ha => by cases ha⟩
    | cons s k r => simp [Tr.len] at ht
  · injection e1 with a1 a2 a3
    subst a1; subst a3
    have hgw : g = w.heap.size := by
      rcases hat2 _ rfl with e | e
      · exact e
      · simp [Value.ownBlock] at e
    subst hgw
    refine ⟨_, c2, rfl, hg2, hcap, hmx, ?_, fun a ha => ⟨by injection ha with ha; exact ha.symm, cur, hh⟩⟩
    have hcp : ∀ j u, vs[j]? = some u → w2.cell? ⟨w.heap.size, 0 + j, none⟩ = some u := by
      intro j u hu
      rw [cell_of_row w2 _ _ cur _ _ hh, Nat.zero_add]
      rw [← htk, List.getElem?_take] at hu
      split at hu
      · simpa using hu
      · cases hu
    rcases Nat.eq_zero_or_pos n with g0 | g0
    · subst g0
      have ht := H.out.len
      cases t with
      | nil => exact rfl
      | cons s k r => simp [Tr.len] at ht
    · obtain ⟨b, o, rfl, hb⟩ := HA.out g0
      refine HoldsP.copy hkeep (fun b hb => .inl hb) H.out (.inr rfl) (fun j hj => ?_)
      have hlt : j < vs.length := by rw [Hl.out]; exact hj
      rw [hcp j _ (List.getElem?_eq_getElem hlt), Hc.out b o rfl j _ (List.getElem?_eq_getElem hlt)]

/-- A slice of edges still to be gone through. -/
structure CJob where
  a1 : Option Addr
  n1 : Nat
  c1 : Nat
def CJob.cells (x : CJob) : List Value := [.slice x.a1 x.n1 x.c1]
def cjobs (L : List CJob) : List Value := L.flatMap CJob.cells
theorem cjobs_length (L : List CJob) : (cjobs L).length = L.length * 1 := by
  induction L with
  | nil => rfl
  | cons x l ih => simp only [cjobs, List.flatMap_cons, List.length_append, List.length_cons] at ih ⊢; rw [ih]; simp [CJob.cells]; omega
theorem cjobs_append (L M : List CJob) : cjobs (L ++ M) = cjobs L ++ cjobs M := by simp [cjobs]

structure CStk (w : World) (base g : Nat) (L : List CJob) : Prop where
  le : base ≤ g
  row : ∃ A c, w.heap[g]? = some (.cells #[.slice A L.length c] 182 (0, 0)) ∧ w.ownsRow base 30 1 (.slice A L.length c) L.length (cjobs L)

theorem CStk.grow {w w' : World} {base g : Nat} {L : List CJob} (h : CStk w base g L) (hk : ∀ k, k < w.heap.size → w'.heap[k]? = w.heap[k]?) : CStk w' base g L := by
  obtain ⟨A, c, hb, hr1, hr⟩ := h.row
  have hs : ∀ (k : Nat) (o : Obj), w.heap[k]? = some o → w'.heap[k]? = some o := fun k o ho => (hk k (Array.getElem?_eq_some_iff.1 ho).1).trans ho
  refine ⟨h.le, A, c, hs _ _ hb, hr1, ?_⟩
  rcases hr with e | ⟨g1, cap, cur, e, hg, hh, rest⟩
  · exact .inl e
  · exact .inr ⟨g1, cap, cur, e, hg, hs _ _ hh, rest⟩
theorem CStk.alloc {w : World} {base g : Nat} {L : List CJob} (h : CStk w base g L) (o : Obj) : CStk (w.alloc o) base g L := h.grow fun k hk => Below.heap_alloc w o k hk
theorem CStk.drewN {w : World} {base g : Nat} {L : List CJob} (h : CStk w base g L) (q : Nat) : CStk (w.drewN q) base g L := h.grow fun _ _ => rfl

/-- Block k is none of the stack's: not its box, not its row. -/
def CFar (w : World) (g k : Nat) : Prop := k ≠ g ∧ ∀ A n c, w.heap[g]? = some (.cells #[.slice A n c] 182 (0, 0)) → (Value.slice A n c).ownBlock ≠ some k
theorem CStk.lt {w : World} {base g : Nat} {L : List CJob} (h : CStk w base g L) : g < w.heap.size := by
  obtain ⟨A, c, hb, _⟩ := h.row
  exact (Array.getElem?_eq_some_iff.1 hb).1
theorem CStk.far {w : World} {base g k : Nat} {L : List CJob} (h : CStk w base g L) (hk : w.heap.size ≤ k) : CFar w g k := by
  have hl := h.lt
  obtain ⟨A, c, hb, hrow⟩ := h.row
  refine ⟨by omega, fun A' n' c' he e => ?_⟩
  rw [hb] at he
  injection he with he
  injection he with he _ _
  have he := congrArg Array.toList he
  simp only [List.cons.injEq, Value.slice.injEq, and_true] at he
  obtain ⟨rfl, rfl, rfl⟩ := he
  have := (hrow.lt k e).2
  omega
theorem CFar.grow {w w' : World} {g k : Nat} (h : CFar w g k) (hg : g < w.heap.size) (hk : ∀ k, k < w.heap.size → w'.heap[k]? = w.heap[k]?) : CFar w' g k :=
  ⟨h.1, fun A n c he => h.2 A n c ((hk g hg).symm.trans he)⟩

set_option maxHeartbeats 1000000 in
theorem cpop_any (base g : Nat) (L : List CJob) (x : CJob) (w : World) (h : CStk w base g (L ++ [x])) (hL : L.length ≤ 1099511627776) :
    Calls Tryz.prog 131 #[.pointer (some ⟨g, 0, none⟩)] w fun e w' =>
      e = .returned (.slice x.a1 x.n1 x.c1) ∧ CStk w' base g L ∧ w.grownBy w' (some g) := by
  obtain ⟨A, c, hb, hrow⟩ := h.row
  have hrow2 := hrow
  obtain ⟨hr1, hr⟩ := hrow
  rcases hr with ⟨e, e2⟩ | ⟨g1, cap, cur, e, hg, hh, hcap, hmx, hsz, htk⟩
  · simp at e2
  injection e with e1 e2 e3
  subst e1; subst e3
  have hlen : (L ++ [x]).length = L.length + 1 := by simp
  rw [hlen] at hb hcap htk
  have hcell : ∀ j v, (cjobs (L ++ [x]))[j]? = some v → w.cell? ⟨g1, j, none⟩ = some v := by
    intro j v hv
    rw [cell_of_row w g1 j cur _ _ hh]
    rw [← htk, List.getElem?_take] at hv
    split at hv
    · simpa using hv
    · cases hv
  have hc0 : w.cell? ⟨g1, L.length, none⟩ = some (.slice x.a1 x.n1 x.c1) := hcell _ _ (by rw [cjobs_append, List.getElem?_append_right (by rw [cjobs_length, Nat.mul_one]; exact Nat.le_refl _), cjobs_length, Nat.mul_one, Nat.sub_self]; rfl)
  have hbox : w.cell? ⟨g, 0, none⟩ = some (.slice (some ⟨g1, 0, none⟩) (L.length + 1) c) := by rw [cell_of_row w g 0 _ _ _ hb]; rfl
  have hfr : w.frozen? ⟨g, 0, none⟩ = false := by simp [World.frozen?, hb]
  obtain ⟨k, hk⟩ : ∃ k, k = L.length := ⟨_, rfl⟩
  rw [← hk] at hc0 hbox hL hcap
  have hgl : g < w.heap.size := (Array.getElem?_eq_some_iff.1 hb).1
  have hg1l : g1 < w.heap.size := (Array.getElem?_eq_some_iff.1 hh).1
  have hne : g1 ≠ g := by rintro rfl; rw [hh] at hb; simp at hb
  have Hk := Lib.hid hk
  have Hb := Lib.hid hb
  have Hh := Lib.hid hh
  have Hsz := Lib.hid hsz
  have Htk := Lib.hid htk
  clear hcell htk hr1 hrow2 hb hlen hh hsz hk e2
  go_enter Tryz.func131, Tryz.ntmps131
  go_wp2_with fail
  refine bodyPost_ret (v := .slice x.a1 x.n1 x.c1) (by simp [results, Tryz.results131, go_sem]) rfl ⟨rfl, ⟨h.le, some ⟨g1, 0, none⟩, c, ?_, ?_⟩, grown_set _ _ _⟩
  · rw [← Hk.out]
    exact box_set Hb.out
  · rw [← Hk.out]
    refine ⟨by rw [cjobs_length, Hk.out], .inr ⟨g1, c, cur, rfl, hg, heap_far Hh.out hne _, by omega, hmx, Hsz.out, ?_⟩⟩
    have hk := Hk.out
    have e3 : (cjobs L).take (k * 1) = cjobs L := List.take_of_length_le (by rw [cjobs_length, hk]; exact Nat.le_refl _)
    have := congrArg (List.take (k * 1)) Htk.out
    rw [List.take_take, cjobs_append, List.take_append_of_le_length (by rw [cjobs_length, hk]; exact Nat.le_refl _), e3, Nat.min_eq_left (by omega)] at this
    exact this

theorem cjobs_one (L : List CJob) : ∀ u ∈ cjobs L, u.oneCell' = true := by
  intro u hu
  simp only [cjobs, List.mem_flatMap] at hu
  obtain ⟨x, _, hx⟩ := hu
  simp only [CJob.cells, List.mem_cons, List.not_mem_nil, or_false] at hx
  subst hx; rfl

theorem elem_tree : Elem Tryz.prog 182 30 (.slice none 0 0) 1 24 := ⟨Tryz.underlying182, by kernel_rfl, rfl, by omega⟩

set_option maxHeartbeats 1000000 in
theorem cpush_any (base g b o m c : Nat) (L M : List CJob) (w : World) (h : CStk w base g L) (hm : m = M.length) (hc : ∀ j u, (cjobs M)[j]? = some u → w.cell? ⟨b, o + j, none⟩ = some u) (hL : L.length + m ≤ 1099511627776) (hb : base ≤ w.heap.size) :
    Calls Tryz.prog 132 #[.pointer (some ⟨g, 0, none⟩), .slice (some ⟨b, o, none⟩) m c] w fun e w' =>
      (∃ v, e = .returned v) ∧ CStk w' base g (L ++ M) ∧ Below base w w' ∧ ∀ k, k < w.heap.size → CFar w g k → w'.heap[k]? = w.heap[k]? ∧ CFar w' g k := by
  obtain ⟨A, c1, hbx, hrow⟩ := h.row
  have hbox : w.cell? ⟨g, 0, none⟩ = some (.slice A L.length c1) := by rw [cell_of_row w g 0 _ _ _ hbx]; rfl
  have hfr : w.frozen? ⟨g, 0, none⟩ = false := by simp [World.frozen?, hbx]
  have hgl : g < w.heap.size := (Array.getElem?_eq_some_iff.1 hbx).1
  have hsrc : Src Tryz.prog 1 42 (.slice (some ⟨b, o, none⟩) m c) m (cjobs M) w := Src.laid Tryz.underlying42 (by rw [cjobs_length, hm]) hc (cjobs_one M)
  have hlt := hrow.lt
  have hne : ∀ k, (Value.slice A L.length c1).ownBlock = some k → k ≠ g := by
    rintro k hk rfl
    rcases hrow.2 with ⟨e, _⟩ | ⟨g1, cap, cur, e, _, hh, _⟩
    · rw [e] at hk; cases hk
    · rw [e] at hk
      injection hk with hk
      simp only at hk
      rw [hk] at hh
      rw [hh] at hbx
      simp at hbx
  obtain ⟨k, hk⟩ : ∃ k, k = L.length := ⟨_, rfl⟩
  rw [← hk] at hbox hL hrow hlt hne
  have Hbx := Lib.hid hbx
  have Hm := Lib.hid hm
  have Hk := Lib.hid hk
  have Hlt := Lib.hid hlt
  have Hne := Lib.hid hne
  clear hc hk hm hlt hne hbx
  go_enter Tryz.func132, Tryz.ntmps132
  go_wp2_with (at_builtin; refine wpList_append_row rfl (.tmp 7) (.tmp 8) _ _ rfl elem_tree rfl rfl hrow hsrc hL hb ?_; intro A' c' w' ho' hg' hat'; have hbox' := (hg'.cell hbox (fun e => Hne.out _ e.symm rfl)); have hfr' : w'.frozen? ⟨g, 0, none⟩ = false := (World.frozen?_of_block (hg'.block g hgl (fun e => Hne.out _ e.symm rfl))).trans hfr)
  go_end0
  have hnb : (Value.slice A' (k + m) c').ownBlock ≠ some g := by
    cases A' with
    | none => simp [Value.ownBlock]
    | some a =>
      rcases hat' a rfl with e | e
      · simp only [Value.ownBlock, ne_eq, Option.some.injEq]; omega
      · intro e'
        simp only [Value.ownBlock] at e'
        exact Hne.out g (by rw [← e, ← e']) rfl
  have hlen : (L ++ M).length = k + m := by rw [List.length_append, ← Hk.out, ← Hm.out]
  refine ⟨⟨_, rfl⟩, ⟨h.le, A', c', ?_, ?_⟩, ?_, fun q hq hf => ?_⟩
  · rw [hlen]
    exact box_set ((hg'.block g hgl (fun e => Hne.out _ e.symm rfl)).trans Hbx.out)
  · rw [hlen, cjobs_append]
    exact ho'.kept (grown_set w' ⟨g, 0, none⟩ _) (.inr hnb)
  · refine ((Below.refl base w).grown hg' hb (fun q hq => (Hlt.out q hq).1)).trans ?_
    exact (Below.refl base w').setCell h.le _
  · have hq2 := hf.2 _ _ _ Hbx.out
    rw [← Hk.out] at hq2
    refine ⟨(Below.heap_setCell w' ⟨g, 0, none⟩ _ q hf.1).trans (hg'.block q hq (fun e => hq2 e.symm)), hf.1, fun A2 n2 c2 he => ?_⟩
    rw [box_set ((hg'.block g hgl (fun e => Hne.out _ e.symm rfl)).trans Hbx.out)] at he
    injection he with he
    injection he with he _ _
    have he := congrArg Array.toList he
    simp only [List.cons.injEq, Value.slice.injEq, and_true] at he
    obtain ⟨rfl, rfl, rfl⟩ := he
    cases A' with
    | none => simp [Value.ownBlock]
    | some a =>
      rcases hat' a rfl with e | e
      · simp only [Value.ownBlock, ne_eq, Option.some.injEq]; omega
      · simp only [Value.ownBlock]
        rw [e]
        exact hq2
/-- A block of edges is none of the stack's. -/
theorem CStk.kind {w : World} {base g k : Nat} {L : List CJob} (h : CStk w base g L) {cur : Array Value} (hk : w.heap[k]? = some (.cells cur 55 (0, 0))) : CFar w g k := by
  obtain ⟨A, c, hb, hrow⟩ := h.row
  refine ⟨fun e => ?_, fun A' n' c' he e => ?_⟩
  · subst e
    rw [hk] at hb
    injection hb with hb
    injection hb with _ hb _
    exact absurd hb (by decide)
  · rw [hb] at he
    injection he with he
    injection he with he _ _
    have he := congrArg Array.toList he
    simp only [List.cons.injEq, Value.slice.injEq, and_true] at he
    obtain ⟨rfl, rfl, rfl⟩ := he
    rcases hrow.2 with ⟨e1, _⟩ | ⟨g1, cap, cur1, e1, _, hh, _⟩
    · rw [e1] at e; cases e
    · rw [e1] at e
      simp only [Value.ownBlock, Option.some.injEq] at e
      subst e
      rw [hk] at hh
      injection hh with hh
      injection hh with _ hh _
      exact absurd hh (by decide)
/-- A store into a block that is none of the stack's. -/
theorem CStk.set {w : World} {base g : Nat} {L : List CJob} (h : CStk w base g L) {a : Addr} (hf : CFar w g a.block) (v : Value) : CStk (w.setCell a v) base g L := by
  obtain ⟨A, c, hb, hrow⟩ := h.row
  refine ⟨h.le, A, c, heap_far hb (fun e => hf.1 e.symm) v, hrow.kept (grown_set w a v) (.inr ?_)⟩
  exact hf.2 _ _ _ hb
theorem CStk.grownNone {w w' : World} {base g : Nat} {L : List CJob} (h : CStk w base g L) (hg : w.grownBy w' none) : CStk w' base g L := h.grow fun k hk => hg.block k hk (by simp)
end Go.Proofs.YtlcbhooiinaalaaGreatDoor.Cl
namespace Go.Proofs.YtlcbhooiinaalaaGreatDoor.Cl
open Go.RowKit
set_option maxRecDepth 100000

/-- Where trees may lie that clone goes through: ahead of its own memory, or in rows of edges of its own. -/
def Pw (w : World) (base : Nat) (b : Nat) : Prop := b < base ∨ (base ≤ b ∧ ∃ cur, w.heap[b]? = some (.cells cur 55 (0, 0)))
theorem Pw.keep {w w' : World} {base b : Nat} (hk : Pw w base b → w'.heap[b]? = w.heap[b]?) (h : Pw w base b) : Pw w' base b := by
  have e := hk h
  rcases h with h | ⟨h, cur, hc⟩
  · exact .inl h
  · exact .inr ⟨h, cur, e.trans hc⟩
theorem Pw.lt {w : World} {base b : Nat} (hb : base ≤ w.heap.size) (h : Pw w base b) : b < w.heap.size := by
  rcases h with h | ⟨_, cur, hc⟩
  · omega
  · exact (Array.getElem?_eq_some_iff.1 hc).1
theorem HoldsP.step {w w' : World} {base : Nat} (hk : ∀ b, Pw w base b → w'.heap[b]? = w.heap[b]?) {A : Option Addr} {n : Nat} {t : Tr} (h : HoldsP w (Pw w base) A n t) : HoldsP w' (Pw w' base) A n t :=
  (h.keep fun b _ hb => World.cell?_of_block (hk b hb)).more fun b hb => hb.keep (hk b)

def Row (w : World) (base : Nat) (A : Option Addr) : Prop := ∀ a, A = some a → ∃ d, a = ⟨d, 0, none⟩ ∧ base ≤ d ∧ ∃ cur, w.heap[d]? = some (.cells cur 55 (0, 0))
theorem Row.step {w w' : World} {base : Nat} (hk : ∀ b, Pw w base b → w'.heap[b]? = w.heap[b]?) {A : Option Addr} (h : Row w base A) : Row w' base A := fun a ha => by
  obtain ⟨d, e, hd, cur, hc⟩ := h a ha
  exact ⟨d, e, hd, cur, (hk d (.inr ⟨hd, cur, hc⟩)).trans hc⟩
structure JobOK (w : World) (base : Nat) (p : CJob × Tr) : Prop where
  holds : HoldsP w (Pw w base) p.1.a1 p.1.n1 p.2
  row : Row w base p.1.a1
theorem JobOK.step {w w' : World} {base : Nat} (hk : ∀ b, Pw w base b → w'.heap[b]? = w.heap[b]?) {p : CJob × Tr} (h : JobOK w base p) : JobOK w' base p := ⟨h.holds.step hk, h.row.step hk⟩

/-- What level's contract leaves. -/
theorem level_ok {w w' : World} {base n c' : Nat} {A' : Option Addr} {t : Tr} (hb : base ≤ w.heap.size) (hg : w.grownBy w' none) (h : HoldsP w' (fun b => Pw w base b ∨ b = w.heap.size) A' n t)
    (ha : ∀ a, A' = some a → a = ⟨w.heap.size, 0, none⟩ ∧ ∃ cur, w'.heap[w.heap.size]? = some (.cells cur 55 (0, 0))) : JobOK w' base (⟨A', n, c'⟩, t) := by
  have hk : ∀ b, Pw w base b → Pw w' base b := fun b h => h.keep fun h => hg.block b (h.lt hb) (fun e => by cases e)
  refine ⟨?_, fun a e => ?_⟩
  · cases t with
    | nil => exact h
    | cons s k r =>
      cases A' with
      | none => obtain ⟨b, o, e, _⟩ := h; cases e
      | some a =>
        obtain ⟨_, cur, hc⟩ := ha a rfl
        exact h.more fun b h => h.elim (hk b) (fun e => by rw [e]; exact .inr ⟨hb, cur, hc⟩)
  · obtain ⟨e1, cur, hc⟩ := ha a e
    exact ⟨_, e1, hb, cur, hc⟩

/-- Behind the store of a slice that reads the same. -/
theorem Pw.set {w : World} {base p q : Nat} {cur : Array Value} {v : Value} (hh : w.heap[p]? = some (.cells cur 55 (0, 0))) {b : Nat} (h : Pw w base b) : Pw (w.setCell ⟨p, q, none⟩ v) base b := by
  rcases h with h | ⟨h, c2, hc⟩
  · exact .inl h
  · by_cases e : b = p
    · subst e
      exact .inr ⟨h, _, heap_setCell_same w b q cur _ _ hh⟩
    · exact .inr ⟨h, c2, (Below.heap_setCell w _ _ b e).trans hc⟩
theorem JobOK.set {w : World} {base p q n1 c1 n2 c2 : Nat} {X Y : Option Addr} {u : Tr} {cur : Array Value} (hh : w.heap[p]? = some (.cells cur 55 (0, 0))) (hq : w.cell? ⟨p, q, none⟩ = some (.slice X n1 c1)) (h1 : HoldsP w (Pw w base) X n1 u) (h2 : HoldsP w (Pw w base) Y n2 u) (hn : n2 ≤ c2) (hm : c2 ≤ maxLen)
    {A : Option Addr} {n : Nat} {t : Tr} (h : HoldsP w (Pw w base) A n t) : HoldsP (w.setCell ⟨p, q, none⟩ (.slice Y n2 c2)) (Pw (w.setCell ⟨p, q, none⟩ (.slice Y n2 c2)) base) A n t :=
  (HoldsP.repl hh hq h1 h2 hn hm h1 h).more fun _ hb => hb.set hh
theorem Row.set {w : World} {base p q : Nat} {cur : Array Value} {v : Value} (hh : w.heap[p]? = some (.cells cur 55 (0, 0))) {A : Option Addr} (h : Row w base A) : Row (w.setCell ⟨p, q, none⟩ v) base A := fun a ha => by
  obtain ⟨d, e, hd, c2, hc⟩ := h a ha
  rcases Pw.set (base := base) (q := q) (v := v) hh (.inr ⟨hd, c2, hc⟩) with h | ⟨_, h⟩
  · omega
  · exact ⟨d, e, hd, h⟩

structure ClSt (w : World) (base g : Nat) (A : Option Addr) (n : Nat) (t : Tr) (X : List (CJob × Tr)) : Prop where
  stk : CStk w base g (X.map Prod.fst)
  whole : HoldsP w (Pw w base) A n t
  jobs : ∀ p ∈ X, JobOK w base p
  size : base ≤ w.heap.size

section
variable {w w' : World} {base g n : Nat} {A : Option Addr} {t : Tr} {X : List (CJob × Tr)}
theorem ClSt.grow (h : ClSt w base g A n t X) (hg : w.grownBy w' none) : ClSt w' base g A n t X :=
  have hk : ∀ b, Pw w base b → w'.heap[b]? = w.heap[b]? := fun b hb => hg.block b (hb.lt h.size) (fun e => by cases e)
  ⟨h.stk.grownNone hg, h.whole.step hk, fun p hp => (h.jobs p hp).step hk, Nat.le_trans h.size hg.size⟩
theorem ClSt.alloc (h : ClSt w base g A n t X) (o : Obj) : ClSt (w.alloc o) base g A n t X :=
  have hk : ∀ b, Pw w base b → (w.alloc o).heap[b]? = w.heap[b]? := fun b hb => Below.heap_alloc w o b (hb.lt h.size)
  ⟨h.stk.alloc o, h.whole.step hk, fun p hp => (h.jobs p hp).step hk, by simp; exact Nat.le_succ_of_le h.size⟩
/-- Popped. -/
theorem ClSt.pop {x : CJob × Tr} (h : ClSt w base g A n t (X ++ [x])) (hs : CStk w' base g (X.map Prod.fst)) (hg : w.grownBy w' (some g)) : ClSt w' base g A n t X ∧ JobOK w' base x := by
  have hk : ∀ b, Pw w base b → w'.heap[b]? = w.heap[b]? := fun b hb => hg.block b (hb.lt h.size) (fun e => by
    injection e with e
    subst e
    rcases hb with hb | ⟨_, cur, hc⟩
    · have := h.stk.le; omega
    · exact (h.stk.kind hc).1 rfl)
  exact ⟨⟨hs, h.whole.step hk, fun p hp => (h.jobs p (List.mem_append.2 (.inl hp))).step hk, Nat.le_trans h.size hg.size⟩, (h.jobs x (by simp)).step hk⟩
/-- Pushed. -/
theorem ClSt.push {x y : CJob × Tr} (h : ClSt w base g A n t X) (hx : JobOK w base x) (hy : JobOK w base y) (hs : CStk w' base g (X.map Prod.fst ++ [x.1])) (hb : Below base w w') (hg : ∀ k, k < w.heap.size → CFar w g k → w'.heap[k]? = w.heap[k]?) : ClSt w' base g A n t (X ++ [x]) ∧ JobOK w' base y := by
  have hk : ∀ b, Pw w base b → w'.heap[b]? = w.heap[b]? := fun b h1 => by
    rcases h1 with h1 | ⟨h0, cur, hc⟩
    · exact hb.block b h1
    · exact hg b (Array.getElem?_eq_some_iff.1 hc).1 (h.stk.kind hc)
  refine ⟨⟨by simpa using hs, h.whole.step hk, fun p hp => ?_, Nat.le_trans h.size hb.size⟩, hy.step hk⟩
  rcases List.mem_append.1 hp with hp | hp
  · exact (h.jobs p hp).step hk
  · simp only [List.mem_cons, List.not_mem_nil, or_false] at hp
    subst hp
    exact hx.step hk
/-- Stored. -/
theorem ClSt.set {p q n1 c1 n2 c2 : Nat} {Z Y : Option Addr} {u : Tr} {cur : Array Value} (h : ClSt w base g A n t X) (hh : w.heap[p]? = some (.cells cur 55 (0, 0))) (hq : w.cell? ⟨p, q, none⟩ = some (.slice Z n1 c1)) (h1 : HoldsP w (Pw w base) Z n1 u) (h2 : HoldsP w (Pw w base) Y n2 u) (hn : n2 ≤ c2) (hm : c2 ≤ maxLen) :
    ClSt (w.setCell ⟨p, q, none⟩ (.slice Y n2 c2)) base g A n t X :=
  ⟨h.stk.set (h.stk.kind hh) _, JobOK.set hh hq h1 h2 hn hm h.whole, fun x hx => ⟨JobOK.set hh hq h1 h2 hn hm (h.jobs x hx).holds, (h.jobs x hx).row.set hh⟩, by simp [World.setCell]; exact h.size⟩
end
end Go.Proofs.YtlcbhooiinaalaaGreatDoor.Cl
namespace Go.Proofs.YtlcbhooiinaalaaGreatDoor.Cl
open Go.RowKit
set_option maxRecDepth 100000

set_option maxHeartbeats 4000000 in
theorem clone_any (t : Tr) (A : Option Addr) (n c : Nat) (w : World) (h : Holds w w.heap.size A n t) (hsz : t.size ≤ 549755813888) :
    Calls Tryz.prog 99 #[.slice A n c] w fun e w' => ∃ A' c', e = .returned (.slice A' n c') ∧ n ≤ c' ∧ c' ≤ maxLen ∧ Holds w' w'.heap.size A' n t ∧ Below w.heap.size w w' := by
  have hnl : n ≤ 549755813888 := by have := h.len; have := t.len_size; omega
  have hP : HoldsP w (Pw w w.heap.size) A n t := (HoldsP.of h).more fun b hb => .inl hb
  have HL := Lib.hid (level_hp t A n c (Pw w w.heap.size) w hP (fun b hb => hb.lt (Nat.le_refl _)) (by omega))
  clear h
  go_enter Tryz.func99, Tryz.ntmps99
  go_wp2_with fail
  (with_reducible refine HL.out.mono ?_)
  rintro e w1 ⟨A1, c1, rfl, hg1, hn1, hm1, hh1, ha1⟩
  have J0 : JobOK w1 w.heap.size (⟨A1, n, c1⟩, t) := level_ok (Nat.le_refl _) hg1 hh1 ha1
  have HJ := Lib.hid J0
  have HG := Lib.hid hg1
  clear hh1 ha1 J0 hg1
  go_wp2_with fail
  obtain ⟨b0, hb0⟩ : ∃ b0, b0 = w.heap.size := ⟨_, rfl⟩
  obtain ⟨g, hg⟩ : ∃ g, g = w1.heap.size + 1 := ⟨_, rfl⟩
  have Hb0 := Lib.hid hb0
  have Hg := Lib.hid hg
  rw [← hb0] at HJ
  rw [← hg]
  go_loopg [] (t.size + 1) (fun k wr => ∃ X : List (CJob × Tr), Hid (k = load (X.map Prod.snd)) ∧ ClSt wr b0 g A1 n t X ∧ k ≤ t.size + 1 ∧ Below b0 w wr)
  case atStart =>
    have hsz1 := HG.out.size
    have St : ClSt ((w1.alloc (Obj.cells #[Value.slice A1 n c1] 30)).alloc (Obj.cells #[Value.slice (some ⟨w1.heap.size, 0, none⟩) 1 1] 182)) b0 g A1 n t [(⟨A1, n, c1⟩, t)] := by
      have hk : ∀ b, Pw w1 b0 b → ((w1.alloc (Obj.cells #[Value.slice A1 n c1] 30)).alloc (Obj.cells #[Value.slice (some ⟨w1.heap.size, 0, none⟩) 1 1] 182)).heap[b]? = w1.heap[b]? := fun b hb => by
        have hlt := hb.lt (by omega)
        rw [Below.heap_alloc _ _ _ (by simp; omega), Below.heap_alloc _ _ _ hlt]
      refine ⟨⟨by omega, some ⟨w1.heap.size, 0, none⟩, 1, ?_, ?_⟩, HJ.out.holds.step hk, fun p hp => ?_, by simp; omega⟩
      · rw [hg]
        exact (by rw [show w1.heap.size + 1 = (w1.alloc (Obj.cells #[Value.slice A1 n c1] 30)).heap.size by simp]; exact heap_alloc_new _ _)
      · exact (World.ownsRow_lit (base := b0) (e := 30) (size := 1) w1 #[Value.slice A1 n c1] 1 (by omega) (by simp [maxLen]) rfl).alloc _
      · simp only [List.mem_cons, List.not_mem_nil, or_false] at hp
        subst hp
        exact HJ.out.step hk
    refine ⟨[(⟨A1, n, c1⟩, t)], Lib.hid (by simp [load]), St, Nat.le_refl _, ?_⟩
    exact (((Below.refl b0 w).grown HG.out (by omega) (fun k hk => by cases hk)).alloc (by omega) _).alloc (by simp; omega) _
  case round =>
    clear hg hb0
    obtain ⟨X, Hk, hst, hk, hbw⟩ := hrel
    rcases List.eq_nil_or_concat X with rfl | ⟨X, x, rfl⟩
    · obtain ⟨A2, c2, hbx, _⟩ := hst.stk.row
      have hbox : wr.cell? ⟨g, 0, none⟩ = some (.slice A2 0 c2) := by rw [cell_of_row wr g 0 _ _ _ hbx]; rfl
      clear hbx
      go_wp2_with fail
      go_ret
      exact ⟨A1, c1, rfl, hn1, hm1, HoldsP.to (fun b hb => hb.lt hst.size) hst.whole, by rw [← Hb0.out]; exact hbw⟩
    · obtain ⟨⟨a1, nx, cx⟩, u⟩ := x
      obtain ⟨A2, c2, hbx, _⟩ := hst.stk.row
      have hlen : (List.map Prod.fst (X.concat (⟨a1, nx, cx⟩, u))).length = X.length + 1 := by simp
      rw [hlen] at hbx
      have hload : gk = load (X.map Prod.snd) + (u.size + 1) := by rw [Hk.out, List.concat_eq_append, List.map_append, load_append]; simp [load]
      have hll := load_len (X.map Prod.snd)
      rw [List.length_map] at hll
      have hXl : (X.map Prod.fst).length ≤ 1099511627776 := by rw [List.length_map]; omega
      have HP := Lib.hid (cpop_any b0 g (X.map Prod.fst) ⟨a1, nx, cx⟩ wr (by simpa using hst.stk) hXl)
      obtain ⟨N, hN⟩ : ∃ N, N = X.length := ⟨_, rfl⟩
      rw [← hN] at hbx
      have hN2 : N ≤ 1099511627776 := by rw [hN]; omega
      have hN3 : (0 : Int) < (N : Int) + 1 := by omega
      have hbox : wr.cell? ⟨g, 0, none⟩ = some (.slice A2 (N + 1) c2) := by rw [cell_of_row wr g 0 _ _ _ hbx]; rfl
      have Hld := Lib.hid hload
      clear hbx hlen hN hXl hload hll
      go_wp2_with fail
      (with_reducible refine HP.out.mono ?_)
      rintro e w2 ⟨rfl, hs2, hg2⟩
      obtain ⟨hst2, hj2⟩ := ClSt.pop (by simpa using hst) hs2 hg2
      have hbw2 : Below b0 wr w2 := (Below.refl b0 wr).grown hg2 hst.size (fun k hk => by injection hk with hk; have := hst.stk.le; omega)
      have hnx := hj2.holds.len
      simp only at hnx
      have hux := u.len_size
      have hld := Hld.out
      have hnb : nx ≤ 549755813889 := by omega
      have Hnx := Lib.hid hnx
      have Hux := Lib.hid hux
      have hbz := hbw.trans hbw2
      clear hnx hux hld HP hst hs2 hg2 hbox hN2 hN3 hbw hbw2
      go_wp2_with fail
      go_loopw [17] (fun i wl => ∃ (j : Nat) (X2 : List (CJob × Tr)), j ≤ nx ∧ i = .int .i64 j ∧ ClSt wl b0 g A1 n t X2 ∧ JobOK wl b0 (⟨a1, nx, cx⟩, u) ∧ Hid (load (X2.map Prod.snd) + load ((subs u).drop j) + 1 = gk) ∧ Below b0 w wl) (fun i _ => nx - (intOf i).toNat)
      case atStart => exact ⟨0, X, Nat.zero_le _, rfl, hst2, hj2, by have := Hld.out; rw [List.drop_zero, load_subs]; exact Lib.hid (by omega), hbz⟩
      case round =>
        clear hst2 hj2 hbz
        obtain ⟨j, X2, hj, rfl, hst, hjb, Hl, hbl⟩ := hrel
        by_cases hlt : j < nx
        · have hjl : j < (subs u).length := by rw [subs_len, ← Hnx.out]; exact hlt
          have hdr := List.drop_eq_getElem_cons hjl
          have hv := List.getElem?_eq_getElem hjl
          obtain ⟨v, hve⟩ : ∃ v, v = (subs u)[j] := ⟨_, rfl⟩
          rw [← hve] at hdr hv
          have hl := Hl.out
          rw [hdr] at hl
          simp only [load] at hl
          have hvl := v.len_size
          obtain ⟨vs, _, _, _, hA⟩ := hjb.holds.row
          obtain ⟨b', o', e', _⟩ := hA (by simp only; omega)
          simp only at e'
          subst e'
          obtain ⟨d, e', hd, cur, hh⟩ := hjb.row _ rfl
          injection e' with e1 e2
          subst e1; subst e2
          obtain ⟨A', n', c', hc, hn', hm', hh'⟩ := hjb.holds.sub hv
          rw [Nat.zero_add] at hc
          have hnv := hh'.len
          have hn40 : n' ≤ 1099511627776 := by omega
          have hfr : ∀ q, wr.frozen? ⟨b', q, none⟩ = false := fun q => by simp [World.frozen?, hh]
          have hjn : (j : Int) < (nx : Int) := by omega
          have hj0 : (0 : Int) ≤ (j : Int) := by omega
          have HL := Lib.hid (level_hp v A' n' c' (Pw wr b0) wr hh' (fun b hb => hb.lt hst.size) hn40)
          have He : Hid (load (X2.map Prod.snd) + (v.size + 1) + load ((subs u).drop (j + 1)) + 1 = gk) := Lib.hid (by omega)
          have hX2 := load_len (X2.map Prod.snd)
          rw [List.length_map] at hX2
          have hX3 : X2.length ≤ 549755813889 := by omega
          have HX := Lib.hid hX3
          have Hst := Lib.hid hst
          have Hjb := Lib.hid hjb
          have Hh := Lib.hid hh
          have Hc := Lib.hid hc
          have Hh' := Lib.hid hh'
          clear hv hve hdr hl hvl hnv hX2 hX3 hh' hst hjb hA Hl hh
          go_wp2_with fail
          (with_reducible refine HL.out.mono ?_)
          rintro e w3 ⟨A3, c3, rfl, hg3, hn3, hm3, hh3, ha3⟩
          have hsz3 := hg3.size
          have hst := Hst.out
          have hk3 : ∀ b, Pw wr b0 b → w3.heap[b]? = wr.heap[b]? := fun b hb => hg3.block b (hb.lt hst.size) (fun e => by cases e)
          have St3 := hst.grow hg3
          have J3 := Hjb.out.step hk3
          have JN3 : JobOK w3 b0 (⟨A3, n', c3⟩, v) := level_ok hst.size hg3 hh3 ha3
          have hdr : w3.heap[b']? = some (.cells cur 55 (0, 0)) := (hk3 b' (.inr ⟨hd, cur, Hh.out⟩)).trans Hh.out
          have hq3 : w3.cell? ⟨b', j * 2 + 1, none⟩ = some (.slice A' n' c') := (World.cell?_of_block (hk3 b' (.inr ⟨hd, cur, Hh.out⟩))).trans Hc.out
          have hz3 := Hh'.out.step hk3
          have St4 := St3.set hdr hq3 hz3 JN3.holds hn3 hm3
          have J4 : JobOK (w3.setCell ⟨b', j * 2 + 1, none⟩ (.slice A3 n' c3)) b0 (⟨some ⟨b', 0, none⟩, nx, cx⟩, u) := ⟨JobOK.set hdr hq3 hz3 JN3.holds hn3 hm3 J3.holds, J3.row.set hdr⟩
          have JN4 : JobOK (w3.setCell ⟨b', j * 2 + 1, none⟩ (.slice A3 n' c3)) b0 (⟨A3, n', c3⟩, v) := ⟨JobOK.set hdr hq3 hz3 JN3.holds hn3 hm3 JN3.holds, JN3.row.set hdr⟩
          have hb3 : Below b0 wr w3 := (Below.refl b0 wr).grown hg3 hst.size (fun k hk => by cases hk)
          have hb4 : Below b0 wr (w3.setCell ⟨b', j * 2 + 1, none⟩ (.slice A3 n' c3)) := hb3.setCell hd _
          have hfr3 : w3.frozen? ⟨b', j * 2 + 1, none⟩ = false := by simp [World.frozen?, hdr]
          have hat4 : (w3.setCell ⟨b', j * 2 + 1, none⟩ (.slice A3 n' c3)).cell? ⟨b', j * 2 + 1, none⟩ = some (.slice A3 n' c3) := by
            rw [cell_of_row _ _ _ _ _ _ (heap_setCell_same w3 b' (j * 2 + 1) cur _ _ hdr)]
            have : j * 2 + 1 < cur.size := by
              rw [cell_of_row _ _ _ _ _ _ hdr] at hq3
              exact (Array.getElem?_eq_some_iff.1 hq3).1
            simp [this]
          obtain ⟨w4, hw4⟩ : ∃ W, W = w3.setCell ⟨b', j * 2 + 1, none⟩ (.slice A3 n' c3) := ⟨_, rfl⟩
          rw [← hw4] at St4 J4 JN4 hb4 hat4
          have hS4 := Lib.hid St4
          have hJ4 := Lib.hid J4
          have hJN4 := Lib.hid JN4
          have HB4 := Lib.hid hb4
          clear St4 J4 JN4 hb4 hb3 hz3 JN3 J3 St3 hk3 hst hh3 ha3 hdr hc hfr hg3
          go_wp2_with fail
          rw [← hw4]
          have hz4 : w4.heap.size = w3.heap.size := by rw [hw4]; simp [World.setCell]
          have hsb := hS4.out.size
          have hka : ∀ b, Pw w4 b0 b → (w4.alloc (Obj.cells #[Value.slice A3 n' c3] 30)).heap[b]? = w4.heap[b]? := fun b hb => Below.heap_alloc _ _ b (hb.lt hsb)
          have St5 := hS4.out.alloc (Obj.cells #[Value.slice A3 n' c3] 30)
          have HC := cpush_any b0 g w3.heap.size 0 1 1 (X2.map Prod.fst) [⟨A3, n', c3⟩] (w4.alloc (Obj.cells #[Value.slice A3 n' c3] 30)) St5.stk rfl
            (fun q v hv => by
              match q, hv with
              | 0, hv => rw [cell_of_row _ _ _ _ _ _ (by rw [← hz4]; exact heap_alloc_new _ _)]; simpa [cjobs, CJob.cells] using hv
              | q + 1, hv => simp [cjobs, CJob.cells] at hv)
            (by rw [List.length_map]; have := HX.out; omega) (by simp; omega)
          (with_reducible refine HC.mono ?_)
          rintro e w5 ⟨⟨vv, rfl⟩, hs5, hb5, hg5⟩
          obtain ⟨St6, J6⟩ := St5.push (hJN4.out.step hka) (hJ4.out.step hka) hs5 hb5 (fun k hk hf => (hg5 k hk hf).1)
          have hb6 : Below b0 wr w5 := (HB4.out.alloc (by omega) _).trans hb5
          clear hka St5 HC hs5 hb5 hg5 hw4 hat4 hfr3 hq3
          go_wp2_with fail
          go_roundw
          case rel => exact ⟨j + 1, X2 ++ [(⟨A3, n', c3⟩, v)], by omega, by go_num, St6, J6, by have := He.out; rw [List.map_append, load_append]; simp only [List.map_cons, List.map_nil, load]; exact Lib.hid (by omega), hbl.trans hb6⟩
          case measure => simp [intOf]; omega
        · obtain rfl : j = nx := by omega
          have hnil : (subs u).drop j = [] := List.drop_eq_nil_of_le (by rw [subs_len, ← Hnx.out]; exact Nat.le_refl _)
          have hl := Hl.out
          rw [hnil] at hl
          simp only [load, Nat.add_zero] at hl
          clear hnil hlt
          go_wp2_with fail
          go_roundg (load (X2.map Prod.snd))
          case measure => omega
          case rel => exact ⟨X2, Lib.hid rfl, hst, by omega, hbl⟩
end Go.Proofs.YtlcbhooiinaalaaGreatDoor.Cl
namespace Go.Proofs.YtlcbhooiinaalaaGreatDoor.Pt
open Go.RowKit Go.Proofs.YtlcbhooiinaalaaGreatDoor.Jd Go.Proofs.YtlcbhooiinaalaaGreatDoor.Cl
set_option maxRecDepth 100000

def GetP (w : World) (r : Tr × Bool) (e : Ending) (w' : World) : Prop :=
  ∃ A' n' c', e = .returned (.tuple #[.slice A' n' c', .bool r.2]) ∧ n' ≤ c' ∧ c' ≤ maxLen ∧ Holds w' w'.heap.size A' n' r.1 ∧ Below w.heap.size w w'

theorem kid_drop {name : ByteArray} : ∀ {t : Tr}, t.atIs name = true → ∃ r, t.dropT (t.atN name) = .cons name (kidT t name) r
  | .nil, h => by simp [Tr.atIs, Tr.atN, dropT_zero, Tr.headIs] at h
  | .cons s k r, h => by
    rcases cases3 s name with c1 | ⟨c1, c2⟩ | ⟨c1, c2, _⟩
    · rw [atIs_lt c1] at h
      obtain ⟨r', h2⟩ := kid_drop h
      rw [atN_lt c1, kidT_lt c1]
      exact ⟨r', h2⟩
    · have e := names_of_eq c2
      subst e
      rw [atN_ge c1, kidT_eq c1 c2]
      exact ⟨r, by rw [dropT_zero]⟩
    · rw [atIs_ge c1, c2] at h; cases h
theorem drop_lt {t : Tr} {i : Nat} {s : ByteArray} {k r : Tr} (h : t.dropT i = .cons s k r) : i < t.len := by
  rcases Nat.lt_or_ge i t.len with g | g
  · exact g
  · rw [drop_len t i g] at h; cases h

set_option maxHeartbeats 2000000 in
theorem get_any (t : Tr) (ps : List ByteArray) (A Ap : Option Addr) (n c np cp : Nat) (w : World) (ht : Holds w w.heap.size A n t) (hp : SeesV w w.heap.size Ap np (ps.map Value.string)) (ha : AscD t) (hz : t.size ≤ 274877906944) (hps : ps.length ≤ 1000000) :
    Calls Tryz.prog 67 #[.slice A n c, .slice Ap np cp] w (GetP w (getT t ps)) := by
  have hnp : np ≤ 1000000 := by have := hp.len; rw [List.length_map] at this; omega
  have Hnp := Lib.hid (show np = ps.length by have := hp.len; rwa [List.length_map] at this)
  obtain ⟨T, hT⟩ : ∃ T, T = getT t ps := ⟨_, rfl⟩
  rw [← hT]
  have HI0 := Lib.hid (show Holds w w.heap.size A n t ∧ AscD t ∧ t.size ≤ 274877906944 ∧ getT t ps = T from ⟨ht, ha, hz, hT.symm⟩)
  clear ht hT ha hz
  go_enter Tryz.func67, Tryz.ntmps67
  go_wp2_with fail
  go_loopw [0, 12] (fun a i wr => ∃ (k : Nat) (Au : Option Addr) (nu cu : Nat) (u : Tr), k ≤ np ∧ a = .slice Au nu cu ∧ i = .int .i64 k ∧ Hid (Holds wr w.heap.size Au nu u ∧ AscD u ∧ u.size ≤ 274877906944 ∧ getT u (ps.drop k) = T) ∧ Below w.heap.size w wr) (fun _ i _ => np - (intOf i).toNat)
  case atStart => exact ⟨0, A, n, c, t, Nat.zero_le _, rfl, rfl, by rw [List.drop_zero]; exact HI0, Below.refl _ _⟩
  case round =>
    obtain ⟨k, Au, nu, cu, u, hk, rfl, rfl, HI, hbw⟩ := hrel
    have hsz := hbw.size
    by_cases hlt : k < np
    · obtain ⟨bp, op, rfl, hbp, hcp⟩ := hp.str hlt
      obtain ⟨name, hname⟩ : ∃ s, s = ps.getD k ⟨#[]⟩ := ⟨_, rfl⟩
      rw [← hname] at hcp
      have hdrop : ps.drop k = name :: ps.drop (k + 1) := by
        have hl : k < ps.length := by rw [← Hnp.out]; exact hlt
        rw [List.drop_eq_getElem_cons hl, hname, List.getD_eq_getElem?_getD, List.getElem?_eq_getElem hl]
        rfl
      have hcpw := (hbw.cell (p := ⟨bp, op + k, none⟩) hbp).trans hcp
      have hkn : (k : Int) < (np : Int) := by omega
      have hk0 : (0 : Int) ≤ (k : Int) := by omega
      have hul := HI.out.1.len
      have hus := u.len_size
      have hus2 := HI.out.2.2.1
      have hnu : nu ≤ 274877906944 := by omega
      have HF := Lib.hid (find_any u HI.out.2.1.asc Au nu cu w.heap.size name wr HI.out.1 hsz (by omega))
      have hle := atN_le name u
      obtain ⟨i, hi⟩ : ∃ i, i = u.atN name := ⟨_, rfl⟩
      obtain ⟨v, hv⟩ : ∃ v, v = u.atIs name := ⟨_, rfl⟩
      rw [← hi] at HF hle
      rw [← hv] at HF
      have hin : i ≤ nu := by omega
      have Hi := Lib.hid hi
      have Hdrop := Lib.hid hdrop
      have Hlt := Lib.hid hlt
      clear hname hdrop hcp hi hlt hle
      cases v with
      | true =>
        obtain ⟨r, hdr⟩ := kid_drop hv.symm
        rw [← Hi.out] at hdr
        have hilt := drop_lt hdr
        have hin2 : (i : Int) < (nu : Int) := by omega
        have hi0 : (0 : Int) ≤ (i : Int) := by omega
        have hin3 : i < nu := by omega
        have heq : getT (kidT u name) (ps.drop (k + 1)) = T := by
          have := HI.out.2.2.2
          rw [Hdrop.out, getT, if_pos hv.symm] at this
          exact this
        have Heq := Lib.hid heq
        have Hdr := Lib.hid hdr
        clear hv hdr hilt hul hus hus2 heq
        go_wp2_with fail
        refine HF.out.mono ?_
        rintro e w2 ⟨rfl, hb2⟩
        obtain ⟨b, o, s, kt, r', A', n', c', e, hb, hs, hcl, hn', hc', hk', hr, hd, hd2⟩ := (HI.out.1.below hb2).split i hin3
        subst e
        have hd := hd
        rw [Hdr.out] at hd
        injection hd with hd1 hd2 hd3
        subst hd1; subst hd2
        have hkid := Lib.hid (show Holds w2 w.heap.size A' n' (kidT u name) ∧ AscD (kidT u name) ∧ (kidT u name).size ≤ 274877906944 ∧ getT (kidT u name) (ps.drop (k + 1)) = T from ⟨hk', kidT_asc HI.out.2.1, Nat.le_trans (kidT_size u name) HI.out.2.2.1, Heq.out⟩)
        clear hk' hr hd3 hs
        go_wp2_with fail
        go_roundw
        case rel => exact ⟨k + 1, A', n', c', _, Hlt.out, rfl, by go_num, hkid, hbw.trans hb2⟩
        case measure => have := Hlt.out; simp [intOf]; omega
      | false =>
        have heq : (Tr.nil, false) = T := by
          have := HI.out.2.2.2
          rw [Hdrop.out, getT, if_neg (by rw [← hv]; simp)] at this
          exact this
        have Heq := Lib.hid heq
        clear hv hul hus hus2 heq
        go_wp2_with fail
        refine HF.out.mono ?_
        rintro e w2 ⟨rfl, hb2⟩
        go_wp2_with fail
        go_ret2
        exact ⟨none, 0, 0, by rw [← Heq.out]; rfl, Nat.le_refl _, Nat.zero_le _, by rw [← Heq.out]; rfl, hbw.trans hb2⟩
    · obtain rfl : k = np := by omega
      have hnil : ps.drop k = [] := List.drop_eq_nil_of_le (by rw [Hnp.out]; exact Nat.le_refl _)
      have heq : (u, true) = T := by
        have := HI.out.2.2.2
        rw [hnil, getT] at this
        exact this
      have HX := Lib.hid (clone_any u Au nu cu wr (HI.out.1.more hsz) (by have := HI.out.2.2.1; omega))
      have Heq := Lib.hid heq
      clear hnil hlt hp heq
      go_wp2_with fail
      (with_reducible refine HX.out.mono ?_)
      rintro e w5 ⟨A5, c5, rfl, hn5, hm5, ho5, hb5⟩
      go_wp2_with fail
      go_ret2
      exact ⟨A5, nu, c5, by rw [← Heq.out]; rfl, hn5, hm5, by rw [← Heq.out]; exact ho5, hbw.trans (hb5.mono hsz)⟩
end Go.Proofs.YtlcbhooiinaalaaGreatDoor.Pt
namespace Go.Proofs.YtlcbhooiinaalaaGreatDoor.Nm
open Go.RowKit
set_option maxRecDepth 100000

theorem less_iff (x y : ByteArray) : Op.bytesLess x.toList y.toList = true ↔ x.data.toList < y.data.toList := by
  rw [Go.Proofs.bytesLess_eq, ByteArray.toList_eq, ByteArray.toList_eq, decide_eq_true_iff]
/-- Of a list in order: what compactUpTo keeps. -/
theorem upTo_facts (zs : List (List UInt8)) (h : zs.Pairwise (· ≤ ·)) : ∀ m, m ≤ zs.length →
    (Go.Lib.compactUpTo zs.toArray m).Pairwise (· < ·) ∧ (∀ x ∈ Go.Lib.compactUpTo zs.toArray m, ∃ j, j < m ∧ x = zs.toArray[j]!) ∧ ∀ j, j < m → zs.toArray[j]! ∈ Go.Lib.compactUpTo zs.toArray m := by
  have hle : ∀ i j, i ≤ j → j < zs.length → zs.toArray[i]! ≤ zs.toArray[j]! := by
    intro i j hij hj
    rw [getElem!_pos _ i (by simp; omega), getElem!_pos _ j (by simpa using hj)]
    simp only [List.getElem_toArray]
    rcases Nat.lt_or_ge i j with g | g
    · exact List.pairwise_iff_getElem.1 h i j (by omega) hj g
    · obtain rfl : i = j := by omega
      exact List.le_refl _
  intro m
  induction m with
  | zero => intro _; exact ⟨by simp [Go.Lib.compactUpTo], by simp [Go.Lib.compactUpTo], by intro j hj; omega⟩
  | succ m ih =>
    intro hm
    obtain ⟨h1, h2, h3⟩ := ih (by omega)
    rw [Go.Lib.compactUpTo_succ]
    by_cases hk : Go.Lib.keeps zs.toArray m = true
    · rw [if_pos hk]
      have hk' := of_decide_eq_true hk
      refine ⟨?_, ?_, ?_⟩
      · rw [List.pairwise_append]
        refine ⟨h1, List.pairwise_singleton _ _, fun x hx y hy => ?_⟩
        obtain ⟨j, hj, rfl⟩ := h2 x hx
        rw [List.mem_singleton] at hy
        subst hy
        rcases hk' with e | e
        · omega
        · have a1 := hle j (m - 1) (by omega) (by omega)
          have a2 := hle (m - 1) m (by omega) (by omega)
          refine List.lt_of_le_of_lt a1 ?_
          by_cases h4 : zs.toArray[m]! ≤ zs.toArray[m - 1]!
          · exact absurd (List.le_antisymm h4 a2) e
          · simpa using h4
      · intro x hx
        rw [List.mem_append, List.mem_singleton] at hx
        rcases hx with hx | rfl
        · obtain ⟨j, hj, e⟩ := h2 x hx
          exact ⟨j, by omega, e⟩
        · exact ⟨m, by omega, rfl⟩
      · intro j hj
        rw [List.mem_append, List.mem_singleton]
        by_cases e : j = m
        · right; rw [e]
        · left; exact h3 j (by omega)
    · rw [if_neg hk, List.append_nil]
      have hk' : ¬ (m = 0 ∨ zs.toArray[m]! ≠ zs.toArray[m - 1]!) := fun e => hk (decide_eq_true e)
      refine ⟨h1, fun x hx => ?_, fun j hj => ?_⟩
      · obtain ⟨j, hj, e⟩ := h2 x hx
        exact ⟨j, by omega, e⟩
      · by_cases e : j = m
        · subst e
          have e1 : zs.toArray[j]! = zs.toArray[j - 1]! := Classical.byContradiction fun h => hk' (.inr h)
          rw [e1]
          exact h3 (j - 1) (by omega)
        · exact h3 j (by omega)
theorem sorted_pair (ss : List (List UInt8)) : (sorted ss).Pairwise (· ≤ ·) :=
  (List.pairwise_mergeSort (le := fun x y => decide (x ≤ y)) (fun a b c h1 h2 => by simp only [decide_eq_true_eq] at *; exact List.le_trans h1 h2) (fun a b => by simp only [Bool.or_eq_true, decide_eq_true_eq]; exact List.le_total a b) ss).imp (fun h => of_decide_eq_true h)
/-- In order, each once. -/
def ord (ss : List (List UInt8)) : List (List UInt8) := once (sorted ss)
theorem ord_pair (ss : List (List UInt8)) : (ord ss).Pairwise (· < ·) :=
  (upTo_facts _ (sorted_pair _) _ (Nat.le_refl _)).1
theorem ord_mem (ss : List (List UInt8)) (x : List UInt8) : x ∈ ord ss ↔ x ∈ ss := by
  obtain ⟨_, h2, h3⟩ := upTo_facts _ (sorted_pair ss) _ (Nat.le_refl _)
  have hp : ∀ y, y ∈ sorted ss ↔ y ∈ ss := fun y => List.mem_mergeSort
  rw [← hp]
  constructor
  · intro hx
    obtain ⟨j, hj, rfl⟩ := h2 x hx
    rw [getElem!_pos _ j (by simpa using hj)]
    simp
  · intro hx
    obtain ⟨j, hj, rfl⟩ := List.getElem_of_mem hx
    have := h3 j hj
    rw [getElem!_pos _ j (by simpa using hj), List.getElem_toArray] at this
    exact this
theorem ord_le (ss : List (List UInt8)) : (ord ss).length ≤ ss.length := by
  have := once_le (sorted ss)
  rw [sorted_length] at this
  exact this
theorem len_le {α : Type} [DecidableEq α] : ∀ (l m : List α), l.Nodup → (∀ x ∈ l, x ∈ m) → l.length ≤ m.length
  | [], m, _, _ => Nat.zero_le _
  | a :: l, m, hd, hs => by
    rw [List.nodup_cons] at hd
    have ha := hs a List.mem_cons_self
    have := len_le l (m.erase a) hd.2 (fun x hx => (List.mem_erase_of_ne (fun e => hd.1 (by rw [← e]; exact hx))).2 (hs x (List.mem_cons_of_mem _ hx)))
    rw [List.length_erase_of_mem ha] at this
    have : 0 < m.length := List.length_pos_of_mem ha
    simp only [List.length_cons]
    omega
theorem asc_nodup {l : List (List UInt8)} (h : l.Pairwise (· < ·)) : l.Nodup :=
  h.imp (fun h e => by rw [e] at h; exact List.lt_irrefl _ h)
/-- Two lists in order with the same members are one. -/
theorem asc_eq : ∀ {l m : List (List UInt8)}, l.Pairwise (· < ·) → m.Pairwise (· < ·) → (∀ x, x ∈ l ↔ x ∈ m) → l = m
  | [], [], _, _, _ => rfl
  | [], b :: m, _, _, h => by have := (h b).2 List.mem_cons_self; simp at this
  | a :: l, [], _, _, h => by have := (h a).1 List.mem_cons_self; simp at this
  | a :: l, b :: m, hl, hm, h => by
    rw [List.pairwise_cons] at hl hm
    have e : a = b := by
      have h1 := (h a).1 List.mem_cons_self
      have h2 := (h b).2 List.mem_cons_self
      rw [List.mem_cons] at h1 h2
      rcases h1 with e | h1
      · exact e
      · rcases h2 with e | h2
        · exact e.symm
        · exact absurd (List.lt_trans (hl.1 b h2) (hm.1 a h1)) (List.lt_irrefl _)
    subst e
    rw [asc_eq hl.2 hm.2 (fun x => ?_)]
    have := h x
    rw [List.mem_cons, List.mem_cons] at this
    constructor
    · intro hx
      rcases this.1 (.inr hx) with e | e
      · subst e; exact absurd (hl.1 _ hx) (List.lt_irrefl _)
      · exact e
    · intro hx
      rcases this.2 (.inr hx) with e | e
      · subst e; exact absurd (hm.1 _ hx) (List.lt_irrefl _)
      · exact e

/-- Of a list in order: where a name stands, or would. -/
theorem cut : ∀ (ss : List (List UInt8)) (x : List UInt8), ss.Pairwise (· < ·) → ∃ p, p ≤ ss.length ∧ (∀ t y, ss[t]? = some y → (y < x ↔ t < p)) ∧ (x ∈ ss ↔ ss[p]? = some x)
  | [], x, _ => ⟨0, Nat.le_refl _, fun t y h => by simp at h, by simp⟩
  | a :: r, x, h => by
    rw [List.pairwise_cons] at h
    by_cases hl : a < x
    · obtain ⟨p, h1, h2, h3⟩ := cut r x h.2
      refine ⟨p + 1, by simpa using h1, fun t y ht => ?_, ?_⟩
      · cases t with
        | zero =>
          simp only [List.getElem?_cons_zero, Option.some.injEq] at ht
          subst ht
          simp [hl]
        | succ t =>
          simp only [List.getElem?_cons_succ] at ht
          rw [h2 t y ht]
          omega
      · rw [List.getElem?_cons_succ, ← h3, List.mem_cons]
        constructor
        · rintro (e | e)
          · rw [e] at hl; exact absurd hl (List.lt_irrefl _)
          · exact e
        · exact Or.inr
    · refine ⟨0, Nat.zero_le _, fun t y ht => ?_, ?_⟩
      · cases t with
        | zero =>
          simp only [List.getElem?_cons_zero, Option.some.injEq] at ht
          subst ht
          simp [hl]
        | succ t =>
          simp only [List.getElem?_cons_succ] at ht
          have := h.1 y (List.mem_of_getElem? ht)
          constructor
          · intro g; exact absurd (List.lt_trans this g) hl
          · intro g; omega
      · rw [List.getElem?_cons_zero, List.mem_cons]
        constructor
        · rintro (e | e)
          · rw [e]
          · exact absurd (h.1 x e) hl
        · intro e
          injection e with e
          exact .inl e.symm

/-- A set: all names but some, or some. -/
structure St where
  all : Bool
  l : List (List UInt8)
def St.mem (s : St) (x : List UInt8) : Bool := decide (x ∈ s.l) != s.all
def comb (op : Bool → Bool → Bool) (a b : St) : St :=
  ⟨op a.all b.all, (ord (a.l ++ b.l)).filter fun x => op (a.mem x) (b.mem x) != op a.all b.all⟩
def fr (a : St) : St := ⟨a.all, ord a.l⟩
def nott (a : St) : St := ⟨!a.all, ord a.l⟩
def St.none (s : St) : Bool := !s.all && decide (s.l.length = 0)
def both (a b : St) : St := comb (· && ·) (fr a) (fr b)
def either (a b : St) : St := comb (· || ·) (fr a) (fr b)
def same (a b : St) : Bool := (comb (· != ·) (fr a) (fr b)).none

theorem fr_mem (a : St) (x : List UInt8) : (fr a).mem x = a.mem x := by
  simp only [St.mem, fr]
  congr 1
  exact decide_eq_decide.2 (ord_mem _ _)
theorem nott_mem (a : St) (x : List UInt8) : (nott a).mem x = !a.mem x := by
  have : decide (x ∈ ord a.l) = decide (x ∈ a.l) := decide_eq_decide.2 (ord_mem _ _)
  show (decide (x ∈ ord a.l) != !a.all) = !(decide (x ∈ a.l) != a.all)
  rw [this]
  cases decide (x ∈ a.l) <;> cases a.all <;> rfl
theorem comb_mem (op : Bool → Bool → Bool) (a b : St) (x : List UInt8) : (comb op a b).mem x = op (a.mem x) (b.mem x) := by
  by_cases h : x ∈ a.l ++ b.l
  · have : decide (x ∈ (comb op a b).l) = (op (a.mem x) (b.mem x) != op a.all b.all) := by
      rw [Bool.eq_iff_iff, decide_eq_true_iff]
      simp only [comb, List.mem_filter, ord_mem, h, true_and]
    show (decide (x ∈ (comb op a b).l) != op a.all b.all) = _
    rw [this]
    cases op (a.mem x) (b.mem x) <;> cases op a.all b.all <;> rfl
  · have h0 : decide (x ∈ (comb op a b).l) = false := by
      rw [decide_eq_false_iff_not]
      simp only [comb, List.mem_filter, ord_mem, h, false_and, not_false_eq_true]
    rw [List.mem_append, not_or] at h
    show (decide (x ∈ (comb op a b).l) != op a.all b.all) = _
    rw [h0]
    simp [St.mem, h.1, h.2]
theorem comb_pair (op : Bool → Bool → Bool) (a b : St) : (comb op a b).l.Pairwise (· < ·) := (ord_pair _).filter _
theorem comb_le (op : Bool → Bool → Bool) (a b : St) : (comb op a b).l.length ≤ a.l.length + b.l.length := by
  refine Nat.le_trans (List.length_filter_le ..) (Nat.le_trans (ord_le _) ?_)
  rw [List.length_append]
  exact Nat.le_refl _
theorem fr_le (a : St) : (fr a).l.length ≤ a.l.length := ord_le _
theorem both_mem (a b : St) (x : List UInt8) : (both a b).mem x = (a.mem x && b.mem x) := by rw [both, comb_mem, fr_mem, fr_mem]
theorem either_mem (a b : St) (x : List UInt8) : (either a b).mem x = (a.mem x || b.mem x) := by rw [either, comb_mem, fr_mem, fr_mem]
theorem both_pair (a b : St) : (both a b).l.Pairwise (· < ·) := comb_pair ..
theorem either_pair (a b : St) : (either a b).l.Pairwise (· < ·) := comb_pair ..
theorem nott_pair (a : St) : (nott a).l.Pairwise (· < ·) := ord_pair _
theorem both_le (a b : St) : (both a b).l.length ≤ a.l.length + b.l.length := by
  have := comb_le (· && ·) (fr a) (fr b); have := fr_le a; have := fr_le b
  unfold both; omega
theorem either_le (a b : St) : (either a b).l.length ≤ a.l.length + b.l.length := by
  have := comb_le (· || ·) (fr a) (fr b); have := fr_le a; have := fr_le b
  unfold either; omega
theorem nott_le (a : St) : (nott a).l.length ≤ a.l.length := ord_le _
/-- No name is in it, and it is not All: it is none. -/
theorem none_of {s : St} (h0 : s.all = false) (h : ∀ x, s.mem x = false) : s.none = true := by
  have : s.l = [] := by
    rw [List.eq_nil_iff_forall_not_mem]
    intro x hx
    have := h x
    rw [St.mem, h0, decide_eq_true hx] at this
    cases this
  rw [St.none, h0, this]
  rfl
theorem same_of {a b : St} (h0 : a.all = b.all) (h : ∀ x, a.mem x = b.mem x) : same a b = true := by
  refine none_of ?_ fun x => ?_
  · simp [comb, fr, h0]
  · rw [comb_mem, fr_mem, fr_mem, h x]
    cases b.mem x <;> rfl
theorem same_iff (a b : St) : same a b = true ↔ a.all = b.all ∧ ∀ x, x ∈ a.l ↔ x ∈ b.l := by
  constructor
  · intro h
    unfold same St.none at h
    rw [Bool.and_eq_true, decide_eq_true_iff, Bool.not_eq_true'] at h
    have h0 : a.all = b.all := by
      have := h.1
      simp only [comb, fr] at this
      cases ha : a.all <;> cases hb : b.all <;> simp_all
    refine ⟨h0, fun x => ?_⟩
    have hm := comb_mem (· != ·) (fr a) (fr b) x
    rw [fr_mem, fr_mem] at hm
    have e : (comb (· != ·) (fr a) (fr b)).mem x = false := by
      rw [St.mem, h.1, List.eq_nil_of_length_eq_zero h.2]; rfl
    rw [e] at hm
    have hm' : false = ((decide (x ∈ a.l) != b.all) != (decide (x ∈ b.l) != b.all)) := by unfold St.mem at hm; rw [h0] at hm; exact hm
    have hd : decide (x ∈ a.l) = decide (x ∈ b.l) := by
      revert hm'
      cases decide (x ∈ a.l) <;> cases decide (x ∈ b.l) <;> cases b.all <;> intro e <;> first | rfl | cases e
    exact decide_eq_decide.1 hd
  · rintro ⟨h0, h⟩
    refine same_of h0 fun x => ?_
    have : decide (x ∈ a.l) = decide (x ∈ b.l) := decide_eq_decide.2 (h x)
    rw [St.mem, St.mem, this, h0]
end Go.Proofs.YtlcbhooiinaalaaGreatDoor.Nm
namespace Go.Proofs.YtlcbhooiinaalaaGreatDoor.Nm
open Go.RowKit
set_option maxRecDepth 100000

theorem info_str : (Tryz.prog.info? 9).map (fun i => (i.zero, i.size, i.bytes)) = some (some (.string ⟨#[]⟩), 1, 16) := by kernel_rfl
theorem elem_s : Elem Tryz.prog 28 9 (.string ⟨#[]⟩) 1 16 := ⟨Tryz.underlying28, info_str, rfl, by omega⟩
theorem encs_one (ss : List (List UInt8)) : ∀ u ∈ ss.map encs, u.oneCell' = true := by
  intro u hu
  simp only [List.mem_map] at hu
  obtain ⟨x, _, rfl⟩ := hu
  rfl
/-- What append takes: a row of strings, nil too. -/
theorem src_strs {w : World} {B n c : Nat} {A : Option Addr} {ss : List (List UInt8)} (h : SeesV w B A n (ss.map encs)) : Src Tryz.prog 1 28 (.slice A n c) n (ss.map encs) w := by
  have hl := h.len
  cases A with
  | none =>
    cases ss with
    | nil =>
      have : n = 0 := by simpa using hl
      subst this
      exact Src.ofNil w Tryz.underlying28 c
    | cons y r =>
      obtain ⟨b, o, e, _⟩ := h.cell 0 (encs y) rfl
      cases e
  | some a => exact Src.ofSlice w Tryz.underlying28 a n c (ss.map encs) (by rw [hl, Nat.mul_one]) (fun j u hu => by
      obtain ⟨b, o, e, _, hc⟩ := h.cell j u hu
      injection e with e
      subst e
      rw [Addr.add_lit]
      exact hc) (encs_one ss)
/-- A row of the call's own, seen. -/
theorem sees_own {w : World} {base n c : Nat} {A : Option Addr} {ss : List (List UInt8)} (h : w.ownsRow base 9 1 (.slice A n c) n (ss.map encs)) : SeesV w w.heap.size A n (ss.map encs) := by
  obtain ⟨h1, hr⟩ := h
  refine ⟨by omega, fun j u hu => ?_⟩
  rcases hr with ⟨_, e⟩ | ⟨g, cap, cur, e, hg, hh, hcap, hmx, hsz, htk⟩
  · have : (ss.map encs) = [] := List.eq_nil_of_length_eq_zero (by omega)
    rw [this] at hu
    simp at hu
  · injection e with e1 e2 e3
    subst e1
    refine ⟨g, 0, rfl, (Array.getElem?_eq_some_iff.1 hh).1, ?_⟩
    rw [cell_of_row w g _ cur _ _ hh, Nat.zero_add]
    have hj : (cur.toList.take (n * 1))[j]? = some u := by rw [htk]; exact hu
    rw [List.getElem?_take] at hj
    split at hj
    · rw [← Array.getElem?_toList]; exact hj
    · cases hj

def Grown (w : World) (e : Ending) (w' : World) : Prop := ∃ A c, e = .returned (.slice A 0 c) ∧ w'.ownsRow w.heap.size 9 1 (.slice A 0 c) 0 [] ∧ Below w.heap.size w w'

set_option maxHeartbeats 400000 in
theorem grow_any (n : Nat) (hn : n ≤ 1099511627776) (w : World) : Calls Tryz.prog 92 #[.slice none 0 0, .int .i64 n] w (Grown w) := by
  by_cases h0 : n = 0
  · subst h0
    go_enter Tryz.func92, Tryz.ntmps92
    go_wp2
    go_ret
    exact ⟨none, 0, rfl, World.ownsRow_nil _ _ _ _, Below.refl _ _⟩
  · obtain ⟨i0, hi0, hz0, hs0, hb0⟩ := info_parts info_str
    have hr : ∀ ty, (Builtin.append_ #[28, 3] ty #[.slice none 0 0, .int .i64 n]).run Tryz.prog w = .ok (.slice (some ⟨w.heap.size, 0, none⟩) n (grownCap w n 0 9)) (w.drew.alloc (.cells (Builtin.zeroCells (Value.string ⟨#[]⟩).cells n ++ Builtin.zeroCells (Value.string ⟨#[]⟩).cells (grownCap w n 0 9 - n)) 9)) := by
      intro ty
      have h := Lib.run_append_grow_zeros (P := Tryz.prog) w 28 3 ty 9 i0 (.string ⟨#[]⟩) .i64 .i64 Tryz.underlying28 Tryz.underlying3 hi0 hz0 none 0 0 [] (run_firstCells_none w.drew i0.size 0 0 0) n (by omega) (by omega) (by omega) (by omega) (by rw [hb0]; omega) (by
        have := growslice_fits (need := 0 + n) (old := 0) (bytes := i0.bytes) (by omega) (by rw [hb0]; omega)
        exact this)
      simpa using h
    have hge := grownCap_ge w n 0 9
    have hcm := grownCap_le_maxLen w n 0 9 (by simp only [maxLen]; omega)
    obtain ⟨G, hG⟩ : ∃ G, G = grownCap w n 0 9 := ⟨_, rfl⟩
    rw [← hG] at hr hge hcm
    have hzc : (Builtin.zeroCells (Value.string ⟨#[]⟩).cells n ++ Builtin.zeroCells (Value.string ⟨#[]⟩).cells (G - n)).size = G * 1 := by
      simp only [Array.size_append, size_zeroCells]
      rw [show (Value.string ⟨#[]⟩).cells.size = 1 from rfl]
      omega
    have hown := World.ownsRow_made (base := w.heap.size) (e := 9) (size := 1) w.drew (Builtin.zeroCells (Value.string ⟨#[]⟩).cells n ++ Builtin.zeroCells (Value.string ⟨#[]⟩).cells (G - n)) G (by simp) hcm hzc
    generalize (Builtin.zeroCells (Value.string ⟨#[]⟩).cells n ++ Builtin.zeroCells (Value.string ⟨#[]⟩).cells (G - n)) = Z at *
    have hG2 : G ≤ 9223372036854775807 := by simp only [maxLen] at hcm; omega
    have Hown := Lib.hid hown
    clear hown hG hzc hi0 hz0 hs0 hb0 hcm
    go_enter Tryz.func92, Tryz.ntmps92
    go_wp2_with (at_builtin; refine Lib.wpList_append_run _ rfl _ _ _ _ rfl _ _ rfl rfl _ _ (hr _) ?_)
    go_ret
    exact ⟨_, _, rfl, Hown.out, (Below.refl _ _).drew.alloc (Nat.le_refl _) _⟩

/-- What is joined: the slices at the cells of a slice of slices. -/
structure Parts (w : World) (g : Nat) (vs : List Value) (ls : List (List (List UInt8))) : Prop where
  len : vs.length = ls.length
  cell : ∀ (i : Nat) v, vs[i]? = some v → w.cell? ⟨g, i, none⟩ = some v
  sees : ∀ (i : Nat) l, ls[i]? = some l → ∃ A n c, vs[i]? = some (.slice A n c) ∧ SeesV w w.heap.size A n (l.map encs)

theorem Parts.two {w : World} {g : Nat} {A B : Option Addr} {n m c d : Nat} {l k : List (List UInt8)} (hg : w.heap[g]? = some (.cells #[.slice A n c, .slice B m d] 28 (0, 0))) (h1 : SeesV w w.heap.size A n (l.map encs)) (h2 : SeesV w w.heap.size B m (k.map encs)) :
    Parts w g [.slice A n c, .slice B m d] [l, k] := by
  refine ⟨rfl, fun i v hv => ?_, fun i l' hl => ?_⟩
  · rw [cell_of_row w g i _ _ _ hg]
    simpa using hv
  · match i, hl with
    | 0, hl => simp at hl; subst hl; exact ⟨A, n, c, rfl, h1⟩
    | 1, hl => simp at hl; subst hl; exact ⟨B, m, d, rfl, h2⟩

theorem flat_succ {ls : List (List (List UInt8))} {k : Nat} {l : List (List UInt8)} (h : ls[k]? = some l) : (ls.take (k + 1)).flatten = (ls.take k).flatten ++ l := by
  rw [List.take_add_one, h]
  simp
theorem flat_le (ls : List (List (List UInt8))) (k : Nat) : (ls.take k).flatten.length ≤ ls.flatten.length := by
  conv => rhs; rw [← List.take_append_drop k ls, List.flatten_append, List.length_append]
  exact Nat.le_add_right _ _

def Joined (l : List (List UInt8)) (w : World) (e : Ending) (w' : World) : Prop := ∃ A c, e = .returned (.slice A l.length c) ∧ SeesV w' w'.heap.size A l.length (l.map encs) ∧ Below w.heap.size w w'

set_option maxHeartbeats 1000000 in
theorem concat_any (g K : Nat) (vs : List Value) (ls : List (List (List UInt8))) (w : World) (hp : Parts w g vs ls) (hK : K = ls.length) (hK2 : K ≤ 65536) (hT : ls.flatten.length ≤ 1099511627776) (hg : g < w.heap.size) :
    Calls Tryz.prog 63 #[.slice (some ⟨g, 0, none⟩) K K] w (Joined ls.flatten w) := by
  have HK := Lib.hid hK
  clear hK
  obtain ⟨T, hTd⟩ : ∃ T : Nat → Nat, T = fun k => (ls.take k).flatten.length := ⟨_, rfl⟩
  have HT : Hid (∀ k, T k = (ls.take k).flatten.length) := by intro k; rw [hTd]
  have HTb : Hid (∀ k, T k ≤ 1099511627776) := by
    intro k
    rw [hTd]
    exact Nat.le_trans (flat_le ls k) hT
  have HT0 : Hid (T 0 = 0) := by rw [HT.out]; rfl
  clear hTd
  go_enter Tryz.func63, Tryz.ntmps63
  go_wp2
  go_loop [3, 11] (fun v i => ∃ k : Nat, k ≤ K ∧ i = .int .i64 k ∧ v = .int .i64 (T k)) (fun _ i => K - (intOf i).toNat)
  case atStart => exact ⟨0, Nat.zero_le _, rfl, by rw [HT0.out]; rfl⟩
  case round =>
    obtain ⟨k, hk, rfl, rfl⟩ := hrel
    have hTk := HTb.out k
    by_cases hlt : k < K
    · obtain ⟨l, hl⟩ : ∃ l, ls[k]? = some l := ⟨ls[k]'(by rw [← HK.out]; exact hlt), List.getElem?_eq_getElem _⟩
      obtain ⟨A, n, c, hv, hs⟩ := hp.sees k l hl
      have hc := hp.cell k _ hv
      have hnl := hs.len
      rw [List.length_map] at hnl
      have HT1 := Lib.hid (show T (k + 1) = T k + n by rw [HT.out, HT.out, flat_succ hl, List.length_append, hnl])
      have hb1 : T k + n ≤ 1099511627776 := by have := HTb.out (k + 1); rw [HT1.out] at this; exact this
      clear hl hv hnl
      go_wp2
      go_round
      case rel => exact ⟨k + 1, by omega, by go_num, by rw [HT1.out]; go_num⟩
      case measure => simp [intOf]; omega
    · obtain rfl : k = K := by omega
      go_wp2_with (go_at_call 92; refine (grow_any _ hTk _).mono ?_; rintro e w1 ⟨A1, c1, rfl, ho1, hb1⟩)
      go_loopw [6, 27] (fun v i wr => ∃ (j : Nat) (A : Option Addr) (n c : Nat), j ≤ k ∧ i = .int .i64 j ∧ v = .slice A n c ∧ wr.ownsRow w.heap.size 9 1 (.slice A n c) n ((ls.take j).flatten.map encs) ∧ Below w.heap.size w wr) (fun _ i _ => k - (intOf i).toNat)
      case atStart => exact ⟨0, A1, 0, c1, Nat.zero_le _, rfl, rfl, ho1, hb1⟩
      case round =>
        obtain ⟨j, A, n, c, hj, rfl, rfl, ho, hb⟩ := hrel
        have hn := ho.1
        rw [List.length_map] at hn
        by_cases hlt2 : j < k
        · obtain ⟨l, hl⟩ : ∃ l, ls[j]? = some l := ⟨ls[j]'(by rw [← HK.out]; exact hlt2), List.getElem?_eq_getElem _⟩
          obtain ⟨A2, m, c2, hv, hs⟩ := hp.sees j l hl
          have hc := (hb.cell (p := ⟨g, j, none⟩) hg).trans (hp.cell j _ hv)
          have hnl := hs.len
          rw [List.length_map] at hnl
          have hlen : n + m ≤ 1099511627776 := by
            have h1 := HTb.out (j + 1)
            rw [HT.out, flat_succ hl, List.length_append, ← hnl] at h1
            omega
          have hs2 := src_strs (hs.below hb) (c := c2)
          have Hfl := Lib.hid (flat_succ hl)
          clear hl hv hnl hn
          go_wp2_with (at_builtin; refine wpList_append_row rfl _ _ _ _ rfl elem_s rfl rfl ho hs2 hlen hb.size ?_; intro A' c' w' ho' hg' hat')
          go_roundw
          case rel => exact ⟨j + 1, A', n + m, c', by omega, by go_num, rfl, by rw [Hfl.out, List.map_append]; exact ho', hb.grown hg' hb.size (fun q hq => (ho.lt q hq).1)⟩
          case measure => simp [intOf]; omega
        · obtain rfl : j = k := by omega
          have hall : ls.take j = ls := List.take_of_length_le (by rw [HK.out]; exact Nat.le_refl _)
          rw [hall] at ho hn
          obtain rfl : n = ls.flatten.length := by omega
          have Ho := Lib.hid ho
          clear ho hn hall
          go_wp2
          go_ret
          exact ⟨A, c, rfl, sees_own Ho.out, hb⟩
end Go.Proofs.YtlcbhooiinaalaaGreatDoor.Nm
namespace Go.Proofs.YtlcbhooiinaalaaGreatDoor.Cv
open Go.RowKit Go.Proofs.YtlcbhooiinaalaaGreatDoor.Jd Go.Proofs.YtlcbhooiinaalaaGreatDoor.Li Go.Proofs.YtlcbhooiinaalaaGreatDoor.Pt
set_option maxRecDepth 100000

/-- What stands below a name, in a tree of values. -/
def valF (t : Tr) (c : ByteArray) : ByteArray :=
  match getT t [c] with
  | (.cons s _ _, true) => s
  | _ => ⟨#[]⟩
/-- No level below one of its names is empty. -/
def Full (t : Tr) : Prop := ∀ c, (getT t [c]).2 = true → 0 < (getT t [c]).1.len
theorem sees_one {w : World} {g : Nat} {c : ByteArray} (h : w.heap[g]? = some (.cells #[.string c] 9 (0, 0))) : SeesV w w.heap.size (some ⟨g, 0, none⟩) 1 ([c].map Value.string) :=
  ⟨rfl, fun j u hu => ⟨g, 0, rfl, (Array.getElem?_eq_some_iff.1 h).1, by rw [cell_of_row _ _ _ _ _ _ h, Nat.zero_add]; simpa using hu⟩⟩

set_option maxHeartbeats 4000000 in
theorem valueAt_any (t : Tr) (c : ByteArray) (A : Option Addr) (n cc : Nat) (w : World) (h : Holds w w.heap.size A n t) (ha : AscD t) (hz : t.size ≤ 274877906944) (hf : Full t) :
    Calls Tryz.prog 102 #[.slice A n cc, .string c] w fun e w' => e = .returned (.string (valF t c)) ∧ Below w.heap.size w w' := by
  have hb0 : Below w.heap.size w (w.alloc (Obj.cells #[.string c] 9)) := (Below.refl _ _).alloc (Nat.le_refl _) _
  have HG := Lib.hid (get_any t [c] A (some ⟨w.heap.size, 0, none⟩) n cc 1 1 (w.alloc (Obj.cells #[.string c] 9)) ((h.below hb0).more hb0.size) (sees_one (heap_alloc_new w _)) ha hz (by simp))
  have hF := hf c
  have hV : valF t c = match getT t [c] with | (.cons s _ _, true) => s | _ => ⟨#[]⟩ := rfl
  obtain ⟨R, hR⟩ : ∃ R, R = getT t [c] := ⟨_, rfl⟩
  rw [← hR] at HG hF hV
  have HV := Lib.hid hV
  have HF := Lib.hid hF
  have HB0 := Lib.hid hb0
  clear h ha hz hf hb0 hF hV hR
  obtain ⟨k, u⟩ := R
  cases u with
  | false =>
    go_enter Tryz.func102, Tryz.ntmps102
    go_wp2_with fail
    (with_reducible refine HG.out.mono ?_)
    rintro e w1 ⟨A', n', c', rfl, hn, hc, hh, hb⟩
    have HB := Lib.hid (HB0.out.trans (hb.mono HB0.out.size))
    clear hh hb hn hc
    go_wp2_with fail
    go_ret
    exact ⟨by rw [HV.out]; rfl, HB.out⟩
  | true =>
    cases k with
    | nil => exact absurd (HF.out rfl) (by simp [Tr.len])
    | cons s k r =>
      go_enter Tryz.func102, Tryz.ntmps102
      go_wp2_with fail
      (with_reducible refine HG.out.mono ?_)
      rintro e w1 ⟨A', n', c', rfl, hn, hc, ⟨b, o, rfl, hb1, hs, _, m, rfl, _⟩, hb⟩
      have HB := Lib.hid (HB0.out.trans (hb.mono HB0.out.size))
      have hm1 : (0 : Int) < (m : Int) + 1 := by omega
      clear hb hn hc
      go_wp2_with fail
      go_ret
      exact ⟨by rw [HV.out]; rfl, HB.out⟩
theorem record1_any (t : Tr) (c : ByteArray) (A : Option Addr) (n cc gb : Nat) (w : World) (h : Holds w w.heap.size A n t) (hg : w.cell? ⟨gb, 0, none⟩ = some (.slice A n cc)) (ha : AscD t) (hz : t.size ≤ 274877906944) (hf : Full t) :
    Calls Tryz.prog 101 #[.string c, .pointer (some ⟨gb, 0, none⟩)] w fun e w' => e = .returned (.string (valF t c)) ∧ Below w.heap.size w w' := by
  have HV := Lib.hid (valueAt_any t c A n cc w h ha hz hf)
  clear h ha hz hf
  go_enter Tryz.func101, Tryz.ntmps101
  go_wp2_with fail
  (with_reducible refine HV.out.mono ?_)
  rintro e w1 ⟨rfl, hb⟩
  go_wp2_with fail
  go_ret
  exact ⟨rfl, hb⟩
/-- What a row's fields mean. -/
def recF (name : ByteArray) (cols : List ByteArray) (t : Tr) : List ByteArray := name :: cols.map (valF t)
theorem encs_strs (ms : List ByteArray) : (ms.map fun m => m.data.toList).map encs = ms.map Value.string := by
  rw [List.map_map]
  exact List.map_congr_left fun m _ => by simp [encs]
end Go.Proofs.YtlcbhooiinaalaaGreatDoor.Cv
namespace Go.Proofs.YtlcbhooiinaalaaGreatDoor.Cv
open Go.RowKit Go.Proofs.YtlcbhooiinaalaaGreatDoor.Jd Go.Proofs.YtlcbhooiinaalaaGreatDoor.Li Go.Proofs.YtlcbhooiinaalaaGreatDoor.Pt
set_option maxRecDepth 100000

/-- A row of these texts. -/
def StP (w : World) (ms : List ByteArray) (en : Ending) (w' : World) : Prop :=
  ∃ A c, en = .returned (.slice A ms.length c) ∧ SeesV w' w'.heap.size A ms.length (ms.map Value.string) ∧ Below w.heap.size w w'
theorem strs_encs {w : World} {B n : Nat} {A : Option Addr} {ms : List ByteArray} (h : SeesV w B A n (ms.map Value.string)) : SeesV w B A n ((ms.map fun m => m.data.toList).map Go.Proofs.YtlcbhooiinaalaaGreatDoor.encs) := by
  have e : (ms.map fun m => m.data.toList).map Go.Proofs.YtlcbhooiinaalaaGreatDoor.encs = ms.map Value.string := by
    rw [List.map_map]
    exact List.map_congr_left fun m _ => by simp [Go.Proofs.YtlcbhooiinaalaaGreatDoor.encs]
  rw [e]; exact h
theorem encs_strs' {w : World} {B n : Nat} {A : Option Addr} {ms : List ByteArray} (h : SeesV w B A n ((ms.map fun m => m.data.toList).map Go.Proofs.YtlcbhooiinaalaaGreatDoor.encs)) : SeesV w B A n (ms.map Value.string) := by
  have e : (ms.map fun m => m.data.toList).map Go.Proofs.YtlcbhooiinaalaaGreatDoor.encs = ms.map Value.string := by
    rw [List.map_map]
    exact List.map_congr_left fun m _ => by simp [Go.Proofs.YtlcbhooiinaalaaGreatDoor.encs]
  rw [← e]; exact h
theorem concat2_any (l k : List ByteArray) (A B : Option Addr) (n m c d : Nat) (V : World) (h1 : SeesV V V.heap.size A n (l.map Value.string)) (h2 : SeesV V V.heap.size B m (k.map Value.string)) (hl : n + m ≤ 1000000) (g : Nat) (hg : g = V.heap.size) :
    Calls Tryz.prog 63 #[.slice (some ⟨g, 0, none⟩) 2 2] (V.alloc (Obj.cells #[.slice A n c, .slice B m d] 28)) fun e w' => ∃ A' c', e = .returned (.slice A' (l ++ k).length c') ∧ SeesV w' w'.heap.size A' (l ++ k).length ((l ++ k).map Value.string) ∧ Below V.heap.size V w' := by
  subst hg
  have e1 := h1.len
  have e2 := h2.len
  rw [List.length_map] at e1 e2
  have hb : Below V.heap.size V (V.alloc (Obj.cells #[.slice A n c, .slice B m d] 28)) := (Below.refl _ _).alloc (Nat.le_refl _) _
  have hc := Nm.concat_any V.heap.size 2 _ [l.map fun x => x.data.toList, k.map fun x => x.data.toList] _ (Nm.Parts.two (heap_alloc_new V _) (strs_encs (seesV_more (h1.below hb) hb.size)) (strs_encs (seesV_more (h2.below hb) hb.size))) rfl (by decide) (by simp; omega) (by simp)
  refine hc.mono ?_
  rintro e w' ⟨A', c', rfl, hs, hb2⟩
  have ef : [l.map fun x => x.data.toList, k.map fun x => x.data.toList].flatten = (l ++ k).map fun x => x.data.toList := by simp
  rw [ef] at hs ⊢
  rw [List.length_map] at hs ⊢
  exact ⟨A', c', rfl, encs_strs' hs, hb.trans (hb2.mono hb.size)⟩

set_option maxHeartbeats 4000000 in
theorem record_any (name : ByteArray) (t : Tr) (cols : List ByteArray) (A Ac : Option Addr) (n c nc cc : Nat) (w : World) (h : Holds w w.heap.size A n t) (ha : AscD t) (hz : t.size ≤ 274877906944) (hf : Full t) (hc : SeesV w w.heap.size Ac nc (cols.map Value.string)) (hn : nc ≤ 100000) :
    Calls Tryz.prog 69 #[.string name, .slice A n c, .slice Ac nc cc] w (StP w (recF name cols t)) := by
  have hcl : nc = cols.length := by have := hc.len; rwa [List.length_map] at this
  have hb0 : Below w.heap.size w (w.alloc (Obj.cells #[.slice A n c] 30)) := (Below.refl _ _).alloc (Nat.le_refl _) _
  have hg0 : (w.alloc (Obj.cells #[.slice A n c] 30)).cell? ⟨w.heap.size, 0, none⟩ = some (.slice A n c) := by rw [cell_of_row _ _ _ _ _ _ (heap_alloc_new w _)]; rfl
  have HE := Lib.hid (eachV_any cols (cols.map (valF t)) Ac nc cc w.heap.size w.heap.size (w.alloc (Obj.cells #[.slice A n c] 30)) hb0.size hn (by rw [List.length_map]; exact hcl) (hc.below hb0) hcl (fun k r hr m hm W hW => by
    rw [List.getElem?_map, hm] at hr
    simp only [Option.map_some, Option.some.injEq] at hr
    subst hr
    have hq := hb0.trans (hW.mono hb0.size)
    exact record1_any t m A n c w.heap.size W ((h.below hq).more hq.size) ((hW.cell (p := ⟨w.heap.size, 0, none⟩) (by simp)).trans hg0) ha hz hf))
  have Hcl := Lib.hid hcl
  have HB0 := Lib.hid hb0
  clear h ha hz hf hc hb0 hg0 hcl
  go_enter Tryz.func69, Tryz.ntmps69
  go_wp2_with fail
  (with_reducible refine HE.out.mono ?_)
  rintro e w1 ⟨g, rfl, hgb, hgc, hb1⟩
  have hv : SeesV w1 w1.heap.size (some ⟨g, 0, none⟩) nc ((cols.map (valF t)).map Value.string) := ⟨by simp; exact Hcl.out, fun j u hu => ⟨g, 0, rfl, (Array.getElem?_eq_some_iff.1 hgc).1, by rw [cell_of_row _ _ _ _ _ _ hgc, Nat.zero_add]; simpa using hu⟩⟩
  have hb2 : Below w1.heap.size w1 (w1.alloc (Obj.cells #[.string name] 9)) := (Below.refl _ _).alloc (Nat.le_refl _) _
  have HC := Lib.hid (concat2_any [name] (cols.map (valF t)) (some ⟨w1.heap.size, 0, none⟩) (some ⟨g, 0, none⟩) 1 nc 1 nc (w1.alloc (Obj.cells #[.string name] 9)) (sees_one (heap_alloc_new w1 _)) (seesV_more (hv.below hb2) hb2.size) (by omega) (w1.heap.size + 1) (by simp))
  have HB2 := Lib.hid (HB0.out.trans ((hb1.trans (hb2.mono hb1.size)).mono HB0.out.size))
  clear hgc hv hb1 hb2 hgb
  go_wp2_with fail
  (with_reducible refine HC.out.mono ?_)
  rintro e w3 ⟨A3, c3, rfl, hs3, hb3⟩
  have HS := Lib.hid hs3
  have HB3 := Lib.hid (HB2.out.trans (hb3.mono HB2.out.size))
  clear hs3 hb3
  go_wp2_with fail
  go_ret
  exact ⟨A3, c3, by rw [show (recF name cols t).length = cols.length + 1 by simp [recF]]; rfl, HS.out, HB3.out⟩
end Go.Proofs.YtlcbhooiinaalaaGreatDoor.Cv
namespace Go.Proofs.YtlcbhooiinaalaaGreatDoor.Cv
open Go.RowKit Go.Sort Go.Lib Go.Shelf Go.Proofs.YtlcbhooiinaalaaGreatDoor.Jd Go.Proofs.YtlcbhooiinaalaaGreatDoor.Li Go.Proofs.YtlcbhooiinaalaaGreatDoor.Pt
set_option maxRecDepth 100000

/-- Those that are not among others. -/
def lessF (ss : List Bs) (others : List ByteArray) : List Bs := ss.filter fun l => !(Lib.containsS others ⟨l.toArray⟩)

theorem contains_sees (ms : List ByteArray) (x : ByteArray) (A : Option Addr) (n c B : Nat) (w : World) (h : SeesV w B A n (ms.map Value.string)) (hn : n ≤ 1000000) :
    Calls Tryz.prog 95 #[.slice A n c, .string x] w fun e w' => e = .returned (.bool (Lib.containsS ms x)) ∧ w' = w := by
  have hl : n = ms.length := by have := h.len; rwa [List.length_map] at this
  cases ms with
  | nil =>
    obtain rfl : n = 0 := hl
    exact Tryz.slices_Contains_string_empty A c x w
  | cons m r =>
    obtain ⟨b, o, rfl, _, _⟩ := h.cell 0 (.string m) rfl
    have hc := Tryz.slices_Contains_string b o n c (m :: r) x w (by omega) (by omega) (fun j hj => by
      obtain ⟨b', o', he, _, hcell⟩ := h.cell j (.string ((m :: r)[j]'hj)) (by rw [List.getElem?_map, List.getElem?_eq_getElem hj]; rfl)
      injection he with he
      injection he with e1 e2
      subst e1; subst e2
      rw [hcell, List.getD_eq_getElem?_getD, List.getElem?_eq_getElem hj]
      rfl)
    rw [List.take_of_length_le (by omega)] at hc
    exact hc
theorem less1_any (ms : List ByteArray) (l : Bs) (A : Option Addr) (n c B gb : Nat) (w : World) (h : SeesV w B A n (ms.map Value.string)) (hg : w.cell? ⟨gb, 0, none⟩ = some (.slice A n c)) (hn : n ≤ 1000000) :
    FnGives Tryz.prog 94 #[.pointer (some ⟨gb, 0, none⟩)] #[encStr l] (.bool (Lib.containsS ms ⟨l.toArray⟩)) w := by
  have HC := Lib.hid (contains_sees ms ⟨l.toArray⟩ A n c B w h hn)
  clear h
  show Calls Tryz.prog 94 #[.string ⟨l.toArray⟩, .pointer (some ⟨gb, 0, none⟩)] w _
  go_enter Tryz.func94, Tryz.ntmps94
  go_wp2_with fail
  (with_reducible refine HC.out.mono ?_)
  rintro e w1 ⟨rfl, rfl⟩
  go_wp2_with fail
  go_ret
  exact ⟨rfl, 0, rfl⟩
theorem encStr_one : OneCell encStr := fun _ => rfl
theorem row1_cell {w : World} {g : Nat} {ss : List Bs} (h : Go.Sort.Holds encStr w g 0 ss.toArray) (j : Nat) (l : Bs) (hj : ss[j]? = some l) : w.cell? ⟨g, j, none⟩ = some (encStr l) := by
  have hl : j < ss.length := (List.getElem?_eq_some_iff.1 hj).1
  have := (h j (by simpa using hl)).1
  rw [Nat.zero_add] at this
  rw [this, getElem!_pos _ j (by simpa using hl)]
  simp only [List.getElem_toArray]
  rw [← (List.getElem?_eq_some_iff.1 hj).2]

theorem row_apart {w W : World} {B base n N c : Nat} {A A2 : Option Addr} {vs : List Value} {ss : List Bs} (hs : SeesV w B A n vs) (hv : vs ≠ []) (hr : Row1 W base A2 N c ss) (hn : ss ≠ []) (hB : B ≤ base) : ∀ b o g, A = some ⟨b, o, none⟩ → A2 = some ⟨g, 0, none⟩ → b ≠ g := by
  intro b o g h1 h2
  obtain ⟨v, r, rfl⟩ := List.exists_cons_of_ne_nil hv
  obtain ⟨b', o', ha, hb, _⟩ := hs.cell 0 v rfl
  rcases hr.2 with h0 | ⟨g', e, hg, _⟩
  · exact absurd h0 hn
  · rw [h1] at ha
    rw [h2] at e
    injection ha with ha
    injection ha with e1 _
    injection e with e
    injection e with e2 _
    omega

set_option maxHeartbeats 4000000 in
theorem less_any (ss : List Bs) (ms : List ByteArray) (A Ao : Option Addr) (N c no co base : Nat) (w : World) (h : Row1 w base A N c ss) (ho : SeesV w w.heap.size Ao no (ms.map Value.string)) (hd : ms ≠ [] → ss ≠ [] → ∀ b o g, Ao = some ⟨b, o, none⟩ → A = some ⟨g, 0, none⟩ → b ≠ g) (hb : base ≤ w.heap.size) (hN : N ≤ 1000000) (hno : no ≤ 1000000) :
    Calls Tryz.prog 64 #[.slice A N c, .slice Ao no co] w fun e w' => e = .returned (.slice A (lessF ss ms).length c) ∧ Row1 w' base A (lessF ss ms).length c (lessF ss ms) ∧ Below base w w' := by
  obtain ⟨hNl, hs⟩ := h
  have hb0 : Below w.heap.size w (w.alloc (Obj.cells #[.slice Ao no co] 28)) := (Below.refl _ _).alloc (Nat.le_refl _) _
  have hg0 : (w.alloc (Obj.cells #[.slice Ao no co] 28)).cell? ⟨w.heap.size, 0, none⟩ = some (.slice Ao no co) := by rw [cell_of_row _ _ _ _ _ _ (heap_alloc_new w _)]; rfl
  by_cases h0 : ss = []
  · subst h0
    obtain rfl : N = 0 := hNl
    have hD : Calls Tryz.prog 93 #[.slice A 0 c, .func (.func 94) #[] #[.pointer (some ⟨w.heap.size, 0, none⟩)]] (w.alloc (Obj.cells #[.slice Ao no co] 28)) fun e w' => e = .returned (.slice A 0 c) ∧ Below w.heap.size (w.alloc (Obj.cells #[.slice Ao no co] 28)) w' := by
      have HI : Hid (∀ (fv : Value) (W : World), Calls Tryz.prog 128 #[.slice A 0 c, fv] W fun e w' => e = .returned (.int .i64 (-1)) ∧ w' = W) := Lib.hid (fun fv W => AnyE.slices_IndexFunc_empty Tryz.idxS A c fv W)
      clear hs ho hg0
      go_enter Tryz.func93, Tryz.ntmps93
      go_wp2_with fail
      (with_reducible refine (HI.out _ _).mono ?_)
      rintro e w1 ⟨rfl, rfl⟩
      go_wp2_with fail
      go_ret
      exact ⟨rfl, Below.refl _ _⟩
    have HD := Lib.hid hD
    have HB0 := Lib.hid hb0
    clear hD hs ho hg0 hb0
    go_enter Tryz.func64, Tryz.ntmps64
    go_wp2_with fail
    (with_reducible refine HD.out.mono ?_)
    rintro e w1 ⟨rfl, hb1⟩
    go_wp2_with fail
    go_ret
    exact ⟨rfl, ⟨rfl, .inl rfl⟩, (HB0.out.trans hb1).mono hb⟩
  · rcases hs with e | ⟨g, rfl, hgb, hgl, hc, hH⟩
    · exact absurd e h0
    · have hgne : w.heap.size ≠ g := by omega
      have hsz : ss.toArray.size = N := by rw [List.size_toArray]; exact hNl.symm
      have eg : ∀ args w, (callFunc 94 args).run Tryz.prog w = .ok (.enter 94 args) w := enters_of Tryz.func94 (by kernel_rfl) rfl
      have hH' : Go.Sort.Holds encStr (w.alloc (Obj.cells #[.slice Ao no co] 28)) g 0 ss.toArray := fun j hj => ⟨Lib.cell?_alloc_some _ (hH j hj).1, by rw [World.frozen?_alloc_old _ _ _ (by show g ≠ w.heap.size; omega)]; exact (hH j hj).2⟩
      have hob : ∀ W : World, (∀ b o, b < w.heap.size → b ≠ g → W.cell? ⟨b, o, none⟩ = w.cell? ⟨b, o, none⟩) → SeesV W w.heap.size Ao no (ms.map Value.string) := fun W hW => ⟨ho.len, fun j u hu => by
        obtain ⟨b, o, ha, hbb, hcc⟩ := ho.cell j u hu
        exact ⟨b, o, ha, hbb, (hW b _ hbb (hd (by rintro rfl; simp at hu) h0 b o g ha rfl)).trans hcc⟩⟩
      have hcon := AnyE.slices_DeleteFunc Tryz.delS encStr encStr_one (fun l => Lib.containsS ms ⟨l.toArray⟩) 94 #[.pointer (some ⟨w.heap.size, 0, none⟩)] eg [] Tryz.zeroValue9 g 0 c ss.toArray (w.alloc (Obj.cells #[.slice Ao no co] 28))
        (fun W x hW => less1_any ms x Ao no co w.heap.size w.heap.size W (hob W fun b o hbb _ => (hb0.trans (hW.mono hb0.size)).cell (p := ⟨b, o, none⟩) hbb) ((hW.cell (p := ⟨w.heap.size, 0, none⟩) (by simp)).trans hg0) hno)
        (fun n os dk x _ => less1_any ms x Ao no co w.heap.size w.heap.size _ (hob _ fun b o hbb hbg => by
          unfold sortWorld
          rw [cell?_grow _ _ _ (by show b < (putRow _ _ _ _ _).heap.size; rw [size_putRow]; simp; omega), cell?_putRow_other _ _ g 0 _ _ (Or.inl (by simpa using hbg))]
          exact hb0.cell (p := ⟨b, o, none⟩) hbb) (by
          unfold sortWorld
          rw [cell?_grow _ _ _ (by show w.heap.size < (putRow _ _ _ _ _).heap.size; rw [size_putRow]; simp), cell?_putRow_other _ _ g 0 _ _ (Or.inl hgne)]
          exact hg0) hno)
        hH' (by rw [hsz]; omega) (by rw [hsz]; exact hc)
      rw [hsz] at hcon
      have hF : (ss.toArray.toList.filter fun x => !(Lib.containsS ms ⟨x.toArray⟩)) = lessF ss ms := by simp [lessF]
      rw [hF] at hcon
      have hle : (lessF ss ms).length ≤ ss.length := List.length_filter_le ..
      obtain ⟨r, hr⟩ : ∃ r, r = lessF ss ms := ⟨_, rfl⟩
      rw [← hr] at hcon hle ⊢
      have HC : Hid (Calls Tryz.prog 93 #[.slice (some ⟨g, 0, none⟩) N c, .func (.func 94) #[] #[.pointer (some ⟨w.heap.size, 0, none⟩)]] (w.alloc (Obj.cells #[.slice Ao no co] 28)) fun e w' => e = .returned (.slice (some ⟨g, 0, none⟩) r.length c) ∧ Row1 w' base (some ⟨g, 0, none⟩) r.length c r ∧ Below base w w') := by
        refine Lib.hid (hcon.mono ?_)
        rintro e w' ⟨rfl, q, rfl⟩
        have hd : (r ++ List.replicate (N - r.length) ([] : Bs)).toArray.size = ss.toArray.size := by simp; omega
        have hH2 := Go.Sort.holds_putRow encStr (Sort.ahead (w.alloc (Obj.cells #[.slice Ao no co] 28)) q) g 0 ss.toArray (r ++ List.replicate (N - r.length) ([] : Bs)).toArray hH' hd
        refine ⟨rfl, ⟨rfl, .inr ⟨g, rfl, hgb, by rw [size_putRow]; simp; omega, by omega, fun j hj => ?_⟩⟩, ?_⟩
        · have hjr : j < r.length := by simpa using hj
          have hj2 : j < (r ++ List.replicate (N - r.length) ([] : Bs)).toArray.size := by simp; omega
          have := hH2 j hj2
          rw [getElem!_pos _ j hj2] at this
          rw [getElem!_pos _ j hj]
          simp only [List.getElem_toArray] at this ⊢
          rw [List.getElem_append_left hjr] at this
          exact this
        · exact (hb0.mono hb).trans (below_putRow encStr _ q hgb)
      clear hcon hH' hH hob ho hle hr hF eg hg0 hb0 hsz hNl
      go_enter Tryz.func64, Tryz.ntmps64
      go_wp2_with fail
      (with_reducible refine HC.out.mono ?_)
      rintro e w1 ⟨rfl, hrow, hb1⟩
      have HR := Lib.hid hrow
      clear hrow
      go_wp2_with fail
      go_ret
      exact ⟨rfl, HR.out, hb1⟩
end Go.Proofs.YtlcbhooiinaalaaGreatDoor.Cv
namespace Go.Proofs.YtlcbhooiinaalaaGreatDoor
open Go.RowKit
set_option maxRecDepth 100000

theorem compact_own {w : World} {base N c : Nat} {A : Option Addr} {zs : List (List UInt8)} (h : Row1 w base A N c zs) (hsz : N < 4611686018427387904) :
    Calls Tryz.prog 104 #[.slice A N c] w fun e w' => e = .returned (.slice A (once zs).length c) ∧ Row1 w' base A (once zs).length c (once zs) ∧ Below base w w' := by
  have hle := once_le zs
  obtain ⟨hN, hs⟩ := h
  subst hN
  by_cases h0 : zs = []
  · subst h0
    have hl : (once []).length = 0 := by simpa using hle
    refine (Tryz.slices_Compact_string_empty A c w).mono ?_
    rintro e w' ⟨rfl, rfl⟩
    rw [hl]
    exact ⟨rfl, ⟨hl.symm, .inl (List.eq_nil_of_length_eq_zero hl)⟩, Below.refl _ _⟩
  · rcases hs with e | ⟨g, rfl, hg, hgl, hc, hH⟩
    · exact absurd e h0
    · refine (Tryz.slices_Compact_string g 0 c zs w hH (by omega) hc).mono ?_
      rintro e w' ⟨rfl, q, rfl⟩
      have hle' : (Go.Lib.compact zs).length ≤ zs.length := hle
      have hd : (Go.Lib.compact zs ++ List.replicate (zs.length - (Go.Lib.compact zs).length) ([] : List UInt8)).toArray.size = zs.toArray.size := by simp; omega
      have hH2 := Go.Sort.holds_putRow encStr (Go.Sort.ahead w q) g 0 zs.toArray _ hH hd
      refine ⟨rfl, ⟨rfl, .inr ⟨g, rfl, hg, by simpa using hgl, Nat.le_trans hle hc, fun j hj => ?_⟩⟩, below_putRow encStr _ q hg⟩
      have hjr : j < (Go.Lib.compact zs).length := by
        have h2 : j < (once zs).length := by simpa using hj
        exact h2
      have hj2 : j < (Go.Lib.compact zs ++ List.replicate (zs.length - (Go.Lib.compact zs).length) ([] : List UInt8)).toArray.size := by simp; omega
      have := hH2 j hj2
      rw [getElem!_pos _ j hj2] at this
      rw [getElem!_pos _ j hj]
      simp only [List.getElem_toArray] at this ⊢
      rw [List.getElem_append_left hjr] at this
      exact this

set_option maxHeartbeats 2000000 in
theorem names_own (xs : List Slc) (A0 : Option Addr) (n0 c0 B : Nat) (w : World) (hx : Forest w B A0 xs) (hn0 : n0 = xs.length) (hB : B ≤ w.heap.size) (hsz : (allNames xs).length ≤ 549755813888) (hl : xs.length ≤ 549755813888) :
    Calls Tryz.prog 70 #[.slice A0 n0 c0] w fun e w' => ∃ A' c', e = .returned (.slice A' (namesOf (allNames xs)).length c') ∧ Row1 w' w.heap.size A' (namesOf (allNames xs)).length c' (namesOf (allNames xs)) ∧ Below w.heap.size w w' := by
  have Hn0 := Lib.hid hn0
  have hnb : n0 ≤ 549755813888 := by omega
  clear hn0
  go_enter Tryz.func70, Tryz.ntmps70
  go_wp2_with fail
  go_loopw [3, 10] (fun s i wr => ∃ (k : Nat) (A : Option Addr) (N c : Nat), k ≤ n0 ∧ i = .int .i64 k ∧ s = .slice A N c ∧ wr.ownsRow w.heap.size 9 1 (.slice A N c) N (strs (allNames (xs.take k))) ∧ Below w.heap.size w wr) (fun _ i _ => n0 - (intOf i).toNat)
  case atStart => exact ⟨0, none, 0, 0, Nat.zero_le _, rfl, rfl, World.ownsRow_nil _ w.heap.size _ _, Below.refl _ _⟩
  case round =>
    obtain ⟨k, A, N, c, hk, rfl, rfl, ho, hb⟩ := hrel
    by_cases hlt : k < n0
    · obtain ⟨x, hxk⟩ : ∃ x, xs[k]? = some x := ⟨xs[k]'(by have := Hn0.out; omega), List.getElem?_eq_getElem _⟩
      obtain ⟨b, o, rfl, hbB, hcx, hh⟩ := hx k x hxk
      obtain ⟨xa, xn, xc, t⟩ := x
      simp only at hcx hh
      have hcw := (hb.cell (p := ⟨b, o + k, none⟩) (show b < w.heap.size by omega)).trans hcx
      have hkn : (k : Int) < (n0 : Int) := by omega
      have hk0 : (0 : Int) ≤ (k : Int) := by omega
      have hkb : k ≤ 549755813888 := by omega
      have Hn := Lib.hid hh.len
      have hap : Hid (allNames (xs.take (k + 1)) = allNames (xs.take k) ++ t.names) := by
        rw [List.take_add_one, hxk]
        exact Lib.hid (by simp [allNames])
      have hle : Hid ((allNames (xs.take (k + 1))).length ≤ 549755813888) := by
        have : (allNames (xs.take (k + 1))).length ≤ (allNames xs).length := by
          conv => rhs; rw [← List.take_append_drop (k + 1) xs]
          simp only [allNames, List.flatMap_append, List.length_append]
          omega
        exact Lib.hid (by omega)
      have hxn : xn ≤ 549755813888 := by
        have h1 := hle.out
        rw [hap.out, List.length_append, names_length] at h1
        have := Hn.out
        omega
      have hbw : b < w.heap.size := by omega
      clear hcx
      go_wp2_with fail
      go_loopw [3, 16] (fun s i wl => ∃ (j : Nat) (A : Option Addr) (N c : Nat), j ≤ xn ∧ i = .int .i64 j ∧ s = .slice A N c ∧ wl.ownsRow w.heap.size 9 1 (.slice A N c) N (strs (allNames (xs.take k) ++ t.names.take j)) ∧ Below w.heap.size w wl) (fun _ i _ => xn - (intOf i).toNat)
      case atStart => exact ⟨0, A, N, c, Nat.zero_le _, rfl, rfl, by rw [List.take_zero, List.append_nil]; exact ho, hb⟩
      case round =>
        clear ho
        obtain ⟨j, A, N, c, hj, rfl, rfl, ho, hbl⟩ := hrel
        by_cases hlj : j < xn
        · obtain ⟨b2, o2, s, kt, r, A', n', c', rfl, hb2, hs2, hc2, hn', hc', hk', hr, hd, hd2⟩ := (hh.keep fun p hp => hbl.cell (Nat.lt_of_lt_of_le hp hB)).split j hlj
          have hjn : (j : Int) < (xn : Int) := by omega
          have hj0 : (0 : Int) ≤ (j : Int) := by omega
          have hN : N = (allNames (xs.take k) ++ t.names.take j).length := by
            have := ho.1
            simp only [strs, List.length_map] at this
            omega
          have ht1 : Hid (strs (allNames (xs.take k) ++ t.names.take j) ++ strs [s] = strs (allNames (xs.take k) ++ t.names.take (j + 1))) := by
            have h1 := names_drop t j
            rw [hd] at h1
            have h2 : t.names[j]? = some s := by
              have := congrArg (·[0]?) h1
              simp [Tr.names] at this
              exact this.symm
            rw [List.take_add_one, h2]
            exact Lib.hid (by simp [strs])
          have hN2 : N + 1 ≤ 1099511627776 := by
            have h1 := hle.out
            rw [hap.out, List.length_append, names_length] at h1
            rw [hN, List.length_append, List.length_take]
            omega
          have hsz1 := hbl.size
          have hsrc : ∀ (W : World) (g : Nat), g = W.heap.size → Src Tryz.prog 1 28 (.slice (some ⟨g, 0, none⟩) 1 1) 1 (strs [s]) (W.alloc (Obj.cells #[Value.string s] 9)) := fun W g hg =>
            hg ▸ Src.laid Tryz.underlying28 rfl (fun j u hu => by rw [cell_of_row _ _ _ _ _ _ (heap_alloc_new W _), ← hu]; simp [strs]) (strs_one _)
          clear hd hd2 hr hN
          go_wp2_with (at_builtin; refine wpList_append_row rfl (.tmp 20) (.tmp 23) _ _ rfl elem_str rfl rfl ((ho.alloc _).alloc _) (hsrc _ _ (by simp)) hN2 (by simp; omega) ?_; intro A2 c2 w2 ho2 hg2 hat2)
          have hb2' : Below w.heap.size w w2 := ((hbl.alloc hbl.size _).alloc (by simp; omega) _).grown hg2 (by simp; omega) (fun q hq => (ho.lt q hq).1)
          go_roundw
          case rel => exact ⟨j + 1, A2, N + 1, c2, by omega, by go_num, rfl, by rw [← ht1.out]; exact ho2, hb2'⟩
          case measure => simp [intOf]; omega
        · obtain rfl : j = xn := by omega
          have ho' : wr.ownsRow w.heap.size 9 1 (.slice A N c) N (strs (allNames (xs.take (k + 1)))) := by
            rw [hap.out]
            rw [List.take_of_length_le (l := t.names) (by rw [names_length, Hn.out]; exact Nat.le_refl _)] at ho
            exact ho
          clear ho
          go_wp2_with fail
          go_roundw
          case rel => exact ⟨k + 1, A, N, c, by omega, by go_num, rfl, ho', hbl⟩
          case measure => simp [intOf]; omega
    · obtain rfl : k = n0 := by omega
      have ho' : wr.ownsRow w.heap.size 9 1 (.slice A N c) N (strs (allNames xs)) := by
        rw [List.take_of_length_le (by have := Hn0.out; omega)] at ho
        exact ho
      clear ho
      have hr := Row1.of ho'
      have hN : N < 4611686018427387904 := by
        have := ho'.1
        simp only [strs, List.length_map] at this
        omega
      have HS := Lib.hid (sort_row hr hN)
      have HC := Lib.hid (fun (W : World) (h : Row1 W w.heap.size A N c (sorted ((allNames xs).map (·.data.toList)))) => compact_own h hN)
      have hsz1 := hb.size
      clear hr ho'
      go_wp2_with fail
      refine HS.out.mono ?_
      rintro e w1 ⟨rfl, hr1, hb1⟩
      go_wp2_with fail
      refine (HC.out w1 hr1).mono ?_
      rintro e w2 ⟨rfl, hs2, hb2⟩
      go_wp2_with fail
      go_ret
      exact ⟨_, _, rfl, hs2, (hb.trans hb1).trans hb2⟩
theorem Row1.sees {w : World} {base N c : Nat} {A : Option Addr} {ss : List (List UInt8)} (h : Row1 w base A N c ss) : SeesV w w.heap.size A N (ss.map encStr) := by
  obtain ⟨hN, hs⟩ := h
  refine ⟨by rw [List.length_map]; exact hN, fun j u hu => ?_⟩
  rcases hs with rfl | ⟨g, rfl, _, hgl, _, hH⟩
  · simp at hu
  · rw [List.getElem?_map] at hu
    cases hj : ss[j]? with
    | none => rw [hj] at hu; cases hu
    | some l =>
      rw [hj] at hu
      refine ⟨g, 0, rfl, hgl, ?_⟩
      rw [Nat.zero_add, Cv.row1_cell hH j l hj]
      simpa using hu
end Go.Proofs.YtlcbhooiinaalaaGreatDoor
namespace Go.Proofs.YtlcbhooiinaalaaGreatDoor.Cv
open Go.RowKit Go.Proofs.YtlcbhooiinaalaaGreatDoor.Jd Go.Proofs.YtlcbhooiinaalaaGreatDoor.Li
set_option maxRecDepth 100000

theorem elem_trees : Elem Tryz.prog 42 30 (.slice none 0 0) 1 24 := ⟨Tryz.underlying42, by kernel_rfl, rfl, by omega⟩
theorem column1_any (s : ByteArray) (A : Option Addr) (n c : Nat) (w : World) : Calls Tryz.prog 97 #[.agg #[.string s, .slice A n c]] w fun e w' => e = .returned (.slice A n c) ∧ Below w.heap.size w w' := by
  have hb0 : Below w.heap.size w (w.alloc (Obj.cells #[.string s, .slice A n c] 55)) := (Below.refl _ _).alloc (Nat.le_refl _) _
  go_enter Tryz.func97, Tryz.ntmps97
  go_wp2_with fail
  go_ret
  exact ⟨rfl, hb0⟩

set_option maxHeartbeats 4000000 in
theorem eachT_any (rs : List Slc) (A : Option Addr) (n c B : Nat)  (w : World) (hB : B ≤ w.heap.size) (hn : n ≤ 100000) (hl : n = rs.length) (hK : ∀ (k : Nat) (x : Slc), rs[k]? = some x → ∃ b o s, A = some ⟨b, o, none⟩ ∧ b < B ∧ w.cell? ⟨b, o + k * 2, none⟩ = some (.string s) ∧ w.cell? ⟨b, o + k * 2 + 1, none⟩ = some (.slice x.at_ x.n x.c))
    (HF : ∀ (k : Nat) r, rs[k]? = some r → True) :
    Calls Tryz.prog 96 #[.slice A n c, .func (.func 97) #[] #[]] w (NwP w 30 (rs.map (fun x : Slc => Value.slice x.at_ x.n x.c)) n) := by
  obtain ⟨vs, hvs⟩ : ∃ vs, vs = rs.map (fun x : Slc => Value.slice x.at_ x.n x.c) := ⟨_, rfl⟩
  rw [← hvs]
  obtain ⟨i0, hi, hz0, hz1, hz2⟩ := info_parts elem_trees.info
  have hmk := fun W : World => run_make_row' (P := Tryz.prog) 42 30 (.slice none 0 0) 24 Tryz.underlying42 elem_trees.info rfl .i64 .i64 n (by omega) (by omega) W
  rw [partV_zero vs (.slice none 0 0) n] at hmk
  have Hl := Lib.hid (show n = vs.length by rw [hvs, List.length_map]; exact hl)
  have Hv := Lib.hid hvs
  have Hr := Lib.hid hl
  have HH := Lib.hid HF
  clear HF hi hz0 hz1 hz2 hl hvs
  go_enter Tryz.func96, Tryz.ntmps96
  go_wp2_with fail
  go_loopw [13] (fun i wr => ∃ (k : Nat), k ≤ n ∧ i = .int .i64 k ∧ Hid (wr.heap[w.heap.size]? = some (.cells (partV vs (.slice none 0 0) n k) 30 (0, 0))) ∧ Hid (Below w.heap.size w wr)) (fun i _ => n - (intOf i).toNat)
  case atStart => exact ⟨0, Nat.zero_le _, rfl, Lib.hid (heap_alloc_new w _), Lib.hid ((Below.refl _ _).alloc (Nat.le_refl _) _)⟩
  case round =>
    obtain ⟨k, hk, rfl, HG, HW⟩ := hrel
    by_cases hlt : k < n
    · obtain ⟨r, hr⟩ : ∃ r, rs[k]? = some r := ⟨_, List.getElem?_eq_getElem (by have := Hr.out; omega)⟩
      have hy : vs[k]? = some (.slice r.at_ r.n r.c) := by rw [Hv.out, List.getElem?_map, hr]; rfl
      obtain ⟨b, o, s, rfl, hbl, hc1, hc2⟩ := hK k r hr
      have hc3 := (HW.out.cell (p := ⟨b, o + k * 2, none⟩) (Nat.lt_of_lt_of_le hbl hB)).trans hc1
      have hc4 := (HW.out.cell (p := ⟨b, o + k * 2 + 1, none⟩) (Nat.lt_of_lt_of_le hbl hB)).trans hc2
      have hkn : (k : Int) < (n : Int) := by omega
      have hk0 : (0 : Int) ≤ (k : Int) := by omega
      have hgl := (Array.getElem?_eq_some_iff.1 HG.out).1
      have Hlt := Lib.hid hlt
      have HPs := Lib.hid (partV_set (z := .slice none 0 0) Hl.out hy)
      have hsz : k < (partV vs (.slice none 0 0) n k).size := by rw [partV_size Hl.out hk]; exact hlt
      have Hsz := Lib.hid hsz
      have hb1 : Below wr.heap.size wr (wr.alloc (Obj.cells #[.string s, .slice r.at_ r.n r.c] 55)) := (Below.refl _ _).alloc (Nat.le_refl _) _
      have HM := Lib.hid (column1_any s r.at_ r.n r.c (wr.alloc (Obj.cells #[.string s, .slice r.at_ r.n r.c] 55)))
      have Hb1 := Lib.hid hb1
      clear hc1 hc2 hb1
      clear hy hr hlt hsz
      go_wp2_with fail
      (with_reducible refine HM.out.mono ?_)
      rintro e w2 ⟨rfl, hb2⟩
      have hb12 : Below wr.heap.size wr w2 := Hb1.out.trans (hb2.mono (by simp))
      have hg2 : w2.heap[w.heap.size]? = some (.cells (partV vs (.slice none 0 0) n k) 30 (0, 0)) := (hb12.block _ hgl).trans HG.out
      have hcg : w2.cell? ⟨w.heap.size, k, none⟩ = some ((partV vs (.slice none 0 0) n k)[k]'Hsz.out) := by
        rw [cell_of_row _ _ _ _ _ _ hg2]
        exact Array.getElem?_eq_getElem Hsz.out
      obtain ⟨y0, hy0⟩ : ∃ y0, y0 = (partV vs (.slice none 0 0) n k)[k]'Hsz.out := ⟨_, rfl⟩
      rw [← hy0] at hcg
      have hfg : w2.frozen? ⟨w.heap.size, k, none⟩ = false := by simp [World.frozen?, hg2]
      have hg3 : (w2.setCell ⟨w.heap.size, k, none⟩ (.slice r.at_ r.n r.c)).heap[w.heap.size]? = some (.cells (partV vs (.slice none 0 0) n (k + 1)) 30 (0, 0)) := by
        rw [heap_setCell_same w2 _ k _ _ _ hg2, HPs.out]
      have HG3 := Lib.hid hg3
      have HB3 := Lib.hid (((HW.out.trans (hb12.mono HW.out.size)).setCell (p := ⟨w.heap.size, k, none⟩) (Nat.le_refl _) (.slice r.at_ r.n r.c)))
      clear hb2 hb12 hg2 hy0 hg3
      go_wp2_with fail
      go_roundw
      case rel => exact ⟨k + 1, Hlt.out, by go_num, HG3, HB3⟩
      case measure => have := Hlt.out; simp [intOf]; omega
    · obtain rfl : k = n := by omega
      have hg := HG.out
      rw [partV_all Hl.out] at hg
      have HG2 := Lib.hid hg
      clear hlt hg HG
      go_wp2_with fail
      go_ret
      exact ⟨w.heap.size, rfl, Nat.le_refl _, HG2.out, HW.out⟩

set_option maxHeartbeats 4000000 in
theorem eachN_any (ws : List Rw) (rs : List ByteArray) (A : Option Addr) (n c B : Nat)  (w : World) (hB : B ≤ w.heap.size) (hn : n ≤ 100000) (hl : n = rs.length) (h : SeesR w B A n ws)
    (HF : ∀ (k : Nat) r, rs[k]? = some r → ∀ q, ws[k]? = some q → ∀ W Af nf cf, Below w.heap.size w W → SeesL W B Af nf q.fs → Calls Tryz.prog 68 #[.agg #[.slice Af nf cf, .string q.en]] W fun e w' => e = .returned (.string r) ∧ Below W.heap.size W w') :
    Calls Tryz.prog 71 #[.slice A n c, .func (.func 68) #[] #[]] w (NwP w 9 (rs.map Value.string) n) := by
  obtain ⟨vs, hvs⟩ : ∃ vs, vs = rs.map Value.string := ⟨_, rfl⟩
  rw [← hvs]
  obtain ⟨i0, hi, hz0, hz1, hz2⟩ := info_parts elem_str.info
  have hmk := fun W : World => run_make_row' (P := Tryz.prog) 28 9 (.string ⟨#[]⟩) 16 Tryz.underlying28 elem_str.info rfl .i64 .i64 n (by omega) (by omega) W
  rw [partV_zero vs (.string ⟨#[]⟩) n] at hmk
  have Hl := Lib.hid (show n = vs.length by rw [hvs, List.length_map]; exact hl)
  have Hv := Lib.hid hvs
  have Hr := Lib.hid hl
  have HH := Lib.hid HF
  have Hwl := Lib.hid h.len
  clear HF hi hz0 hz1 hz2 hl hvs
  go_enter Tryz.func71, Tryz.ntmps71
  go_wp2_with fail
  go_loopw [13] (fun i wr => ∃ (k : Nat), k ≤ n ∧ i = .int .i64 k ∧ Hid (wr.heap[w.heap.size]? = some (.cells (partV vs (.string ⟨#[]⟩) n k) 9 (0, 0))) ∧ Hid (Below w.heap.size w wr)) (fun i _ => n - (intOf i).toNat)
  case atStart => exact ⟨0, Nat.zero_le _, rfl, Lib.hid (heap_alloc_new w _), Lib.hid ((Below.refl _ _).alloc (Nat.le_refl _) _)⟩
  case round =>
    obtain ⟨k, hk, rfl, HG, HW⟩ := hrel
    by_cases hlt : k < n
    · obtain ⟨r, hr⟩ : ∃ r, rs[k]? = some r := ⟨_, List.getElem?_eq_getElem (by have := Hr.out; omega)⟩
      have hy : vs[k]? = some (.string r) := by rw [Hv.out, List.getElem?_map, hr]; rfl
      obtain ⟨q, hq⟩ : ∃ q, ws[k]? = some q := ⟨_, List.getElem?_eq_getElem (by have := Hwl.out; omega)⟩
      obtain ⟨b, o, Af, nf, cf, rfl, hbl, hc1, hc2, hsf, _, _⟩ := h.at_ k q hq
      have hc3 := (HW.out.cell (p := ⟨b, o + k * 2, none⟩) (Nat.lt_of_lt_of_le hbl hB)).trans hc1
      have hc4 := (HW.out.cell (p := ⟨b, o + k * 2 + 1, none⟩) (Nat.lt_of_lt_of_le hbl hB)).trans hc2
      have hkn : (k : Int) < (n : Int) := by omega
      have hk0 : (0 : Int) ≤ (k : Int) := by omega
      have hgl := (Array.getElem?_eq_some_iff.1 HG.out).1
      have Hlt := Lib.hid hlt
      have HPs := Lib.hid (partV_set (z := .string ⟨#[]⟩) Hl.out hy)
      have hsz : k < (partV vs (.string ⟨#[]⟩) n k).size := by rw [partV_size Hl.out hk]; exact hlt
      have Hsz := Lib.hid hsz
      have hb1 : Below wr.heap.size wr (wr.alloc (Obj.cells #[.slice Af nf cf, .string q.en] 62)) := (Below.refl _ _).alloc (Nat.le_refl _) _
      have hq2 := HW.out.trans (hb1.mono HW.out.size)
      have HM := Lib.hid (HH.out k r hr q hq _ Af nf cf hq2 (hsf.below (hq2.mono hB)))
      have Hb1 := Lib.hid hb1
      clear hc1 hc2 hb1 hq2 hsf hq
      clear hy hr hlt hsz
      go_wp2_with fail
      (with_reducible refine HM.out.mono ?_)
      rintro e w2 ⟨rfl, hb2⟩
      have hb12 : Below wr.heap.size wr w2 := Hb1.out.trans (hb2.mono (by simp))
      have hg2 : w2.heap[w.heap.size]? = some (.cells (partV vs (.string ⟨#[]⟩) n k) 9 (0, 0)) := (hb12.block _ hgl).trans HG.out
      have hcg : w2.cell? ⟨w.heap.size, k, none⟩ = some ((partV vs (.string ⟨#[]⟩) n k)[k]'Hsz.out) := by
        rw [cell_of_row _ _ _ _ _ _ hg2]
        exact Array.getElem?_eq_getElem Hsz.out
      obtain ⟨y0, hy0⟩ : ∃ y0, y0 = (partV vs (.string ⟨#[]⟩) n k)[k]'Hsz.out := ⟨_, rfl⟩
      rw [← hy0] at hcg
      have hfg : w2.frozen? ⟨w.heap.size, k, none⟩ = false := by simp [World.frozen?, hg2]
      have hg3 : (w2.setCell ⟨w.heap.size, k, none⟩ (.string r)).heap[w.heap.size]? = some (.cells (partV vs (.string ⟨#[]⟩) n (k + 1)) 9 (0, 0)) := by
        rw [heap_setCell_same w2 _ k _ _ _ hg2, HPs.out]
      have HG3 := Lib.hid hg3
      have HB3 := Lib.hid (((HW.out.trans (hb12.mono HW.out.size)).setCell (p := ⟨w.heap.size, k, none⟩) (Nat.le_refl _) (.string r)))
      clear hb2 hb12 hg2 hy0 hg3
      go_wp2_with fail
      go_roundw
      case rel => exact ⟨k + 1, Hlt.out, by go_num, HG3, HB3⟩
      case measure => have := Hlt.out; simp [intOf]; omega
    · obtain rfl : k = n := by omega
      have hg := HG.out
      rw [partV_all Hl.out] at hg
      have HG2 := Lib.hid hg
      clear hlt hg HG
      go_wp2_with fail
      go_ret
      exact ⟨w.heap.size, rfl, Nat.le_refl _, HG2.out, HW.out⟩

end Go.Proofs.YtlcbhooiinaalaaGreatDoor.Cv
namespace Go.Proofs.YtlcbhooiinaalaaGreatDoor.Cv
open Go.RowKit Go.Proofs.YtlcbhooiinaalaaGreatDoor.Jd Go.Proofs.YtlcbhooiinaalaaGreatDoor.Li
set_option maxRecDepth 100000

def kidsL : Tr → List Tr
  | .nil => []
  | .cons _ k r => k :: kidsL r
/-- The names of all levels below. -/
def colsF (t : Tr) : List Bs := namesOf ((kidsL t).flatMap Tr.names)
theorem kids_of {w : World} {B : Nat} : ∀ {t : Tr} {A : Option Addr} {n : Nat}, Holds w B A n t → ∃ xs : List Slc, n = xs.length ∧ xs.map (·.t) = kidsL t ∧
    ∀ (k : Nat) (x : Slc), xs[k]? = some x → ∃ b o s, A = some ⟨b, o, none⟩ ∧ b < B ∧ w.cell? ⟨b, o + k * 2, none⟩ = some (.string s) ∧ w.cell? ⟨b, o + k * 2 + 1, none⟩ = some (.slice x.at_ x.n x.c) ∧ Holds w B x.at_ x.n x.t
  | .nil, _, _, h => ⟨[], h, rfl, fun k x hx => by simp at hx⟩
  | .cons s k r, _, _, ⟨b, o, rfl, hb, hs, ⟨A', n', c', hc, _, _, hk⟩, m, rfl, hr⟩ => by
    obtain ⟨xs, h1, h2, h3⟩ := kids_of hr
    refine ⟨⟨A', n', c', k⟩ :: xs, by simp [h1], by simp [h2, kidsL], fun j x hx => ?_⟩
    cases j with
    | zero =>
      simp only [List.getElem?_cons_zero, Option.some.injEq] at hx
      subst hx
      exact ⟨b, o, s, rfl, hb, by simpa using hs, by simpa using hc, hk⟩
    | succ j =>
      simp only [List.getElem?_cons_succ] at hx
      obtain ⟨b', o', s', he, hb', h4, h5, h6⟩ := h3 j x hx
      injection he with he
      injection he with e1 e2
      subst e1; subst e2
      exact ⟨b, o, s', rfl, hb', by rw [show o + (j + 1) * 2 = o + 2 + j * 2 by omega]; exact h4, by rw [show o + (j + 1) * 2 + 1 = o + 2 + j * 2 + 1 by omega]; exact h5, h6⟩

set_option maxHeartbeats 4000000 in
theorem columnsOf_any (t : Tr) (A : Option Addr) (n c : Nat) (w : World) (h : Holds w w.heap.size A n t) (hn : n ≤ 100000) (hz : ((kidsL t).flatMap Tr.names).length ≤ 549755813888) :
    Calls Tryz.prog 65 #[.slice A n c] w fun e w' => ∃ A' c', e = .returned (.slice A' (colsF t).length c') ∧ Row1 w' w.heap.size A' (colsF t).length c' (colsF t) ∧ Below w.heap.size w w' := by
  obtain ⟨xs, hl, hx, hk⟩ := kids_of h
  have hall : allNames xs = (kidsL t).flatMap Tr.names := by rw [← hx]; unfold allNames; rw [List.flatMap_map]
  have HE := Lib.hid (eachT_any xs A n c w.heap.size w (Nat.le_refl _) hn hl (fun k x hkx => by
    obtain ⟨b, o, s, h1, h2, h3, h4, _⟩ := hk k x hkx
    exact ⟨b, o, s, h1, h2, h3, h4⟩) (fun _ _ _ => trivial))
  have HN := Lib.hid (fun (g : Nat) (W : World) (hW : Below w.heap.size w W) (hg : W.heap[g]? = some (.cells (xs.map (fun x : Slc => Value.slice x.at_ x.n x.c)).toArray 30 (0, 0))) =>
    names_own xs (some ⟨g, 0, none⟩) n n W.heap.size W (fun j x hj => by
      obtain ⟨b, o, s, h1, h2, h3, h4, h5⟩ := hk j x hj
      refine ⟨g, 0, rfl, (Array.getElem?_eq_some_iff.1 hg).1, ?_, (h5.below hW).more hW.size⟩
      rw [cell_of_row _ _ _ _ _ _ hg, Nat.zero_add]
      simp [hj]) hl (Nat.le_refl _) (by rw [hall]; exact hz) (by omega))
  rw [hall] at HN
  clear h hk hx hz hall hl
  go_enter Tryz.func65, Tryz.ntmps65
  go_wp2_with fail
  (with_reducible refine HE.out.mono ?_)
  rintro e w1 ⟨g, rfl, hgb, hgc, hb1⟩
  have HN2 := Lib.hid (HN.out g w1 hb1 hgc)
  have HB1 := Lib.hid hb1
  clear hgc hb1
  go_wp2_with fail
  (with_reducible refine HN2.out.mono ?_)
  rintro e w2 ⟨A', c', rfl, hr, hb2⟩
  have HR := Lib.hid hr
  have HB2 := Lib.hid (HB1.out.trans (hb2.mono HB1.out.size))
  have hs1 := HB1.out.size
  clear hr hb2
  go_wp2_with fail
  go_ret
  refine ⟨A', c', rfl, ⟨HR.out.1, ?_⟩, HB2.out⟩
  rcases HR.out.2 with h0 | ⟨g2, e1, h1, h2, h3, h4⟩
  · exact .inl h0
  · exact .inr ⟨g2, e1, Nat.le_trans hs1 h1, h2, h3, h4⟩
end Go.Proofs.YtlcbhooiinaalaaGreatDoor.Cv
namespace Go.Proofs.YtlcbhooiinaalaaGreatDoor.Cv
open Go.RowKit Go.Proofs.YtlcbhooiinaalaaGreatDoor.Jd Go.Proofs.YtlcbhooiinaalaaGreatDoor.Li Go.Proofs.YtlcbhooiinaalaaGreatDoor.Pt
set_option maxRecDepth 100000

def mkB (l : Bs) : ByteArray := ⟨l.toArray⟩
/-- The columns of a file that a tree is put into. -/
def colsP (xl : List Ln) (t : Tr) : List ByteArray := mns xl ++ (lessF (colsF t) (mns xl)).map mkB
/-- Texts that may be written. -/
def Tx (m : ByteArray) : Prop := m.size ≤ 4000 ∧ Pl m
structure PutOk (hd : Rw) (x0 : Ln) (xl : List Ln) (rs : List Rw) (t : Tr) : Prop where
  head : hd.fs = x0 :: xl
  len : rs.length ≤ 5000 ∧ xl.length ≤ 5000 ∧ t.size ≤ 90000
  fs : ∀ r ∈ hd :: rs, r.fs.length = xl.length + 1 ∧ ∀ x ∈ r.fs, x.1.length ≤ 4000
  asc : AscD t
  full : ∀ name, (getT t [name]).2 = true → Full (getT t [name]).1
  vals : ∀ name c, Tx (valF (getT t [name]).1 c)
  nms : (∀ r ∈ rs, Tx (nm r)) ∧ ∀ s ∈ t.names, Tx s
  cols : ∀ m ∈ colsP xl t, Tx m
  few : (colsP xl t).length ≤ 90000
theorem names_few (t : Tr) : ((kidsL t).flatMap Tr.names).length ≤ t.size := by
  induction t with
  | nil => exact Nat.zero_le _
  | cons s k r _ ih =>
    have h1 := names_length k
    have h2 := k.len_size
    simp only [kidsL, List.flatMap_cons, List.length_append, Tr.size]
    omega
theorem encStr_strs (ss : List Bs) : ss.map encStr = (ss.map mkB).map Value.string := by
  rw [List.map_map]; rfl

theorem concatW_any (l k : List ByteArray) (A B : Option Addr) (n m c d g : Nat) (W : World) (hg : W.heap[g]? = some (Obj.cells #[.slice A n c, .slice B m d] 28)) (h1 : SeesV W W.heap.size A n (l.map Value.string)) (h2 : SeesV W W.heap.size B m (k.map Value.string)) (hl : n + m ≤ 1000000) :
    Calls Tryz.prog 63 #[.slice (some ⟨g, 0, none⟩) 2 2] W fun e w' => ∃ A' c', e = .returned (.slice A' (l ++ k).length c') ∧ SeesV w' w'.heap.size A' (l ++ k).length ((l ++ k).map Value.string) ∧ Below W.heap.size W w' := by
  have e1 := h1.len
  have e2 := h2.len
  rw [List.length_map] at e1 e2
  have hc := Nm.concat_any g 2 _ [l.map fun x => x.data.toList, k.map fun x => x.data.toList] _ (Nm.Parts.two hg (strs_encs h1) (strs_encs h2)) rfl (by decide) (by simp; omega) (Array.getElem?_eq_some_iff.1 hg).1
  refine hc.mono ?_
  rintro e w' ⟨A', c', rfl, hs, hb2⟩
  have ef : [l.map fun x => x.data.toList, k.map fun x => x.data.toList].flatten = (l ++ k).map fun x => x.data.toList := by simp
  rw [ef] at hs ⊢
  rw [List.length_map] at hs ⊢
  exact ⟨A', c', rfl, encs_strs' hs, hb2⟩
theorem own_line (v : World) (base : Nat) (x : Ln) (h : base ≤ v.heap.size) : OwnL (v.alloc (Obj.cells #[encs x.1, encs x.2] 88)) base (some ⟨v.heap.size, 0, none⟩) 1 1 [x] :=
  ⟨rfl, .inr ⟨v.heap.size, 1, #[encs x.1, encs x.2], rfl, h, heap_alloc_new v _, Nat.le_refl _, by simp [maxLen], rfl, rfl⟩⟩
abbrev kB : ByteArray := ⟨#[107, 101, 121]⟩
theorem kB_tx : Tx kB := ⟨by decide, fun j b h => by
  match j, h with
  | 0, h => simp at h; subst h; decide
  | 1, h => simp at h; subst h; decide
  | 2, h => simp at h; subst h; decide
  | j + 3, h => simp at h⟩
/-- A row of lines of one's own. -/
def P2 (w4 : World) (ls : List Ln) (v : Value) (wx : World) : Prop := ∃ A c, v = .slice A ls.length c ∧ OwnL wx w4.heap.size A ls.length c ls ∧ Below w4.heap.size w4 wx
theorem get_asc {t : Tr} {p : ByteArray} (h : AscD t) : AscD (getT t [p]).1 := by
  rw [getT]
  split
  · exact kidT_asc h
  · trivial
theorem get_size {t : Tr} {p : ByteArray} : (getT t [p]).1.size ≤ t.size := by
  rw [getT]
  split
  · exact kidT_size t p
  · exact Nat.zero_le _
theorem rowcells {W : World} {g : Nat} {a b : Value} (h : W.heap[g]? = some (Obj.cells #[a, b] 62)) : W.cell? ⟨g, 0, none⟩ = some a ∧ W.cell? ⟨g, 1, none⟩ = some b :=
  ⟨by rw [cell_of_row _ _ _ _ _ _ h]; rfl, by rw [cell_of_row _ _ _ _ _ _ h]; rfl⟩
theorem box_grown {W W' : World} {g : Nat} {ob : Obj} {v : Value} (hg : W.heap[g]? = some ob) (hG : W.grownBy W' v.ownBlock) (hv : v.ownBlock ≠ some g) : W'.heap[g]? = some ob :=
  (hG.block g (Array.getElem?_eq_some_iff.1 hg).1 (fun e => hv e.symm)).trans hg
theorem stay_step {f : Rw → Option Ln} {rs : List Rw} {k : Nat} {r : Rw} (h : rs[k]? = some r) : (rs.take (k + 1)).filterMap f = (rs.take k).filterMap f ++ (f r).toList := by
  rw [List.take_add_one, h, List.filterMap_append]
  cases hf : f r <;> simp [hf]
/-- The line of a record that stays. -/
def stayF (cols : List ByteArray) (t : Tr) (r : Rw) : Option Ln := if (getT t [nm r]).2 = true then some (sayF (recF (nm r) cols (getT t [nm r]).1) r) else none
theorem row1_keep {w w' : World} {base N c : Nat} {A : Option Addr} {ss : List Bs} (h : Row1 w base A N c ss) (hb : Below w.heap.size w w') : Row1 w' base A N c ss :=
  ⟨h.1, h.2.imp id fun ⟨g, e, h1, h2, h3, h4⟩ => ⟨g, e, h1, Nat.lt_of_lt_of_le h2 hb.size, h3, fun j hj => ⟨(hb.cell (p := ⟨g, 0 + j, none⟩) h2).trans (h4 j hj).1, by
    have h5 := (h4 j hj).2
    unfold World.frozen? at h5 ⊢
    rw [hb.block _ h2]
    exact h5⟩⟩⟩
theorem apart_new {W : World} {base N c g11 : Nat} {A : Option Addr} {ss : List Bs} (hr : Row1 W base A N c ss) (hg : W.heap.size ≤ g11) (hs : ss ≠ []) : ∀ b o g, some (⟨g11, 0, none⟩ : Addr) = some ⟨b, o, none⟩ → A = some ⟨g, 0, none⟩ → b ≠ g := by
  intro b o g h1 h2
  injection h1 with h1
  injection h1 with e1 _
  rcases hr.2 with h0 | ⟨g', e2, _, h3, _⟩
  · exact absurd h0 hs
  · rw [h2] at e2
    injection e2 with e2
    injection e2 with e2 _
    omega
/-- The names that are new. -/
def P3 (w8 : World) (F : List Bs) (a b d : Value) (wx : World) : Prop := ∃ A c, a = .slice A F.length c ∧ b = .int .i64 F.length ∧ d = .int .i64 0 ∧ SeesV wx wx.heap.size A F.length ((F.map mkB).map Value.string) ∧ Below w8.heap.size w8 wx
theorem owns_below {w w' : World} {base size n c : Nat} {e : TypeId} {A : Option Addr} {vs : List Value} (h : w.ownsRow base e size (.slice A n c) n vs) (hb : Below w.heap.size w w') : w'.ownsRow base e size (.slice A n c) n vs :=
  World.ownsRow.kept h (row := none) ⟨hb.os, hb.tape, hb.output, hb.size, fun i hi _ => hb.block i hi⟩ (by cases hv : (Value.slice A n c).ownBlock <;> simp)
theorem owns_sees {w : World} {base n c : Nat} {A : Option Addr} {vs : List Value} (h : w.ownsRow base 9 1 (.slice A n c) n vs) : SeesV w w.heap.size A n vs := by
  have h1 := h.1
  refine ⟨by omega, fun j u hu => ?_⟩
  rcases own_form h with ⟨rfl, rfl, hl⟩ | ⟨g, rfl, hg, hgl, _, _, hc⟩
  · rw [hl] at hu; simp at hu
  · exact ⟨g, 0, rfl, hgl, hc _ _ hu⟩
theorem ended_size (e : Bs) : ∀ l : List Ln, (ended e l).length = l.length
  | [] => rfl
  | [_] => rfl
  | x :: y :: r => by
    rw [ended, List.length_cons, ended_size e (y :: r)]
    rfl
theorem insert_size (l : List Ln) (k : Nat) (ts : List Bs) : (insert l k ts).length = l.length + ts.length := by
  unfold Li.insert
  rw [ended_size]
  simp only [List.length_append, List.length_map, List.length_take, List.length_drop]
  omega
/-- The text of a row that is new. -/
def freshB (cols : List ByteArray) (t : Tr) (l : Bs) : Bs := Lib.join (fieldF (recF (mkB l) cols (getT t [mkB l]).1) []) [44]
/-- The lines of a file that stay; the file. -/
def stayL (hd : Rw) (xl : List Ln) (rs : List Rw) (t : Tr) : List Ln := [sayF ([kB] ++ colsP xl t) hd] ++ rs.filterMap (stayF (colsP xl t) t)
def putB (hd : Rw) (xl : List Ln) (rs : List Rw) (t : Tr) : Bs := join (insert (stayL hd xl rs t) (stayL hd xl rs t).length ((lessF (namesOf t.names) (rs.map nm)).map (freshB (colsP xl t) t)))
theorem full_any {t : Tr} (h : ∀ name, (getT t [name]).2 = true → Full (getT t [name]).1) (name : ByteArray) : Full (getT t [name]).1 := by
  by_cases hu : (getT t [name]).2 = true
  · exact h name hu
  · have e : (getT t [name]).1 = .nil := by
      rw [getT] at hu ⊢
      split
      · rename_i h1
        rw [if_pos h1] at hu
        exact absurd rfl hu
      · rfl
    rw [e]
    intro c hc
    rw [getT] at hc
    split at hc
    · rename_i h1
      simp [Tr.atIs, Tr.atN, dropT_zero, Tr.headIs] at h1
    · cases hc
theorem src_str (W : World) (x : Bs) (g : Nat) (hg : g = W.heap.size) : Src Tryz.prog 1 28 (.slice (some ⟨g, 0, none⟩) 1 1) 1 [encs x] (W.alloc (Obj.cells #[.string (mkB x)] 9)) :=
  hg ▸ Src.laid Tryz.underlying28 rfl (fun j u hu => by rw [cell_of_row _ _ _ _ _ _ (heap_alloc_new W _), ← hu]; simp [encs, mkB]) (by intro u hu; simp at hu; subst hu; rfl)
/-- The box of a file. -/
def boxV (Af Ar At : Option Addr) (nf cf nr cr nt ct : Nat) (en : ByteArray) : Obj := Obj.cells #[.slice Af nf cf, .string en, .slice Ar nr cr, .slice At nt ct] 65
/-- Behind the columns. -/
def P1 (Wb : World) (cols : List ByteArray) (v : Value) (wx : World) : Prop :=
  ∃ A c, v = .slice A cols.length c ∧ SeesV wx wx.heap.size A cols.length (cols.map Value.string) ∧ Below Wb.heap.size Wb wx

set_option maxHeartbeats 16000000 in
theorem put_any (hd : Rw) (x0 : Ln) (xl : List Ln) (rs : List Rw) (t : Tr) (Af Ar At A : Option Addr) (nf cf nr cr nt ct n c : Nat) (w : World) (hO : PutOk hd x0 xl rs t) (hf : SeesL w w.heap.size Af nf hd.fs) (hr : SeesR w w.heap.size Ar nr rs) (ht : Holds w w.heap.size A n t) (hG : Gl w) (hJ : (putB hd xl rs t).length ≤ 140737488355328) :
    Calls Tryz.prog 41 #[.agg #[.slice Af nf cf, .string hd.en, .slice Ar nr cr, .slice At nt ct], .slice A n c] w fun e w' => e = .returned (encs (putB hd xl rs t)) ∧ Below w.heap.size w w' := by
  obtain ⟨Wb, hWb⟩ : ∃ Wb, Wb = w.alloc (Obj.cells #[.slice Af nf cf, .string hd.en, .slice Ar nr cr, .slice At nt ct] 65) := ⟨_, rfl⟩
  have hb0 : Below w.heap.size w Wb := by rw [hWb]; exact (Below.refl _ _).alloc (Nat.le_refl _) _
  have hgb : Wb.heap[w.heap.size]? = some (Obj.cells #[.slice Af nf cf, .string hd.en, .slice Ar nr cr, .slice At nt ct] 65) := by rw [hWb]; exact heap_alloc_new w _
  have hszb : w.heap.size < Wb.heap.size := by rw [hWb]; simp
  have hnf : nf ≤ 100000 := by have := hf.len; have h2 := (hO.fs hd (by simp)).1; have := hO.len; omega
  have hnt : n ≤ 90000 := by have := ht.len; have := t.len_size; have := hO.len; omega
  obtain ⟨cols, hcols⟩ : ∃ cols, cols = colsP xl t := ⟨_, rfl⟩
  have hf' := hf
  rw [hO.head] at hf'
  have HCo := Lib.hid (fun (W : World) (hW : Below Wb.heap.size Wb W) => columns_any x0 xl Af Ar At nf cf nr cr nt ct hd.en W ((hf'.below (hb0.trans (hW.mono hb0.size))).more (Nat.le_trans hb0.size hW.size)) hnf)
  have hcl := hO.few
  have HCf := Lib.hid (fun (W : World) (hW : Below Wb.heap.size Wb W) => columnsOf_any t A n c W ((ht.below (hb0.trans (hW.mono hb0.size))).more (Nat.le_trans hb0.size hW.size)) (by omega) (by have := names_few t; have := hO.len; omega))
  have Hcols := Lib.hid hcols
  have hbx := cell_of_row _ w.heap.size 0 _ _ _ hgb
  have hbx1 := cell_of_row _ w.heap.size 1 _ _ _ hgb
  have hbx2 := cell_of_row _ w.heap.size 2 _ _ _ hgb
  have hbx3 := cell_of_row _ w.heap.size 3 _ _ _ hgb
  have HO := Lib.hid hO
  have Hf := Lib.hid hf
  have Hr := Lib.hid hr
  have Ht := Lib.hid ht
  have HG := Lib.hid hG
  have HB0 := Lib.hid hb0
  have Hgb := Lib.hid hgb
  have hml : (mns xl).length = xl.length := mns_len xl
  have Hml := Lib.hid hml
  have hxl := hO.len.2.1
  clear hO hf hr ht hG hb0 hgb hf' hcols hcl hml
  go_enter Tryz.func41, Tryz.ntmps41
  go_upto_region 1 with (fail)
  rw [← hWb]
  clear hWb
  go_wp2_with fail
  (with_reducible refine (HCo.out _ (Below.refl _ _)).mono ?_)
  rintro e w1 ⟨A1, c1, rfl, hs1, hb1⟩
  have HS1 := Lib.hid hs1
  have HB1 := Lib.hid hb1
  have HC1 := Lib.hid (HCf.out w1 hb1)
  clear hs1 hb1
  go_wp2_with fail
  (with_reducible refine HC1.out.mono ?_)
  rintro e w2 ⟨A2, c2, rfl, hr2, hb2⟩
  have HL := Lib.hid (less_any (colsF t) (mns xl) A2 A1 (colsF t).length c2 (mns xl).length c1 w1.heap.size w2 hr2 (seesV_more (HS1.out.below hb2) hb2.size) (fun hm hs => row_apart HS1.out (by simpa using hm) hr2 hs (Nat.le_refl _)) hb2.size (by
    have h1 := namesOf_le ((kidsL t).flatMap Tr.names)
    have h2 := names_few t
    have h3 := HO.out.len
    unfold colsF
    omega) (by rw [Hml.out]; omega))
  have HB2 := Lib.hid (HB1.out.trans (hb2.mono HB1.out.size))
  have HB12 := Lib.hid hb2
  clear hr2 hb2
  go_wp2_with fail
  (with_reducible refine HL.out.mono ?_)
  rintro e w3 ⟨rfl, hr3, hb3⟩
  have hs3 := hr3.sees
  rw [encStr_strs] at hs3
  have hlen3 : (lessF (colsF t) (mns xl)).length ≤ 90000 := by
    have := HO.out.few
    unfold colsP at this
    rw [List.length_append, List.length_map] at this
    omega
  have hC := concat2_any (mns xl) ((lessF (colsF t) (mns xl)).map mkB) A1 A2 (mns xl).length (lessF (colsF t) (mns xl)).length c1 c2 w3 (seesV_more (HS1.out.below (HB12.out.trans hb3)) (HB12.out.trans hb3).size) hs3 (by rw [Hml.out]; omega) w3.heap.size rfl
  rw [show mns xl ++ (lessF (colsF t) (mns xl)).map mkB = cols by rw [Hcols.out]; rfl] at hC
  have HC := Lib.hid hC
  have HB3 := Lib.hid (HB2.out.trans (hb3.mono HB1.out.size))
  clear hs3 hr3 hb3 hC hlen3
  go_wp2_with fail
  (with_reducible refine HC.out.mono ?_)
  rintro e w4 ⟨A4, c4, rfl, hs4, hb4⟩
  have HS4 := Lib.hid hs4
  have HB4 := Lib.hid (HB3.out.trans (hb4.mono HB3.out.size))
  clear hs4 hb4
  have hqw : Below w4.heap.size w4 ((w4.alloc (Obj.cells #[.string kB] 9)).alloc (Obj.cells #[.slice (some ⟨w4.heap.size, 0, none⟩) 1 1, .slice A4 cols.length c4] 28)).drew := (((Below.refl _ _).alloc (Nat.le_refl _) _).alloc (by simp) _).drew
  have hk0 : ((w4.alloc (Obj.cells #[.string kB] 9)).alloc (Obj.cells #[.slice (some ⟨w4.heap.size, 0, none⟩) 1 1, .slice A4 cols.length c4] 28)).drew.heap[w4.heap.size]? = some (Obj.cells #[.string kB] 9) := (((Below.refl (w4.alloc (Obj.cells #[.string kB] 9)).heap.size (w4.alloc (Obj.cells #[.string kB] 9))).alloc (Nat.le_refl _) _).block w4.heap.size (by simp)).trans (heap_alloc_new w4 _)
  have hk1 : ((w4.alloc (Obj.cells #[.string kB] 9)).alloc (Obj.cells #[.slice (some ⟨w4.heap.size, 0, none⟩) 1 1, .slice A4 cols.length c4] 28)).drew.heap[w4.heap.size + 1]? = some (Obj.cells #[.slice (some ⟨w4.heap.size, 0, none⟩) 1 1, .slice A4 cols.length c4] 28) := by
    have := heap_alloc_new (w4.alloc (Obj.cells #[.string kB] 9)) (Obj.cells #[.slice (some ⟨w4.heap.size, 0, none⟩) 1 1, .slice A4 cols.length c4] 28)
    rw [show (w4.alloc (Obj.cells #[.string kB] 9)).heap.size = w4.heap.size + 1 by simp] at this
    exact this
  have hcl4 := HO.out.few
  rw [← Hcols.out] at hcl4
  have HCc := Lib.hid (concatW_any [kB] cols (some ⟨w4.heap.size, 0, none⟩) A4 1 cols.length 1 c4 (w4.heap.size + 1) _ hk1 (sees_one hk0) (seesV_more (HS4.out.below hqw) hqw.size) (by omega))
  have HSay := Lib.hid (fun (W : World) (A5 : Option Addr) (c5 : Nat) (hW : Below w4.heap.size w4 W) (h5 : SeesV W W.heap.size A5 ([kB] ++ cols).length (([kB] ++ cols).map Value.string)) =>
    (show Calls Tryz.prog 66 #[.agg #[.slice Af nf cf, .string hd.en], .slice A5 (cols.length + 1) c5] W fun e w' => e = .returned (.agg #[encs (sayF ([kB] ++ cols) hd).1, encs (sayF ([kB] ++ cols) hd).2]) ∧ Below W.heap.size W w' from saying_any ([kB] ++ cols) hd A5 Af (cols.length + 1) c5 nf cf W (by rw [show cols.length + 1 = ([kB] ++ cols).length by simp]; exact h5) ((Hf.out.below (HB0.out.trans ((HB4.out.trans (hW.mono HB4.out.size)).mono HB0.out.size))).more (HB0.out.trans ((HB4.out.trans (hW.mono HB4.out.size)).mono HB0.out.size)).size) (by
      have h1 := Hf.out.len
      have h2 := (HO.out.fs hd (by simp)).1
      have h3 : cols.length = (mns xl).length + (lessF (colsF t) (mns xl)).length := by rw [Hcols.out]; simp [colsP]
      have h4 := Hml.out
      omega) (by omega) (fun m hm => by
      rcases List.mem_append.1 hm with hm | hm
      · rw [List.mem_singleton.1 hm]; exact kB_tx
      · exact HO.out.cols m (by rw [← Hcols.out]; exact hm)) (fun x hx => (HO.out.fs hd (by simp)).2 x hx) (HG.out.below (HB0.out.trans ((HB4.out.trans (hW.mono HB4.out.size)).mono HB0.out.size)))))
  have HX := Lib.hid (fun (W : World) (hW : Below w4.heap.size w4 W) => (And.intro (((HB4.out.trans (hW.mono HB4.out.size)).cell (p := ⟨w.heap.size, 0, none⟩) hszb).trans hbx) (((HB4.out.trans (hW.mono HB4.out.size)).cell (p := ⟨w.heap.size, 1, none⟩) hszb).trans hbx1) : W.cell? ⟨w.heap.size, 0, none⟩ = some (.slice Af nf cf) ∧ W.cell? ⟨w.heap.size, 1, none⟩ = some (.string hd.en)))
  have HQw := Lib.hid hqw
  have q0 : Below w4.heap.size w4 w4 := Below.refl _ _
  clear hqw hk0 hk1 hcl4
  go_upto_region 3 with (fail)
  go_cut [6] from 16 to 93 (fun v wx => P2 w4 [sayF ([kB] ++ cols) hd] v wx)
  case first =>
    go_region_held3 (fun W => W.cell? ⟨w.heap.size, 0, none⟩ = some (.slice Af nf cf) ∧ W.cell? ⟨w.heap.size, 1, none⟩ = some (.string hd.en))
      (first | exact HX.out _ q0.drew | exact HX.out _ (q0.alloc q0.size _).drew | exact HX.out _ ((q0.alloc q0.size _).alloc (q0.alloc q0.size _).size _).drew | exact HX.out _ q1 | exact HX.out _ q2 | exact HX.out _ (q2.alloc q2.size _))
      (first
      | (go_at_call 63; (with_reducible refine HCc.out.mono ?_); rintro e v1 ⟨A5, c5, rfl, hs5, hb5⟩; have q1 := HQw.out.trans (hb5.mono HQw.out.size))
      | (go_at_call 66; (with_reducible refine (HSay.out _ A5 c5 q1 hs5).mono ?_); rintro e v2 ⟨rfl, hb6⟩; have q2 := q1.trans (hb6.mono q1.size)))
    all_goals
      go_wp2_with fail
      go_meet
      exact ⟨some ⟨v2.heap.size, 0, none⟩, 1, rfl, own_line v2 _ _ q2.size, q2.alloc q2.size _⟩
  case rest =>
    obtain ⟨A6, c6, rfl, ho6, hb6⟩ := hcut
    obtain ⟨w5, rfl⟩ : ∃ w5 : World, w5 = wc := ⟨_, rfl⟩
    have HQ4 := Lib.hid (fun (W : World) (hW : Below w4.heap.size w4 W) => (HB0.out.trans ((HB4.out.trans (hW.mono HB4.out.size)).mono HB0.out.size) : Below w.heap.size w W))
    have HNm := Lib.hid (fun (r : Rw) (hr : r ∈ rs) (W : World) (Afr : Option Addr) (nfr cfr : Nat) (hs : SeesL W W.heap.size Afr nfr r.fs) => (by
      obtain ⟨y, ys, hy⟩ : ∃ y ys, r.fs = y :: ys := List.exists_cons_of_ne_nil (fun e => by have := (HO.out.fs r (by simp [hr])).1; rw [e] at this; simp at this)
      rw [hy] at hs
      exact rname_any y ys Afr nfr cfr W.heap.size r.en (nm r) W hs (Nat.le_refl _) (by rw [nm, hy]; rfl) :
        Calls Tryz.prog 68 #[.agg #[.slice Afr nfr cfr, .string r.en]] W fun e w' => e = .returned (.string (nm r)) ∧ Below W.heap.size W w'))
    have HGet := Lib.hid (fun (r : Rw) (W : World) (hW : Below w4.heap.size w4 W) (Ap : Option Addr) (hp : SeesV W W.heap.size Ap 1 ([nm r].map Value.string)) =>
      get_any t [nm r] A Ap n c 1 1 W ((Ht.out.below (HQ4.out W hW)).more (HQ4.out W hW).size) hp HO.out.asc (by have := HO.out.len; omega) (by simp))
    have HRec := Lib.hid (fun (r : Rw) (hk : (getT t [nm r]).2 = true) (W : World) (hW : Below w4.heap.size w4 W) (A' : Option Addr) (n' c' : Nat) (hh : Holds W W.heap.size A' n' (getT t [nm r]).1) =>
      record_any (nm r) (getT t [nm r]).1 cols A' A4 n' c' cols.length c4 W hh (get_asc HO.out.asc) (by have := HO.out.len; have := @get_size t (nm r); omega) (HO.out.full _ hk) (seesV_more (HS4.out.below hW) hW.size) (by have := HO.out.few; rw [← Hcols.out] at this; omega))
    have HSy := Lib.hid (fun (r : Rw) (hr : r ∈ rs) (W : World) (hW : Below w4.heap.size w4 W) (A5 : Option Addr) (c5 : Nat) (h5 : SeesV W W.heap.size A5 (recF (nm r) cols (getT t [nm r]).1).length ((recF (nm r) cols (getT t [nm r]).1).map Value.string)) (Afr : Option Addr) (nfr cfr : Nat) (hs : SeesL W W.heap.size Afr nfr r.fs) =>
      (show Calls Tryz.prog 66 #[.agg #[.slice Afr nfr cfr, .string r.en], .slice A5 (recF (nm r) cols (getT t [nm r]).1).length c5] W fun e w' => e = .returned (.agg #[encs (sayF (recF (nm r) cols (getT t [nm r]).1) r).1, encs (sayF (recF (nm r) cols (getT t [nm r]).1) r).2]) ∧ Below W.heap.size W w' from
        saying_any (recF (nm r) cols (getT t [nm r]).1) r A5 Afr _ c5 nfr cfr W h5 hs (by
          have h1 := hs.len
          have h2 := (HO.out.fs r (by simp [hr])).1
          have h3 : cols.length = (mns xl).length + (lessF (colsF t) (mns xl)).length := by rw [Hcols.out]; simp [colsP]
          have h4 := Hml.out
          simp only [recF, List.length_cons, List.length_map]
          omega) (by have := HO.out.few; rw [← Hcols.out] at this; simp only [recF, List.length_cons, List.length_map]; omega) (fun m hm => by
          rcases List.mem_cons.1 hm with rfl | hm
          · exact HO.out.nms.1 r hr
          · obtain ⟨cc, _, rfl⟩ := List.mem_map.1 hm
            exact HO.out.vals _ _) (fun x hx => (HO.out.fs r (by simp [hr])).2 x hx) (HG.out.below (HQ4.out W hW))))
    have hbx2' := ((HB4.out.trans (hb6.mono HB4.out.size)).cell (p := ⟨w.heap.size, 2, none⟩) hszb).trans hbx2
    have HO6 := Lib.hid ho6
    have HB6 := Lib.hid hb6
    have hnr := Hr.out.len
    have hnr5 : nr ≤ 5000 := by have := HO.out.len.1; omega
    have Hnr := Lib.hid hnr
    have hbx2 := Lib.hid hbx2
    clear ho6 hb6 HX HSay HCc HQw q0 HCo HCf hbx hbx1 hbx3 hnr
    go_wp2_with fail
    go_loopw [6, 36] (fun v i wr => ∃ (k : Nat) (A : Option Addr) (N c : Nat), k ≤ nr ∧ i = .int .i64 k ∧ v = .slice A N c ∧ Hid (N ≤ k + 1 ∧ N = ([sayF ([kB] ++ cols) hd] ++ (rs.take k).filterMap (stayF cols t)).length) ∧ Hid (OwnL wr w4.heap.size A N c ([sayF ([kB] ++ cols) hd] ++ (rs.take k).filterMap (stayF cols t))) ∧ Hid (Below w4.heap.size w4 wr)) (fun _ i _ => nr - (intOf i).toNat)
    case atStart => exact ⟨0, A6, 1, c6, Nat.zero_le _, rfl, rfl, Lib.hid (by simp), by simpa using HO6, HB6⟩
    case round =>
      obtain ⟨k, A7, N7, c7, hk, rfl, rfl, HN, HOw, HBw⟩ := hrel
      by_cases hlt : k < nr
      · obtain ⟨r, hr⟩ : ∃ r, rs[k]? = some r := ⟨_, List.getElem?_eq_getElem (by have := Hnr.out; omega)⟩
        have hrm := List.mem_of_getElem? hr
        obtain ⟨b, o, Afr, nfr, cfr, rfl, hbl, hc1, hc2, hsf, _, _⟩ := Hr.out.at_ k r hr
        have hc3 := ((HQ4.out wr HBw.out).cell (p := ⟨b, o + k * 2, none⟩) hbl).trans hc1
        have hc4 := ((HQ4.out wr HBw.out).cell (p := ⟨b, o + k * 2 + 1, none⟩) hbl).trans hc2
        have hkn : (k : Int) < (nr : Int) := by omega
        have hk0 : (0 : Int) ≤ (k : Int) := by omega
        have HSL := Lib.hid (fun (W : World) (hW : Below w4.heap.size w4 W) => (hsf.below (HQ4.out W hW)).more (HQ4.out W hW).size)
        have q1 : Below w4.heap.size w4 (wr.alloc (Obj.cells #[.slice Afr nfr cfr, .string r.en] 62)) := HBw.out.alloc HBw.out.size _
        have HN1 := Lib.hid (HNm.out r hrm _ Afr nfr cfr (HSL.out _ q1))
        have Hst := Lib.hid (stay_step (f := stayF cols t) hr)
        have Hlt := Lib.hid hlt
        have Hrm := Lib.hid hrm
        have Q1 := Lib.hid q1
        have Hwr := Lib.hid (heap_alloc_new wr (Obj.cells #[.slice Afr nfr cfr, .string r.en] 62))
        have hne : (Value.slice A7 N7 c7).ownBlock ≠ some wr.heap.size := fun e => by have := (HOw.out.lt _ e).2; omega
        clear hr hrm hc1 hc2 hsf q1 hlt hbl
        go_wp2_with fail
        (with_reducible refine HN1.out.mono ?_)
        rintro e w6 ⟨rfl, hb7⟩
        have hx6 : w6.heap[wr.heap.size]? = some (Obj.cells #[.slice Afr nfr cfr, .string r.en] 62) := (hb7.block _ (by simp)).trans Hwr.out
        have q6 := Q1.out.trans (hb7.mono Q1.out.size)
        have hw6 : Below wr.heap.size wr w6 := ((Below.refl wr.heap.size wr).alloc (Nat.le_refl _) _).trans (hb7.mono (by simp))
        have HG1 := Lib.hid (HGet.out r (w6.alloc (Obj.cells #[.string (nm r)] 9)) (q6.alloc q6.size _) (some ⟨w6.heap.size, 0, none⟩) (sees_one (heap_alloc_new w6 _)))
        have Hx6 := Lib.hid hx6
        have Q6 := Lib.hid q6
        have HW6 := Lib.hid hw6
        clear hb7 hx6 q6 hw6
        go_wp2_with fail
        (with_reducible refine HG1.out.mono ?_)
        rintro e w7 ⟨A', n', c', rfl, hn', hc', hh, hb8⟩
        have hw67 : Below w6.heap.size w6 w7 := ((Below.refl w6.heap.size w6).alloc (Nat.le_refl _) _).trans (hb8.mono (by simp))
        have q7 := Q6.out.trans (hw67.mono Q6.out.size)
        have hw7 := HW6.out.trans (hw67.mono HW6.out.size)
        have hx7 := (hw67.block _ (Array.getElem?_eq_some_iff.1 Hx6.out).1).trans Hx6.out
        have HHh := Lib.hid hh
        have Q7 := Lib.hid q7
        have HW7 := Lib.hid hw7
        have Hx7 := Lib.hid hx7
        clear hh hb8 hw67 q7 hw7 hx7 hn' hc'
        by_cases hu : (getT t [nm r]).2 = true
        · rw [hu]
          have Hu := Lib.hid hu
          clear hu
          have p7 : Below w7.heap.size w7 w7 := Below.refl _ _
          have HBX := Lib.hid (fun (W : World) (hW : Below w7.heap.size w7 W) => (hW.block _ (Array.getElem?_eq_some_iff.1 Hx7.out).1).trans Hx7.out)
          have HQ7 := Lib.hid (fun (W : World) (hW : Below w7.heap.size w7 W) => (Q7.out.trans (hW.mono Q7.out.size) : Below w4.heap.size w4 W))
          have HHh7 := Lib.hid (fun (W : World) (hW : Below w7.heap.size w7 W) => (HHh.out.below hW).more hW.size)
          have HOw7 := Lib.hid (fun (W : World) (hW : Below w7.heap.size w7 W) => OwnL.below HOw.out (HW7.out.trans (hW.mono HW7.out.size)))
          have hN46 : N7 + 1 ≤ 1099511627776 := by have := HN.out.1; omega
          go_upto_region 9 with (fail)
          go_region_held3 (fun W => W.cell? ⟨wr.heap.size, 0, none⟩ = some (.slice Afr nfr cfr) ∧ W.cell? ⟨wr.heap.size, 1, none⟩ = some (.string r.en))
            (first | exact rowcells (HBX.out _ p7.drew) | exact rowcells (HBX.out _ p8) | exact rowcells (HBX.out _ p9) | exact rowcells (HBX.out _ p10) | exact rowcells (HBX.out _ (p10.alloc p10.size _)) | exact rowcells (box_grown (HBX.out _ (p10.alloc p10.size _)) hg8 hne))
            (first
            | (go_at_call 68; (with_reducible refine (HNm.out r Hrm.out _ Afr nfr cfr (HSL.out _ (HQ7.out _ p7.drew))).mono ?_); rintro e w8 ⟨rfl, hb9⟩; have p8 := p7.drew.trans (hb9.mono p7.drew.size))
            | (go_at_call 69; (with_reducible refine (HRec.out r Hu.out _ (HQ7.out _ p8) A' n' c' (HHh7.out _ p8)).mono ?_); rintro e w9 ⟨A5, c5, rfl, hs5, hb10⟩; have p9 := p8.trans (hb10.mono p8.size))
            | (go_at_call 66; (with_reducible refine (HSy.out r Hrm.out _ (HQ7.out _ p9) A5 c5 hs5 Afr nfr cfr (HSL.out _ (HQ7.out _ p9))).mono ?_); rintro e w10 ⟨rfl, hb11⟩; have p10 := p9.trans (hb11.mono p9.size))
            | (refine step_append_row rfl (.tmp 49) (.tmp 57) _ _ rfl elem_line rfl rfl ((HOw7.out _ p10).alloc _) (src_line w10 (sayF (recF (nm r) cols (getT t [nm r]).1) r).1 (sayF (recF (nm r) cols (getT t [nm r]).1) r).2 _ rfl _ rfl) hN46 (Nat.le_trans (HQ7.out _ (p10.alloc p10.size _)).size (Nat.le_refl _)) ?_; intro A8 c8 w11 ho8 hg8 hat8))
          all_goals
            have hst : stayF cols t r = some (sayF (recF (nm r) cols (getT t [nm r]).1) r) := if_pos Hu.out
            have e10 := HQ7.out _ (p10.alloc p10.size (Obj.cells #[encs (sayF (recF (nm r) cols (getT t [nm r]).1) r).1, encs (sayF (recF (nm r) cols (getT t [nm r]).1) r).2] 88))
            have HB11 := Lib.hid (e10.grown hg8 e10.size (fun q hq => (HOw.out.lt q hq).1))
            have HO11 : Hid (OwnL w11 w4.heap.size A8 (N7 + 1) c8 ([sayF ([kB] ++ cols) hd] ++ (rs.take (k + 1)).filterMap (stayF cols t))) := Lib.hid (by
              rw [Hst.out, hst, ← List.append_assoc, OwnL, lcells_append]
              exact ho8)
            have HN11 : Hid (N7 + 1 ≤ k + 1 + 1 ∧ N7 + 1 = ([sayF ([kB] ++ cols) hd] ++ (rs.take (k + 1)).filterMap (stayF cols t)).length) := Lib.hid ⟨by have := HN.out.1; omega, by
              rw [Hst.out, hst, ← List.append_assoc, List.length_append, ← HN.out.2]
              rfl⟩
            clear ho8 hg8 hat8 e10 hst
            go_wp2_with fail
            go_roundw
            case rel => exact ⟨k + 1, A8, N7 + 1, c8, Hlt.out, by go_num, rfl, HN11, HO11, HB11⟩
            case measure => have := Hlt.out; simp [intOf]; omega
        · have hu2 : (getT t [nm r]).2 = false := by simpa using hu
          rw [hu2]
          have hst : stayF cols t r = none := if_neg hu
          have HO8 := Lib.hid (OwnL.below HOw.out HW7.out)
          have Hst2 := Lib.hid hst
          clear hu hu2 hst
          go_wp2_with fail
          go_roundw
          case rel => exact ⟨k + 1, A7, N7, c7, Hlt.out, by go_num, rfl, Lib.hid ⟨by have := HN.out.1; omega, by rw [Hst.out, Hst2.out]; simpa using HN.out.2⟩, Lib.hid (by rw [Hst.out, Hst2.out]; simpa using HO8.out), Q7⟩
          case measure => have := Hlt.out; simp [intOf]; omega
      · obtain rfl : k = nr := by omega
        have hall : rs.take k = rs := List.take_of_length_le (by have := Hnr.out; omega)
        rw [hall] at HN HOw
        obtain ⟨lns, hlns⟩ : ∃ lns, lns = [sayF ([kB] ++ cols) hd] ++ rs.filterMap (stayF cols t) := ⟨_, rfl⟩
        rw [← hlns] at HN HOw
        have HNr := Lib.hid (Nat.le_trans hk hnr5)
        have Hlns := Lib.hid hlns
        have hbx2'' := fun (W : World) (hW : Below w4.heap.size w4 W) => ((HB4.out.trans (hW.mono HB4.out.size)).cell (p := ⟨w.heap.size, 2, none⟩) hszb).trans (hbx2.out)
        have HX2 := Lib.hid hbx2''
        clear hlt hall hlns hbx2''
        have q9 : Below wr.heap.size wr (wr.alloc (Obj.cells #[.slice A n c] 30)).drew := ((Below.refl _ _).alloc (Nat.le_refl _) _).drew
        have hq9 := HBw.out.trans (q9.mono HBw.out.size)
        have HNa := Lib.hid (names_own [⟨A, n, c, t⟩] (some ⟨wr.heap.size, 0, none⟩) 1 1 (wr.alloc (Obj.cells #[.slice A n c] 30)).drew.heap.size (wr.alloc (Obj.cells #[.slice A n c] 30)).drew (fun j x hj => by
          obtain rfl : j = 0 := by have := (List.getElem?_eq_some_iff.1 hj).1; simpa using this
          simp only [List.getElem?_cons_zero, Option.some.injEq] at hj
          subst hj
          exact ⟨wr.heap.size, 0, rfl, by simp, cell_of_row _ _ 0 _ 30 (0, 0) (heap_alloc_new wr _), (Ht.out.below (HQ4.out _ hq9)).more (HQ4.out _ hq9).size⟩) rfl (Nat.le_refl _) (by have := names_length t; have := t.len_size; have := HO.out.len; simp [allNames]; omega) (by simp))
        rw [show allNames [⟨A, n, c, t⟩] = t.names by simp [allNames]] at HNa
        have HEa := Lib.hid (fun (W : World) (hW : Below w4.heap.size w4 W) => eachN_any rs (rs.map nm) Ar k cr w.heap.size W (HQ4.out W hW).size (by have := HNr.out; omega) (by rw [List.length_map]; exact Hnr.out) (Hr.out.below (HQ4.out W hW)) (fun j rr hrr q hq W' Af' nf' cf' hW' hs' => by
          rw [List.getElem?_map, hq] at hrr
          simp only [Option.map_some, Option.some.injEq] at hrr
          subst hrr
          exact HNm.out q (List.mem_of_getElem? hq) W' Af' nf' cf' (hs'.more (Nat.le_trans (HQ4.out W hW).size hW'.size))))
        have HQ9 := Lib.hid q9
        have HX9 := Lib.hid (fun (W : World) (hW : Below wr.heap.size wr W) => HX2.out W (HBw.out.trans (hW.mono HBw.out.size)))
        have HQ8 := Lib.hid (fun (W : World) (hW : Below wr.heap.size wr W) => (HBw.out.trans (hW.mono HBw.out.size) : Below w4.heap.size w4 W))
        have hFl : (namesOf t.names).length ≤ 90000 := by
          have h1 := namesOf_le t.names
          have h2 := names_length t
          have h3 := t.len_size
          have h4 := HO.out.len
          omega
        have q8 : Below wr.heap.size wr wr := Below.refl _ _
        clear q9 hq9
        go_upto_region 12 with (fail)
        go_cut [66, 67, 68] from 59 to 93 (fun a b d wx => P3 wr (lessF (namesOf t.names) (rs.map nm)) a b d wx)
        case first =>
          go_region_held3 (fun W => W.cell? ⟨w.heap.size, 2, none⟩ = some (.slice Ar k cr))
            (first | exact HX9.out _ q8.drew | exact HX9.out _ (q8.alloc q8.size _).drew | exact HX9.out _ q10 | exact HX9.out _ q11 | exact HX9.out _ q12)
            (first
            | (go_at_call 70; (with_reducible refine HNa.out.mono ?_); rintro e w10 ⟨A10, c10, rfl, hr10, hb10⟩; have q10 := HQ9.out.trans (hb10.mono HQ9.out.size))
            | (go_at_call 71; (with_reducible refine (HEa.out _ (HQ8.out _ q10)).mono ?_); rintro e w11 ⟨g11, rfl, hg11, hc11, hb11⟩; have q11 := q10.trans (hb11.mono q10.size))
            | (go_at_call 64; (with_reducible refine (less_any (namesOf t.names) (rs.map nm) A10 (some ⟨g11, 0, none⟩) _ c10 k k _ w11 (row1_keep hr10 hb11) (⟨by rw [List.length_map, List.length_map]; exact Hnr.out, fun j u hu => ⟨g11, 0, rfl, (Array.getElem?_eq_some_iff.1 hc11).1, by rw [cell_of_row _ _ _ _ _ _ hc11, Nat.zero_add]; simpa using hu⟩⟩) (fun _ hs => apart_new hr10 hg11 hs) (Nat.le_trans hb10.size hb11.size) (by omega) (by have := HNr.out; omega)).mono ?_); rintro e w12 ⟨rfl, hr12, hb12⟩; have q12 := q11.trans (hb12.mono HQ9.out.size)))
          all_goals
            have hs12 := hr12.sees
            rw [encStr_strs] at hs12
            have HS12 := Lib.hid hs12
            clear hs12 hr12 hb12 hr10 hb10 hb11 hc11
            go_wp2_with fail
            go_meet
            exact ⟨A10, c10, rfl, rfl, rfl, HS12.out, q12⟩
        case rest =>
          obtain ⟨A13, c13, rfl, rfl, rfl, hs13, hb13⟩ := hcut
          obtain ⟨w13, rfl⟩ : ∃ w13 : World, w13 = wc := ⟨_, rfl⟩
          obtain ⟨F, hF⟩ : ∃ F, F = lessF (namesOf t.names) (rs.map nm) := ⟨_, rfl⟩
          rw [← hF] at hs13
          rw [← hF]
          have hFl2 : F.length ≤ 90000 := by rw [hF]; exact Nat.le_trans (List.length_filter_le ..) hFl
          have hFm : ∀ l ∈ F, Tx (mkB l) := fun l hl => by
            rw [hF] at hl
            have h1 := (List.mem_filter.1 hl).1
            obtain ⟨s, hs, rfl⟩ := List.mem_map.1 ((namesOf_mem t.names l).1 h1)
            have e : mkB s.data.toList = s := by simp [mkB]
            rw [e]
            exact HO.out.nms.2 s hs
          have HF := Lib.hid hF
          have HFm := Lib.hid hFm
          have HS13 := Lib.hid hs13
          have q13 := HQ8.out _ hb13
          have HQ13 := Lib.hid (fun (W : World) (hW : Below w13.heap.size w13 W) => (q13.trans (hW.mono q13.size) : Below w4.heap.size w4 W))
          have HOw13 := Lib.hid (OwnL.below HOw.out hb13)
          have Q13 := Lib.hid q13
          have HFr := Lib.hid (fun (l : Bs) (W : World) (hW : Below w4.heap.size w4 W) (Ap : Option Addr) (hp : SeesV W W.heap.size Ap 1 ([mkB l].map Value.string)) =>
            get_any t [mkB l] A Ap n c 1 1 W ((Ht.out.below (HQ4.out W hW)).more (HQ4.out W hW).size) hp HO.out.asc (by have := HO.out.len; omega) (by simp))
          have HRe := Lib.hid (fun (l : Bs) (W : World) (hW : Below w4.heap.size w4 W) (A' : Option Addr) (n' c' : Nat) (hh : Holds W W.heap.size A' n' (getT t [mkB l]).1) =>
            record_any (mkB l) (getT t [mkB l]).1 cols A' A4 n' c' cols.length c4 W hh (get_asc HO.out.asc) (by have := HO.out.len; have := @get_size t (mkB l); omega) (full_any HO.out.full _) (seesV_more (HS4.out.below hW) hW.size) (by have := HO.out.few; rw [← Hcols.out] at this; omega))
          have HTe := Lib.hid (fun (l : Bs) (hl : l ∈ F) (W : World) (hW : Below w4.heap.size w4 W) (A5 : Option Addr) (c5 : Nat) (h5 : SeesV W W.heap.size A5 (recF (mkB l) cols (getT t [mkB l]).1).length ((recF (mkB l) cols (getT t [mkB l]).1).map Value.string)) =>
            (show Calls Tryz.prog 72 #[.slice A5 (recF (mkB l) cols (getT t [mkB l]).1).length c5, .slice none 0 0] W fun e w' => e = .returned (.string (mkB (freshB cols t l))) ∧ Below W.heap.size W w' from
              textOf_any (recF (mkB l) cols (getT t [mkB l]).1) [] A5 none _ c5 0 0 W h5 (SeesL.nil _ _ _) (Nat.zero_le _) (by have := HO.out.few; rw [← Hcols.out] at this; simp only [recF, List.length_cons, List.length_map]; omega) (fun m hm => by
                rcases List.mem_cons.1 hm with rfl | hm
                · exact HFm.out l hl
                · obtain ⟨cc, _, rfl⟩ := List.mem_map.1 hm
                  exact HO.out.vals _ _) (fun x hx => by cases hx) (HG.out.below (HQ4.out W hW))))
          clear hF hs13 hb13 q13 hFm hFl
          go_wp2_with fail
          go_loopw [11, 68] (fun v i wr => ∃ (j : Nat) (B : Option Addr) (d : Nat), j ≤ F.length ∧ i = .int .i64 j ∧ v = .slice B j d ∧ Hid (wr.ownsRow w13.heap.size 9 1 (.slice B j d) j (((F.take j).map (freshB cols t)).map encs)) ∧ Hid (Below w13.heap.size w13 wr)) (fun _ i _ => F.length - (intOf i).toNat)
          case atStart => exact ⟨0, none, 0, Nat.zero_le _, rfl, rfl, Lib.hid (World.ownsRow_nil _ w13.heap.size _ _), Lib.hid (Below.refl _ _)⟩
          case round =>
            obtain ⟨j, B, d, hj, rfl, rfl, HOr, HBr⟩ := hrel
            by_cases hlt : j < F.length
            · obtain ⟨l, hl⟩ : ∃ l, F[j]? = some l := ⟨_, List.getElem?_eq_getElem hlt⟩
              have hlm := List.mem_of_getElem? hl
              obtain ⟨b, o, rfl, hbl, hc1⟩ := HS13.out.cell j (.string (mkB l)) (by rw [List.getElem?_map, List.getElem?_map, hl]; rfl)
              have hc2 := (HBr.out.cell (p := ⟨b, o + j, none⟩) hbl).trans hc1
              have hjn : (j : Int) < (F.length : Int) := by omega
              have hj0 : (0 : Int) ≤ (j : Int) := by omega
              have hjN : j + 1 ≤ 1099511627776 := by omega
              have HG2 := Lib.hid (HFr.out l (wr.alloc (Obj.cells #[.string (mkB l)] 9)) (HQ13.out _ (HBr.out.alloc HBr.out.size _)) (some ⟨wr.heap.size, 0, none⟩) (sees_one (heap_alloc_new wr _)))
              have Hst : Hid (((F.take (j + 1)).map (freshB cols t)).map encs = ((F.take j).map (freshB cols t)).map encs ++ [encs (freshB cols t l)]) := Lib.hid (by rw [List.take_add_one, hl]; simp)
              have Hlm := Lib.hid hlm
              have Hlt := Lib.hid hlt
              clear hl hlm hlt hc1
              go_wp2_with fail
              (with_reducible refine HG2.out.mono ?_)
              rintro e w14 ⟨A', n', c', rfl, hn', hc', hh, hb14⟩
              have hw14 : Below wr.heap.size wr w14 := ((Below.refl wr.heap.size wr).alloc (Nat.le_refl _) _).trans (hb14.mono (by simp))
              have HW14 := Lib.hid hw14
              have HR2 := Lib.hid (HRe.out l w14 (HQ13.out _ (HBr.out.trans (hw14.mono HBr.out.size))) A' n' c' hh)
              clear hh hb14 hn' hc' hw14
              go_wp2_with fail
              (with_reducible refine HR2.out.mono ?_)
              rintro e w15 ⟨A5, c5, rfl, hs5, hb15⟩
              have hw15 := HW14.out.trans (hb15.mono HW14.out.size)
              have HT2 := Lib.hid (HTe.out l Hlm.out w15 (HQ13.out _ (HBr.out.trans (hw15.mono HBr.out.size))) A5 c5 hs5)
              have HW15 := Lib.hid hw15
              clear hs5 hb15 hw15
              go_wp2_with fail
              (with_reducible refine HT2.out.mono ?_)
              rintro e w16 ⟨rfl, hb16⟩
              have hw16 := HW15.out.trans (hb16.mono HW15.out.size)
              have HW16 := Lib.hid hw16
              have ho16 := owns_below HOr.out hw16
              have hsz16 : w13.heap.size ≤ (w16.alloc (Obj.cells #[.string (mkB (freshB cols t l))] 9)).heap.size := Nat.le_trans HBr.out.size (Nat.le_trans hw16.size (by simp))
              clear hb16 hw16
              go_wp2_with (at_builtin; refine wpList_append_row rfl (.tmp 79) (.tmp 85) _ _ rfl Jd.elem_str rfl rfl (ho16.alloc _) (src_str w16 (freshB cols t l) _ rfl) hjN hsz16 ?_; intro A8 c8 w17 ho8 hg8 hat8)
              have HB17 : Hid (Below w13.heap.size w13 w17) := Lib.hid (by
                have e1 : Below w13.heap.size w13 (w16.alloc (Obj.cells #[.string (mkB (freshB cols t l))] 9)) := (HBr.out.trans (HW16.out.mono HBr.out.size)).alloc (HBr.out.trans (HW16.out.mono HBr.out.size)).size _
                exact e1.grown hg8 e1.size (fun q hq => (HOr.out.lt q hq).1))
              have HO17 : Hid (w17.ownsRow w13.heap.size 9 1 (.slice A8 (j + 1) c8) (j + 1) (((F.take (j + 1)).map (freshB cols t)).map encs)) := Lib.hid (by rw [Hst.out]; exact ho8)
              clear ho8 hg8 hat8 ho16
              go_roundw
              case rel => exact ⟨j + 1, A8, c8, Hlt.out, by go_num, rfl, HO17, HB17⟩
              case measure => have := Hlt.out; simp [intOf]; omega
            · obtain ⟨m, hm⟩ : ∃ m, m = F.length := ⟨_, rfl⟩
              have hjm : j = F.length := by omega
              have hOr := HOr.out
              rw [hjm, List.take_length] at hOr
              have hlw := OwnL.below HOw13.out HBr.out
              have hcap := own_cap hlw
              have HI := Lib.hid (insert_any lns A7 N7 c7 (F.map (freshB cols t)) B F.length d N7 N7 wr hlw.sees hcap.1 (by have := HN.out.1; have := HNr.out; omega) (owns_sees hOr) (by omega) (.inr (.inl ⟨by omega, by omega, rfl⟩)) (by have := HN.out.1; have := HNr.out; omega))
              have HBw2 := Lib.hid (HQ13.out _ HBr.out)
              clear hOr hlw hcap hm
              subst hjm
              go_wp2_with fail
              (with_reducible refine HI.out.mono ?_)
              rintro e w19 ⟨A9, c9, rfl, ho9, hb19⟩
              have hN7 := HN.out.2
              have ej : join (insert lns N7 (F.map (freshB cols t))) = putB hd xl rs t := by
                rw [hN7, Hlns.out, HF.out, Hcols.out]
                rfl
              have hlen9 : (insert lns N7 (F.map (freshB cols t))).length ≤ 1099511627776 := by
                rw [insert_size, List.length_map, ← hN7]
                have := HN.out.1
                have := HNr.out
                omega
              have hJn := join_any (insert lns N7 (F.map (freshB cols t))) A9 _ c9 w19.heap.size w19 (Nat.le_refl _) ho9.sees hlen9 (by rw [ej]; exact hJ)
              rw [ej] at hJn
              have HJn := Lib.hid hJn
              have HB19 := Lib.hid (HQ4.out _ (HBw2.out.trans (hb19.mono HBw2.out.size)))
              clear hN7 ej hlen9 hJn ho9 hb19
              go_wp2_with fail
              (with_reducible refine HJn.out.mono ?_)
              rintro e w20 ⟨rfl, hb20⟩
              go_wp2_with fail
              go_ret
              exact ⟨rfl, HB19.out.trans (hb20.mono HB19.out.size)⟩
end Go.Proofs.YtlcbhooiinaalaaGreatDoor.Cv
