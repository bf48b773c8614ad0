/- tree.level and the stack of trees that clone keeps: pop and push. Conditions: fewer than 2^40 edges; what is popped is there. · tree.clone: the answer reads as what was handed in; what lay there before lies as it did. Conditions: fewer than 2^39 edges. -/
import Derived.Test.YtecnilcfhicfmaaGreatDoorMw20
import Derived.Outline
namespace Go.Proofs.YtecnilcfhicfmaaGreatDoor.Cl
open Go.RowKit
set_option maxRecDepth 100000

theorem elem_edge : Elem Tryz.prog 24 27 (.agg #[.string ⟨#[]⟩, .slice none 0 0]) 2 40 := ⟨Tryz.underlying24, by kernel_rfl, rfl, by omega⟩
theorem src_edges {w : World} {b o n c : Nat} {vs : List Value} (hl : vs.length = n * 2) (hc : ∀ j u, vs[j]? = some u → w.cell? ⟨b, o + j, none⟩ = some u) (h1 : ∀ u ∈ vs, u.oneCell' = true) : Src Tryz.prog 2 24 (.slice (some ⟨b, o, none⟩) n c) n vs w :=
  Src.ofSlice w Tryz.underlying24 ⟨b, o, none⟩ n c vs hl (fun j u hu => by rw [Addr.add_lit]; exact hc j u hu) h1
theorem src_none (w : World) (A : Option Addr) (c : Nat) : Src Tryz.prog 2 24 (.slice A 0 c) 0 [] w := by
  cases A with
  | none => exact Src.ofNil w Tryz.underlying24 c
  | some a => exact Src.ofSlice w Tryz.underlying24 a 0 c [] rfl (fun j u hu => by simp at hu) (fun u hu => by cases hu)

/-- The answer's row lies in the new block, and reads as what was handed. -/
theorem level_hp (t : Tr) (A : Option Addr) (n c : Nat) (P : Nat → Prop) (w : World) (h : HoldsP w P A n t) (hP : ∀ b, P b → b < w.heap.size) (hn : n ≤ 1099511627776) :
    Calls Tryz.prog 91 #[.slice A n c] w fun e w' => ∃ A' c', e = .returned (.slice A' n c') ∧ w.grownBy w' none ∧ n ≤ c' ∧ c' ≤ maxLen ∧ HoldsP w' (fun b => P b ∨ b = w.heap.size) A' n t ∧
      (∀ a, A' = some a → a = ⟨w.heap.size, 0, none⟩ ∧ ∃ cur, w'.heap[w.heap.size]? = some (.cells cur 27 (0, 0))) := by
  obtain ⟨vs, hl, h1, hc, hA⟩ := h.row
  have hsrc : Src Tryz.prog 2 24 (.slice A n c) n vs w := by
    rcases Nat.eq_zero_or_pos n with g | g
    · subst g
      have : vs = [] := List.eq_nil_of_length_eq_zero (by rw [hl])
      subst this
      exact src_none w A c
    · obtain ⟨b, o, rfl, _⟩ := hA g
      exact src_edges hl (hc b o rfl) h1
  have hn2 : 0 + n ≤ 1099511627776 := by omega
  have H := Lib.hid h
  have HP := Lib.hid hP
  have Hc := Lib.hid hc
  have HA := Lib.hid hA
  have Hl := Lib.hid hl
  clear h hP hc hA hl
  go_enter Tryz.func91, Tryz.ntmps91
  go_wp2_with (at_builtin; refine wpList_append_row rfl (.const (.slice none 0 0)) (.tmp 3) _ _ rfl elem_edge rfl rfl (World.ownsRow_nil w w.heap.size _ _) hsrc hn2 (Nat.le_refl _) ?_; intro A2 c2 w2 ho2 hg2 hat2; simp only [Nat.zero_add, List.nil_append] at ho2; rw [Nat.zero_add])
  go_ret
  have hkeep : ∀ b o, P b → w2.cell? ⟨b, o, none⟩ = w.cell? ⟨b, o, none⟩ := fun b o hb => World.cell?_of_block (hg2.block b (HP.out b hb) (fun e => by cases e))
  rcases ho2.2 with ⟨e1, e2⟩ | ⟨g, cap, cur, e1, hg, hh, hcap, hmx, hsz, htk⟩
  · injection e1 with a1 a2 a3
    subst a1; subst a2; subst a3
    have ht := H.out.len
    have hH := H.out
    cases t with
    | nil => exact ⟨none, 0, rfl, hg2, Nat.le_refl _, by simp [maxLen], rfl, fun a ha => by cases ha⟩
    | cons s k r => simp [Tr.len] at ht
  · injection e1 with a1 a2 a3
    subst a1; subst a3
    have hgw : g = w.heap.size := by
      rcases hat2 _ rfl with e | e
      · exact e
      · simp [Value.ownBlock] at e
    subst hgw
    refine ⟨_, c2, rfl, hg2, hcap, hmx, ?_, fun a ha => ⟨by injection ha with ha; exact ha.symm, cur, hh⟩⟩
    have hcp : ∀ j u, vs[j]? = some u → w2.cell? ⟨w.heap.size, 0 + j, none⟩ = some u := by
      intro j u hu
      rw [cell_of_row w2 _ _ cur _ _ hh, Nat.zero_add]
      rw [← htk, List.getElem?_take] at hu
      split at hu
      · simpa using hu
      · cases hu
    rcases Nat.eq_zero_or_pos n with g0 | g0
    · subst g0
      have ht := H.out.len
      cases t with
      | nil => exact rfl
      | cons s k r => simp [Tr.len] at ht
    · obtain ⟨b, o, rfl, hb⟩ := HA.out g0
      refine HoldsP.copy hkeep (fun b hb => .inl hb) H.out (.inr rfl) (fun j hj => ?_)
      have hlt : j < vs.length := by rw [Hl.out]; exact hj
      rw [hcp j _ (List.getElem?_eq_getElem hlt), Hc.out b o rfl j _ (List.getElem?_eq_getElem hlt)]

/-- A slice of edges still to be gone through. -/
structure CJob where
  a1 : Option Addr
  n1 : Nat
  c1 : Nat
def CJob.cells (x : CJob) : List Value := [.slice x.a1 x.n1 x.c1]
def cjobs (L : List CJob) : List Value := L.flatMap CJob.cells
theorem cjobs_length (L : List CJob) : (cjobs L).length = L.length * 1 := by
  induction L with
  | nil => rfl
  | cons x l ih => simp only [cjobs, List.flatMap_cons, List.length_append, List.length_cons] at ih ⊢; rw [ih]; simp [CJob.cells]; omega
theorem cjobs_append (L M : List CJob) : cjobs (L ++ M) = cjobs L ++ cjobs M := by simp [cjobs]

structure CStk (w : World) (base g : Nat) (L : List CJob) : Prop where
  le : base ≤ g
  row : ∃ A c, w.heap[g]? = some (.cells #[.slice A L.length c] 139 (0, 0)) ∧ w.ownsRow base 24 1 (.slice A L.length c) L.length (cjobs L)

theorem CStk.grow {w w' : World} {base g : Nat} {L : List CJob} (h : CStk w base g L) (hk : ∀ k, k < w.heap.size → w'.heap[k]? = w.heap[k]?) : CStk w' base g L := by
  obtain ⟨A, c, hb, hr1, hr⟩ := h.row
  have hs : ∀ (k : Nat) (o : Obj), w.heap[k]? = some o → w'.heap[k]? = some o := fun k o ho => (hk k (Array.getElem?_eq_some_iff.1 ho).1).trans ho
  refine ⟨h.le, A, c, hs _ _ hb, hr1, ?_⟩
  rcases hr with e | ⟨g1, cap, cur, e, hg, hh, rest⟩
  · exact .inl e
  · exact .inr ⟨g1, cap, cur, e, hg, hs _ _ hh, rest⟩
theorem CStk.alloc {w : World} {base g : Nat} {L : List CJob} (h : CStk w base g L) (o : Obj) : CStk (w.alloc o) base g L := h.grow fun k hk => Below.heap_alloc w o k hk
theorem CStk.drewN {w : World} {base g : Nat} {L : List CJob} (h : CStk w base g L) (q : Nat) : CStk (w.drewN q) base g L := h.grow fun _ _ => rfl

/-- Block k is none of the stack's: not its box, not its row. -/
def CFar (w : World) (g k : Nat) : Prop := k ≠ g ∧ ∀ A n c, w.heap[g]? = some (.cells #[.slice A n c] 139 (0, 0)) → (Value.slice A n c).ownBlock ≠ some k
theorem CStk.lt {w : World} {base g : Nat} {L : List CJob} (h : CStk w base g L) : g < w.heap.size := by
  obtain ⟨A, c, hb, _⟩ := h.row
  exact (Array.getElem?_eq_some_iff.1 hb).1
theorem CStk.far {w : World} {base g k : Nat} {L : List CJob} (h : CStk w base g L) (hk : w.heap.size ≤ k) : CFar w g k := by
  have hl := h.lt
  obtain ⟨A, c, hb, hrow⟩ := h.row
  refine ⟨by omega, fun A' n' c' he e => ?_⟩
  rw [hb] at he
  injection he with he
  injection he with he _ _
  have he := congrArg Array.toList he
  simp only [List.cons.injEq, Value.slice.injEq, and_true] at he
  obtain ⟨rfl, rfl, rfl⟩ := he
  have := (hrow.lt k e).2
  omega
theorem CFar.grow {w w' : World} {g k : Nat} (h : CFar w g k) (hg : g < w.heap.size) (hk : ∀ k, k < w.heap.size → w'.heap[k]? = w.heap[k]?) : CFar w' g k :=
  ⟨h.1, fun A n c he => h.2 A n c ((hk g hg).symm.trans he)⟩

set_option maxHeartbeats 1000000 in
theorem cpop_any (base g : Nat) (L : List CJob) (x : CJob) (w : World) (h : CStk w base g (L ++ [x])) (hL : L.length ≤ 1099511627776) :
    Calls Tryz.prog 92 #[.pointer (some ⟨g, 0, none⟩)] w fun e w' =>
      e = .returned (.slice x.a1 x.n1 x.c1) ∧ CStk w' base g L ∧ w.grownBy w' (some g) := by
  obtain ⟨A, c, hb, hrow⟩ := h.row
  have hrow2 := hrow
  obtain ⟨hr1, hr⟩ := hrow
  rcases hr with ⟨e, e2⟩ | ⟨g1, cap, cur, e, hg, hh, hcap, hmx, hsz, htk⟩
  · simp at e2
  injection e with e1 e2 e3
  subst e1; subst e3
  have hlen : (L ++ [x]).length = L.length + 1 := by simp
  rw [hlen] at hb hcap htk
  have hcell : ∀ j v, (cjobs (L ++ [x]))[j]? = some v → w.cell? ⟨g1, j, none⟩ = some v := by
    intro j v hv
    rw [cell_of_row w g1 j cur _ _ hh]
    rw [← htk, List.getElem?_take] at hv
    split at hv
    · simpa using hv
    · cases hv
  have hc0 : w.cell? ⟨g1, L.length, none⟩ = some (.slice x.a1 x.n1 x.c1) := hcell _ _ (by rw [cjobs_append, List.getElem?_append_right (by rw [cjobs_length, Nat.mul_one]; exact Nat.le_refl _), cjobs_length, Nat.mul_one, Nat.sub_self]; rfl)
  have hbox : w.cell? ⟨g, 0, none⟩ = some (.slice (some ⟨g1, 0, none⟩) (L.length + 1) c) := by rw [cell_of_row w g 0 _ _ _ hb]; rfl
  have hfr : w.frozen? ⟨g, 0, none⟩ = false := by simp [World.frozen?, hb]
  obtain ⟨k, hk⟩ : ∃ k, k = L.length := ⟨_, rfl⟩
  rw [← hk] at hc0 hbox hL hcap
  have hgl : g < w.heap.size := (Array.getElem?_eq_some_iff.1 hb).1
  have hg1l : g1 < w.heap.size := (Array.getElem?_eq_some_iff.1 hh).1
  have hne : g1 ≠ g := by rintro rfl; rw [hh] at hb; simp at hb
  have Hk := Lib.hid hk
  have Hb := Lib.hid hb
  have Hh := Lib.hid hh
  have Hsz := Lib.hid hsz
  have Htk := Lib.hid htk
  clear hcell htk hr1 hrow2 hb hlen hh hsz hk e2
  go_enter Tryz.func92, Tryz.ntmps92
  go_wp2_with fail
  refine bodyPost_ret (v := .slice x.a1 x.n1 x.c1) (by simp [results, Tryz.results92, go_sem]) rfl ⟨rfl, ⟨h.le, some ⟨g1, 0, none⟩, c, ?_, ?_⟩, grown_set _ _ _⟩
  · rw [← Hk.out]
    exact box_set Hb.out
  · rw [← Hk.out]
    refine ⟨by rw [cjobs_length, Hk.out], .inr ⟨g1, c, cur, rfl, hg, heap_far Hh.out hne _, by omega, hmx, Hsz.out, ?_⟩⟩
    have hk := Hk.out
    have e3 : (cjobs L).take (k * 1) = cjobs L := List.take_of_length_le (by rw [cjobs_length, hk]; exact Nat.le_refl _)
    have := congrArg (List.take (k * 1)) Htk.out
    rw [List.take_take, cjobs_append, List.take_append_of_le_length (by rw [cjobs_length, hk]; exact Nat.le_refl _), e3, Nat.min_eq_left (by omega)] at this
    exact this

theorem cjobs_one (L : List CJob) : ∀ u ∈ cjobs L, u.oneCell' = true := by
  intro u hu
  simp only [cjobs, List.mem_flatMap] at hu
  obtain ⟨x, _, hx⟩ := hu
  simp only [CJob.cells, List.mem_cons, List.not_mem_nil, or_false] at hx
  subst hx; rfl

theorem elem_tree : Elem Tryz.prog 139 24 (.slice none 0 0) 1 24 := ⟨Tryz.underlying139, by kernel_rfl, rfl, by omega⟩

set_option maxHeartbeats 1000000 in
theorem cpush_any (base g b o m c : Nat) (L M : List CJob) (w : World) (h : CStk w base g L) (hm : m = M.length) (hc : ∀ j u, (cjobs M)[j]? = some u → w.cell? ⟨b, o + j, none⟩ = some u) (hL : L.length + m ≤ 1099511627776) (hb : base ≤ w.heap.size) :
    Calls Tryz.prog 93 #[.pointer (some ⟨g, 0, none⟩), .slice (some ⟨b, o, none⟩) m c] w fun e w' =>
      (∃ v, e = .returned v) ∧ CStk w' base g (L ++ M) ∧ Below base w w' ∧ ∀ k, k < w.heap.size → CFar w g k → w'.heap[k]? = w.heap[k]? ∧ CFar w' g k := by
  obtain ⟨A, c1, hbx, hrow⟩ := h.row
  have hbox : w.cell? ⟨g, 0, none⟩ = some (.slice A L.length c1) := by rw [cell_of_row w g 0 _ _ _ hbx]; rfl
  have hfr : w.frozen? ⟨g, 0, none⟩ = false := by simp [World.frozen?, hbx]
  have hgl : g < w.heap.size := (Array.getElem?_eq_some_iff.1 hbx).1
  have hsrc : Src Tryz.prog 1 30 (.slice (some ⟨b, o, none⟩) m c) m (cjobs M) w := Src.laid Tryz.underlying30 (by rw [cjobs_length, hm]) hc (cjobs_one M)
  have hlt := hrow.lt
  have hne : ∀ k, (Value.slice A L.length c1).ownBlock = some k → k ≠ g := by
    rintro k hk rfl
    rcases hrow.2 with ⟨e, _⟩ | ⟨g1, cap, cur, e, _, hh, _⟩
    · rw [e] at hk; cases hk
    · rw [e] at hk
      injection hk with hk
      simp only at hk
      rw [hk] at hh
      rw [hh] at hbx
      simp at hbx
  obtain ⟨k, hk⟩ : ∃ k, k = L.length := ⟨_, rfl⟩
  rw [← hk] at hbox hL hrow hlt hne
  have Hbx := Lib.hid hbx
  have Hm := Lib.hid hm
  have Hk := Lib.hid hk
  have Hlt := Lib.hid hlt
  have Hne := Lib.hid hne
  clear hc hk hm hlt hne hbx
  go_enter Tryz.func93, Tryz.ntmps93
  go_wp2_with (at_builtin; refine wpList_append_row rfl (.tmp 7) (.tmp 8) _ _ rfl elem_tree rfl rfl hrow hsrc hL hb ?_; intro A' c' w' ho' hg' hat'; have hbox' := (hg'.cell hbox (fun e => Hne.out _ e.symm rfl)); have hfr' : w'.frozen? ⟨g, 0, none⟩ = false := (World.frozen?_of_block (hg'.block g hgl (fun e => Hne.out _ e.symm rfl))).trans hfr)
  go_end0
  have hnb : (Value.slice A' (k + m) c').ownBlock ≠ some g := by
    cases A' with
    | none => simp [Value.ownBlock]
    | some a =>
      rcases hat' a rfl with e | e
      · simp only [Value.ownBlock, ne_eq, Option.some.injEq]; omega
      · intro e'
        simp only [Value.ownBlock] at e'
        exact Hne.out g (by rw [← e, ← e']) rfl
  have hlen : (L ++ M).length = k + m := by rw [List.length_append, ← Hk.out, ← Hm.out]
  refine ⟨⟨_, rfl⟩, ⟨h.le, A', c', ?_, ?_⟩, ?_, fun q hq hf => ?_⟩
  · rw [hlen]
    exact box_set ((hg'.block g hgl (fun e => Hne.out _ e.symm rfl)).trans Hbx.out)
  · rw [hlen, cjobs_append]
    exact ho'.kept (grown_set w' ⟨g, 0, none⟩ _) (.inr hnb)
  · refine ((Below.refl base w).grown hg' hb (fun q hq => (Hlt.out q hq).1)).trans ?_
    exact (Below.refl base w').setCell h.le _
  · have hq2 := hf.2 _ _ _ Hbx.out
    rw [← Hk.out] at hq2
    refine ⟨(Below.heap_setCell w' ⟨g, 0, none⟩ _ q hf.1).trans (hg'.block q hq (fun e => hq2 e.symm)), hf.1, fun A2 n2 c2 he => ?_⟩
    rw [box_set ((hg'.block g hgl (fun e => Hne.out _ e.symm rfl)).trans Hbx.out)] at he
    injection he with he
    injection he with he _ _
    have he := congrArg Array.toList he
    simp only [List.cons.injEq, Value.slice.injEq, and_true] at he
    obtain ⟨rfl, rfl, rfl⟩ := he
    cases A' with
    | none => simp [Value.ownBlock]
    | some a =>
      rcases hat' a rfl with e | e
      · simp only [Value.ownBlock, ne_eq, Option.some.injEq]; omega
      · simp only [Value.ownBlock]
        rw [e]
        exact hq2
/-- A block of edges is none of the stack's. -/
theorem CStk.kind {w : World} {base g k : Nat} {L : List CJob} (h : CStk w base g L) {cur : Array Value} (hk : w.heap[k]? = some (.cells cur 27 (0, 0))) : CFar w g k := by
  obtain ⟨A, c, hb, hrow⟩ := h.row
  refine ⟨fun e => ?_, fun A' n' c' he e => ?_⟩
  · subst e
    rw [hk] at hb
    injection hb with hb
    injection hb with _ hb _
    exact absurd hb (by decide)
  · rw [hb] at he
    injection he with he
    injection he with he _ _
    have he := congrArg Array.toList he
    simp only [List.cons.injEq, Value.slice.injEq, and_true] at he
    obtain ⟨rfl, rfl, rfl⟩ := he
    rcases hrow.2 with ⟨e1, _⟩ | ⟨g1, cap, cur1, e1, _, hh, _⟩
    · rw [e1] at e; cases e
    · rw [e1] at e
      simp only [Value.ownBlock, Option.some.injEq] at e
      subst e
      rw [hk] at hh
      injection hh with hh
      injection hh with _ hh _
      exact absurd hh (by decide)
/-- A store into a block that is none of the stack's. -/
theorem CStk.set {w : World} {base g : Nat} {L : List CJob} (h : CStk w base g L) {a : Addr} (hf : CFar w g a.block) (v : Value) : CStk (w.setCell a v) base g L := by
  obtain ⟨A, c, hb, hrow⟩ := h.row
  refine ⟨h.le, A, c, heap_far hb (fun e => hf.1 e.symm) v, hrow.kept (grown_set w a v) (.inr ?_)⟩
  exact hf.2 _ _ _ hb
theorem CStk.grownNone {w w' : World} {base g : Nat} {L : List CJob} (h : CStk w base g L) (hg : w.grownBy w' none) : CStk w' base g L := h.grow fun k hk => hg.block k hk (by simp)
end Go.Proofs.YtecnilcfhicfmaaGreatDoor.Cl
namespace Go.Proofs.YtecnilcfhicfmaaGreatDoor.Cl
open Go.RowKit
set_option maxRecDepth 100000

/-- Where trees may lie that clone goes through: ahead of its own memory, or in rows of edges of its own. -/
def Pw (w : World) (base : Nat) (b : Nat) : Prop := b < base ∨ (base ≤ b ∧ ∃ cur, w.heap[b]? = some (.cells cur 27 (0, 0)))
theorem Pw.keep {w w' : World} {base b : Nat} (hk : Pw w base b → w'.heap[b]? = w.heap[b]?) (h : Pw w base b) : Pw w' base b := by
  have e := hk h
  rcases h with h | ⟨h, cur, hc⟩
  · exact .inl h
  · exact .inr ⟨h, cur, e.trans hc⟩
theorem Pw.lt {w : World} {base b : Nat} (hb : base ≤ w.heap.size) (h : Pw w base b) : b < w.heap.size := by
  rcases h with h | ⟨_, cur, hc⟩
  · omega
  · exact (Array.getElem?_eq_some_iff.1 hc).1
theorem HoldsP.step {w w' : World} {base : Nat} (hk : ∀ b, Pw w base b → w'.heap[b]? = w.heap[b]?) {A : Option Addr} {n : Nat} {t : Tr} (h : HoldsP w (Pw w base) A n t) : HoldsP w' (Pw w' base) A n t :=
  (h.keep fun b _ hb => World.cell?_of_block (hk b hb)).more fun b hb => hb.keep (hk b)

def Row (w : World) (base : Nat) (A : Option Addr) : Prop := ∀ a, A = some a → ∃ d, a = ⟨d, 0, none⟩ ∧ base ≤ d ∧ ∃ cur, w.heap[d]? = some (.cells cur 27 (0, 0))
theorem Row.step {w w' : World} {base : Nat} (hk : ∀ b, Pw w base b → w'.heap[b]? = w.heap[b]?) {A : Option Addr} (h : Row w base A) : Row w' base A := fun a ha => by
  obtain ⟨d, e, hd, cur, hc⟩ := h a ha
  exact ⟨d, e, hd, cur, (hk d (.inr ⟨hd, cur, hc⟩)).trans hc⟩
structure JobOK (w : World) (base : Nat) (p : CJob × Tr) : Prop where
  holds : HoldsP w (Pw w base) p.1.a1 p.1.n1 p.2
  row : Row w base p.1.a1
theorem JobOK.step {w w' : World} {base : Nat} (hk : ∀ b, Pw w base b → w'.heap[b]? = w.heap[b]?) {p : CJob × Tr} (h : JobOK w base p) : JobOK w' base p := ⟨h.holds.step hk, h.row.step hk⟩

/-- What level's contract leaves. -/
theorem level_ok {w w' : World} {base n c' : Nat} {A' : Option Addr} {t : Tr} (hb : base ≤ w.heap.size) (hg : w.grownBy w' none) (h : HoldsP w' (fun b => Pw w base b ∨ b = w.heap.size) A' n t)
    (ha : ∀ a, A' = some a → a = ⟨w.heap.size, 0, none⟩ ∧ ∃ cur, w'.heap[w.heap.size]? = some (.cells cur 27 (0, 0))) : JobOK w' base (⟨A', n, c'⟩, t) := by
  have hk : ∀ b, Pw w base b → Pw w' base b := fun b h => h.keep fun h => hg.block b (h.lt hb) (fun e => by cases e)
  refine ⟨?_, fun a e => ?_⟩
  · cases t with
    | nil => exact h
    | cons s k r =>
      cases A' with
      | none => obtain ⟨b, o, e, _⟩ := h; cases e
      | some a =>
        obtain ⟨_, cur, hc⟩ := ha a rfl
        exact h.more fun b h => h.elim (hk b) (fun e => by rw [e]; exact .inr ⟨hb, cur, hc⟩)
  · obtain ⟨e1, cur, hc⟩ := ha a e
    exact ⟨_, e1, hb, cur, hc⟩

/-- Behind the store of a slice that reads the same. -/
theorem Pw.set {w : World} {base p q : Nat} {cur : Array Value} {v : Value} (hh : w.heap[p]? = some (.cells cur 27 (0, 0))) {b : Nat} (h : Pw w base b) : Pw (w.setCell ⟨p, q, none⟩ v) base b := by
  rcases h with h | ⟨h, c2, hc⟩
  · exact .inl h
  · by_cases e : b = p
    · subst e
      exact .inr ⟨h, _, heap_setCell_same w b q cur _ _ hh⟩
    · exact .inr ⟨h, c2, (Below.heap_setCell w _ _ b e).trans hc⟩
theorem JobOK.set {w : World} {base p q n1 c1 n2 c2 : Nat} {X Y : Option Addr} {u : Tr} {cur : Array Value} (hh : w.heap[p]? = some (.cells cur 27 (0, 0))) (hq : w.cell? ⟨p, q, none⟩ = some (.slice X n1 c1)) (h1 : HoldsP w (Pw w base) X n1 u) (h2 : HoldsP w (Pw w base) Y n2 u) (hn : n2 ≤ c2) (hm : c2 ≤ maxLen)
    {A : Option Addr} {n : Nat} {t : Tr} (h : HoldsP w (Pw w base) A n t) : HoldsP (w.setCell ⟨p, q, none⟩ (.slice Y n2 c2)) (Pw (w.setCell ⟨p, q, none⟩ (.slice Y n2 c2)) base) A n t :=
  (HoldsP.repl hh hq h1 h2 hn hm h1 h).more fun _ hb => hb.set hh
theorem Row.set {w : World} {base p q : Nat} {cur : Array Value} {v : Value} (hh : w.heap[p]? = some (.cells cur 27 (0, 0))) {A : Option Addr} (h : Row w base A) : Row (w.setCell ⟨p, q, none⟩ v) base A := fun a ha => by
  obtain ⟨d, e, hd, c2, hc⟩ := h a ha
  rcases Pw.set (base := base) (q := q) (v := v) hh (.inr ⟨hd, c2, hc⟩) with h | ⟨_, h⟩
  · omega
  · exact ⟨d, e, hd, h⟩

structure ClSt (w : World) (base g : Nat) (A : Option Addr) (n : Nat) (t : Tr) (X : List (CJob × Tr)) : Prop where
  stk : CStk w base g (X.map Prod.fst)
  whole : HoldsP w (Pw w base) A n t
  jobs : ∀ p ∈ X, JobOK w base p
  size : base ≤ w.heap.size

section
variable {w w' : World} {base g n : Nat} {A : Option Addr} {t : Tr} {X : List (CJob × Tr)}
theorem ClSt.grow (h : ClSt w base g A n t X) (hg : w.grownBy w' none) : ClSt w' base g A n t X :=
  have hk : ∀ b, Pw w base b → w'.heap[b]? = w.heap[b]? := fun b hb => hg.block b (hb.lt h.size) (fun e => by cases e)
  ⟨h.stk.grownNone hg, h.whole.step hk, fun p hp => (h.jobs p hp).step hk, Nat.le_trans h.size hg.size⟩
theorem ClSt.alloc (h : ClSt w base g A n t X) (o : Obj) : ClSt (w.alloc o) base g A n t X :=
  have hk : ∀ b, Pw w base b → (w.alloc o).heap[b]? = w.heap[b]? := fun b hb => Below.heap_alloc w o b (hb.lt h.size)
  ⟨h.stk.alloc o, h.whole.step hk, fun p hp => (h.jobs p hp).step hk, by simp; exact Nat.le_succ_of_le h.size⟩
/-- Popped. -/
theorem ClSt.pop {x : CJob × Tr} (h : ClSt w base g A n t (X ++ [x])) (hs : CStk w' base g (X.map Prod.fst)) (hg : w.grownBy w' (some g)) : ClSt w' base g A n t X ∧ JobOK w' base x := by
  have hk : ∀ b, Pw w base b → w'.heap[b]? = w.heap[b]? := fun b hb => hg.block b (hb.lt h.size) (fun e => by
    injection e with e
    subst e
    rcases hb with hb | ⟨_, cur, hc⟩
    · have := h.stk.le; omega
    · exact (h.stk.kind hc).1 rfl)
  exact ⟨⟨hs, h.whole.step hk, fun p hp => (h.jobs p (List.mem_append.2 (.inl hp))).step hk, Nat.le_trans h.size hg.size⟩, (h.jobs x (by simp)).step hk⟩
/-- Pushed. -/
theorem ClSt.push {x y : CJob × Tr} (h : ClSt w base g A n t X) (hx : JobOK w base x) (hy : JobOK w base y) (hs : CStk w' base g (X.map Prod.fst ++ [x.1])) (hb : Below base w w') (hg : ∀ k, k < w.heap.size → CFar w g k → w'.heap[k]? = w.heap[k]?) : ClSt w' base g A n t (X ++ [x]) ∧ JobOK w' base y := by
  have hk : ∀ b, Pw w base b → w'.heap[b]? = w.heap[b]? := fun b h1 => by
    rcases h1 with h1 | ⟨h0, cur, hc⟩
    · exact hb.block b h1
    · exact hg b (Array.getElem?_eq_some_iff.1 hc).1 (h.stk.kind hc)
  refine ⟨⟨by simpa using hs, h.whole.step hk, fun p hp => ?_, Nat.le_trans h.size hb.size⟩, hy.step hk⟩
  rcases List.mem_append.1 hp with hp | hp
  · exact (h.jobs p hp).step hk
  · simp only [List.mem_cons, List.not_mem_nil, or_false] at hp
    subst hp
    exact hx.step hk
/-- Stored. -/
theorem ClSt.set {p q n1 c1 n2 c2 : Nat} {Z Y : Option Addr} {u : Tr} {cur : Array Value} (h : ClSt w base g A n t X) (hh : w.heap[p]? = some (.cells cur 27 (0, 0))) (hq : w.cell? ⟨p, q, none⟩ = some (.slice Z n1 c1)) (h1 : HoldsP w (Pw w base) Z n1 u) (h2 : HoldsP w (Pw w base) Y n2 u) (hn : n2 ≤ c2) (hm : c2 ≤ maxLen) :
    ClSt (w.setCell ⟨p, q, none⟩ (.slice Y n2 c2)) base g A n t X :=
  ⟨h.stk.set (h.stk.kind hh) _, JobOK.set hh hq h1 h2 hn hm h.whole, fun x hx => ⟨JobOK.set hh hq h1 h2 hn hm (h.jobs x hx).holds, (h.jobs x hx).row.set hh⟩, by simp [World.setCell]; exact h.size⟩
end
end Go.Proofs.YtecnilcfhicfmaaGreatDoor.Cl
