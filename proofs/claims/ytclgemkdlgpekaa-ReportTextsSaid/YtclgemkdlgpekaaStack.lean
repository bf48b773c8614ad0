/- The stack of an iterator over trees: pop and push, at edges that stand beside each other (a slice and how deep). Conditions: what is popped is there; sizes below 2^40. -/
import Derived.Test.YtclgemkdlgpekaaTree
import Derived.Test.YtclgemkdlgpekaaGrow
import Derived.Test.YtclgemkdlgpekaaRange
namespace Go.Proofs.Ytclgemkdlgpekaa
open Go.RowKit
set_option maxRecDepth 100000

/-- What is still to be done: a slice of edges, how deep they stand. -/
structure Job where
  at_ : Option Addr
  n : Nat
  c : Nat
  deep : Nat
def Job.cells (x : Job) : List Value := [.slice x.at_ x.n x.c, .int .i64 x.deep]
def jobs (L : List Job) : List Value := L.flatMap Job.cells
theorem jobs_length (L : List Job) : (jobs L).length = L.length * 2 := by
  induction L with
  | nil => rfl
  | cons x l ih => simp only [jobs, List.flatMap_cons, List.length_append, List.length_cons] at ih ⊢; rw [ih]; simp [Job.cells]; omega
theorem jobs_append (L M : List Job) : jobs (L ++ M) = jobs L ++ jobs M := by simp [jobs]

/-- The box g holds a stack (its cells in a block from base on) with the jobs L, the top at its end. -/
structure Stk (w : World) (base g : Nat) (L : List Job) : Prop where
  le : base ≤ g
  row : ∃ A c, w.heap[g]? = some (.cells #[.slice A L.length c] 84 (0, 0)) ∧ w.ownsRow base 82 2 (.slice A L.length c) L.length (jobs L)

/-- The iterator's own kinds of cells. -/
def kinds : TypeId → Bool := fun e => e == 84 || e == 82 || e == 65

theorem Stk.keep {w w' : World} {B base g : Nat} {L : List Job} (h : Stk w base g L) (hk : Keeps (pT kinds) B w w') : Stk w' base g L := by
  obtain ⟨A, c, hb, hr1, hr⟩ := h.row
  refine ⟨h.le, A, c, hk.same _ _ hb rfl, hr1, ?_⟩
  rcases hr with e | ⟨g1, cap, cur, e, hg, hh, rest⟩
  · exact .inl e
  · exact .inr ⟨g1, cap, cur, e, hg, hk.same _ _ hh rfl, rest⟩

theorem box_set {w : World} {g : Nat} {v u : Value} {e : TypeId} (h : w.heap[g]? = some (.cells #[v] e (0, 0))) : (w.setCell ⟨g, 0, none⟩ u).heap[g]? = some (.cells #[u] e (0, 0)) := by
  simp [World.setCell, Array.getElem?_modify, h]
theorem grown_set (w : World) (a : Addr) (v : Value) : w.grownBy (w.setCell a v) (some a.block) :=
  ⟨rfl, rfl, rfl, by simp [World.setCell], fun k _ hk => Below.heap_setCell w a v k (fun e => hk (by rw [e]))⟩
theorem grown_new {w w' : World} {row : Option Nat} (h : w.grownBy w' row) (o : Obj) : w.grownBy (w'.alloc o) row :=
  ⟨h.os, h.tape, h.output, by simp; exact Nat.le_succ_of_le h.size, fun k hk hn => (Below.heap_alloc w' o k (by have := h.size; omega)).trans (h.block k hk hn)⟩
theorem heap_keep {w : World} {g : Nat} {o : Obj} (h : w.heap[g]? = some o) (o' : Obj) : (w.alloc o').heap[g]? = some o := (Below.heap_alloc w o' g (Array.getElem?_eq_some_iff.1 h).1).trans h
theorem heap_far {w : World} {g : Nat} {o : Obj} (h : w.heap[g]? = some o) {a : Addr} (hne : g ≠ a.block) (v : Value) : (w.setCell a v).heap[g]? = some o := (Below.heap_setCell w a v g hne).trans h

set_option maxHeartbeats 1000000 in
theorem pop_any (base g : Nat) (L : List Job) (x : Job) (w : World) (h : Stk w base g (L ++ [x])) (hL : L.length ≤ 1099511627776) :
    Calls Try.prog 42 #[.pointer (some ⟨g, 0, none⟩)] w fun e w' =>
      e = .returned (.agg #[.slice x.at_ x.n x.c, .int .i64 x.deep]) ∧ Stk w' base g L ∧ w.grownBy w' (some g) := by
  obtain ⟨A, c, hb, hrow⟩ := h.row
  have hrow2 := hrow
  obtain ⟨hr1, hr⟩ := hrow
  rcases hr with ⟨e, e2⟩ | ⟨g1, cap, cur, e, hg, hh, hcap, hmx, hsz, htk⟩
  · simp at e2
  injection e with e1 e2 e3
  subst e1; subst e3
  have hlen : (L ++ [x]).length = L.length + 1 := by simp
  rw [hlen] at hb hcap htk
  have hcell : ∀ j v, (jobs (L ++ [x]))[j]? = some v → w.cell? ⟨g1, j, none⟩ = some v := by
    intro j v hv
    rw [cell_of_row w g1 j cur _ _ hh]
    rw [← htk, List.getElem?_take] at hv
    split at hv
    · simpa using hv
    · cases hv
  have hc0 : w.cell? ⟨g1, L.length * 2, none⟩ = some (.slice x.at_ x.n x.c) := hcell _ _ (by rw [jobs_append, List.getElem?_append_right (by rw [jobs_length]; exact Nat.le_refl _), jobs_length, Nat.sub_self]; rfl)
  have hc1 : w.cell? ⟨g1, L.length * 2 + 1, none⟩ = some (.int .i64 x.deep) := hcell _ _ (by rw [jobs_append, List.getElem?_append_right (by rw [jobs_length]; omega), jobs_length, Nat.add_sub_cancel_left]; rfl)
  have hbox : w.cell? ⟨g, 0, none⟩ = some (.slice (some ⟨g1, 0, none⟩) (L.length + 1) c) := by rw [cell_of_row w g 0 _ _ _ hb]; rfl
  have hfr : w.frozen? ⟨g, 0, none⟩ = false := by simp [World.frozen?, hb]
  obtain ⟨k, hk⟩ : ∃ k, k = L.length := ⟨_, rfl⟩
  rw [← hk] at hc0 hc1 hbox hL hcap
  have hgl : g < w.heap.size := (Array.getElem?_eq_some_iff.1 hb).1
  have hg1l : g1 < w.heap.size := (Array.getElem?_eq_some_iff.1 hh).1
  have hne : g1 ≠ g := by rintro rfl; rw [hh] at hb; simp at hb
  have Hk := Lib.hid hk
  have Hb := Lib.hid hb
  have Hh := Lib.hid hh
  have Hsz := Lib.hid hsz
  have Htk := Lib.hid htk
  clear hcell htk hr1 hrow2 hb hlen hh hsz hk e2
  go_enter Try.func42, Try.ntmps42
  go_wp2_with fail
  refine bodyPost_ret (v := .agg #[.slice x.at_ x.n x.c, .int .i64 x.deep]) (by simp [results, Try.results42, go_sem]) rfl ⟨rfl, ⟨h.le, some ⟨g1, 0, none⟩, c, ?_, ?_⟩, grown_new (grown_new (grown_set _ _ _) _) _⟩
  · rw [← Hk.out]
    exact heap_keep (heap_keep (box_set Hb.out) _) _
  · rw [← Hk.out]
    refine ⟨by rw [jobs_length, Hk.out], .inr ⟨g1, c, cur, rfl, hg, heap_keep (heap_keep (heap_far Hh.out hne _) _) _, by omega, hmx, Hsz.out, ?_⟩⟩
    have hk := Hk.out
    have e3 : (jobs L).take (k * 2) = jobs L := List.take_of_length_le (by rw [jobs_length, hk]; exact Nat.le_refl _)
    have := congrArg (List.take (k * 2)) Htk.out
    rw [List.take_take, jobs_append, List.take_append_of_le_length (by rw [jobs_length, hk]; exact Nat.le_refl _), e3, Nat.min_eq_left (by omega)] at this
    exact this

/-- The cells of a slice just laid. -/
theorem Src.laid {P : Program} {w : World} {size n c : Nat} {tx e' : TypeId} (hk : P.underlying tx = some (.slice e')) {b o : Nat} {ys : List Value} (hl : ys.length = n * size)
    (hc : ∀ j u, ys[j]? = some u → w.cell? ⟨b, o + j, none⟩ = some u) (h1 : ∀ u ∈ ys, u.oneCell' = true) : Src P size tx (.slice (some ⟨b, o, none⟩) n c) n ys w :=
  Src.ofSlice w hk ⟨b, o, none⟩ n c ys hl (fun j u hu => by rw [Addr.add_lit]; exact hc j u hu) h1
theorem jobs_one (L : List Job) : ∀ u ∈ jobs L, u.oneCell' = true := by
  intro u hu
  simp only [jobs, List.mem_flatMap] at hu
  obtain ⟨x, _, hx⟩ := hu
  simp only [Job.cells, List.mem_cons, List.not_mem_nil, or_false] at hx
  rcases hx with rfl | rfl <;> rfl

theorem elem_beside : Elem Try.prog 84 82 (.agg #[.slice none 0 0, .int .i64 0]) 2 32 := ⟨Try.underlying84, by kernel_rfl, rfl, by omega⟩

set_option maxHeartbeats 1000000 in
theorem push_any (base g b o m c : Nat) (L M : List Job) (w : World) (h : Stk w base g L) (hm : m = M.length) (hc : ∀ j u, (jobs M)[j]? = some u → w.cell? ⟨b, o + j, none⟩ = some u) (hL : L.length + m ≤ 1099511627776) (hb : base ≤ w.heap.size) :
    Calls Try.prog 43 #[.pointer (some ⟨g, 0, none⟩), .slice (some ⟨b, o, none⟩) m c] w fun e w' =>
      (∃ v, e = .returned v) ∧ Stk w' base g (L ++ M) ∧ Keeps (pA kinds) base w w' := by
  obtain ⟨A, c1, hbx, hrow⟩ := h.row
  have hbox : w.cell? ⟨g, 0, none⟩ = some (.slice A L.length c1) := by rw [cell_of_row w g 0 _ _ _ hbx]; rfl
  have hfr : w.frozen? ⟨g, 0, none⟩ = false := by simp [World.frozen?, hbx]
  have hgl : g < w.heap.size := (Array.getElem?_eq_some_iff.1 hbx).1
  have hsrc : Src Try.prog 2 83 (.slice (some ⟨b, o, none⟩) m c) m (jobs M) w := Src.laid Try.underlying83 (by rw [jobs_length, hm]) hc (jobs_one M)
  have hlt := hrow.lt
  have hne : ∀ k, (Value.slice A L.length c1).ownBlock = some k → k ≠ g := by
    rintro k hk rfl
    rcases hrow.2 with ⟨e, _⟩ | ⟨g1, cap, cur, e, _, hh, _⟩
    · rw [e] at hk; cases hk
    · rw [e] at hk
      injection hk with hk
      simp only at hk
      rw [hk] at hh
      rw [hh] at hbx
      simp at hbx
  obtain ⟨k, hk⟩ : ∃ k, k = L.length := ⟨_, rfl⟩
  rw [← hk] at hbox hL hrow hlt hne
  have Hbx := Lib.hid hbx
  have Hm := Lib.hid hm
  have Hk := Lib.hid hk
  have Hlt := Lib.hid hlt
  have Hne := Lib.hid hne
  clear hc hk hm hlt hne hbx
  go_enter Try.func43, Try.ntmps43
  go_wp2_with (at_builtin; refine wpList_append_row rfl (.tmp 7) (.tmp 8) _ _ rfl elem_beside rfl rfl hrow hsrc hL hb ?_; intro A' c' w' ho' hg' hat'; have hbox' := (hg'.cell hbox (fun e => Hne.out _ e.symm rfl)); have hfr' : w'.frozen? ⟨g, 0, none⟩ = false := (World.frozen?_of_block (hg'.block g hgl (fun e => Hne.out _ e.symm rfl))).trans hfr)
  go_end0
  have hnb : (Value.slice A' (k + m) c').ownBlock ≠ some g := by
    cases A' with
    | none => simp [Value.ownBlock]
    | some a =>
      rcases hat' a rfl with e | e
      · simp only [Value.ownBlock, ne_eq, Option.some.injEq]; omega
      · intro e'
        simp only [Value.ownBlock] at e'
        exact Hne.out g (by rw [← e, ← e']) rfl
  have hlen : (L ++ M).length = k + m := by rw [List.length_append, ← Hk.out, ← Hm.out]
  refine ⟨⟨_, rfl⟩, ⟨h.le, A', c', ?_, ?_⟩, ?_⟩
  · rw [hlen]
    exact box_set ((hg'.block g hgl (fun e => Hne.out _ e.symm rfl)).trans Hbx.out)
  · rw [hlen, jobs_append]
    exact ho'.kept (grown_set w' ⟨g, 0, none⟩ _) (.inr hnb)
  · refine (Keeps.grown hg' hb (fun q hq => ⟨(Hlt.out q hq).1, fun o ho => ?_⟩)).trans (Keeps.setCell (o := .cells #[.slice A L.length c1] 84 (0, 0)) w' _ ((hg'.block g hgl (fun e => Hne.out _ e.symm rfl)).trans Hbx.out) rfl h.le)
    rcases hrow.2 with ⟨e, _⟩ | ⟨g1, cap, cur, e, _, hh, _⟩
    · rw [e] at hq; cases hq
    · rw [e] at hq
      injection hq with hq
      simp only at hq
      subst hq
      rw [hh] at ho
      cases ho
      rfl
end Go.Proofs.Ytclgemkdlgpekaa
