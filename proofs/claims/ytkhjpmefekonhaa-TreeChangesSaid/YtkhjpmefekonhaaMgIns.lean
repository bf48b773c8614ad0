/- copy between rows whose elements have any number of cells; append of zero values that makes a new row. Conditions: what is copied fits. Cells laid over a row: what stands there then. No conditions. slices.Insert of one edge into a row of edges of one's own. Conditions: fewer than 2^39 edges; the place is within the row. slices.Delete of one edge out of a row of edges of one's own. Conditions: fewer than 2^39 edges; the edge is there. -/
import Derived.Test.YtkhjpmefekonhaaGrow
import Derived.Test.YtkhjpmefekonhaaStack
import Derived.Laws.CopyRow
import Derived.Laws.CopyOwn
import Derived.Lib.AppendZerosOnto
import Derived.Deep.RegionLaw
import Derived.Test.YtkhjpmefekonhaaMgCl
import Derived.Lib.Overlaps
import Derived.Laws.Externs
import Derived.IntWalk
import Derived.Outline
import Derived.Deep.QuietTactic
import Derived.BigQuiet
namespace Go.Proofs.Ytkhjpmefekonhaa.Cl
open Go.RowKit
set_option maxRecDepth 100000

theorem run_copy_k {P : Program} (w : World) (dT sT ty elem : TypeId) (size g o dLen dCap : Nat) (a : Addr) (sLen sCap k : Nat) (cur : Array Value) (t : TypeId) (cs : List Value)
    (hu : P.underlying dT = some (.slice elem)) (hs : (P.info? elem).map (·.size) = some size) (hg : w.heap[g]? = some (.cells cur t (0, 0))) (hk : k = Nat.min sLen dLen) (hn : cs.length = k * size)
    (hsrc : ∀ j v, cs[j]? = some v → w.cell? (a.add j) = some v) (hfit : o + cs.length ≤ cur.size) (h1 : ∀ v ∈ cs, v.oneCell' = true) :
    (Builtin.copy_ #[dT, sT] ty #[.slice (some ⟨g, o, none⟩) dLen dCap, .slice (some a) sLen sCap]).run P w = .ok (goInt k) (w.setRow g (splice cur.toList o cs).toArray) := by
  have e1 := run_loadCells_list (P := P) w a cs hsrc
  have e2 := run_storeCells_at P g o t cs 0 cur w hg (by simpa using hfit) h1
  obtain ⟨i, hi, hz⟩ := Option.map_eq_some_iff.1 hs
  subst hz
  rw [hn] at e1
  simp only [Nat.add_zero, List.append_assoc] at e2
  rw [splice]
  simp [Builtin.copy_, run_underlying hu, Builtin.lenOf, Builtin.firstCells, sizeOf, typeInfo, hi, ← hk, e1, e2]

theorem grown_setRow (w : World) (g : Nat) (cs : Array Value) : w.grownBy (w.setRow g cs) (some g) :=
  ⟨rfl, rfl, rfl, by simp [World.setRow], fun k _ hk => setRow_other w g k cs (fun e => hk (by rw [e]))⟩

section
variable {P : Program} {w : World} {ops : Array Oper} {o : Oper} {a : Act} {Q : Exit → Act → World → Prop}
theorem wpList_copy_k {rest : List Oper} (hgd : o.guard = none) (d s : Operand) (dT sT : TypeId) (hop : o.op = .call { callee := .builtin .copy, args := #[d, s], argTypes := #[dT, sT] }) (elem : TypeId) (size g off dLen dCap : Nat) (ad : Addr) (sLen sCap k : Nat) (cur : Array Value) (t : TypeId) (cs : List Value)
    (hu : P.underlying dT = some (.slice elem)) (hsz : (P.info? elem).map (·.size) = some size) (hd : a.eval d = .slice (some ⟨g, off, none⟩) dLen dCap) (hs : a.eval s = .slice (some ad) sLen sCap)
    (hg : w.heap[g]? = some (.cells cur t (0, 0))) (hk : k = Nat.min sLen dLen) (hn : cs.length = k * size) (hsrc : ∀ j v, cs[j]? = some v → w.cell? (ad.add j) = some v) (hfit : off + cs.length ≤ cur.size) (h1 : ∀ v ∈ cs, v.oneCell' = true)
    (h : ∀ w', Hid (w'.heap[g]? = some (.cells (splice cur.toList off cs).toArray t (0, 0))) → w.grownBy w' (some g) → wpList P ops Q rest (a.put o.dst (goInt k)) w') : wpList P ops Q (o :: rest) a w := by
  refine wpList_plain hgd fun K hK => ?_
  have hr := run_copy_k (P := P) w dT sT o.type elem size g off dLen dCap ad sLen sCap k cur t cs hu hsz hg hk hn hsrc hfit h1
  unfold Oper.wp
  simp [execOp, hop, resolve, invoke, builtin, hd, hs, hr, Result.andThen]
  exact hK _ _ (h _ (Lib.hid (setRow_heap w g _ _ t _ hg)) (grown_setRow w g _))
theorem step_copy_k {K : Act → World → Prop} {E : Prop} (hgd : o.guard = none) (d s : Operand) (dT sT : TypeId) (hop : o.op = .call { callee := .builtin .copy, args := #[d, s], argTypes := #[dT, sT] }) (elem : TypeId) (size g off dLen dCap : Nat) (ad : Addr) (sLen sCap k : Nat) (cur : Array Value) (t : TypeId) (cs : List Value)
    (hu : P.underlying dT = some (.slice elem)) (hsz : (P.info? elem).map (·.size) = some size) (hd : a.eval d = .slice (some ⟨g, off, none⟩) dLen dCap) (hs : a.eval s = .slice (some ad) sLen sCap)
    (hg : w.heap[g]? = some (.cells cur t (0, 0))) (hk : k = Nat.min sLen dLen) (hn : cs.length = k * size) (hsrc : ∀ j v, cs[j]? = some v → w.cell? (ad.add j) = some v) (hfit : off + cs.length ≤ cur.size) (h1 : ∀ v ∈ cs, v.oneCell' = true)
    (h : ∀ w', Hid (w'.heap[g]? = some (.cells (splice cur.toList off cs).toArray t (0, 0))) → w.grownBy w' (some g) → K (a.put o.dst (goInt k)) w') : if Region.wanted o (yielded ops a.tmps) = true then Oper.wp P o a w K Q else E := by
  have hr := run_copy_k (P := P) w dT sT o.type elem size g off dLen dCap ad sLen sCap k cur t cs hu hsz hg hk hn hsrc hfit h1
  rw [if_pos (by simp [Region.wanted, hgd])]
  unfold Oper.wp
  simp [execOp, hop, resolve, invoke, builtin, hd, hs, hr, Result.andThen]
  exact h _ (Lib.hid (setRow_heap w g _ _ t _ hg)) (grown_setRow w g _)
/-- append of k zero values where there is no room for them: a new row. -/
theorem wpList_append_zeros {rest : List Oper} (hgd : o.guard = none) (s x : Operand) (t tn : TypeId) (hop : o.op = .call { callee := .builtin .append, args := #[s, x], argTypes := #[t, tn] }) {size bytes n c k m : Nat} {A : Option Addr} {e : TypeId} {z : Value} {kq kn : IntKind} {olds : List Value}
    (he : Elem P t e z size bytes) (htn : P.underlying tn = some (.int kn)) (hs : a.eval s = .slice A n c) (hx : a.eval x = .int kq (k : Int)) (hk : 0 < k) (hm : n + k = m) (hsz : 0 < size) (hg : c < n + k) (h40 : n + k ≤ 1099511627776)
    (hold : (Builtin.firstCells size n (.slice A n c)).run P w.drew = .ok olds.toArray w.drew) (hol : olds.length = n * size)
    (h : ∀ w' c' (cur : Array Value), Hid (w'.heap[w.heap.size]? = some (.cells cur e (0, 0)) ∧ cur.size = c' * size ∧ cur.toList.take (n * size) = olds) → m ≤ c' → c' ≤ maxLen → w.grownBy w' none → w'.heap.size = w.heap.size + 1 → wpList P ops Q rest (a.put o.dst (.slice (some ⟨w.heap.size, 0, none⟩) m c')) w') :
    wpList P ops Q (o :: rest) a w := by
  subst hm
  obtain ⟨i, hi, hz, hsi, hb⟩ := info_parts he.info
  have hbb : (n + k) * bytes ≤ 1099511627776 * 64 := Nat.mul_le_mul h40 he.small
  have hkb : k * bytes ≤ 1099511627776 * 64 := Nat.mul_le_mul (by omega) he.small
  have hr := Lib.run_append_grow_zeros w t tn o.type e i z kq kn he.slice htn hi hz A n c olds (by rw [hsi]; exact hold) k hk (by rw [hsi]; exact hsz) hg (by omega) (by rw [hb]; omega) (by rw [hb]; exact growslice_fits hg (by omega))
  have hge := grownCap_ge w (n + k) c e
  have hcm := grownCap_le_maxLen w (n + k) c e (by simp only [maxLen]; omega)
  refine Lib.wpList_append_run w hgd s x _ _ hop _ _ hs hx _ _ hr (h _ _ _ (Lib.hid ⟨heap_alloc_new w.drew _, ?_, ?_⟩) hge hcm ⟨rfl, rfl, rfl, by simp, fun q hq _ => heap_alloc_old w.drew _ hq⟩ (by simp))
  · have hzs := he.cells
    simp only [Array.size_append, List.size_toArray, size_zeroCells, hzs, hol]
    rw [← Nat.add_mul, ← Nat.add_mul]
    congr 1
    omega
  · simp only [Array.toList_append, List.append_assoc]
    rw [List.take_append_of_le_length (by simp [hol]), List.take_of_length_le (by simp [hol])]
end
end Go.Proofs.Ytkhjpmefekonhaa.Cl

namespace Go.Proofs.Ytkhjpmefekonhaa.Cl
open Go.RowKit

theorem ins_b {α : Type} (cur p x d : List α) (i : Nat) (hp : cur.take i = p) (hi : p.length = i) (_ : i + x.length + d.length ≤ cur.length) :
    (splice (splice cur i x) (i + x.length) d).take (i + x.length + d.length) = p ++ (x ++ d) := by
  unfold splice
  rw [hp]
  have e1 : (p ++ (x ++ cur.drop (i + x.length))).take (i + x.length) = p ++ x := by
    rw [← List.append_assoc, List.take_append_of_le_length (by simp [hi]), List.take_of_length_le (by simp [hi])]
  rw [e1, ← List.append_assoc (p ++ x) d, List.take_append_of_le_length (by simp [hi]; omega), List.take_of_length_le (by simp [hi]; omega)]
  simp
theorem ins_c {α : Type} (cur p x d : List α) (i : Nat) (hp : cur.take i = p) (hi : p.length = i) (hl : i + x.length + d.length ≤ cur.length) :
    (splice (splice cur (i + x.length) d) i x).take (i + x.length + d.length) = p ++ (x ++ d) := by
  unfold splice
  have e1 : (cur.take (i + x.length) ++ (d ++ cur.drop (i + x.length + d.length))).take i = p := by
    rw [List.take_append_of_le_length (by rw [List.length_take]; omega), List.take_take, Nat.min_eq_left (by omega), hp]
  have e2 : (cur.take (i + x.length) ++ (d ++ cur.drop (i + x.length + d.length))).drop (i + x.length) = d ++ cur.drop (i + x.length + d.length) := by
    rw [List.drop_append_of_le_length (by rw [List.length_take]; omega), List.drop_of_length_le (by rw [List.length_take]; omega), List.nil_append]
  rw [e1, e2, ← List.append_assoc x d, ← List.append_assoc p, List.take_append_of_le_length (by simp [hi]; omega), List.take_of_length_le (by simp [hi]; omega)]
theorem splice_size {α : Type} (cur cs : List α) (o n : Nat) (h : o + cs.length ≤ cur.length) (hn : cur.length = n) : (splice cur o cs).toArray.size = n := by
  rw [List.size_toArray, length_splice cur o cs h, hn]
end Go.Proofs.Ytkhjpmefekonhaa.Cl

namespace Go.Proofs.Ytkhjpmefekonhaa.Cl
open Go.RowKit
set_option maxRecDepth 100000

theorem info_edge : (Try.prog.info? 32).map (·.size) = some 2 := by
  have := elem_edge.info
  obtain ⟨i, hi, hz, hs, hb⟩ := info_parts this
  rw [hi]; simp [hs]
theorem size_edge (w : World) : (Go.sizeOf 32).run Try.prog w = .ok 2 w := by
  obtain ⟨i, hi, hz, hs, hb⟩ := info_parts elem_edge.info
  simp [Go.sizeOf, typeInfo, hi, hs]

theorem grown_undrew {W w4 : World} {row : Option Nat} (h : W.drew.grownBy w4 row) : W.grownBy w4 row := ⟨h.os, h.tape, h.output, h.size, h.block⟩

/-- A row of edges with one more. -/
def InsP (w : World) (base : Nat) (A : Option Addr) (n c : Nat) (ws : List Value) (e : Ending) (w' : World) : Prop :=
  ∃ A' c', e = .returned (.slice A' (n + 1) c') ∧ w'.ownsRow base 32 2 (.slice A' (n + 1) c') (n + 1) ws ∧ w.grownBy w' (Value.slice A n c).ownBlock ∧ (∀ a, A' = some a → w.heap.size ≤ a.block ∨ some a.block = (Value.slice A n c).ownBlock)

set_option maxHeartbeats 1000000 in
theorem insert_any (w : World) (base n c i vb : Nat) (A : Option Addr) (vs : List Value) (x0 x1 : Value) (hrow : w.ownsRow base 32 2 (.slice A n c) n vs) (hv : w.heap[vb]? = some (.cells #[x0, x1] 32 (0, 0))) (h0 : x0.oneCell' = true) (h1 : x1.oneCell' = true)
    (hvb : (Value.slice A n c).ownBlock ≠ some vb) (hi : i ≤ n) (hn : n ≤ 549755813888) (hbase : base ≤ w.heap.size) (hone : ∀ v ∈ vs, v.oneCell' = true) :
    Calls Try.prog 54 #[.slice A n c, .int .i64 i, .slice (some ⟨vb, 0, none⟩) 1 1] w (InsP w base A n c (vs.take (i * 2) ++ ([x0, x1] ++ vs.drop (i * 2)))) := by
  have hvc : ∀ j u, ([x0, x1] : List Value)[j]? = some u → w.cell? ⟨vb, j, none⟩ = some u := fun j u hu => by
    rw [cell_of_row w vb j _ _ _ hv, ← hu]; simp
  have hv1 : ∀ u ∈ [x0, x1], u.oneCell' = true := by
    intro u hu
    simp only [List.mem_cons, List.not_mem_nil, or_false] at hu
    rcases hu with rfl | rfl
    · exact h0
    · exact h1
  have hsrc : Src Try.prog 2 26 (.slice (some ⟨vb, 0, none⟩) 1 1) 1 [x0, x1] w := Src.ofSlice w Try.underlying26 ⟨vb, 0, none⟩ 1 1 [x0, x1] rfl (fun j u hu => by rw [Addr.add_lit, Nat.zero_add]; exact hvc j u hu) hv1
  have hlen := hrow.1
  by_cases hin : i = n
  · subst hin
    have e1 : vs.take (i * 2) ++ ([x0, x1] ++ vs.drop (i * 2)) = vs ++ [x0, x1] := by
      rw [List.take_of_length_le (by omega), List.drop_of_length_le (by omega)]; simp
    rw [e1]
    have hcap : (A = none ∧ i = 0 ∧ c = 0) ∨ ∃ g, A = some ⟨g, 0, none⟩ ∧ i ≤ c ∧ c ≤ maxLen := by
      rcases hrow.2 with ⟨e1, e2⟩ | ⟨g, cap, cu, e1, hg, hh, hcap, hmx, hsz, htk⟩
      · injection e1 with a1 a2 a3
        exact .inl ⟨a1, a2, a3⟩
      · injection e1 with a1 a2 a3
        exact .inr ⟨g, a1, a3 ▸ hcap, a3 ▸ hmx⟩
    have hi1 : i + 1 ≤ 1099511627776 := by omega
    clear hlen e1
    rcases hcap with ⟨rfl, rfl, rfl⟩ | ⟨g, rfl, hic, hcm⟩
    all_goals
      go_enter Try.func54, Try.ntmps54
      go_wp2_with (at_builtin; refine wpList_append_row rfl (.tmp 23) (.tmp 24) _ _ rfl elem_edge rfl rfl hrow hsrc (by omega) hbase ?_; intro A2 c2 w2 ho2 hg2 hat2)
      all_goals (go_ret; exact ⟨A2, c2, rfl, ho2, hg2, fun a ha => (hat2 a ha).imp (fun e => Nat.le_of_eq e.symm) id⟩)
  · have hin2 : i < n := by omega
    rcases hrow.2 with ⟨e1, e2⟩ | ⟨g, cap, cur, e1, hg, hh, hcap, hmx, hsz, htk⟩
    · omega
    injection e1 with a1 a2 a3
    subst a1; subst a3
    have hgl : g < w.heap.size := (Array.getElem?_eq_some_iff.1 hh).1
    have hvl : vb < w.heap.size := (Array.getElem?_eq_some_iff.1 hv).1
    have hgv : vb ≠ g := fun e => hvb (by rw [e]; rfl)
    have hdl : (vs.drop (i * 2)).length = (n - i) * 2 := by rw [List.length_drop]; omega
    have hpl : (vs.take (i * 2)).length = i * 2 := by rw [List.length_take]; omega
    have hpc : cur.toList.take (i * 2) = vs.take (i * 2) := by
      rw [← htk, List.take_take]
      congr 1
      omega
    have hd1 : ∀ v ∈ vs.drop (i * 2), v.oneCell' = true := fun v hv => hone v (List.mem_of_mem_drop hv)
    have hcell : ∀ j u, vs[j]? = some u → w.cell? ⟨g, j, none⟩ = some u := fun j u hu => by
      have := rowCells hrow j u hu
      rw [Addr.add_lit, Nat.zero_add] at this
      exact this
    have hz1 : ¬ ((i : Int) = (n : Int)) := by omega
    have hci : ¬ (c = i) := by omega
    obtain ⟨d, hd⟩ : ∃ d, d = vs.drop (i * 2) := ⟨_, rfl⟩
    obtain ⟨p, hp⟩ : ∃ p, p = vs.take (i * 2) := ⟨_, rfl⟩
    have hdc : ∀ j u, d[j]? = some u → w.cell? ⟨g, i * 2 + j, none⟩ = some u := fun j u hu => by
      rw [hd, List.getElem?_drop] at hu
      exact hcell _ _ hu
    rw [← hd] at hdl hd1 ⊢
    rw [← hp] at hpl hpc ⊢
    clear hd hp hcell
    have hck : n * 2 ≤ c * 2 := Nat.mul_le_mul_right _ hcap
    by_cases hroom : n + 1 ≤ c
    · have hrm : (n + 1) * 2 ≤ c * 2 := Nat.mul_le_mul_right _ hroom
      have hov : ∀ off lb cb, (callFunc 90 #[.slice (some ⟨vb, 0, none⟩) 1 1, .slice (some ⟨g, off, none⟩) lb cb]).run Try.prog w = .ok (.value (.bool false)) w := fun off lb cb => by
        rw [run_callFunc_extern Try.func90 (by kernel_rfl) (by kernel_rfl) (by kernel_rfl) (e := Extern.SlicesOverlaps.overlaps #[26, 26] #[4]) (by kernel_rfl),
          Lib.run_overlaps_apart w 26 4 32 Try.underlying26 2 size_edge ⟨vb, 0, none⟩ ⟨g, off, none⟩ 1 1 lb cb hgv 32 32 2 (c * 2) (by simp [World.shape?, hv]) (by simp [World.shape?, hh, hsz]) (by omega) (by simp [World.frozen?, hv]) (by simp [World.frozen?, hv])]
        rfl
      have hb2 : ¬ (c = i + 1) := by omega
      have hb3 : (i : Int) ≤ (n : Int) + 1 := by omega
      have Hpc := Lib.hid hpc
      have Hdl := Lib.hid hdl
      have Hpl := Lib.hid hpl
      have Hsz := Lib.hid hsz
      have Hdc := Lib.hid hdc
      have Hh := Lib.hid hh
      have Hv := Lib.hid hv
      have Hvc := Lib.hid hvc
      have Htk := Lib.hid htk
      clear hpc hdl hpl hsz hdc hh hv hvc htk hlen hsrc
      go_enter Try.func54, Try.ntmps54
      go_wp2_with (simp only [hov])
      have hw1 : IntKind.i64.wrap ((i : Int) + 1) = (i : Int) + 1 := IntWalk.i64_in _ (by omega)
      have hw2 : (0 : Int) ≤ (i : Int) + 1 := by omega
      have hw3 : ((i : Int) + 1).toNat = i + 1 := by omega
      have hw4 : (i : Int) + 1 ≤ (n : Int) + 1 := by omega
      go_region_law (refine step_copy_k rfl (.tmp 73) (.tmp 76) _ _ rfl 32 2 g ((i + 1) * 2) (n - i) (c - (i + 1)) ⟨g, i * 2, none⟩ (n + 1 - i) (c - i) (n - i) cur 32 d Try.underlying27 info_edge (by simp [Act.eval, Act.put]; done) (by simp [Act.eval, Act.put]; done) Hh.out (by simp only [Nat.min_def]; split <;> omega) Hdl.out (fun j u hu => by rw [Addr.add_lit]; exact Hdc.out j u hu) (by have := Hdl.out; have := Hsz.out; omega) hd1 ?_; intro w2 HG2 hg2)
      have hv2 : ∀ j u, ([x0, x1] : List Value)[j]? = some u → w2.cell? ((⟨vb, 0, none⟩ : Addr).add j) = some u := fun j u hu => by
        rw [Addr.add_lit, Nat.zero_add, World.cell?_of_block (w := w.drew) (w' := w2) (hg2.block vb hvl (fun e => by injection e with e; exact hgv e))]
        exact Hvc.out j u hu
      have hcl : cur.toList.length = c * 2 := by rw [Array.length_toList]; exact Hsz.out
      have hfit2 : (i + 1) * 2 + d.length ≤ cur.toList.length := by rw [hcl, Hdl.out]; omega
      have hsp : ((splice cur.toList ((i + 1) * 2) d).toArray).size = c * 2 := splice_size _ _ _ _ hfit2 hcl
      have Hcl := Lib.hid hcl
      have Hfit2 := Lib.hid hfit2
      clear hcl hfit2
      have Hsp := Lib.hid hsp
      have Hv2 := Lib.hid hv2
      clear hsp hv2
      go_wp2_with (with_reducible refine wpList_copy_k rfl (.tmp 80) (.tmp 81) 27 26 rfl 32 2 g (i * 2) (n + 1 - i) (c - i) ⟨vb, 0, none⟩ 1 1 1 (splice cur.toList ((i + 1) * 2) d).toArray 32 [x0, x1] Try.underlying27 info_edge rfl rfl HG2.out (by simp only [Nat.min_def]; split <;> omega) rfl Hv2.out (by rw [Hsp.out]; simp only [List.length_cons, List.length_nil]; omega) hv1 ?_; intro w3 HG3 hg3)
      go_ret
      have hall := ins_c cur.toList p [x0, x1] d (i * 2) Hpc.out Hpl.out (by have := Hfit2.out; simp only [List.length_cons, List.length_nil]; omega)
      have hrow3 := HG3.out
      have ei : i * 2 + ([x0, x1] : List Value).length = (i + 1) * 2 := by simp only [List.length_cons, List.length_nil]; omega
      rw [ei] at hall
      refine ⟨some ⟨g, 0, none⟩, c, rfl, ⟨?_, .inr ⟨g, c, _, rfl, hg, hrow3, by omega, hmx, ?_, ?_⟩⟩, (grown_undrew hg2).trans hg3, fun a ha => .inr (by injection ha with ha; rw [← ha]; rfl)⟩
      · simp only [List.length_append, List.length_cons, Hpl.out, Hdl.out]
        omega
      · have hsl := Hsp.out
        rw [List.size_toArray] at hsl
        refine splice_size (splice cur.toList ((i + 1) * 2) d) [x0, x1] (i * 2) (c * 2) ?_ hsl
        rw [hsl]
        simp only [List.length_cons, List.length_nil]
        omega
      · rw [show (n + 1) * 2 = (i + 1) * 2 + d.length by rw [Hdl.out]; omega]
        exact hall
    · obtain rfl : c = n := by omega
      have hkk : (c : Int) + 1 - (i : Int) = ((c + 1 - i : Nat) : Int) := by omega
      have hold : (Builtin.firstCells 2 i (.slice (some ⟨g, 0, none⟩) i c)).run Try.prog w.drew = .ok p.toArray w.drew :=
        run_firstCells_some w.drew 2 i ⟨g, 0, none⟩ i c p (by rw [hpl]) (fun j u hu => by
          rw [Addr.add_lit, Nat.zero_add, World.cell?_drew, cell_of_row w g j cur _ _ hh]
          rw [← hpc, List.getElem?_take] at hu
          split at hu
          · simpa using hu
          · cases hu)
      have hb3 : (i : Int) ≤ (c : Int) := by omega
      have hw1 : IntKind.i64.wrap ((i : Int) + 1) = (i : Int) + 1 := IntWalk.i64_in _ (by omega)
      have hw2 : (0 : Int) ≤ (i : Int) + 1 := by omega
      have hw3 : ((i : Int) + 1).toNat = i + 1 := by omega
      have hw4 : (i : Int) + 1 ≤ (c : Int) + 1 := by omega
      have Hpc := Lib.hid hpc
      have Hdl := Lib.hid hdl
      have Hpl := Lib.hid hpl
      have Hsz := Lib.hid hsz
      have Hdc := Lib.hid hdc
      have Hh := Lib.hid hh
      have Hv := Lib.hid hv
      have Hvc := Lib.hid hvc
      have Htk := Lib.hid htk
      have Hold := Lib.hid hold
      clear hpc hdl hpl hsz hdc hh hv hvc htk hlen hsrc hold
      go_enter Try.func54, Try.ntmps54
      go_wp2_with (first
        | (at_builtin; refine wpList_append_zeros rfl (.tmp 34) (.tmp 39) 27 3 rfl elem_edge Try.underlying3 rfl (kq := .i64) (k := c + 1 - i) rfl (by omega) (m := c + 1) (by omega) (by omega) (by omega) (by omega) Hold.out Hpl.out ?_; intro w2 c2 cu2 HZ hz1c hz2c hg2 hs2; have hc2i : ¬ (c2 = i) := (by omega); have hc2j : ¬ (c2 = i + 1) := (by omega); have Hv2 := Lib.hid (show ∀ j u, ([x0, x1] : List Value)[j]? = some u → w2.cell? ((⟨vb, 0, none⟩ : Addr).add j) = some u from fun j u hu => (by rw [Addr.add_lit, Nat.zero_add, World.cell?_of_block (w := w) (w' := w2) (hg2.block vb hvl (fun e => by cases e))]; exact Hvc.out j u hu)); have Hz2 := Lib.hid (Nat.mul_le_mul_right 2 hz1c))
        | (with_reducible refine wpList_copy_k rfl (.tmp 43) (.tmp 44) 27 26 rfl 32 2 w.heap.size (i * 2) (c + 1 - i) (c2 - i) ⟨vb, 0, none⟩ 1 1 1 cu2 32 [x0, x1] Try.underlying27 info_edge rfl rfl HZ.out.1 (by simp only [Nat.min_def]; split <;> omega) rfl Hv2.out (by rw [HZ.out.2.1]; have := Hz2.out; simp only [List.length_cons, List.length_nil]; omega) hv1 ?_; intro w3 HG3 hg3))
      have hg23 : w.grownBy w3 none := ⟨hg3.os.trans hg2.os, hg3.tape.trans hg2.tape, hg3.output.trans hg2.output, Nat.le_trans hg2.size hg3.size, fun q hq _ => (hg3.block q (by omega) (fun e => by injection e with e; omega)).trans (hg2.block q hq (fun e => by cases e))⟩
      have Hd3 := Lib.hid (show ∀ j u, d[j]? = some u → w3.cell? ((⟨g, i * 2, none⟩ : Addr).add j) = some u from fun j u hu => by
        rw [Addr.add_lit, World.cell?_of_block (w := w) (w' := w3) (hg23.block g hgl (fun e => by cases e))]
        exact Hdc.out j u hu)
      have hcl2 : cu2.toList.length = c2 * 2 := by rw [Array.length_toList]; exact HZ.out.2.1
      have hf2 : i * 2 + ([x0, x1] : List Value).length ≤ cu2.toList.length := by rw [hcl2]; have := Hz2.out; simp only [List.length_cons, List.length_nil]; omega
      have hcu : (splice cu2.toList (i * 2) [x0, x1]).toArray.size = c2 * 2 := splice_size _ _ _ _ hf2 hcl2
      have Hcl2 := Lib.hid hcl2
      clear hcl2 hf2
      have Hcu := Lib.hid hcu
      clear hcu
      go_region_law (refine step_copy_k rfl (.tmp 50) (.tmp 53) _ _ rfl 32 2 w.heap.size ((i + 1) * 2) (c + 1 - (i + 1)) (c2 - (i + 1)) ⟨g, i * 2, none⟩ (c - i) (c - i) (c - i) (splice cu2.toList (i * 2) [x0, x1]).toArray 32 d Try.underlying27 info_edge (by simp [Act.eval, Act.put]; done) (by simp [Act.eval, Act.put]; done) HG3.out (by simp only [Nat.min_def]; split <;> omega) Hdl.out Hd3.out (by rw [Hcu.out]; have := Hdl.out; have := Hz2.out; omega) hd1 ?_; intro w4 HG4 hg4)
      go_wp2_with fail
      go_ret
      have ei : i * 2 + ([x0, x1] : List Value).length = (i + 1) * 2 := by simp only [List.length_cons, List.length_nil]; omega
      have hall := ins_b cu2.toList p [x0, x1] d (i * 2) HZ.out.2.2 Hpl.out (by rw [ei, Hcl2.out, Hdl.out]; have := Hz2.out; omega)
      rw [ei] at hall
      have hsl := Hcu.out
      rw [List.size_toArray] at hsl
      have hN : ∀ q, some q ≠ some w.heap.size → q < w.heap.size → w4.heap[q]? = w.heap[q]? := fun q hq hl =>
        (hg4.block q (Nat.lt_of_lt_of_le hl hg23.size) hq).trans (hg23.block q hl (fun e => by cases e))
      refine ⟨some ⟨w.heap.size, 0, none⟩, c2, rfl, ⟨?_, .inr ⟨w.heap.size, c2, _, rfl, hbase, HG4.out, hz1c, hz2c, ?_, ?_⟩⟩, ⟨hg4.os.trans hg23.os, hg4.tape.trans hg23.tape, hg4.output.trans hg23.output, Nat.le_trans hg23.size hg4.size, fun q hq _ => hN q (fun e => by injection e with e; omega) hq⟩, fun a ha => .inl (by injection ha with ha; rw [← ha]; exact Nat.le_refl _)⟩
      · simp only [List.length_append, List.length_cons, Hpl.out, Hdl.out]
        omega
      · exact splice_size (splice cu2.toList (i * 2) [x0, x1]) d ((i + 1) * 2) (c2 * 2) (by rw [hsl, Hdl.out]; have := Hz2.out; omega) hsl
      · rw [show (c + 1) * 2 = (i + 1) * 2 + d.length by rw [Hdl.out]; omega]
        exact hall
end Go.Proofs.Ytkhjpmefekonhaa.Cl

namespace Go.Proofs.Ytkhjpmefekonhaa.Cl
open Go.RowKit
set_option maxRecDepth 100000

theorem run_clear_edge (w : World) (ty : TypeId) (g o c : Nat) (cur : Array Value) (t : TypeId) (hg : w.heap[g]? = some (.cells cur t (0, 0))) (hfit : o + 2 ≤ cur.size) :
    (Builtin.clear_ #[27] ty #[.slice (some ⟨g, o, none⟩) 1 c]).run Try.prog w = .ok (.tuple #[]) (w.setRow g (splice cur.toList o [.string ⟨#[]⟩, .slice none 0 0]).toArray) := by
  obtain ⟨i, hi, hz, hs, hb⟩ := info_parts elem_edge.info
  have hv : ∀ w, (zeroValue 32).run Try.prog w = .ok (.agg #[.string ⟨#[]⟩, .slice none 0 0]) w := fun w => by simp [zeroValue, typeInfo, hi, hz]
  have hst := run_storeCells_at Try.prog g o t [.string ⟨#[]⟩, .slice none 0 0] 0 cur w hg (by simpa using hfit) (by intro v hv'; simp at hv'; rcases hv' with rfl | rfl <;> rfl)
  simp only [Nat.add_zero, List.append_assoc] at hst
  have hzc : (Builtin.zeroCells (Value.agg #[.string ⟨#[]⟩, .slice none 0 0]).cells 1).toList = [.string ⟨#[]⟩, .slice none 0 0] := by kernel_rfl
  rw [splice]
  simp [Builtin.clear_, run_underlying Try.underlying27, hv, hzc, hst]

/-- A row of edges with one less. -/
def DelP (w : World) (base g k c : Nat) (ws : List Value) (e : Ending) (w' : World) : Prop :=
  e = .returned (.slice (some ⟨g, 0, none⟩) k c) ∧ w'.ownsRow base 32 2 (.slice (some ⟨g, 0, none⟩) k c) k ws ∧ w.grownBy w' (some g)

theorem del_row {α : Type} (cur p d z : List α) (i : Nat) (hp : cur.take i = p) (hi : p.length = i) :
    (splice (splice cur i d) (i + d.length) z).take (i + d.length) = p ++ d := by
  unfold splice
  rw [hp]
  have e1 : (p ++ (d ++ cur.drop (i + d.length))).take (i + d.length) = p ++ d := by
    rw [← List.append_assoc, List.take_append_of_le_length (by simp [hi]), List.take_of_length_le (by simp [hi])]
  rw [e1, List.take_append_of_le_length (by simp [hi]), List.take_of_length_le (by simp [hi])]

set_option maxHeartbeats 1000000 in
theorem delete_any (w : World) (base k c i g : Nat) (vs : List Value) (hrow : w.ownsRow base 32 2 (.slice (some ⟨g, 0, none⟩) (k + 1) c) (k + 1) vs) (hi : i ≤ k) (hn : k ≤ 549755813888) (hone : ∀ v ∈ vs, v.oneCell' = true) :
    Calls Try.prog 55 #[.slice (some ⟨g, 0, none⟩) (k + 1) c, .int .i64 i, .int .i64 ((i : Int) + 1)] w (DelP w base g k c (vs.take (i * 2) ++ vs.drop ((i + 1) * 2))) := by
  have hlen := hrow.1
  rcases hrow.2 with ⟨e1, e2⟩ | ⟨g0, cap, cur, e1, hg, hh, hcap, hmx, hsz, htk⟩
  · cases e1
  injection e1 with a1 a2 a3
  injection a1 with a1
  injection a1 with a1 _ _
  subst a1; subst a3
  have hdl : (vs.drop ((i + 1) * 2)).length = (k - i) * 2 := by rw [List.length_drop]; omega
  have hpl : (vs.take (i * 2)).length = i * 2 := by rw [List.length_take]; omega
  have hpc : cur.toList.take (i * 2) = vs.take (i * 2) := by
    rw [← htk, List.take_take]
    congr 1
    omega
  have hd1 : ∀ v ∈ vs.drop ((i + 1) * 2), v.oneCell' = true := fun v hv => hone v (List.mem_of_mem_drop hv)
  have hcell : ∀ j u, vs[j]? = some u → w.cell? ⟨g, j, none⟩ = some u := fun j u hu => by
    have := rowCells hrow j u hu
    rw [Addr.add_lit, Nat.zero_add] at this
    exact this
  obtain ⟨d, hd⟩ : ∃ d, d = vs.drop ((i + 1) * 2) := ⟨_, rfl⟩
  obtain ⟨p, hp⟩ : ∃ p, p = vs.take (i * 2) := ⟨_, rfl⟩
  have hck : (k + 1) * 2 ≤ c * 2 := Nat.mul_le_mul_right _ hcap
  -- where what is moved lies
  obtain ⟨A, hA, hsrc⟩ : ∃ A : Addr, (if c = i + 1 then some (⟨g, 0, none⟩ : Addr) else some ⟨g, (i + 1) * 2, none⟩) = some A ∧ Hid (∀ t u, d[t]? = some u → w.drew.cell? (A.add t) = some u) := by
    by_cases h : c = i + 1
    · refine ⟨⟨g, 0, none⟩, by rw [if_pos h], Lib.hid fun t u hu => ?_⟩
      have h0 : d = [] := List.eq_nil_of_length_eq_zero (by rw [hd, hdl]; omega)
      rw [h0] at hu
      simp at hu
    · refine ⟨⟨g, (i + 1) * 2, none⟩, by rw [if_neg h], Lib.hid fun t u hu => ?_⟩
      rw [Addr.add_lit]
      rw [hd, List.getElem?_drop] at hu
      exact hcell _ _ hu
  rw [← hd] at hdl hd1 ⊢
  rw [← hp] at hpl hpc ⊢
  have hspare : ∀ j, j < d.length → (w.drew.cell? ⟨g, 0 + i * 2 + j, none⟩).isSome = true ∧ w.drew.frozen? ⟨g, 0 + i * 2 + j, none⟩ = false := fun j hj => by
    rw [hdl] at hj
    refine ⟨?_, by show w.frozen? _ = false; simp [World.frozen?, hh]⟩
    show (w.cell? _).isSome = true
    rw [cell_of_row w g _ cur _ _ hh, Array.getElem?_eq_getElem (by omega)]
    rfl
  obtain ⟨i0, hi0, hz0, hs0, hb0⟩ := info_parts elem_edge.info
  have hW := heap_cells g d (0 + i * 2) w.drew cur 32 hh (by omega)
  obtain ⟨o1, o2, o3, o4⟩ := setCells_os g d (0 + i * 2) w.drew
  have hfar := fun q (hq : q ≠ g) => heap_cells_far g q hq d (0 + i * 2) w.drew
  obtain ⟨W1, hW1⟩ : ∃ W1, W1 = w.drew.setCells g (0 + i * 2) d := ⟨_, rfl⟩
  rw [← hW1] at hW o1 o2 o3 o4 hfar
  have hg1 : w.grownBy W1 (some g) := ⟨o1, o2, o3, by rw [o4]; exact Nat.le_refl _, fun q _ hq => hfar q (fun e => hq (by rw [e]))⟩
  have hcu : cur.toList.take (0 + i * 2) ++ d ++ cur.toList.drop (0 + i * 2 + d.length) = splice cur.toList (i * 2) d := by
    rw [splice, Nat.zero_add, List.append_assoc]
  rw [hcu] at hW
  have hcl : cur.toList.length = c * 2 := by rw [Array.length_toList]; exact hsz
  have hsp : (splice cur.toList (i * 2) d).toArray.size = c * 2 := splice_size _ _ _ _ (by omega) hcl
  have hclr := fun ty cc => run_clear_edge W1 ty g (k * 2) cc _ _ hW (by rw [hsp]; omega)
  have hw1 : IntKind.i64.wrap ((i : Int) + 1) = (i : Int) + 1 := IntWalk.i64_in _ (by omega)
  have hw2 : (0 : Int) ≤ (i : Int) + 1 := by omega
  have hw3 : ((i : Int) + 1).toNat = i + 1 := by omega
  have hw4 : (i : Int) + 1 ≤ (k : Int) + 1 := by omega
  have hic : i ≤ c := by omega
  have hic2 : i + 1 ≤ c := by omega
  have hkc : k ≤ c := by omega
  have hck2 : ¬ (c = k) := by omega
  have hik : i + (k - i) = k := by omega
  have HW := Lib.hid hW
  have HW1 := Lib.hid hW1
  have Hdl := Lib.hid hdl
  have Hpl := Lib.hid hpl
  have Hpc := Lib.hid hpc
  have Hsp := Lib.hid hsp
  have Hcl := Lib.hid hcl
  have Hspare := Lib.hid hspare
  have Hclr := Lib.hid hclr
  clear hW hW1 hdl hpl hpc hsp hcl hd hp hcell hfar hcu hlen hspare hclr htk hh hsz o1 o2 o3 o4 hrow
  go_enter Try.func55, Try.ntmps55
  go_wp2_with fail
  go_region_law (refine step_append_room rfl (.tmp 22) (.tmp 25) 27 rfl 32 i0 2 Try.underlying27 hi0 hs0 g 0 i c (by simp [Act.eval, Act.put]; done) A (k - i) (c - (i + 1)) d (by simp [Act.eval, Act.put]; done) Hdl.out hsrc.out hd1 (by omega) Hspare.out ?_; rw [← HW1.out])
  have hclr2 := Hclr.out
  go_wp2_with fail
  go_ret
  have hall := del_row cur.toList p d [.string ⟨#[]⟩, .slice none 0 0] (i * 2) Hpc.out Hpl.out
  have ei : i * 2 + d.length = k * 2 := by rw [Hdl.out]; omega
  rw [ei] at hall
  have hsl := Hsp.out
  rw [List.size_toArray] at hsl
  refine ⟨rfl, ⟨?_, .inr ⟨g, c, _, rfl, hg, setRow_heap W1 g _ _ _ _ HW.out, hkc, hmx, ?_, hall⟩⟩, hg1.trans (grown_setRow W1 g _)⟩
  · rw [List.length_append, Hpl.out, Hdl.out]
    omega
  · exact splice_size (splice cur.toList (i * 2) d) [.string ⟨#[]⟩, .slice none 0 0] (k * 2) (c * 2) (by rw [hsl]; simp only [List.length_cons, List.length_nil]; omega) hsl
end Go.Proofs.Ytkhjpmefekonhaa.Cl
