/- Quoted of the reference: a name, quoted. Conditions: names below 2^40 bytes. · Text of the reference: a tree, written. Conditions: the text is below 2^40 bytes. · csv.Load: what a file is loaded as; the closed readings. Conditions: texts of ASCII bytes in its fields; MaxLen's cell. · copy between rows whose elements have any number of cells; append of zero values that makes a new row. Conditions: what is copied fits. · Cells laid over a row: what stands there then. No conditions. · slices.Insert of lines into a row of lines of one's own. Conditions: fewer than 2^38 lines each; the place is within the row. · slices.Insert of lines of one's own among lines of one's own, any number. Conditions: fewer than 2^37 lines each. · ini: what some files read as: closed readings. No conditions. · Two trees: whether all is the same; Same of the reference. Conditions: fewer edges than 2^47. · A row's frame where the row lists variables and the walk asks the world's shape. No conditions. -/
import Derived.Test.YtapgaglkkgbgkaaGreatDoorMwClHold
import Derived.Deep.QuietTactic
import Derived.BigQuiet
import Derived.IntWalk
import Derived.Laws.Concat
import Derived.Outline
import Derived.Test.YtapgaglkkgbgkaaGreatDoorMwTextWords
import Derived.Test.YtapgaglkkgbgkaaGreatDoorWith
import Derived.Test.YtapgaglkkgbgkaaGreatDoorCvRead
import Derived.Test.YtapgaglkkgbgkaaGreatDoorMwWords
import Derived.Test.YtapgaglkkgbgkaaGreatDoorStack
import Derived.Laws.CopyRow
import Derived.Laws.CopyOwn
import Derived.Lib.AppendZerosOnto
import Derived.Deep.RegionLaw
import Derived.Test.YtapgaglkkgbgkaaGreatDoorMwRcMath
import Derived.Test.YtapgaglkkgbgkaaGreatDoorMwInOne
import Derived.Lib.Overlaps
import Derived.Laws.Externs
import Derived.Test.YtapgaglkkgbgkaaGreatDoorMwCvGrow
import Derived.Test.YtapgaglkkgbgkaaGreatDoorMwLiSplit
import Derived.Handed
import Derived.ShapedOpen
import Derived.Shelf.LaysM
namespace Go.Proofs.YtapgaglkkgbgkaaGreatDoor.Pt
open Go.RowKit
set_option maxRecDepth 100000

theorem app_list (a b : ByteArray) : (a ++ b).data.toList = a.data.toList ++ b.data.toList := by simp

end Go.Proofs.YtapgaglkkgbgkaaGreatDoor.Pt
namespace Go.Proofs.YtapgaglkkgbgkaaGreatDoor.Pt
open Go.RowKit
set_option maxRecDepth 100000

def ba (l : List UInt8) : ByteArray := ⟨l.toArray⟩
end Go.Proofs.YtapgaglkkgbgkaaGreatDoor.Pt
namespace Go.Proofs.YtapgaglkkgbgkaaGreatDoor.Cv
open Go.RowKit Go.Proofs.YtapgaglkkgbgkaaGreatDoor.Jd Go.Proofs.YtapgaglkkgbgkaaGreatDoor.Li Go.Proofs.YtapgaglkkgbgkaaGreatDoor.Cl
set_option maxRecDepth 100000

end Go.Proofs.YtapgaglkkgbgkaaGreatDoor.Cv
namespace Go.Proofs.YtapgaglkkgbgkaaGreatDoor.Cl
open Go.RowKit
set_option maxRecDepth 100000

theorem run_copy_k {P : Program} (w : World) (dT sT ty elem : TypeId) (size g o dLen dCap : Nat) (a : Addr) (sLen sCap k : Nat) (cur : Array Value) (t : TypeId) (cs : List Value)
    (hu : P.underlying dT = some (.slice elem)) (hs : (P.info? elem).map (·.size) = some size) (hg : w.heap[g]? = some (.cells cur t (0, 0))) (hk : k = Nat.min sLen dLen) (hn : cs.length = k * size)
    (hsrc : ∀ j v, cs[j]? = some v → w.cell? (a.add j) = some v) (hfit : o + cs.length ≤ cur.size) (h1 : ∀ v ∈ cs, v.oneCell' = true) :
    (Builtin.copy_ #[dT, sT] ty #[.slice (some ⟨g, o, none⟩) dLen dCap, .slice (some a) sLen sCap]).run P w = .ok (goInt k) (w.setRow g (splice cur.toList o cs).toArray) := by
  have e1 := run_loadCells_list (P := P) w a cs hsrc
  have e2 := run_storeCells_at P g o t cs 0 cur w hg (by simpa using hfit) h1
  obtain ⟨i, hi, hz⟩ := Option.map_eq_some_iff.1 hs
  subst hz
  rw [hn] at e1
  simp only [Nat.add_zero, List.append_assoc] at e2
  rw [splice]
  simp [Builtin.copy_, run_underlying hu, Builtin.lenOf, Builtin.firstCells, sizeOf, typeInfo, hi, ← hk, e1, e2]

theorem grown_setRow (w : World) (g : Nat) (cs : Array Value) : w.grownBy (w.setRow g cs) (some g) :=
  ⟨rfl, rfl, rfl, by simp [World.setRow], fun k _ hk => setRow_other w g k cs (fun e => hk (by rw [e]))⟩

section
variable {P : Program} {w : World} {ops : Array Oper} {o : Oper} {a : Act} {Q : Exit → Act → World → Prop}
theorem wpList_copy_k {rest : List Oper} (hgd : o.guard = none) (d s : Operand) (dT sT : TypeId) (hop : o.op = .call { callee := .builtin .copy, args := #[d, s], argTypes := #[dT, sT] }) (elem : TypeId) (size g off dLen dCap : Nat) (ad : Addr) (sLen sCap k : Nat) (cur : Array Value) (t : TypeId) (cs : List Value)
    (hu : P.underlying dT = some (.slice elem)) (hsz : (P.info? elem).map (·.size) = some size) (hd : a.eval d = .slice (some ⟨g, off, none⟩) dLen dCap) (hs : a.eval s = .slice (some ad) sLen sCap)
    (hg : w.heap[g]? = some (.cells cur t (0, 0))) (hk : k = Nat.min sLen dLen) (hn : cs.length = k * size) (hsrc : ∀ j v, cs[j]? = some v → w.cell? (ad.add j) = some v) (hfit : off + cs.length ≤ cur.size) (h1 : ∀ v ∈ cs, v.oneCell' = true)
    (h : ∀ w', Hid (w'.heap[g]? = some (.cells (splice cur.toList off cs).toArray t (0, 0))) → w.grownBy w' (some g) → wpList P ops Q rest (a.put o.dst (goInt k)) w') : wpList P ops Q (o :: rest) a w := by
  refine wpList_plain hgd fun K hK => ?_
  have hr := run_copy_k (P := P) w dT sT o.type elem size g off dLen dCap ad sLen sCap k cur t cs hu hsz hg hk hn hsrc hfit h1
  unfold Oper.wp
  simp [execOp, hop, resolve, invoke, builtin, hd, hs, hr, Result.andThen]
  exact hK _ _ (h _ (Lib.hid (setRow_heap w g _ _ t _ hg)) (grown_setRow w g _))
theorem step_copy_k {K : Act → World → Prop} {E : Prop} (hgd : o.guard = none) (d s : Operand) (dT sT : TypeId) (hop : o.op = .call { callee := .builtin .copy, args := #[d, s], argTypes := #[dT, sT] }) (elem : TypeId) (size g off dLen dCap : Nat) (ad : Addr) (sLen sCap k : Nat) (cur : Array Value) (t : TypeId) (cs : List Value)
    (hu : P.underlying dT = some (.slice elem)) (hsz : (P.info? elem).map (·.size) = some size) (hd : a.eval d = .slice (some ⟨g, off, none⟩) dLen dCap) (hs : a.eval s = .slice (some ad) sLen sCap)
    (hg : w.heap[g]? = some (.cells cur t (0, 0))) (hk : k = Nat.min sLen dLen) (hn : cs.length = k * size) (hsrc : ∀ j v, cs[j]? = some v → w.cell? (ad.add j) = some v) (hfit : off + cs.length ≤ cur.size) (h1 : ∀ v ∈ cs, v.oneCell' = true)
    (h : ∀ w', Hid (w'.heap[g]? = some (.cells (splice cur.toList off cs).toArray t (0, 0))) → w.grownBy w' (some g) → K (a.put o.dst (goInt k)) w') : if Region.wanted o (yielded ops a.tmps) = true then Oper.wp P o a w K Q else E := by
  have hr := run_copy_k (P := P) w dT sT o.type elem size g off dLen dCap ad sLen sCap k cur t cs hu hsz hg hk hn hsrc hfit h1
  rw [if_pos (by simp [Region.wanted, hgd])]
  unfold Oper.wp
  simp [execOp, hop, resolve, invoke, builtin, hd, hs, hr, Result.andThen]
  exact h _ (Lib.hid (setRow_heap w g _ _ t _ hg)) (grown_setRow w g _)
theorem wpList_append_zeros {rest : List Oper} (hgd : o.guard = none) (s x : Operand) (t tn : TypeId) (hop : o.op = .call { callee := .builtin .append, args := #[s, x], argTypes := #[t, tn] }) {size bytes n c k m : Nat} {A : Option Addr} {e : TypeId} {z : Value} {kq kn : IntKind} {olds : List Value}
    (he : Elem P t e z size bytes) (htn : P.underlying tn = some (.int kn)) (hs : a.eval s = .slice A n c) (hx : a.eval x = .int kq (k : Int)) (hk : 0 < k) (hm : n + k = m) (hsz : 0 < size) (hg : c < n + k) (h40 : n + k ≤ 1099511627776)
    (hold : (Builtin.firstCells size n (.slice A n c)).run P w.drew = .ok olds.toArray w.drew) (hol : olds.length = n * size)
    (h : ∀ w' c' (cur : Array Value), Hid (w'.heap[w.heap.size]? = some (.cells cur e (0, 0)) ∧ cur.size = c' * size ∧ cur.toList.take (n * size) = olds) → m ≤ c' → c' ≤ maxLen → w.grownBy w' none → w'.heap.size = w.heap.size + 1 → wpList P ops Q rest (a.put o.dst (.slice (some ⟨w.heap.size, 0, none⟩) m c')) w') :
    wpList P ops Q (o :: rest) a w := by
  subst hm
  obtain ⟨i, hi, hz, hsi, hb⟩ := info_parts he.info
  have hbb : (n + k) * bytes ≤ 1099511627776 * 64 := Nat.mul_le_mul h40 he.small
  have hkb : k * bytes ≤ 1099511627776 * 64 := Nat.mul_le_mul (by omega) he.small
  have hr := Lib.run_append_grow_zeros w t tn o.type e i z kq kn he.slice htn hi hz A n c olds (by rw [hsi]; exact hold) k hk (by rw [hsi]; exact hsz) hg (by omega) (by rw [hb]; omega) (by rw [hb]; exact growslice_fits hg (by omega))
  have hge := grownCap_ge w (n + k) c e
  have hcm := grownCap_le_maxLen w (n + k) c e (by simp only [maxLen]; omega)
  refine Lib.wpList_append_run w hgd s x _ _ hop _ _ hs hx _ _ hr (h _ _ _ (Lib.hid ⟨heap_alloc_new w.drew _, ?_, ?_⟩) hge hcm ⟨rfl, rfl, rfl, by simp, fun q hq _ => heap_alloc_old w.drew _ hq⟩ (by simp))
  · have hzs := he.cells
    simp only [Array.size_append, List.size_toArray, size_zeroCells, hzs, hol]
    rw [← Nat.add_mul, ← Nat.add_mul]
    congr 1
    omega
  · simp only [Array.toList_append, List.append_assoc]
    rw [List.take_append_of_le_length (by simp [hol]), List.take_of_length_le (by simp [hol])]
end
end Go.Proofs.YtapgaglkkgbgkaaGreatDoor.Cl
namespace Go.Proofs.YtapgaglkkgbgkaaGreatDoor.Cl
open Go.RowKit

theorem ins_b {α : Type} (cur p x d : List α) (i : Nat) (hp : cur.take i = p) (hi : p.length = i) (_ : i + x.length + d.length ≤ cur.length) :
    (splice (splice cur i x) (i + x.length) d).take (i + x.length + d.length) = p ++ (x ++ d) := by
  unfold splice
  rw [hp]
  have e1 : (p ++ (x ++ cur.drop (i + x.length))).take (i + x.length) = p ++ x := by
    rw [← List.append_assoc, List.take_append_of_le_length (by simp [hi]), List.take_of_length_le (by simp [hi])]
  rw [e1, ← List.append_assoc (p ++ x) d, List.take_append_of_le_length (by simp [hi]; omega), List.take_of_length_le (by simp [hi]; omega)]
  simp
theorem ins_c {α : Type} (cur p x d : List α) (i : Nat) (hp : cur.take i = p) (hi : p.length = i) (hl : i + x.length + d.length ≤ cur.length) :
    (splice (splice cur (i + x.length) d) i x).take (i + x.length + d.length) = p ++ (x ++ d) := by
  unfold splice
  have e1 : (cur.take (i + x.length) ++ (d ++ cur.drop (i + x.length + d.length))).take i = p := by
    rw [List.take_append_of_le_length (by rw [List.length_take]; omega), List.take_take, Nat.min_eq_left (by omega), hp]
  have e2 : (cur.take (i + x.length) ++ (d ++ cur.drop (i + x.length + d.length))).drop (i + x.length) = d ++ cur.drop (i + x.length + d.length) := by
    rw [List.drop_append_of_le_length (by rw [List.length_take]; omega), List.drop_of_length_le (by rw [List.length_take]; omega), List.nil_append]
  rw [e1, e2, ← List.append_assoc x d, ← List.append_assoc p, List.take_append_of_le_length (by simp [hi]; omega), List.take_of_length_le (by simp [hi]; omega)]
theorem splice_size {α : Type} (cur cs : List α) (o n : Nat) (h : o + cs.length ≤ cur.length) (hn : cur.length = n) : (splice cur o cs).toArray.size = n := by
  rw [List.size_toArray, length_splice cur o cs h, hn]
end Go.Proofs.YtapgaglkkgbgkaaGreatDoor.Cl
namespace Go.Proofs.YtapgaglkkgbgkaaGreatDoor.In
open Go.RowKit Go.Proofs.YtapgaglkkgbgkaaGreatDoor.Li Go.Proofs.YtapgaglkkgbgkaaGreatDoor.Cl
set_option maxRecDepth 100000

theorem info_line : (Tryz.prog.info? 85).map (·.size) = some 2 := by
  have := elem_line.info
  obtain ⟨i, hi, hz, hs, hb⟩ := info_parts this
  rw [hi]; simp [hs]
theorem size_line (w : World) : (Go.sizeOf 85).run Tryz.prog w = .ok 2 w := by
  obtain ⟨i, hi, hz, hs, hb⟩ := info_parts elem_line.info
  simp [Go.sizeOf, typeInfo, hi, hs]
theorem grown_undrewI {W w4 : World} {row : Option Nat} (h : W.drew.grownBy w4 row) : W.grownBy w4 row := ⟨h.os, h.tape, h.output, h.size, h.block⟩

def InsL (w : World) (base : Nat) (A : Option Addr) (n c N : Nat) (ws : List Value) (e : Ending) (w' : World) : Prop :=
  ∃ A' c', e = .returned (.slice A' N c') ∧ w'.ownsRow base 85 2 (.slice A' N c') N ws ∧ w.grownBy w' (Value.slice A n c).ownBlock ∧ (∀ a, A' = some a → w.heap.size ≤ a.block ∨ some a.block = (Value.slice A n c).ownBlock)

set_option maxHeartbeats 4000000 in
theorem insert_any (w : World) (base n c i m cv vb : Nat) (A : Option Addr) (vs ys : List Value) (cw : Array Value) (hrow : w.ownsRow base 85 2 (.slice A n c) n vs) (hv : w.heap[vb]? = some (.cells cw 85 (0, 0))) (hcw : cw.size = cv * 2) (hys : ys.length = m * 2) (hyt : cw.toList.take (m * 2) = ys) (hv1 : ∀ u ∈ ys, u.oneCell' = true)
    (hvb : (Value.slice A n c).ownBlock ≠ some vb) (hi : i ≤ n) (hn : n ≤ 274877906944) (hm : m ≤ 274877906944) (hm0 : 0 < m) (hbase : base ≤ w.heap.size) (hone : ∀ v ∈ vs, v.oneCell' = true) :
    Calls Tryz.prog 82 #[.slice A n c, .int .i64 i, .slice (some ⟨vb, 0, none⟩) m cv] w (InsL w base A n c (n + m) (vs.take (i * 2) ++ (ys ++ vs.drop (i * 2)))) := by
  have hvc : ∀ j u, ys[j]? = some u → w.cell? ⟨vb, j, none⟩ = some u := fun j u hu => by
    rw [cell_of_row w vb j _ _ _ hv]
    rw [← hyt, List.getElem?_take] at hu
    split at hu
    · simpa using hu
    · cases hu
  have hsrc : Src Tryz.prog 2 65 (.slice (some ⟨vb, 0, none⟩) m cv) m ys w := Src.ofSlice w Tryz.underlying65 ⟨vb, 0, none⟩ m cv ys (by rw [hys]) (fun j u hu => by rw [Addr.add_lit, Nat.zero_add]; exact hvc j u hu) hv1
  have hmb : ((m : Int) == 0) = false := by rw [beq_eq_false_iff_ne]; omega
  have hmn : ¬ (m : Int) = 0 := by omega
  have hlen := hrow.1
  by_cases hin : i = n
  · subst hin
    have e1 : vs.take (i * 2) ++ (ys ++ vs.drop (i * 2)) = vs ++ ys := by
      rw [List.take_of_length_le (by omega), List.drop_of_length_le (by omega)]; simp
    rw [e1]
    have hcap : (A = none ∧ i = 0 ∧ c = 0) ∨ ∃ g, A = some ⟨g, 0, none⟩ ∧ i ≤ c ∧ c ≤ maxLen := by
      rcases hrow.2 with ⟨e1, e2⟩ | ⟨g, cap, cu, e1, hg, hh, hcap, hmx, hsz, htk⟩
      · injection e1 with a1 a2 a3
        exact .inl ⟨a1, a2, a3⟩
      · injection e1 with a1 a2 a3
        exact .inr ⟨g, a1, a3 ▸ hcap, a3 ▸ hmx⟩
    have hi1 : i + m ≤ 1099511627776 := by omega
    clear hlen e1
    rcases hcap with ⟨rfl, rfl, rfl⟩ | ⟨g, rfl, hic, hcm⟩
    all_goals
      go_enter Tryz.func82, Tryz.ntmps82
      go_wp2_with (at_builtin; refine wpList_append_row rfl (.tmp 23) (.tmp 24) _ _ rfl elem_line rfl rfl hrow hsrc (by omega) hbase ?_; intro A2 c2 w2 ho2 hg2 hat2)
      all_goals (go_ret; exact ⟨A2, c2, (by first | rfl | (rw [Nat.zero_add]; rfl)), ho2, hg2, fun a ha => (hat2 a ha).imp (fun e => Nat.le_of_eq e.symm) id⟩)
  · have hin2 : i < n := by omega
    rcases hrow.2 with ⟨e1, e2⟩ | ⟨g, cap, cur, e1, hg, hh, hcap, hmx, hsz, htk⟩
    · omega
    injection e1 with a1 a2 a3
    subst a1; subst a3
    have hgl : g < w.heap.size := (Array.getElem?_eq_some_iff.1 hh).1
    have hvl : vb < w.heap.size := (Array.getElem?_eq_some_iff.1 hv).1
    have hgv : vb ≠ g := fun e => hvb (by rw [e]; rfl)
    have hdl : (vs.drop (i * 2)).length = (n - i) * 2 := by rw [List.length_drop]; omega
    have hpl : (vs.take (i * 2)).length = i * 2 := by rw [List.length_take]; omega
    have hpc : cur.toList.take (i * 2) = vs.take (i * 2) := by
      rw [← htk, List.take_take]
      congr 1
      omega
    have hd1 : ∀ v ∈ vs.drop (i * 2), v.oneCell' = true := fun v hv => hone v (List.mem_of_mem_drop hv)
    have hcell : ∀ j u, vs[j]? = some u → w.cell? ⟨g, j, none⟩ = some u := fun j u hu => by
      have := rowCells hrow j u hu
      rw [Addr.add_lit, Nat.zero_add] at this
      exact this
    have hz1 : ¬ ((i : Int) = (n : Int)) := by omega
    have hci : ¬ (c = i) := by omega
    obtain ⟨d, hd⟩ : ∃ d, d = vs.drop (i * 2) := ⟨_, rfl⟩
    obtain ⟨p, hp⟩ : ∃ p, p = vs.take (i * 2) := ⟨_, rfl⟩
    have hdc : ∀ j u, d[j]? = some u → w.cell? ⟨g, i * 2 + j, none⟩ = some u := fun j u hu => by
      rw [hd, List.getElem?_drop] at hu
      exact hcell _ _ hu
    rw [← hd] at hdl hd1 ⊢
    rw [← hp] at hpl hpc ⊢
    clear hd hp hcell
    have hck : n * 2 ≤ c * 2 := Nat.mul_le_mul_right _ hcap
    by_cases hroom : n + m ≤ c
    · have hrm : (n + m) * 2 ≤ c * 2 := Nat.mul_le_mul_right _ hroom
      have hov : ∀ off lb cb, (callFunc 103 #[.slice (some ⟨vb, 0, none⟩) m cv, .slice (some ⟨g, off, none⟩) lb cb]).run Tryz.prog w = .ok (.value (.bool false)) w := fun off lb cb => by
        rw [run_callFunc_extern Tryz.func103 (by kernel_rfl) (by kernel_rfl) (by kernel_rfl) (e := Extern.SlicesOverlaps.overlaps #[65, 65] #[4]) (by kernel_rfl),
          Lib.run_overlaps_apart w 65 4 85 Tryz.underlying65 2 size_line ⟨vb, 0, none⟩ ⟨g, off, none⟩ m cv lb cb hgv 85 85 (cv * 2) (c * 2) (by simp [World.shape?, hv, hcw]) (by simp [World.shape?, hh, hsz]) (by omega) (by simp [World.frozen?, hv]) (by simp [World.frozen?, hv])]
        rfl
      have hb2 : ¬ (c = i + m) := by omega
      have hb3 : (i : Int) ≤ (n : Int) + (m : Int) := by omega
      have hb4 : ¬ ((c : Int) < (n : Int) + (m : Int)) := by omega
      have hwn : IntKind.i64.wrap ((n : Int) + (m : Int)) = (n : Int) + (m : Int) := IntWalk.i64_in _ (by omega)
      have hwn0 : (0 : Int) ≤ (n : Int) + (m : Int) := by omega
      have hwn1 : (n : Int) + (m : Int) ≤ (c : Int) := by omega
      have hwn2 : ((n : Int) + (m : Int)).toNat = n + m := by omega
      have hw1 : IntKind.i64.wrap ((i : Int) + (m : Int)) = (i : Int) + (m : Int) := IntWalk.i64_in _ (by omega)
      have hw2 : (0 : Int) ≤ (i : Int) + (m : Int) := by omega
      have hw3 : ((i : Int) + (m : Int)).toNat = i + m := by omega
      have hw4 : (i : Int) + (m : Int) ≤ (n : Int) + (m : Int) := by omega
      have Hpc := Lib.hid hpc
      have Hdl := Lib.hid hdl
      have Hpl := Lib.hid hpl
      have Hsz := Lib.hid hsz
      have Hdc := Lib.hid hdc
      have Hh := Lib.hid hh
      have Hv := Lib.hid hv
      have Hvc := Lib.hid hvc
      have Htk := Lib.hid htk
      clear hpc hdl hpl hsz hdc hh hv hvc htk hlen hsrc
      go_enter Tryz.func82, Tryz.ntmps82
      go_wp2_with (simp only [hov])
      go_region_law (refine step_copy_k rfl (.tmp 73) (.tmp 76) _ _ rfl 85 2 g ((i + m) * 2) (n + m - (i + m)) (c - (i + m)) ⟨g, i * 2, none⟩ (n + m - i) (c - i) (n - i) cur 85 d Tryz.underlying65 info_line (by simp [Act.eval, Act.put]; done) (by simp [Act.eval, Act.put]; done) Hh.out (by simp only [Nat.min_def]; split <;> omega) Hdl.out (fun j u hu => by rw [Addr.add_lit]; exact Hdc.out j u hu) (by have := Hdl.out; have := Hsz.out; omega) hd1 ?_; intro w2 HG2 hg2)
      have hv2 : ∀ j u, (ys : List Value)[j]? = some u → w2.cell? ((⟨vb, 0, none⟩ : Addr).add j) = some u := fun j u hu => by
        rw [Addr.add_lit, Nat.zero_add, World.cell?_of_block (w := w.drew) (w' := w2) (hg2.block vb hvl (fun e => by injection e with e; exact hgv e))]
        exact Hvc.out j u hu
      have hcl : cur.toList.length = c * 2 := by rw [Array.length_toList]; exact Hsz.out
      have hfit2 : (i + m) * 2 + d.length ≤ cur.toList.length := by rw [hcl, Hdl.out]; omega
      have hsp : ((splice cur.toList ((i + m) * 2) d).toArray).size = c * 2 := splice_size _ _ _ _ hfit2 hcl
      have Hcl := Lib.hid hcl
      have Hfit2 := Lib.hid hfit2
      clear hcl hfit2
      have Hsp := Lib.hid hsp
      have Hv2 := Lib.hid hv2
      clear hsp hv2
      go_wp2_with (with_reducible refine wpList_copy_k rfl (.tmp 80) (.tmp 81) 65 65 rfl 85 2 g (i * 2) (n + m - i) (c - i) ⟨vb, 0, none⟩ m cv m (splice cur.toList ((i + m) * 2) d).toArray 85 ys Tryz.underlying65 info_line rfl rfl HG2.out (by simp only [Nat.min_def]; split <;> omega) hys Hv2.out (by rw [Hsp.out, hys]; omega) hv1 ?_; intro w3 HG3 hg3)
      go_ret
      have hall := ins_c cur.toList p ys d (i * 2) Hpc.out Hpl.out (by have := Hfit2.out; rw [hys]; omega)
      have hrow3 := HG3.out
      have ei : i * 2 + (ys : List Value).length = (i + m) * 2 := by rw [hys]; omega
      rw [ei] at hall
      refine ⟨some ⟨g, 0, none⟩, c, rfl, ⟨?_, .inr ⟨g, c, _, rfl, hg, hrow3, by omega, hmx, ?_, ?_⟩⟩, (grown_undrewI hg2).trans hg3, fun a ha => .inr (by injection ha with ha; rw [← ha]; rfl)⟩
      · simp only [List.length_append, Hpl.out, Hdl.out, hys]
        omega
      · have hsl := Hsp.out
        rw [List.size_toArray] at hsl
        refine splice_size (splice cur.toList ((i + m) * 2) d) ys (i * 2) (c * 2) ?_ hsl
        rw [hsl, hys]
        omega
      · rw [show (n + m) * 2 = (i + m) * 2 + d.length by rw [Hdl.out]; omega]
        exact hall
    · have hkk : (n : Int) + (m : Int) - (i : Int) = ((n + m - i : Nat) : Int) := by omega
      have hwk : IntKind.i64.wrap ((n : Int) + (m : Int) - (i : Int)) = ((n + m - i : Nat) : Int) := by rw [IntKind.wrap_i64]; omega
      have hb4 : ((c : Int) < (n : Int) + (m : Int)) := by omega
      have hwn : IntKind.i64.wrap ((n : Int) + (m : Int)) = (n : Int) + (m : Int) := IntWalk.i64_in _ (by omega)
      have hic : (i : Int) ≤ (c : Int) := by omega
      have hold : (Builtin.firstCells 2 i (.slice (some ⟨g, 0, none⟩) i c)).run Tryz.prog w.drew = .ok p.toArray w.drew :=
        run_firstCells_some w.drew 2 i ⟨g, 0, none⟩ i c p (by rw [hpl]) (fun j u hu => by
          rw [Addr.add_lit, Nat.zero_add, World.cell?_drew, cell_of_row w g j cur _ _ hh]
          rw [← hpc, List.getElem?_take] at hu
          split at hu
          · simpa using hu
          · cases hu)
      have hb3 : (i : Int) ≤ (n : Int) + (m : Int) := by omega
      have hw1 : IntKind.i64.wrap ((i : Int) + (m : Int)) = (i : Int) + (m : Int) := IntWalk.i64_in _ (by omega)
      have hw2 : (0 : Int) ≤ (i : Int) + (m : Int) := by omega
      have hw3 : ((i : Int) + (m : Int)).toNat = i + m := by omega
      have hw4 : (i : Int) + (m : Int) ≤ (n : Int) + (m : Int) := by omega
      have Hpc := Lib.hid hpc
      have Hdl := Lib.hid hdl
      have Hpl := Lib.hid hpl
      have Hsz := Lib.hid hsz
      have Hdc := Lib.hid hdc
      have Hh := Lib.hid hh
      have Hv := Lib.hid hv
      have Hvc := Lib.hid hvc
      have Htk := Lib.hid htk
      have Hold := Lib.hid hold
      clear hpc hdl hpl hsz hdc hh hv hvc htk hlen hsrc hold
      go_enter Tryz.func82, Tryz.ntmps82
      go_wp2_with (first
        | (at_builtin; refine wpList_append_zeros rfl (.tmp 34) (.tmp 39) 65 3 rfl elem_line Tryz.underlying3 rfl (kq := .i64) (k := n + m - i) rfl (by omega) (m := n + m) (by omega) (by omega) (by omega) (by omega) Hold.out Hpl.out ?_; intro w2 c2 cu2 HZ hz1c hz2c hg2 hs2; have hc2i : ¬ (c2 = i) := (by omega); have hc2j : ¬ (c2 = i + m) := (by omega); have Hv2 := Lib.hid (show ∀ j u, (ys : List Value)[j]? = some u → w2.cell? ((⟨vb, 0, none⟩ : Addr).add j) = some u from fun j u hu => (by rw [Addr.add_lit, Nat.zero_add, World.cell?_of_block (w := w) (w' := w2) (hg2.block vb hvl (fun e => by cases e))]; exact Hvc.out j u hu)); have Hz2 := Lib.hid (Nat.mul_le_mul_right 2 hz1c))
        | (with_reducible refine wpList_copy_k rfl (.tmp 43) (.tmp 44) 65 65 rfl 85 2 w.heap.size (i * 2) (n + m - i) (c2 - i) ⟨vb, 0, none⟩ m cv m cu2 85 ys Tryz.underlying65 info_line rfl rfl HZ.out.1 (by simp only [Nat.min_def]; split <;> omega) hys Hv2.out (by rw [HZ.out.2.1, hys]; have := Hz2.out; omega) hv1 ?_; intro w3 HG3 hg3))
      have hg23 : w.grownBy w3 none := ⟨hg3.os.trans hg2.os, hg3.tape.trans hg2.tape, hg3.output.trans hg2.output, Nat.le_trans hg2.size hg3.size, fun q hq _ => (hg3.block q (by omega) (fun e => by injection e with e; omega)).trans (hg2.block q hq (fun e => by cases e))⟩
      have Hd3 := Lib.hid (show ∀ j u, d[j]? = some u → w3.cell? ((⟨g, i * 2, none⟩ : Addr).add j) = some u from fun j u hu => by
        rw [Addr.add_lit, World.cell?_of_block (w := w) (w' := w3) (hg23.block g hgl (fun e => by cases e))]
        exact Hdc.out j u hu)
      have hcl2 : cu2.toList.length = c2 * 2 := by rw [Array.length_toList]; exact HZ.out.2.1
      have hf2 : i * 2 + (ys : List Value).length ≤ cu2.toList.length := by rw [hcl2, hys]; have := Hz2.out; omega
      have hcu : (splice cu2.toList (i * 2) ys).toArray.size = c2 * 2 := splice_size _ _ _ _ hf2 hcl2
      have Hcl2 := Lib.hid hcl2
      clear hcl2 hf2
      have Hcu := Lib.hid hcu
      clear hcu
      go_region_law (refine step_copy_k rfl (.tmp 50) (.tmp 53) _ _ rfl 85 2 w.heap.size ((i + m) * 2) (n + m - (i + m)) (c2 - (i + m)) ⟨g, i * 2, none⟩ (n - i) (c - i) (n - i) (splice cu2.toList (i * 2) ys).toArray 85 d Tryz.underlying65 info_line (by simp [Act.eval, Act.put]; done) (by simp [Act.eval, Act.put]; done) HG3.out (by simp only [Nat.min_def]; split <;> omega) Hdl.out Hd3.out (by rw [Hcu.out]; have := Hdl.out; have := Hz2.out; omega) hd1 ?_; intro w4 HG4 hg4)
      go_wp2_with fail
      go_ret
      have ei : i * 2 + (ys : List Value).length = (i + m) * 2 := by rw [hys]; omega
      have hall := ins_b cu2.toList p ys d (i * 2) HZ.out.2.2 Hpl.out (by rw [ei, Hcl2.out, Hdl.out]; have := Hz2.out; omega)
      rw [ei] at hall
      have hsl := Hcu.out
      rw [List.size_toArray] at hsl
      have hN : ∀ q, some q ≠ some w.heap.size → q < w.heap.size → w4.heap[q]? = w.heap[q]? := fun q hq hl =>
        (hg4.block q (Nat.lt_of_lt_of_le hl hg23.size) hq).trans (hg23.block q hl (fun e => by cases e))
      refine ⟨some ⟨w.heap.size, 0, none⟩, c2, rfl, ⟨?_, .inr ⟨w.heap.size, c2, _, rfl, hbase, HG4.out, hz1c, hz2c, ?_, ?_⟩⟩, ⟨hg4.os.trans hg23.os, hg4.tape.trans hg23.tape, hg4.output.trans hg23.output, Nat.le_trans hg23.size hg4.size, fun q hq _ => hN q (fun e => by injection e with e; omega) hq⟩, fun a ha => .inl (by injection ha with ha; rw [← ha]; exact Nat.le_refl _)⟩
      · simp only [List.length_append, Hpl.out, Hdl.out, hys]
        omega
      · exact splice_size (splice cu2.toList (i * 2) ys) d ((i + m) * 2) (c2 * 2) (by rw [hsl, Hdl.out]; have := Hz2.out; omega) hsl
      · rw [show (n + m) * 2 = (i + m) * 2 + d.length by rw [Hdl.out]; omega]
        exact hall
end Go.Proofs.YtapgaglkkgbgkaaGreatDoor.In
namespace Go.Proofs.YtapgaglkkgbgkaaGreatDoor.In
open Go.RowKit Go.Proofs.YtapgaglkkgbgkaaGreatDoor.Li Go.Proofs.YtapgaglkkgbgkaaGreatDoor.Cl
set_option maxRecDepth 100000

set_option maxHeartbeats 2000000 in
theorem insert_none (A A2 : Option Addr) (n c c2 i : Nat) (w : World) (hA : (A = none ∧ n = 0 ∧ c = 0) ∨ ∃ g, A = some ⟨g, 0, none⟩) (hi : i ≤ n) (hn : n ≤ c) :
    Calls Tryz.prog 82 #[.slice A n c, .int .i64 i, .slice A2 0 c2] w fun e w' => e = .returned (.slice A n c) ∧ w' = w := by
  have h1 : (0 : Int) ≤ (i : Int) := by omega
  have h2 : (i : Int) ≤ (n : Int) := by omega
  have h3 : (i : Int) ≤ (c : Int) := by omega
  rcases hA with ⟨rfl, rfl, rfl⟩ | ⟨g, rfl⟩
  · obtain rfl : i = 0 := by omega
    go_enter Tryz.func82, Tryz.ntmps82
    go_wp2_with fail
    go_ret
    exact ⟨rfl, rfl⟩
  · by_cases hc : c = i
    · go_enter Tryz.func82, Tryz.ntmps82
      go_wp2_with fail
      go_ret
      exact ⟨rfl, rfl⟩
    · go_enter Tryz.func82, Tryz.ntmps82
      go_wp2_with fail
      go_ret
      exact ⟨rfl, rfl⟩
theorem insertL_any (ls ms : List Ln) (A A2 : Option Addr) (n c m c2 i base base2 : Nat) (w : World) (h : OwnL w base A n c ls) (h2 : OwnL w base2 A2 m c2 ms) (hap : ∀ g, (Value.slice A2 m c2).ownBlock = some g → (Value.slice A n c).ownBlock ≠ some g) (hi : i ≤ n) (hn : n ≤ 100000000) (hm : m ≤ 100000000) (hb : base ≤ w.heap.size) :
    Calls Tryz.prog 82 #[.slice A n c, .int .i64 i, .slice A2 m c2] w fun e w' => ∃ A' c', e = .returned (.slice A' (n + m) c') ∧ OwnL w' base A' (n + m) c' (ls.take i ++ ms ++ ls.drop i) ∧ Below base w w' := by
  have hcap := h.cap
  have hl2 := h2.sees.len
  by_cases hm0 : m = 0
  · subst hm0
    have hms : ms = [] := List.eq_nil_of_length_eq_zero hl2.symm
    subst hms
    refine (insert_none A A2 n c c2 i w ?_ hi hcap.1).mono ?_
    · rcases h.2 with ⟨e, _⟩ | ⟨g, cap, cur, e, _⟩
      · injection e with e1 e2 e3
        exact .inl ⟨e1, e2, e3⟩
      · injection e with e1 _ _
        exact .inr ⟨g, e1⟩
    · rintro e w' ⟨rfl, rfl⟩
      exact ⟨A, c, by simp, by simpa using h, Below.refl _ _⟩
  · rcases h2.2 with ⟨_, e2⟩ | ⟨vb, cv, cw, e, _, hv, hmc, _, hcw, htk⟩
    · exact absurd e2 hm0
    · injection e with e1 _ e3
      subst e1; subst e3
      refine (insert_any w base n c i m c2 vb A (lcells ls) (lcells ms) cw h hv hcw (by rw [lcells_length, ← hl2]) htk (lcells_one ms) (hap vb rfl) hi (by omega) (by omega) (by omega) hb (lcells_one ls)).mono ?_
      rintro e w' ⟨A', c', rfl, ho, hg, _⟩
      refine ⟨A', c', rfl, ?_, (Below.refl base w).grown hg hb (fun q hq => (h.lt q hq).1)⟩
      rw [OwnL, lcells_append, lcells_append, lcells_take, lcells_drop, List.append_assoc]
      exact ho
end Go.Proofs.YtapgaglkkgbgkaaGreatDoor.In
namespace Go.Proofs.YtapgaglkkgbgkaaGreatDoor.In
open Go.RowKit Go.Proofs.YtapgaglkkgbgkaaGreatDoor.Li Go.Proofs.YtapgaglkkgbgkaaGreatDoor.Cv
set_option maxRecDepth 100000

end Go.Proofs.YtapgaglkkgbgkaaGreatDoor.In
namespace Go.Proofs.YtapgaglkkgbgkaaGreatDoor
open Go.RowKit
set_option maxRecDepth 100000

def Tr.same : Tr → Tr → Bool
  | .nil, .nil => true
  | .cons s k r, .cons s' k' r' => (s.toList == s'.toList) && k.same k' && r.same r'
  | _, _ => false
end Go.Proofs.YtapgaglkkgbgkaaGreatDoor
namespace Go.Proofs.YtapgaglkkgbgkaaGreatDoor.Cv
open Go.RowKit Go.ChangeShapes Go.WideShapes Go.ChangeAt

theorem gl_of {w : World} (h : w.ShapedOpen Tryz.prog) : Gl w := Tryz.laysM219.s1_3 w h
end Go.Proofs.YtapgaglkkgbgkaaGreatDoor.Cv
