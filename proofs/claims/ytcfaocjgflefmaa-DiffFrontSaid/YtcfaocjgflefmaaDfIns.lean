/- slices.Insert of one name into a row of names of one's own. Conditions: fewer than 2^39 names; the place is within the row. -/
import Derived.Test.YtcfaocjgflefmaaClInsM
import Derived.Test.YtcfaocjgflefmaaNames
import Derived.Lib.Overlaps
import Derived.Laws.Externs
import Derived.IntWalk
import Derived.Outline
import Derived.Deep.QuietTactic
import Derived.BigQuiet
namespace Go.Proofs.Ytcfaocjgflefmaa.Df
open Go.RowKit Go.Proofs.Ytcfaocjgflefmaa.Cl
set_option maxRecDepth 100000

theorem info_str : (Try.prog.info? 9).map (·.size) = some 1 := by
  have := elem_str.info
  obtain ⟨i, hi, hz, hs, hb⟩ := info_parts this
  rw [hi]; simp [hs]
theorem size_str (w : World) : (Go.sizeOf 9).run Try.prog w = .ok 1 w := by
  obtain ⟨i, hi, hz, hs, hb⟩ := info_parts elem_str.info
  simp [Go.sizeOf, typeInfo, hi, hs]

theorem grown_undrewD {W w4 : World} {row : Option Nat} (h : W.drew.grownBy w4 row) : W.grownBy w4 row := ⟨h.os, h.tape, h.output, h.size, h.block⟩

/-- A row of edges with one more. -/
def InsP (w : World) (base : Nat) (A : Option Addr) (n c : Nat) (ws : List Value) (e : Ending) (w' : World) : Prop :=
  ∃ A' c', e = .returned (.slice A' (n + 1) c') ∧ w'.ownsRow base 9 1 (.slice A' (n + 1) c') (n + 1) ws ∧ w.grownBy w' (Value.slice A n c).ownBlock ∧ (∀ a, A' = some a → w.heap.size ≤ a.block ∨ some a.block = (Value.slice A n c).ownBlock)

set_option maxHeartbeats 1000000 in
theorem insert_any (w : World) (base n c i vb : Nat) (A : Option Addr) (vs : List Value) (x0 : Value) (hrow : w.ownsRow base 9 1 (.slice A n c) n vs) (hv : w.heap[vb]? = some (.cells #[x0] 9 (0, 0))) (h0 : x0.oneCell' = true)
    (hvb : (Value.slice A n c).ownBlock ≠ some vb) (hi : i ≤ n) (hn : n ≤ 549755813888) (hbase : base ≤ w.heap.size) (hone : ∀ v ∈ vs, v.oneCell' = true) :
    Calls Try.prog 46 #[.slice A n c, .int .i64 i, .slice (some ⟨vb, 0, none⟩) 1 1] w (InsP w base A n c (vs.take (i) ++ ([x0] ++ vs.drop (i)))) := by
  have hvc : ∀ j u, ([x0] : List Value)[j]? = some u → w.cell? ⟨vb, j, none⟩ = some u := fun j u hu => by
    rw [cell_of_row w vb j _ _ _ hv, ← hu]; simp
  have hv1 : ∀ u ∈ [x0], u.oneCell' = true := by
    intro u hu
    simp only [List.mem_cons, List.not_mem_nil, or_false] at hu
    subst hu
    exact h0
  have hsrc : Src Try.prog 1 31 (.slice (some ⟨vb, 0, none⟩) 1 1) 1 [x0] w := Src.ofSlice w Try.underlying31 ⟨vb, 0, none⟩ 1 1 [x0] rfl (fun j u hu => by rw [Addr.add_lit, Nat.zero_add]; exact hvc j u hu) hv1
  have hlen := hrow.1
  by_cases hin : i = n
  · subst hin
    have e1 : vs.take (i) ++ ([x0] ++ vs.drop (i)) = vs ++ [x0] := by
      rw [List.take_of_length_le (by omega), List.drop_of_length_le (by omega)]; simp
    rw [e1]
    have hcap : (A = none ∧ i = 0 ∧ c = 0) ∨ ∃ g, A = some ⟨g, 0, none⟩ ∧ i ≤ c ∧ c ≤ maxLen := by
      rcases hrow.2 with ⟨e1, e2⟩ | ⟨g, cap, cu, e1, hg, hh, hcap, hmx, hsz, htk⟩
      · injection e1 with a1 a2 a3
        exact .inl ⟨a1, a2, a3⟩
      · injection e1 with a1 a2 a3
        exact .inr ⟨g, a1, a3 ▸ hcap, a3 ▸ hmx⟩
    have hi1 : i + 1 ≤ 1099511627776 := by omega
    clear hlen e1
    rcases hcap with ⟨rfl, rfl, rfl⟩ | ⟨g, rfl, hic, hcm⟩
    all_goals
      go_enter Try.func46, Try.ntmps46
      go_wp2_with (at_builtin; refine wpList_append_row rfl (.tmp 23) (.tmp 24) _ _ rfl elem_str rfl rfl hrow hsrc (by omega) hbase ?_; intro A2 c2 w2 ho2 hg2 hat2)
      all_goals (go_ret; exact ⟨A2, c2, rfl, ho2, hg2, fun a ha => (hat2 a ha).imp (fun e => Nat.le_of_eq e.symm) id⟩)
  · have hin2 : i < n := by omega
    rcases hrow.2 with ⟨e1, e2⟩ | ⟨g, cap, cur, e1, hg, hh, hcap, hmx, hsz, htk⟩
    · omega
    rw [Nat.mul_one] at hsz
    injection e1 with a1 a2 a3
    subst a1; subst a3
    have hgl : g < w.heap.size := (Array.getElem?_eq_some_iff.1 hh).1
    have hvl : vb < w.heap.size := (Array.getElem?_eq_some_iff.1 hv).1
    have hgv : vb ≠ g := fun e => hvb (by rw [e]; rfl)
    have hdl : (vs.drop (i)).length = (n - i) := by rw [List.length_drop]; omega
    have hpl : (vs.take (i)).length = i := by rw [List.length_take]; omega
    have hpc : cur.toList.take (i) = vs.take (i) := by
      rw [← htk, List.take_take]
      congr 1
      omega
    have hd1 : ∀ v ∈ vs.drop (i), v.oneCell' = true := fun v hv => hone v (List.mem_of_mem_drop hv)
    have hcell : ∀ j u, vs[j]? = some u → w.cell? ⟨g, j, none⟩ = some u := fun j u hu => by
      have := rowCells hrow j u hu
      rw [Addr.add_lit, Nat.zero_add] at this
      exact this
    have hz1 : ¬ ((i : Int) = (n : Int)) := by omega
    have hci : ¬ (c = i) := by omega
    obtain ⟨d, hd⟩ : ∃ d, d = vs.drop (i) := ⟨_, rfl⟩
    obtain ⟨p, hp⟩ : ∃ p, p = vs.take (i) := ⟨_, rfl⟩
    have hdc : ∀ j u, d[j]? = some u → w.cell? ⟨g, i + j, none⟩ = some u := fun j u hu => by
      rw [hd, List.getElem?_drop] at hu
      exact hcell _ _ hu
    rw [← hd] at hdl hd1 ⊢
    rw [← hp] at hpl hpc ⊢
    clear hd hp hcell
    have hck : n ≤ c := hcap
    by_cases hroom : n + 1 ≤ c
    · have hrm : n + 1 ≤ c := hroom
      have hov : ∀ off lb cb, (callFunc 49 #[.slice (some ⟨vb, 0, none⟩) 1 1, .slice (some ⟨g, off, none⟩) lb cb]).run Try.prog w = .ok (.value (.bool false)) w := fun off lb cb => by
        rw [run_callFunc_extern Try.func49 (by kernel_rfl) (by kernel_rfl) (by kernel_rfl) (e := Extern.SlicesOverlaps.overlaps #[31, 31] #[4]) (by kernel_rfl),
          Lib.run_overlaps_apart w 31 4 9 Try.underlying31 1 size_str ⟨vb, 0, none⟩ ⟨g, off, none⟩ 1 1 lb cb hgv 9 9 1 (c) (by simp [World.shape?, hv]) (by simp [World.shape?, hh, hsz]) (by omega) (by simp [World.frozen?, hv]) (by simp [World.frozen?, hv])]
        rfl
      have hb2 : ¬ (c = i + 1) := by omega
      have hb3 : (i : Int) ≤ (n : Int) + 1 := by omega
      have Hpc := Lib.hid hpc
      have Hdl := Lib.hid hdl
      have Hpl := Lib.hid hpl
      have Hsz := Lib.hid hsz
      have Hdc := Lib.hid hdc
      have Hh := Lib.hid hh
      have Hv := Lib.hid hv
      have Hvc := Lib.hid hvc
      have Htk := Lib.hid htk
      clear hpc hdl hpl hsz hdc hh hv hvc htk hlen hsrc
      go_enter Try.func46, Try.ntmps46
      go_wp2_with (simp only [hov])
      have hw1 : IntKind.i64.wrap ((i : Int) + 1) = (i : Int) + 1 := IntWalk.i64_in _ (by omega)
      have hw2 : (0 : Int) ≤ (i : Int) + 1 := by omega
      have hw3 : ((i : Int) + 1).toNat = i + 1 := by omega
      have hw4 : (i : Int) + 1 ≤ (n : Int) + 1 := by omega
      go_region_law (refine step_copy_k rfl (.tmp 73) (.tmp 76) _ _ rfl 9 1 g ((i + 1)) (n - i) (c - (i + 1)) ⟨g, i, none⟩ (n + 1 - i) (c - i) (n - i) cur 9 d Try.underlying31 info_str (by simp [Act.eval, Act.put]; done) (by simp [Act.eval, Act.put]; done) Hh.out (by simp only [Nat.min_def]; split <;> omega) (Hdl.out.trans (Nat.mul_one _).symm) (fun j u hu => by rw [Addr.add_lit]; exact Hdc.out j u hu) (by have := Hdl.out; have := Hsz.out; omega) hd1 ?_; intro w2 HG2 hg2)
      have hv2 : ∀ j u, ([x0] : List Value)[j]? = some u → w2.cell? ((⟨vb, 0, none⟩ : Addr).add j) = some u := fun j u hu => by
        rw [Addr.add_lit, Nat.zero_add, World.cell?_of_block (w := w.drew) (w' := w2) (hg2.block vb hvl (fun e => by injection e with e; exact hgv e))]
        exact Hvc.out j u hu
      have hcl : cur.toList.length = c := by rw [Array.length_toList]; exact Hsz.out
      have hfit2 : (i + 1) + d.length ≤ cur.toList.length := by rw [hcl, Hdl.out]; omega
      have hsp : ((splice cur.toList ((i + 1)) d).toArray).size = c := splice_size _ _ _ _ hfit2 hcl
      have Hcl := Lib.hid hcl
      have Hfit2 := Lib.hid hfit2
      clear hcl hfit2
      have Hsp := Lib.hid hsp
      have Hv2 := Lib.hid hv2
      clear hsp hv2
      go_wp2_with (with_reducible refine wpList_copy_k rfl (.tmp 80) (.tmp 81) 31 31 rfl 9 1 g (i) (n + 1 - i) (c - i) ⟨vb, 0, none⟩ 1 1 1 (splice cur.toList ((i + 1)) d).toArray 9 [x0] Try.underlying31 info_str rfl rfl HG2.out (by simp only [Nat.min_def]; split <;> omega) rfl Hv2.out (by rw [Hsp.out]; simp only [List.length_cons, List.length_nil]; omega) hv1 ?_; intro w3 HG3 hg3)
      go_ret
      have hall := ins_c cur.toList p [x0] d (i) Hpc.out Hpl.out (by have := Hfit2.out; simp only [List.length_cons, List.length_nil]; omega)
      have hrow3 := HG3.out
      have ei : i + ([x0] : List Value).length = (i + 1) := by simp
      rw [ei] at hall
      refine ⟨some ⟨g, 0, none⟩, c, rfl, ⟨?_, .inr ⟨g, c, _, rfl, hg, hrow3, by omega, hmx, ?_, ?_⟩⟩, (grown_undrewD hg2).trans hg3, fun a ha => .inr (by injection ha with ha; rw [← ha]; rfl)⟩
      · simp only [List.length_append, List.length_cons, Hpl.out, Hdl.out]
        omega
      · have hsl := Hsp.out
        rw [List.size_toArray] at hsl
        rw [Nat.mul_one]
        refine splice_size (splice cur.toList ((i + 1)) d) [x0] (i) (c) ?_ hsl
        rw [hsl]
        simp only [List.length_cons, List.length_nil]
        omega
      · rw [Nat.mul_one, show (n + 1) = (i + 1) + d.length by rw [Hdl.out]; omega]
        exact hall
    · obtain rfl : c = n := by omega
      have hkk : (c : Int) + 1 - (i : Int) = ((c + 1 - i : Nat) : Int) := by omega
      have hold : (Builtin.firstCells 1 i (.slice (some ⟨g, 0, none⟩) i c)).run Try.prog w.drew = .ok p.toArray w.drew :=
        run_firstCells_some w.drew 1 i ⟨g, 0, none⟩ i c p (by rw [hpl, Nat.mul_one]) (fun j u hu => by
          rw [Addr.add_lit, Nat.zero_add, World.cell?_drew, cell_of_row w g j cur _ _ hh]
          rw [← hpc, List.getElem?_take] at hu
          split at hu
          · simpa using hu
          · cases hu)
      have hb3 : (i : Int) ≤ (c : Int) := by omega
      have hw1 : IntKind.i64.wrap ((i : Int) + 1) = (i : Int) + 1 := IntWalk.i64_in _ (by omega)
      have hw2 : (0 : Int) ≤ (i : Int) + 1 := by omega
      have hw3 : ((i : Int) + 1).toNat = i + 1 := by omega
      have hw4 : (i : Int) + 1 ≤ (c : Int) + 1 := by omega
      have Hpc := Lib.hid hpc
      have Hdl := Lib.hid hdl
      have Hpl := Lib.hid hpl
      have Hsz := Lib.hid hsz
      have Hdc := Lib.hid hdc
      have Hh := Lib.hid hh
      have Hv := Lib.hid hv
      have Hvc := Lib.hid hvc
      have Htk := Lib.hid htk
      have Hold := Lib.hid hold
      clear hpc hdl hpl hsz hdc hh hv hvc htk hlen hsrc hold
      go_enter Try.func46, Try.ntmps46
      go_wp2_with (first
        | (at_builtin; refine wpList_append_zeros rfl (.tmp 34) (.tmp 39) 31 3 rfl elem_str Try.underlying3 rfl (kq := .i64) (k := c + 1 - i) rfl (by omega) (m := c + 1) (by omega) (by omega) (by omega) (by omega) Hold.out (Hpl.out.trans (Nat.mul_one _).symm) ?_; intro w2 c2 cu2 HZ hz1c hz2c hg2 hs2; have hc2i : ¬ (c2 = i) := (by omega); have hc2j : ¬ (c2 = i + 1) := (by omega); have Hv2 := Lib.hid (show ∀ j u, ([x0] : List Value)[j]? = some u → w2.cell? ((⟨vb, 0, none⟩ : Addr).add j) = some u from fun j u hu => (by rw [Addr.add_lit, Nat.zero_add, World.cell?_of_block (w := w) (w' := w2) (hg2.block vb hvl (fun e => by cases e))]; exact Hvc.out j u hu)); have Hz2 := Lib.hid (Nat.mul_le_mul_right 2 hz1c))
        | (with_reducible refine wpList_copy_k rfl (.tmp 43) (.tmp 44) 31 31 rfl 9 1 w.heap.size (i) (c + 1 - i) (c2 - i) ⟨vb, 0, none⟩ 1 1 1 cu2 9 [x0] Try.underlying31 info_str rfl rfl HZ.out.1 (by simp only [Nat.min_def]; split <;> omega) rfl Hv2.out (by rw [HZ.out.2.1]; have := Hz2.out; simp only [List.length_cons, List.length_nil]; omega) hv1 ?_; intro w3 HG3 hg3))
      have hg23 : w.grownBy w3 none := ⟨hg3.os.trans hg2.os, hg3.tape.trans hg2.tape, hg3.output.trans hg2.output, Nat.le_trans hg2.size hg3.size, fun q hq _ => (hg3.block q (by omega) (fun e => by injection e with e; omega)).trans (hg2.block q hq (fun e => by cases e))⟩
      have Hd3 := Lib.hid (show ∀ j u, d[j]? = some u → w3.cell? ((⟨g, i, none⟩ : Addr).add j) = some u from fun j u hu => by
        rw [Addr.add_lit, World.cell?_of_block (w := w) (w' := w3) (hg23.block g hgl (fun e => by cases e))]
        exact Hdc.out j u hu)
      have hcl2 : cu2.toList.length = c2 := by rw [Array.length_toList]; have := HZ.out.2.1; omega
      have hf2 : i + ([x0] : List Value).length ≤ cu2.toList.length := by rw [hcl2]; have := Hz2.out; simp only [List.length_cons, List.length_nil]; omega
      have hcu : (splice cu2.toList (i) [x0]).toArray.size = c2 := splice_size _ _ _ _ hf2 hcl2
      have Hcl2 := Lib.hid hcl2
      clear hcl2 hf2
      have Hcu := Lib.hid hcu
      clear hcu
      go_region_law (refine step_copy_k rfl (.tmp 50) (.tmp 53) _ _ rfl 9 1 w.heap.size ((i + 1)) (c + 1 - (i + 1)) (c2 - (i + 1)) ⟨g, i, none⟩ (c - i) (c - i) (c - i) (splice cu2.toList (i) [x0]).toArray 9 d Try.underlying31 info_str (by simp [Act.eval, Act.put]; done) (by simp [Act.eval, Act.put]; done) HG3.out (by simp only [Nat.min_def]; split <;> omega) (Hdl.out.trans (Nat.mul_one _).symm) Hd3.out (by rw [Hcu.out]; have := Hdl.out; have := Hz2.out; omega) hd1 ?_; intro w4 HG4 hg4)
      go_wp2_with fail
      go_ret
      have ei : i + ([x0] : List Value).length = (i + 1) := by simp
      have hall := ins_b cu2.toList p [x0] d (i) (by have := HZ.out.2.2; rwa [Nat.mul_one] at this) Hpl.out (by rw [ei, Hcl2.out, Hdl.out]; have := Hz2.out; omega)
      rw [ei] at hall
      have hsl := Hcu.out
      rw [List.size_toArray] at hsl
      have hN : ∀ q, some q ≠ some w.heap.size → q < w.heap.size → w4.heap[q]? = w.heap[q]? := fun q hq hl =>
        (hg4.block q (Nat.lt_of_lt_of_le hl hg23.size) hq).trans (hg23.block q hl (fun e => by cases e))
      refine ⟨some ⟨w.heap.size, 0, none⟩, c2, rfl, ⟨?_, .inr ⟨w.heap.size, c2, _, rfl, hbase, HG4.out, hz1c, hz2c, ?_, ?_⟩⟩, ⟨hg4.os.trans hg23.os, hg4.tape.trans hg23.tape, hg4.output.trans hg23.output, Nat.le_trans hg23.size hg4.size, fun q hq _ => hN q (fun e => by injection e with e; omega) hq⟩, fun a ha => .inl (by injection ha with ha; rw [← ha]; exact Nat.le_refl _)⟩
      · simp only [List.length_append, List.length_cons, Hpl.out, Hdl.out]
        omega
      · rw [Nat.mul_one]
        exact splice_size (splice cu2.toList (i) [x0]) d ((i + 1)) (c2) (by rw [hsl, Hdl.out]; have := Hz2.out; omega) hsl
      · rw [Nat.mul_one, show (c + 1) = (i + 1) + d.length by rw [Hdl.out]; omega]
        exact hall
end Go.Proofs.Ytcfaocjgflefmaa.Df
