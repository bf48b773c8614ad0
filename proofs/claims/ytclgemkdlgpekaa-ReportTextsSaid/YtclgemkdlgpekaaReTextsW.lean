/- ReportTexts. No conditions. -/
import Derived.Test.YtclgemkdlgpekaaReRText
namespace Go.Proofs.Ytclgemkdlgpekaa.Re
open Go.ChangeShapes Go.WideShapes Go.ChangeAt Go.RowKit
set_option maxRecDepth 100000

theorem list_of {P : Nat → Cf → Prop} : ∀ n : Nat, (∀ i, i < n → ∃ x, P i x) → ∃ l : List Cf, l.length = n ∧ ∀ i x, l[i]? = some x → P i x
  | 0, _ => ⟨[], rfl, fun i x h => by simp at h⟩
  | n + 1, h => by
    obtain ⟨l, hl, hp⟩ := list_of n (fun i hi => h i (by omega))
    obtain ⟨x, hx⟩ := h n (Nat.lt_succ_self n)
    refine ⟨l ++ [x], by simp [hl], fun i y hy => ?_⟩
    rcases Nat.lt_or_ge i l.length with g | g
    · rw [List.getElem?_append_left g] at hy
      exact hp i y hy
    · rw [List.getElem?_append_right g] at hy
      have hi : i - l.length = 0 := by
        rcases Nat.eq_zero_or_pos (i - l.length) with e | e
        · exact e
        · rw [List.getElem?_eq_none (by simp; omega)] at hy; cases hy
      rw [hi] at hy
      simp only [List.getElem?_cons_zero, Option.some.injEq] at hy
      subst hy
      rw [show i = n by omega]
      exact hx
/-- A row of paths below B. -/
structure PRow (w : World) (B : Nat) (A : Option Addr) (n : Nat) (l : List Cf) : Prop where
  len : n = l.length
  cell : ∀ (j : Nat) (x : Cf), l[j]? = some x → ∃ b o, A = some ⟨b, o, none⟩ ∧ b < B ∧ w.cell? ⟨b, o + j, none⟩ = some (.slice x.A x.n x.c)
  path : ∀ x ∈ l, SeesV w B x.A x.n (x.p.map Value.string) ∧ x.n ≤ x.c ∧ x.c ≤ maxLen
theorem PRow.keep {w w' : World} {B n : Nat} {A : Option Addr} {l : List Cf} (h : PRow w B A n l) (hk : ∀ p : Addr, p.block < B → w'.cell? p = w.cell? p) : PRow w' B A n l :=
  ⟨h.len, fun j x hx => by
    obtain ⟨b, o, e, hb, h1⟩ := h.cell j x hx
    exact ⟨b, o, e, hb, (hk _ hb).trans h1⟩, fun x hx => ⟨(h.path x hx).1.keep hk, (h.path x hx).2⟩⟩
theorem PRow.below {w w' : World} {B n : Nat} {A : Option Addr} {l : List Cf} (h : PRow w B A n l) (hb : Below B w w') : PRow w' B A n l := h.keep fun _ hp => hb.cell hp
theorem cells_strs : Try.prog.cellsOf 22 = 1 := by kernel_rfl
section
variable {H : Type} {enc : TypeId × Value → H} {W : World}
theorem strs_of {fuel : Nat} {cs : List Value} {x : DataW H × List MemPlace} (h : DataW.trod enc Try.prog W 0 (fun _ => true) true fuel 22 cs = some x) :
    ∃ (A : Option Addr) (n c : Nat) (l : List ByteArray), cs = [.slice A n c] ∧ SeesV W W.heap.size A n (l.map Value.string) ∧ n ≤ c ∧ c ≤ maxLen := by
  rcases open_strings Try.underlying22 Try.underlying9 cells_str h with ⟨hcs, _⟩ | ⟨a, len, cap, zs, hcs, _, hl, hm, hz, _, hcell, hwz⟩
  · exact ⟨none, 0, 0, [], hcs, ⟨rfl, fun j u h => by simp at h⟩, Nat.le_refl _, Nat.zero_le _⟩
  · simp only [if_true] at hz
    refine ⟨some a, len, cap, zs.take len, hcs, ⟨by simp; omega, fun j u hu => ?_⟩, hl, hm⟩
    have hj : j < len := by
      rcases Nat.lt_or_ge j len with g | g
      · exact g
      · rw [List.getElem?_eq_none (by simp; omega)] at hu; cases hu
    have hcj := hcell j (by omega)
    have hsp := plain_addr (hcell 0 (by omega))
    obtain ⟨ab, ao, sp⟩ := a
    simp only at hsp
    subst hsp
    have hjz : j < zs.length := by omega
    have e : zs.getD j ByteArray.empty = zs[j] := by simp [List.getD, List.getElem?_eq_getElem hjz]
    rw [List.getElem?_map, List.getElem?_take_of_lt hj, List.getElem?_eq_getElem hjz] at hu
    simp only [Option.map_some, Option.some.injEq] at hu
    subst hu
    rw [Addr.add_lit, e] at hcj
    exact ⟨ab, ao, rfl, block_lt hcj, hcj⟩
theorem open_paths {base : Nat} {v : Value} {d : DataW H} {p : List MemPlace} (hval : Value.okWide Try.prog W .any base 35 v) (h : DataW.Trod enc Try.prog W 0 (fun _ => true) true 35 v d p) :
    ∃ (A : Option Addr) (n c : Nat) (l : List Cf), v = .slice A n c ∧ PRow W W.heap.size A n l ∧ n ≤ c ∧ c ≤ maxLen := by
  obtain ⟨a1, ln, cap, rfl⟩ := okWide_slice Try.underlying35 hval
  obtain ⟨fuel, hf⟩ := h
  rcases DataW.trod_slice Try.underlying35 hf with ⟨hcs, _⟩ | ⟨a, len, cap', elems, rest, n, hfu, hcs, hx, _, hl, hm, hlen, hel, _, _⟩
  · simp [Value.cells] at hcs
    obtain ⟨rfl, rfl, rfl⟩ := hcs
    exact ⟨none, 0, 0, [], rfl, ⟨rfl, fun j x h => by simp at h, fun x h => by cases h⟩, Nat.le_refl _, Nat.zero_le _⟩
  · simp [Value.cells] at hcs
    obtain ⟨rfl, rfl, rfl⟩ := hcs
    rw [cells_strs] at hel
    have one : ∀ i, i < ln → ∃ x : Cf, W.cell? (a.add i) = some (.slice x.A x.n x.c) ∧ SeesV W W.heap.size x.A x.n (x.p.map Value.string) ∧ x.n ≤ x.c ∧ x.c ≤ maxLen := by
      intro i hi
      have he := hel i hi
      rw [List.getElem?_eq_getElem (by omega)] at he
      obtain ⟨cs', hc, ht⟩ := Option.bind_eq_some_iff.1 he
      obtain ⟨_, hcl, hat⟩ := World.cells?_some hc
      match cs', hcl with
      | [v0], _ =>
        obtain ⟨A', n', c', l', h1, h2, h3, h4⟩ := strs_of ht
        have e0 : v0 = .slice A' n' c' := by simpa using h1
        have c0 := hat 0 (by omega)
        rw [addr_add] at c0
        subst e0
        exact ⟨⟨A', n', c', l', 0⟩, by simpa using c0, h2, h3, h4⟩
    obtain ⟨l, hll, hp⟩ := list_of ln one
    refine ⟨some a, ln, cap, l, rfl, ⟨hll.symm, fun j x hx => ?_, fun x hx => ?_⟩, hl, hm⟩
    · have hc := (hp j x hx).1
      have hjl : j < l.length := (List.getElem?_eq_some_iff.1 hx).1
      have hsp := plain_addr (hp 0 _ (List.getElem?_eq_getElem (by omega))).1
      obtain ⟨ab, ao, sp⟩ := a
      simp only at hsp
      subst hsp
      rw [Addr.add_lit] at hc
      exact ⟨ab, ao, rfl, block_lt hc, hc⟩
    · obtain ⟨j, hj⟩ := List.getElem?_of_mem hx
      exact (hp j x hj).2
end

/-- No text of a path holds a line's end. -/
theorem dig16_no : ∀ d, d < 16 → dig16 d ≠ 10 := by decide
theorem quoL_no (l : Bs) : ∀ u ∈ quoL l, u ≠ 10 := by
  intro u hu
  obtain ⟨c, _, hc⟩ := List.mem_flatMap.1 hu
  rcases quoB_sorts c with ⟨e, h⟩ | ⟨a, b, ha, hb, _, e⟩ | ⟨e, _, _, h, _⟩
  · rw [e] at hc
    simp only [List.mem_cons, List.not_mem_nil, or_false] at hc
    rcases hc with rfl | rfl
    · decide
    · rcases h with rfl | rfl <;> decide
  · rw [e] at hc
    simp only [List.mem_cons, List.not_mem_nil, or_false] at hc
    rcases hc with rfl | rfl | rfl | rfl
    · decide
    · decide
    · exact dig16_no a ha
    · exact dig16_no b hb
  · rw [e] at hc
    simp only [List.mem_cons, List.not_mem_nil, or_false] at hc
    subst hc
    rintro rfl
    simp at h
theorem pathT_no (p : List ByteArray) : ∀ u ∈ pathT p, u ≠ 10 := by
  induction p with
  | nil => intro u hu; cases hu
  | cons s p ih =>
    intro u hu
    rw [pathT_cons] at hu
    simp only [List.mem_cons, List.mem_append] at hu
    rcases hu with rfl | rfl | hu | rfl | hu
    · decide
    · decide
    · exact quoL_no _ u hu
    · decide
    · exact ih u hu
theorem pathL_no (p : List ByteArray) : ∀ u ∈ pathL p, u ≠ 10 := by
  cases p with
  | nil => intro u hu; simp only [pathL, List.mem_cons, List.not_mem_nil, or_false] at hu; subst hu; decide
  | cons s p => exact pathT_no (s :: p)
theorem count_no {l : Bs} (h : ∀ u ∈ l, u ≠ 10) : l.count 10 = 0 := List.count_eq_zero.2 fun hm => h _ hm rfl
theorem line_count (x : Cf) : x.line.count 10 = 1 := by
  have hw : x.word.count 10 = 0 := by
    unfold Cf.word
    split
    · decide
    · split <;> decide
  rw [Cf.line, List.count_append, hw, List.count_cons, List.count_append, count_no (pathL_no x.p)]
  decide
theorem lines_count (l : List Cf) : (linesT l).count 10 = l.length := by
  induction l with
  | nil => rfl
  | cons x l ih =>
    simp only [linesT, List.flatMap_cons] at ih ⊢
    rw [List.count_append, line_count, ih, List.length_cons]
    omega

theorem elem_cf : Elem Try.prog 37 39 (.agg #[.slice none 0 0, .int .i64 0]) 2 32 := ⟨Try.underlying37, by kernel_rfl, rfl, by omega⟩
theorem cf_one (l : List Cf) : ∀ u ∈ cfCells l, u.oneCell' = true := by
  intro u hu
  simp only [cfCells, List.mem_flatMap, Cf.cells, List.mem_cons, List.not_mem_nil, or_false] at hu
  obtain ⟨x, _, rfl | rfl⟩ := hu <;> rfl
theorem cfCells_app (l m : List Cf) : cfCells (l ++ m) = cfCells l ++ cfCells m := by simp [cfCells]
theorem src_cf {W : World} {g : Nat} {x : Cf} (h : W.heap[g]? = some (.cells #[.slice x.A x.n x.c, .int .i64 x.k] 39 (0, 0))) : Src Try.prog 2 37 (.slice (some ⟨g, 0, none⟩) 1 1) 1 (cfCells [x]) W :=
  Src.laid Try.underlying37 rfl (fun j u hu => by rw [cell_of_row _ _ _ _ _ _ h, Nat.zero_add, ← hu]; simp [cfCells, Cf.cells]) (cf_one _)
/-- What the loop over the paths keeps. -/
structure TxI (w wr : World) (A : Option Addr) (N c : Nat) (l : List Cf) (k : Nat) (L : List Cf) : Prop where
  own : wr.ownsRow w.heap.size 39 2 (.slice A N c) N (cfCells L)
  below : Below w.heap.size w wr
  len : L.length = k
  path : ∀ x ∈ L, SeesV w w.heap.size x.A x.n (x.p.map Value.string) ∧ bulk x.p ≤ 732
theorem TxI.row {w wr : World} {A : Option Addr} {N c k : Nat} {l L : List Cf} (h : TxI w wr A N c l k L) : CfRow wr wr.heap.size A N L := by
  have hl := h.own.1
  rw [cfCells_len] at hl
  refine ⟨by omega, fun j x hx => ?_, fun x hx => ⟨?_, Nat.le_trans (h.path x hx).2 (by decide)⟩⟩
  · have hj := (List.getElem?_eq_some_iff.1 hx).1
    obtain ⟨h1, h2⟩ := cfCells_at hx
    rcases h.own.2 with ⟨e1, hn0⟩ | ⟨g, cap, cur, e1, _, hh, _⟩
    · omega
    · injection e1 with e1 e2 e3
      subst e1
      have c1 := rowCells h.own _ _ h1
      have c2 := rowCells h.own _ _ h2
      rw [Addr.add_lit] at c1 c2
      exact ⟨g, 0, rfl, (Array.getElem?_eq_some_iff.1 hh).1, c1, by rw [Nat.add_assoc]; exact c2⟩
  · exact seesV_more ((h.path x hx).1.below h.below) h.below.size
end Go.Proofs.Ytclgemkdlgpekaa.Re
