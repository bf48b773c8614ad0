/- report.Text and the reference's. Conditions: paths of at most 2^20 bytes together. -/
import Derived.Test.YtclgemkdlgpekaaReLaw
namespace Go.Proofs.Ytclgemkdlgpekaa.Re
open Go.RowKit Go.Proofs.Ytclgemkdlgpekaa.Li
set_option maxRecDepth 100000

/-- A conflict as it lies: its path's slice, its names, its kind. -/
structure Cf where
  A : Option Addr
  n : Nat
  c : Nat
  p : List ByteArray
  k : Int
def Cf.cells (x : Cf) : List Value := [.slice x.A x.n x.c, .int .i64 x.k]
def cfCells (l : List Cf) : List Value := l.flatMap Cf.cells
def Cf.word (x : Cf) : Bs := if x.k = 1 then [103, 111, 110, 101] else if x.k = 2 then [115, 104, 97, 112, 101] else [119, 104, 97, 116]
def Cf.line (x : Cf) : Bs := x.word ++ 32 :: (pathL x.p ++ [10])
def linesT (l : List Cf) : Bs := l.flatMap Cf.line
theorem linesT_snoc (l : List Cf) (x : Cf) : linesT (l ++ [x]) = linesT l ++ x.line := by simp [linesT]
theorem cfCells_len (l : List Cf) : (cfCells l).length = l.length * 2 := by
  induction l with
  | nil => rfl
  | cons x l ih => simp only [cfCells, List.flatMap_cons, List.length_append, List.length_cons] at ih ⊢; rw [ih]; simp [Cf.cells]; omega
theorem cfCells_at : ∀ {l : List Cf} {j : Nat} {x : Cf}, l[j]? = some x → (cfCells l)[j * 2]? = some (.slice x.A x.n x.c) ∧ (cfCells l)[j * 2 + 1]? = some (.int .i64 x.k)
  | [], j, x, h => by simp at h
  | y :: l, 0, x, h => by
    simp only [List.getElem?_cons_zero, Option.some.injEq] at h
    subst h
    exact ⟨rfl, rfl⟩
  | y :: l, j + 1, x, h => by
    simp only [List.getElem?_cons_succ] at h
    have := cfCells_at h
    rw [show (j + 1) * 2 = j * 2 + 1 + 1 by omega]
    exact this
/-- A row of conflicts below B, the paths too; each path small. -/
structure CfRow (w : World) (B : Nat) (A : Option Addr) (n : Nat) (l : List Cf) : Prop where
  len : n = l.length
  cell : ∀ (j : Nat) (x : Cf), l[j]? = some x → ∃ b o, A = some ⟨b, o, none⟩ ∧ b < B ∧ w.cell? ⟨b, o + j * 2, none⟩ = some (.slice x.A x.n x.c) ∧ w.cell? ⟨b, o + j * 2 + 1, none⟩ = some (.int .i64 x.k)
  path : ∀ x ∈ l, SeesV w B x.A x.n (x.p.map Value.string) ∧ bulk x.p ≤ 1048576
theorem CfRow.keep {w w' : World} {B n : Nat} {A : Option Addr} {l : List Cf} (h : CfRow w B A n l) (hk : ∀ p : Addr, p.block < B → w'.cell? p = w.cell? p) : CfRow w' B A n l :=
  ⟨h.len, fun j x hx => by
    obtain ⟨b, o, e, hb, h1, h2⟩ := h.cell j x hx
    exact ⟨b, o, e, hb, (hk _ hb).trans h1, (hk _ hb).trans h2⟩, fun x hx => ⟨(h.path x hx).1.keep hk, (h.path x hx).2⟩⟩
theorem CfRow.below {w w' : World} {B n : Nat} {A : Option Addr} {l : List Cf} (h : CfRow w B A n l) (hb : Below B w w') : CfRow w' B A n l := h.keep fun _ hp => hb.cell hp

set_option maxHeartbeats 400000 in
theorem word_any (x : Cf) (w : World) : Calls Try.prog 25 #[.int .i64 x.k] w fun e w' => e = .returned (.string (mkB x.word)) ∧ w = w' := by
  by_cases h1 : x.k = 1
  · have hw : x.word = [103, 111, 110, 101] := by rw [Cf.word, if_pos h1]
    rw [hw, h1]
    clear hw
    go_enter Try.func25, Try.ntmps25
    go_wp2_with fail
    go_ret
    exact ⟨rfl, rfl⟩
  · by_cases h2 : x.k = 2
    · have hw : x.word = [115, 104, 97, 112, 101] := by rw [Cf.word, if_neg h1, if_pos h2]
      rw [hw, h2]
      clear hw h1
      go_enter Try.func25, Try.ntmps25
      go_wp2_with fail
      go_ret
      exact ⟨rfl, rfl⟩
    · have hw : x.word = [119, 104, 97, 116] := by rw [Cf.word, if_neg h1, if_neg h2]
      have e1 : (x.k == 1) = false := by rw [beq_eq_false_iff_ne]; exact h1
      have e2 : (x.k == 2) = false := by rw [beq_eq_false_iff_ne]; exact h2
      rw [hw]
      clear hw h1 h2
      go_enter Try.func25, Try.ntmps25
      go_wp2_with fail
      go_ret
      exact ⟨rfl, rfl⟩
theorem word_len (x : Cf) : x.word.length ≤ 5 := by
  unfold Cf.word
  split
  · decide
  · split <;> decide
theorem line_len (x : Cf) : x.line.length ≤ 8 + 4 * bulk x.p := by
  have h1 := word_len x
  have h2 := pathL_len x.p
  simp only [Cf.line, List.length_append, List.length_cons, List.length_nil]
  omega
theorem linesT_len {l : List Cf} (h : ∀ x ∈ l, bulk x.p ≤ 1048576) : (linesT l).length ≤ 4194312 * l.length := by
  induction l with
  | nil => exact Nat.le_refl _
  | cons x l ih =>
    have h1 := line_len x
    have h2 := h x (List.mem_cons_self ..)
    have h3 := ih fun y hy => h y (List.mem_cons_of_mem _ hy)
    simp only [linesT, List.flatMap_cons, List.length_append, List.length_cons] at h3 ⊢
    omega
theorem lines_step {l : List Cf} {k : Nat} {x : Cf} (h : l[k]? = some x) : linesT (l.take (k + 1)) = linesT (l.take k) ++ x.line := by
  obtain ⟨hk, e⟩ := List.getElem?_eq_some_iff.1 h
  rw [List.take_succ_eq_append_getElem hk, linesT_snoc, e]

set_option maxHeartbeats 4000000 in
theorem text_cf (l : List Cf) (A : Option Addr) (n c : Nat) (w : World) (h : CfRow w w.heap.size A n l) (hn : n ≤ 1000) :
    Calls Try.prog 16 #[.slice A n c] w fun e w' => e = .returned (.string (mkB (linesT l))) ∧ Below w.heap.size w w' := by
  have HL := Lib.hid h.len
  have Hh := Lib.hid h
  clear h
  go_enter Try.func16, Try.ntmps16
  go_wp2_with fail
  go_loopw [8] (fun i wr => ∃ k : Nat, k ≤ n ∧ i = .int .i64 k ∧ Bld w.heap.size w.heap.size (linesT (l.take k)) wr ∧ Below w.heap.size w wr) (fun i _ => n - (intOf i).toNat)
  case atStart => exact ⟨0, Nat.zero_le _, rfl, Lib.fresh_isBuilder 48 5 w, (Below.refl _ _).alloc (Nat.le_refl _) _⟩
  case round =>
    obtain ⟨k, hk, rfl, hb, hw⟩ := hrel
    have hw1 := hw.size
    by_cases hlt : k < n
    · have q0 : (k : Int) < (n : Int) := by omega
      have q1 : (0 : Int) ≤ (k : Int) := by omega
      obtain ⟨x, hx⟩ : ∃ x, l[k]? = some x := ⟨_, List.getElem?_eq_getElem (by have := HL.out; omega)⟩
      obtain ⟨b, o, hA, hbl, hc1, hc2⟩ := (Hh.out.below hw).cell k x hx
      obtain ⟨hsx, hbk⟩ := (Hh.out.below hw).path x (List.mem_of_getElem? hx)
      have hll := linesT_len (l := l.take k) (fun y hy => (Hh.out.path y (List.mem_of_mem_take hy)).2)
      rw [List.length_take] at hll
      have hwl := word_len x
      have hpl := pathL_len x.p
      obtain ⟨W1, hW1⟩ : ∃ W1, W1 = wr.alloc (Obj.cells #[.slice x.A x.n x.c, .int .i64 x.k] 39) := ⟨_, rfl⟩
      have hg1 : W1.heap[wr.heap.size]? = some (.cells #[.slice x.A x.n x.c, .int .i64 x.k] 39 (0, 0)) := by rw [hW1]; exact heap_alloc_new wr _
      have hb1 : Below wr.heap.size wr W1 := by rw [hW1]; exact (Below.refl _ _).alloc (Nat.le_refl _) _
      have hz1 : W1.heap.size = wr.heap.size + 1 := by rw [hW1]; simp
      have hwlt : w.heap.size < wr.heap.size := by rcases hb with hb | hb <;> exact hb.lt
      have HW := Lib.hid (fun (W : World) => word_any x W)
      have HP := Lib.hid (fun (W : World) (hW : Below W1.heap.size W1 W) => path_any x.p x.A x.n x.c w.heap.size W (by have := hW.size; omega) ((hsx.below (hb1.mono (by omega))).below (hW.mono (by omega))) (by omega))
      obtain ⟨X0, hX0⟩ : ∃ X : ByteArray, X = mkB x.word := ⟨_, rfl⟩
      obtain ⟨X1, hX1⟩ : ∃ X : ByteArray, X = mkB (pathL x.p) := ⟨_, rfl⟩
      rw [← hX0] at HW
      rw [← hX1] at HP
      have z0 : X0.size ≤ 5 := by rw [hX0, size_mk]; exact hwl
      have z1 : X1.size ≤ 4194305 := by rw [hX1, size_mk]; omega
      have hadd1 := fun W => run_string_add_sum (P := Try.prog) W X0 ⟨#[32]⟩ (by have : (ByteArray.mk #[32]).size = 1 := rfl; omega)
      obtain ⟨X2, hX2⟩ : ∃ X, X = X0 ++ ⟨#[32]⟩ := ⟨_, rfl⟩
      rw [← hX2] at hadd1
      have z2 : X2.size ≤ 6 := by rw [hX2, ByteArray.size_append]; have : (ByteArray.mk #[32]).size = 1 := rfl; omega
      have hadd2 := fun W => run_string_add_sum (P := Try.prog) W X2 X1 (by omega)
      obtain ⟨X3, hX3⟩ : ∃ X, X = X2 ++ X1 := ⟨_, rfl⟩
      rw [← hX3] at hadd2
      have z3 : X3.size ≤ 4194311 := by rw [hX3, ByteArray.size_append]; omega
      have hadd3 := fun W => run_string_add_sum (P := Try.prog) W X3 ⟨#[10]⟩ (by have : (ByteArray.mk #[10]).size = 1 := rfl; omega)
      obtain ⟨X4, hX4⟩ : ∃ X, X = X3 ++ ⟨#[10]⟩ := ⟨_, rfl⟩
      rw [← hX4] at hadd3
      have z4 : X4.size ≤ 4194312 := by rw [hX4, ByteArray.size_append]; have : (ByteArray.mk #[10]).size = 1 := rfl; omega
      have HX4 := Lib.hid (show X4.data.toList = x.line by rw [hX4, app_mk, hX3, app_mk, hX2, app_mk, hX0, hX1]; simp [Cf.line])
      have HZ4 := Lib.hid (show (linesT (l.take k)).length + X4.size ≤ 140737488355328 by omega)
      have HD := Lib.hid (hb.keep hb1)
      have hc0 : W1.cell? ⟨wr.heap.size, 0, none⟩ = some (.slice x.A x.n x.c) ∧ W1.cell? ⟨wr.heap.size, 1, none⟩ = some (.int .i64 x.k) := ⟨by rw [cell_of_row _ _ _ _ _ _ hg1]; rfl, by rw [cell_of_row _ _ _ _ _ _ hg1]; rfl⟩
      have HG := Lib.hid hg1
      have HZ1 := Lib.hid hz1
      have HST := Lib.hid (lines_step hx)
      have HB1 := Lib.hid hb1
      have HWW := Lib.hid hW1
      have Hwr := Lib.hid hw
      have hbr := Below.refl W1.heap.size W1
      subst hA
      clear hX0 hX1 hX2 hX3 hX4 z0 z1 z2 z3 z4 hll hwl hpl hbk hsx hx hb hb1 hg1 hz1 hW1 hw
      go_upto_region 5 with (fail)
      rw [← HWW.out]
      have hc0d : W1.drew.cell? ⟨wr.heap.size, 0, none⟩ = some (.slice x.A x.n x.c) ∧ W1.drew.cell? ⟨wr.heap.size, 1, none⟩ = some (.int .i64 x.k) := hc0
      go_region_held3 (fun W => W.cell? ⟨wr.heap.size, 0, none⟩ = some (.slice x.A x.n x.c) ∧ W.cell? ⟨wr.heap.size, 1, none⟩ = some (.int .i64 x.k))
        (first | with_reducible exact hc0 | with_reducible exact hc0d | with_reducible exact hc2' | with_reducible exact hc3')
        (first
          | (go_at_call 25; (with_reducible refine (HW.out _).mono ?_); rintro e _ ⟨rfl, rfl⟩)
          | (go_at_call 10; (with_reducible refine (HP.out _ (by first | exact hbr.drew | exact hbr)).mono ?_); rintro e w2 ⟨rfl, hb2⟩; have hb2' : Below W1.heap.size W1 w2 := (by first | exact hb2 | exact hbr.drew.trans hb2); have hg2 := (hb2'.block _ (Array.getElem?_eq_some_iff.1 HG.out).1).trans HG.out; have hc2' : w2.cell? ⟨wr.heap.size, 0, none⟩ = some (.slice x.A x.n x.c) ∧ w2.cell? ⟨wr.heap.size, 1, none⟩ = some (.int .i64 x.k) := ⟨by rw [cell_of_row _ _ _ _ _ _ hg2]; rfl, by rw [cell_of_row _ _ _ _ _ _ hg2]; rfl⟩; have HD2 := Lib.hid (HD.out.keep hb2'))
          | (go_at_call 20; (with_reducible refine (write_any w.heap.size w.heap.size (linesT (l.take k)) X4 w2 HD2.out HZ4.out (by have := hb2'.size; have := HZ1.out; omega)).mono ?_); rintro e w3 ⟨rfl, hb3, hw3, ho3⟩; have hg3 := (ho3 wr.heap.size (Array.getElem?_eq_some_iff.1 hg2).1 (by omega) (fun cs fr e => by rw [hg2] at e; simp at e)).trans hg2; have hc3' : w3.cell? ⟨wr.heap.size, 0, none⟩ = some (.slice x.A x.n x.c) ∧ w3.cell? ⟨wr.heap.size, 1, none⟩ = some (.int .i64 x.k) := ⟨by rw [cell_of_row _ _ _ _ _ _ hg3]; rfl, by rw [cell_of_row _ _ _ _ _ _ hg3]; rfl⟩; have HB3 := Lib.hid hb3; clear hb3 ho3))
      all_goals
        go_wp2_with fail
        go_roundw
        case rel =>
          refine ⟨k + 1, by omega, by go_num, ?_, ?_⟩
          · rw [HST.out, ← HX4.out]
            exact HB3.out
          · exact Hwr.out.trans (((HB1.out.mono hw1).trans (hb2'.mono (by have := HZ1.out; omega))).trans hw3)
        case measure => simp [intOf]; omega
    · have hkn : (n : Int) ≤ (k : Int) := by omega
      obtain rfl : k = n := by omega
      have e : l.take k = l := List.take_of_length_le (by have := HL.out; omega)
      rw [e] at hb
      have HB := Lib.hid (Try.Builder_String_any w.heap.size w.heap.size (linesT l) wr hb hw1)
      clear e
      go_wp2_with (go_at_call 22; (with_reducible refine HB.out.mono ?_); rintro e w2 ⟨rfl, hb2⟩)
      go_ret
      exact ⟨rfl, hw.trans hb2⟩
end Go.Proofs.Ytclgemkdlgpekaa.Re
