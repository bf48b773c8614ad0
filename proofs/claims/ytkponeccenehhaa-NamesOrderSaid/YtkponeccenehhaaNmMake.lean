/- The law's within and Make: a number from 0 to n - 1; a set of at most six names. No conditions but within's: n is not below 1. -/
import Derived.Test.YtkponeccenehhaaNmOpen
import Derived.Deep.RegionLaw
namespace Go.Proofs.Ytkponeccenehhaa.Nm
open Go.RowKit
set_option maxRecDepth 100000

theorem tmod_pos {a n : Int} (hn : 0 < n) (h : 0 ≤ a.tmod n) : a.tmod n = a % n := by
  have h1 := Int.tmod_add_mul_tdiv a n
  have h2 := Int.tmod_lt_of_pos a hn
  conv => rhs; rw [← h1]
  rw [Int.add_mul_emod_self_left, Int.emod_eq_of_lt h h2]
theorem tmod_neg {a n : Int} (hn : 0 < n) (h : a.tmod n < 0) : a.tmod n + n = a % n := by
  have h1 := Int.tmod_add_mul_tdiv a n
  have h2 := Int.lt_tmod_of_pos a hn
  conv => rhs; rw [← h1]
  rw [Int.add_mul_emod_self_left, ← Int.add_emod_right, Int.emod_eq_of_lt (by omega) (by omega)]

set_option maxHeartbeats 400000 in
theorem within_any (a n : Int) (hn : 0 < n) (hn2 : n ≤ 2147483647) (ha : -9223372036854775808 ≤ a ∧ a ≤ 9223372036854775807) (w : World) : Calls Try.prog 15 #[.int .i64 a, .int .i64 n] w fun e w' => e = .returned (.int .i64 (a % n)) ∧ w = w' := by
  obtain ⟨hx1, hx2⟩ := ha
  have hm1 := Int.tmod_lt_of_pos a hn
  have hm2 := Int.lt_tmod_of_pos a hn
  by_cases h : a.tmod n < 0
  · have Hf := Lib.hid (tmod_neg hn h)
    go_enter Try.func15, Try.ntmps15
    go_wp2
    go_ret
    exact ⟨by rw [← Hf.out]; rfl, rfl⟩
  · have Hf := Lib.hid (tmod_pos hn (by omega : 0 ≤ a.tmod n))
    go_enter Try.func15, Try.ntmps15
    go_wp2
    go_ret
    exact ⟨by rw [← Hf.out]; rfl, rfl⟩
theorem within_nat (a : Int) (n : Nat) (hn : 0 < n) (hn2 : n ≤ 2147483647) (ha : -9223372036854775808 ≤ a ∧ a ≤ 9223372036854775807) : ∃ j : Nat, j < n ∧ ∀ w, Calls Try.prog 15 #[.int .i64 a, .int .i64 n] w fun e w' => e = .returned (.int .i64 j) ∧ w = w' := by
  refine ⟨(a % n).toNat, by have := Int.emod_lt_of_pos a (show (0 : Int) < n by omega); have := Int.emod_nonneg a (show (n : Int) ≠ 0 by omega); omega, fun w => ?_⟩
  rw [Int.toNat_of_nonneg (Int.emod_nonneg a (by omega))]
  exact within_any a n (by omega) (by omega) ha w

theorem src_lit2 (W : World) (g : Nat) (x : ByteArray) (hg : g = W.heap.size) : Src Try.prog 1 23 (.slice (some ⟨g, 0, none⟩) 1 1) 1 ([x.data.toList].map encs) (W.alloc (Obj.cells #[Value.string x] 9)).drew := by
  subst hg
  refine src_strs (B := W.heap.size + 1) ⟨rfl, fun j u hu => ⟨W.heap.size, 0, rfl, by omega, ?_⟩⟩
  show (W.alloc (Obj.cells #[Value.string x] 9)).cell? _ = _
  rw [cell_of_row _ _ _ _ _ _ (heap_alloc_new W _), ← hu]
  simp [encs]
theorem grown_undrew {W w4 : World} {row : Option Nat} (h : W.drew.grownBy w4 row) : W.grownBy w4 row := ⟨h.os, h.tape, h.output, h.size, h.block⟩
def Made (w : World) (e : Ending) (w' : World) : Prop := ∃ s : St, s.l.length ≤ 6 ∧ At w s e w'

set_option maxHeartbeats 4000000 in
theorem make_any (a : St) (A : Option Addr) (n c : Nat) (w : World) (h : In w a A n) (_ : n ≤ 9223372036854775807) (hl : ∀ x ∈ a.l, x.length ≤ maxLen) :
    Calls Try.prog 14 #[.agg #[.bool a.all, .slice A n c]] w (Made w) := by
  unfold maxLen at hl
  obtain ⟨W1, hW1, g0, g1, g2, gs, gb⟩ := three w (Obj.cells #[Value.bool a.all, Value.slice A n c] 25) (Obj.cells #[Value.bool false, Value.slice none 0 0] 25) (Obj.cells #[Value.bool a.all, Value.slice none 0 0] 25)
  have HH := Lib.hid h
  have HL := Lib.hid hl
  obtain ⟨x0, hx0⟩ : ∃ x, x = a.all := ⟨_, rfl⟩
  rw [← hx0] at g0 g2 hW1 ⊢
  clear hx0 h hl
  go_enter Try.func14, Try.ntmps14
  go_wp2_with fail
  rw [← hW1]
  clear hW1
  go_loopw [4] (fun i wr => ∃ (k : Nat) (R : Option Addr) (N cR : Nat) (ys : List (List UInt8)), k ≤ n ∧ k ≤ 6 ∧ N ≤ k ∧ i = .int .i64 k ∧ Cst 25 (w.heap.size + 1 + 1) W1.heap.size W1 x0 R N cR ys wr) (fun i _ => n - (intOf i).toNat)
  case atStart => exact ⟨0, none, 0, 0, [], Nat.zero_le _, Nat.zero_le _, Nat.le_refl _, rfl, fun k hk _ => rfl, Nat.le_refl _, rfl, rfl, rfl, g2, World.ownsRow_nil _ _ _ _⟩
  case round =>
    obtain ⟨k, R, N, cR, ys, hk, hk6, hNk, rfl, hC⟩ := hrel
    obtain ⟨q0, q1, _, _⟩ := box2 ((hC.keep w.heap.size (by omega) (by omega)).trans g0)
    obtain ⟨q2, q3, q4, q5⟩ := box2 ((hC.keep (w.heap.size + 1) (by omega) (by omega)).trans g1)
    obtain ⟨q6, q7, q8, q9⟩ := box2 hC.boxc
    by_cases hlt : k < n
    · by_cases hlt6 : k < 6
      · have hkl : k < a.l.length := by rw [← HH.out.len]; exact hlt
        obtain ⟨b3, o3, rfl, hb3, hc3⟩ := HH.out.sees.cell k (encs a.l[k]) (by rw [List.getElem?_map, List.getElem?_eq_getElem hkl]; rfl)
        obtain ⟨x, hx⟩ : ∃ x : ByteArray, x = ⟨a.l[k].toArray⟩ := ⟨_, rfl⟩
        have hcx : wr.cell? ⟨b3, o3 + k, none⟩ = some (.string x) := by
          rw [World.cell?_of_block (a := ⟨b3, o3 + k, none⟩) (hC.keep b3 (by omega) (by omega)), gb.cell (p := ⟨b3, o3 + k, none⟩) hb3, hc3, hx]
          rfl
        have hxs : x.size ≤ 9223372036854775807 := by
          have := HL.out a.l[k] (List.getElem_mem hkl)
          rw [hx]
          show a.l[k].toArray.size ≤ _
          simpa using this
        obtain ⟨j, hj, hwj⟩ := within_nat (x.size : Int) 5 (by omega) (by omega) (by omega)
        have HJ : Hid (∀ w, Calls Try.prog 15 #[.int .i64 (x.size : Int), .int .i64 5] w fun e w' => e = .returned (.int .i64 j) ∧ w = w') := Lib.hid hwj
        have hS := hC.size
        obtain ⟨y, hy⟩ : ∃ y : ByteArray, (wr.alloc (Obj.cells #[Value.string ⟨#[]⟩, Value.string ⟨#[97]⟩, Value.string ⟨#[98]⟩, Value.string ⟨#[99]⟩, Value.string ⟨#[100]⟩] 9)).cell? ⟨wr.heap.size, j, none⟩ = some (.string y) := by
          have hh := heap_alloc_new wr (Obj.cells #[Value.string ⟨#[]⟩, Value.string ⟨#[97]⟩, Value.string ⟨#[98]⟩, Value.string ⟨#[99]⟩, Value.string ⟨#[100]⟩] 9)
          rw [cell_of_row _ _ _ _ _ _ hh]
          match j, hj with
          | 0, _ => exact ⟨_, rfl⟩
          | 1, _ => exact ⟨_, rfl⟩
          | 2, _ => exact ⟨_, rfl⟩
          | 3, _ => exact ⟨_, rfl⟩
          | 4, _ => exact ⟨_, rfl⟩
        have hy2 : (wr.alloc (Obj.cells #[Value.string ⟨#[]⟩, Value.string ⟨#[97]⟩, Value.string ⟨#[98]⟩, Value.string ⟨#[99]⟩, Value.string ⟨#[100]⟩] 9)).drew.cell? ⟨wr.heap.size, j, none⟩ = some (.string y) := hy
        have C5 : Cst 25 (w.heap.size + 1 + 1) W1.heap.size W1 x0 R N cR ys (wr.alloc (Obj.cells #[Value.string ⟨#[]⟩, Value.string ⟨#[97]⟩, Value.string ⟨#[98]⟩, Value.string ⟨#[99]⟩, Value.string ⟨#[100]⟩] 9)) := hC.filter_skip (by omega) ((Below.refl _ _).alloc (by simp) _)
        have HC5 := Lib.hid C5
        have ho := C5.row
        have hGW : w.heap.size + 1 + 1 < W1.heap.size := by omega
        have hkn : (k : Int) < (n : Int) := by omega
        have hk66 : (k : Int) < 6 := by omega
        have hk0 : (0 : Int) ≤ (k : Int) := by omega
        have hj5 : (j : Int) < 5 := by omega
        have hj0 : (0 : Int) ≤ (j : Int) := by omega
        have hN2 : N + 1 ≤ 1099511627776 := by omega
        have hb5 : W1.heap.size ≤ wr.heap.size + 2 := by omega
        have hxl : w.heap.size < wr.heap.size := by omega
        have hxl2 : w.heap.size + 1 + 1 < wr.heap.size := by omega
        have hxl3 : w.heap.size + 1 + 1 < wr.heap.size + 1 := by omega
        have hb3l : b3 < wr.heap.size := by omega
        clear hC C5 hx hkl hc3 hwj q2 q3 q4 q5 q6
        go_wp2_with fail
        go_region_law (first
          | (refine step_append_row rfl (.tmp 20) (.tmp 31) _ _ rfl elem_s rfl rfl ((ho.alloc _).drew) (src_lit2 _ _ _ (by simp)) hN2 (by simp; omega) ?_; intro A4 c4 w4 ho4 hg4 hat4; rw [← List.map_append] at ho4; have hP := HC5.out.push hGW (grown_undrew hg4) ho4 hat4; obtain ⟨s8, s9, s10, s11⟩ := box2 hP.1; have HP := Lib.hid hP; clear hP ho4)
          | (go_simp; (with_reducible refine (HJ.out _).mono ?_); rintro e w' ⟨rfl, rfl⟩))
        all_goals
          go_wp2_with fail
          go_roundw
          case rel => exact ⟨k + 1, A4, N + 1, c4, ys ++ [y.data.toList], by omega, by omega, by omega, by go_num, HP.out.2⟩
          case measure => simp [intOf]; omega
      · have hkn : (k : Int) < (n : Int) := by omega
        have hk66 : ¬ (k : Int) < 6 := by omega
        have hk67 : (6 : Int) ≤ (k : Int) := by omega
        have HC := Lib.hid hC
        obtain ⟨hNl, _⟩ := hC.seen
        have HNl := Lib.hid hNl
        have hsz2 := hC.size
        have HW := Lib.hid (gb.trans (hC.less (B := w.heap.size) (by omega) (by omega) rfl))
        clear hC hNl
        go_wp2_with fail
        refine bodyPost_ret (v := .agg #[.bool x0, .slice R N cR]) (by simp [results, Try.results14, go_sem, q2, q3]) rfl ?_
        have hne : (Value.slice R N cR).ownBlock ≠ some (w.heap.size + 1) := fun e => by have := (HC.out.row.lt _ e).1; omega
        have h1 := (HC.out.row.kept (grown_set wr ⟨w.heap.size + 1, 0, none⟩ (Value.bool x0)) (.inr hne)).kept (grown_set _ ⟨w.heap.size + 1, 1, none⟩ (Value.slice R N cR)) (.inr hne)
        obtain rfl := HNl.out
        exact ⟨⟨x0, ys⟩, by simp only; omega, R, cR, rfl, ⟨sees_own h1⟩, (HW.out.setCell (by simp only; omega) _).setCell (by simp only; omega) _⟩
    · have hkn : ¬ (k : Int) < (n : Int) := by omega
      have hkn2 : (n : Int) ≤ (k : Int) := by omega
      have HC := Lib.hid hC
      obtain ⟨hNl, _⟩ := hC.seen
      have HNl := Lib.hid hNl
      have hsz2 := hC.size
      have HW := Lib.hid (gb.trans (hC.less (B := w.heap.size) (by omega) (by omega) rfl))
      clear hC hNl
      go_wp2_with fail
      refine bodyPost_ret (v := .agg #[.bool x0, .slice R N cR]) (by simp [results, Try.results14, go_sem, q2, q3]) rfl ?_
      have hne : (Value.slice R N cR).ownBlock ≠ some (w.heap.size + 1) := fun e => by have := (HC.out.row.lt _ e).1; omega
      have h1 := (HC.out.row.kept (grown_set wr ⟨w.heap.size + 1, 0, none⟩ (Value.bool x0)) (.inr hne)).kept (grown_set _ ⟨w.heap.size + 1, 1, none⟩ (Value.slice R N cR)) (.inr hne)
      obtain rfl := HNl.out
      exact ⟨⟨x0, ys⟩, by simp only; omega, R, cR, rfl, ⟨sees_own h1⟩, (HW.out.setCell (by simp only; omega) _).setCell (by simp only; omega) _⟩
end Go.Proofs.Ytkponeccenehhaa.Nm
