/- A number within a bound; the text of pieces; whether the example holds. No conditions but that a row has at most 2^40 numbers. -/
import Derived.Test.YtcnadiddgllejaaDoorLiSplit
import Derived.Deep.LoopGhost
import Derived.BigQuiet
import Derived.Deep.QuietTactic
import Derived.IntWalk
namespace Go.Proofs.YtcnadiddgllejaaDoor.Li
open Go.RowKit
set_option maxRecDepth 100000

theorem tmod_pos5 {a n : Int} (hn : 0 < n) (h : 0 ≤ a.tmod n) : a.tmod n = a % n := by
  have h1 := Int.tmod_add_mul_tdiv a n
  have h2 := Int.tmod_lt_of_pos a hn
  conv => rhs; rw [← h1]
  rw [Int.add_mul_emod_self_left, Int.emod_eq_of_lt h h2]
theorem tmod_neg5 {a n : Int} (hn : 0 < n) (h : a.tmod n < 0) : a.tmod n + n = a % n := by
  have h1 := Int.tmod_add_mul_tdiv a n
  have h2 := Int.lt_tmod_of_pos a hn
  conv => rhs; rw [← h1]
  rw [Int.add_mul_emod_self_left, ← Int.add_emod_right, Int.emod_eq_of_lt (by omega) (by omega)]
set_option maxHeartbeats 400000 in
theorem within_any (a n : Int) (hn : 0 < n) (hn2 : n ≤ 2147483647) (ha : -9223372036854775808 ≤ a ∧ a ≤ 9223372036854775807) (w : World) : Calls Tryd.prog 9 #[.int .i64 a, .int .i64 n] w fun e w' => e = .returned (.int .i64 (a % n)) ∧ w = w' := by
  obtain ⟨hx1, hx2⟩ := ha
  have hm1 := Int.tmod_lt_of_pos a hn
  have hm2 := Int.lt_tmod_of_pos a hn
  by_cases h : a.tmod n < 0
  · have Hf := Lib.hid (tmod_neg5 hn h)
    go_enter Tryd.func9, Tryd.ntmps9
    go_wp2
    go_ret
    exact ⟨by rw [← Hf.out]; rfl, rfl⟩
  · have Hf := Lib.hid (tmod_pos5 hn (by omega : 0 ≤ a.tmod n))
    go_enter Tryd.func9, Tryd.ntmps9
    go_wp2
    go_ret
    exact ⟨by rw [← Hf.out]; rfl, rfl⟩
theorem within_nat (a : Int) (n : Nat) (hn : 0 < n) (hn2 : n ≤ 2147483647) (ha : -9223372036854775808 ≤ a ∧ a ≤ 9223372036854775807) : ∃ j : Nat, j < n ∧ ∀ w, Calls Tryd.prog 9 #[.int .i64 a, .int .i64 n] w fun e w' => e = .returned (.int .i64 j) ∧ w = w' := by
  refine ⟨(a % n).toNat, by have := Int.emod_lt_of_pos a (show (0 : Int) < n by omega); have := Int.emod_nonneg a (show (n : Int) ≠ 0 by omega); omega, fun w => ?_⟩
  rw [Int.toNat_of_nonneg (Int.emod_nonneg a (by omega))]
  exact within_any a n (by omega) (by omega) ha w

theorem SeesV.more {w : World} {B B' n : Nat} {A : Option Addr} {vs : List Value} (hB : B ≤ B') (h : SeesV w B A n vs) : SeesV w B' A n vs :=
  ⟨h.len, fun j u hu => by
    obtain ⟨b, o, ha, hb, hc⟩ := h.cell j u hu
    exact ⟨b, o, ha, Nat.lt_of_lt_of_le hb hB, hc⟩⟩
/-- A text of at most 180 bytes. -/
def Short (w : World) (e : Ending) (w' : World) : Prop := ∃ s : ByteArray, s.size ≤ 180 ∧ e = .returned (.string s) ∧ Below w.heap.size w w'
def pieces : Array Value := #[.string ⟨#[97]⟩, .string ⟨#[98, 32, 99]⟩, .string ⟨#[32]⟩, .string ⟨#[9]⟩, .string ⟨#[10]⟩, .string ⟨#[13, 10]⟩, .string ⟨#[13]⟩, .string ⟨#[10]⟩, .string ⟨#[61]⟩, .string ⟨#[]⟩]
theorem piece (w : World) (e : TypeId) (j : Nat) (hj : j < 10) : ∃ s : ByteArray, s.size ≤ 3 ∧ (w.alloc (.cells #[.string ⟨#[97]⟩, .string ⟨#[98, 32, 99]⟩, .string ⟨#[32]⟩, .string ⟨#[9]⟩, .string ⟨#[10]⟩, .string ⟨#[13, 10]⟩, .string ⟨#[13]⟩, .string ⟨#[10]⟩, .string ⟨#[61]⟩, .string ⟨#[]⟩] e)).cell? ⟨w.heap.size, j, none⟩ = some (.string s) := by
  have hc := fun j => cell_of_row _ _ j _ _ _ (heap_alloc_new w (.cells #[.string ⟨#[97]⟩, .string ⟨#[98, 32, 99]⟩, .string ⟨#[32]⟩, .string ⟨#[9]⟩, .string ⟨#[10]⟩, .string ⟨#[13, 10]⟩, .string ⟨#[13]⟩, .string ⟨#[10]⟩, .string ⟨#[61]⟩, .string ⟨#[]⟩] e))
  match j, hj with
  | 0, _ => exact ⟨_, by decide, hc 0⟩
  | 1, _ => exact ⟨_, by decide, hc 1⟩
  | 2, _ => exact ⟨_, by decide, hc 2⟩
  | 3, _ => exact ⟨_, by decide, hc 3⟩
  | 4, _ => exact ⟨_, by decide, hc 4⟩
  | 5, _ => exact ⟨_, by decide, hc 5⟩
  | 6, _ => exact ⟨_, by decide, hc 6⟩
  | 7, _ => exact ⟨_, by decide, hc 7⟩
  | 8, _ => exact ⟨_, by decide, hc 8⟩
  | 9, _ => exact ⟨_, by decide, hc 9⟩

set_option maxHeartbeats 2000000 in
theorem text_any (A : Option Addr) (n c : Nat) (l : List Int) (w : World) (h : SeesV w w.heap.size A n (l.map (Value.int .i64))) (hr : ∀ x ∈ l, -9223372036854775808 ≤ x ∧ x ≤ 9223372036854775807) (hc : n ≤ c) (_ : c ≤ maxLen) :
    Calls Tryd.prog 5 #[.slice A n c] w (Short w) := by
  go_enter Tryd.func5, Tryd.ntmps5
  go_wp2
  go_loopw [3, 4] (fun v i wr => ∃ (k : Nat) (s : ByteArray), k ≤ 60 ∧ k ≤ n ∧ i = .int .i64 k ∧ v = .string s ∧ s.size ≤ 3 * k ∧ Below w.heap.size w wr) (fun _ i _ => 60 - (intOf i).toNat)
  case atStart => exact ⟨0, ⟨#[]⟩, by omega, by omega, rfl, rfl, by decide, Below.refl _ _⟩
  case round =>
    obtain ⟨k, s, hk, hkn, rfl, rfl, hs, hw⟩ := hrel
    by_cases hlt : k < 60 ∧ k < n
    · obtain ⟨hl1, hl2⟩ := hlt
      have q1 : (k : Int) < 60 := by omega
      have q2 : (k : Int) < (n : Int) := by omega
      have q3 : (0 : Int) ≤ (k : Int) := by omega
      obtain ⟨b, o, rfl, hbB, hcell⟩ := (h.below hw).int hl2
      obtain ⟨x, hx⟩ : ∃ x, x = l.getD k 0 := ⟨_, rfl⟩
      have hxr : -9223372036854775808 ≤ x ∧ x ≤ 9223372036854775807 := by
        rw [hx]
        have hkl : k < l.length := by have := h.len; rw [List.length_map] at this; omega
        rw [List.getD_eq_getElem?_getD, List.getElem?_eq_getElem hkl]
        exact hr _ (List.getElem_mem hkl)
      rw [← hx] at hcell
      obtain ⟨j, hj, HJ'⟩ := within_nat x 10 (by omega) (by omega) hxr
      have HJ : Hid (∀ w, Calls Tryd.prog 9 #[.int .i64 x, .int .i64 10] w fun e w' => e = .returned (.int .i64 j) ∧ w = w') := Lib.hid HJ'
      obtain ⟨y, hy, hyc⟩ := piece wr 9 j hj
      have hadd := fun W => run_string_add_sum (P := Tryd.prog) (w := W) s y (by omega)
      have hsz : (s ++ y).size = s.size + y.size := ByteArray.size_append
      have hjI : (j : Int) < 10 := by omega
      have hj0 : (0 : Int) ≤ (j : Int) := by omega
      have hlb : b < wr.heap.size := by have := hw.size; omega
      have HW := Lib.hid hw
      have HZ := Lib.hid hsz
      clear HJ' hx h hw hsz hr
      go_wp2_with fail
      (with_reducible refine (HJ.out _).mono ?_)
      rintro e w2 ⟨rfl, rfl⟩
      go_wp2_with fail
      go_roundw
      case rel => exact ⟨k + 1, s ++ y, by omega, by omega, by go_num, rfl, by have := HZ.out; omega, HW.out.alloc HW.out.size _⟩
      case measure => simp [intOf]; omega
    · have hl : k = 60 ∨ k = n := by omega
      rcases hl with rfl | rfl
      · go_wp2_with fail
        all_goals
          go_ret
          exact ⟨s, by omega, rfl, hw⟩
      · by_cases h60 : k < 60
        · have q4 : ¬ (k : Int) < (k : Int) := by omega
          go_wp2_with fail
          go_ret
          exact ⟨s, by omega, rfl, hw⟩
        · have q4 : ¬ (k : Int) < (k : Int) := by omega
          go_wp2_with fail
          go_ret
          exact ⟨s, by omega, rfl, hw⟩

set_option maxHeartbeats 1000000 in
theorem known_any (w : World) : Calls Tryd.prog 4 #[] w fun e w' => e = .returned (.bool true) ∧ Below w.heap.size w w' := by
  have HC := Lib.hid (fun W => split_any ⟨#[97]⟩ W (by decide))
  go_enter Tryd.func4, Tryd.ntmps4
  go_wp2_with fail
  (with_reducible refine (HC.out _).mono ?_)
  rintro e w1 ⟨A, c, rfl, ho, hb⟩
  have hs := ho.sees
  obtain ⟨b, o, rfl, hbB, hc1, hc2⟩ := hs.at_ (j := 0) (x := ([97], [])) rfl
  have d1 : w1.cell? ⟨b, o, none⟩ = some (.string ⟨#[97]⟩) := hc1
  have d2 : w1.cell? ⟨b, o + 1, none⟩ = some (.string ⟨#[]⟩) := hc2
  have hl : (split [97]).length = 1 := rfl
  clear hc1 hc2 hs ho
  go_wp2_with fail
  go_ret
  exact ⟨rfl, hb⟩
end Go.Proofs.YtcnadiddgllejaaDoor.Li
