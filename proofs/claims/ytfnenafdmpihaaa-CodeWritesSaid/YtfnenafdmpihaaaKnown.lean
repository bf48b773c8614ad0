/- The chapter's example (known), and within. No conditions but within's: n is not below 1. -/
import Derived.Test.YtfnenafdmpihaaaPutText
namespace Go.Proofs.Ytfnenafdmpihaaa
open Go.RowKit

theorem Own.head {w : World} {base n c : Nat} {A : Option Addr} {l : List UInt8} (h : Own w base A n c l) (hn : 0 < n) :
    ∃ g, A = some ⟨g, 0, none⟩ ∧ base ≤ g ∧ g < w.heap.size ∧ ∀ j, j < n → w.cell? ⟨g, j, none⟩ = some (.int .u8 (((l.getD j 0).toNat : Nat) : Int)) := by
  obtain ⟨g, cap, hv, hb, hlt⟩ := h.row.form hn
  injection hv with hA
  subst hA
  refine ⟨g, rfl, hb, hlt, fun j hj => ?_⟩
  obtain ⟨a, ha, _, hc⟩ := h.sees.at_ hj
  injection ha with ha
  rw [← ha, Addr.add_lit, Nat.zero_add] at hc
  exact hc

set_option maxHeartbeats 800000 in
theorem known_any (w : World) : Calls Try.prog 11 #[] w fun e w' => e = .returned (.bool true) ∧ Below w.heap.size w w' := by
  go_enter Try.func11, Try.ntmps11
  go_wp2_with fail
  refine (putInt_any none 0 0 [] (-2) w (Sees.none_ _ _ _) (by omega)).mono ?_
  rintro e w1 ⟨A, N, c, rfl, ho1, hb1⟩
  obtain rfl : N = 8 := by rw [ho1.len]; simp [leB_length]
  obtain ⟨g, rfl, hg1, hg2, hcell⟩ := ho1.head (by omega)
  have h0 : w1.cell? ⟨g, 0, none⟩ = some (.int .u8 254) := (hcell 0 (by omega)).trans (by congr 1)
  have h7 : w1.cell? ⟨g, 7, none⟩ = some (.int .u8 255) := (hcell 7 (by omega)).trans (by congr 1)
  clear hcell
  go_wp2_with fail
  refine (putText_any none 0 0 [] _ w1 (Sees.none_ _ _ _) (by omega) (by decide)).mono ?_
  rintro e w2 ⟨A2, N2, c2, rfl, ho2, hb2⟩
  obtain rfl : N2 = 4 := by rw [ho2.len]; rfl
  go_wp2_with fail
  go_ret
  exact ⟨rfl, hb1.trans (hb2.mono hb1.size)⟩

theorem tmod_pos {a n : Int} (hn : 0 < n) (h : 0 ≤ a.tmod n) : a.tmod n = a % n := by
  have h1 := Int.tmod_add_mul_tdiv a n
  have h2 := Int.tmod_lt_of_pos a hn
  conv => rhs; rw [← h1]
  rw [Int.add_mul_emod_self_left, Int.emod_eq_of_lt h h2]
theorem tmod_neg {a n : Int} (hn : 0 < n) (h : a.tmod n < 0) : a.tmod n + n = a % n := by
  have h1 := Int.tmod_add_mul_tdiv a n
  have h2 := Int.lt_tmod_of_pos a hn
  conv => rhs; rw [← h1]
  rw [Int.add_mul_emod_self_left, ← Int.add_emod_right, Int.emod_eq_of_lt (by omega) (by omega)]

set_option maxHeartbeats 400000 in
theorem within_any (a n : Int) (hn : 0 < n) (hn2 : n ≤ 2147483647) (ha : (Lit.int .i64 a).wf = true) (w : World) : Calls Try.prog 20 #[.int .i64 a, .int .i64 n] w fun e w' => e = .returned (.int .i64 (a % n)) ∧ w = w' := by
  have hx : -9223372036854775808 ≤ a ∧ a ≤ 9223372036854775807 := by simpa [Lit.wf, IntKind.min, IntKind.max, IntKind.signed, IntKind.bits] using ha
  obtain ⟨hx1, hx2⟩ := hx
  have hm1 := Int.tmod_lt_of_pos a hn
  have hm2 := Int.lt_tmod_of_pos a hn
  clear ha
  by_cases h : a.tmod n < 0
  · have Hf := Lib.hid (tmod_neg hn h)
    go_enter Try.func20, Try.ntmps20
    go_wp2
    go_ret
    exact ⟨by rw [← Hf.out]; rfl, rfl⟩
  · have Hf := Lib.hid (tmod_pos hn (by omega : 0 ≤ a.tmod n))
    go_enter Try.func20, Try.ntmps20
    go_wp2
    go_ret
    exact ⟨by rw [← Hf.out]; rfl, rfl⟩
end Go.Proofs.Ytfnenafdmpihaaa
