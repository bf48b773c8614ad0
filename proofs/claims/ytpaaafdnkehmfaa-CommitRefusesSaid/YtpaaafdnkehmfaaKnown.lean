/- The chapter's example (known), and within. No conditions but within's: n is not below 1. -/
import Derived.Test.YtpaaafdnkehmfaaPutText
namespace Go.Proofs.Ytpaaafdnkehmfaa
open Go.RowKit

theorem Own.head {w : World} {base n c : Nat} {A : Option Addr} {l : List UInt8} (h : Own w base A n c l) (hn : 0 < n) :
    ∃ g, A = some ⟨g, 0, none⟩ ∧ base ≤ g ∧ g < w.heap.size ∧ ∀ j, j < n → w.cell? ⟨g, j, none⟩ = some (.int .u8 (((l.getD j 0).toNat : Nat) : Int)) := by
  obtain ⟨g, cap, hv, hb, hlt⟩ := h.row.form hn
  injection hv with hA
  subst hA
  refine ⟨g, rfl, hb, hlt, fun j hj => ?_⟩
  obtain ⟨a, ha, _, hc⟩ := h.sees.at_ hj
  injection ha with ha
  rw [← ha, Addr.add_lit, Nat.zero_add] at hc
  exact hc

set_option maxHeartbeats 800000 in
theorem tmod_pos {a n : Int} (hn : 0 < n) (h : 0 ≤ a.tmod n) : a.tmod n = a % n := by
  have h1 := Int.tmod_add_mul_tdiv a n
  have h2 := Int.tmod_lt_of_pos a hn
  conv => rhs; rw [← h1]
  rw [Int.add_mul_emod_self_left, Int.emod_eq_of_lt h h2]
theorem tmod_neg {a n : Int} (hn : 0 < n) (h : a.tmod n < 0) : a.tmod n + n = a % n := by
  have h1 := Int.tmod_add_mul_tdiv a n
  have h2 := Int.lt_tmod_of_pos a hn
  conv => rhs; rw [← h1]
  rw [Int.add_mul_emod_self_left, ← Int.add_emod_right, Int.emod_eq_of_lt (by omega) (by omega)]

end Go.Proofs.Ytpaaafdnkehmfaa
