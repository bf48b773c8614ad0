/- Numbers from 0 to n - 1 (within of the law); a leaf beside others. Conditions: n is not below 1. -/
import Derived.Test.YtclgemkdlgpekaaTree
import Derived.WalkArith
import Derived.LoopTactic
namespace Go.Proofs.Ytclgemkdlgpekaa
open Go.RowKit
set_option maxRecDepth 100000

/-- A leaf beside others, from its cells. -/
theorem Holds.leaf {w : World} {B b o n : Nat} {s : ByteArray} {r : Tr} (hb : b < B) (h0 : w.cell? ⟨b, o, none⟩ = some (.string s)) (h1 : w.cell? ⟨b, o + 1, none⟩ = some (.slice none 0 0)) (hr : Holds w B (some ⟨b, o + 2, none⟩) n r) : Holds w B (some ⟨b, o, none⟩) (n + 1) (.cons s .nil r) :=
  ⟨b, o, rfl, hb, h0, ⟨none, 0, 0, h1, Nat.le_refl _, Nat.zero_le _, rfl⟩, n, rfl, hr⟩
theorem tmod_pos {a n : Int} (hn : 0 < n) (h : 0 ≤ a.tmod n) : a.tmod n = a % n := by
  have h1 := Int.tmod_add_mul_tdiv a n
  have h2 := Int.tmod_lt_of_pos a hn
  conv => rhs; rw [← h1]
  rw [Int.add_mul_emod_self_left, Int.emod_eq_of_lt h h2]
theorem tmod_neg {a n : Int} (hn : 0 < n) (h : a.tmod n < 0) : a.tmod n + n = a % n := by
  have h1 := Int.tmod_add_mul_tdiv a n
  have h2 := Int.lt_tmod_of_pos a hn
  conv => rhs; rw [← h1]
  rw [Int.add_mul_emod_self_left, ← Int.add_emod_right, Int.emod_eq_of_lt (by omega) (by omega)]

set_option maxHeartbeats 400000 in
theorem within14_any (a n : Int) (hn : 0 < n) (hn2 : n ≤ 2147483647) (ha : (Lit.int .i64 a).wf = true) (w : World) : Calls Try.prog 14 #[.int .i64 a, .int .i64 n] w fun e w' => e = .returned (.int .i64 (a % n)) ∧ w = w' := by
  have hx : -9223372036854775808 ≤ a ∧ a ≤ 9223372036854775807 := by simpa [Lit.wf, IntKind.min, IntKind.max, IntKind.signed, IntKind.bits] using ha
  obtain ⟨hx1, hx2⟩ := hx
  have hm1 := Int.tmod_lt_of_pos a hn
  have hm2 := Int.lt_tmod_of_pos a hn
  clear ha
  by_cases h : a.tmod n < 0
  · have Hf := Lib.hid (tmod_neg hn h)
    go_enter Try.func14, Try.ntmps14
    go_wp2
    go_ret
    exact ⟨by rw [← Hf.out]; rfl, rfl⟩
  · have Hf := Lib.hid (tmod_pos hn (by omega : 0 ≤ a.tmod n))
    go_enter Try.func14, Try.ntmps14
    go_wp2
    go_ret
    exact ⟨by rw [← Hf.out]; rfl, rfl⟩
end Go.Proofs.Ytclgemkdlgpekaa
