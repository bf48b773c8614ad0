/- CodeFails: the first error stays, and behind it nothing is read. -/
import Derived.Test.YtfnenafdmpihaaaFace
namespace Go.Proofs.Ytfnenafdmpihaaa
open Go.RowKit

set_option maxHeartbeats 1000000 in
theorem fails_far (A : Option Addr) (n c : Nat) (a b : Int) (w : World) (h1 : 100 < n) (hn : n ≤ maxLen) :
    Calls Try.prog 6 #[.slice A n c, .int .i64 a, .int .i64 b] w fun e w' => e = .returned (.bool true) ∧ Below w.heap.size w w' := by
  unfold maxLen at hn
  go_enter Try.func6, Try.ntmps6
  go_wp2_with fail
  refine (known_any w).mono ?_
  rintro e w1 ⟨rfl, hb1⟩
  go_wp2_with fail
  go_ret
  exact ⟨rfl, hb1⟩

set_option maxHeartbeats 4000000 in
theorem fails_near (A : Option Addr) (n c : Nat) (l : List UInt8) (a b : Int) (w : World) (hs : Sees w w.heap.size A n l) (h1 : n ≤ 100) (ha : (Lit.int .i64 a).wf = true) (hb : (Lit.int .i64 b).wf = true) (x : Int) (t : Bool) (hxB : (x == 0) = t) (hnB : ((n : Int) == 0) = t)
    (HE : Hid (∀ (g : Nat) (w : World), Rds w g l 0 → Calls Try.prog 29 #[.pointer (some ⟨g, 0, none⟩)] w fun en w' => en = .returned (.int .i64 x) ∧ w = w')) :
    Calls Try.prog 6 #[.slice A n c, .int .i64 a, .int .i64 b] w fun e w' => e = .returned (.bool true) ∧ Below w.heap.size w w' := by
  have HA := Lib.hid ha
  have HB := Lib.hid hb
  clear ha hb
  have h1' : ¬ 100 < n := by omega
  go_enter Try.func6, Try.ntmps6
  go_wp2_with fail
  refine (known_any w).mono ?_
  rintro e w1 ⟨rfl, hb1⟩
  go_wp2_with fail
  refine (within_any a 22 (by omega) (by omega) HA.out _).mono ?_
  rintro e w' ⟨rfl, rfl⟩
  have ha1 : 0 ≤ a % 22 := by omega
  have ha2 : a % 22 < 22 := by omega
  generalize a % 22 = E at *
  go_wp2_with fail
  refine (within_any b 22 (by omega) (by omega) HB.out _).mono ?_
  rintro e w' ⟨rfl, rfl⟩
  have hb1' : 0 ≤ b % 22 := by omega
  have hb2' : b % 22 < 22 := by omega
  generalize b % 22 = F at *
  go_wp2_with fail
  refine (new_any n c A l w1 ((hs.below hb1).more hb1.size) (by omega)).mono ?_
  rintro e w2 ⟨g, rfl, hg, hr2, hb2⟩
  go_wp2_with fail
  refine (fail_first g l 0 w2 hr2).mono ?_
  rintro e w3 ⟨rfl, hp3⟩
  have hr3 := hp3.rds
  have hb3 := hp3.below hg hb2.size
  go_wp2_with fail
  refine (HE.out g w3 hr3).mono ?_
  rintro e w' ⟨rfl, rfl⟩
  go_wp2_with fail
  refine (fail_first g l (1 + E) w3 hr3).mono ?_
  rintro e w4 ⟨rfl, hp4⟩
  have hr4 := hp4.rds
  have hb4 := hp4.below hg (Nat.le_trans hb2.size hb3.size)
  have hne : 1 + E ≠ 0 := by omega
  have Hne := Lib.hid hne
  clear hne
  go_wp2_with fail
  refine (fail_later g l (1 + F) (1 + E) w4 hr4 Hne.out).mono ?_
  rintro e w' ⟨rfl, rfl⟩
  go_wp2_with fail
  refine (int_err g l (1 + E) w4 hr4 Hne.out).mono ?_
  rintro e w5 ⟨rfl, hp5⟩
  have hr5 := hp5.rds
  have hb5 := hp5.below hg (Nat.le_trans hb2.size (Nat.le_trans hb3.size hb4.size))
  go_wp2_with fail
  refine (text_err g l (1 + E) w5 hr5 Hne.out).mono ?_
  rintro e w6 ⟨rfl, hp6⟩
  have hr6 := hp6.rds
  have hb6 := hp6.below hg (Nat.le_trans hb2.size (Nat.le_trans hb3.size (Nat.le_trans hb4.size hb5.size)))
  go_wp2_with fail
  refine (byte_err g l (1 + E) w6 hr6 Hne.out).mono ?_
  rintro e w7 ⟨rfl, hp7⟩
  have hr7 := hp7.rds
  have hb7 := hp7.below hg (Nat.le_trans hb2.size (Nat.le_trans hb3.size (Nat.le_trans hb4.size (Nat.le_trans hb5.size hb6.size))))
  go_wp2_with fail
  refine (new_any 0 0 none [] w7 (Sees.none_ _ _ _) (by omega)).mono ?_
  rintro e w8 ⟨g2, rfl, hg2, hx8, hb8⟩
  have hr8 := hr7.keep hb8
  have hgg : g < g2 := Nat.lt_of_lt_of_le hr7.lt hg2
  go_wp2_with fail
  refine (int_short g2 [] w8 hx8 (by simp)).mono ?_
  rintro e w9 ⟨rfl, hp9⟩
  have hx9 := hp9.rds
  have hr9 := hr8.far hp9.2 hgg
  have hb9 := hp9.below hg2 hb8.size
  go_wp2_with fail
  refine (fail_later g2 [] (1 + F) 8 w9 hx9 (by omega)).mono ?_
  rintro e w' ⟨rfl, rfl⟩
  go_wp2_with fail
  refine (end_some g l (1 + E) w9 hr9 Hne.out).mono ?_
  rintro e w' ⟨rfl, rfl⟩
  go_wp2_with fail
  refine (end_some g2 [] 8 w9 hx9 (by omega)).mono ?_
  rintro e w' ⟨rfl, rfl⟩
  go_wp2_with fail
  go_ret
  refine ⟨rfl, ?_⟩
  have h17 : Below w1.heap.size w1 w7 := hb2.trans (hb3.trans (hb4.trans (hb5.trans (hb6.trans hb7))))
  exact hb1.trans ((h17.trans ((hb8.trans hb9).mono h17.size)).mono hb1.size)
end Go.Proofs.Ytfnenafdmpihaaa
