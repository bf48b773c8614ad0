/- vfs: what each of the laws begins with (known), and within. No conditions. -/
import Derived.Test.YtpaaafdnkehmfaaVfNames
import Derived.WalkArith
namespace Go.Proofs.Ytpaaafdnkehmfaa.Vf
open Go.RowKit
set_option maxRecDepth 100000

theorem tmod_pos {a n : Int} (hn : 0 < n) (h : 0 ≤ a.tmod n) : a.tmod n = a % n := by
  have h1 := Int.tmod_add_mul_tdiv a n
  have h2 := Int.tmod_lt_of_pos a hn
  conv => rhs; rw [← h1]
  rw [Int.add_mul_emod_self_left, Int.emod_eq_of_lt h h2]
theorem tmod_neg {a n : Int} (hn : 0 < n) (h : a.tmod n < 0) : a.tmod n + n = a % n := by
  have h1 := Int.tmod_add_mul_tdiv a n
  have h2 := Int.lt_tmod_of_pos a hn
  conv => rhs; rw [← h1]
  rw [Int.add_mul_emod_self_left, ← Int.add_emod_right, Int.emod_eq_of_lt (by omega) (by omega)]
set_option maxHeartbeats 400000 in
theorem within15_any (a n : Int) (hn : 0 < n) (hn2 : n ≤ 2147483647) (hx1 : -9223372036854775808 ≤ a) (hx2 : a ≤ 9223372036854775807) (w : World) : Calls Try.prog 13 #[.int .i64 a, .int .i64 n] w fun e w' => e = .returned (.int .i64 (a % n)) ∧ w = w' := by
  have _hx := And.intro hx1 hx2
  have hm1 := Int.tmod_lt_of_pos a hn
  have hm2 := Int.lt_tmod_of_pos a hn
  by_cases h : a.tmod n < 0
  · have Hf := Lib.hid (tmod_neg hn h)
    go_enter Try.func13, Try.ntmps13
    go_wp2
    go_ret
    exact ⟨by rw [← Hf.out]; rfl, rfl⟩
  · have Hf := Lib.hid (tmod_pos hn (by omega : 0 ≤ a.tmod n))
    go_enter Try.func13, Try.ntmps13
    go_wp2
    go_ret
    exact ⟨by rw [← Hf.out]; rfl, rfl⟩
/-- The same, with the number as one from 0 on. -/
theorem within_nat (a : Int) (m : Nat) (hm : 0 < m) (hm2 : m ≤ 2147483647) (hx1 : -9223372036854775808 ≤ a) (hx2 : a ≤ 9223372036854775807) : ∃ k : Nat, k < m ∧ (k : Int) = a % (m : Int) ∧ ∀ w : World, Calls Try.prog 13 #[.int .i64 a, .int .i64 (m : Int)] w fun e w' => e = .returned (.int .i64 (k : Int)) ∧ w = w' := by
  have h1 := Int.emod_nonneg a (show (m : Int) ≠ 0 by omega)
  have h2 := Int.emod_lt_of_pos a (show (0 : Int) < (m : Int) by omega)
  obtain ⟨k, hk⟩ : ∃ k : Nat, (k : Int) = a % (m : Int) := ⟨(a % (m : Int)).toNat, by omega⟩
  refine ⟨k, by omega, hk, fun w => ?_⟩
  rw [hk]
  exact within15_any a m (by omega) (by omega) hx1 hx2 w

theorem sees_new (w : World) (l : BS) {n : Nat} (hn : n = l.length) : Sees (w.alloc (Obj.cells (byts l).toArray 5)) (w.alloc (Obj.cells (byts l).toArray 5)).heap.size (some ⟨w.heap.size, 0, none⟩) n l :=
  ⟨hn, fun j u hu => ⟨⟨w.heap.size, 0, none⟩, rfl, by simp, by
    rw [Addr.add_lit, cell_of_row _ _ _ _ _ _ (heap_alloc_new w _)]
    simp [byts, hu]⟩⟩
theorem sti_nil (w : World) (B p : Nat) : Sti w B p none 0 [] := ⟨rfl, fun j x h => by simp at h⟩

def kV1 : Vm := ⟨[], [([97], some [1])], 100, 1, 0, false⟩
def kV2 : Vm := ⟨[], [], 100, 1, 0, false⟩
theorem kE1 : (Vm.new 100).write (⟨#[97]⟩ : ByteArray).data.toList [1] = (0, kV1) := by rfl
theorem kE2 : kV1.now.map (·.1) = [[97]] := by rfl
theorem kE3 : kV1.crash [] = kV2 := by rfl
theorem kE4 : kV2.now.map (·.1) = [] := by rfl
theorem kL1 : Lim kV1 3 := by have := (Lim.new 100).write (⟨#[97]⟩ : ByteArray).data.toList [1]; rw [kE1] at this; exact this
theorem kL2 : Lim kV2 3 := by have := kL1.crash []; rw [kE3] at this; exact this
theorem kWrite {w : World} {B p : Nat} (h : Vp w B p (Vm.new 100)) (A : Nat) (hA : A = w.heap.size) : Calls Try.prog 19 #[.pointer (some ⟨p, 0, none⟩), .string ⟨#[97]⟩, .slice (some ⟨A, 0, none⟩) 1 1] (w.alloc (Obj.cells #[.int .u8 1] 5)) (Did (.int .i64 0) kV1 B p (w.alloc (Obj.cells #[.int .u8 1] 5))) := by
  have h0 := write_any (s := ⟨#[97]⟩) (c := 1) (h.below ((Below.refl _ _).alloc (Nat.le_refl _) (Obj.cells #[.int .u8 1] 5))) (Lim.new 100) (sees_new w [1] rfl) (by decide) (by decide)
  rw [kE1] at h0
  rw [hA]
  exact h0
theorem kNames1 {w : World} {B p : Nat} (h : Vp w B p kV1) : Calls Try.prog 32 #[.pointer (some ⟨p, 0, none⟩)] w (NamesP [[97]] w) := by
  have h0 := names_any h kL1 (by decide)
  rw [kE2] at h0
  exact h0
theorem kCrash {w : World} {B p : Nat} (h : Vp w B p kV1) : Calls Try.prog 20 #[.pointer (some ⟨p, 0, none⟩), .slice none 0 0] w (Did (.tuple #[]) kV2 B p w) := by
  have h0 := crash_any (ck := 0) h kL1 (by decide) (sti_nil w B p)
  rw [kE3] at h0
  exact h0
theorem kNames2 {w : World} {B p : Nat} (h : Vp w B p kV2) : Calls Try.prog 32 #[.pointer (some ⟨p, 0, none⟩)] w (NamesP [] w) := by
  have h0 := names_any h kL2 (by decide)
  rw [kE4] at h0
  exact h0
theorem kRoom {w : World} {B p : Nat} (h : Vp w B p kV2) : Calls Try.prog 36 #[.pointer (some ⟨p, 0, none⟩)] w fun e w' => e = .returned (.int .i64 100) ∧ w = w' := room_any h

set_option maxHeartbeats 2000000 in
theorem known_any (w : World) : Calls Try.prog 11 #[] w fun e w' => e = .returned (.bool true) ∧ Below w.heap.size w w' := by
  go_enter Try.func11, Try.ntmps11
  go_wp2_with (first
    | (go_at_call 14; (with_reducible refine (new_any _ _).mono ?_); rintro e W1 ⟨rfl, hbx1, hb1, hz1⟩; have hv1 := Vp.fresh (B := w.heap.size + 1) hbx1 (Nat.lt_succ_self _) (by rw [hz1]; exact Nat.le_refl _); have HV1 := Lib.hid hv1; have HB1 := Lib.hid hb1; have HZ1 := Lib.hid hz1; clear hv1 hb1 hz1 hbx1)
    | (go_at_call 19; (with_reducible refine (kWrite HV1.out _ rfl).mono ?_); rintro e W2 ⟨rfl, hv2, hm2⟩; have HV2 := Lib.hid hv2; have HM2 := Lib.hid hm2; clear hv2 hm2)
    | (go_at_call 32; (with_reducible refine (kNames1 HV2.out).mono ?_); rintro e W3 ⟨A3, c3, rfl, ho3, hb3⟩; have HV3 := Lib.hid (HV2.out.below hb3); have HB3 := Lib.hid hb3; clear ho3 hb3)
    | (go_at_call 20; (with_reducible refine (kCrash HV3.out).mono ?_); rintro e W4 ⟨rfl, hv4, hm4⟩; have HV4 := Lib.hid hv4; have HM4 := Lib.hid hm4; clear hv4 hm4)
    | (go_at_call 32; (with_reducible refine (kNames2 HV4.out).mono ?_); rintro e W5 ⟨A5, c5, rfl, ho5, hb5⟩; have HV5 := Lib.hid (HV4.out.below hb5); have HB5 := Lib.hid hb5; clear ho5 hb5)
    | (go_at_call 36; (with_reducible refine (kRoom HV5.out).mono ?_); rintro e W6 ⟨rfl, rfl⟩))
  go_ret
  have hm : Mo (w.heap.size + 1) w.heap.size W1 W5 := ((((Mo.of ((Below.refl _ _).alloc (Nat.le_refl _) _)).trans HM2.out).trans (Mo.of HB3.out)).trans HM4.out).trans (Mo.of HB5.out)
  exact ⟨rfl, HB1.out.trans (hm.below (by omega) (Nat.le_refl _) HB1.out.size)⟩
end Go.Proofs.Ytpaaafdnkehmfaa.Vf
