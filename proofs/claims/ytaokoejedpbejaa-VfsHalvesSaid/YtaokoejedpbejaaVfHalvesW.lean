/- VfsHalves, walked. No conditions. -/
import Derived.Test.YtaokoejedpbejaaVfOwnW
namespace Go.Proofs.Ytaokoejedpbejaa.Vf
open Go.RowKit
set_option maxRecDepth 100000

def hV1 (a : BS) : Vm := ⟨[], [([97], some a)], 1000, 1, 0, false⟩
def hV2 (a : BS) : Vm := ⟨[([97], a)], [], 1000, 2, 0, false⟩
def hV3 (a b : BS) : Vm := ⟨[([97], a)], [([97], some b)], 1000, 3, 0, false⟩
def hV4 (a b : BS) : Vm := ⟨[([97], a)], [([97], some b), ([97], none)], 1000, 4, 0, false⟩
def hV5 (a b : BS) : Vm := ⟨[([97], a)], [([97], some b), ([97], none), ([97], some b)], 1000, 5, 0, false⟩
section
variable {a b : BS}
theorem hE1 (ha : a.length ≤ 100) : (Vm.new 1000).write (⟨#[97]⟩ : ByteArray).data.toList a = (0, hV1 a) := oE1 ha
theorem hE2 : (hV1 a).flush = (0, hV2 a) := by rfl
theorem hE3 (hb : b.length ≤ 100) : (hV2 a).write (⟨#[97]⟩ : ByteArray).data.toList b = (0, hV3 a b) := by
  unfold Vm.write
  rw [if_neg (by simp [hV2]), if_neg (by decide), if_neg (by
    show ¬ (1000 : Int) < (used (wth [97] (some b) [([97], a)]) : Int)
    have : used (wth [97] (some b) [([97], a)]) = b.length := by
      show used (if ([97] : BS) < [97] then _ else _) = _
      rw [if_neg (List.lt_irrefl _)]
      simp [one, used]
    omega)]
  rfl
theorem hE4 : (hV3 a b).remove (⟨#[97]⟩ : ByteArray).data.toList = (0, hV4 a b) := by rfl
theorem hE5 (hb : b.length ≤ 100) : (hV4 a b).write (⟨#[97]⟩ : ByteArray).data.toList b = (0, hV5 a b) := by
  unfold Vm.write
  rw [if_neg (by simp [hV4]), if_neg (by decide), if_neg (by
    show ¬ (1000 : Int) < (used (wth [97] (some b) (hV4 a b).now) : Int)
    have : (hV4 a b).now = [] := by rfl
    rw [this]
    simp only [wth, one, used]; omega)]
  rfl
theorem hL1 (ha : a.length ≤ 100) : Lim (hV1 a) 200 := oL ha
theorem hL2 (ha : a.length ≤ 100) : Lim (hV2 a) 201 := by have := (hL1 ha).flush; rw [hE2] at this; exact this
theorem hL3 (ha : a.length ≤ 100) (hb : b.length ≤ 100) : Lim (hV3 a b) 401 := by
  have := ((hL2 ha).write (⟨#[97]⟩ : ByteArray).data.toList b).more (M := 401) (by show 201 + (1 + b.length + 1) ≤ 401; omega)
  rw [hE3 hb] at this; exact this
theorem hL4 (ha : a.length ≤ 100) (hb : b.length ≤ 100) : Lim (hV4 a b) 501 := by
  have := ((hL3 ha hb).remove (⟨#[97]⟩ : ByteArray).data.toList).more (M := 501) (by show 401 + (1 + 1) ≤ 501; omega)
  rw [hE4] at this; exact this
theorem hL5 (ha : a.length ≤ 100) (hb : b.length ≤ 100) : Lim (hV5 a b) 701 := by
  have := ((hL4 ha hb).write (⟨#[97]⟩ : ByteArray).data.toList b).more (M := 701) (by show 501 + (1 + b.length + 1) ≤ 701; omega)
  rw [hE5 hb] at this; exact this
end
/-- Four numbers as the law has them in a row. -/
def hx (z : Int) : Int := if z = 3 then 5 else z

theorem hRead {a b : BS} {z1 z2 : Int} (h1 : z1 = 0 ∨ z1 = 1 ∨ z1 = 2 ∨ z1 = 3) (h2 : z2 = 0 ∨ z2 = 1 ∨ z2 = 2 ∨ z2 = 3) : ((hV5 a b).crash [0, hx z2, z1]).read (⟨#[97]⟩ : ByteArray).data.toList =
    if z1 = 1 then (b, true, 0) else if z1 = 2 then (half b, true, 0) else if z2 = 1 ∨ z2 = 2 then ([], false, 0) else (a, true, 0) := by
  rcases h1 with rfl | rfl | rfl | rfl <;> rcases h2 with rfl | rfl | rfl | rfl <;> rfl
theorem hx_four {z : Int} (h : z = 0 ∨ z = 1 ∨ z = 2 ∨ z = 3) : ([0, 1, 2, 5] : List Int)[z.toNat]? = some (hx z) := by
  rcases h with rfl | rfl | rfl | rfl <;> rfl

set_option maxHeartbeats 4000000 in
theorem vfsHalves_walk (A : Option Addr) (n c : Nat) (l : BS) (A2 : Option Addr) (n2 c2 : Nat) (l2 : BS) (a : Int) (w : World) (hS : Sees w w.heap.size A n l) (hS2 : Sees w w.heap.size A2 n2 l2) (hnc2 : n2 ≤ c2) (ha : -9223372036854775808 ≤ a ∧ a ≤ 9223372036854775807) :
    Calls Try.prog 8 #[.slice A n c, .slice A2 n2 c2, .int .i64 a] w fun e w' => e = .returned (.bool true) ∧ Below w.heap.size w w' := by
  have hlen := hS.len
  have hlen2 := hS2.len
  have HS := Lib.hid hS
  have HS2 := Lib.hid hS2
  have HLen := Lib.hid hlen
  have HLen2 := Lib.hid hlen2
  obtain ⟨ha1, ha2⟩ := ha
  obtain ⟨z1, hz1, hw1⟩ := within_four a ha1 ha2
  obtain ⟨t1, t2, t3⟩ := tdiv4 ha1 ha2
  obtain ⟨z2, hz2, hw2⟩ := within_four (a.tdiv 4) t2 t3
  have HW1 := Lib.hid hw1
  have HW2 := Lib.hid hw2
  have HZ1 := Lib.hid hz1
  have HZ2 := Lib.hid hz2
  clear hS hS2 hlen hlen2 ha1 ha2 hw1 hw2 t2 t3 hz1 hz2
  by_cases h1 : 100 < n ∨ 100 < n2
  · by_cases h0 : 100 < n
    · have q1 : (100 : Int) < (n : Int) := by omega
      clear h0 h1
      go_enter Try.func8, Try.ntmps8
      go_wp2_with (go_at_call 10; (with_reducible refine (known_any _).mono ?_); rintro e W1 ⟨rfl, hb1⟩)
      go_ret
      exact ⟨rfl, hb1⟩
    · have q1 : ¬ (100 : Int) < (n : Int) := by omega
      have q2 : (100 : Int) < (n2 : Int) := by omega
      clear h0 h1
      go_enter Try.func8, Try.ntmps8
      go_wp2_with (go_at_call 10; (with_reducible refine (known_any _).mono ?_); rintro e W1 ⟨rfl, hb1⟩)
      go_ret
      exact ⟨rfl, hb1⟩
  · have q1 : ¬ (100 : Int) < (n : Int) := by omega
    have q2 : ¬ (100 : Int) < (n2 : Int) := by omega
    have hl : l.length ≤ 100 := by have := HLen.out; omega
    have hl2 : l2.length ≤ 100 := by have := HLen2.out; omega
    have HL := Lib.hid hl
    have HL2 := Lib.hid hl2
    clear h1 hl hl2
    go_enter Try.func8, Try.ntmps8
    go_upto_region 6 with (first
      | (go_at_call 10; (with_reducible refine (known_any _).mono ?_); rintro e W1 ⟨rfl, hb1⟩; have HB1 := Lib.hid hb1; clear hb1)
      | (go_at_call 13; (with_reducible refine (new_any _ W1).mono ?_); rintro e W2 ⟨rfl, hbx2, hb2, hz2⟩))
    have hv2 := Vp.fresh (B := W2.heap.size) hbx2 hbx2.lt (Nat.le_refl _)
    have hbw2 : Below w.heap.size w W2 := HB1.out.trans (hb2.mono HB1.out.size)
    have hp2 : W1.heap.size < W2.heap.size := hbx2.lt
    have c2w : ∀ W, Mo W2.heap.size W1.heap.size W2 W → Below w.heap.size w W := fun W h => hbw2.trans (h.below hbw2.size HB1.out.size hbw2.size)
    have hr1 := write_any (s := ⟨#[97]⟩) (c := c) hv2 (Lim.new 1000) ((HS.out.below hbw2).more hbw2.size) (by decide) (by have := HL.out; omega)
    rw [hE1 HL.out] at hr1
    have hr2 : ∀ W, Vp W W2.heap.size W1.heap.size (hV1 l) → Calls Try.prog 17 #[.pointer (some ⟨W1.heap.size, 0, none⟩)] W (Did (.int .i64 0) (hV2 l) W2.heap.size W1.heap.size W) := fun W h => by
      have := flush_any h (hL1 HL.out) (by decide)
      rw [hE2] at this; exact this
    have hr3 : ∀ W, Vp W W2.heap.size W1.heap.size (hV2 l) → Mo W2.heap.size W1.heap.size W2 W → Calls Try.prog 18 #[.pointer (some ⟨W1.heap.size, 0, none⟩), .string ⟨#[97]⟩, .slice A2 n2 c2] W (Did (.int .i64 0) (hV3 l l2) W2.heap.size W1.heap.size W) := fun W h hm => by
      have := write_any (s := ⟨#[97]⟩) (c := c2) h (hL2 HL.out) ((HS2.out.below (c2w W hm)).more (c2w W hm).size) (by decide) (by have := HL2.out; omega)
      rw [hE3 HL2.out] at this; exact this
    have hr4 : ∀ W, Vp W W2.heap.size W1.heap.size (hV3 l l2) → Calls Try.prog 23 #[.pointer (some ⟨W1.heap.size, 0, none⟩), .string ⟨#[97]⟩] W (Did (.int .i64 0) (hV4 l l2) W2.heap.size W1.heap.size W) := fun W h => by
      have := remove_any (s := ⟨#[97]⟩) h (hL3 HL.out HL2.out) (by decide) (by decide)
      rw [hE4] at this; exact this
    have hr5 : ∀ W, Vp W W2.heap.size W1.heap.size (hV4 l l2) → Mo W2.heap.size W1.heap.size W2 W → Calls Try.prog 18 #[.pointer (some ⟨W1.heap.size, 0, none⟩), .string ⟨#[97]⟩, .slice A2 n2 c2] W (Did (.int .i64 0) (hV5 l l2) W2.heap.size W1.heap.size W) := fun W h hm => by
      have := write_any (s := ⟨#[97]⟩) (c := c2) h (hL4 HL.out HL2.out) ((HS2.out.below (c2w W hm)).more (c2w W hm).size) (by decide) (by have := HL2.out; omega)
      rw [hE5 HL2.out] at this; exact this
    have HR1 := Lib.hid hr1
    have HR2 := Lib.hid hr2
    have HR3 := Lib.hid hr3
    have HR4 := Lib.hid hr4
    have HR5 := Lib.hid hr5
    have HC := Lib.hid c2w
    have HP2 := Lib.hid hp2
    clear hr1 hr2 hr3 hr4 hr5 hv2 hbw2 c2w hp2 hbx2 hb2 hz2
    go_upto_region 9 with (first
      | (go_at_call 12; (with_reducible refine (HW1.out _).mono ?_); rintro e W ⟨rfl, rfl⟩)
      | (go_at_call 17; (with_reducible refine (HR2.out _ HV3.out).mono ?_); rintro e W4 ⟨rfl, hv4, hm4⟩; have HV4 := Lib.hid hv4; have HM4 := Lib.hid (HM3.out.trans hm4); clear hv4 hm4)
      | (go_at_call 23; (with_reducible refine (HR4.out _ HV5.out).mono ?_); rintro e W6 ⟨rfl, hv6, hm6⟩; have HV6 := Lib.hid hv6; have HM6 := Lib.hid (HM5.out.trans hm6); clear hv6 hm6)
      | (go_at_call 18; (with_reducible refine HR1.out.mono ?_); rintro e W3 ⟨rfl, hv3, hm3⟩; have HV3 := Lib.hid hv3; have HM3 := Lib.hid hm3; clear hv3 hm3)
      | (go_at_call 18; (with_reducible refine (HR3.out _ HV4.out HM4.out).mono ?_); rintro e W5 ⟨rfl, hv5, hm5⟩; have HV5 := Lib.hid hv5; have HM5 := Lib.hid (HM4.out.trans hm5); clear hv5 hm5)
      | (go_at_call 18; (with_reducible refine (HR5.out _ HV6.out HM6.out).mono ?_); rintro e W7 ⟨rfl, hv7, hm7⟩; have HV7 := Lib.hid hv7; have HM7 := Lib.hid (HM6.out.trans hm7); clear hv7 hm7))
    have hcr : ∀ (X : Obj) (x z : Int) (g : Nat), g = W7.heap.size + 1 → Calls Try.prog 19 #[.pointer (some ⟨W1.heap.size, 0, none⟩), .slice (some ⟨g, 0, none⟩) 3 3] ((W7.alloc X).alloc (Obj.cells #[.int .i64 0, .int .i64 x, .int .i64 z] 3))
        (Did (.tuple #[]) ((hV5 l l2).crash [0, x, z]) W2.heap.size W1.heap.size ((W7.alloc X).alloc (Obj.cells #[.int .i64 0, .int .i64 x, .int .i64 z] 3))) := fun X x z g hg => by
      have hp7 : W1.heap.size < (W7.alloc X).heap.size := by have := HP2.out; have := HM7.out.size; simp; omega
      have hs := sti_new (W7.alloc X) W2.heap.size W1.heap.size [0, x, z] (n := 3) rfl hp7
      rw [World.size_alloc, ← hg] at hs
      exact crash_any ((HV7.out.below ((Below.refl _ _).alloc (Nat.le_refl _) X)).below ((Below.refl _ _).alloc (Nat.le_refl _) _)) (hL5 HL.out HL2.out) (by decide) hs
    have hrd : ∀ W, Vp W W2.heap.size W1.heap.size ((hV5 l l2).crash [0, hx z2, z1]) → Calls Try.prog 20 #[.pointer (some ⟨W1.heap.size, 0, none⟩), .string ⟨#[97]⟩] W (ReadP (if z1 = 1 then (l2, true, 0) else if z1 = 2 then (half l2, true, 0) else if z2 = 1 ∨ z2 = 2 then ([], false, 0) else (l, true, 0)) W) := fun W h => by
      have := read_any (s := ⟨#[97]⟩) h ((hL5 HL.out HL2.out).crash _) (by decide) (by decide)
      rw [hRead HZ1.out HZ2.out] at this
      exact this
    have hm89 : ∀ (X Y : Obj), Mo W2.heap.size W1.heap.size W2 ((W7.alloc X).alloc Y) := fun X Y => HM7.out.trans (Mo.of (((Below.refl _ _).alloc (Nat.le_refl _) X).alloc (by simp) Y))
    have HCR := Lib.hid hcr
    have HRD := Lib.hid hrd
    have HM89 := Lib.hid hm89
    clear hcr hrd hm89 q1 q2
    have h1 := HZ1.out
    have h2 := HZ2.out
    clear HZ1 HZ2
    rcases h1 with rfl | rfl | rfl | rfl <;> rcases h2 with rfl | rfl | rfl | rfl
    all_goals
      have hrd := HRD.out
      simp only [hx, reduceIte, Int.reduceEq, or_true, true_or, or_self] at hrd
      have HRD2 := Lib.hid hrd
      clear hrd HRD
      go_upto_region 10 with (first
        | (go_at_call 12; (with_reducible refine (HW2.out _).mono ?_); rintro e W ⟨rfl, rfl⟩)
        | (go_at_call 19; (with_reducible refine (HCR.out _ _ _ _ rfl).mono ?_); rintro e W8 ⟨rfl, hv8, hm8⟩; have HV8 := Lib.hid hv8; have HM8 := Lib.hid ((HM89.out _ _).trans hm8); clear hv8 hm8))
      go_upto_region 11 with (go_at_call 20; (with_reducible refine (HRD2.out _ HV8.out).mono ?_); rintro e W9 ⟨A9, n9, c9, rfl, hn9, ho9, hz9, hb9⟩; have HN9 := Lib.hid hn9; have HO9 := Lib.hid ho9; have HB9 := Lib.hid hb9; clear hn9 ho9 hz9 hb9)
      have hbw9 : Below w.heap.size w W9 := HC.out _ (HM8.out.trans (Mo.of HB9.out))
      have q9 := text_run (c := c9) (Sees.of_own HO9.out)
      have q9d := text_run (c := c9) (Sees.of_own HO9.out).drew
      have qa := text_run (c := c) (HS.out.below hbw9)
      have qb := text_run (c := c2) (HS2.out.below hbw9)
      have hh : Sees W9 w.heap.size A2 (n2 / 2) (half l2) := by
        have h := (HS2.out.below hbw9).take (k := n2 / 2) (by omega)
        rwa [show l2.take (n2 / 2) = half l2 from by rw [half, HLen2.out]] at h
      have qhd := text_run (c := c2) hh.drew
      have wq : wrap64 ((n2 : Int) / 2) = ((n2 / 2 : Nat) : Int) := by have := HL2.out; have := HLen2.out; unfold wrap64; omega
      have b1 : (0 : Int) ≤ ((n2 / 2 : Nat) : Int) := by omega
      have b2 : ((n2 / 2 : Nat) : Int) ≤ (c2 : Int) := by omega
      generalize (⟨l.toArray⟩ : ByteArray) = s1 at q9 q9d qa qb qhd
      generalize (⟨l2.toArray⟩ : ByteArray) = s2 at q9 q9d qa qb qhd
      generalize (⟨(half l2).toArray⟩ : ByteArray) = s3 at q9 q9d qa qb qhd
      have HBW9 := Lib.hid hbw9
      clear hbw9 hh
      go_upto_region 14 with (go_at_call 12; (with_reducible refine (HW2.out _).mono ?_); rintro e W ⟨rfl, rfl⟩)
      first
        | (go_wp2_with fail
           go_ret
           exact ⟨rfl, HBW9.out⟩)
        | (go_wp2_with fail
           go_region
           go_wp2_with fail
           go_ret
           exact ⟨rfl, HBW9.out.os, HBW9.out.tape, HBW9.out.output, HBW9.out.size, HBW9.out.block⟩)
end Go.Proofs.Ytaokoejedpbejaa.Vf
