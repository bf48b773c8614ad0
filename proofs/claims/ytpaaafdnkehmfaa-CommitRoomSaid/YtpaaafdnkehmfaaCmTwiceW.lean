/- CommitTwice and CommitOps, walked. No conditions. -/
import Derived.Test.YtpaaafdnkehmfaaCmLaw
namespace Go.Proofs.Ytpaaafdnkehmfaa.Vf
open Go.RowKit
set_option maxRecDepth 100000

theorem qsNew : Qs (Vm.new 5000) (gd []) 5000 0 := Qs.new 5000
theorem c60_nil : C60 [] := ⟨by simp, fun _ h => by cases h⟩
theorem ov_nil (c : List BS) : ov c [] = c := by simp [ov]
theorem few16 {A : Option Addr} {n c : Nat} {l : FL} {w W : World} (h : Fr w (fun g => g < w.heap.size) A n l) (hb : Below w.heap.size w W) (hn : n ≤ maxLen) : Calls Try.prog 24 #[.slice A n c] W fun e w' => e = .returned (.bool (fewB l)) ∧ W = w' :=
  few_any l A n c W ((h.below hb).more fun _ hg => Nat.lt_of_lt_of_le hg hb.size) hn
theorem good4 {A : Option Addr} {n c : Nat} {l : FL} {w W : World} (h : Fr w (fun g => g < w.heap.size) A n l) (hb : Below w.heap.size w W) (hn : n ≤ maxLen) : Calls Try.prog 25 #[.slice A n c, .int .i64 4] W fun e w' => ∃ A' N c', e = .returned (.slice A' N c') ∧ Fr w' (fun g => g < w'.heap.size) A' N (gd (goodC 4 l)) ∧ N ≤ c' ∧ N ≤ 4 ∧ Below W.heap.size W w' :=
  good_any l A n c 4 W ((h.below hb).more fun _ hg => Nat.lt_of_lt_of_le hg hb.size) (Nat.le_refl _) hn
theorem new5000 (W : World) : Calls Try.prog 14 #[.int .i64 5000] W fun e w' => e = .returned (.pointer (some ⟨W.heap.size, 0, none⟩)) ∧ Vs w' w' (W.heap.size + 1) W.heap.size 0 (Vm.new 5000) ∧ Below W.heap.size W w' ∧ w'.heap.size = W.heap.size + 1 :=
  (new_any 5000 W).mono fun _ w' ⟨h1, h2, h3, h4⟩ => ⟨h1, by have := Vs.new h2; rwa [h4] at this, h3, h4⟩
theorem Fr.pl {w W : World} {P : Nat → Prop} {A : Option Addr} {n : Nat} {l : FL} (h : Fr w P A n l) (hP : ∀ g, P g → g < w.heap.size) (hb : Below w.heap.size w W) : Fr W (Pl (w.heap.size + 1) w.heap.size) A n l :=
  (h.keep fun g hg => hb.block g (hP g hg)).more fun g hg => ⟨Nat.lt_succ_of_lt (hP g hg), Nat.ne_of_lt (hP g hg)⟩
set_option maxHeartbeats 8000000 in
theorem commitTwice_walk (A : Option Addr) (n c : Nat) (l : FL) (A2 : Option Addr) (n2 c2 : Nat) (l2 : FL) (w : World) (hF : Fr w (fun g => g < w.heap.size) A n l) (hn : n ≤ maxLen) (hF2 : Fr w (fun g => g < w.heap.size) A2 n2 l2) (hn2 : n2 ≤ maxLen) :
    Calls Try.prog 10 #[.slice A n c, .slice A2 n2 c2] w fun e w' => e = .returned (.bool true) ∧ Below w.heap.size w w' := by
  have hnl := hF.len
  have hnl2 := hF2.len
  have HW1 := Lib.hid (fun W hb => few16 (c := c) (W := W) hF hb hn)
  have HW2 := Lib.hid (fun W hb => few16 (c := c2) (W := W) hF2 hb hn2)
  have HG1 := Lib.hid (fun W hb => good4 (c := c) (W := W) hF hb hn)
  have HG2 := Lib.hid (fun W hb => good4 (c := c2) (W := W) hF2 hb hn2)
  have HL1 := Lib.hid hnl
  have HL2 := Lib.hid hnl2
  clear hF hF2 hn hn2 hnl hnl2
  cases hf1 : fewB l with
  | false =>
    rw [hf1] at HW1
    clear hf1
    go_enter Try.func10, Try.ntmps10
    go_wp2_with (first
      | (go_at_call 23; (with_reducible refine (known16_any _).mono ?_); rintro e w1 ⟨rfl, hb1⟩)
      | (go_at_call 24; (with_reducible refine (HW1.out _ hb1).mono ?_); rintro e w2 ⟨rfl, rfl⟩))
    go_ret
    exact ⟨rfl, hb1⟩
  | true =>
  cases hf2 : fewB l2 with
  | false =>
    rw [hf1] at HW1
    rw [hf2] at HW2
    clear hf1 hf2
    go_enter Try.func10, Try.ntmps10
    go_wp2_with (first
      | (go_at_call 23; (with_reducible refine (known16_any _).mono ?_); rintro e w1 ⟨rfl, hb1⟩)
      | (go_at_call 24; (with_reducible refine (HW1.out _ hb1).mono ?_); rintro e w2 ⟨rfl, rfl⟩)
      | (go_at_call 24; (with_reducible refine (HW2.out _ hb1).mono ?_); rintro e w2 ⟨rfl, rfl⟩))
    go_ret
    exact ⟨rfl, hb1⟩
  | true =>
  rw [hf1] at HW1
  rw [hf2] at HW2
  have hk1 := (few_ok hf1).1
  have hk2 := (few_ok hf2).1
  clear hf1 hf2
  by_cases h0 : n = 0
  · have q0 : ((n : Int) == 0) = true := by simp [h0]
    clear h0 hk1 hk2
    go_enter Try.func10, Try.ntmps10
    go_wp2_with (first
      | (go_at_call 23; (with_reducible refine (known16_any _).mono ?_); rintro e w1 ⟨rfl, hb1⟩)
      | (go_at_call 24; (with_reducible refine (HW1.out _ hb1).mono ?_); rintro e w2 ⟨rfl, rfl⟩)
      | (go_at_call 24; (with_reducible refine (HW2.out _ hb1).mono ?_); rintro e w2 ⟨rfl, rfl⟩))
    go_ret
    exact ⟨rfl, hb1⟩
  by_cases h02 : n2 = 0
  · have q0 : ((n : Int) == 0) = false := by simp [h0]
    have q2 : ((n2 : Int) == 0) = true := by simp [h02]
    clear h0 h02 hk1 hk2
    go_enter Try.func10, Try.ntmps10
    go_wp2_with (first
      | (go_at_call 23; (with_reducible refine (known16_any _).mono ?_); rintro e w1 ⟨rfl, hb1⟩)
      | (go_at_call 24; (with_reducible refine (HW1.out _ hb1).mono ?_); rintro e w2 ⟨rfl, rfl⟩)
      | (go_at_call 24; (with_reducible refine (HW2.out _ hb1).mono ?_); rintro e w2 ⟨rfl, rfl⟩))
    go_ret
    exact ⟨rfl, hb1⟩
  have q0 : ((n : Int) == 0) = false := by simp [h0]
  have q2 : ((n2 : Int) == 0) = false := by simp [h02]
  obtain ⟨ca, hca⟩ : ∃ ca, ca = goodC 4 l := ⟨_, rfl⟩
  obtain ⟨cb, hcb⟩ : ∃ cb, cb = goodC 4 l2 := ⟨_, rfl⟩
  have k1 : C60 ca := hca ▸ goodC_60 (Nat.le_refl _) l
  have k2 : C60 cb := hcb ▸ goodC_60 (Nat.le_refl _) l2
  have n1 : 1 ≤ ca.length := by rw [hca, goodC_length]; have := HL1.out; omega
  have n2' : 1 ≤ cb.length := by rw [hcb, goodC_length]; have := HL2.out; omega
  rw [← hca] at HG1
  rw [← hcb] at HG2
  obtain ⟨V1, e1, s1, _⟩ := qsNew.good c60_nil k1 n1
  rw [ov_nil] at s1
  obtain ⟨V2, e2, s2, _⟩ := s1.good k1 k2 n2'
  obtain ⟨V3, m3, e3, s3, t3, _⟩ := s2.rcvN ((k2.ov k1).none (by decide))
  obtain rfl := t3 ((k2.ov k1).none (by decide))
  have HI := Lib.hid (show IsP V3.now (gd ca) (gd cb) by rw [s2.now]; exact isP_gd k2 k1)
  have HK1 := Lib.hid k1
  have HK2 := Lib.hid k2
  have HE1 := Lib.hid e1
  have HE2 := Lib.hid e2
  have HE3 := Lib.hid e3
  have HD3 := Lib.hid s2.dead
  clear h0 h02 hk1 hk2 hca hcb k1 k2 n1 n2' e1 e2 e3 s1 s2 s3 t3
  go_enter Try.func10, Try.ntmps10
  go_upto_region 7 with (first
    | (go_at_call 23; (with_reducible refine (known16_any _).mono ?_); rintro e w1 ⟨rfl, hb1⟩; have HB1 := Lib.hid hb1; clear hb1)
    | (go_at_call 24; (with_reducible refine (HW1.out _ HB1.out).mono ?_); rintro e w2 ⟨rfl, rfl⟩)
    | (go_at_call 24; (with_reducible refine (HW2.out _ HB1.out).mono ?_); rintro e w2 ⟨rfl, rfl⟩)
    | (go_at_call 25; (with_reducible refine (HG1.out _ HB1.out).mono ?_); rintro e w3 ⟨A3, N3, c3, rfl, hF3, hnc3, hn3, hb3⟩; have HF3 := Lib.hid hF3; have HB3 := Lib.hid (HB1.out.trans (hb3.mono HB1.out.size)); have HC3 := Lib.hid (And.intro hnc3 hn3); clear hF3 hb3 hnc3 hn3)
    | (go_at_call 25; (with_reducible refine (HG2.out _ HB3.out).mono ?_); rintro e w4 ⟨A4, N4, c4, rfl, hF4, hnc4, hn4, hb4⟩; have HF4 := Lib.hid hF4; have HF34 := Lib.hid ((HF3.out.below hb4).more fun g hg => Nat.lt_of_lt_of_le hg hb4.size); have HB4 := Lib.hid (HB3.out.trans (hb4.mono HB3.out.size)); have HC4 := Lib.hid (And.intro hnc4 hn4); clear hF4 hb4 hnc4 hn4)
    | (go_at_call 14; (with_reducible refine (new5000 _).mono ?_); rintro e w5 ⟨rfl, hv5, hb5, hz5⟩; have HV5 := Lib.hid hv5; have HB5 := Lib.hid hb5; have HZ5 := Lib.hid hz5; clear hv5 hb5 hz5))
  have hBB : w4.heap.size + 1 ≤ w5.heap.size := Nat.le_of_eq HZ5.out.symm
  have f3 := HF34.out.pl (fun g h => h) HB5.out
  have f4 := HF4.out.pl (fun g h => h) HB5.out
  have hc1 := HV5.out.commit (c := c3) hBB f3 (by have := HC3.out; omega) HC3.out.1 (by decide)
  rw [HE1.out] at hc1
  have hc2 : ∀ W, Vs w5 W (w4.heap.size + 1) w4.heap.size (0 + 300000) V1 → Calls Try.prog 26 #[.pointer (some ⟨w4.heap.size, 0, none⟩), .slice A4 N4 c4] W fun e w' => e = .returned (.int .i64 0) ∧ Vs w5 w' (w4.heap.size + 1) w4.heap.size (0 + 300000 + 300000) V3 := fun W hv => by
    have h := hv.commit (c := c4) hBB f4 (by have := HC4.out; omega) HC4.out.1 (by decide)
    rw [HE2.out] at h
    exact h
  have hc3 : ∀ W, Vs w5 W (w4.heap.size + 1) w4.heap.size (0 + 300000 + 300000) V3 → Calls Try.prog 29 #[.pointer (some ⟨w4.heap.size, 0, none⟩)] W fun e w' => e = .returned (.int .i64 0) ∧ Vs w5 w' (w4.heap.size + 1) w4.heap.size (0 + 300000 + 300000 + 300000) V3 := fun W hv => by
    have h := hv.recover (by decide)
    rw [HE3.out] at h
    exact h
  have his : ∀ W N, N ≤ 1000000 → Vs w5 W (w4.heap.size + 1) w4.heap.size N V3 → Calls Try.prog 30 #[.pointer (some ⟨w4.heap.size, 0, none⟩), .slice A3 N3 c3, .slice A4 N4 c4] W fun e w' => e = .returned (.bool true) ∧ Vs w5 w' (w4.heap.size + 1) w4.heap.size N V3 := fun W N hN hv => by
    refine (hv.isf (by omega) HD3.out hBB f3 f4 HK1.out.few HK2.out.few).mono ?_
    rintro e w' ⟨r, h1, h2, h3⟩
    rw [h2 HI.out] at h1
    exact ⟨h1, h3⟩
  have HC1 := Lib.hid hc1
  have HCC2 := Lib.hid hc2
  have HCC3 := Lib.hid hc3
  have HIS := Lib.hid his
  clear f3 f4 hc1 hc2 hc3 his hBB q0 q2
  go_wp2_with (first
    | (go_at_call 26; (with_reducible refine HC1.out.mono ?_); rintro e w6 ⟨rfl, hv6⟩; have HV6 := Lib.hid hv6; clear hv6)
    | (go_at_call 26; (with_reducible refine (HCC2.out _ HV6.out).mono ?_); rintro e w7 ⟨rfl, hv7⟩; have HV7 := Lib.hid hv7; clear hv7)
    | (go_at_call 30; (with_reducible refine (HIS.out _ _ (by decide) HV7.out).mono ?_); rintro e w8 ⟨rfl, hv8⟩; have HV8 := Lib.hid hv8; clear hv8)
    | (go_at_call 29; (with_reducible refine (HCC3.out _ HV8.out).mono ?_); rintro e w9 ⟨rfl, hv9⟩; have HV9 := Lib.hid hv9; clear hv9)
    | (go_at_call 30; (with_reducible refine (HIS.out _ _ (by decide) HV9.out).mono ?_); rintro e w10 ⟨rfl, hv10⟩; have HV10 := Lib.hid hv10; clear hv10))
  go_ret
  have hb45 : Below w.heap.size w w5 := HB4.out.trans (HB5.out.mono HB4.out.size)
  exact ⟨rfl, hb45.trans (HV10.out.toB (by have := HB4.out.size; omega) HB4.out.size hb45.size)⟩
end Go.Proofs.Ytpaaafdnkehmfaa.Vf
