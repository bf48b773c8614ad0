/- CommitOps, walked. No conditions. -/
import Derived.Test.YtpaaafdnkehmfaaCmTwiceW
namespace Go.Proofs.Ytpaaafdnkehmfaa.Vf
open Go.RowKit
set_option maxRecDepth 100000

set_option maxHeartbeats 8000000 in
theorem commitOps_walk (A : Option Addr) (n c : Nat) (l : FL) (w : World) (hF : Fr w (fun g => g < w.heap.size) A n l) (hn : n ≤ maxLen) :
    Calls Try.prog 7 #[.slice A n c] w fun e w' => e = .returned (.bool true) ∧ Below w.heap.size w w' := by
  have hnl := hF.len
  have HW1 := Lib.hid (fun W hb => few16 (c := c) (W := W) hF hb hn)
  have HG1 := Lib.hid (fun W hb => good4 (c := c) (W := W) hF hb hn)
  have HL1 := Lib.hid hnl
  clear hF hn hnl
  cases hf1 : fewB l with
  | false =>
    rw [hf1] at HW1
    clear hf1
    go_enter Try.func7, Try.ntmps7
    go_wp2_with (first
      | (go_at_call 23; (with_reducible refine (known16_any _).mono ?_); rintro e w1 ⟨rfl, hb1⟩)
      | (go_at_call 24; (with_reducible refine (HW1.out _ hb1).mono ?_); rintro e w2 ⟨rfl, rfl⟩))
    go_ret
    exact ⟨rfl, hb1⟩
  | true =>
  rw [hf1] at HW1
  have hk1 := (few_ok hf1).1
  clear hf1
  by_cases h0 : n = 0
  · have q0 : ((n : Int) == 0) = true := by simp [h0]
    clear h0 hk1
    go_enter Try.func7, Try.ntmps7
    go_wp2_with (first
      | (go_at_call 23; (with_reducible refine (known16_any _).mono ?_); rintro e w1 ⟨rfl, hb1⟩)
      | (go_at_call 24; (with_reducible refine (HW1.out _ hb1).mono ?_); rintro e w2 ⟨rfl, rfl⟩))
    go_ret
    exact ⟨rfl, hb1⟩
  have q0 : ((n : Int) == 0) = false := by simp [h0]
  obtain ⟨ca, hca⟩ : ∃ ca, ca = goodC 4 l := ⟨_, rfl⟩
  have k1 : C60 ca := hca ▸ goodC_60 (Nat.le_refl _) l
  have n1 : 1 ≤ ca.length := by rw [hca, goodC_length]; have := HL1.out; omega
  rw [← hca] at HG1
  obtain ⟨V1, e1, s1, _⟩ := qsNew.good c60_nil k1 n1
  rw [ov_nil] at s1
  obtain ⟨V3, m3, e3, s3, t3, _⟩ := s1.rcvN (k1.none (by decide))
  obtain rfl := t3 (k1.none (by decide))
  have HI := Lib.hid (show IsP V3.now [] (gd ca) by rw [s1.now]; exact isP_nil k1)
  have HK1 := Lib.hid k1
  have HE1 := Lib.hid e1
  have HE3 := Lib.hid e3
  have HD3 := Lib.hid s1.dead
  have HOP := Lib.hid s1.ops
  clear h0 hk1 hca k1 n1 e1 e3 s1 s3 t3
  go_enter Try.func7, Try.ntmps7
  go_upto_region 7 with (first
    | (go_at_call 23; (with_reducible refine (known16_any _).mono ?_); rintro e w1 ⟨rfl, hb1⟩; have HB1 := Lib.hid hb1; clear hb1)
    | (go_at_call 24; (with_reducible refine (HW1.out _ HB1.out).mono ?_); rintro e w2 ⟨rfl, rfl⟩)
    | (go_at_call 25; (with_reducible refine (HG1.out _ HB1.out).mono ?_); rintro e w4 ⟨A3, N3, c3, rfl, hF3, hnc3, hn3, hb3⟩; have HF3 := Lib.hid hF3; have HB4 := Lib.hid (HB1.out.trans (hb3.mono HB1.out.size)); have HC3 := Lib.hid (And.intro hnc3 hn3); clear hF3 hb3 hnc3 hn3)
    | (go_at_call 14; (with_reducible refine (new5000 _).mono ?_); rintro e w5 ⟨rfl, hv5, hb5, hz5⟩; have HV5 := Lib.hid hv5; have HB5 := Lib.hid hb5; have HZ5 := Lib.hid hz5; clear hv5 hb5 hz5))
  have hBB : w4.heap.size + 1 ≤ w5.heap.size := Nat.le_of_eq HZ5.out.symm
  have f3 := HF3.out.pl (fun g h => h) HB5.out
  have hN3 : N3 = ca.length := by have := HF3.out.len; rwa [gd_length HK1.out.cnt] at this
  have hc1 := HV5.out.commit (c := c3) hBB f3 (by have := HC3.out; omega) HC3.out.1 (by decide)
  rw [HE1.out] at hc1
  have hop : ∀ W N, Vs w5 W (w4.heap.size + 1) w4.heap.size N V3 → Calls Try.prog 31 #[.pointer (some ⟨w4.heap.size, 0, none⟩)] W fun e w' => e = .returned (.int .i64 ((N3 + 9 : Nat) : Int)) ∧ W = w' := fun W N hv => by
    have h := hv.opsA
    rw [HOP.out, Nat.zero_add, ← hN3] at h
    exact h
  have hc3 : ∀ W, Vs w5 W (w4.heap.size + 1) w4.heap.size (0 + 300000) V3 → Calls Try.prog 29 #[.pointer (some ⟨w4.heap.size, 0, none⟩)] W fun e w' => e = .returned (.int .i64 0) ∧ Vs w5 w' (w4.heap.size + 1) w4.heap.size (0 + 300000 + 300000) V3 := fun W hv => by
    have h := hv.recover (by decide)
    rw [HE3.out] at h
    exact h
  have his : ∀ W N, N ≤ 1000000 → Vs w5 W (w4.heap.size + 1) w4.heap.size N V3 → Calls Try.prog 30 #[.pointer (some ⟨w4.heap.size, 0, none⟩), .slice none 0 0, .slice A3 N3 c3] W fun e w' => e = .returned (.bool true) ∧ Vs w5 w' (w4.heap.size + 1) w4.heap.size N V3 := fun W N hN hv => by
    refine (hv.isf (by omega) HD3.out hBB (fr_nil _ _ _) f3 ⟨Nat.zero_le _, fun _ h => by cases h⟩ HK1.out.few).mono ?_
    rintro e w' ⟨r, h1, h2, h3⟩
    rw [h2 HI.out] at h1
    exact ⟨h1, h3⟩
  have w9 : wrap64 ((N3 : Int) + 9) = ((N3 + 9 : Nat) : Int) := by have := HC3.out; unfold wrap64; omega
  have HC1 := Lib.hid hc1
  have HOPS := Lib.hid hop
  have HCC3 := Lib.hid hc3
  have HIS := Lib.hid his
  clear f3 hc1 hop hc3 his hBB q0 hN3
  go_wp2_with (first
    | (go_at_call 26; (with_reducible refine HC1.out.mono ?_); rintro e w6 ⟨rfl, hv6⟩; have HV6 := Lib.hid hv6; clear hv6)
    | (go_at_call 31; (with_reducible refine (HOPS.out _ _ HV6.out).mono ?_); rintro e w7 ⟨rfl, rfl⟩)
    | (go_at_call 29; (with_reducible refine (HCC3.out _ HV6.out).mono ?_); rintro e w9 ⟨rfl, hv9⟩; have HV9 := Lib.hid hv9; clear hv9)
    | (go_at_call 31; (with_reducible refine (HOPS.out _ _ HV9.out).mono ?_); rintro e w7 ⟨rfl, rfl⟩)
    | (go_at_call 30; (with_reducible refine (HIS.out _ _ (by decide) HV9.out).mono ?_); rintro e w10 ⟨rfl, hv10⟩; have HV10 := Lib.hid hv10; clear hv10))
  go_ret
  have hb45 : Below w.heap.size w w5 := HB4.out.trans (HB5.out.mono HB4.out.size)
  exact ⟨rfl, hb45.trans (HV10.out.toB (by have := HB4.out.size; omega) HB4.out.size hb45.size)⟩
end Go.Proofs.Ytpaaafdnkehmfaa.Vf
