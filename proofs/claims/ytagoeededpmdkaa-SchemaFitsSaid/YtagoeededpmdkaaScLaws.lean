/- SchemaLevels, SchemaFits: the laws' walks. No conditions but that memory can hold the arguments. -/
import Derived.Test.YtagoeededpmdkaaScMake
import Derived.Test.YtagoeededpmdkaaScSmall
import Derived.Test.YtagoeededpmdkaaScLevels
import Derived.Test.YtagoeededpmdkaaScRFits
namespace Go.Proofs.Ytagoeededpmdkaa.Sc
open Go.RowKit Go.Proofs.Ytagoeededpmdkaa.Nm
set_option maxRecDepth 100000

theorem low_of : ∀ {t : Tr}, t.Fit → t.Low
  | .nil, _ => trivial
  | .cons _ _ _, h => ⟨h.2.1, low_of h.2.2.1, low_of h.2.2.2⟩
theorem good_fit {ds : List Df} (h : Good ds) : FitS ds := fun d hd => ⟨by have := (h d hd).1; omega, fun f hf => by have := (h d hd).2 f hf; omega⟩

set_option maxHeartbeats 2000000 in
theorem levels_walk (s : List Df) (A : Option Addr) (n c : Nat) (t0 : Tr) (A2 : Option Addr) (n2 c2 : Nat) (w : World) (h : Ds w w.heap.size A n s) (hnc : n ≤ c) (hcm : c ≤ maxLen) (hheld : Held s) (hh : Holds w w.heap.size A2 n2 t0) (hnc2 : n2 ≤ c2) (hcm2 : c2 ≤ maxLen) (hre : t0.len ≤ 140737488351232 ∧ t0.Fit) :
    Calls Try.prog 13 #[.slice A n c, .slice A2 n2 c2] w fun e w' => e = .returned (.bool true) ∧ Below w.heap.size w w' := by
  have hn64 : n ≤ 9223372036854775807 := by unfold maxLen at hcm; omega
  have hn2 : n2 ≤ 140737488351232 := by rw [hh.len]; exact hre.1
  have HF1 := Lib.hid (fun W (hb : Below w.heap.size w W) => few4_any s A n c w.heap.size W (h.below hb) hn64)
  have HF2 := Lib.hid (fun W (hb : Below w.heap.size w W) => Go.Proofs.Ytagoeededpmdkaa.few_any t0 A2 n2 c2 w.heap.size W (hh.below hb) hb.size hn2 (low_of hre.2))
  cases hf : few s with
  | false =>
    rw [hf] at HF1
    clear h hh hheld hf HF2 hre
    go_enter Try.func13, Try.ntmps13
    go_wp2_with fail
    (with_reducible refine (known_any _).mono ?_)
    rintro e w1 ⟨rfl, hb1⟩
    go_wp2_with fail
    (with_reducible refine (HF1.out _ hb1).mono ?_)
    rintro e w2 ⟨rfl, rfl⟩
    go_wp2_with fail
    go_ret
    exact ⟨rfl, hb1⟩
  | true =>
    rw [hf] at HF1
    obtain ⟨hfit, hn14⟩ := few_fit hf
    rw [← h.len] at hn14
    by_cases hr : t0.count n2 200 < 200
    · rw [decide_eq_true hr] at HF2
      have HM := Lib.hid (fun W (hb : Below w.heap.size w W) => make4_any s A n c w.heap.size W (h.below hb) hfit hheld hn14 hb.size)
      have HS : Hid (∀ W, Below w.heap.size w W → Calls Try.prog 52 #[.slice A2 n2 c2, .int .i64 5, .int .i64 4] W (Smalled 5 4 W)) := Lib.hid (fun W (hb : Below w.heap.size w W) => small_any 5 (by omega) 4 (by omega) 4 t0 A2 n2 c2 w.heap.size W rfl (hh.below hb) hre.2 hb.size hnc2 hcm2)
      have hN5 : mN n ≤ 9223372036854775807 := by unfold mN; omega
      obtain ⟨N, hN⟩ : ∃ N, N = mN n := ⟨_, rfl⟩
      rw [← hN] at HM hN5
      clear h hh hheld hf hfit hr hre hN
      go_enter Try.func13, Try.ntmps13
      go_wp2_with fail
      (with_reducible refine (known_any _).mono ?_)
      rintro e w1 ⟨rfl, hb1⟩
      go_wp2_with fail
      (with_reducible refine (HF1.out _ hb1).mono ?_)
      rintro e w2 ⟨rfl, rfl⟩
      go_wp2_with fail
      (with_reducible refine (HF2.out _ hb1).mono ?_)
      rintro e w2 ⟨rfl, rfl⟩
      go_wp2_with fail
      (with_reducible refine (HM.out _ hb1).mono ?_)
      rintro e w2 ⟨Am, cm, m, rfl, hDm, hNc, hcm4, hgood, hb2⟩
      have hb12 := hb1.trans (hb2.mono hb1.size)
      have HDm := Lib.hid hDm
      have HGd := Lib.hid hgood
      clear hDm hgood
      go_wp2_with fail
      (with_reducible refine (HS.out _ hb12).mono ?_)
      rintro e w3 ⟨At, nt, ct, t, rfl, hHt, hntc, hctm, hts, hb3⟩
      have hb123 := hb12.trans (hb3.mono hb12.size)
      have hts2 : t.size ≤ 549755813888 := Nat.le_trans hts (by decide)
      have hD3 := (HDm.out.below hb3).more hb3.size
      have HX := Lib.hid (fits_any m t Am N cm w3.heap.size 0 At nt ct w3 hD3 (good_fit HGd.out) (Nat.le_refl _) hN5 hHt hts2)
      have HY := Lib.hid (fun W (hb : Below w3.heap.size w3 W) => levels_any t.size m t Am N cm w3.heap.size 0 At nt ct W (Nat.le_refl _) (hD3.below hb) (good_fit HGd.out) hb.size hN5 (hHt.below hb) hts2)
      obtain ⟨b, hb⟩ : ∃ b, b = fits m 0 t := ⟨_, rfl⟩
      rw [← hb] at HX HY
      have hbb : (b == b) = true := by simp
      clear hb hD3 hHt hts hts2
      go_wp2_with fail
      (with_reducible refine HX.out.mono ?_)
      rintro e w4 ⟨rfl, hb4⟩
      go_wp2_with fail
      (with_reducible refine (HY.out _ hb4).mono ?_)
      rintro e w5 ⟨rfl, hb5⟩
      go_wp2_with fail
      go_ret
      have hb345 := hb4.trans (hb5.mono hb4.size)
      exact ⟨by first | rfl | simp, hb123.trans (hb345.mono hb123.size)⟩
    · rw [decide_eq_false hr] at HF2
      clear h hh hheld hf hr hre
      go_enter Try.func13, Try.ntmps13
      go_wp2_with fail
      (with_reducible refine (known_any _).mono ?_)
      rintro e w1 ⟨rfl, hb1⟩
      go_wp2_with fail
      (with_reducible refine (HF1.out _ hb1).mono ?_)
      rintro e w2 ⟨rfl, rfl⟩
      go_wp2_with fail
      (with_reducible refine (HF2.out _ hb1).mono ?_)
      rintro e w2 ⟨rfl, rfl⟩
      go_wp2_with fail
      go_ret
      exact ⟨rfl, hb1⟩

set_option maxHeartbeats 4000000 in
theorem fits_walk (s : List Df) (A : Option Addr) (n c : Nat) (t0 : Tr) (A2 : Option Addr) (n2 c2 : Nat) (def_ : Int) (x : ByteArray) (w : World) (h : Ds w w.heap.size A n s) (hnc : n ≤ c) (hcm : c ≤ maxLen) (hheld : Held s) (hh : Holds w w.heap.size A2 n2 t0) (hnc2 : n2 ≤ c2) (hcm2 : c2 ≤ maxLen) (hre : t0.len ≤ 140737488351232 ∧ t0.Fit) :
    Calls Try.prog 11 #[.slice A n c, .slice A2 n2 c2, .int .i64 def_, .string x] w fun e w' => e = .returned (.bool true) ∧ Below w.heap.size w w' := by
  have hn64 : n ≤ 9223372036854775807 := by unfold maxLen at hcm; omega
  have hn2 : n2 ≤ 140737488351232 := by rw [hh.len]; exact hre.1
  have HF1 := Lib.hid (fun W (hb : Below w.heap.size w W) => few4_any s A n c w.heap.size W (h.below hb) hn64)
  have HF2 := Lib.hid (fun W (hb : Below w.heap.size w W) => Go.Proofs.Ytagoeededpmdkaa.few_any t0 A2 n2 c2 w.heap.size W (hh.below hb) hb.size hn2 (low_of hre.2))
  cases hf : few s with
  | false =>
    rw [hf] at HF1
    clear h hh hheld hf HF2 hre
    go_enter Try.func11, Try.ntmps11
    go_wp2_with fail
    (with_reducible refine (known_any _).mono ?_)
    rintro e w1 ⟨rfl, hb1⟩
    go_wp2_with fail
    (with_reducible refine (HF1.out _ hb1).mono ?_)
    rintro e w2 ⟨rfl, rfl⟩
    go_wp2_with fail
    go_ret
    exact ⟨rfl, hb1⟩
  | true =>
    rw [hf] at HF1
    obtain ⟨hfit, hn14⟩ := few_fit hf
    rw [← h.len] at hn14
    by_cases hr : t0.count n2 200 < 200
    · rw [decide_eq_true hr] at HF2
      have HM := Lib.hid (fun W (hb : Below w.heap.size w W) => make4_any s A n c w.heap.size W (h.below hb) hfit hheld hn14 hb.size)
      have HS : Hid (∀ W, Below w.heap.size w W → Calls Try.prog 52 #[.slice A2 n2 c2, .int .i64 6, .int .i64 4] W (Smalled 6 4 W)) := Lib.hid (fun W (hb : Below w.heap.size w W) => small_any 6 (by omega) 4 (by omega) 4 t0 A2 n2 c2 w.heap.size W rfl (hh.below hb) hre.2 hb.size hnc2 hcm2)
      have hN5 : mN n ≤ 4 := by unfold mN; omega
      obtain ⟨N, hN⟩ : ∃ N, N = mN n := ⟨_, rfl⟩
      rw [← hN] at HM hN5
      clear h hh hheld hf hfit hr hre hN
      go_enter Try.func11, Try.ntmps11
      go_wp2_with fail
      (with_reducible refine (known_any _).mono ?_)
      rintro e w1 ⟨rfl, hb1⟩
      go_wp2_with fail
      (with_reducible refine (HF1.out _ hb1).mono ?_)
      rintro e w2 ⟨rfl, rfl⟩
      go_wp2_with fail
      (with_reducible refine (HF2.out _ hb1).mono ?_)
      rintro e w2 ⟨rfl, rfl⟩
      go_wp2_with fail
      (with_reducible refine (HM.out _ hb1).mono ?_)
      rintro e w2 ⟨Am, cm, m, rfl, hDm, hNc, hcm4, hgood, hb2⟩
      have hb12 := hb1.trans (hb2.mono hb1.size)
      have HDm := Lib.hid hDm
      have HGd := Lib.hid hgood
      clear hDm hgood
      go_wp2_with fail
      (with_reducible refine (HS.out _ hb12).mono ?_)
      rintro e w3 ⟨At, nt, ct, t, rfl, hHt, hntc, hctm, hts, hb3⟩
      have hb123 := hb12.trans (hb3.mono hb12.size)
      have hts2 : t.size ≤ 549755813888 := Nat.le_trans hts (by decide)
      have hnt : nt ≤ 140737488351232 := by rw [hHt.len]; have := t.len_size; omega
      have hD3 := (HDm.out.below hb3).more hb3.size
      have hN64 : N ≤ 9223372036854775807 := by omega
      have HLv := Lib.hid (fun W d (hb : Below w3.heap.size w3 W) => level_any m t Am N cm w3.heap.size d At nt ct W (hD3.below hb) (good_fit HGd.out) hb.size hN64 (hHt.below hb) hnt)
      have HRv := Lib.hid (fun W d (hb : Below w3.heap.size w3 W) => rlevel_any m t Am N cm w3.heap.size d At nt ct W (hD3.below hb) (good_fit HGd.out) hb.size hN64 (hHt.below hb) hnt)
      have HLf := Lib.hid (fun W d (hb : Below w3.heap.size w3 W) => fits_any m t Am N cm w3.heap.size d At nt ct W (hD3.below hb) (good_fit HGd.out) hb.size hN64 (hHt.below hb) hts2)
      have HRf := Lib.hid (fun W d (hb : Below w3.heap.size w3 W) => rfits_any t.size m t Am N cm w3.heap.size d At nt ct W (Nat.le_refl _) (hD3.below hb) (good_fit HGd.out) hb.size hN64 (hHt.below hb) hts2)
      have HLt := Lib.hid (fun W d y (hb : Below w3.heap.size w3 W) => to_any m Am N cm w3.heap.size d y W (hD3.below hb) hb.size hN64)
      have HRt := Lib.hid (fun W d y (hb : Below w3.heap.size w3 W) => rto_any m Am N cm w3.heap.size d y W (hD3.below hb) (good_fit HGd.out) hb.size hN64)
      have HNf := Lib.hid (fun W d (hb : Below w3.heap.size w3 W) => fits_any m .nil Am N cm w3.heap.size d none 0 0 W (hD3.below hb) (good_fit HGd.out) hb.size hN64 rfl (by simp [Tr.size]))
      have HNr := Lib.hid (fun W d (hb : Below w3.heap.size w3 W) => rfits_any 0 m .nil Am N cm w3.heap.size d none 0 0 W (Nat.le_refl _) (hD3.below hb) (good_fit HGd.out) hb.size hN64 rfl (by simp [Tr.size]))
      clear hD3 hHt hts hts2
      go_wp2_with fail
      go_loopw [11] (fun i wr => ∃ (k : Nat) (d : Int), k ≤ N + 2 ∧ i = .int .i64 d ∧ Hid (d = (k : Int) - 1) ∧ -1 ≤ d ∧ d ≤ 6 ∧ Below w3.heap.size w3 wr) (fun i _ => (7 - intOf i).toNat)
      case atStart => exact ⟨0, -1, by omega, rfl, Lib.hid rfl, by omega, by omega, Below.refl _ _⟩
      case round =>
        obtain ⟨k, d, hk, rfl, Hd, hd1, hd6, hbw⟩ := hrel
        by_cases hlt : d ≤ (N : Int)
        · obtain ⟨v1, hv1⟩ : ∃ v, v = lvl m d t := ⟨_, rfl⟩
          obtain ⟨v2, hv2⟩ : ∃ v, v = fits m d t := ⟨_, rfl⟩
          obtain ⟨v3, hv3⟩ : ∃ v, v = toS m d x.data.toList := ⟨_, rfl⟩
          obtain ⟨v4, hv4⟩ : ∃ v, v = toS m d (⟨#[97]⟩ : ByteArray).data.toList := ⟨_, rfl⟩
          have e1 : (v1 != v1) = false := by simp
          have e2 : (v2 != v2) = false := by simp
          have e3 : (v3 != v3) = false := by simp
          have e4 : (v4 != v4) = false := by simp
          have G1 := Lib.hid (fun W (hb : Below w3.heap.size w3 W) => HLv.out W d hb)
          have G2 := Lib.hid (fun W (hb : Below w3.heap.size w3 W) => HRv.out W d hb)
          have G3 := Lib.hid (fun W (hb : Below w3.heap.size w3 W) => HLf.out W d hb)
          have G4 := Lib.hid (fun W (hb : Below w3.heap.size w3 W) => HRf.out W d hb)
          have G5 := Lib.hid (fun W (hb : Below w3.heap.size w3 W) => HLt.out W d x hb)
          have G6 := Lib.hid (fun W (hb : Below w3.heap.size w3 W) => HRt.out W d x hb)
          have G7 := Lib.hid (fun W (hb : Below w3.heap.size w3 W) => HLt.out W d ⟨#[97]⟩ hb)
          have G8 := Lib.hid (fun W (hb : Below w3.heap.size w3 W) => HRt.out W d ⟨#[97]⟩ hb)
          rw [← hv1] at G1 G2
          rw [← hv2] at G3 G4
          rw [← hv3] at G5 G6
          rw [← hv4] at G7 G8
          clear hv1 hv2 hv3 hv4
          go_wp2_with fail
          (with_reducible refine (G1.out _ hbw).mono ?_)
          rintro e u1 ⟨rfl, z1⟩
          have y1 := hbw.trans (z1.mono hbw.size)
          go_wp2_with fail
          (with_reducible refine (G2.out _ y1).mono ?_)
          rintro e u2 ⟨rfl, z2⟩
          have y2 := y1.trans (z2.mono y1.size)
          go_wp2_with fail
          (with_reducible refine (G3.out _ y2).mono ?_)
          rintro e u3 ⟨rfl, z3⟩
          have y3 := y2.trans (z3.mono y2.size)
          go_wp2_with fail
          (with_reducible refine (G4.out _ y3).mono ?_)
          rintro e u4 ⟨rfl, z4⟩
          have y4 := y3.trans (z4.mono y3.size)
          go_wp2_with fail
          (with_reducible refine (G5.out _ y4).mono ?_)
          rintro e u5 ⟨rfl, z5⟩
          have y5 := y4.trans (z5.mono y4.size)
          go_wp2_with fail
          (with_reducible refine (G6.out _ y5).mono ?_)
          rintro e u6 ⟨rfl, z6⟩
          have y6 := y5.trans (z6.mono y5.size)
          go_wp2_with fail
          (with_reducible refine (G7.out _ y6).mono ?_)
          rintro e u7 ⟨rfl, z7⟩
          have y7 := y6.trans (z7.mono y6.size)
          go_wp2_with fail
          (with_reducible refine (G8.out _ y7).mono ?_)
          rintro e u8 ⟨rfl, z8⟩
          have y8 := y7.trans (z8.mono y7.size)
          go_wp2_with fail
          go_roundw
          case rel => exact ⟨k + 1, d + 1, by have := Hd.out; omega, rfl, Lib.hid (by have := Hd.out; omega), by omega, by omega, y8⟩
          case measure => simp [intOf]; omega
        · have hgt : (N : Int) < d := by omega
          have G1 := Lib.hid (fun W (hb : Below w3.heap.size w3 W) => HNf.out W def_ hb)
          have G2 := Lib.hid (fun W (hb : Below w3.heap.size w3 W) => HNr.out W def_ hb)
          obtain ⟨v1, hv1⟩ : ∃ v, v = fits m def_ .nil := ⟨_, rfl⟩
          rw [← hv1] at G1 G2
          have e1 : (v1 == v1) = true := by simp
          clear hv1
          go_wp2_with fail
          (with_reducible refine (G1.out _ hbw).mono ?_)
          rintro e u1 ⟨rfl, z1⟩
          have y1 := hbw.trans (z1.mono hbw.size)
          go_wp2_with fail
          (with_reducible refine (G2.out _ y1).mono ?_)
          rintro e u2 ⟨rfl, z2⟩
          have y2 := y1.trans (z2.mono y1.size)
          go_wp2_with fail
          go_ret
          exact ⟨by first | rfl | simp, hb123.trans (y2.mono hb123.size)⟩
    · rw [decide_eq_false hr] at HF2
      clear h hh hheld hf hr hre
      go_enter Try.func11, Try.ntmps11
      go_wp2_with fail
      (with_reducible refine (known_any _).mono ?_)
      rintro e w1 ⟨rfl, hb1⟩
      go_wp2_with fail
      (with_reducible refine (HF1.out _ hb1).mono ?_)
      rintro e w2 ⟨rfl, rfl⟩
      go_wp2_with fail
      (with_reducible refine (HF2.out _ hb1).mono ?_)
      rintro e w2 ⟨rfl, rfl⟩
      go_wp2_with fail
      go_ret
      exact ⟨rfl, hb1⟩
end Go.Proofs.Ytagoeededpmdkaa.Sc
