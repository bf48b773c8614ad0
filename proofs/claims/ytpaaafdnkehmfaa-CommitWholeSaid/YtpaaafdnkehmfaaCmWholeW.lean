/- CommitWhole, walked. No conditions. -/
import Derived.Test.YtpaaafdnkehmfaaCmWholeM
namespace Go.Proofs.Ytpaaafdnkehmfaa.Vf
open Go.RowKit
set_option maxRecDepth 100000

theorem good3 {A : Option Addr} {n c : Nat} {l : FL} {w W : World} (h : Fr w (fun g => g < w.heap.size) A n l) (hb : Below w.heap.size w W) (hn : n ≤ maxLen) : Calls Try.prog 25 #[.slice A n c, .int .i64 3] W fun e w' => ∃ A' N c', e = .returned (.slice A' N c') ∧ Fr w' (fun g => g < w'.heap.size) A' N (gd (goodC 3 l)) ∧ N ≤ c' ∧ N ≤ 4 ∧ Below W.heap.size W w' :=
  good_any l A n c 3 W ((h.below hb).more fun _ hg => Nat.lt_of_lt_of_le hg hb.size) (by decide) hn
/-- 1 + within. -/
theorem one_within (a : Int) (m : Int) (hm : 0 < m) (hm2 : m ≤ 100) (h1 : -9223372036854775808 ≤ a) (h2 : a ≤ 9223372036854775807) : ∃ z : Int, (0 ≤ z ∧ z < 100) ∧ wrap64 (1 + z) = 1 + z ∧ ∀ w : World, Calls Try.prog 28 #[.int .i64 a, .int .i64 m] w fun e w' => e = .returned (.int .i64 z) ∧ w = w' :=
  ⟨a % m, by have := Int.emod_nonneg a (show m ≠ 0 by omega); have := Int.emod_lt_of_pos a hm; omega, by have := Int.emod_nonneg a (show m ≠ 0 by omega); have := Int.emod_lt_of_pos a hm; unfold wrap64; omega, fun w => within16_any a m hm (by omega) h1 h2 w⟩
set_option maxHeartbeats 16000000 in
theorem commitWhole_walk (A : Option Addr) (n c : Nat) (l : FL) (A2 : Option Addr) (n2 c2 : Nat) (l2 : FL) (a : Int) (Ak : Option Addr) (nk ck : Nat) (kl : List Int) (As : Option Addr) (ns cs : Nat) (sl : List Int) (Ar : Option Addr) (nr cr : Nat) (rl : List Int) (w : World)
    (hF : Fr w (fun g => g < w.heap.size) A n l) (hn : n ≤ maxLen) (hF2 : Fr w (fun g => g < w.heap.size) A2 n2 l2) (hn2 : n2 ≤ maxLen) (ha : -9223372036854775808 ≤ a ∧ a ≤ 9223372036854775807)
    (hK : SeesV w w.heap.size Ak nk (kl.map (Value.int .i64))) (hS : SeesV w w.heap.size As ns (sl.map (Value.int .i64))) (hSr : ∀ x ∈ sl, -9223372036854775808 ≤ x ∧ x ≤ 9223372036854775807) (hR : SeesV w w.heap.size Ar nr (rl.map (Value.int .i64))) :
    Calls Try.prog 5 #[.slice A n c, .slice A2 n2 c2, .int .i64 a, .slice Ak nk ck, .slice As ns cs, .slice Ar nr cr] w fun e w' => e = .returned (.bool true) ∧ Below w.heap.size w w' := by
  have hnl := hF.len
  have hnl2 := hF2.len
  obtain ⟨z, hz, hzw, hwi⟩ := one_within a 16 (by decide) (by decide) ha.1 ha.2
  have HW1 := Lib.hid (fun W hb => few16 (c := c) (W := W) hF hb hn)
  have HW2 := Lib.hid (fun W hb => few16 (c := c2) (W := W) hF2 hb hn2)
  have HG1 := Lib.hid (fun W hb => good4 (c := c) (W := W) hF hb hn)
  have HG2 := Lib.hid (fun W hb => good3 (c := c2) (W := W) hF2 hb hn2)
  have HL1 := Lib.hid hnl
  have HL2 := Lib.hid hnl2
  have HK := Lib.hid hK
  have HS := Lib.hid hS
  have HSR := Lib.hid hSr
  have HR := Lib.hid hR
  have HZ := Lib.hid hz
  have HWI := Lib.hid hwi
  clear hF hF2 hn hn2 hnl hnl2 ha hK hS hSr hR hz hwi
  cases hf1 : fewB l with
  | false =>
    rw [hf1] at HW1
    clear hf1
    go_enter Try.func5, Try.ntmps5
    go_wp2_with (first
      | (go_at_call 23; (with_reducible refine (known16_any _).mono ?_); rintro e w1 ⟨rfl, hb1⟩; have HB1 := Lib.hid hb1; clear hb1)
      | (go_at_call 24; (with_reducible refine (HW1.out _ HB1.out).mono ?_); rintro e w2 ⟨rfl, rfl⟩))
    go_ret
    exact ⟨rfl, HB1.out⟩
  | true =>
  cases hf2 : fewB l2 with
  | false =>
    rw [hf1] at HW1
    rw [hf2] at HW2
    clear hf1 hf2
    go_enter Try.func5, Try.ntmps5
    go_wp2_with (first
      | (go_at_call 23; (with_reducible refine (known16_any _).mono ?_); rintro e w1 ⟨rfl, hb1⟩; have HB1 := Lib.hid hb1; clear hb1)
      | (go_at_call 24; (with_reducible refine (HW1.out _ HB1.out).mono ?_); rintro e w2 ⟨rfl, rfl⟩)
      | (go_at_call 24; (with_reducible refine (HW2.out _ HB1.out).mono ?_); rintro e w2 ⟨rfl, rfl⟩))
    go_ret
    exact ⟨rfl, HB1.out⟩
  | true =>
  rw [hf1] at HW1
  rw [hf2] at HW2
  have hk1 := (few_ok hf1).1
  have hk2 := (few_ok hf2).1
  clear hf1 hf2
  by_cases h02 : n2 = 0
  · have q2 : ((n2 : Int) == 0) = true := by simp [h02]
    clear h02 hk1 hk2
    go_enter Try.func5, Try.ntmps5
    go_wp2_with (first
      | (go_at_call 23; (with_reducible refine (known16_any _).mono ?_); rintro e w1 ⟨rfl, hb1⟩; have HB1 := Lib.hid hb1; clear hb1)
      | (go_at_call 24; (with_reducible refine (HW1.out _ HB1.out).mono ?_); rintro e w2 ⟨rfl, rfl⟩)
      | (go_at_call 24; (with_reducible refine (HW2.out _ HB1.out).mono ?_); rintro e w2 ⟨rfl, rfl⟩))
    go_ret
    exact ⟨rfl, HB1.out⟩
  have q2 : ((n2 : Int) == 0) = false := by simp [h02]
  obtain ⟨ca, hca⟩ : ∃ ca, ca = goodC 4 l := ⟨_, rfl⟩
  obtain ⟨cb, hcb⟩ : ∃ cb, cb = goodC 3 l2 := ⟨_, rfl⟩
  have k1 : C60 ca := hca ▸ goodC_60 (Nat.le_refl _) l
  have k2 : C60 cb := hcb ▸ goodC_60 (by decide) l2
  have n2' : 1 ≤ cb.length := by rw [hcb, goodC_length]; have := HL2.out; omega
  rw [← hca] at HG1
  rw [← hcb] at HG2
  obtain ⟨V1, j1, e1, e1'⟩ := first_commit k1
  have HK1 := Lib.hid k1
  have HK2 := Lib.hid k2
  have HN2 := Lib.hid n2'
  have HE1 := Lib.hid e1
  have HE1' := Lib.hid e1'
  have HJ1 := Lib.hid j1
  clear h02 hk1 hk2 hca hcb k1 k2 n2' e1 e1' j1
  go_enter Try.func5, Try.ntmps5
  go_upto_region 7 with (first
    | (go_at_call 23; (with_reducible refine (known16_any _).mono ?_); rintro e w1 ⟨rfl, hb1⟩; have HB1 := Lib.hid hb1; clear hb1)
    | (go_at_call 24; (with_reducible refine (HW1.out _ HB1.out).mono ?_); rintro e w2 ⟨rfl, rfl⟩)
    | (go_at_call 24; (with_reducible refine (HW2.out _ HB1.out).mono ?_); rintro e w2 ⟨rfl, rfl⟩)
    | (go_at_call 14; (with_reducible refine (new_any _ _).mono ?_); rintro e w2 ⟨rfl, hbx2, hb2, hz2⟩; have HX2 := Lib.hid hbx2; have HB2 := Lib.hid (HB1.out.trans (hb2.mono HB1.out.size)); clear hbx2 hb2 hz2)
    | (go_at_call 25; (with_reducible refine (HG1.out _ HB2.out).mono ?_); rintro e w3 ⟨A3, N3, c3, rfl, hF3, hnc3, hn3, hb3⟩; have HX3 := Lib.hid (HX2.out.below hb3 HX2.out.lt); have HF3 := Lib.hid hF3; have HB3 := Lib.hid (HB2.out.trans (hb3.mono HB2.out.size)); have HC3 := Lib.hid (And.intro hnc3 hn3); clear hF3 hb3 hnc3 hn3)
    | (go_at_call 25; (with_reducible refine (HG2.out _ HB3.out).mono ?_); rintro e w4 ⟨A4, N4, c4, rfl, hF4, hnc4, hn4, hb4⟩; have HX4 := Lib.hid (HX3.out.below hb4 HX3.out.lt); have HF4 := Lib.hid hF4; have HF34 := Lib.hid ((HF3.out.below hb4).more fun g hg => Nat.lt_of_lt_of_le hg hb4.size); have HB4 := Lib.hid (HB3.out.trans (hb4.mono HB3.out.size)); have HC4 := Lib.hid (And.intro hnc4 hn4); clear hF4 hb4 hnc4 hn4))
  clear q2
  obtain ⟨p, hp⟩ : ∃ p, p = w1.heap.size := ⟨_, rfl⟩
  rw [← hp]
  have hx4 := HX4.out
  rw [← hp] at hx4
  have hwp : w.heap.size ≤ p := by rw [hp]; exact HB1.out.size
  have hv4 := Vs.new hx4
  have f3 : Fr w4 (Pl w4.heap.size p) A3 N3 (gd ca) := (HF34.out.off hx4).more fun _ h => h
  have f4 : Fr w4 (Pl w4.heap.size p) A4 N4 (gd cb) := (HF4.out.off hx4).more fun _ h => h
  have hN3 : N3 = ca.length := by have := HF34.out.len; rwa [gd_length HK1.out.cnt] at this
  have hwb := HB4.out.size
  have hKK : SeesV w4 w.heap.size Ak nk (kl.map (Value.int .i64)) := HK.out.keep fun q hq => HB4.out.cell hq
  have hRR : SeesV w4 w.heap.size Ar nr (rl.map (Value.int .i64)) := HR.out.keep fun q hq => HB4.out.cell hq
  have hSS : SeesV w4 w.heap.size As ns (sl.map (Value.int .i64)) := HS.out.keep fun q hq => HB4.out.cell hq
  have HV4 := Lib.hid hv4
  have HF3' := Lib.hid f3
  have HF4' := Lib.hid f4
  have HN3 := Lib.hid hN3
  have HKK := Lib.hid hKK
  have HRR := Lib.hid hRR
  have HSS := Lib.hid hSS
  have HWP := Lib.hid hwp
  clear hx4 hv4 f3 f4 hKK hRR hSS hwp hp hN3
  have hfirst : ∃ N, N ≤ 300000 ∧ (0 < N3 → Calls Try.prog 26 #[.pointer (some ⟨p, 0, none⟩), .slice A3 N3 c3] w4 fun e w' => e = .returned (.int .i64 0) ∧ Vs w4 w' w4.heap.size p N V1) ∧ (N3 = 0 → Vs w4 w4 w4.heap.size p N V1) := by
    by_cases h0 : 0 < N3
    · refine ⟨300000, Nat.le_refl _, fun _ => ?_, fun e => by omega⟩
      have h := HV4.out.commit (c := c3) (Nat.le_refl _) HF3'.out (by have := HC3.out; omega) HC3.out.1 (by decide)
      rw [HE1.out (by have := HN3.out; omega)] at h
      exact h
    · refine ⟨0, Nat.zero_le _, fun e => absurd e h0, fun e => ?_⟩
      rw [HE1'.out (by have := HN3.out; omega)]
      exact HV4.out
  obtain ⟨M1, hM1, hfa, hfb⟩ := hfirst
  have HM1 := Lib.hid hM1
  have HFA := Lib.hid hfa
  have HFB := Lib.hid hfb
  clear hM1 hfa hfb
  have hmain : ∀ W, Vs w4 W w4.heap.size p M1 V1 → ∃ (d : Bool) (V2 V3 : Vm), V3 = V2.crash kl ∧ Jv ca cb d V3 ∧
      Calls Try.prog 27 #[.pointer (some ⟨p, 0, none⟩), .int .i64 (1 + z)] W (fun e w' => e = .returned (.tuple #[]) ∧ Vs w4 w' w4.heap.size p M1 (V1.stopAt (1 + z))) ∧
      (∀ W', Vs w4 W' w4.heap.size p M1 (V1.stopAt (1 + z)) → Calls Try.prog 26 #[.pointer (some ⟨p, 0, none⟩), .slice A4 N4 c4] W' fun e w' => ∃ x : Int, e = .returned (.int .i64 x) ∧ (x == 0) = d ∧ Vs w4 w' w4.heap.size p 600000 V2) := fun W hv => by
    obtain ⟨d, hd, hj⟩ := second_commit HK1.out HK2.out HN2.out HJ1.out (1 + z) kl
    refine ⟨d, _, _, rfl, hj, hv.stopf _ (by have := HZ.out; omega), fun W' hv' => ?_⟩
    refine (hv'.commit (c := c4) (Nat.le_refl _) HF4'.out (by have := HC4.out; omega) HC4.out.1 (by have := HM1.out; omega)).mono ?_
    rintro e w' ⟨h1, h2⟩
    exact ⟨_, h1, hd, h2.vp, h2.lim.more (by have := HM1.out; omega), h2.mo⟩
  have hcr : ∀ W V, Vs w4 W w4.heap.size p 600000 V → Calls Try.prog 20 #[.pointer (some ⟨p, 0, none⟩), .slice Ak nk ck] W fun e w' => e = .returned (.tuple #[]) ∧ Vs w4 w' w4.heap.size p 600000 (V.crash kl) := fun W V hv => hv.crashf (by decide) HKK.out hwb HWP.out hwb
  have hcr2 : ∀ W V N, N ≤ 5000000 → Vs w4 W w4.heap.size p N V → Calls Try.prog 20 #[.pointer (some ⟨p, 0, none⟩), .slice Ar nr cr] W fun e w' => e = .returned (.tuple #[]) ∧ Vs w4 w' w4.heap.size p N (V.crash rl) := fun W V N hN hv => hv.crashf (by omega) HRR.out hwb HWP.out hwb
  have hrc : ∀ W V N, N ≤ 5000000 → Vs w4 W w4.heap.size p N V → Calls Try.prog 29 #[.pointer (some ⟨p, 0, none⟩)] W fun e w' => e = .returned (.int .i64 (rcv V).1) ∧ Vs w4 w' w4.heap.size p (N + 300000) (rcv V).2 := fun W V N hN hv => hv.recover (by omega)
  have HMAIN := Lib.hid hmain
  have HCR := Lib.hid hcr
  have HCR2 := Lib.hid hcr2
  have HRC := Lib.hid hrc
  have HWB := Lib.hid hwb
  clear hmain hcr hcr2 hrc hwb
  by_cases hN0 : 0 < N3
  · have hN0' : (0 : Int) < (N3 : Int) := by omega
    have hca := HFA.out hN0
    have HCA := Lib.hid hca
    clear hca hN0
    go_upto_region 9 with (go_at_call 26; (with_reducible refine HCA.out.mono ?_); rintro e w5 ⟨rfl, hv5⟩)
    obtain ⟨d, V2, V3, hV3, hj, hst, hcm⟩ := HMAIN.out _ hv5
    have HV3 := Lib.hid hV3
    have HJV := Lib.hid hj
    have HST := Lib.hid hst
    have HCM := Lib.hid hcm
    clear hV3 hj hst hcm hv5
    go_upto_region 12 with (first
      | (go_at_call 28; (with_reducible refine (HWI.out _).mono ?_); rintro e wz ⟨rfl, rfl⟩)
      | (go_at_call 27; (with_reducible refine HST.out.mono ?_); rintro e w6 ⟨rfl, hv6⟩; have HV6 := Lib.hid hv6; clear hv6)
      | (go_at_call 26; (with_reducible refine (HCM.out _ HV6.out).mono ?_); rintro e w7 ⟨x, rfl, hx, hv7⟩; have HV7 := Lib.hid hv7; clear hv7)
      | (go_at_call 20; (with_reducible refine (HCR.out _ _ HV7.out).mono ?_); rintro e w8 ⟨rfl, hv8⟩; rw [← HV3.out] at hv8; have HV8 := Lib.hid hv8; clear hv8))
    go_wp2_with fail
    go_loopw [17] (fun i wr => ∃ (k N : Nat) (V : Vm), k ≤ 6 ∧ k ≤ ns ∧ i = .int .i64 (k : Int) ∧ Hid (N ≤ 600000 + 300000 * k ∧ Vs w4 wr w4.heap.size p N V ∧ Jv ca cb d V)) (fun i _ => 6 - (intOf i).toNat)
    case atStart => exact ⟨0, 600000, V3, by omega, Nat.zero_le _, rfl, Lib.hid ⟨by omega, HV8.out, HJV.out⟩⟩
    case round =>
      obtain ⟨k, N, V, hk, hkn, rfl, HI⟩ := hrel
      by_cases hlt : k < ns ∧ k < 6
      · obtain ⟨xs, hxs⟩ : ∃ x, sl[k]? = some x := ⟨_, List.getElem?_eq_getElem (by have := HSS.out.len; rw [List.length_map] at this; omega)⟩
        obtain ⟨b, o, rfl, hbl, hcl⟩ := HSS.out.cell k (.int .i64 xs) (by rw [List.getElem?_map, hxs]; rfl)
        have hcell : wr.cell? ⟨b, o + k, none⟩ = some (.int .i64 xs) := ((HI.out.2.1.toB HWB.out HWP.out HWB.out).cell (p := ⟨b, o + k, none⟩) hbl).trans hcl
        have hxr := HSR.out xs (List.mem_of_getElem? hxs)
        obtain ⟨z2, hz2, hzw2, hwi2⟩ := one_within xs 9 (by decide) (by decide) hxr.1 hxr.2
        have hk1 : (k : Int) < (ns : Int) := by omega
        have hk2 : (k : Int) < 6 := by omega
        have hk0 : (0 : Int) ≤ (k : Int) := by omega
        have hst2 := HI.out.2.1.stopf (1 + z2) (by omega)
        have hN5 : N ≤ 5000000 := by have := HI.out.1; omega
        have HN5 := Lib.hid hN5
        have HST2 := Lib.hid hst2
        have HWI2 := Lib.hid hwi2
        have HLT := Lib.hid hlt
        clear hst2 hwi2 hlt hxs hcl hxr hN5 hz2
        go_wp2_with (first
          | (go_at_call 28; (with_reducible refine (HWI2.out _).mono ?_); rintro e wz ⟨rfl, rfl⟩)
          | (go_at_call 27; (with_reducible refine HST2.out.mono ?_); rintro e w9 ⟨rfl, hv9⟩; have HV9 := Lib.hid hv9; clear hv9)
          | (go_at_call 29; (with_reducible refine (HRC.out _ _ _ HN5.out HV9.out).mono ?_); rintro e w10 ⟨rfl, hv10⟩; have HV10 := Lib.hid hv10; clear hv10)
          | (go_at_call 20; (with_reducible refine (HCR2.out _ _ _ (by have := HI.out.1; omega) HV10.out).mono ?_); rintro e w11 ⟨rfl, hv11⟩; have HV11 := Lib.hid hv11; clear hv11))
        go_roundw
        case rel => exact ⟨k + 1, N + 300000, _, by have := HLT.out; omega, by have := HLT.out; omega, by go_num, Lib.hid ⟨by have := HI.out.1; omega, HV11.out, HI.out.2.2.step HK2.out HN2.out (1 + z2) rl⟩⟩
        case measure => have := HLT.out; simp [intOf]; omega
      · obtain ⟨hl1, hl2, hl3⟩ := HI.out.2.2.last HK1.out HK2.out HN2.out
        have hN5 : N ≤ 5000000 := by have := HI.out.1; omega
        have hrc := HRC.out _ _ _ hN5 HI.out.2.1
        rw [hl1] at hrc
        obtain ⟨V4, hV4⟩ : ∃ V4, V4 = (rcv V).2 := ⟨_, rfl⟩
        rw [← hV4] at hrc hl2 hl3
        have his : ∀ W, Vs w4 W w4.heap.size p (N + 300000) V4 → Calls Try.prog 30 #[.pointer (some ⟨p, 0, none⟩), .slice A3 N3 c3, .slice A4 N4 c4] W fun e w' => ∃ r : Bool, e = .returned (.bool r) ∧ (IsP V4.now (gd ca) (gd cb) → r = true) ∧ Vs w4 w' w4.heap.size p (N + 300000) V4 := fun W hv => hv.isf (by omega) hl2 (Nat.le_refl _) HF3'.out HF4'.out HK1.out.few HK2.out.few
        have his2 : ∀ W, Vs w4 W w4.heap.size p (N + 300000) V4 → Calls Try.prog 30 #[.pointer (some ⟨p, 0, none⟩), .slice A3 N3 c3, .slice none 0 0] W fun e w' => ∃ r : Bool, e = .returned (.bool r) ∧ (IsP V4.now (gd ca) [] → r = true) ∧ Vs w4 w' w4.heap.size p (N + 300000) V4 := fun W hv => hv.isf (by omega) hl2 (Nat.le_refl _) HF3'.out (fr_nil _ _ _) HK1.out.few ⟨Nat.zero_le _, fun _ h => by cases h⟩
        have HRCV := Lib.hid hrc
        have HIS := Lib.hid his
        have HIS2 := Lib.hid his2
        have HLAST := Lib.hid hl3
        have hfin : ∀ W, Vs w4 W w4.heap.size p (N + 300000) V4 → Below w.heap.size w W := fun W hv => HB4.out.trans (hv.toB HWB.out HWP.out HWB.out)
        have HFIN := Lib.hid hfin
        clear hrc his his2 hl1 hl2 hl3 hN5 hfin hV4
        by_cases hkn2 : k < ns
        · have hk1 : (k : Int) < (ns : Int) := by omega
          have hk2 : ¬ (k : Int) < 6 := by omega
          rcases HLAST.out with hnow | ⟨hd, hnow⟩
          · have HP1 := Lib.hid (show IsP V4.now (gd ca) (gd cb) by rw [hnow]; exact isP_gd HK2.out HK1.out)
            clear hnow
            go_wp2_with (first
              | (go_at_call 29; (with_reducible refine HRCV.out.mono ?_); rintro e w12 ⟨rfl, hv12⟩; have HV12 := Lib.hid hv12; clear hv12)
              | (go_at_call 30; (with_reducible refine (HIS.out _ HV12.out).mono ?_); rintro e w13 ⟨r, rfl, hr, hv13⟩; have hrt := hr HP1.out; subst hrt; have HV13 := Lib.hid hv13; clear hv13 hr))
            go_ret
            exact ⟨rfl, HFIN.out _ HV13.out⟩
          · have HP1 := Lib.hid (show IsP V4.now (gd ca) [] by rw [hnow]; exact isP_self HK1.out)
            subst hd
            clear hnow
            go_wp2_with (go_at_call 29; (with_reducible refine HRCV.out.mono ?_); rintro e w12 ⟨rfl, hv12⟩; have HV12 := Lib.hid hv12; clear hv12)
            (with_reducible refine (HIS.out _ HV12.out).mono ?_)
            rintro e w13 ⟨r, rfl, -, hv13⟩
            have HV13 := Lib.hid hv13
            clear hv13
            cases r with
            | true =>
              go_wp2_with fail
              go_ret
              exact ⟨rfl, HFIN.out _ HV13.out⟩
            | false =>
              go_wp2_with (go_at_call 30; (with_reducible refine (HIS2.out _ HV13.out).mono ?_); rintro e w14 ⟨r2, rfl, hr2, hv14⟩; have hrt := hr2 HP1.out; subst hrt; have HV14 := Lib.hid hv14; clear hv14 hr2)
              go_ret
              exact ⟨rfl, HFIN.out _ HV14.out⟩
        · have hk1 : ¬ (k : Int) < (ns : Int) := by omega
          rcases HLAST.out with hnow | ⟨hd, hnow⟩
          · have HP1 := Lib.hid (show IsP V4.now (gd ca) (gd cb) by rw [hnow]; exact isP_gd HK2.out HK1.out)
            clear hnow
            go_wp2_with (first
              | (go_at_call 29; (with_reducible refine HRCV.out.mono ?_); rintro e w12 ⟨rfl, hv12⟩; have HV12 := Lib.hid hv12; clear hv12)
              | (go_at_call 30; (with_reducible refine (HIS.out _ HV12.out).mono ?_); rintro e w13 ⟨r, rfl, hr, hv13⟩; have hrt := hr HP1.out; subst hrt; have HV13 := Lib.hid hv13; clear hv13 hr))
            go_ret
            exact ⟨rfl, HFIN.out _ HV13.out⟩
          · have HP1 := Lib.hid (show IsP V4.now (gd ca) [] by rw [hnow]; exact isP_self HK1.out)
            subst hd
            clear hnow
            go_wp2_with (go_at_call 29; (with_reducible refine HRCV.out.mono ?_); rintro e w12 ⟨rfl, hv12⟩; have HV12 := Lib.hid hv12; clear hv12)
            (with_reducible refine (HIS.out _ HV12.out).mono ?_)
            rintro e w13 ⟨r, rfl, -, hv13⟩
            have HV13 := Lib.hid hv13
            clear hv13
            cases r with
            | true =>
              go_wp2_with fail
              go_ret
              exact ⟨rfl, HFIN.out _ HV13.out⟩
            | false =>
              go_wp2_with (go_at_call 30; (with_reducible refine (HIS2.out _ HV13.out).mono ?_); rintro e w14 ⟨r2, rfl, hr2, hv14⟩; have hrt := hr2 HP1.out; subst hrt; have HV14 := Lib.hid hv14; clear hv14 hr2)
              go_ret
              exact ⟨rfl, HFIN.out _ HV14.out⟩
  · have hN0' : ¬ (0 : Int) < (N3 : Int) := by omega
    have hv5 := HFB.out (by omega)
    obtain ⟨d, V2, V3, hV3, hj, hst, hcm⟩ := HMAIN.out _ hv5
    have HV3 := Lib.hid hV3
    have HJV := Lib.hid hj
    have HST := Lib.hid hst
    have HCM := Lib.hid hcm
    clear hV3 hj hst hcm hv5 hN0
    go_upto_region 12 with (first
      | (go_at_call 28; (with_reducible refine (HWI.out _).mono ?_); rintro e wz ⟨rfl, rfl⟩)
      | (go_at_call 27; (with_reducible refine HST.out.mono ?_); rintro e w6 ⟨rfl, hv6⟩; have HV6 := Lib.hid hv6; clear hv6)
      | (go_at_call 26; (with_reducible refine (HCM.out _ HV6.out).mono ?_); rintro e w7 ⟨x, rfl, hx, hv7⟩; have HV7 := Lib.hid hv7; clear hv7)
      | (go_at_call 20; (with_reducible refine (HCR.out _ _ HV7.out).mono ?_); rintro e w8 ⟨rfl, hv8⟩; rw [← HV3.out] at hv8; have HV8 := Lib.hid hv8; clear hv8))
    go_wp2_with fail
    go_loopw [17] (fun i wr => ∃ (k N : Nat) (V : Vm), k ≤ 6 ∧ k ≤ ns ∧ i = .int .i64 (k : Int) ∧ Hid (N ≤ 600000 + 300000 * k ∧ Vs w4 wr w4.heap.size p N V ∧ Jv ca cb d V)) (fun i _ => 6 - (intOf i).toNat)
    case atStart => exact ⟨0, 600000, V3, by omega, Nat.zero_le _, rfl, Lib.hid ⟨by omega, HV8.out, HJV.out⟩⟩
    case round =>
      obtain ⟨k, N, V, hk, hkn, rfl, HI⟩ := hrel
      by_cases hlt : k < ns ∧ k < 6
      · obtain ⟨xs, hxs⟩ : ∃ x, sl[k]? = some x := ⟨_, List.getElem?_eq_getElem (by have := HSS.out.len; rw [List.length_map] at this; omega)⟩
        obtain ⟨b, o, rfl, hbl, hcl⟩ := HSS.out.cell k (.int .i64 xs) (by rw [List.getElem?_map, hxs]; rfl)
        have hcell : wr.cell? ⟨b, o + k, none⟩ = some (.int .i64 xs) := ((HI.out.2.1.toB HWB.out HWP.out HWB.out).cell (p := ⟨b, o + k, none⟩) hbl).trans hcl
        have hxr := HSR.out xs (List.mem_of_getElem? hxs)
        obtain ⟨z2, hz2, hzw2, hwi2⟩ := one_within xs 9 (by decide) (by decide) hxr.1 hxr.2
        have hk1 : (k : Int) < (ns : Int) := by omega
        have hk2 : (k : Int) < 6 := by omega
        have hk0 : (0 : Int) ≤ (k : Int) := by omega
        have hst2 := HI.out.2.1.stopf (1 + z2) (by omega)
        have hN5 : N ≤ 5000000 := by have := HI.out.1; omega
        have HN5 := Lib.hid hN5
        have HST2 := Lib.hid hst2
        have HWI2 := Lib.hid hwi2
        have HLT := Lib.hid hlt
        clear hst2 hwi2 hlt hxs hcl hxr hN5 hz2
        go_wp2_with (first
          | (go_at_call 28; (with_reducible refine (HWI2.out _).mono ?_); rintro e wz ⟨rfl, rfl⟩)
          | (go_at_call 27; (with_reducible refine HST2.out.mono ?_); rintro e w9 ⟨rfl, hv9⟩; have HV9 := Lib.hid hv9; clear hv9)
          | (go_at_call 29; (with_reducible refine (HRC.out _ _ _ HN5.out HV9.out).mono ?_); rintro e w10 ⟨rfl, hv10⟩; have HV10 := Lib.hid hv10; clear hv10)
          | (go_at_call 20; (with_reducible refine (HCR2.out _ _ _ (by have := HI.out.1; omega) HV10.out).mono ?_); rintro e w11 ⟨rfl, hv11⟩; have HV11 := Lib.hid hv11; clear hv11))
        go_roundw
        case rel => exact ⟨k + 1, N + 300000, _, by have := HLT.out; omega, by have := HLT.out; omega, by go_num, Lib.hid ⟨by have := HI.out.1; omega, HV11.out, HI.out.2.2.step HK2.out HN2.out (1 + z2) rl⟩⟩
        case measure => have := HLT.out; simp [intOf]; omega
      · obtain ⟨hl1, hl2, hl3⟩ := HI.out.2.2.last HK1.out HK2.out HN2.out
        have hN5 : N ≤ 5000000 := by have := HI.out.1; omega
        have hrc := HRC.out _ _ _ hN5 HI.out.2.1
        rw [hl1] at hrc
        obtain ⟨V4, hV4⟩ : ∃ V4, V4 = (rcv V).2 := ⟨_, rfl⟩
        rw [← hV4] at hrc hl2 hl3
        have his : ∀ W, Vs w4 W w4.heap.size p (N + 300000) V4 → Calls Try.prog 30 #[.pointer (some ⟨p, 0, none⟩), .slice A3 N3 c3, .slice A4 N4 c4] W fun e w' => ∃ r : Bool, e = .returned (.bool r) ∧ (IsP V4.now (gd ca) (gd cb) → r = true) ∧ Vs w4 w' w4.heap.size p (N + 300000) V4 := fun W hv => hv.isf (by omega) hl2 (Nat.le_refl _) HF3'.out HF4'.out HK1.out.few HK2.out.few
        have his2 : ∀ W, Vs w4 W w4.heap.size p (N + 300000) V4 → Calls Try.prog 30 #[.pointer (some ⟨p, 0, none⟩), .slice A3 N3 c3, .slice none 0 0] W fun e w' => ∃ r : Bool, e = .returned (.bool r) ∧ (IsP V4.now (gd ca) [] → r = true) ∧ Vs w4 w' w4.heap.size p (N + 300000) V4 := fun W hv => hv.isf (by omega) hl2 (Nat.le_refl _) HF3'.out (fr_nil _ _ _) HK1.out.few ⟨Nat.zero_le _, fun _ h => by cases h⟩
        have HRCV := Lib.hid hrc
        have HIS := Lib.hid his
        have HIS2 := Lib.hid his2
        have HLAST := Lib.hid hl3
        have hfin : ∀ W, Vs w4 W w4.heap.size p (N + 300000) V4 → Below w.heap.size w W := fun W hv => HB4.out.trans (hv.toB HWB.out HWP.out HWB.out)
        have HFIN := Lib.hid hfin
        clear hrc his his2 hl1 hl2 hl3 hN5 hfin hV4
        by_cases hkn2 : k < ns
        · have hk1 : (k : Int) < (ns : Int) := by omega
          have hk2 : ¬ (k : Int) < 6 := by omega
          rcases HLAST.out with hnow | ⟨hd, hnow⟩
          · have HP1 := Lib.hid (show IsP V4.now (gd ca) (gd cb) by rw [hnow]; exact isP_gd HK2.out HK1.out)
            clear hnow
            go_wp2_with (first
              | (go_at_call 29; (with_reducible refine HRCV.out.mono ?_); rintro e w12 ⟨rfl, hv12⟩; have HV12 := Lib.hid hv12; clear hv12)
              | (go_at_call 30; (with_reducible refine (HIS.out _ HV12.out).mono ?_); rintro e w13 ⟨r, rfl, hr, hv13⟩; have hrt := hr HP1.out; subst hrt; have HV13 := Lib.hid hv13; clear hv13 hr))
            go_ret
            exact ⟨rfl, HFIN.out _ HV13.out⟩
          · have HP1 := Lib.hid (show IsP V4.now (gd ca) [] by rw [hnow]; exact isP_self HK1.out)
            subst hd
            clear hnow
            go_wp2_with (go_at_call 29; (with_reducible refine HRCV.out.mono ?_); rintro e w12 ⟨rfl, hv12⟩; have HV12 := Lib.hid hv12; clear hv12)
            (with_reducible refine (HIS.out _ HV12.out).mono ?_)
            rintro e w13 ⟨r, rfl, -, hv13⟩
            have HV13 := Lib.hid hv13
            clear hv13
            cases r with
            | true =>
              go_wp2_with fail
              go_ret
              exact ⟨rfl, HFIN.out _ HV13.out⟩
            | false =>
              go_wp2_with (go_at_call 30; (with_reducible refine (HIS2.out _ HV13.out).mono ?_); rintro e w14 ⟨r2, rfl, hr2, hv14⟩; have hrt := hr2 HP1.out; subst hrt; have HV14 := Lib.hid hv14; clear hv14 hr2)
              go_ret
              exact ⟨rfl, HFIN.out _ HV14.out⟩
        · have hk1 : ¬ (k : Int) < (ns : Int) := by omega
          rcases HLAST.out with hnow | ⟨hd, hnow⟩
          · have HP1 := Lib.hid (show IsP V4.now (gd ca) (gd cb) by rw [hnow]; exact isP_gd HK2.out HK1.out)
            clear hnow
            go_wp2_with (first
              | (go_at_call 29; (with_reducible refine HRCV.out.mono ?_); rintro e w12 ⟨rfl, hv12⟩; have HV12 := Lib.hid hv12; clear hv12)
              | (go_at_call 30; (with_reducible refine (HIS.out _ HV12.out).mono ?_); rintro e w13 ⟨r, rfl, hr, hv13⟩; have hrt := hr HP1.out; subst hrt; have HV13 := Lib.hid hv13; clear hv13 hr))
            go_ret
            exact ⟨rfl, HFIN.out _ HV13.out⟩
          · have HP1 := Lib.hid (show IsP V4.now (gd ca) [] by rw [hnow]; exact isP_self HK1.out)
            subst hd
            clear hnow
            go_wp2_with (go_at_call 29; (with_reducible refine HRCV.out.mono ?_); rintro e w12 ⟨rfl, hv12⟩; have HV12 := Lib.hid hv12; clear hv12)
            (with_reducible refine (HIS.out _ HV12.out).mono ?_)
            rintro e w13 ⟨r, rfl, -, hv13⟩
            have HV13 := Lib.hid hv13
            clear hv13
            cases r with
            | true =>
              go_wp2_with fail
              go_ret
              exact ⟨rfl, HFIN.out _ HV13.out⟩
            | false =>
              go_wp2_with (go_at_call 30; (with_reducible refine (HIS2.out _ HV13.out).mono ?_); rintro e w14 ⟨r2, rfl, hr2, hv14⟩; have hrt := hr2 HP1.out; subst hrt; have HV14 := Lib.hid hv14; clear hv14 hr2)
              go_ret
              exact ⟨rfl, HFIN.out _ HV14.out⟩

end Go.Proofs.Ytpaaafdnkehmfaa.Vf
