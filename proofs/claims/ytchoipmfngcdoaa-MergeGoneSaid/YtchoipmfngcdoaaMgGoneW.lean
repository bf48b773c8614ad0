/- MergeGone: the walk. No conditions. -/
import Derived.Test.YtchoipmfngcdoaaMgGoneL
namespace Go.Proofs.Ytchoipmfngcdoaa.Mg
open Go.RowKit Go.Proofs.Ytchoipmfngcdoaa.Pt Go.Proofs.Ytchoipmfngcdoaa.Df Go.Proofs.Ytchoipmfngcdoaa.Sc Go.Proofs.Ytchoipmfngcdoaa.Cl
set_option maxRecDepth 100000

set_option maxHeartbeats 8000000 in
theorem gone_walk (r s : Tr) (left : Bool) (A A2 : Option Addr) (n n2 c c2 : Nat) (w : World) (h : Holds w w.heap.size A n r) (h2 : Holds w w.heap.size A2 n2 s) (hc : n ≤ c) (hm : c ≤ maxLen) (hc2 : n2 ≤ c2) (hm2 : c2 ≤ maxLen) (hr : r.len ≤ 140737488351232 ∧ r.Fit) (hs : s.len ≤ 140737488351232 ∧ s.Fit) :
    Calls Try.prog 6 #[.slice A n c, .slice A2 n2 c2, .bool left] w fun e w' => e = .returned (.bool true) ∧ Below w.heap.size w w' := by
  have hn : n ≤ 140737488351232 := by rw [h.len]; exact hr.1
  have hn2 : n2 ≤ 140737488351232 := by rw [h2.len]; exact hs.1
  have HK := Lib.hid (known_any w)
  have hF := fun (W : World) (hW : Below w.heap.size w W) => few_any r A n c w.heap.size W (h.below hW) hW.size hn (fit_lowM hr.2)
  have hF2 := fun (W : World) (hW : Below w.heap.size w W) => few_any s A2 n2 c2 w.heap.size W (h2.below hW) hW.size hn2 (fit_lowM hs.2)
  by_cases h1c : r.count n 200 < 200
  · by_cases h2c : s.count n2 200 < 200
    · rw [decide_eq_true h1c] at hF
      rw [decide_eq_true h2c] at hF2
      have hrz := few_yes h.len h1c
      have hsz := few_yes h2.len h2c
      have HS := Lib.hid (fun (W : World) (hW : Below w.heap.size w W) => small_any 4 (by omega) 3 (by omega) 3 r A n c w.heap.size W rfl (h.below hW) hr.2 hW.size hc hm)
      have HS2 := Lib.hid (fun (W : World) (hW : Below w.heap.size w W) => small_any 4 (by omega) 3 (by omega) 3 s A2 n2 c2 w.heap.size W rfl (h2.below hW) hs.2 hW.size hc2 hm2)
      have HF := Lib.hid hF
      have HF2 := Lib.hid hF2
      clear hF hF2 h1c h2c h h2 hr hs hn hn2
      go_enter Try.func6, Try.ntmps6
      go_wp2_with fail
      (with_reducible refine HK.out.mono ?_)
      rintro e w1 ⟨rfl, hb1⟩
      have HB1 := Lib.hid hb1
      clear hb1
      go_wp2_with fail
      (with_reducible refine (HF.out w1 HB1.out).mono ?_)
      rintro e _ ⟨rfl, rfl⟩
      go_wp2_with fail
      (with_reducible refine (HF2.out w1 HB1.out).mono ?_)
      rintro e _ ⟨rfl, rfl⟩
      go_wp2_with fail
      refine (HS.out w1 HB1.out).mono ?_
      rintro e w2 ⟨Ao, no, co, old, rfl, ho1, ho2, ho3, ⟨ho4, ho5, ho6⟩, hb2⟩
      have HB2 := Lib.hid (HB1.out.trans (hb2.mono HB1.out.size))
      have Hoo := Lib.hid (show OkT w2 Ao no co old from ⟨ho1, ho2, ho3⟩)
      have Hao := Lib.hid ho5
      have Hzo := Lib.hid (show old.size ≤ 200 by omega)
      have Hdo := Lib.hid ho6
      clear ho1 hb2 ho5 ho4 ho6 ho2 ho3
      go_wp2_with fail
      refine (HS2.out w2 HB2.out).mono ?_
      rintro e w3 ⟨An, nn, cn, now, rfl, ho1, ho2, ho3, ⟨ho4, ho5, ho6⟩, hb3⟩
      have HB3 := Lib.hid (HB2.out.trans (hb3.mono HB2.out.size))
      have Hoo3 := Lib.hid (Hoo.out.below hb3)
      have Hon := Lib.hid (show OkT w3 An nn cn now from ⟨ho1, ho2, ho3⟩)
      have Han := Lib.hid ho5
      have Hzn := Lib.hid (show now.size ≤ 200 by omega)
      have Hdn := Lib.hid ho6
      clear ho1 hb3 ho5 ho4 ho6 ho2 ho3 hrz hsz
      -- the three rows
      obtain ⟨W1, hW1, hb1, hz1, g1, g2⟩ := boxes2 w3 [.string ⟨#[107]⟩, .slice Ao no co, .string ⟨#[122]⟩, .slice none 0 0] [.string ⟨#[122]⟩, .slice none 0 0] 51 51
      obtain ⟨W2, hW2, hb2, hz2, g3⟩ := box1 W1 [.string ⟨#[107]⟩, .slice An nn cn, .string ⟨#[122]⟩, .slice none 0 0] 51
      have hz1' : W1.heap.size = w3.heap.size + 1 + 1 := by omega
      rw [hz1'] at g3
      have hb12 := hb1.trans (hb2.mono hb1.size)
      have q1 := g1.below hb2 (by omega)
      have q2 := g2.below hb2 (by omega)
      have hB := (Hoo3.out.below hb12)
      have hN := (Hon.out.below hb12)
      have hH1 : OkT W2 (some ⟨w3.heap.size, 0, none⟩) 2 2 (kz old) := ⟨holds_kz q1 (by omega) hB.holds hB.cap.1 hB.cap.2, Nat.le_refl _, by simp [maxLen]⟩
      have hH2 : OkT W2 (some ⟨w3.heap.size + 1, 0, none⟩) 1 1 zz := ⟨holds_zz q2 (by omega), Nat.le_refl _, by simp [maxLen]⟩
      have hH3 : OkT W2 (some ⟨w3.heap.size + 1 + 1, 0, none⟩) 2 2 (kz now) := ⟨holds_kz g3 (by omega) hN.holds hN.cap.1 hN.cap.2, Nat.le_refl _, by simp [maxLen]⟩
      have H1 := Lib.hid hH1
      have H2 := Lib.hid hH2
      have H3 := Lib.hid hH3
      have HW2 := Lib.hid (HB3.out.trans (hb12.mono HB3.out.size))
      have Hoo2 := Lib.hid hB
      have Hon2 := Lib.hid hN
      have HWe := Lib.hid (show W2 = ((w3.alloc (Obj.cells #[.string ⟨#[107]⟩, .slice Ao no co, .string ⟨#[122]⟩, .slice none 0 0] 51)).alloc (Obj.cells #[.string ⟨#[122]⟩, .slice none 0 0] 51)).alloc (Obj.cells #[.string ⟨#[107]⟩, .slice An nn cn, .string ⟨#[122]⟩, .slice none 0 0] 51) from by rw [hW2, hW1])
      clear hb1 hb2 hz1 hz2 hz1' hb12 q1 q2 g1 g2 g3 hB hN hH1 hH2 hH3 hW1 hW2
      have HWi := Lib.hid (wide_any W2)
      cases left with
      | false =>
        go_upto_region 10 with (fail)
        rw [← HWe.out]
        go_wp2_with fail
        (with_reducible refine HWi.out.mono ?_)
        rintro e w4 ⟨Sc, rfl, hsc, hscn, hb4⟩
        have HSc := Lib.hid hsc
        have HSn := Lib.hid hscn
        have HB4 := Lib.hid hb4
        clear hsc hscn hb4
        have HT1 := Lib.hid (some_any (some ⟨w3.heap.size, 0, none⟩) 2 2 w4)
        go_wp2_with fail
        (with_reducible refine HT1.out.mono ?_)
        rintro e w5 ⟨rfl, hb5⟩
        have HB5 := Lib.hid hb5
        clear hb5 HT1
        have HT2 := Lib.hid (some_any (some ⟨w3.heap.size + 1, 0, none⟩) 1 1 w5)
        go_wp2_with fail
        (with_reducible refine HT2.out.mono ?_)
        rintro e w6 ⟨rfl, hb6⟩
        have HB6 := Lib.hid hb6
        clear hb6 HT2
        have HT3 := Lib.hid (some_any (some ⟨w3.heap.size + 1 + 1, 0, none⟩) 2 2 w6)
        go_wp2_with fail
        (with_reducible refine HT3.out.mono ?_)
        rintro e w7 ⟨rfl, hb7⟩
        have h47 : Below w4.heap.size w4 w7 := HB5.out.trans ((HB6.out.trans (hb7.mono HB6.out.size)).mono HB5.out.size)
        have h27 : Below W2.heap.size W2 w7 := HB4.out.trans (h47.mono HB4.out.size)
        have HM := Lib.hid (merge_any wideS Sc ⟨true, kz old⟩ ⟨true, zz⟩ ⟨true, kz now⟩ ⟨some ⟨w3.heap.size, 0, none⟩, 2, 2⟩ ⟨some ⟨w3.heap.size + 1, 0, none⟩, 1, 1⟩ ⟨some ⟨w3.heap.size + 1 + 1, 0, none⟩, 2, 2⟩ w7 ⟨ok_op (H1.out.below h27) true, ok_op (H2.out.below h27) true, ok_op (H3.out.below h27) true⟩ ⟨kz_k Hao.out Hzo.out, zz_k, kz_k Han.out Hzn.out⟩ (kz_bd Hzo.out (Nat.le_trans Hdo.out (by decide))) (zz_bd) (kz_bd Hzn.out (Nat.le_trans Hdn.out (by decide))) ((HSc.out.below h47).more h47.size) (by rw [HSn.out]; decide) wide_fit)
        have H27 := Lib.hid h27
        clear hb7 h47 h27 HT3
        by_cases hon : old.same now = true
        · have hno : old = now := same_eq hon
          subst hno
          rw [mrg_old (x := ⟨true, zz⟩) (.inr ⟨rfl, rfl⟩)] at HM
          go_wp2_with fail
          (with_reducible refine HM.out.mono ?_)
          rintro e w8 ⟨t1, t2, t3, t4, rfl, hn8, hc8, hb8⟩
          obtain ⟨t4A, t4n, t4c⟩ := t4
          obtain rfl : t4n = 0 := hc8.len
          obtain ⟨t1A, t1n, t1c⟩ := t1
          obtain ⟨t2A, t2n, t2c⟩ := t2
          obtain ⟨t3A, t3n, t3c⟩ := t3
          have K1 := Lib.hid (op_ok hn8.1)
          have K2 := Lib.hid (op_ok hn8.2.1)
          have K3_ := Lib.hid (op_ok hn8.2.2)
          have H28 := Lib.hid (H27.out.trans (hb8.mono H27.out.size))
          clear hn8 hc8 hb8 HM
          go_upto_region 11 with (fail)
          obtain ⟨V1, hV1, hv1, hvz1, f1, f2⟩ := boxes2 w8 [.bool true, .slice t1A t1n t1c] [.bool true, .slice t2A t2n t2c] 26 26
          obtain ⟨V2, hV2, hv2, hvz2, f3⟩ := box1 V1 [.bool true, .slice t3A t3n t3c] 26
          have hvz1' : V1.heap.size = w8.heap.size + 1 + 1 := by omega
          rw [hvz1'] at f3
          have f1 := f1.below hv2 (by omega)
          have f2 := f2.below hv2 (by omega)
          have h8v : Below w8.heap.size w8 V2 := hv1.trans (hv2.mono hv1.size)
          have hBV : Below W2.heap.size W2 V2 := H28.out.trans (h8v.mono H28.out.size)
          have F := Lib.hid (fun (W : World) (hW : Below V2.heap.size V2 W) => (⟨(f1.below hW f1.lt).cells 1, (f2.below hW f2.lt).cells 1, (f3.below hW f3.lt).cells 1⟩ : W.cell? ⟨w8.heap.size, 1, none⟩ = some (.slice t1A t1n t1c) ∧ W.cell? ⟨w8.heap.size + 1, 1, none⟩ = some (.slice t2A t2n t2c) ∧ W.cell? ⟨w8.heap.size + 1 + 1, 1, none⟩ = some (.slice t3A t3n t3c)))
          have J1 := Lib.hid (K1.out.below h8v)
          have J2 := Lib.hid (K2.out.below h8v)
          have J3 := Lib.hid (K3_.out.below h8v)
          have HBV := Lib.hid hBV
          have hvl : w8.heap.size + 1 + 1 < V2.heap.size := by omega
          rw [← hV1, ← hV2]
          have Hv12 := Lib.hid h8v
          clear f1 f2 f3 hv1 hv2 hvz1 hvz2 hvz1' hBV h8v hV1 hV2
          have l1 : w8.heap.size < V2.heap.size := by omega
          have l2 : w8.heap.size + 1 < V2.heap.size := by omega
          have HSo := Lib.hid (same_ok (Hoo2.out.below HBV.out) (Hon2.out.below HBV.out) (by have := Hzo.out; omega) (by have := Hzo.out; omega) hon)
          clear hon
          go_wp2_with fail
          (with_reducible refine HSo.out.mono ?_)
          rintro e v3 ⟨rfl, hv3⟩
          obtain ⟨V4, hV4, hv4, hvz4, g4⟩ := box1 v3 [.string ⟨#[122]⟩, .slice none 0 0] 51
          have h24 : Below V2.heap.size V2 V4 := hv3.trans (hv4.mono hv3.size)
          have hz4 : OkT V4 (some ⟨v3.heap.size, 0, none⟩) 1 1 zz := ⟨holds_zz g4 g4.lt, Nat.le_refl _, by simp [maxLen]⟩
          have HS1 := Lib.hid (same_ok (J1.out.below h24) hz4 (by simp [Tr.size]) (by simp [Tr.size]) (same_refl zz))
          obtain ⟨p1, p2, p3⟩ := F.out v3 hv3
          obtain ⟨r1, r2, r3⟩ := F.out V4 h24
          have m1 := Nat.lt_of_lt_of_le l1 hv3.size
          have m2 := Nat.lt_of_lt_of_le l2 hv3.size
          have m3 := Nat.lt_of_lt_of_le hvl hv3.size
          have H24 := Lib.hid h24
          clear hv4 hvz4 g4 h24 hz4
          go_wp2_with fail
          rw [← hV4]
          (with_reducible refine HS1.out.mono ?_)
          rintro e v5 ⟨rfl, hv5⟩
          have h25 := H24.out.trans (hv5.mono H24.out.size)
          obtain ⟨s1, s2, s3⟩ := F.out v5 h25
          have HS2 := Lib.hid (same_ok (J2.out.below h25) (J1.out.below h25) (by simp [Tr.size]) (by simp [Tr.size]) (same_refl zz))
          have H25 := Lib.hid h25
          clear h25 hv5
          go_wp2_with fail
          (with_reducible refine HS2.out.mono ?_)
          rintro e v6 ⟨rfl, hv6⟩
          have h26 := H25.out.trans (hv6.mono H25.out.size)
          obtain ⟨x1, x2, x3⟩ := F.out v6 h26
          have HS3 := Lib.hid (same_ok (J3.out.below h26) (J1.out.below h26) (by simp [Tr.size]) (by simp [Tr.size]) (same_refl zz))
          have H26 := Lib.hid h26
          clear h26 hv6
          go_wp2_with fail
          (with_reducible refine HS3.out.mono ?_)
          rintro e v7 ⟨rfl, hv7⟩
          have h27' := H26.out.trans (hv7.mono H26.out.size)
          go_wp2_with fail
          go_ret
          exact ⟨rfl, HW2.out.trans ((HBV.out.trans (h27'.mono HBV.out.size)).mono HW2.out.size)⟩
        · have hfalse : old.same now = false := by simpa using hon
          obtain ⟨N, hN⟩ : ∃ N, sz3 ⟨true, kz old⟩ ⟨true, zz⟩ ⟨true, kz now⟩ + 1 = N + 1 + 1 := ⟨sz3 ⟨true, kz old⟩ ⟨true, zz⟩ ⟨true, kz now⟩ - 1, by simp only [sz3, Tr.size]; omega⟩
          have hg := mrg_gone (S := wideS) (N := N) (d := 0) (p := []) (k := ⟨#[107]⟩) (old := old) (now := now) (r := zz) false (kz_k Hao.out Hzo.out) (kz_k Han.out Hzn.out) zz_k zz_no wide_lvl (fun e => hon (by rw [e]; exact same_refl _))
          simp only [Bool.false_eq_true, if_false] at hg
          rw [hN, hg] at HM
          clear hN hg hon
          go_wp2_with fail
          (with_reducible refine HM.out.mono ?_)
          rintro e w8 ⟨t1, t2, t3, t4, rfl, hn8, hc8, hb8⟩
          obtain ⟨t4A, t4n, t4c⟩ := t4
          obtain rfl : t4n = 1 := hc8.len
          obtain ⟨bq, oq, Q, rfl, hbq, hq1, hq2, hq3⟩ := hc8.cell 0 ([⟨#[107]⟩], kGone) rfl
          obtain ⟨QA, Qn, Qc⟩ := Q
          obtain rfl : Qn = 1 := hq3.len
          obtain ⟨bp, op, rfl, hbp, hp1⟩ := hq3.cell 0 (.string ⟨#[107]⟩) rfl
          rw [Nat.zero_mul, Nat.add_zero] at hq1 hq2
          rw [Nat.add_zero] at hp1
          obtain ⟨t1A, t1n, t1c⟩ := t1
          obtain ⟨t2A, t2n, t2c⟩ := t2
          obtain ⟨t3A, t3n, t3c⟩ := t3
          have K1 := Lib.hid (op_ok hn8.1)
          have K2 := Lib.hid (op_ok hn8.2.1)
          have K3_ := Lib.hid (op_ok hn8.2.2)
          have H28 := Lib.hid (H27.out.trans (hb8.mono H27.out.size))
          have HQ := Lib.hid (fun (W : World) (hW : Below w8.heap.size w8 W) => (⟨(hW.cell (p := ⟨bq, oq, none⟩) hbq.2).trans hq1, (hW.cell (p := ⟨bq, oq + 1, none⟩) hbq.2).trans hq2, (hW.cell (p := ⟨bp, op, none⟩) hbp.2).trans hp1⟩ : W.cell? ⟨bq, oq, none⟩ = some (.slice (some ⟨bp, op, none⟩) 1 Qc) ∧ W.cell? ⟨bq, oq + 1, none⟩ = some (.int .i64 1) ∧ W.cell? ⟨bp, op, none⟩ = some (.string ⟨#[107]⟩)))
          clear hn8 hc8 hb8 HM hq1 hq2 hq3 hp1 hbq hbp
          go_upto_region 11 with (fail)
          obtain ⟨V1, hV1, hv1, hvz1, f1, f2⟩ := boxes2 w8 [.bool true, .slice t1A t1n t1c] [.bool true, .slice t2A t2n t2c] 26 26
          obtain ⟨V2, hV2, hv2, hvz2, f3⟩ := box1 V1 [.bool true, .slice t3A t3n t3c] 26
          have hvz1' : V1.heap.size = w8.heap.size + 1 + 1 := by omega
          rw [hvz1'] at f3
          have f1 := f1.below hv2 (by omega)
          have f2 := f2.below hv2 (by omega)
          have h8v : Below w8.heap.size w8 V2 := hv1.trans (hv2.mono hv1.size)
          have hBV : Below W2.heap.size W2 V2 := H28.out.trans (h8v.mono H28.out.size)
          have F := Lib.hid (fun (W : World) (hW : Below V2.heap.size V2 W) => (⟨(f1.below hW f1.lt).cells 1, (f2.below hW f2.lt).cells 1, (f3.below hW f3.lt).cells 1⟩ : W.cell? ⟨w8.heap.size, 1, none⟩ = some (.slice t1A t1n t1c) ∧ W.cell? ⟨w8.heap.size + 1, 1, none⟩ = some (.slice t2A t2n t2c) ∧ W.cell? ⟨w8.heap.size + 1 + 1, 1, none⟩ = some (.slice t3A t3n t3c)))
          have J1 := Lib.hid (K1.out.below h8v)
          have J2 := Lib.hid (K2.out.below h8v)
          have J3 := Lib.hid (K3_.out.below h8v)
          have HBV := Lib.hid hBV
          have hvl : w8.heap.size + 1 + 1 < V2.heap.size := by omega
          rw [← hV1, ← hV2]
          have Hv12 := Lib.hid h8v
          clear f1 f2 f3 hv1 hv2 hvz1 hvz2 hvz1' hBV h8v hV1 hV2
          have l1 : w8.heap.size < V2.heap.size := by omega
          have l2 : w8.heap.size + 1 < V2.heap.size := by omega
          have HSo := Lib.hid (same_ok (Hoo2.out.below HBV.out) (Hon2.out.below HBV.out) (by have := Hzo.out; omega) (by have := Hzn.out; omega) hfalse)
          clear hfalse
          go_wp2_with fail
          (with_reducible refine HSo.out.mono ?_)
          rintro e v3 ⟨rfl, hv3⟩
          obtain ⟨c1, c2, c3⟩ := HQ.out v3 (Hv12.out.trans (hv3.mono Hv12.out.size))
          obtain ⟨p1, p2, p3⟩ := F.out v3 hv3
          have hb3' := HBV.out.trans (hv3.mono HBV.out.size)
          have HS1 := Lib.hid (same_ok (J1.out.below hv3) (H1.out.below hb3') (by have := Hzo.out; simp only [Tr.size]; omega) (by have := Hzo.out; simp only [Tr.size]; omega) (same_refl _))
          have Hv3 := Lib.hid hv3
          clear hv3 hb3'
          go_wp2_with fail
          (with_reducible refine HS1.out.mono ?_)
          rintro e v5 ⟨rfl, hv5⟩
          have h25 := Hv3.out.trans (hv5.mono Hv3.out.size)
          obtain ⟨s1, s2, s3⟩ := F.out v5 h25
          have hb5' := HBV.out.trans (h25.mono HBV.out.size)
          have HS2 := Lib.hid (same_ok (J2.out.below h25) (H2.out.below hb5') (by have := Hzn.out; simp only [Tr.size]; omega) (by have := Hzn.out; simp only [Tr.size]; omega) (same_refl _))
          have H25 := Lib.hid h25
          clear h25 hv5 hb5'
          go_wp2_with fail
          (with_reducible refine HS2.out.mono ?_)
          rintro e v6 ⟨rfl, hv6⟩
          have h26 := H25.out.trans (hv6.mono H25.out.size)
          obtain ⟨x1, x2, x3⟩ := F.out v6 h26
          have hb6' := HBV.out.trans (h26.mono HBV.out.size)
          have HS3 := Lib.hid (same_ok (J3.out.below h26) (H3.out.below hb6') (by have := Hzn.out; simp only [Tr.size]; omega) (by have := Hzn.out; simp only [Tr.size]; omega) (same_refl _))
          have H26 := Lib.hid h26
          clear h26 hv6 hb6'
          go_wp2_with fail
          (with_reducible refine HS3.out.mono ?_)
          rintro e v7 ⟨rfl, hv7⟩
          have h27' := H26.out.trans (hv7.mono H26.out.size)
          go_wp2_with fail
          go_ret
          exact ⟨rfl, HW2.out.trans ((HBV.out.trans (h27'.mono HBV.out.size)).mono HW2.out.size)⟩
      | true =>
        go_upto_region 10 with (fail)
        rw [← HWe.out]
        go_wp2_with fail
        (with_reducible refine HWi.out.mono ?_)
        rintro e w4 ⟨Sc, rfl, hsc, hscn, hb4⟩
        have HSc := Lib.hid hsc
        have HSn := Lib.hid hscn
        have HB4 := Lib.hid hb4
        clear hsc hscn hb4
        have HT1 := Lib.hid (some_any (some ⟨w3.heap.size, 0, none⟩) 2 2 w4)
        go_wp2_with fail
        (with_reducible refine HT1.out.mono ?_)
        rintro e w5 ⟨rfl, hb5⟩
        have HB5 := Lib.hid hb5
        clear hb5 HT1
        have HT2 := Lib.hid (some_any (some ⟨w3.heap.size + 1 + 1, 0, none⟩) 2 2 w5)
        go_wp2_with fail
        (with_reducible refine HT2.out.mono ?_)
        rintro e w6 ⟨rfl, hb6⟩
        have HB6 := Lib.hid hb6
        clear hb6 HT2
        have HT3 := Lib.hid (some_any (some ⟨w3.heap.size + 1, 0, none⟩) 1 1 w6)
        go_wp2_with fail
        (with_reducible refine HT3.out.mono ?_)
        rintro e w7 ⟨rfl, hb7⟩
        have h47 : Below w4.heap.size w4 w7 := HB5.out.trans ((HB6.out.trans (hb7.mono HB6.out.size)).mono HB5.out.size)
        have h27 : Below W2.heap.size W2 w7 := HB4.out.trans (h47.mono HB4.out.size)
        have HM := Lib.hid (merge_any wideS Sc ⟨true, kz old⟩ ⟨true, kz now⟩ ⟨true, zz⟩ ⟨some ⟨w3.heap.size, 0, none⟩, 2, 2⟩ ⟨some ⟨w3.heap.size + 1 + 1, 0, none⟩, 2, 2⟩ ⟨some ⟨w3.heap.size + 1, 0, none⟩, 1, 1⟩ w7 ⟨ok_op (H1.out.below h27) true, ok_op (H3.out.below h27) true, ok_op (H2.out.below h27) true⟩ ⟨kz_k Hao.out Hzo.out, kz_k Han.out Hzn.out, zz_k⟩ (kz_bd Hzo.out (Nat.le_trans Hdo.out (by decide))) (kz_bd Hzn.out (Nat.le_trans Hdn.out (by decide))) (zz_bd) ((HSc.out.below h47).more h47.size) (by rw [HSn.out]; decide) wide_fit)
        have H27 := Lib.hid h27
        clear hb7 h47 h27 HT3
        by_cases hon : old.same now = true
        · have hno : old = now := same_eq hon
          subst hno
          rw [mrg_old (x := ⟨true, zz⟩) (.inl ⟨rfl, rfl⟩)] at HM
          go_wp2_with fail
          (with_reducible refine HM.out.mono ?_)
          rintro e w8 ⟨t1, t2, t3, t4, rfl, hn8, hc8, hb8⟩
          obtain ⟨t4A, t4n, t4c⟩ := t4
          obtain rfl : t4n = 0 := hc8.len
          obtain ⟨t1A, t1n, t1c⟩ := t1
          obtain ⟨t2A, t2n, t2c⟩ := t2
          obtain ⟨t3A, t3n, t3c⟩ := t3
          have K1 := Lib.hid (op_ok hn8.1)
          have K2 := Lib.hid (op_ok hn8.2.1)
          have K3_ := Lib.hid (op_ok hn8.2.2)
          have H28 := Lib.hid (H27.out.trans (hb8.mono H27.out.size))
          clear hn8 hc8 hb8 HM
          go_upto_region 11 with (fail)
          obtain ⟨V1, hV1, hv1, hvz1, f1, f2⟩ := boxes2 w8 [.bool true, .slice t1A t1n t1c] [.bool true, .slice t2A t2n t2c] 26 26
          obtain ⟨V2, hV2, hv2, hvz2, f3⟩ := box1 V1 [.bool true, .slice t3A t3n t3c] 26
          have hvz1' : V1.heap.size = w8.heap.size + 1 + 1 := by omega
          rw [hvz1'] at f3
          have f1 := f1.below hv2 (by omega)
          have f2 := f2.below hv2 (by omega)
          have h8v : Below w8.heap.size w8 V2 := hv1.trans (hv2.mono hv1.size)
          have hBV : Below W2.heap.size W2 V2 := H28.out.trans (h8v.mono H28.out.size)
          have F := Lib.hid (fun (W : World) (hW : Below V2.heap.size V2 W) => (⟨(f1.below hW f1.lt).cells 1, (f2.below hW f2.lt).cells 1, (f3.below hW f3.lt).cells 1⟩ : W.cell? ⟨w8.heap.size, 1, none⟩ = some (.slice t1A t1n t1c) ∧ W.cell? ⟨w8.heap.size + 1, 1, none⟩ = some (.slice t2A t2n t2c) ∧ W.cell? ⟨w8.heap.size + 1 + 1, 1, none⟩ = some (.slice t3A t3n t3c)))
          have J1 := Lib.hid (K1.out.below h8v)
          have J2 := Lib.hid (K2.out.below h8v)
          have J3 := Lib.hid (K3_.out.below h8v)
          have HBV := Lib.hid hBV
          have hvl : w8.heap.size + 1 + 1 < V2.heap.size := by omega
          rw [← hV1, ← hV2]
          have Hv12 := Lib.hid h8v
          clear f1 f2 f3 hv1 hv2 hvz1 hvz2 hvz1' hBV h8v hV1 hV2
          have l1 : w8.heap.size < V2.heap.size := by omega
          have l2 : w8.heap.size + 1 < V2.heap.size := by omega
          have HSo := Lib.hid (same_ok (Hoo2.out.below HBV.out) (Hon2.out.below HBV.out) (by have := Hzo.out; omega) (by have := Hzo.out; omega) hon)
          clear hon
          go_wp2_with fail
          (with_reducible refine HSo.out.mono ?_)
          rintro e v3 ⟨rfl, hv3⟩
          obtain ⟨V4, hV4, hv4, hvz4, g4⟩ := box1 v3 [.string ⟨#[122]⟩, .slice none 0 0] 51
          have h24 : Below V2.heap.size V2 V4 := hv3.trans (hv4.mono hv3.size)
          have hz4 : OkT V4 (some ⟨v3.heap.size, 0, none⟩) 1 1 zz := ⟨holds_zz g4 g4.lt, Nat.le_refl _, by simp [maxLen]⟩
          have HS1 := Lib.hid (same_ok (J1.out.below h24) hz4 (by simp [Tr.size]) (by simp [Tr.size]) (same_refl zz))
          obtain ⟨p1, p2, p3⟩ := F.out v3 hv3
          obtain ⟨r1, r2, r3⟩ := F.out V4 h24
          have m1 := Nat.lt_of_lt_of_le l1 hv3.size
          have m2 := Nat.lt_of_lt_of_le l2 hv3.size
          have m3 := Nat.lt_of_lt_of_le hvl hv3.size
          have H24 := Lib.hid h24
          clear hv4 hvz4 g4 h24 hz4
          go_wp2_with fail
          rw [← hV4]
          (with_reducible refine HS1.out.mono ?_)
          rintro e v5 ⟨rfl, hv5⟩
          have h25 := H24.out.trans (hv5.mono H24.out.size)
          obtain ⟨s1, s2, s3⟩ := F.out v5 h25
          have HS2 := Lib.hid (same_ok (J2.out.below h25) (J1.out.below h25) (by simp [Tr.size]) (by simp [Tr.size]) (same_refl zz))
          have H25 := Lib.hid h25
          clear h25 hv5
          go_wp2_with fail
          (with_reducible refine HS2.out.mono ?_)
          rintro e v6 ⟨rfl, hv6⟩
          have h26 := H25.out.trans (hv6.mono H25.out.size)
          obtain ⟨x1, x2, x3⟩ := F.out v6 h26
          have HS3 := Lib.hid (same_ok (J3.out.below h26) (J1.out.below h26) (by simp [Tr.size]) (by simp [Tr.size]) (same_refl zz))
          have H26 := Lib.hid h26
          clear h26 hv6
          go_wp2_with fail
          (with_reducible refine HS3.out.mono ?_)
          rintro e v7 ⟨rfl, hv7⟩
          have h27' := H26.out.trans (hv7.mono H26.out.size)
          go_wp2_with fail
          go_ret
          exact ⟨rfl, HW2.out.trans ((HBV.out.trans (h27'.mono HBV.out.size)).mono HW2.out.size)⟩
        · have hfalse : old.same now = false := by simpa using hon
          obtain ⟨N, hN⟩ : ∃ N, sz3 ⟨true, kz old⟩ ⟨true, kz now⟩ ⟨true, zz⟩ + 1 = N + 1 + 1 := ⟨sz3 ⟨true, kz old⟩ ⟨true, kz now⟩ ⟨true, zz⟩ - 1, by simp only [sz3, Tr.size]; omega⟩
          have hg := mrg_gone (S := wideS) (N := N) (d := 0) (p := []) (k := ⟨#[107]⟩) (old := old) (now := now) (r := zz) true (kz_k Hao.out Hzo.out) (kz_k Han.out Hzn.out) zz_k zz_no wide_lvl (fun e => hon (by rw [e]; exact same_refl _))
          simp only [if_true] at hg
          rw [hN, hg] at HM
          clear hN hg hon
          go_wp2_with fail
          (with_reducible refine HM.out.mono ?_)
          rintro e w8 ⟨t1, t2, t3, t4, rfl, hn8, hc8, hb8⟩
          obtain ⟨t4A, t4n, t4c⟩ := t4
          obtain rfl : t4n = 1 := hc8.len
          obtain ⟨bq, oq, Q, rfl, hbq, hq1, hq2, hq3⟩ := hc8.cell 0 ([⟨#[107]⟩], kGone) rfl
          obtain ⟨QA, Qn, Qc⟩ := Q
          obtain rfl : Qn = 1 := hq3.len
          obtain ⟨bp, op, rfl, hbp, hp1⟩ := hq3.cell 0 (.string ⟨#[107]⟩) rfl
          rw [Nat.zero_mul, Nat.add_zero] at hq1 hq2
          rw [Nat.add_zero] at hp1
          obtain ⟨t1A, t1n, t1c⟩ := t1
          obtain ⟨t2A, t2n, t2c⟩ := t2
          obtain ⟨t3A, t3n, t3c⟩ := t3
          have K1 := Lib.hid (op_ok hn8.1)
          have K2 := Lib.hid (op_ok hn8.2.1)
          have K3_ := Lib.hid (op_ok hn8.2.2)
          have H28 := Lib.hid (H27.out.trans (hb8.mono H27.out.size))
          have HQ := Lib.hid (fun (W : World) (hW : Below w8.heap.size w8 W) => (⟨(hW.cell (p := ⟨bq, oq, none⟩) hbq.2).trans hq1, (hW.cell (p := ⟨bq, oq + 1, none⟩) hbq.2).trans hq2, (hW.cell (p := ⟨bp, op, none⟩) hbp.2).trans hp1⟩ : W.cell? ⟨bq, oq, none⟩ = some (.slice (some ⟨bp, op, none⟩) 1 Qc) ∧ W.cell? ⟨bq, oq + 1, none⟩ = some (.int .i64 1) ∧ W.cell? ⟨bp, op, none⟩ = some (.string ⟨#[107]⟩)))
          clear hn8 hc8 hb8 HM hq1 hq2 hq3 hp1 hbq hbp
          go_upto_region 11 with (fail)
          obtain ⟨V1, hV1, hv1, hvz1, f1, f2⟩ := boxes2 w8 [.bool true, .slice t1A t1n t1c] [.bool true, .slice t2A t2n t2c] 26 26
          obtain ⟨V2, hV2, hv2, hvz2, f3⟩ := box1 V1 [.bool true, .slice t3A t3n t3c] 26
          have hvz1' : V1.heap.size = w8.heap.size + 1 + 1 := by omega
          rw [hvz1'] at f3
          have f1 := f1.below hv2 (by omega)
          have f2 := f2.below hv2 (by omega)
          have h8v : Below w8.heap.size w8 V2 := hv1.trans (hv2.mono hv1.size)
          have hBV : Below W2.heap.size W2 V2 := H28.out.trans (h8v.mono H28.out.size)
          have F := Lib.hid (fun (W : World) (hW : Below V2.heap.size V2 W) => (⟨(f1.below hW f1.lt).cells 1, (f2.below hW f2.lt).cells 1, (f3.below hW f3.lt).cells 1⟩ : W.cell? ⟨w8.heap.size, 1, none⟩ = some (.slice t1A t1n t1c) ∧ W.cell? ⟨w8.heap.size + 1, 1, none⟩ = some (.slice t2A t2n t2c) ∧ W.cell? ⟨w8.heap.size + 1 + 1, 1, none⟩ = some (.slice t3A t3n t3c)))
          have J1 := Lib.hid (K1.out.below h8v)
          have J2 := Lib.hid (K2.out.below h8v)
          have J3 := Lib.hid (K3_.out.below h8v)
          have HBV := Lib.hid hBV
          have hvl : w8.heap.size + 1 + 1 < V2.heap.size := by omega
          rw [← hV1, ← hV2]
          have Hv12 := Lib.hid h8v
          clear f1 f2 f3 hv1 hv2 hvz1 hvz2 hvz1' hBV h8v hV1 hV2
          have l1 : w8.heap.size < V2.heap.size := by omega
          have l2 : w8.heap.size + 1 < V2.heap.size := by omega
          have HSo := Lib.hid (same_ok (Hoo2.out.below HBV.out) (Hon2.out.below HBV.out) (by have := Hzo.out; omega) (by have := Hzn.out; omega) hfalse)
          clear hfalse
          go_wp2_with fail
          (with_reducible refine HSo.out.mono ?_)
          rintro e v3 ⟨rfl, hv3⟩
          obtain ⟨c1, c2, c3⟩ := HQ.out v3 (Hv12.out.trans (hv3.mono Hv12.out.size))
          obtain ⟨p1, p2, p3⟩ := F.out v3 hv3
          have hb3' := HBV.out.trans (hv3.mono HBV.out.size)
          have HS1 := Lib.hid (same_ok (J1.out.below hv3) (H1.out.below hb3') (by have := Hzo.out; simp only [Tr.size]; omega) (by have := Hzo.out; simp only [Tr.size]; omega) (same_refl _))
          have Hv3 := Lib.hid hv3
          clear hv3 hb3'
          go_wp2_with fail
          (with_reducible refine HS1.out.mono ?_)
          rintro e v5 ⟨rfl, hv5⟩
          have h25 := Hv3.out.trans (hv5.mono Hv3.out.size)
          obtain ⟨s1, s2, s3⟩ := F.out v5 h25
          have hb5' := HBV.out.trans (h25.mono HBV.out.size)
          have HS2 := Lib.hid (same_ok (J2.out.below h25) (H3.out.below hb5') (by have := Hzn.out; simp only [Tr.size]; omega) (by have := Hzn.out; simp only [Tr.size]; omega) (same_refl _))
          have H25 := Lib.hid h25
          clear h25 hv5 hb5'
          go_wp2_with fail
          (with_reducible refine HS2.out.mono ?_)
          rintro e v6 ⟨rfl, hv6⟩
          have h26 := H25.out.trans (hv6.mono H25.out.size)
          obtain ⟨x1, x2, x3⟩ := F.out v6 h26
          have hb6' := HBV.out.trans (h26.mono HBV.out.size)
          have HS3 := Lib.hid (same_ok (J3.out.below h26) (H2.out.below hb6') (by have := Hzn.out; simp only [Tr.size]; omega) (by have := Hzn.out; simp only [Tr.size]; omega) (same_refl _))
          have H26 := Lib.hid h26
          clear h26 hv6 hb6'
          go_wp2_with fail
          (with_reducible refine HS3.out.mono ?_)
          rintro e v7 ⟨rfl, hv7⟩
          have h27' := H26.out.trans (hv7.mono H26.out.size)
          go_wp2_with fail
          go_ret
          exact ⟨rfl, HW2.out.trans ((HBV.out.trans (h27'.mono HBV.out.size)).mono HW2.out.size)⟩
    · rw [decide_eq_true h1c] at hF
      rw [decide_eq_false h2c] at hF2
      have HF := Lib.hid hF
      have HF2 := Lib.hid hF2
      clear hF hF2 h1c h2c h h2
      go_enter Try.func6, Try.ntmps6
      go_wp2_with fail
      (with_reducible refine HK.out.mono ?_)
      rintro e w1 ⟨rfl, hb1⟩
      go_wp2_with fail
      (with_reducible refine (HF.out w1 hb1).mono ?_)
      rintro e _ ⟨rfl, rfl⟩
      go_wp2_with fail
      (with_reducible refine (HF2.out w1 hb1).mono ?_)
      rintro e _ ⟨rfl, rfl⟩
      go_wp2_with fail
      go_ret
      exact ⟨rfl, hb1⟩
  · rw [decide_eq_false h1c] at hF
    have HF := Lib.hid hF
    clear hF hF2 h1c h h2
    go_enter Try.func6, Try.ntmps6
    go_wp2_with fail
    (with_reducible refine HK.out.mono ?_)
    rintro e w1 ⟨rfl, hb1⟩
    go_wp2_with fail
    (with_reducible refine (HF.out w1 hb1).mono ?_)
    rintro e _ ⟨rfl, rfl⟩
    go_wp2_with fail
    go_ret
    exact ⟨rfl, hb1⟩
end Go.Proofs.Ytchoipmfngcdoaa.Mg
