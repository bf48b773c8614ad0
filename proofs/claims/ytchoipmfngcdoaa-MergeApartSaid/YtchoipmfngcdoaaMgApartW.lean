/- MergeApart: the walk. No conditions. -/
import Derived.Test.YtchoipmfngcdoaaMgApM
import Derived.Test.YtchoipmfngcdoaaMwLists
import Derived.Deep.CutRange
namespace Go.Proofs.Ytchoipmfngcdoaa.Mg
open Go.RowKit Go.Proofs.Ytchoipmfngcdoaa.Pt Go.Proofs.Ytchoipmfngcdoaa.Df Go.Proofs.Ytchoipmfngcdoaa.Sc Go.Proofs.Ytchoipmfngcdoaa.Cl
set_option maxRecDepth 100000

set_option maxHeartbeats 16000000 in
theorem apart_walk (o a b : Tr) (l : List Int) (A A2 A3 A4 : Option Addr) (n n2 n3 n4 c c2 c3 c4 : Nat) (w : World) (h : Holds w w.heap.size A n o) (hc : n ≤ c) (hm : c ≤ maxLen) (hr : o.len ≤ 140737488351232 ∧ o.Fit) (h2 : Holds w w.heap.size A2 n2 a) (hc2 : n2 ≤ c2) (hm2 : c2 ≤ maxLen) (hr2 : a.len ≤ 140737488351232 ∧ a.Fit) (h3 : Holds w w.heap.size A3 n3 b) (hc3 : n3 ≤ c3) (hm3 : c3 ≤ maxLen) (hr3 : b.len ≤ 140737488351232 ∧ b.Fit) (h4 : SeesV w w.heap.size A4 n4 (l.map (Value.int .i64)) ∧ ∀ x ∈ l, -9223372036854775808 ≤ x ∧ x ≤ 9223372036854775807) :
    Calls Try.prog 4 #[.slice A n c, .slice A2 n2 c2, .slice A3 n3 c3, .slice A4 n4 c4] w fun e w' => e = .returned (.bool true) ∧ Below w.heap.size w w' := by
  have hn : n ≤ 140737488351232 := by rw [h.len]; exact hr.1
  have hn2 : n2 ≤ 140737488351232 := by rw [h2.len]; exact hr2.1
  have hn3 : n3 ≤ 140737488351232 := by rw [h3.len]; exact hr3.1
  have HK := Lib.hid (known_any w)
  have hF := fun (W : World) (hW : Below w.heap.size w W) => few_any o A n c w.heap.size W (h.below hW) hW.size hn (fit_lowM hr.2)
  have hF2 := fun (W : World) (hW : Below w.heap.size w W) => few_any a A2 n2 c2 w.heap.size W (h2.below hW) hW.size hn2 (fit_lowM hr2.2)
  have hF3 := fun (W : World) (hW : Below w.heap.size w W) => few_any b A3 n3 c3 w.heap.size W (h3.below hW) hW.size hn3 (fit_lowM hr3.2)
  by_cases h1c : o.count n 200 < 200
  · by_cases h2c : a.count n2 200 < 200
    · by_cases h3c : b.count n3 200 < 200
      · rw [decide_eq_true h1c] at hF
        rw [decide_eq_true h2c] at hF2
        rw [decide_eq_true h3c] at hF3
        have hoz := few_yes h.len h1c
        have haz := few_yes h2.len h2c
        have hbz := few_yes h3.len h3c
        have HS := Lib.hid (fun (W : World) (hW : Below w.heap.size w W) => small_any 5 (by omega) 4 (by omega) 4 o A n c w.heap.size W rfl (h.below hW) hr.2 hW.size hc hm)
        have HSa := Lib.hid (fun (W : World) (hW : Below w.heap.size w W) => small_any 3 (by omega) 3 (by omega) 3 a A2 n2 c2 w.heap.size W rfl (h2.below hW) hr2.2 hW.size hc2 hm2)
        have HSb := Lib.hid (fun (W : World) (hW : Below w.heap.size w W) => small_any 3 (by omega) 3 (by omega) 3 b A3 n3 c3 w.heap.size W rfl (h3.below hW) hr3.2 hW.size hc3 hm3)
        have HI := Lib.hid (fun (W : World) (hW : Below w.heap.size w W) {j : Nat} (hj : j < n4) => (h4.1.below hW).int hj)
        have HR := Lib.hid (fun (j : Nat) (hj : j < n4) => where_at h4.1 h4.2 hj)
        have HF1 := Lib.hid hF
        have HF2 := Lib.hid hF2
        have HF3 := Lib.hid hF3
        have Haz := Lib.hid haz
        have Hbz := Lib.hid hbz
        clear hF hF2 hF3 h1c h2c h3c h h2 h3 hr hr2 hr3 hn hn2 hn3 h4 haz hbz
        go_enter Try.func4, Try.ntmps4
        go_wp2_with fail
        (with_reducible refine HK.out.mono ?_)
        rintro e w1 ⟨rfl, hb1⟩
        have HB1 := Lib.hid hb1
        clear hb1
        go_wp2_with fail
        (with_reducible refine (HF1.out w1 HB1.out).mono ?_)
        rintro e _ ⟨rfl, rfl⟩
        go_wp2_with fail
        (with_reducible refine (HF2.out w1 HB1.out).mono ?_)
        rintro e _ ⟨rfl, rfl⟩
        go_wp2_with fail
        (with_reducible refine (HF3.out w1 HB1.out).mono ?_)
        rintro e _ ⟨rfl, rfl⟩
        go_wp2_with fail
        refine (HS.out w1 HB1.out).mono ?_
        rintro e w2 ⟨Ao, no, co, old, rfl, ho1, ho2, ho3, ⟨ho4, ho5, ho6⟩, hb2⟩
        have HB2 := Lib.hid (HB1.out.trans (hb2.mono HB1.out.size))
        have Hoo := Lib.hid (show OkT w2 Ao no co old from ⟨ho1, ho2, ho3⟩)
        have Hao := Lib.hid ho5
        have Hzo := Lib.hid (show old.size ≤ 199 by omega)
        have Hdo := Lib.hid ho6
        clear ho1 hb2 ho5 ho4 ho6 ho2 ho3 hoz
        obtain ⟨Wb, hWb, hbb, hzb, gb⟩ := box1 w2 [.string ⟨#[]⟩, .string ⟨#[97]⟩, .string ⟨#[98]⟩, .string ⟨#[99]⟩, .string ⟨#[100]⟩] 9
        have HWb := Lib.hid hWb
        have Hob := Lib.hid (Hoo.out.below hbb)
        have HBb := Lib.hid (HB2.out.trans (hbb.mono HB2.out.size))
        obtain ⟨g, hg⟩ : ∃ g, g = w2.heap.size := ⟨_, rfl⟩
        rw [← hg] at gb
        have HN := Lib.hid (fun (W : World) (hW : Below Wb.heap.size Wb W) (k : Nat) (s : ByteArray) (hs : nm5[k]? = some s) => nm5_cell (gb.below hW gb.lt) hs)
        have Hg := Lib.hid hg
        clear hWb hbb hzb gb hg
        go_wp2_with fail
        rw [← HWb.out, ← Hg.out]
        go_loopw [10, 11, 12, 14] (fun xv yv cv i wr => ∃ (k : Nat) (x y t : Tr) (Ax Ay At : Option Addr) (nx cx ny cy nt ct : Nat), k ≤ 5 ∧ i = .int .i64 k ∧ xv = .slice Ax nx cx ∧ yv = .slice Ay ny cy ∧ cv = .slice At nt ct ∧ Hid (OkT wr Ax nx cx x ∧ OkT wr Ay ny cy y ∧ OkT wr At nt ct t ∧ ApI old x y t k ∧ Below Wb.heap.size Wb wr)) (fun _ _ _ i _ => 5 - (intOf i).toNat)
        case atStart => exact ⟨0, old, old, old, Ao, Ao, Ao, no, co, no, co, no, co, by omega, rfl, rfl, rfl, rfl, Lib.hid ⟨Hob.out, Hob.out, Hob.out, ap_start Hao.out Hzo.out (by have := Hdo.out; omega), Below.refl _ _⟩⟩
        case round =>
          obtain ⟨k, x, y, t, Ax, Ay, At, nx, cx, ny, cy, nt, ct, hk, rfl, rfl, rfl, rfl, HO⟩ := hrel
          by_cases hlt : k < 5
          · have hlt1 : (k : Int) < 5 := by omega
            have hlt0 : (0 : Int) ≤ (k : Int) := by omega
            obtain ⟨nm, hnm⟩ := nm5_at hlt
            have Hnm := Lib.hid hnm
            have HBr := Lib.hid (HBb.out.trans (HO.out.2.2.2.2.mono HBb.out.size))
            clear hnm
            go_upto_if 49 with (fail)
            go_cut [15] from 42 to 119 (fun kk wx => wr = wx ∧ ∃ v : Int, (v = 0 ∨ v = 1 ∨ v = 2 ∨ v = 3 ∨ v = 4) ∧ kk = .int .i64 v)
            case first =>
              by_cases hl : k < n4
              · have hl1 : (k : Int) < (n4 : Int) := by omega
                obtain ⟨b4, o4, rfl, hb4, hcell⟩ := HI.out wr HBr.out hl
                have hwf := HR.out k hl
                obtain ⟨z, hz⟩ : ∃ z, z = l.getD k 0 := ⟨_, rfl⟩
                rw [← hz] at hcell hwf
                have HW := Lib.hid (within12_any z 5 (by omega) (by omega) hwf wr)
                clear hz hwf hb4
                go_wp2_with fail
                (with_reducible refine HW.out.mono ?_)
                rintro e w' ⟨rfl, rfl⟩
                go_wp2_with fail
                go_meet
                exact ⟨rfl, z % 5, by omega, rfl⟩
              · have hl1 : (n4 : Int) ≤ (k : Int) := by omega
                go_wp2_with fail
                go_meet
                exact ⟨rfl, 0, .inl rfl, rfl⟩
            case rest =>
              obtain ⟨rfl, v, hv, rfl⟩ := hcut
              go_wp2_with fail
              refine (HSa.out wr HBr.out).mono ?_
              rintro e w3 ⟨As, ns, cs, s, rfl, ht1, ht2, ht3, ⟨ht4, ht5, ht6⟩, hb3⟩
              have Hs := Lib.hid (show OkT w3 As ns cs s from ⟨ht1, ht2, ht3⟩)
              have Hsm := Lib.hid (show s.size ≤ 199 ∧ AscD s ∧ depS s ≤ 4 from ⟨by have := Haz.out; omega, ht5, by omega⟩)
              have HO3 := Lib.hid (show OkT w3 Ax nx cx x ∧ OkT w3 Ay ny cy y ∧ OkT w3 At nt ct t ∧ ApI old x y t k ∧ Below Wb.heap.size Wb w3 from ⟨HO.out.1.below hb3, HO.out.2.1.below hb3, HO.out.2.2.1.below hb3, HO.out.2.2.2.1, HO.out.2.2.2.2.trans (hb3.mono HO.out.2.2.2.2.size)⟩)
              have HBr3 := Lib.hid (HBr.out.trans (hb3.mono HBr.out.size))
              clear ht1 ht2 ht3 ht4 ht5 ht6 hb3 HO HBr
              rcases hv with rfl | rfl | rfl | rfl | rfl
              · go_wp2_with fail
                go_roundw
                case rel => exact ⟨k + 1, x, y, t, Ax, Ay, At, nx, cx, ny, cy, nt, ct, by omega, by go_num, rfl, rfl, rfl, Lib.hid ⟨HO3.out.1, HO3.out.2.1, HO3.out.2.2.1, ap_none HO3.out.2.2.2.1, HO3.out.2.2.2.2⟩⟩
                case measure => simp [intOf]; omega
              · go_wp2_with fail
                have HX := Lib.hid (fun (W : World) (hW : Below w3.heap.size w3 W) => with_ok nm (HO3.out.1.below hW) (Hs.out.below hW) (by have := HO3.out.2.2.2.1.zx; omega))
                have HC := Lib.hid (fun (W : World) (hW : Below w3.heap.size w3 W) => with_ok nm (HO3.out.2.2.1.below hW) (Hs.out.below hW) (by have := HO3.out.2.2.2.1.zc; omega))
                have hcl := HN.out _ HO3.out.2.2.2.2 _ _ Hnm.out
                have hcb := fun (W : World) (hW : Below w3.heap.size w3 W) => HN.out _ (HO3.out.2.2.2.2.trans (hW.mono HO3.out.2.2.2.2.size)) _ _ Hnm.out
                have b0 : Below w3.heap.size w3 w3.drew := (Below.refl _ _).drew
                have Hcb := Lib.hid hcb
                clear hcb
                go_region_law (first
                  | (go_simp; (with_reducible refine (HX.out _ b0).mono ?_); rintro e w4 ⟨X1, X2, X3, rfl, okx, hbx⟩; have h4x := b0.trans (hbx.mono b0.size); have hcl4 := Hcb.out _ h4x)
                  | (go_simp; (with_reducible refine (HC.out _ b0).mono ?_); rintro e w4 ⟨C1, C2, C3, rfl, okc, hbc⟩; have h4c := b0.trans (hbc.mono b0.size); have hcl4 := Hcb.out _ h4c)
                  | (go_simp; (with_reducible refine (HC.out _ h4x).mono ?_); rintro e w5 ⟨C1, C2, C3, rfl, okc, hbc⟩; have HF := Lib.hid (show OkT w5 X1 X2 X3 (x.withT nm s) ∧ OkT w5 C1 C2 C3 (t.withT nm s) ∧ Below w3.heap.size w3 w5 from ⟨okx.below hbc, okc, h4x.trans (hbc.mono h4x.size)⟩); have hcl5 := Hcb.out _ HF.out.2.2)
                  | (go_simp; (with_reducible refine (HX.out _ h4c).mono ?_); rintro e w5 ⟨X1, X2, X3, rfl, okx, hbx⟩; have HF := Lib.hid (show OkT w5 X1 X2 X3 (x.withT nm s) ∧ OkT w5 C1 C2 C3 (t.withT nm s) ∧ Below w3.heap.size w3 w5 from ⟨okx, okc.below hbx, h4c.trans (hbx.mono h4c.size)⟩); have hcl5 := Hcb.out _ HF.out.2.2))
                all_goals
                  go_wp2_with fail
                  go_roundw
                  case rel => exact ⟨k + 1, x.withT nm s, y, t.withT nm s, X1, Ay, C1, X2, X3, ny, cy, C2, C3, by omega, by go_num, rfl, rfl, rfl, Lib.hid ⟨HF.out.1, HO3.out.2.1.below HF.out.2.2, HF.out.2.1, ap_left HO3.out.2.2.2.1 Hnm.out (chg_with HO3.out.2.2.2.1.ax HO3.out.2.2.2.1.dx Hsm.out.2.1 Hsm.out.1 Hsm.out.2.2) (chg_with HO3.out.2.2.2.1.ac HO3.out.2.2.2.1.dc Hsm.out.2.1 Hsm.out.1 Hsm.out.2.2), HO3.out.2.2.2.2.trans (HF.out.2.2.mono HO3.out.2.2.2.2.size)⟩⟩
                  case measure => simp [intOf]; omega
              · go_wp2_with fail
                have HX := Lib.hid (fun (W : World) (hW : Below w3.heap.size w3 W) => without_ok nm (HO3.out.1.below hW) (by have := HO3.out.2.2.2.1.zx; omega))
                have HC := Lib.hid (fun (W : World) (hW : Below w3.heap.size w3 W) => without_ok nm (HO3.out.2.2.1.below hW) (by have := HO3.out.2.2.2.1.zc; omega))
                have hcl := HN.out _ HO3.out.2.2.2.2 _ _ Hnm.out
                have hcb := fun (W : World) (hW : Below w3.heap.size w3 W) => HN.out _ (HO3.out.2.2.2.2.trans (hW.mono HO3.out.2.2.2.2.size)) _ _ Hnm.out
                have b0 : Below w3.heap.size w3 w3.drew := (Below.refl _ _).drew
                have Hcb := Lib.hid hcb
                clear hcb
                go_region_law (first
                  | (go_simp; (with_reducible refine (HX.out _ b0).mono ?_); rintro e w4 ⟨X1, X2, X3, rfl, okx, hbx⟩; have h4x := b0.trans (hbx.mono b0.size); have hcl4 := Hcb.out _ h4x)
                  | (go_simp; (with_reducible refine (HC.out _ b0).mono ?_); rintro e w4 ⟨C1, C2, C3, rfl, okc, hbc⟩; have h4c := b0.trans (hbc.mono b0.size); have hcl4 := Hcb.out _ h4c)
                  | (go_simp; (with_reducible refine (HC.out _ h4x).mono ?_); rintro e w5 ⟨C1, C2, C3, rfl, okc, hbc⟩; have HF := Lib.hid (show OkT w5 X1 X2 X3 (withoutT x nm) ∧ OkT w5 C1 C2 C3 (withoutT t nm) ∧ Below w3.heap.size w3 w5 from ⟨okx.below hbc, okc, h4x.trans (hbc.mono h4x.size)⟩); have hcl5 := Hcb.out _ HF.out.2.2)
                  | (go_simp; (with_reducible refine (HX.out _ h4c).mono ?_); rintro e w5 ⟨X1, X2, X3, rfl, okx, hbx⟩; have HF := Lib.hid (show OkT w5 X1 X2 X3 (withoutT x nm) ∧ OkT w5 C1 C2 C3 (withoutT t nm) ∧ Below w3.heap.size w3 w5 from ⟨okx, okc.below hbx, h4c.trans (hbx.mono h4c.size)⟩); have hcl5 := Hcb.out _ HF.out.2.2))
                all_goals
                  go_wp2_with fail
                  go_roundw
                  case rel => exact ⟨k + 1, withoutT x nm, y, withoutT t nm, X1, Ay, C1, X2, X3, ny, cy, C2, C3, by omega, by go_num, rfl, rfl, rfl, Lib.hid ⟨HF.out.1, HO3.out.2.1.below HF.out.2.2, HF.out.2.1, ap_left HO3.out.2.2.2.1 Hnm.out (chg_without HO3.out.2.2.2.1.ax HO3.out.2.2.2.1.dx) (chg_without HO3.out.2.2.2.1.ac HO3.out.2.2.2.1.dc), HO3.out.2.2.2.2.trans (HF.out.2.2.mono HO3.out.2.2.2.2.size)⟩⟩
                  case measure => simp [intOf]; omega
              · go_wp2_with fail
                refine (HSb.out w3 HBr3.out).mono ?_
                rintro e w6 ⟨As2, ns2, cs2, s2, rfl, ht1, ht2, ht3, ⟨ht4, ht5, ht6⟩, hb3⟩
                have Hs2 := Lib.hid (show OkT w6 As2 ns2 cs2 s2 from ⟨ht1, ht2, ht3⟩)
                have Hsm2 := Lib.hid (show s2.size ≤ 199 ∧ AscD s2 ∧ depS s2 ≤ 4 from ⟨by have := Hbz.out; omega, ht5, by omega⟩)
                have HO6 := Lib.hid (show OkT w6 Ax nx cx x ∧ OkT w6 Ay ny cy y ∧ OkT w6 At nt ct t ∧ ApI old x y t k ∧ Below Wb.heap.size Wb w6 from ⟨HO3.out.1.below hb3, HO3.out.2.1.below hb3, HO3.out.2.2.1.below hb3, HO3.out.2.2.2.1, HO3.out.2.2.2.2.trans (hb3.mono HO3.out.2.2.2.2.size)⟩)
                clear ht1 ht2 ht3 ht4 ht5 ht6 hb3 Hs Hsm HO3 HBr3
                go_wp2_with fail
                have HX := Lib.hid (fun (W : World) (hW : Below w6.heap.size w6 W) => with_ok nm (HO6.out.2.1.below hW) (Hs2.out.below hW) (by have := HO6.out.2.2.2.1.zy; omega))
                have HC := Lib.hid (fun (W : World) (hW : Below w6.heap.size w6 W) => with_ok nm (HO6.out.2.2.1.below hW) (Hs2.out.below hW) (by have := HO6.out.2.2.2.1.zc; omega))
                have hcl := HN.out _ HO6.out.2.2.2.2 _ _ Hnm.out
                have hcb := fun (W : World) (hW : Below w6.heap.size w6 W) => HN.out _ (HO6.out.2.2.2.2.trans (hW.mono HO6.out.2.2.2.2.size)) _ _ Hnm.out
                have b0 : Below w6.heap.size w6 w6.drew := (Below.refl _ _).drew
                have Hcb := Lib.hid hcb
                clear hcb
                go_region_law (first
                  | (go_simp; (with_reducible refine (HX.out _ b0).mono ?_); rintro e w4 ⟨X1, X2, X3, rfl, okx, hbx⟩; have h4x := b0.trans (hbx.mono b0.size); have hcl4 := Hcb.out _ h4x)
                  | (go_simp; (with_reducible refine (HC.out _ b0).mono ?_); rintro e w4 ⟨C1, C2, C3, rfl, okc, hbc⟩; have h4c := b0.trans (hbc.mono b0.size); have hcl4 := Hcb.out _ h4c)
                  | (go_simp; (with_reducible refine (HC.out _ h4x).mono ?_); rintro e w5 ⟨C1, C2, C3, rfl, okc, hbc⟩; have HF := Lib.hid (show OkT w5 X1 X2 X3 (y.withT nm s2) ∧ OkT w5 C1 C2 C3 (t.withT nm s2) ∧ Below w6.heap.size w6 w5 from ⟨okx.below hbc, okc, h4x.trans (hbc.mono h4x.size)⟩); have hcl5 := Hcb.out _ HF.out.2.2)
                  | (go_simp; (with_reducible refine (HX.out _ h4c).mono ?_); rintro e w5 ⟨X1, X2, X3, rfl, okx, hbx⟩; have HF := Lib.hid (show OkT w5 X1 X2 X3 (y.withT nm s2) ∧ OkT w5 C1 C2 C3 (t.withT nm s2) ∧ Below w6.heap.size w6 w5 from ⟨okx, okc.below hbx, h4c.trans (hbx.mono h4c.size)⟩); have hcl5 := Hcb.out _ HF.out.2.2))
                all_goals
                  go_wp2_with fail
                  go_roundw
                  case rel => exact ⟨k + 1, x, y.withT nm s2, t.withT nm s2, Ax, X1, C1, nx, cx, X2, X3, C2, C3, by omega, by go_num, rfl, rfl, rfl, Lib.hid ⟨HO6.out.1.below HF.out.2.2, HF.out.1, HF.out.2.1, ap_right HO6.out.2.2.2.1 Hnm.out (chg_with HO6.out.2.2.2.1.ay HO6.out.2.2.2.1.dy Hsm2.out.2.1 Hsm2.out.1 Hsm2.out.2.2) (chg_with HO6.out.2.2.2.1.ac HO6.out.2.2.2.1.dc Hsm2.out.2.1 Hsm2.out.1 Hsm2.out.2.2), HO6.out.2.2.2.2.trans (HF.out.2.2.mono HO6.out.2.2.2.2.size)⟩⟩
                  case measure => simp [intOf]; omega
              · go_wp2_with fail
                have HX := Lib.hid (fun (W : World) (hW : Below w3.heap.size w3 W) => without_ok nm (HO3.out.2.1.below hW) (by have := HO3.out.2.2.2.1.zy; omega))
                have HC := Lib.hid (fun (W : World) (hW : Below w3.heap.size w3 W) => without_ok nm (HO3.out.2.2.1.below hW) (by have := HO3.out.2.2.2.1.zc; omega))
                have hcl := HN.out _ HO3.out.2.2.2.2 _ _ Hnm.out
                have hcb := fun (W : World) (hW : Below w3.heap.size w3 W) => HN.out _ (HO3.out.2.2.2.2.trans (hW.mono HO3.out.2.2.2.2.size)) _ _ Hnm.out
                have b0 : Below w3.heap.size w3 w3.drew := (Below.refl _ _).drew
                have Hcb := Lib.hid hcb
                clear hcb
                go_region_law (first
                  | (go_simp; (with_reducible refine (HX.out _ b0).mono ?_); rintro e w4 ⟨X1, X2, X3, rfl, okx, hbx⟩; have h4x := b0.trans (hbx.mono b0.size); have hcl4 := Hcb.out _ h4x)
                  | (go_simp; (with_reducible refine (HC.out _ b0).mono ?_); rintro e w4 ⟨C1, C2, C3, rfl, okc, hbc⟩; have h4c := b0.trans (hbc.mono b0.size); have hcl4 := Hcb.out _ h4c)
                  | (go_simp; (with_reducible refine (HC.out _ h4x).mono ?_); rintro e w5 ⟨C1, C2, C3, rfl, okc, hbc⟩; have HF := Lib.hid (show OkT w5 X1 X2 X3 (withoutT y nm) ∧ OkT w5 C1 C2 C3 (withoutT t nm) ∧ Below w3.heap.size w3 w5 from ⟨okx.below hbc, okc, h4x.trans (hbc.mono h4x.size)⟩); have hcl5 := Hcb.out _ HF.out.2.2)
                  | (go_simp; (with_reducible refine (HX.out _ h4c).mono ?_); rintro e w5 ⟨X1, X2, X3, rfl, okx, hbx⟩; have HF := Lib.hid (show OkT w5 X1 X2 X3 (withoutT y nm) ∧ OkT w5 C1 C2 C3 (withoutT t nm) ∧ Below w3.heap.size w3 w5 from ⟨okx, okc.below hbx, h4c.trans (hbx.mono h4c.size)⟩); have hcl5 := Hcb.out _ HF.out.2.2))
                all_goals
                  go_wp2_with fail
                  go_roundw
                  case rel => exact ⟨k + 1, x, withoutT y nm, withoutT t nm, Ax, X1, C1, nx, cx, X2, X3, C2, C3, by omega, by go_num, rfl, rfl, rfl, Lib.hid ⟨HO3.out.1.below HF.out.2.2, HF.out.1, HF.out.2.1, ap_right HO3.out.2.2.2.1 Hnm.out (chg_without HO3.out.2.2.2.1.ay HO3.out.2.2.2.1.dy) (chg_without HO3.out.2.2.2.1.ac HO3.out.2.2.2.1.dc), HO3.out.2.2.2.2.trans (HF.out.2.2.mono HO3.out.2.2.2.2.size)⟩⟩
                  case measure => simp [intOf]; omega
          · obtain rfl : k = 5 := by omega
            have hq1 := HO.out.2.2.2.1.zx
            have hq2 := HO.out.2.2.2.1.zy
            have hq3 := HO.out.2.2.2.1.zc
            have Hq1 := Lib.hid (show x.size ≤ 1199 by omega)
            have Hq2 := Lib.hid (show y.size ≤ 1199 by omega)
            have Hq3 := Lib.hid (show t.size ≤ 1199 by omega)
            have HBr := Lib.hid (HBb.out.trans (HO.out.2.2.2.2.mono HBb.out.size))
            have Hor := Lib.hid (Hob.out.below HO.out.2.2.2.2)
            have HWi := Lib.hid (wide_any wr)
            clear hq1 hq2 hq3
            go_wp2_with fail
            (with_reducible refine HWi.out.mono ?_)
            rintro e w4 ⟨Sc, rfl, hsc, hscn, hb4⟩
            have HSc := Lib.hid hsc
            have HSn := Lib.hid hscn
            have HB4 := Lib.hid hb4
            clear hsc hscn hb4
            have HT1 := Lib.hid (some_any Ao no co w4)
            go_wp2_with fail
            (with_reducible refine HT1.out.mono ?_)
            rintro e w5 ⟨rfl, hb5⟩
            have HB5 := Lib.hid hb5
            clear hb5 HT1
            have HT2 := Lib.hid (some_any Ax nx cx w5)
            go_wp2_with fail
            (with_reducible refine HT2.out.mono ?_)
            rintro e w6 ⟨rfl, hb6⟩
            have HB6 := Lib.hid hb6
            clear hb6 HT2
            have HT3 := Lib.hid (some_any Ay ny cy w6)
            go_wp2_with fail
            (with_reducible refine HT3.out.mono ?_)
            rintro e w7 ⟨rfl, hb7⟩
            have h47 : Below w4.heap.size w4 w7 := HB5.out.trans ((HB6.out.trans (hb7.mono HB6.out.size)).mono HB5.out.size)
            have h27 : Below wr.heap.size wr w7 := HB4.out.trans (h47.mono HB4.out.size)
            have hM := merge_any wideS Sc ⟨true, old⟩ ⟨true, x⟩ ⟨true, y⟩ ⟨Ao, no, co⟩ ⟨Ax, nx, cx⟩ ⟨Ay, ny, cy⟩ w7 ⟨ok_op (Hor.out.below h27) true, ok_op (HO.out.1.below h27) true, ok_op (HO.out.2.1.below h27) true⟩ ⟨ap_k Hao.out (by have := Hzo.out; omega), ap_k HO.out.2.2.2.1.ax Hq1.out, ap_k HO.out.2.2.2.1.ay Hq2.out⟩ (ap_bd (by have := Hzo.out; omega) (by have := Hdo.out; omega)) (ap_bd Hq1.out HO.out.2.2.2.1.dx) (ap_bd Hq2.out HO.out.2.2.2.1.dy) ((HSc.out.below h47).more h47.size) (by rw [HSn.out]; decide) wide_fit
            have hM2 : mrg wideS (sz3 ⟨true, old⟩ ⟨true, x⟩ ⟨true, y⟩ + 1) 0 [] ⟨true, old⟩ ⟨true, x⟩ ⟨true, y⟩ = ⟨⟨true, t⟩, ⟨true, t⟩, ⟨true, t⟩, []⟩ := ap_mrgz Hao.out Hzo.out HO.out.2.2.2.1
            rw [hM2] at hM
            have HM := Lib.hid hM
            have H27 := Lib.hid h27
            have Htr := Lib.hid HO.out.2.2.1
            clear hb7 h47 h27 HT3 hM hM2 HO
            go_wp2_with fail
            (with_reducible refine HM.out.mono ?_)
            rintro e w8 ⟨t1, t2, t3, t4, rfl, hn8, hc8, hb8⟩
            obtain ⟨t4A, t4n, t4c⟩ := t4
            obtain rfl : t4n = 0 := hc8.len
            obtain ⟨t1A, t1n, t1c⟩ := t1
            obtain ⟨t2A, t2n, t2c⟩ := t2
            obtain ⟨t3A, t3n, t3c⟩ := t3
            have K1 := Lib.hid (op_ok hn8.1)
            have K2 := Lib.hid (op_ok hn8.2.1)
            have K3_ := Lib.hid (op_ok hn8.2.2)
            have H28 := Lib.hid (H27.out.trans (hb8.mono H27.out.size))
            clear hn8 hc8 hb8 HM
            go_upto_region 26 with (fail)
            obtain ⟨V1, hV1, hv1, hvz1, f1, f2⟩ := boxes2 w8 [.bool true, .slice t1A t1n t1c] [.bool true, .slice t2A t2n t2c] 26 26
            obtain ⟨V2, hV2, hv2, hvz2, f3⟩ := box1 V1 [.bool true, .slice t3A t3n t3c] 26
            have hvz1' : V1.heap.size = w8.heap.size + 1 + 1 := by omega
            rw [hvz1'] at f3
            have f1 := f1.below hv2 (by omega)
            have f2 := f2.below hv2 (by omega)
            have h8v : Below w8.heap.size w8 V2 := hv1.trans (hv2.mono hv1.size)
            have hBV : Below wr.heap.size wr V2 := H28.out.trans (h8v.mono H28.out.size)
            have F := Lib.hid (fun (W : World) (hW : Below V2.heap.size V2 W) => (⟨(f1.below hW f1.lt).cells 1, (f2.below hW f2.lt).cells 1, (f3.below hW f3.lt).cells 1⟩ : W.cell? ⟨w8.heap.size, 1, none⟩ = some (.slice t1A t1n t1c) ∧ W.cell? ⟨w8.heap.size + 1, 1, none⟩ = some (.slice t2A t2n t2c) ∧ W.cell? ⟨w8.heap.size + 1 + 1, 1, none⟩ = some (.slice t3A t3n t3c)))
            have J1 := Lib.hid (K1.out.below h8v)
            have J2 := Lib.hid (K2.out.below h8v)
            have J3 := Lib.hid (K3_.out.below h8v)
            have HBV := Lib.hid hBV
            have hvl : w8.heap.size + 1 + 1 < V2.heap.size := by omega
            rw [← hV1, ← hV2]
            clear f1 f2 f3 hv1 hv2 hvz1 hvz2 hvz1' hBV h8v hV1 hV2
            have l1 : w8.heap.size < V2.heap.size := by omega
            have l2 : w8.heap.size + 1 < V2.heap.size := by omega
            have Ht2 := Lib.hid (Htr.out.below HBV.out)
            have HS1 := Lib.hid (same_ok J1.out Ht2.out (by have := Hq3.out; omega) (by have := Hq3.out; omega) (same_refl _))
            obtain ⟨p1, p2, p3⟩ := F.out V2 (Below.refl _ _)
            go_wp2_with fail
            (with_reducible refine HS1.out.mono ?_)
            rintro e v5 ⟨rfl, hv5⟩
            obtain ⟨s1, s2, s3⟩ := F.out v5 hv5
            have HS2 := Lib.hid (same_ok (J2.out.below hv5) (Ht2.out.below hv5) (by have := Hq3.out; omega) (by have := Hq3.out; omega) (same_refl _))
            have H25 := Lib.hid hv5
            clear hv5
            go_wp2_with fail
            (with_reducible refine HS2.out.mono ?_)
            rintro e v6 ⟨rfl, hv6⟩
            have h26 := H25.out.trans (hv6.mono H25.out.size)
            obtain ⟨x1, x2, x3⟩ := F.out v6 h26
            have HS3 := Lib.hid (same_ok (J3.out.below h26) (Ht2.out.below h26) (by have := Hq3.out; omega) (by have := Hq3.out; omega) (same_refl _))
            have H26 := Lib.hid h26
            clear h26 hv6
            go_wp2_with fail
            (with_reducible refine HS3.out.mono ?_)
            rintro e v7 ⟨rfl, hv7⟩
            have h27' := H26.out.trans (hv7.mono H26.out.size)
            go_wp2_with fail
            go_ret
            exact ⟨rfl, HBr.out.trans ((HBV.out.trans (h27'.mono HBV.out.size)).mono HBr.out.size)⟩
      · rw [decide_eq_true h1c] at hF
        rw [decide_eq_true h2c] at hF2
        rw [decide_eq_false h3c] at hF3
        have HF1 := Lib.hid hF
        have HF2 := Lib.hid hF2
        have HF3 := Lib.hid hF3
        clear hF hF2 hF3 h1c h2c h3c h h2 h3 h4
        go_enter Try.func4, Try.ntmps4
        go_wp2_with fail
        (with_reducible refine HK.out.mono ?_)
        rintro e w1 ⟨rfl, hb1⟩
        have HB1 := Lib.hid hb1
        clear hb1
        go_wp2_with fail
        (with_reducible refine (HF1.out w1 HB1.out).mono ?_)
        rintro e _ ⟨rfl, rfl⟩
        go_wp2_with fail
        (with_reducible refine (HF2.out w1 HB1.out).mono ?_)
        rintro e _ ⟨rfl, rfl⟩
        go_wp2_with fail
        (with_reducible refine (HF3.out w1 HB1.out).mono ?_)
        rintro e _ ⟨rfl, rfl⟩
        go_wp2_with fail
        go_ret
        exact ⟨rfl, HB1.out⟩
    · rw [decide_eq_true h1c] at hF
      rw [decide_eq_false h2c] at hF2
      have HF1 := Lib.hid hF
      have HF2 := Lib.hid hF2
      clear hF hF2 hF3 h1c h2c h h2 h3 h4
      go_enter Try.func4, Try.ntmps4
      go_wp2_with fail
      (with_reducible refine HK.out.mono ?_)
      rintro e w1 ⟨rfl, hb1⟩
      have HB1 := Lib.hid hb1
      clear hb1
      go_wp2_with fail
      (with_reducible refine (HF1.out w1 HB1.out).mono ?_)
      rintro e _ ⟨rfl, rfl⟩
      go_wp2_with fail
      (with_reducible refine (HF2.out w1 HB1.out).mono ?_)
      rintro e _ ⟨rfl, rfl⟩
      go_wp2_with fail
      go_ret
      exact ⟨rfl, HB1.out⟩
  · rw [decide_eq_false h1c] at hF
    have HF1 := Lib.hid hF
    clear hF hF2 hF3 h1c h h2 h3 h4
    go_enter Try.func4, Try.ntmps4
    go_wp2_with fail
    (with_reducible refine HK.out.mono ?_)
    rintro e w1 ⟨rfl, hb1⟩
    have HB1 := Lib.hid hb1
    clear hb1
    go_wp2_with fail
    (with_reducible refine (HF1.out w1 HB1.out).mono ?_)
    rintro e _ ⟨rfl, rfl⟩
    go_wp2_with fail
    go_ret
    exact ⟨rfl, HB1.out⟩
end Go.Proofs.Ytchoipmfngcdoaa.Mg
