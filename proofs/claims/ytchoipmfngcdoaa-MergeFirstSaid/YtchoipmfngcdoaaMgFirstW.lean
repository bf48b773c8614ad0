/- MergeFirst: the walk. No conditions. -/
import Derived.Test.YtchoipmfngcdoaaMgRowL
import Derived.Deep.QuietTactic
import Derived.BigQuiet
namespace Go.Proofs.Ytchoipmfngcdoaa.Mg
open Go.RowKit Go.Proofs.Ytchoipmfngcdoaa.Pt Go.Proofs.Ytchoipmfngcdoaa.Df Go.Proofs.Ytchoipmfngcdoaa.Sc Go.Proofs.Ytchoipmfngcdoaa.Cl
set_option maxRecDepth 100000

set_option maxHeartbeats 16000000 in
theorem first_walk (n1 n2 : Int) (w : World) (hr1 : -9223372036854775808 ≤ n1 ∧ n1 ≤ 9223372036854775807) (hr2 : -9223372036854775808 ≤ n2 ∧ n2 ≤ 9223372036854775807) :
    Calls Try.prog 5 #[.int .i64 n1, .int .i64 n2] w fun e w' => e = .returned (.bool true) ∧ Below w.heap.size w w' := by
  have HK := Lib.hid (known_any w)
  have HR1 := Lib.hid (fun W => row_any n1 hr1 W)
  have HR2 := Lib.hid (fun W => row_any n2 hr2 W)
  clear hr1 hr2
  go_enter Try.func5, Try.ntmps5
  go_wp2_with fail
  (with_reducible refine HK.out.mono ?_)
  rintro e w1 ⟨rfl, hb1⟩
  have HB1 := Lib.hid hb1
  clear hb1
  have HO := Lib.hid (one_any w1)
  go_wp2_with fail
  (with_reducible refine HO.out.mono ?_)
  rintro e w2 ⟨Sc, rfl, hsc, hscn, hb2⟩
  have HSc := Lib.hid hsc
  have HSn := Lib.hid hscn
  have HB2 := Lib.hid hb2
  clear hsc hscn hb2 HO
  go_wp2_with fail
  refine (HR1.out _).mono ?_
  rintro e w5 ⟨A1, N1, c1, t1, rfl, ok1, ri1, hbw5⟩
  have Hok1 := Lib.hid ok1
  have Hri1 := Lib.hid ri1
  have HB5 := Lib.hid hbw5
  clear ok1 ri1 hbw5
  have HT1 := Lib.hid (some_any A1 N1 c1 w5)
  go_wp2_with fail
  (with_reducible refine HT1.out.mono ?_)
  rintro e w6 ⟨rfl, hbw6⟩
  have HB6 := Lib.hid hbw6
  clear hbw6 HT1
  go_wp2_with fail
  refine (HR2.out _).mono ?_
  rintro e w7 ⟨A2, N2, c2, t2, rfl, ok2, ri2, hbw7⟩
  have Hok2 := Lib.hid ok2
  have Hri2 := Lib.hid ri2
  have HB7 := Lib.hid hbw7
  clear ok2 ri2 hbw7
  have HT2 := Lib.hid (some_any A2 N2 c2 w7)
  go_wp2_with fail
  (with_reducible refine HT2.out.mono ?_)
  rintro e w8 ⟨rfl, hbw8⟩
  have HB8 := Lib.hid hbw8
  clear hbw8 HT2
  have b78 := HB7.out.trans (HB8.out.mono HB7.out.size)
  have b68 := HB6.out.trans (b78.mono HB6.out.size)
  have b58 := HB5.out.trans (b68.mono HB5.out.size)
  have b28 := HB2.out.trans (b58.mono HB2.out.size)
  have HB18 := Lib.hid (HB1.out.trans (b28.mono HB1.out.size))
  have hk3 : K3 ⟨false, .nil⟩ ⟨true, t1⟩ ⟨true, t2⟩ := ⟨row_no.k, (Hri1.out.o (dg_lt _)).k, (Hri2.out.o (dg_lt _)).k⟩
  have hbd : ∀ {t : Tr} {f : Nat → Nat}, RowI t f 3 → Bd ⟨true, t⟩ := fun h => ap_bd (by have := h.size; omega) h.dep
  have HM := Lib.hid (merge_any oneS Sc ⟨false, .nil⟩ ⟨true, t1⟩ ⟨true, t2⟩ nil4 ⟨A1, N1, c1⟩ ⟨A2, N2, c2⟩ w8 ⟨opb_nil _ _ _, ok_op (Hok1.out.below b68) true, ok_op (Hok2.out.below HB8.out) true⟩ hk3 (bd_nil _) (hbd Hri1.out) (hbd Hri2.out) ((HSc.out.below b58).more b58.size) (by rw [HSn.out]; decide) one_fit)
  have HRR := Lib.hid (mrg_rowsz row_no Hri1.out Hri2.out (dg_lt _) (dg_lt _))
  obtain ⟨m, hm⟩ : ∃ m, m = mrg oneS (sz3 ⟨false, .nil⟩ ⟨true, t1⟩ ⟨true, t2⟩ + 1) 0 [] ⟨false, .nil⟩ ⟨true, t1⟩ ⟨true, t2⟩ := ⟨_, rfl⟩
  rw [← hm] at HM HRR
  clear b78 b68 b58 b28 hk3 hbd hm
  go_wp2_with fail
  (with_reducible refine HM.out.mono ?_)
  rintro e w9 ⟨t1s, t2s, t3s, t4s, rfl, hn9, hc9, hb9⟩
  obtain ⟨t4A, t4n, t4c⟩ := t4s
  obtain ⟨t1A, t1n, t1c⟩ := t1s
  obtain ⟨t2A, t2n, t2c⟩ := t2s
  obtain ⟨t3A, t3n, t3c⟩ := t3s
  have K1 := Lib.hid (op_ok hn9.1)
  have K2 := Lib.hid (op_ok hn9.2.1)
  have K3_ := Lib.hid (op_ok hn9.2.2)
  have hl4 := hc9.len
  simp only at hl4
  have HC := Lib.hid hc9
  have HB9 := Lib.hid (HB18.out.trans (hb9.mono HB18.out.size))
  obtain ⟨V1, hV1, hv1, hvz1, f1, f2⟩ := boxes2 w9 [.bool m.o.is, .slice t1A t1n t1c] [.bool m.a.is, .slice t2A t2n t2c] 26 26
  obtain ⟨V2, hV2, hv2, hvz2, f3⟩ := box1 V1 [.bool m.b.is, .slice t3A t3n t3c] 26
  have hvz1' : V1.heap.size = w9.heap.size + 1 + 1 := by omega
  rw [hvz1'] at f3
  have f1 := f1.below hv2 (by omega)
  have f2 := f2.below hv2 (by omega)
  have h9v : Below w9.heap.size w9 V2 := hv1.trans (hv2.mono hv1.size)
  obtain ⟨g, hg⟩ : ∃ g, g = w9.heap.size := ⟨_, rfl⟩
  rw [← hg] at f1 f2 f3
  have HF := Lib.hid (fun (W : World) (hW : Below V2.heap.size V2 W) => (⟨(f1.below hW f1.lt).cells 0, (f1.below hW f1.lt).cells 1, (f2.below hW f2.lt).cells 0, (f2.below hW f2.lt).cells 1, (f3.below hW f3.lt).cells 0, (f3.below hW f3.lt).cells 1⟩ : W.cell? ⟨g, 0, none⟩ = some (.bool m.o.is) ∧ W.cell? ⟨g, 1, none⟩ = some (.slice t1A t1n t1c) ∧ W.cell? ⟨g + 1, 0, none⟩ = some (.bool m.a.is) ∧ W.cell? ⟨g + 1, 1, none⟩ = some (.slice t2A t2n t2c) ∧ W.cell? ⟨g + 1 + 1, 0, none⟩ = some (.bool m.b.is) ∧ W.cell? ⟨g + 1 + 1, 1, none⟩ = some (.slice t3A t3n t3c)))
  have HJ1 := Lib.hid (K1.out.below h9v)
  have HJ2 := Lib.hid (K2.out.below h9v)
  have HJ3 := Lib.hid (K3_.out.below h9v)
  have HCv := Lib.hid (fun (W : World) (hW : Below V2.heap.size V2 W) (j : Nat) (q : List ByteArray × Int) (hq : m.l[j]? = some q) => HC.out.keep (w' := W) (fun b o hb => (hW.cell (p := ⟨b, o, none⟩) (by have := h9v.size; simp only; omega)).trans (h9v.cell (p := ⟨b, o, none⟩) (by simp only; omega))))
  have HB9v := Lib.hid (HB9.out.trans (h9v.mono HB9.out.size))
  have HV := Lib.hid (And.intro hV1 hV2)
  have Hg := Lib.hid hg
  have hgl : g + 1 + 1 < V2.heap.size := by omega
  rw [HRR.out.told] at hl4
  have hle := side_le (f := fun _ => 0) (g := dg n1) (h := dg n2)
  have Hl4 := Lib.hid hl4
  have Hle := Lib.hid hle
  clear hn9 hc9 hb9 HM hV1 hV2 hv1 hv2 hvz1 hvz2 hvz1' f1 f2 f3 h9v hg hl4 hle
  go_wp2_with fail
  rw [← HV.out.1, ← HV.out.2, ← Hg.out]
  go_loopw [9, 10] (fun nv iv wr => ∃ k : Nat, k ≤ 3 ∧ iv = .int .i64 k ∧ nv = .int .i64 ((sideL (fun _ => 0) (dg n1) (dg n2) k).length : Nat) ∧ Hid (Below V2.heap.size V2 wr)) (fun _ i _ => 3 - (intOf i).toNat)
  case atStart => exact ⟨0, by omega, rfl, rfl, Lib.hid (Below.refl _ _)⟩
  case round =>
    obtain ⟨k, hk, rfl, rfl, HW⟩ := hrel
    by_cases hlt : k < 3
    · have hlt1 : (k : Int) < 3 := by omega
      have hlt0 : (0 : Int) ≤ (k : Int) := by omega
      obtain ⟨nm, hnm⟩ := nm3_at hlt
      have hcb : (sideL (fun _ => 0) (dg n1) (dg n2) k).length ≤ 3 := by
        obtain ⟨r, hr⟩ := side_pre (f := fun _ => 0) (g := dg n1) (h := dg n2) hk
        have := Hle.out
        rw [hr, List.length_append] at this
        omega
      obtain ⟨cnt, hcnt⟩ : ∃ x, x = (sideL (fun _ => 0) (dg n1) (dg n2) k).length := ⟨_, rfl⟩
      rw [← hcnt] at hcb
      rw [← hcnt]
      have Hcnt := Lib.hid hcnt
      have Hnm := Lib.hid hnm
      have hy := names3 wr hnm
      have HX := Lib.hid (HW.out.trans (((Below.refl wr.heap.size wr).alloc (Nat.le_refl _) (Obj.cells #[Value.string ⟨#[97]⟩, Value.string ⟨#[98]⟩, Value.string ⟨#[99]⟩] 9)).mono HW.out.size))
      clear hnm hcnt HW
      go_wp2_with fail
      refine (HR1.out _).mono ?_
      rintro e w11 ⟨B1, M1, e1, u1, rfl, ok, ri, hb⟩
      have HV1 := Lib.hid (value12_any ok (by have := u1.len_size; have := ri.size; omega) (ri.here k hlt nm Hnm.out))
      have HX1 := Lib.hid ((HX.out).trans (hb.mono (HX.out).size))
      clear ok ri hb
      go_wp2_with fail
      (with_reducible refine HV1.out.mono ?_)
      rintro e _ ⟨rfl, q1, rfl⟩
      go_wp2_with fail
      refine (HR2.out _).mono ?_
      rintro e w12 ⟨B2, M2, e2, u2, rfl, ok, ri, hb⟩
      have HV2 := Lib.hid (value12_any ok (by have := u2.len_size; have := ri.size; omega) (ri.here k hlt nm Hnm.out))
      have HX2 := Lib.hid ((below_drewN HX1.out q1).trans (hb.mono (below_drewN HX1.out q1).size))
      clear ok ri hb
      go_wp2_with fail
      (with_reducible refine HV2.out.mono ?_)
      rintro e _ ⟨rfl, q2, rfl⟩
      go_wp2_with fail
      obtain ⟨wb, hwb⟩ : ∃ x, x = w12.drewN q2 := ⟨_, rfl⟩
      have HXb : Hid (Below V2.heap.size V2 wb) := Lib.hid (by rw [hwb]; exact below_drewN HX2.out q2)
      rw [← hwb]
      obtain ⟨p0, p1, p2, p3, p4, p5⟩ := HF.out wb HXb.out
      have hat := HRR.out.at_ k nm Hnm.out
      obtain ⟨q, hq⟩ : ∃ x, x = dg n1 k := ⟨_, rfl⟩
      obtain ⟨r, hr⟩ : ∃ x, x = dg n2 k := ⟨_, rfl⟩
      have l1 : q < 4 := by rw [hq]; exact dg_lt _ _
      have l2 : r < 4 := by rw [hr]; exact dg_lt _ _
      have HT := Lib.hid (show tld ((fun _ => 0) k) (dg n1 k) (dg n2 k) = tld 0 q r by rw [hq, hr])
      rw [← hq, ← hr] at hat
      rw [← hq, ← hr]
      have Hat := Lib.hid hat
      clear hwb hat hq hr HV1 HV2 hy p0 p2 p4
      have L1 := Lib.hid l1
      have L2 := Lib.hid l2
      clear l1 l2
      by_cases c1 : q = r
      · subst c1
        have hres : res 0 q q = (q, q, q) := by rw [res, if_pos rfl]
        have Htl := Lib.hid (show tld 0 q q = none by rw [tld, if_pos (.inl rfl)])
        by_cases z1 : q = 0
        · subst z1
          have s4 := vS_zero
          have HU1 : Hid (∀ d, Calls Try.prog 12 #[.slice t1A t1n t1c, .string nm] (wb.drewN d) fun e w' => e = .returned (.string (vS 0)) ∧ ∃ j, w' = (wb.drewN d).drewN j) := Lib.hid fun d => value12_any (HJ1.out.below (below_drewN HXb.out d)) HRR.out.lo (Hat.out.1.trans (by rw [hres]))
          have HU2 : Hid (∀ d, Calls Try.prog 12 #[.slice t2A t2n t2c, .string nm] (wb.drewN d) fun e w' => e = .returned (.string (vS 0)) ∧ ∃ j, w' = (wb.drewN d).drewN j) := Lib.hid fun d => value12_any (HJ2.out.below (below_drewN HXb.out d)) HRR.out.la (Hat.out.2.1.trans (by rw [hres]))
          have HU3 : Hid (∀ d, Calls Try.prog 12 #[.slice t3A t3n t3c, .string nm] (wb.drewN d) fun e w' => e = .returned (.string (vS 0)) ∧ ∃ j, w' = (wb.drewN d).drewN j) := Lib.hid fun d => value12_any (HJ3.out.below (below_drewN HXb.out d)) HRR.out.lb (Hat.out.2.2.trans (by rw [hres]))
          clear hres
          go_quiet ((first | (go_at_call 12; with_reducible exact Calls.quiet_of (HU1.out _)) | (go_at_call 12; with_reducible exact Calls.quiet_of (HU2.out _)) | (go_at_call 12; with_reducible exact Calls.quiet_of (HU3.out _))))
          go_wp2_with fail
          go_roundw
          case rel => exact ⟨k + 1, by omega, by go_num, by rw [side_len Hnm.out (HT.out.trans Htl.out), ← Hcnt.out]; rfl, Lib.hid (below_drewN HXb.out _)⟩
          case measure => simp [intOf]; omega
        · have s4 := vS_no L1.out z1
          clear z1
          have HU1 : Hid (∀ d, Calls Try.prog 12 #[.slice t1A t1n t1c, .string nm] (wb.drewN d) fun e w' => e = .returned (.string (vS q)) ∧ ∃ j, w' = (wb.drewN d).drewN j) := Lib.hid fun d => value12_any (HJ1.out.below (below_drewN HXb.out d)) HRR.out.lo (Hat.out.1.trans (by rw [hres]))
          have HU2 : Hid (∀ d, Calls Try.prog 12 #[.slice t2A t2n t2c, .string nm] (wb.drewN d) fun e w' => e = .returned (.string (vS q)) ∧ ∃ j, w' = (wb.drewN d).drewN j) := Lib.hid fun d => value12_any (HJ2.out.below (below_drewN HXb.out d)) HRR.out.la (Hat.out.2.1.trans (by rw [hres]))
          have HU3 : Hid (∀ d, Calls Try.prog 12 #[.slice t3A t3n t3c, .string nm] (wb.drewN d) fun e w' => e = .returned (.string (vS q)) ∧ ∃ j, w' = (wb.drewN d).drewN j) := Lib.hid fun d => value12_any (HJ3.out.below (below_drewN HXb.out d)) HRR.out.lb (Hat.out.2.2.trans (by rw [hres]))
          clear hres
          go_quiet ((first | (go_at_call 12; with_reducible exact Calls.quiet_of (HU1.out _)) | (go_at_call 12; with_reducible exact Calls.quiet_of (HU2.out _)) | (go_at_call 12; with_reducible exact Calls.quiet_of (HU3.out _))))
          go_wp2_with fail
          go_roundw
          case rel => exact ⟨k + 1, by omega, by go_num, by rw [side_len Hnm.out (HT.out.trans Htl.out), ← Hcnt.out]; rfl, Lib.hid (below_drewN HXb.out _)⟩
          case measure => simp [intOf]; omega
      · by_cases z1 : q = 0
        · subst z1
          have hres : res 0 0 r = (r, r, r) := by rw [res, if_neg c1, if_pos rfl]
          have Htl := Lib.hid (show tld 0 0 r = none by rw [tld, if_pos (.inr (.inl rfl))])
          have s4 := vS_zero
          have s1 := vS_ne L1.out L2.out c1
          have HU1 : Hid (∀ d, Calls Try.prog 12 #[.slice t1A t1n t1c, .string nm] (wb.drewN d) fun e w' => e = .returned (.string (vS r)) ∧ ∃ j, w' = (wb.drewN d).drewN j) := Lib.hid fun d => value12_any (HJ1.out.below (below_drewN HXb.out d)) HRR.out.lo (Hat.out.1.trans (by rw [hres]))
          have HU2 : Hid (∀ d, Calls Try.prog 12 #[.slice t2A t2n t2c, .string nm] (wb.drewN d) fun e w' => e = .returned (.string (vS r)) ∧ ∃ j, w' = (wb.drewN d).drewN j) := Lib.hid fun d => value12_any (HJ2.out.below (below_drewN HXb.out d)) HRR.out.la (Hat.out.2.1.trans (by rw [hres]))
          have HU3 : Hid (∀ d, Calls Try.prog 12 #[.slice t3A t3n t3c, .string nm] (wb.drewN d) fun e w' => e = .returned (.string (vS r)) ∧ ∃ j, w' = (wb.drewN d).drewN j) := Lib.hid fun d => value12_any (HJ3.out.below (below_drewN HXb.out d)) HRR.out.lb (Hat.out.2.2.trans (by rw [hres]))
          clear hres
          go_quiet ((first | (go_at_call 12; with_reducible exact Calls.quiet_of (HU1.out _)) | (go_at_call 12; with_reducible exact Calls.quiet_of (HU2.out _)) | (go_at_call 12; with_reducible exact Calls.quiet_of (HU3.out _))))
          clear c1
          go_wp2_with fail
          go_roundw
          case rel => exact ⟨k + 1, by omega, by go_num, by rw [side_len Hnm.out (HT.out.trans Htl.out), ← Hcnt.out]; rfl, Lib.hid (below_drewN HXb.out _)⟩
          case measure => simp [intOf]; omega
        · by_cases z2 : r = 0
          · subst z2
            have hres : res 0 q 0 = (q, q, q) := by rw [res, if_neg c1, if_neg (Ne.symm z1), if_pos rfl]
            have Htl := Lib.hid (show tld 0 q 0 = none by rw [tld, if_pos (.inr (.inr rfl))])
            have s4 := vS_no L1.out z1
            have s5 := vS_zero
            have HU1 : Hid (∀ d, Calls Try.prog 12 #[.slice t1A t1n t1c, .string nm] (wb.drewN d) fun e w' => e = .returned (.string (vS q)) ∧ ∃ j, w' = (wb.drewN d).drewN j) := Lib.hid fun d => value12_any (HJ1.out.below (below_drewN HXb.out d)) HRR.out.lo (Hat.out.1.trans (by rw [hres]))
            have HU2 : Hid (∀ d, Calls Try.prog 12 #[.slice t2A t2n t2c, .string nm] (wb.drewN d) fun e w' => e = .returned (.string (vS q)) ∧ ∃ j, w' = (wb.drewN d).drewN j) := Lib.hid fun d => value12_any (HJ2.out.below (below_drewN HXb.out d)) HRR.out.la (Hat.out.2.1.trans (by rw [hres]))
            have HU3 : Hid (∀ d, Calls Try.prog 12 #[.slice t3A t3n t3c, .string nm] (wb.drewN d) fun e w' => e = .returned (.string (vS q)) ∧ ∃ j, w' = (wb.drewN d).drewN j) := Lib.hid fun d => value12_any (HJ3.out.below (below_drewN HXb.out d)) HRR.out.lb (Hat.out.2.2.trans (by rw [hres]))
            clear hres
            go_quiet ((first | (go_at_call 12; with_reducible exact Calls.quiet_of (HU1.out _)) | (go_at_call 12; with_reducible exact Calls.quiet_of (HU2.out _)) | (go_at_call 12; with_reducible exact Calls.quiet_of (HU3.out _))))
            clear c1 z1
            go_wp2_with fail
            go_roundw
            case rel => exact ⟨k + 1, by omega, by go_num, by rw [side_len Hnm.out (HT.out.trans Htl.out), ← Hcnt.out]; rfl, Lib.hid (below_drewN HXb.out _)⟩
            case measure => simp [intOf]; omega
          · have hres : res 0 q r = (0, q, r) := by rw [res, if_neg c1, if_neg (Ne.symm z1), if_neg (Ne.symm z2)]
            have Htl : Hid (tld 0 q r = some 2) := Lib.hid (by rw [tld, if_neg (fun e => e.elim c1 fun e => e.elim (Ne.symm z1) (Ne.symm z2)), if_neg (fun e => e.elim z1 z2)]; rfl)
            have s1 := vS_ne L1.out L2.out c1
            have s4 := vS_no L1.out z1
            have s5 := vS_no L2.out z2
            have s6 := vS_zero
            have HU1 : Hid (∀ d, Calls Try.prog 12 #[.slice t1A t1n t1c, .string nm] (wb.drewN d) fun e w' => e = .returned (.string (vS 0)) ∧ ∃ j, w' = (wb.drewN d).drewN j) := Lib.hid fun d => value12_any (HJ1.out.below (below_drewN HXb.out d)) HRR.out.lo (Hat.out.1.trans (by rw [hres]))
            have HU2 : Hid (∀ d, Calls Try.prog 12 #[.slice t2A t2n t2c, .string nm] (wb.drewN d) fun e w' => e = .returned (.string (vS q)) ∧ ∃ j, w' = (wb.drewN d).drewN j) := Lib.hid fun d => value12_any (HJ2.out.below (below_drewN HXb.out d)) HRR.out.la (Hat.out.2.1.trans (by rw [hres]))
            have HU3 : Hid (∀ d, Calls Try.prog 12 #[.slice t3A t3n t3c, .string nm] (wb.drewN d) fun e w' => e = .returned (.string (vS r)) ∧ ∃ j, w' = (wb.drewN d).drewN j) := Lib.hid fun d => value12_any (HJ3.out.below (below_drewN HXb.out d)) HRR.out.lb (Hat.out.2.2.trans (by rw [hres]))
            have hsa := side_at (f := fun _ => 0) (g := dg n1) (h := dg n2) hlt Hnm.out (HT.out.trans Htl.out)
            rw [← Hcnt.out] at hsa
            have hcl : (cnt : Int) < (t4n : Int) := by
              have h1 := (List.getElem?_eq_some_iff.1 hsa).1
              have h2 := Hl4.out
              omega
            have hc0 : (0 : Int) ≤ (cnt : Int) := by omega
            obtain ⟨bq, oq, Q, hA, hbq, hq1, hq2, hq3⟩ := (HCv.out wb HXb.out cnt _ (by rw [HRR.out.told]; exact hsa)).cell cnt _ (by rw [HRR.out.told]; exact hsa)
            simp only at hA
            subst hA
            clear hsa hq3 hbq hq1 c1 z1 z2
            clear hres
            go_quiet ((first | (go_at_call 12; with_reducible exact Calls.quiet_of (HU1.out _)) | (go_at_call 12; with_reducible exact Calls.quiet_of (HU2.out _)) | (go_at_call 12; with_reducible exact Calls.quiet_of (HU3.out _))))
            go_wp2_with fail
            go_roundw
            case rel => exact ⟨k + 1, by omega, by go_num, by rw [side_len Hnm.out (HT.out.trans Htl.out), ← Hcnt.out]; simp [tl], Lib.hid (below_drewN HXb.out _)⟩
            case measure => simp [intOf]; omega
    · obtain rfl : k = 3 := by omega
      obtain ⟨p0, _, p2, _, p4, _⟩ := HF.out wr HW.out
      rw [HRR.out.io] at p0
      rw [HRR.out.ia] at p2
      rw [HRR.out.ib] at p4
      obtain ⟨cnt, hcnt⟩ : ∃ x, x = (sideL (fun _ => 0) (dg n1) (dg n2) 3).length := ⟨_, rfl⟩
      have h4 := Hl4.out
      rw [← hcnt] at h4
      rw [← hcnt]
      subst h4
      go_wp2_with fail
      go_ret
      exact ⟨rfl, HB9v.out.trans (HW.out.mono HB9v.out.size)⟩
end Go.Proofs.Ytchoipmfngcdoaa.Mg
