/- DiffNone. No conditions. -/
import Derived.Test.YtcfaocjgflefmaaDfMendsW
import Derived.Deep.QuietTactic
import Derived.BigQuiet
namespace Go.Proofs.Ytcfaocjgflefmaa.Df
open Go.RowKit Go.Proofs.Ytcfaocjgflefmaa.Pt
set_option maxRecDepth 100000

theorem apart_fr {l : List (List ByteArray)} (h : l.Pairwise fun p q => ¬ p <+: q ∧ ¬ q <+: p) {i k : Nat} {p q : List ByteArray} (hik : i < k) (hp : l[i]? = some p) (hq : l[k]? = some q) : fr p q = false ∧ fr q p = false := by
  obtain ⟨hi, rfl⟩ := List.getElem?_eq_some_iff.1 hp
  obtain ⟨hk, rfl⟩ := List.getElem?_eq_some_iff.1 hq
  obtain ⟨h1, h2⟩ := List.pairwise_iff_getElem.1 h i k hi hk hik
  exact ⟨Bool.eq_false_iff.2 fun e => h2 (fr_iff.1 e), Bool.eq_false_iff.2 fun e => h1 (fr_iff.1 e)⟩

set_option maxHeartbeats 4000000 in
theorem none_walk (r s : Tr) (A A2 : Option Addr) (n n2 c c2 : Nat) (w : World) (h : Holds w w.heap.size A n r) (h2 : Holds w w.heap.size A2 n2 s) (hc : n ≤ c) (hm : c ≤ maxLen) (hc2 : n2 ≤ c2) (hm2 : c2 ≤ maxLen) (hr : r.len ≤ 140737488351232 ∧ r.Fit) (hs : s.len ≤ 140737488351232 ∧ s.Fit) :
    Calls Try.prog 4 #[.slice A n c, .slice A2 n2 c2] w fun e w' => e = .returned (.bool true) ∧ Below w.heap.size w w' := by
  have hn : n ≤ 140737488351232 := by rw [h.len]; exact hr.1
  have hn2 : n2 ≤ 140737488351232 := by rw [h2.len]; exact hs.1
  have HK := Lib.hid (known_any w)
  have hF := fun (W : World) (hW : Below w.heap.size w W) => few_any r A n c w.heap.size W (h.below hW) hW.size hn (fit_low hr.2)
  have hF2 := fun (W : World) (hW : Below w.heap.size w W) => few_any s A2 n2 c2 w.heap.size W (h2.below hW) hW.size hn2 (fit_low hs.2)
  by_cases h1c : r.count n 200 < 200
  · by_cases h2c : s.count n2 200 < 200
    · rw [decide_eq_true h1c] at hF
      rw [decide_eq_true h2c] at hF2
      have hrz := few_yes h.len h1c
      have hsz := few_yes h2.len h2c
      have hM := fun (W : World) (hW : Below w.heap.size w W) => make_any r.size r A n c w.heap.size 6 5 W (Nat.le_refl _) (h.below hW) hW.size hc hm (by omega) (by omega) (by omega) (by omega) (by omega)
      have hM2 := fun (W : World) (hW : Below w.heap.size w W) => make_any s.size s A2 n2 c2 w.heap.size 6 5 W (Nat.le_refl _) (h2.below hW) hW.size hc2 hm2 (by omega) (by omega) (by omega) (by omega) (by omega)
      have hza := makeT_size (6 : Int).toNat r (6 : Int).toNat (5 : Int).toNat .nil
      have hzb := makeT_size (6 : Int).toNat s (6 : Int).toNat (5 : Int).toNat .nil
      have haa := makeT_ascD (6 : Int).toNat r (6 : Int).toNat (5 : Int).toNat .nil trivial
      have hab := makeT_ascD (6 : Int).toNat s (6 : Int).toNat (5 : Int).toNat .nil trivial
      obtain ⟨a, ha⟩ : ∃ t, t = r.makeT (6 : Int).toNat (6 : Int).toNat (5 : Int).toNat .nil := ⟨_, rfl⟩
      obtain ⟨b, hb⟩ : ∃ t, t = s.makeT (6 : Int).toNat (6 : Int).toNat (5 : Int).toNat .nil := ⟨_, rfl⟩
      rw [← ha] at hM hza haa
      rw [← hb] at hM2 hzb hab
      simp only [Tr.size] at hza hzb
      have hz1 : a.size ≤ 200 := by omega
      have hz2 : b.size ≤ 200 := by omega
      have HF := Lib.hid hF
      have HF2 := Lib.hid hF2
      have HM := Lib.hid hM
      have HM2 := Lib.hid hM2
      have Haa := Lib.hid haa
      have Hab := Lib.hid hab
      clear hF hF2 hM hM2 h1c h2c h h2 hr hs hn hn2 ha hb hza hzb haa hab
      go_enter Try.func4, Try.ntmps4
      go_wp2_with fail
      (with_reducible refine HK.out.mono ?_)
      rintro e w1 ⟨rfl, hb1⟩
      have HB1 := Lib.hid hb1
      clear hb1
      go_wp2_with fail
      (with_reducible refine (HF.out w1 HB1.out).mono ?_)
      rintro e _ ⟨rfl, rfl⟩
      go_wp2_with fail
      (with_reducible refine (HF2.out w1 HB1.out).mono ?_)
      rintro e _ ⟨rfl, rfl⟩
      go_wp2_with fail
      refine (HM.out w1 HB1.out).mono ?_
      rintro e w2 ⟨Aa, na, ca, rfl, ha1, ha2, ha3, hb2⟩
      have HB2 := Lib.hid (HB1.out.trans (hb2.mono HB1.out.size))
      have Hoa := Lib.hid (show OkT w2 Aa na ca a from ⟨ha1, ha2, ha3⟩)
      clear ha1 hb2
      go_wp2_with fail
      refine (HM2.out w2 HB2.out).mono ?_
      rintro e w3 ⟨Ab, nb', cb, rfl, hb1, hb2, hb3, hb6⟩
      have HB3 := Lib.hid (HB2.out.trans (hb6.mono HB2.out.size))
      have Hob := Lib.hid (show OkT w3 Ab nb' cb b from ⟨hb1, hb2, hb3⟩)
      have Hoa3 := Lib.hid (Hoa.out.below hb6)
      have HP := Lib.hid (paths_any 1000 (by omega) a b Aa Ab na ca nb' cb w3 Hoa3.out Hob.out (by omega) (by omega) (by omega) Haa.out Hab.out)
      clear hb1 hb6
      go_wp2_with fail
      (with_reducible refine HP.out.mono ?_)
      rintro e w4 ⟨Ap, np, cp, xs, rfl, hO, hq, hb4'⟩
      have Hq := Lib.hid hO.sees
      rw [hq] at Hq
      have hln : np ≤ 400 := by have h1 := hO.len; have h2 := congrArg List.length hq; have h3 := dP_len 1000 Haa.out Hab.out; rw [qp, List.length_map] at h2; omega
      have HB4 := Lib.hid (HB3.out.trans (hb4'.mono HB3.out.size))
      have Hob4 := Lib.hid (Hob.out.below hb4')
      have Hoa4 := Lib.hid (Hoa3.out.below hb4')
      have hsame := dP_same (N := 1000) (t := a) (u := b) (by omega) Haa.out Hab.out
      rw [← Hq.out.len] at hsame
      have HSm := Lib.hid (same_ok Hoa4.out Hob4.out (by omega) (by omega) (v := decide (np = 0)) hsame.symm)
      obtain ⟨vs, e1, e2⟩ : ∃ v : Bool, ((np : Int) == 0) = v ∧ decide (np = 0) = v := by
        by_cases h0 : np = 0
        · exact ⟨true, by rw [h0]; rfl, decide_eq_true h0⟩
        · exact ⟨false, by rw [beq_eq_false_iff_ne]; omega, decide_eq_false h0⟩
      rw [e2] at HSm
      have hvv : (vs != vs) = false := by cases vs <;> rfl
      have hap := dP_apart 1000 a b
      have hdf := dP_diff 1000 Haa.out Hab.out
      have Hap := Lib.hid hap
      have Hdf := Lib.hid hdf
      clear hO hq hb4' hsame e2 hap hdf
      go_wp2_with fail
      (with_reducible refine HSm.out.mono ?_)
      rintro e w5 ⟨rfl, hb5⟩
      have HB5 := Lib.hid (HB4.out.trans (hb5.mono HB4.out.size))
      have Hb45 := Lib.hid hb5
      have HP2 := Lib.hid (paths_any 1000 (by omega) a a Aa Aa na ca na ca w5 (Hoa4.out.below hb5) (Hoa4.out.below hb5) (by omega) (by omega) (by omega) Haa.out Haa.out)
      clear hb5
      go_wp2_with fail
      (with_reducible refine HP2.out.mono ?_)
      rintro e w6 ⟨Ap2, np2, cp2, xs2, rfl, hO2, hq2, hb6'⟩
      obtain rfl : np2 = 0 := by
        have h1 := hO2.len
        rw [dP_self 1000 Haa.out] at hq2
        have h2 := congrArg List.length hq2
        rw [qp, List.length_map] at h2
        exact h1.trans h2
      have Hb46 := Lib.hid (show Below w4.heap.size w4 w6 from Hb45.out.trans (hb6'.mono Hb45.out.size))
      clear hO2 hq2 hb6' e1 hvv
      go_wp2_with fail
      go_loopw [8] (fun i wr => ∃ k : Nat, k ≤ np ∧ i = .int .i64 k ∧ Hid (Below w4.heap.size w4 wr)) (fun i _ => np - (intOf i).toNat)
      case atStart => exact ⟨0, Nat.zero_le _, rfl, Hb46⟩
      case round =>
        obtain ⟨k, hk, rfl, HW⟩ := hrel
        by_cases hlt : k < np
        · obtain ⟨p, hp⟩ : ∃ p, (dP 1000 a b)[k]? = some p := ⟨_, List.getElem?_eq_getElem (by rw [← Hq.out.len]; exact hlt)⟩
          obtain ⟨bp, op, Af, nf, cf, rfl, hbp, hcp, hsp, hnf, hcf⟩ := Hq.out.at_ k p hp
          have hpl := dP_short 1000 a b p (List.mem_of_getElem? hp)
          obtain ⟨hpn, hpd⟩ := Hdf.out p (List.mem_of_getElem? hp)
          have hfl := hsp.len
          rw [List.length_map] at hfl
          have hnf0 : ((nf : Int) == 0) = false := by
            have : 0 < p.length := List.length_pos_iff.2 hpn
            rw [beq_eq_false_iff_ne]; omega
          have hnf1 : ¬ ((nf : Int) = 0) := by
            have : 0 < p.length := List.length_pos_iff.2 hpn
            omega
          have hcpw := (HW.out.cell (p := ⟨bp, op + k, none⟩) hbp).trans hcp
          have hkn : (k : Int) < (np : Int) := by omega
          have hk0 : (0 : Int) ≤ (k : Int) := by omega
          have Hsp := Lib.hid (fun (W : World) (hW : Below w4.heap.size w4 W) => seesV_more (hsp.below hW) hW.size)
          have Hcell := Lib.hid (fun (W : World) (hW : Below w4.heap.size w4 W) => (hW.cell (p := ⟨bp, op + k, none⟩) hbp).trans hcp)
          have HG := Lib.hid (rget_any a p Aa Af na ca nf cf wr (Hoa4.out.below HW.out) (Hsp.out wr HW.out) (by omega) (by omega))
          have HG2 := Lib.hid (fun (W : World) (hW : Below w4.heap.size w4 W) => rget_any b p Ab Af nb' cb nf cf W (Hob4.out.below hW) (Hsp.out W hW) (by omega) (by omega))
          obtain ⟨x1, v1, hxv1⟩ : ∃ x v, getT a p = (x, v) := ⟨_, _, rfl⟩
          obtain ⟨x2, v2, hxv2⟩ : ∃ x v, getT b p = (x, v) := ⟨_, _, rfl⟩
          rw [hxv1] at HG hpd
          rw [hxv2] at HG2 hpd
          obtain rfl : v2 = !v1 := by
            have hpd' : v1 ≠ v2 := hpd
            cases v1 <;> cases v2 <;> simp at hpd' ⊢
          have hvn : (v1 == !v1) = false := by cases v1 <;> rfl
          have Hlt := Lib.hid hlt
          have Hp := Lib.hid hp
          have hnf1000 : nf ≤ 1000 := by omega
          clear hp hcp hsp hlt hpl hpn hpd hfl hxv1 hxv2
          go_wp2_with fail
          (with_reducible refine HG.out.mono ?_)
          rintro e w7 ⟨Ax, nx, cx, rfl, hox, q, hw7⟩
          have HB7 := Lib.hid (show Below w4.heap.size w4 w7 from by rw [hw7]; exact below_drewN HW.out q)
          have hc7 := Hcell.out w7 HB7.out
          clear hox hw7
          go_wp2_with fail
          (with_reducible refine (HG2.out w7 HB7.out).mono ?_)
          rintro e w8 ⟨Ax2, nx2, cx2, rfl, hox2, q2, hw8⟩
          have HB8 := Lib.hid (show Below w4.heap.size w4 w8 from by rw [hw8]; exact below_drewN HB7.out q2)
          clear hox2 hw8
          go_wp2_with fail
          go_loopw [13] (fun i wr => ∃ j : Nat, j ≤ k ∧ i = .int .i64 j ∧ Hid (Below w4.heap.size w4 wr)) (fun i _ => k - (intOf i).toNat)
          case atStart => exact ⟨0, Nat.zero_le _, rfl, HB8⟩
          case round =>
            obtain ⟨j, hj, rfl, HWj⟩ := hrel
            by_cases hjk : j < k
            · have hjl : j < (dP 1000 a b).length := by rw [← Hq.out.len]; omega
              obtain ⟨p2, hp2⟩ : ∃ p2, (dP 1000 a b)[j]? = some p2 := ⟨_, List.getElem?_eq_getElem hjl⟩
              obtain ⟨bp2, op2, Af2, nf2, cf2, e2, hbp2, hcp2, hsp2, hnf2, hcf2⟩ := Hq.out.at_ j p2 hp2
              injection e2 with e2
              injection e2 with e3 e4
              subst e3; subst e4
              have hpl2 := dP_short 1000 a b p2 (List.mem_of_getElem? hp2)
              have hfl2 := hsp2.len
              rw [List.length_map] at hfl2
              obtain ⟨f1, f2⟩ := apart_fr Hap.out hjk hp2 Hp.out
              have hck := Hcell.out wr HWj.out
              have hcj := (HWj.out.cell (p := ⟨bp, op + j, none⟩) hbp2).trans hcp2
              have hwr8 : ∀ d, Below w4.heap.size w4 (wr.drewN d) := fun d => below_drewN HWj.out d
              have HFa := Lib.hid (fun d => front_any p p2 Af Af2 nf cf nf2 cf2 _ (wr.drewN d) (Hsp.out _ (hwr8 d)) (seesV_more (hsp2.below (hwr8 d)) (hwr8 d).size) (by omega) hnf)
              have HFb := Lib.hid (fun d => front_any p2 p Af2 Af nf2 cf2 nf cf _ (wr.drewN d) (seesV_more (hsp2.below (hwr8 d)) (hwr8 d).size) (Hsp.out _ (hwr8 d)) (by omega) hnf2)
              rw [f2] at HFa
              rw [f1] at HFb
              have HFa := Lib.hid (show ∀ d, Calls Try.prog 17 #[.slice Af nf cf, .slice Af2 nf2 cf2] (wr.drewN d) fun e w' => e = .returned (.bool false) ∧ ∃ m, w' = (wr.drewN d).drewN m from HFa.out)
              have HFb := Lib.hid (show ∀ d, Calls Try.prog 17 #[.slice Af2 nf2 cf2, .slice Af nf cf] (wr.drewN d) fun e w' => e = .returned (.bool false) ∧ ∃ m, w' = (wr.drewN d).drewN m from HFb.out)
              have hji : (j : Int) < (k : Int) := by omega
              have hj0 : (0 : Int) ≤ (j : Int) := by omega
              have hjnp : (j : Int) < (np : Int) := by omega
              have Hjk := Lib.hid hjk
              have HWd := Lib.hid hwr8
              clear hp2 hcp2 hsp2 hpl2 hfl2 f1 f2 hjk hjl hwr8
              go_wp2_with fail
              go_quiet ((first | (go_at_call 17; with_reducible exact Calls.quiet_of (HFa.out _)) | (go_at_call 17; with_reducible exact Calls.quiet_of (HFb.out _))))
              go_wp2_with fail
              go_roundw
              case rel => exact ⟨j + 1, Hjk.out, by go_num, Lib.hid (HWd.out _)⟩
              case measure => have := Hjk.out; simp [intOf]; omega
            · obtain rfl : j = k := by omega
              clear hjk
              go_wp2_with fail
              go_roundw
              case rel => exact ⟨j + 1, Hlt.out, by go_num, HWj⟩
              case measure => have := Hlt.out; simp [intOf]; omega
        · obtain rfl : k = np := by omega
          have HBr := Lib.hid (HB4.out.trans (HW.out.mono HB4.out.size))
          clear hlt
          go_wp2_with fail
          go_ret
          exact ⟨rfl, HBr.out⟩
    · rw [decide_eq_true h1c] at hF
      rw [decide_eq_false h2c] at hF2
      have HF := Lib.hid hF
      have HF2 := Lib.hid hF2
      clear hF hF2 h1c h2c h h2
      go_enter Try.func4, Try.ntmps4
      go_wp2_with fail
      (with_reducible refine HK.out.mono ?_)
      rintro e w1 ⟨rfl, hb1⟩
      go_wp2_with fail
      (with_reducible refine (HF.out w1 hb1).mono ?_)
      rintro e _ ⟨rfl, rfl⟩
      go_wp2_with fail
      (with_reducible refine (HF2.out w1 hb1).mono ?_)
      rintro e _ ⟨rfl, rfl⟩
      go_wp2_with fail
      go_ret
      exact ⟨rfl, hb1⟩
  · rw [decide_eq_false h1c] at hF
    have HF := Lib.hid hF
    clear hF hF2 h1c h h2
    go_enter Try.func4, Try.ntmps4
    go_wp2_with fail
    (with_reducible refine HK.out.mono ?_)
    rintro e w1 ⟨rfl, hb1⟩
    go_wp2_with fail
    (with_reducible refine (HF.out w1 hb1).mono ?_)
    rintro e _ ⟨rfl, rfl⟩
    go_wp2_with fail
    go_ret
    exact ⟨rfl, hb1⟩
end Go.Proofs.Ytcfaocjgflefmaa.Df
