/- DiffOne. No conditions. -/
import Derived.Test.YtcfaocjgflefmaaDfNoneW
import Derived.Test.YtcfaocjgflefmaaDfFrontW
namespace Go.Proofs.Ytcfaocjgflefmaa.Df
open Go.RowKit Go.Proofs.Ytcfaocjgflefmaa.Pt
set_option maxRecDepth 100000

set_option maxHeartbeats 4000000 in
theorem one_walk (r s : Tr) (A A2 An : Option Addr) (n n2 nn c c2 cn : Nat) (ns : List Int) (w : World) (h : Holds w w.heap.size A n r) (h2 : Holds w w.heap.size A2 n2 s) (hc : n ≤ c) (hm : c ≤ maxLen) (hc2 : n2 ≤ c2) (hm2 : c2 ≤ maxLen) (hr : r.len ≤ 140737488351232 ∧ r.Fit) (hs : s.len ≤ 140737488351232 ∧ s.Fit)
    (hns : SeesV w w.heap.size An nn (ns.map (Value.int .i64))) (hnb : ∀ x ∈ ns, -9223372036854775808 ≤ x ∧ x ≤ 9223372036854775807) :
    Calls Try.prog 7 #[.slice A n c, .slice A2 n2 c2, .slice An nn cn] w fun e w' => e = .returned (.bool true) ∧ Below w.heap.size w w' := by
  have hn : n ≤ 140737488351232 := by rw [h.len]; exact hr.1
  have hn2 : n2 ≤ 140737488351232 := by rw [h2.len]; exact hs.1
  have HK := Lib.hid (known_any w)
  have hF := fun (W : World) (hW : Below w.heap.size w W) => few_any r A n c w.heap.size W (h.below hW) hW.size hn (fit_low hr.2)
  have hF2 := fun (W : World) (hW : Below w.heap.size w W) => few_any s A2 n2 c2 w.heap.size W (h2.below hW) hW.size hn2 (fit_low hs.2)
  by_cases h1c : r.count n 200 < 200
  · by_cases h2c : s.count n2 200 < 200
    · rw [decide_eq_true h1c] at hF
      rw [decide_eq_true h2c] at hF2
      have hrz := few_yes h.len h1c
      have hsz := few_yes h2.len h2c
      have hM := fun (W : World) (hW : Below w.heap.size w W) => make_any r.size r A n c w.heap.size 6 4 W (Nat.le_refl _) (h.below hW) hW.size hc hm (by omega) (by omega) (by omega) (by omega) (by omega)
      have hM2 := fun (W : World) (hW : Below w.heap.size w W) => make_any s.size s A2 n2 c2 w.heap.size 6 4 W (Nat.le_refl _) (h2.below hW) hW.size hc2 hm2 (by omega) (by omega) (by omega) (by omega) (by omega)
      have hza := makeT_size (6 : Int).toNat r (6 : Int).toNat (4 : Int).toNat .nil
      have hzb := makeT_size (6 : Int).toNat s (6 : Int).toNat (4 : Int).toNat .nil
      have haa := makeT_ascD (6 : Int).toNat r (6 : Int).toNat (4 : Int).toNat .nil trivial
      have hab := makeT_ascD (6 : Int).toNat s (6 : Int).toNat (4 : Int).toNat .nil trivial
      have hsh := makeT_short (6 : Int).toNat r (6 : Int).toNat (4 : Int).toNat .nil trivial
      obtain ⟨a, ha⟩ : ∃ t, t = r.makeT (6 : Int).toNat (6 : Int).toNat (4 : Int).toNat .nil := ⟨_, rfl⟩
      obtain ⟨b, hb⟩ : ∃ t, t = s.makeT (6 : Int).toNat (6 : Int).toNat (4 : Int).toNat .nil := ⟨_, rfl⟩
      rw [← ha] at hM hza haa hsh
      rw [← hb] at hM2 hzb hab
      simp only [Tr.size] at hza hzb
      have hz1 : a.size ≤ 200 := by omega
      have hz2 : b.size ≤ 200 := by omega
      have HF := Lib.hid hF
      have HF2 := Lib.hid hF2
      have HM := Lib.hid hM
      have HM2 := Lib.hid hM2
      have Haa := Lib.hid haa
      have Hab := Lib.hid hab
      have Hsh := Lib.hid hsh
      have Hns := Lib.hid hns
      have Hnb := Lib.hid hnb
      clear hF hF2 hM hM2 h1c h2c h h2 hr hs hn hn2 ha hb hza hzb haa hab hsh hns hnb
      go_enter Try.func7, Try.ntmps7
      go_wp2_with fail
      (with_reducible refine HK.out.mono ?_)
      rintro e w1 ⟨rfl, hb1⟩
      have HB1 := Lib.hid hb1
      clear hb1
      go_wp2_with fail
      (with_reducible refine (HF.out w1 HB1.out).mono ?_)
      rintro e _ ⟨rfl, rfl⟩
      go_wp2_with fail
      (with_reducible refine (HF2.out w1 HB1.out).mono ?_)
      rintro e _ ⟨rfl, rfl⟩
      go_wp2_with fail
      refine (HM.out w1 HB1.out).mono ?_
      rintro e w2 ⟨Aa, na, ca, rfl, ha1, ha2, ha3, hb2⟩
      have HB2 := Lib.hid (HB1.out.trans (hb2.mono HB1.out.size))
      have Hoa := Lib.hid (show OkT w2 Aa na ca a from ⟨ha1, ha2, ha3⟩)
      clear ha1 hb2
      go_wp2_with fail
      refine (HM2.out w2 HB2.out).mono ?_
      rintro e w3 ⟨Ab, nb', cb, rfl, hb1, hb2, hb3, hb6⟩
      have HB3 := Lib.hid (HB2.out.trans (hb6.mono HB2.out.size))
      have Hob := Lib.hid (show OkT w3 Ab nb' cb b from ⟨hb1, hb2, hb3⟩)
      have Hoa3 := Lib.hid (Hoa.out.below hb6)
      have HPa := Lib.hid (path_ok (cn := cn) Hoa3.out (seesV_more (Hns.out.below HB3.out) HB3.out.size) Hnb.out Hsh.out (by omega))
      clear hb1 hb6
      go_wp2_with fail
      (with_reducible refine HPa.out.mono ?_)
      rintro e w4 ⟨Ap, np, cp, ps, rfl, hpt, _, hb4⟩
      have HB4 := Lib.hid (HB3.out.trans (hb4.mono HB3.out.size))
      have Hpt := Lib.hid hpt
      have Hoa4 := Lib.hid (Hoa3.out.below hb4)
      have Hob4 := Lib.hid (Hob.out.below hb4)
      have hpl : np ≤ 6 := by have := hpt.len; have := hpt.few; omega
      have hnc : np ≤ cp := hpt.cap
      have HG := Lib.hid (rget_any a ps Aa Ap na ca np cp w4 Hoa4.out hpt.sees (by omega) (by have := hpt.few; omega))
      obtain ⟨old, v, hov⟩ : ∃ x v, getT a ps = (x, v) := ⟨_, _, rfl⟩
      have hoz := get_size_le ps a
      have hpz := put_size_le (x := b) ps a
      have hpd := put_diff Hab.out ps (t := a) 1000 (by have := hpt.few; omega) Haa.out
      have hpa := putT_ascD (ps := ps) Hab.out Haa.out
      rw [hov] at HG hoz hpd
      have hoa : AscD old := by
        have key : ∀ (p : List ByteArray) {t : Tr}, AscD t → AscD (getT t p).1 := by
          intro p
          induction p with
          | nil => intro t ht; exact ht
          | cons s ps ih =>
            intro t ht
            rw [getT]
            split
            · exact ih (kidT_asc ht)
            · trivial
        have := key ps Haa.out
        rw [hov] at this
        exact this
      have Hpd := Lib.hid hpd
      have Hoz := Lib.hid (show old.size ≤ 200 from Nat.le_trans hoz hz1)
      have Hpz := Lib.hid (show (putT a ps b).size ≤ 406 by have := hpt.few; omega)
      have Hpa := Lib.hid hpa
      have Hoao := Lib.hid hoa
      clear hpt hb4 hov hoz hpd hpz hpa hoa
      go_wp2_with fail
      (with_reducible refine HG.out.mono ?_)
      rintro e w5 ⟨Ao, no, co, rfl, hoo, q, hw5⟩
      have hb5 : Below w4.heap.size w4 w5 := by rw [hw5]; exact below_drewN (Below.refl _ _) q
      have HB5 := Lib.hid (HB4.out.trans (hb5.mono HB4.out.size))
      have Hoa5 := Lib.hid (Hoa4.out.below hb5)
      have Hob5 := Lib.hid (Hob4.out.below hb5)
      have Hpt5 := Lib.hid (Hpt.out.below hb5)
      have Hoo5 := Lib.hid (show OkT w5 Ao no co old from by rw [hw5]; exact ⟨hoo.holds.drewN q, hoo.cap⟩)
      have HPu := Lib.hid (rput_any (x := b) ps a Aa Ap Ab na ca np cp nb' cb w5 Hoa5.out Hob5.out Hpt5.out.sees hnc (by omega))
      clear hoo hw5 hb5
      go_wp2_with fail
      (with_reducible refine HPu.out.mono ?_)
      rintro e w6 ⟨Au, nu, cu, rfl, hou, hb6⟩
      have HB6 := Lib.hid (HB5.out.trans (hb6.mono HB5.out.size))
      have Hob6 := Lib.hid (Hob5.out.below hb6)
      have Hpt6 := Lib.hid (Hpt5.out.below hb6)
      have Hoo6 := Lib.hid (Hoo5.out.below hb6)
      have HP := Lib.hid (paths_any 1000 (by omega) a (putT a ps b) Aa Au na ca nu cu w6 (Hoa5.out.below hb6) hou (by have := Hpz.out; omega) (by omega) (by have := Hpz.out; omega) Haa.out Hpa.out)
      clear hou hb6
      go_wp2_with fail
      (with_reducible refine HP.out.mono ?_)
      rintro e w7 ⟨Ad, nd, cd, xs, rfl, hO, hq, hb7⟩
      have HB7 := Lib.hid (HB6.out.trans (hb7.mono HB6.out.size))
      have Hob7 := Lib.hid (Hob6.out.below hb7)
      have Hpt7 := Lib.hid (Hpt6.out.below hb7)
      have Hoo7 := Lib.hid (Hoo6.out.below hb7)
      have Hq := Lib.hid hO.sees
      rw [hq] at Hq
      clear hO hq hb7
      cases v with
      | false =>
        obtain ⟨p, hp, hpp⟩ := Hpd.out.1 rfl
        rw [hp] at Hq
        obtain rfl : nd = 1 := Hq.out.len
        obtain ⟨bd, od, Af, nf, cf, rfl, hbd, hcd, hsd, hnf, hcf⟩ := Hq.out.at_ 0 p rfl
        rw [Nat.add_zero] at hcd
        have hpl2 : nf ≤ 6 := by
          have h1 := hsd.len
          rw [List.length_map] at h1
          have h2 := hpp.length_le
          have h3 := Hpt7.out.few
          omega
        have hfr := front_any ps p Ap Af np cp nf cf w7.heap.size w7 Hpt7.out.sees hsd (by omega) hnc
        rw [fr_iff.2 hpp] at hfr
        have HFr := Lib.hid hfr
        clear hp hpp hfr hsd
        go_wp2_with fail
        (with_reducible refine HFr.out.mono ?_)
        rintro e w8 ⟨rfl, q8, hw8⟩
        have HB8 := Lib.hid (show Below w.heap.size w w8 from by rw [hw8]; exact below_drewN HB7.out q8)
        clear hw8
        go_wp2_with fail
        go_ret
        exact ⟨rfl, HB8.out⟩
      | true =>
        obtain ⟨M, hM1, hM2⟩ := Hpd.out.2 rfl
        rw [hM1] at Hq
        have hdl := dP_len M Hoao.out Hab.out
        have hnd : nd = (dP M old b).length := by rw [Hq.out.len, List.length_map]
        have hnd4 : nd ≤ 400 := by have := Hoz.out; omega
        have hfu : dP M old b = dP 1000 old b := dP_fuel M 1000 hM2 (by have := Hoz.out; omega)
        rw [hfu] at Hq hnd
        have Hnd := Lib.hid hnd
        clear hM1 hM2 hdl hnd hfu
        go_wp2_with fail
        go_loopw [13] (fun i wr => ∃ k : Nat, k ≤ nd ∧ i = .int .i64 k ∧ Hid (Below w7.heap.size w7 wr)) (fun i _ => nd - (intOf i).toNat)
        case atStart => exact ⟨0, Nat.zero_le _, rfl, Lib.hid (Below.refl _ _)⟩
        case round =>
          obtain ⟨k, hk, rfl, HW⟩ := hrel
          by_cases hlt : k < nd
          · obtain ⟨p, hp⟩ : ∃ p, ((dP 1000 old b).map (ps ++ ·))[k]? = some p := ⟨_, List.getElem?_eq_getElem (by rw [← Hq.out.len]; exact hlt)⟩
            obtain ⟨bd, od, Af, nf, cf, rfl, hbd, hcd, hsd, hnf, hcf⟩ := Hq.out.at_ k p hp
            have hpp : ps <+: p := by
              obtain ⟨x, hx, rfl⟩ := List.mem_map.1 (List.mem_of_getElem? hp)
              exact List.prefix_append ps x
            have hcdw := (HW.out.cell (p := ⟨bd, od + k, none⟩) hbd).trans hcd
            have hkn : (k : Int) < (nd : Int) := by omega
            have hk0 : (0 : Int) ≤ (k : Int) := by omega
            have hfr := front_any p ps Af Ap nf cf np cp wr.heap.size wr (seesV_more (hsd.below HW.out) HW.out.size) (seesV_more (Hpt7.out.sees.below HW.out) HW.out.size) (by omega) hnf
            rw [fr_iff.2 hpp] at hfr
            have HFr := Lib.hid hfr
            have Hlt := Lib.hid hlt
            clear hp hpp hfr hsd hcd hlt
            go_wp2_with fail
            (with_reducible refine HFr.out.mono ?_)
            rintro e w8 ⟨rfl, q8, hw8⟩
            have HB8 := Lib.hid (show Below w7.heap.size w7 w8 from by rw [hw8]; exact below_drewN HW.out q8)
            clear hw8
            go_wp2_with fail
            go_roundw
            case rel => exact ⟨k + 1, Hlt.out, by go_num, HB8⟩
            case measure => have := Hlt.out; simp [intOf]; omega
          · obtain rfl : k = nd := by omega
            have HBr := Lib.hid (HB7.out.trans (HW.out.mono HB7.out.size))
            have HP2 := Lib.hid (paths_any 1000 (by omega) old b Ao Ab no co nb' cb wr (Hoo7.out.below HW.out) (Hob7.out.below HW.out) (by have := Hoz.out; omega) (by have := Hoz.out; omega) (by omega) Hoao.out Hab.out)
            clear hlt
            go_wp2_with fail
            (with_reducible refine HP2.out.mono ?_)
            rintro e w9 ⟨A9, n9, c9, xs9, rfl, hO9, hq9, hb9⟩
            obtain rfl : k = n9 := by
              have h1 := hO9.len
              have h2 := congrArg List.length hq9
              rw [qp, List.length_map] at h2
              rw [Hnd.out, h1, h2]
            have HB9 := Lib.hid (HBr.out.trans (hb9.mono HBr.out.size))
            have hsame := dP_same (N := 1000) (t := old) (u := b) (by have := Hoz.out; omega) Hoao.out Hab.out
            rw [← Hnd.out] at hsame
            have HSm := Lib.hid (same_ok ((Hoo7.out.below HW.out).below hb9) ((Hob7.out.below HW.out).below hb9) (by have := Hoz.out; omega) (by omega) (v := decide (k = 0)) hsame.symm)
            obtain ⟨vs, e1, e2⟩ : ∃ v : Bool, ((k : Int) == 0) = v ∧ decide (k = 0) = v := by
              by_cases h0 : k = 0
              · exact ⟨true, by rw [h0]; rfl, decide_eq_true h0⟩
              · exact ⟨false, by rw [beq_eq_false_iff_ne]; omega, decide_eq_false h0⟩
            rw [e2] at HSm
            have hvv : (vs == vs) = true := by cases vs <;> rfl
            have hkk : ((k : Int) == (k : Int)) = true := by simp
            clear hO9 hq9 hb9 hsame e2
            go_wp2_with fail
            (with_reducible refine HSm.out.mono ?_)
            rintro e w10 ⟨rfl, hb10⟩
            have HB10 := Lib.hid (HB9.out.trans (hb10.mono HB9.out.size))
            clear hb10
            go_wp2_with fail
            go_ret
            exact ⟨rfl, HB10.out⟩
    · rw [decide_eq_true h1c] at hF
      rw [decide_eq_false h2c] at hF2
      have HF := Lib.hid hF
      have HF2 := Lib.hid hF2
      clear hF hF2 h1c h2c h h2
      go_enter Try.func7, Try.ntmps7
      go_wp2_with fail
      (with_reducible refine HK.out.mono ?_)
      rintro e w1 ⟨rfl, hb1⟩
      go_wp2_with fail
      (with_reducible refine (HF.out w1 hb1).mono ?_)
      rintro e _ ⟨rfl, rfl⟩
      go_wp2_with fail
      (with_reducible refine (HF2.out w1 hb1).mono ?_)
      rintro e _ ⟨rfl, rfl⟩
      go_wp2_with fail
      go_ret
      exact ⟨rfl, hb1⟩
  · rw [decide_eq_false h1c] at hF
    have HF := Lib.hid hF
    clear hF hF2 h1c h h2
    go_enter Try.func7, Try.ntmps7
    go_wp2_with fail
    (with_reducible refine HK.out.mono ?_)
    rintro e w1 ⟨rfl, hb1⟩
    go_wp2_with fail
    (with_reducible refine (HF.out w1 hb1).mono ?_)
    rintro e _ ⟨rfl, rfl⟩
    go_wp2_with fail
    go_ret
    exact ⟨rfl, hb1⟩
end Go.Proofs.Ytcfaocjgflefmaa.Df
