/- TreePaths, walked. Conditions: none. -/
import Derived.Test.YtkhjpmefekonhaaMgPt
import Derived.Outline
namespace Go.Proofs.Ytkhjpmefekonhaa.Pt
open Go.RowKit Go.Proofs.Ytkhjpmefekonhaa.Jd Go.Proofs.Ytkhjpmefekonhaa.Cl
set_option maxRecDepth 100000

theorem fst_name {W : World} {A : Option Addr} {n c : Nat} {ps : List ByteArray} (h : Pth W A n c ps) (h0 : 0 < n) : ∃ b o p rest, A = some ⟨b, o, none⟩ ∧ b < W.heap.size ∧ W.cell? ⟨b, o, none⟩ = some (.string p) ∧ ps = p :: rest := by
  obtain ⟨b, o, e, hb, hc⟩ := h.sees.str h0
  have hl := h.len
  cases ps with
  | nil => simp at hl; omega
  | cons p rest => exact ⟨b, o, p, rest, e, hb, by simpa using hc, rfl⟩
theorem getT_size : ∀ (ps : List ByteArray) (t : Tr), (getT t ps).1.size ≤ t.size
  | [], _ => Nat.le_refl _
  | p :: ps, t => by
    rw [getT]
    split
    · exact Nat.le_trans (getT_size ps _) (kidT_size t p)
    · exact Nat.zero_le _
theorem getT_eq {t u : Tr} {qs : List ByteArray} (h : getT t qs = getT u qs) : ∃ z v, getT t qs = (z, v) ∧ getT u qs = (z, v) := ⟨(getT t qs).1, (getT t qs).2, rfl, h.symm⟩

set_option maxHeartbeats 4000000 in
theorem treePaths_walk (r s : Tr) (A A2 An Ao : Option Addr) (n n2 nn no c c2 cn co : Nat) (ns os : List Int) (w : World) (h : Holds w w.heap.size A n r) (h2 : Holds w w.heap.size A2 n2 s) (hc : n ≤ c) (hm : c ≤ maxLen) (hc2 : n2 ≤ c2) (hm2 : c2 ≤ maxLen) (hr : r.len ≤ 140737488351232 ∧ r.Fit) (hr2 : s.len ≤ 140737488351232 ∧ s.Fit)
    (hn : SeesV w w.heap.size An nn (ns.map (Value.int .i64))) (hnb : ∀ x ∈ ns, -9223372036854775808 ≤ x ∧ x ≤ 9223372036854775807) (ho : SeesV w w.heap.size Ao no (os.map (Value.int .i64))) (hob : ∀ x ∈ os, -9223372036854775808 ≤ x ∧ x ≤ 9223372036854775807) :
    Calls Try.prog 6 #[.slice A n c, .slice A2 n2 c2, .slice An nn cn, .slice Ao no co] w fun e w' => e = .returned (.bool true) ∧ Below w.heap.size w w' := by
  have hK := known_any w
  have hF := fun (W : World) (hW : Below w.heap.size w W) => few_any r A n c w.heap.size W (h.below hW) hW.size (by rw [h.len]; exact hr.1) (fit_low hr.2)
  have hF2 := fun (W : World) (hW : Below w.heap.size w W) => few_any s A2 n2 c2 w.heap.size W (h2.below hW) hW.size (by rw [h2.len]; exact hr2.1) (fit_low hr2.2)
  by_cases hs : r.count n 200 < 200
  case neg =>
    rw [decide_eq_false hs] at hF
    have HF := Lib.hid hF
    clear hF hF2 hr hr2 h h2 hs
    go_enter Try.func6, Try.ntmps6
    go_wp2_with fail
    refine hK.mono ?_
    rintro e w1 ⟨rfl, hb1⟩
    go_wp2_with fail
    refine (HF.out w1 hb1).mono ?_
    rintro e _ ⟨rfl, rfl⟩
    go_wp2_with fail
    go_ret
    exact ⟨rfl, hb1⟩
  by_cases hs2 : s.count n2 200 < 200
  case neg =>
    rw [decide_eq_true hs] at hF
    rw [decide_eq_false hs2] at hF2
    have HF := Lib.hid hF
    have HF2 := Lib.hid hF2
    clear hF hF2 hr hr2 h h2 hs hs2
    go_enter Try.func6, Try.ntmps6
    go_wp2_with fail
    refine hK.mono ?_
    rintro e w1 ⟨rfl, hb1⟩
    go_wp2_with fail
    refine (HF.out w1 hb1).mono ?_
    rintro e _ ⟨rfl, rfl⟩
    go_wp2_with fail
    refine (HF2.out w1 hb1).mono ?_
    rintro e _ ⟨rfl, rfl⟩
    go_wp2_with fail
    go_ret
    exact ⟨rfl, hb1⟩
  rw [decide_eq_true hs] at hF
  rw [decide_eq_true hs2] at hF2
  have hrz := few_yes h.len hs
  have hsz := few_yes h2.len hs2
  obtain ⟨t, ht⟩ : ∃ t, t = r.makeT (8 : Int).toNat (8 : Int).toNat (5 : Int).toNat .nil := ⟨_, rfl⟩
  obtain ⟨x, hx⟩ : ∃ t, t = s.makeT (8 : Int).toNat (8 : Int).toNat (5 : Int).toNat .nil := ⟨_, rfl⟩
  have hM := fun (W : World) (hW : Below w.heap.size w W) => make_ok (c := c) r 8 5 w.heap.size (h.below hW) hW.size ⟨hc, hm⟩ hrz (by omega) (by omega) (by omega) (by omega) ht
  have hM2 := fun (W : World) (hW : Below w.heap.size w W) => make_ok (c := c2) s 8 5 w.heap.size (h2.below hW) hW.size ⟨hc2, hm2⟩ hsz (by omega) (by omega) (by omega) (by omega) hx
  have hta : AscD t := by rw [ht]; exact makeT_ascD _ _ _ _ .nil trivial
  have hxa : AscD x := by rw [hx]; exact makeT_ascD _ _ _ _ .nil trivial
  have hts : Short t := by rw [ht]; exact makeT_short _ _ _ _ .nil trivial
  have htz : t.size ≤ 200 := by rw [ht]; have := makeT_size (8 : Int).toNat r (8 : Int).toNat (5 : Int).toNat .nil; simp only [Tr.size] at this; omega
  have hxz : x.size ≤ 200 := by rw [hx]; have := makeT_size (8 : Int).toNat s (8 : Int).toNat (5 : Int).toNat .nil; simp only [Tr.size] at this; omega
  have HF := Lib.hid hF
  have HF2 := Lib.hid hF2
  have HM := Lib.hid hM
  have HM2 := Lib.hid hM2
  have HN := Lib.hid hn
  have HO := Lib.hid ho
  clear hF hF2 hM hM2 ht hx hs hs2 hrz hsz h h2 hr hr2 hn ho
  go_enter Try.func6, Try.ntmps6
  go_wp2_with fail
  refine hK.mono ?_
  rintro e w1 ⟨rfl, hb1⟩
  go_wp2_with fail
  refine (HF.out w1 hb1).mono ?_
  rintro e _ ⟨rfl, rfl⟩
  go_wp2_with fail
  refine (HF2.out w1 hb1).mono ?_
  rintro e _ ⟨rfl, rfl⟩
  go_wp2_with fail
  refine (HM.out w1 hb1).mono ?_
  rintro e w2 ⟨At, nt, ct, rfl, ot, hb2⟩
  have hB := hb1.trans (hb2.mono hb1.size)
  have HT := Lib.hid ot
  clear ot
  go_wp2_with fail
  refine (HM2.out w2 hB).mono ?_
  rintro e w3 ⟨Ax, nx, cx, rfl, ox, hb⟩
  replace hB := hB.trans (hb.mono hB.size)
  have HX := Lib.hid ox
  replace HT := Lib.hid (HT.out.below hb)
  clear ox
  go_wp2_with fail
  (with_reducible refine (path_ok HT.out (seesV_more (HN.out.below hB) hB.size) hnb hts (by omega)).mono ?_)
  rintro e w' ⟨Ap, kp, cp, ps, rfl, op, hp30, hb⟩
  replace hB := hB.trans (hb.mono hB.size)
  replace HT := Lib.hid (HT.out.below hb)
  replace HX := Lib.hid (HX.out.below hb)
  have HP := Lib.hid op
  clear op
  go_wp2_with fail
  (with_reducible refine (path_ok HT.out (seesV_more (HO.out.below hB) hB.size) hob hts (by omega)).mono ?_)
  rintro e w' ⟨Aq, kq, cq, qs, rfl, oq, hq30, hb⟩
  replace hB := hB.trans (hb.mono hB.size)
  replace HT := Lib.hid (HT.out.below hb)
  replace HX := Lib.hid (HX.out.below hb)
  replace HP := Lib.hid (HP.out.below hb)
  have HQ := Lib.hid oq
  clear oq
  have hpl := HP.out.len
  have hpf := HP.out.few
  have hqf := HQ.out.few
  obtain ⟨a, ha⟩ : ∃ a, a = putT t ps x := ⟨_, rfl⟩
  have haz : a.size ≤ 2000 := by rw [ha]; have h1 := putT_size (x := x) ps t 200 htz; have h2 := mul_few (b := 200) (N := 200) hpf (Nat.le_refl _); omega
  have haa : AscD a := by rw [ha]; exact putT_ascD hxa hta
  have hga : getT a ps = (x, true) := by rw [ha]; exact get_put ps t
  have HPut := put_ok HT.out HX.out HP.out hta (by omega) (by omega)
  rw [← ha] at HPut
  have HA := Lib.hid ha
  have Hpl := Lib.hid hpl
  have Hga := Lib.hid hga
  have HPt := Lib.hid HPut
  clear ha hga HPut hpl
  go_wp2_with fail
  (with_reducible refine (HPt.out).mono ?_)
  rintro e w' ⟨Aa, na, ca, rfl, oa, hb⟩
  replace hB := hB.trans (hb.mono hB.size)
  replace HT := Lib.hid (HT.out.below hb)
  replace HX := Lib.hid (HX.out.below hb)
  replace HP := Lib.hid (HP.out.below hb)
  replace HQ := Lib.hid (HQ.out.below hb)
  have HAa := Lib.hid oa
  clear oa
  go_wp2_with fail
  (with_reducible refine (get_ok HAa.out HP.out haa (by omega) Hga.out).mono ?_)
  rintro e w' ⟨Ay, ny, cy, rfl, oy, hb⟩
  replace hB := hB.trans (hb.mono hB.size)
  replace HT := Lib.hid (HT.out.below hb)
  replace HX := Lib.hid (HX.out.below hb)
  replace HP := Lib.hid (HP.out.below hb)
  replace HQ := Lib.hid (HQ.out.below hb)
  replace HAa := Lib.hid (HAa.out.below hb)
  have HY := Lib.hid oy
  clear oy
  go_wp2_with fail
  (with_reducible refine (same_ok HY.out HX.out (by omega) (by omega) (same_refl x)).mono ?_)
  rintro e w' ⟨rfl, hb⟩
  replace hB := hB.trans (hb.mono hB.size)
  replace HT := Lib.hid (HT.out.below hb)
  replace HX := Lib.hid (HX.out.below hb)
  replace HP := Lib.hid (HP.out.below hb)
  replace HQ := Lib.hid (HQ.out.below hb)
  replace HAa := Lib.hid (HAa.out.below hb)
  replace HY := Lib.hid (HY.out.below hb)
  rcases Nat.eq_zero_or_pos kp with h0 | h0
  · subst h0
    have hps : ps = [] := List.eq_nil_of_length_eq_zero Hpl.out.symm
    have HDr := drop_ok HAa.out HP.out haa (by omega)
    rw [hps, show dropP a [] = .nil by simp [dropP]] at HDr
    have HDrop := Lib.hid (fun (q : Nat) => drop_ok (HAa.out.below (below_drewN (Below.refl _ _) q)) (HP.out.below (below_drewN (Below.refl _ _) q)) haa (by omega))
    have hg1 : ¬ ((0 : Int) < ((0 : Nat) : Int)) := by simp
    have Hps := Lib.hid hps
    clear HDr hps
    go_wp2_with fail
    go_quiet (fail)
    replace hB := below_drewN hB nq
    have hD2 := HDrop.out nq
    rw [Hps.out, show dropP a [] = .nil by simp [dropP]] at hD2
    have HD2 := Lib.hid hD2
    clear hD2
    go_wp2_with fail
    (with_reducible refine (HD2.out).mono ?_)
    rintro e w' ⟨Ad, nd, cd, rfl, od, hb⟩
    replace hB := hB.trans (hb.mono hB.size)
    have hnd : nd = 0 := od.holds
    subst hnd
    clear od
    go_wp2_with fail
    go_ret
    exact ⟨rfl, hB⟩
  have hpos1 : (0 : Int) < (kp : Int) := by omega
  have hnz1 : ((kp : Int) == 0) = false := by simp; omega
  have hnz2 : ¬ (kp : Int) = 0 := by omega
  have hps : 0 < ps.length := by rw [← Hpl.out]; exact h0
  rcases Nat.eq_zero_or_pos kq with h1 | h1
  · subst h1
    have hg1 : ¬ ((0 : Int) < ((0 : Nat) : Int)) := by simp
    go_wp2_with fail
    go_quiet (fail)
    have hdq : ∀ (W : World) (q : Nat), Below W.heap.size W (W.drewN q) := fun W q => below_drewN (Below.refl _ _) q
    replace hB := below_drewN hB nq
    replace HT := Lib.hid (HT.out.below (hdq _ nq))
    replace HX := Lib.hid (HX.out.below (hdq _ nq))
    replace HP := Lib.hid (HP.out.below (hdq _ nq))
    replace HQ := Lib.hid (HQ.out.below (hdq _ nq))
    replace HAa := Lib.hid (HAa.out.below (hdq _ nq))
    replace HY := Lib.hid (HY.out.below (hdq _ nq))
    clear hdq
    have hne0 : ps ≠ [] := by intro e; rw [e] at hps; simp at hps
    obtain ⟨d1, d2, d3⟩ := drop_put (x := x) ps t hne0 hta
    rw [← HA.out] at d1 d2 d3
    obtain ⟨d, hd⟩ : ∃ d, d = dropP a ps := ⟨_, rfl⟩
    have hdz : d.size ≤ 20000 := by rw [hd]; have h1 := dropP_size ps a 2000 haz; have h2 := mul_few (b := 2000) (N := 2000) hpf (Nat.le_refl _); omega
    have hda : AscD d := by rw [hd]; exact dropP_ascD haa
    have HDr := drop_ok HAa.out HP.out haa (by omega)
    rw [← hd] at HDr d1 d2 d3
    obtain ⟨gz, gv, hge⟩ : ∃ z v, getT d ps = (z, v) := ⟨_, _, rfl⟩
    rw [hge] at d1
    simp only at d1
    subst d1
    have HD2 := Lib.hid d2
    have HD3 := Lib.hid d3
    have Hge := Lib.hid hge
    have HDrop := Lib.hid HDr
    clear hd d2 d3 hge HDr hne0
    go_wp2_with fail
    (with_reducible refine (HDrop.out).mono ?_)
    rintro e w' ⟨Ad, nd, cd, rfl, od, hb⟩
    replace hB := hB.trans (hb.mono hB.size)
    replace HT := Lib.hid (HT.out.below hb)
    replace HX := Lib.hid (HX.out.below hb)
    replace HP := Lib.hid (HP.out.below hb)
    replace HQ := Lib.hid (HQ.out.below hb)
    replace HAa := Lib.hid (HAa.out.below hb)
    replace HY := Lib.hid (HY.out.below hb)
    have HDd := Lib.hid od
    clear od
    go_wp2_with fail
    (with_reducible refine (get_ok HDd.out HP.out hda (by omega) Hge.out).mono ?_)
    rintro e w' ⟨Ag, ng, cg, rfl, og, hb⟩
    replace hB := hB.trans (hb.mono hB.size)
    replace HT := Lib.hid (HT.out.below hb)
    replace HX := Lib.hid (HX.out.below hb)
    replace HP := Lib.hid (HP.out.below hb)
    replace HQ := Lib.hid (HQ.out.below hb)
    replace HAa := Lib.hid (HAa.out.below hb)
    replace HY := Lib.hid (HY.out.below hb)
    replace HDd := Lib.hid (HDd.out.below hb)
    have HPd := put_ok HDd.out HX.out HP.out hda (by omega) (by omega)
    rw [HD2.out] at HPd
    have HPdd := Lib.hid HPd
    clear HPd og
    go_wp2_with fail
    (with_reducible refine (HPdd.out).mono ?_)
    rintro e w' ⟨Ae, ne, ce, rfl, oe, hb⟩
    replace hB := hB.trans (hb.mono hB.size)
    replace HT := Lib.hid (HT.out.below hb)
    replace HX := Lib.hid (HX.out.below hb)
    replace HP := Lib.hid (HP.out.below hb)
    replace HQ := Lib.hid (HQ.out.below hb)
    replace HAa := Lib.hid (HAa.out.below hb)
    replace HY := Lib.hid (HY.out.below hb)
    replace HDd := Lib.hid (HDd.out.below hb)
    have HE := Lib.hid oe
    clear oe
    go_wp2_with fail
    (with_reducible refine (same_ok HE.out HAa.out (by omega) (by omega) (same_refl a)).mono ?_)
    rintro e w' ⟨rfl, hb⟩
    replace hB := hB.trans (hb.mono hB.size)
    replace HT := Lib.hid (HT.out.below hb)
    replace HX := Lib.hid (HX.out.below hb)
    replace HP := Lib.hid (HP.out.below hb)
    replace HQ := Lib.hid (HQ.out.below hb)
    replace HAa := Lib.hid (HAa.out.below hb)
    replace HY := Lib.hid (HY.out.below hb)
    replace HDd := Lib.hid (HDd.out.below hb)
    replace HE := Lib.hid (HE.out.below hb)
    have HDe := drop_ok HDd.out HP.out hda (by omega)
    rw [HD3.out] at HDe
    have HDee := Lib.hid HDe
    clear HDe
    go_wp2_with fail
    (with_reducible refine (HDee.out).mono ?_)
    rintro e w' ⟨Af, nf, cf, rfl, of, hb⟩
    replace hB := hB.trans (hb.mono hB.size)
    replace HT := Lib.hid (HT.out.below hb)
    replace HX := Lib.hid (HX.out.below hb)
    replace HP := Lib.hid (HP.out.below hb)
    replace HQ := Lib.hid (HQ.out.below hb)
    replace HAa := Lib.hid (HAa.out.below hb)
    replace HY := Lib.hid (HY.out.below hb)
    replace HDd := Lib.hid (HDd.out.below hb)
    replace HE := Lib.hid (HE.out.below hb)
    have HF3 := Lib.hid of
    clear of
    go_wp2_with fail
    (with_reducible refine (same_ok HF3.out HDd.out (by omega) (by omega) (same_refl d)).mono ?_)
    rintro e w' ⟨rfl, hb⟩
    replace hB := hB.trans (hb.mono hB.size)
    replace HT := Lib.hid (HT.out.below hb)
    replace HX := Lib.hid (HX.out.below hb)
    replace HP := Lib.hid (HP.out.below hb)
    replace HQ := Lib.hid (HQ.out.below hb)
    replace HAa := Lib.hid (HAa.out.below hb)
    replace HY := Lib.hid (HY.out.below hb)
    replace HDd := Lib.hid (HDd.out.below hb)
    replace HE := Lib.hid (HE.out.below hb)
    replace HF3 := Lib.hid (HF3.out.below hb)
    go_wp2_with fail
    go_ret
    exact ⟨rfl, hB⟩
  obtain ⟨bp, op, p0, prest, e, hbp, hcp, heps⟩ := fst_name HP.out h0
  subst e
  obtain ⟨bq, oq, q0, qrest, e, hbq, hcq, heqs⟩ := fst_name HQ.out h1
  subst e
  have hpos2 : (0 : Int) < (kq : Int) := by omega
  have Heps := Lib.hid heps
  have Heqs := Lib.hid heqs
  clear heps heqs
  by_cases hpq : p0.toList = q0.toList
  · have hpq2 : (p0.toList == q0.toList) = true := by rw [hpq]; simp
    go_wp2_with fail
    go_quiet (fail)
    clear hcp hcq hpq hpq2
    have hdq : ∀ (W : World) (q : Nat), Below W.heap.size W (W.drewN q) := fun W q => below_drewN (Below.refl _ _) q
    replace hB := below_drewN hB nq
    replace HT := Lib.hid (HT.out.below (hdq _ nq))
    replace HX := Lib.hid (HX.out.below (hdq _ nq))
    replace HP := Lib.hid (HP.out.below (hdq _ nq))
    replace HQ := Lib.hid (HQ.out.below (hdq _ nq))
    replace HAa := Lib.hid (HAa.out.below (hdq _ nq))
    replace HY := Lib.hid (HY.out.below (hdq _ nq))
    clear hdq
    have hne0 : ps ≠ [] := by intro e; rw [e] at hps; simp at hps
    obtain ⟨d1, d2, d3⟩ := drop_put (x := x) ps t hne0 hta
    rw [← HA.out] at d1 d2 d3
    obtain ⟨d, hd⟩ : ∃ d, d = dropP a ps := ⟨_, rfl⟩
    have hdz : d.size ≤ 20000 := by rw [hd]; have h1 := dropP_size ps a 2000 haz; have h2 := mul_few (b := 2000) (N := 2000) hpf (Nat.le_refl _); omega
    have hda : AscD d := by rw [hd]; exact dropP_ascD haa
    have HDr := drop_ok HAa.out HP.out haa (by omega)
    rw [← hd] at HDr d1 d2 d3
    obtain ⟨gz, gv, hge⟩ : ∃ z v, getT d ps = (z, v) := ⟨_, _, rfl⟩
    rw [hge] at d1
    simp only at d1
    subst d1
    have HD2 := Lib.hid d2
    have HD3 := Lib.hid d3
    have Hge := Lib.hid hge
    have HDrop := Lib.hid HDr
    clear hd d2 d3 hge HDr hne0
    go_wp2_with fail
    (with_reducible refine (HDrop.out).mono ?_)
    rintro e w' ⟨Ad, nd, cd, rfl, od, hb⟩
    replace hB := hB.trans (hb.mono hB.size)
    replace HT := Lib.hid (HT.out.below hb)
    replace HX := Lib.hid (HX.out.below hb)
    replace HP := Lib.hid (HP.out.below hb)
    replace HQ := Lib.hid (HQ.out.below hb)
    replace HAa := Lib.hid (HAa.out.below hb)
    replace HY := Lib.hid (HY.out.below hb)
    have HDd := Lib.hid od
    clear od
    go_wp2_with fail
    (with_reducible refine (get_ok HDd.out HP.out hda (by omega) Hge.out).mono ?_)
    rintro e w' ⟨Ag, ng, cg, rfl, og, hb⟩
    replace hB := hB.trans (hb.mono hB.size)
    replace HT := Lib.hid (HT.out.below hb)
    replace HX := Lib.hid (HX.out.below hb)
    replace HP := Lib.hid (HP.out.below hb)
    replace HQ := Lib.hid (HQ.out.below hb)
    replace HAa := Lib.hid (HAa.out.below hb)
    replace HY := Lib.hid (HY.out.below hb)
    replace HDd := Lib.hid (HDd.out.below hb)
    have HPd := put_ok HDd.out HX.out HP.out hda (by omega) (by omega)
    rw [HD2.out] at HPd
    have HPdd := Lib.hid HPd
    clear HPd og
    go_wp2_with fail
    (with_reducible refine (HPdd.out).mono ?_)
    rintro e w' ⟨Ae, ne, ce, rfl, oe, hb⟩
    replace hB := hB.trans (hb.mono hB.size)
    replace HT := Lib.hid (HT.out.below hb)
    replace HX := Lib.hid (HX.out.below hb)
    replace HP := Lib.hid (HP.out.below hb)
    replace HQ := Lib.hid (HQ.out.below hb)
    replace HAa := Lib.hid (HAa.out.below hb)
    replace HY := Lib.hid (HY.out.below hb)
    replace HDd := Lib.hid (HDd.out.below hb)
    have HE := Lib.hid oe
    clear oe
    go_wp2_with fail
    (with_reducible refine (same_ok HE.out HAa.out (by omega) (by omega) (same_refl a)).mono ?_)
    rintro e w' ⟨rfl, hb⟩
    replace hB := hB.trans (hb.mono hB.size)
    replace HT := Lib.hid (HT.out.below hb)
    replace HX := Lib.hid (HX.out.below hb)
    replace HP := Lib.hid (HP.out.below hb)
    replace HQ := Lib.hid (HQ.out.below hb)
    replace HAa := Lib.hid (HAa.out.below hb)
    replace HY := Lib.hid (HY.out.below hb)
    replace HDd := Lib.hid (HDd.out.below hb)
    replace HE := Lib.hid (HE.out.below hb)
    have HDe := drop_ok HDd.out HP.out hda (by omega)
    rw [HD3.out] at HDe
    have HDee := Lib.hid HDe
    clear HDe
    go_wp2_with fail
    (with_reducible refine (HDee.out).mono ?_)
    rintro e w' ⟨Af, nf, cf, rfl, of, hb⟩
    replace hB := hB.trans (hb.mono hB.size)
    replace HT := Lib.hid (HT.out.below hb)
    replace HX := Lib.hid (HX.out.below hb)
    replace HP := Lib.hid (HP.out.below hb)
    replace HQ := Lib.hid (HQ.out.below hb)
    replace HAa := Lib.hid (HAa.out.below hb)
    replace HY := Lib.hid (HY.out.below hb)
    replace HDd := Lib.hid (HDd.out.below hb)
    replace HE := Lib.hid (HE.out.below hb)
    have HF3 := Lib.hid of
    clear of
    go_wp2_with fail
    (with_reducible refine (same_ok HF3.out HDd.out (by omega) (by omega) (same_refl d)).mono ?_)
    rintro e w' ⟨rfl, hb⟩
    replace hB := hB.trans (hb.mono hB.size)
    replace HT := Lib.hid (HT.out.below hb)
    replace HX := Lib.hid (HX.out.below hb)
    replace HP := Lib.hid (HP.out.below hb)
    replace HQ := Lib.hid (HQ.out.below hb)
    replace HAa := Lib.hid (HAa.out.below hb)
    replace HY := Lib.hid (HY.out.below hb)
    replace HDd := Lib.hid (HDd.out.below hb)
    replace HE := Lib.hid (HE.out.below hb)
    replace HF3 := Lib.hid (HF3.out.below hb)
    go_wp2_with fail
    go_ret
    exact ⟨rfl, hB⟩
  have hpq2 : (p0.toList == q0.toList) = false := by simpa using hpq
  have hgg : getT t qs = getT a qs := by rw [HA.out, Heps.out, Heqs.out]; exact (get_apart hta.asc hpq2).symm
  obtain ⟨z, v, hz1, hz2⟩ := getT_eq hgg
  have Hz1 := Lib.hid hz1
  have Hz2 := Lib.hid hz2
  have hzz : z.size ≤ 2000 := by have h3 := getT_size qs t; rw [hz1] at h3; simp only at h3; omega
  clear hgg hz1 hz2
  go_wp2_with fail
  go_quiet (fail)
  clear hcp hcq hpq hpq2
  have hdq : ∀ (W : World) (q : Nat), Below W.heap.size W (W.drewN q) := fun W q => below_drewN (Below.refl _ _) q
  replace hB := below_drewN hB nq
  replace HT := Lib.hid (HT.out.below (hdq _ nq))
  replace HX := Lib.hid (HX.out.below (hdq _ nq))
  replace HP := Lib.hid (HP.out.below (hdq _ nq))
  replace HQ := Lib.hid (HQ.out.below (hdq _ nq))
  replace HAa := Lib.hid (HAa.out.below (hdq _ nq))
  replace HY := Lib.hid (HY.out.below (hdq _ nq))
  clear hdq
  go_wp2_with fail
  (with_reducible refine (get_ok HT.out HQ.out hta (by omega) Hz1.out).mono ?_)
  rintro e w' ⟨Ab, nb, cb, rfl, ob, hb⟩
  replace hB := hB.trans (hb.mono hB.size)
  replace HT := Lib.hid (HT.out.below hb)
  replace HX := Lib.hid (HX.out.below hb)
  replace HP := Lib.hid (HP.out.below hb)
  replace HQ := Lib.hid (HQ.out.below hb)
  replace HAa := Lib.hid (HAa.out.below hb)
  replace HY := Lib.hid (HY.out.below hb)
  have HBb := Lib.hid ob
  clear ob
  go_wp2_with fail
  (with_reducible refine (get_ok HAa.out HQ.out haa (by omega) Hz2.out).mono ?_)
  rintro e w' ⟨Ac, nc, cc, rfl, oc, hb⟩
  replace hB := hB.trans (hb.mono hB.size)
  replace HT := Lib.hid (HT.out.below hb)
  replace HX := Lib.hid (HX.out.below hb)
  replace HP := Lib.hid (HP.out.below hb)
  replace HQ := Lib.hid (HQ.out.below hb)
  replace HAa := Lib.hid (HAa.out.below hb)
  replace HY := Lib.hid (HY.out.below hb)
  replace HBb := Lib.hid (HBb.out.below hb)
  have HCc := Lib.hid oc
  clear oc
  cases v with
  | true =>
    go_wp2_with fail
    (with_reducible refine (same_ok HBb.out HCc.out (by omega) (by omega) (same_refl z)).mono ?_)
    rintro e w' ⟨rfl, hb⟩
    replace hB := hB.trans (hb.mono hB.size)
    replace HT := Lib.hid (HT.out.below hb)
    replace HX := Lib.hid (HX.out.below hb)
    replace HP := Lib.hid (HP.out.below hb)
    replace HQ := Lib.hid (HQ.out.below hb)
    replace HAa := Lib.hid (HAa.out.below hb)
    replace HY := Lib.hid (HY.out.below hb)
    replace HBb := Lib.hid (HBb.out.below hb)
    replace HCc := Lib.hid (HCc.out.below hb)
    have hne0 : ps ≠ [] := by intro e; rw [e] at hps; simp at hps
    obtain ⟨d1, d2, d3⟩ := drop_put (x := x) ps t hne0 hta
    rw [← HA.out] at d1 d2 d3
    obtain ⟨d, hd⟩ : ∃ d, d = dropP a ps := ⟨_, rfl⟩
    have hdz : d.size ≤ 20000 := by rw [hd]; have h1 := dropP_size ps a 2000 haz; have h2 := mul_few (b := 2000) (N := 2000) hpf (Nat.le_refl _); omega
    have hda : AscD d := by rw [hd]; exact dropP_ascD haa
    have HDr := drop_ok HAa.out HP.out haa (by omega)
    rw [← hd] at HDr d1 d2 d3
    obtain ⟨gz, gv, hge⟩ : ∃ z v, getT d ps = (z, v) := ⟨_, _, rfl⟩
    rw [hge] at d1
    simp only at d1
    subst d1
    have HD2 := Lib.hid d2
    have HD3 := Lib.hid d3
    have Hge := Lib.hid hge
    have HDrop := Lib.hid HDr
    clear hd d2 d3 hge HDr hne0
    go_wp2_with fail
    (with_reducible refine (HDrop.out).mono ?_)
    rintro e w' ⟨Ad, nd, cd, rfl, od, hb⟩
    replace hB := hB.trans (hb.mono hB.size)
    replace HT := Lib.hid (HT.out.below hb)
    replace HX := Lib.hid (HX.out.below hb)
    replace HP := Lib.hid (HP.out.below hb)
    replace HQ := Lib.hid (HQ.out.below hb)
    replace HAa := Lib.hid (HAa.out.below hb)
    replace HY := Lib.hid (HY.out.below hb)
    replace HBb := Lib.hid (HBb.out.below hb)
    replace HCc := Lib.hid (HCc.out.below hb)
    have HDd := Lib.hid od
    clear od
    go_wp2_with fail
    (with_reducible refine (get_ok HDd.out HP.out hda (by omega) Hge.out).mono ?_)
    rintro e w' ⟨Ag, ng, cg, rfl, og, hb⟩
    replace hB := hB.trans (hb.mono hB.size)
    replace HT := Lib.hid (HT.out.below hb)
    replace HX := Lib.hid (HX.out.below hb)
    replace HP := Lib.hid (HP.out.below hb)
    replace HQ := Lib.hid (HQ.out.below hb)
    replace HAa := Lib.hid (HAa.out.below hb)
    replace HY := Lib.hid (HY.out.below hb)
    replace HBb := Lib.hid (HBb.out.below hb)
    replace HCc := Lib.hid (HCc.out.below hb)
    replace HDd := Lib.hid (HDd.out.below hb)
    have HPd := put_ok HDd.out HX.out HP.out hda (by omega) (by omega)
    rw [HD2.out] at HPd
    have HPdd := Lib.hid HPd
    clear HPd og
    go_wp2_with fail
    (with_reducible refine (HPdd.out).mono ?_)
    rintro e w' ⟨Ae, ne, ce, rfl, oe, hb⟩
    replace hB := hB.trans (hb.mono hB.size)
    replace HT := Lib.hid (HT.out.below hb)
    replace HX := Lib.hid (HX.out.below hb)
    replace HP := Lib.hid (HP.out.below hb)
    replace HQ := Lib.hid (HQ.out.below hb)
    replace HAa := Lib.hid (HAa.out.below hb)
    replace HY := Lib.hid (HY.out.below hb)
    replace HBb := Lib.hid (HBb.out.below hb)
    replace HCc := Lib.hid (HCc.out.below hb)
    replace HDd := Lib.hid (HDd.out.below hb)
    have HE := Lib.hid oe
    clear oe
    go_wp2_with fail
    (with_reducible refine (same_ok HE.out HAa.out (by omega) (by omega) (same_refl a)).mono ?_)
    rintro e w' ⟨rfl, hb⟩
    replace hB := hB.trans (hb.mono hB.size)
    replace HT := Lib.hid (HT.out.below hb)
    replace HX := Lib.hid (HX.out.below hb)
    replace HP := Lib.hid (HP.out.below hb)
    replace HQ := Lib.hid (HQ.out.below hb)
    replace HAa := Lib.hid (HAa.out.below hb)
    replace HY := Lib.hid (HY.out.below hb)
    replace HBb := Lib.hid (HBb.out.below hb)
    replace HCc := Lib.hid (HCc.out.below hb)
    replace HDd := Lib.hid (HDd.out.below hb)
    replace HE := Lib.hid (HE.out.below hb)
    have HDe := drop_ok HDd.out HP.out hda (by omega)
    rw [HD3.out] at HDe
    have HDee := Lib.hid HDe
    clear HDe
    go_wp2_with fail
    (with_reducible refine (HDee.out).mono ?_)
    rintro e w' ⟨Af, nf, cf, rfl, of, hb⟩
    replace hB := hB.trans (hb.mono hB.size)
    replace HT := Lib.hid (HT.out.below hb)
    replace HX := Lib.hid (HX.out.below hb)
    replace HP := Lib.hid (HP.out.below hb)
    replace HQ := Lib.hid (HQ.out.below hb)
    replace HAa := Lib.hid (HAa.out.below hb)
    replace HY := Lib.hid (HY.out.below hb)
    replace HBb := Lib.hid (HBb.out.below hb)
    replace HCc := Lib.hid (HCc.out.below hb)
    replace HDd := Lib.hid (HDd.out.below hb)
    replace HE := Lib.hid (HE.out.below hb)
    have HF3 := Lib.hid of
    clear of
    go_wp2_with fail
    (with_reducible refine (same_ok HF3.out HDd.out (by omega) (by omega) (same_refl d)).mono ?_)
    rintro e w' ⟨rfl, hb⟩
    replace hB := hB.trans (hb.mono hB.size)
    replace HT := Lib.hid (HT.out.below hb)
    replace HX := Lib.hid (HX.out.below hb)
    replace HP := Lib.hid (HP.out.below hb)
    replace HQ := Lib.hid (HQ.out.below hb)
    replace HAa := Lib.hid (HAa.out.below hb)
    replace HY := Lib.hid (HY.out.below hb)
    replace HBb := Lib.hid (HBb.out.below hb)
    replace HCc := Lib.hid (HCc.out.below hb)
    replace HDd := Lib.hid (HDd.out.below hb)
    replace HE := Lib.hid (HE.out.below hb)
    replace HF3 := Lib.hid (HF3.out.below hb)
    go_wp2_with fail
    go_ret
    exact ⟨rfl, hB⟩
  | false =>
    go_wp2_with fail
    (with_reducible refine (same_ok HBb.out HCc.out (by omega) (by omega) (same_refl z)).mono ?_)
    rintro e w' ⟨rfl, hb⟩
    replace hB := hB.trans (hb.mono hB.size)
    replace HT := Lib.hid (HT.out.below hb)
    replace HX := Lib.hid (HX.out.below hb)
    replace HP := Lib.hid (HP.out.below hb)
    replace HQ := Lib.hid (HQ.out.below hb)
    replace HAa := Lib.hid (HAa.out.below hb)
    replace HY := Lib.hid (HY.out.below hb)
    replace HBb := Lib.hid (HBb.out.below hb)
    replace HCc := Lib.hid (HCc.out.below hb)
    have hne0 : ps ≠ [] := by intro e; rw [e] at hps; simp at hps
    obtain ⟨d1, d2, d3⟩ := drop_put (x := x) ps t hne0 hta
    rw [← HA.out] at d1 d2 d3
    obtain ⟨d, hd⟩ : ∃ d, d = dropP a ps := ⟨_, rfl⟩
    have hdz : d.size ≤ 20000 := by rw [hd]; have h1 := dropP_size ps a 2000 haz; have h2 := mul_few (b := 2000) (N := 2000) hpf (Nat.le_refl _); omega
    have hda : AscD d := by rw [hd]; exact dropP_ascD haa
    have HDr := drop_ok HAa.out HP.out haa (by omega)
    rw [← hd] at HDr d1 d2 d3
    obtain ⟨gz, gv, hge⟩ : ∃ z v, getT d ps = (z, v) := ⟨_, _, rfl⟩
    rw [hge] at d1
    simp only at d1
    subst d1
    have HD2 := Lib.hid d2
    have HD3 := Lib.hid d3
    have Hge := Lib.hid hge
    have HDrop := Lib.hid HDr
    clear hd d2 d3 hge HDr hne0
    go_wp2_with fail
    (with_reducible refine (HDrop.out).mono ?_)
    rintro e w' ⟨Ad, nd, cd, rfl, od, hb⟩
    replace hB := hB.trans (hb.mono hB.size)
    replace HT := Lib.hid (HT.out.below hb)
    replace HX := Lib.hid (HX.out.below hb)
    replace HP := Lib.hid (HP.out.below hb)
    replace HQ := Lib.hid (HQ.out.below hb)
    replace HAa := Lib.hid (HAa.out.below hb)
    replace HY := Lib.hid (HY.out.below hb)
    replace HBb := Lib.hid (HBb.out.below hb)
    replace HCc := Lib.hid (HCc.out.below hb)
    have HDd := Lib.hid od
    clear od
    go_wp2_with fail
    (with_reducible refine (get_ok HDd.out HP.out hda (by omega) Hge.out).mono ?_)
    rintro e w' ⟨Ag, ng, cg, rfl, og, hb⟩
    replace hB := hB.trans (hb.mono hB.size)
    replace HT := Lib.hid (HT.out.below hb)
    replace HX := Lib.hid (HX.out.below hb)
    replace HP := Lib.hid (HP.out.below hb)
    replace HQ := Lib.hid (HQ.out.below hb)
    replace HAa := Lib.hid (HAa.out.below hb)
    replace HY := Lib.hid (HY.out.below hb)
    replace HBb := Lib.hid (HBb.out.below hb)
    replace HCc := Lib.hid (HCc.out.below hb)
    replace HDd := Lib.hid (HDd.out.below hb)
    have HPd := put_ok HDd.out HX.out HP.out hda (by omega) (by omega)
    rw [HD2.out] at HPd
    have HPdd := Lib.hid HPd
    clear HPd og
    go_wp2_with fail
    (with_reducible refine (HPdd.out).mono ?_)
    rintro e w' ⟨Ae, ne, ce, rfl, oe, hb⟩
    replace hB := hB.trans (hb.mono hB.size)
    replace HT := Lib.hid (HT.out.below hb)
    replace HX := Lib.hid (HX.out.below hb)
    replace HP := Lib.hid (HP.out.below hb)
    replace HQ := Lib.hid (HQ.out.below hb)
    replace HAa := Lib.hid (HAa.out.below hb)
    replace HY := Lib.hid (HY.out.below hb)
    replace HBb := Lib.hid (HBb.out.below hb)
    replace HCc := Lib.hid (HCc.out.below hb)
    replace HDd := Lib.hid (HDd.out.below hb)
    have HE := Lib.hid oe
    clear oe
    go_wp2_with fail
    (with_reducible refine (same_ok HE.out HAa.out (by omega) (by omega) (same_refl a)).mono ?_)
    rintro e w' ⟨rfl, hb⟩
    replace hB := hB.trans (hb.mono hB.size)
    replace HT := Lib.hid (HT.out.below hb)
    replace HX := Lib.hid (HX.out.below hb)
    replace HP := Lib.hid (HP.out.below hb)
    replace HQ := Lib.hid (HQ.out.below hb)
    replace HAa := Lib.hid (HAa.out.below hb)
    replace HY := Lib.hid (HY.out.below hb)
    replace HBb := Lib.hid (HBb.out.below hb)
    replace HCc := Lib.hid (HCc.out.below hb)
    replace HDd := Lib.hid (HDd.out.below hb)
    replace HE := Lib.hid (HE.out.below hb)
    have HDe := drop_ok HDd.out HP.out hda (by omega)
    rw [HD3.out] at HDe
    have HDee := Lib.hid HDe
    clear HDe
    go_wp2_with fail
    (with_reducible refine (HDee.out).mono ?_)
    rintro e w' ⟨Af, nf, cf, rfl, of, hb⟩
    replace hB := hB.trans (hb.mono hB.size)
    replace HT := Lib.hid (HT.out.below hb)
    replace HX := Lib.hid (HX.out.below hb)
    replace HP := Lib.hid (HP.out.below hb)
    replace HQ := Lib.hid (HQ.out.below hb)
    replace HAa := Lib.hid (HAa.out.below hb)
    replace HY := Lib.hid (HY.out.below hb)
    replace HBb := Lib.hid (HBb.out.below hb)
    replace HCc := Lib.hid (HCc.out.below hb)
    replace HDd := Lib.hid (HDd.out.below hb)
    replace HE := Lib.hid (HE.out.below hb)
    have HF3 := Lib.hid of
    clear of
    go_wp2_with fail
    (with_reducible refine (same_ok HF3.out HDd.out (by omega) (by omega) (same_refl d)).mono ?_)
    rintro e w' ⟨rfl, hb⟩
    replace hB := hB.trans (hb.mono hB.size)
    replace HT := Lib.hid (HT.out.below hb)
    replace HX := Lib.hid (HX.out.below hb)
    replace HP := Lib.hid (HP.out.below hb)
    replace HQ := Lib.hid (HQ.out.below hb)
    replace HAa := Lib.hid (HAa.out.below hb)
    replace HY := Lib.hid (HY.out.below hb)
    replace HBb := Lib.hid (HBb.out.below hb)
    replace HCc := Lib.hid (HCc.out.below hb)
    replace HDd := Lib.hid (HDd.out.below hb)
    replace HE := Lib.hid (HE.out.below hb)
    replace HF3 := Lib.hid (HF3.out.below hb)
    go_wp2_with fail
    go_ret
    exact ⟨rfl, hB⟩
end Go.Proofs.Ytkhjpmefekonhaa.Pt
