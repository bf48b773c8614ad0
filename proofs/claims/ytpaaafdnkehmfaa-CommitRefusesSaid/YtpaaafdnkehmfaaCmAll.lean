/- commit: Commit and Recover do what the mathematics says. No conditions but that there is no more than 2^40 of anything. -/
import Derived.Test.YtpaaafdnkehmfaaCmRead
namespace Go.Proofs.Ytpaaafdnkehmfaa.Vf
open Go.RowKit
set_option maxRecDepth 100000

theorem own_seesP {w : World} {base n c : Nat} {A : Option Addr} {l : BS} (h : Own w base A n c l) : SeesP w (fun g => base ≤ g ∧ Ud w g) A n l := by
  have hl := h.len
  refine ⟨hl, fun j u hu => ?_⟩
  rcases h.row.2 with ⟨e, e2⟩ | ⟨g, cap, cur, e, hbg, hh, h1, h2, h3, h4⟩
  · have := (List.getElem?_eq_some_iff.1 hu).1
    omega
  · injection e with e1 e2 e3
    refine ⟨g, 0, e1, ⟨hbg, _, _, hh⟩, ?_⟩
    obtain ⟨a, ea, _, hc⟩ := h.sees.2 j u hu
    rw [e1] at ea
    cases ea
    rw [Addr.add_lit] at hc
    exact hc
theorem Mo.of_q {w w1 w2 : World} {B p q : Nat} (hb : Below w.heap.size w w1) (hm : Mq B p q w1 w2) (hq : w.heap.size ≤ q) : Mo B p w w2 :=
  ⟨hm.os.trans hb.os, hm.tape.trans hb.tape, hm.output.trans hb.output, Nat.le_trans hb.size hm.size, fun k hk hn => by
    have e := hb.block k hk
    refine (hm.block k (Nat.lt_of_lt_of_le hk hb.size) fun g => hn ?_).trans e
    rcases g with g | g | ⟨g1, g2⟩
    · exact .inl g
    · omega
    · exact .inr ⟨g1, fun q => g2 (q.eq e)⟩⟩
/-- Blocks of files that a commit may be handed. -/
def Pc (w : World) (B p : Nat) (P : Nat → Prop) : Prop := ∀ g, P g → g < w.heap.size ∧ g ≠ p ∧ (g < B ∨ Kd w g)
section
variable {V : Vm} {w : World} {B p N : Nat} {A : Option Addr} {n c : Nat} {l : FL} {P : Nat → Prop}
set_option maxHeartbeats 4000000 in
theorem commit_any (h : Vp w B p V) (hl : Lim V N) (hF : Fr w P A n l) (hP : Pc w B p P) (hn : n ≤ 1099511627776) (hnc : n ≤ c) (hN : N + 300000 ≤ 1099511627776) :
    Calls Try.prog 26 #[.pointer (some ⟨p, 0, none⟩), .slice A n c] w (Did (.int .i64 (cmt V l).1) (cmt V l).2 B p w) := by
  have hfb : Fr w (fun g => g < w.heap.size) A n l := hF.more fun g hg => (hP g hg).1
  have hck := check_any l A n c w hfb hn hnc
  have hdd : ∀ W, Below w.heap.size w W → Calls Try.prog 22 #[.pointer (some ⟨p, 0, none⟩)] W fun e w' => e = .returned (.bool V.dead) ∧ W = w' := fun W hW => dead_any (h.below hW)
  have H := Lib.hid h
  have HL := Lib.hid hl
  have HF := Lib.hid hF
  have HP := Lib.hid hP
  have HN := Lib.hid hN
  have HFB := Lib.hid hfb
  have HDD := Lib.hid hdd
  clear h hl hF hP hn hnc hN hfb hdd
  by_cases hc : chk l = 0
  · rw [hc] at hck
    have hz := (chk_ok hc).szl
    have hwt : ∀ W, Below w.heap.size w W → Calls Try.prog 55 #[.slice A n c] W fun e w' => ∃ A' N c', e = .returned (.slice A' N c') ∧ Own w' W.heap.size A' N c' (wr l) ∧ Below W.heap.size W w' := fun W hW => written_any l A n c W ((HFB.out.below hW).more fun g hg => Nat.lt_of_lt_of_le hg hW.size) hz
    have hwl := wr_le (chk_ok hc)
    have HCK := Lib.hid hck
    have HWT := Lib.hid hwt
    have HZ := Lib.hid hz
    have HWL := Lib.hid hwl
    clear hck hwt hz hwl
    by_cases hd : V.dead = true
    · have hw : cmt V l = (15, V) := by unfold cmt; rw [if_neg (by rw [hc]; simp), if_pos hd]
      rw [hw]
      rw [hd] at HDD
      clear hw hd hc
      go_enter Try.func26, Try.ntmps26
      go_wp2_with (first
        | (go_at_call 54; (with_reducible refine HCK.out.mono ?_); rintro e w1 ⟨rfl, hb1⟩; have HB1 := Lib.hid hb1; clear hb1)
        | (go_at_call 55; (with_reducible refine (HWT.out _ HB1.out).mono ?_); rintro e w2 ⟨Aj, nj, cj, rfl, hoj, hb2⟩; have HB2 := Lib.hid (HB1.out.trans (hb2.mono HB1.out.size)); clear hoj hb2)
        | (go_at_call 22; (with_reducible refine (HDD.out _ HB2.out).mono ?_); rintro e w3 ⟨rfl, rfl⟩))
      go_ret
      exact ⟨rfl, H.out.below HB2.out, Mo.of HB2.out⟩
    · have hd' : V.dead = false := by simpa using hd
      have hus : ∀ W, Below w.heap.size w W → Calls Try.prog 45 #[.pointer (some ⟨p, 0, none⟩)] W fun e w' => e = .returned (.int .i64 (used V.now : Int)) ∧ W = w' := fun W hW => used_any (H.out.below hW)
      have hrm : ∀ W, Below w.heap.size w W → Calls Try.prog 36 #[.pointer (some ⟨p, 0, none⟩)] W fun e w' => e = .returned (.int .i64 V.room) ∧ W = w' := fun W hW => room_any (H.out.below hW)
      have hmo : ∀ W, Below w.heap.size w W → Calls Try.prog 56 #[.pointer (some ⟨p, 0, none⟩), .slice A n c] W fun e w' => e = .returned (.int .i64 (sumP (gns V.now l))) ∧ Below W.heap.size W w' := fun W hW => more_any (H.out.below hW) HL.out (by have := HN.out; omega) hd' ((HFB.out.below hW).more fun g hg => Nat.lt_of_lt_of_le hg hW.size) HZ.out
      have hub := HL.out.now
      have hsb := sumP_bound (l := gns V.now l) fun x hx => (gn_bound HL.out (by have := HN.out; omega) HZ.out x hx).2
      rw [gns_length] at hsb
      have hlc := HZ.out.cnt
      have hcm : cmt V l = if V.room < (used V.now : Int) + ((wr l).length : Int) + sumP (gns V.now l) then (14, V) else runs (begJ (wr l) ++ (mids l ++ ends)) (0, V) := by unfold cmt; rw [if_neg (by rw [hc]; simp), if_neg hd]; rfl
      have HCM := Lib.hid hcm
      have HUS := Lib.hid hus
      have HRM := Lib.hid hrm
      have HMO := Lib.hid hmo
      have HU := Lib.hid (show (used V.now : Int) ≤ 1099511627776 by have := HN.out; omega)
      have HS := Lib.hid (show 0 ≤ sumP (gns V.now l) ∧ sumP (gns V.now l) ≤ 64000 by omega)
      rw [hd'] at HDD
      clear hcm hus hrm hmo hub hsb hlc hd hd' hc
      generalize sumP (gns V.now l) = sm at HMO HS HCM
      obtain ⟨u0, hu0⟩ : ∃ u0, u0 = used V.now := ⟨_, rfl⟩
      rw [← hu0] at HUS HU HCM
      obtain ⟨j, hj⟩ : ∃ j, j = wr l := ⟨_, rfl⟩
      rw [← hj] at HWT HWL HCM
      obtain ⟨rm, hrm⟩ : ∃ rm, rm = V.room := ⟨_, rfl⟩
      rw [← hrm] at HRM HCM
      clear hu0 hj hrm
      by_cases hr : rm < (u0 : Int) + (j.length : Int) + sm
      · have HC2 : Hid (cmt V l = (14, V)) := Lib.hid (by rw [HCM.out, if_pos hr])
        rw [HC2.out]
        clear HC2 HCM
        have w1 : wrap64 ((u0 : Int) + (j.length : Int)) = (u0 : Int) + (j.length : Int) := by have := HU.out; have := HWL.out; unfold wrap64; omega
        have w2 : wrap64 ((u0 : Int) + (j.length : Int) + sm) = (u0 : Int) + (j.length : Int) + sm := by have := HU.out; have := HWL.out; have := HS.out; unfold wrap64; omega
        go_enter Try.func26, Try.ntmps26
        go_wp2_with (first
          | (go_at_call 54; (with_reducible refine HCK.out.mono ?_); rintro e w1 ⟨rfl, hb1⟩; have HB1 := Lib.hid hb1; clear hb1)
          | (go_at_call 55; (with_reducible refine (HWT.out _ HB1.out).mono ?_); rintro e w2 ⟨Aj, nj, cj, rfl, hoj, hb2⟩; have HB2 := Lib.hid (HB1.out.trans (hb2.mono HB1.out.size)); obtain rfl : nj = j.length := hoj.len; clear hoj hb2)
          | (go_at_call 22; (with_reducible refine (HDD.out _ HB2.out).mono ?_); rintro e w3 ⟨rfl, rfl⟩)
          | (go_at_call 45; (with_reducible refine (HUS.out _ HB2.out).mono ?_); rintro e w3 ⟨rfl, rfl⟩)
          | (go_at_call 56; (with_reducible refine (HMO.out _ HB2.out).mono ?_); rintro e w4 ⟨rfl, hb4⟩; have HB4 := Lib.hid (HB2.out.trans (hb4.mono HB2.out.size)); clear hb4)
          | (go_at_call 36; (with_reducible refine (HRM.out _ HB4.out).mono ?_); rintro e w5 ⟨rfl, rfl⟩))
        go_ret
        exact ⟨rfl, H.out.below HB4.out, Mo.of HB4.out⟩
      · have HC2 : Hid (cmt V l = runs (begJ j ++ (mids l ++ ends)) (0, V)) := Lib.hid (by rw [HCM.out, if_neg hr])
        rw [HC2.out]
        clear HC2 HCM
        have w1 : wrap64 ((u0 : Int) + (j.length : Int)) = (u0 : Int) + (j.length : Int) := by have := HU.out; have := HWL.out; unfold wrap64; omega
        have w2 : wrap64 ((u0 : Int) + (j.length : Int) + sm) = (u0 : Int) + (j.length : Int) + sm := by have := HU.out; have := HWL.out; have := HS.out; unfold wrap64; omega
        go_enter Try.func26, Try.ntmps26
        go_upto_region 9 with (first
          | (go_at_call 54; (with_reducible refine HCK.out.mono ?_); rintro e w1 ⟨rfl, hb1⟩; have HB1 := Lib.hid hb1; clear hb1)
          | (go_at_call 55; (with_reducible refine (HWT.out _ HB1.out).mono ?_); rintro e w2 ⟨Aj, nj, cj, rfl, hoj, hb2⟩; have HB2 := Lib.hid (HB1.out.trans (hb2.mono HB1.out.size)); obtain rfl : nj = j.length := hoj.len; have HOJ := Lib.hid (hoj.less HB1.out.size); clear hoj hb2)
          | (go_at_call 22; (with_reducible refine (HDD.out _ HB2.out).mono ?_); rintro e w3 ⟨rfl, rfl⟩)
          | (go_at_call 45; (with_reducible refine (HUS.out _ HB2.out).mono ?_); rintro e w3 ⟨rfl, rfl⟩)
          | (go_at_call 56; (with_reducible refine (HMO.out _ HB2.out).mono ?_); rintro e w4 ⟨rfl, hb4⟩; have HB4 := Lib.hid (HB2.out.trans (hb4.mono HB2.out.size)); have HOJ4 := Lib.hid (HOJ.out.keep hb4); clear hb4)
          | (go_at_call 36; (with_reducible refine (HRM.out _ HB4.out).mono ?_); rintro e w5 ⟨rfl, rfl⟩))
        obtain ⟨W6, hW6⟩ : ∃ W, W = w4.alloc (Obj.cells #[.pointer (some ⟨p, 0, none⟩), .slice A n c, .slice Aj j.length cj, .int .i64 0] 95) := ⟨_, rfl⟩
        have hb6 : Below w4.heap.size w4 W6 := by rw [hW6]; exact (Below.refl _ _).alloc (Nat.le_refl _) _
        have hq6 : Bx W6 w4.heap.size (bxW p (.slice A n c) (.slice Aj j.length cj) 0) 95 := by rw [hW6]; exact Bx.new w4 _ _
        have hw6 : Below w.heap.size w W6 := HB4.out.trans (hb6.mono HB4.out.size)
        have hsj : SeesP W6 (fun g => P g ∨ (w.heap.size ≤ g ∧ Ud w4 g)) Aj j.length j := ((own_seesP HOJ4.out).keep fun g hg => hb6.block g hg.2.lt).more fun g hg => .inr hg
        have hfr : Fr W6 (fun g => P g ∨ (w.heap.size ≤ g ∧ Ud w4 g)) A n l := (HF.out.keep fun g hg => hw6.block g (HP.out g hg).1).more fun g hg => .inl hg
        have hpw : p < w.heap.size := by have := H.out; obtain ⟨m1, m2, A0, n0, c0, vs, h⟩ := this; exact h.box.lt
        have hpf : Pf W6 B p w4.heap.size (fun g => P g ∨ (w.heap.size ≤ g ∧ Ud w4 g)) := fun g hg => by
          rcases hg with hg | ⟨hg1, hg2⟩
          · obtain ⟨a1, a2, a3⟩ := HP.out g hg
            have := HB4.out.size
            exact ⟨Nat.lt_of_lt_of_le a1 hw6.size, a2, by omega, a3.imp id fun k => k.eq (hw6.block g a1)⟩
          · exact ⟨Nat.lt_of_lt_of_le hg2.lt hb6.size, by omega, Nat.ne_of_lt hg2.lt, .inr (hg2.kd.eq (hb6.block g hg2.lt))⟩
        have hfm := from0_any (H.out.below hw6) HL.out hq6 hfr hpf HZ.out hsj HWL.out HN.out
        have HFM := Lib.hid hfm
        have HW6 := Lib.hid hw6
        have HS4 := Lib.hid HB4.out.size
        clear hb6 hq6 hw6 hsj hfr hpw hpf hfm
        subst hW6
        go_wp2_with (go_at_call 57; (with_reducible refine HFM.out.mono ?_); rintro e w7 ⟨rfl, hv7, hm7⟩)
        go_ret
        exact ⟨rfl, hv7, Mo.of_q HW6.out hm7 HS4.out⟩
  · have hw : cmt V l = (chk l, V) := by unfold cmt; rw [if_pos hc]
    rw [hw]
    have hc' : (chk l == 0) = false := by simpa using hc
    generalize chk l = z at hck hc' ⊢
    have HCK := Lib.hid hck
    clear hw hc hck
    go_enter Try.func26, Try.ntmps26
    go_wp2_with (go_at_call 54; (with_reducible refine HCK.out.mono ?_); rintro e w1 ⟨rfl, hb1⟩)
    go_ret
    exact ⟨rfl, H.out.below hb1, Mo.of hb1⟩
set_option maxHeartbeats 4000000 in
theorem again_any {b : BS} (h : Vp w B p V) (hl : Lim V N) (hd : V.dead = false) (hS : Sees w w.heap.size A n b) (hn : n ≤ 1099511627776) (hN : N + 300000 ≤ 1099511627776) :
    Calls Try.prog 58 #[.pointer (some ⟨p, 0, none⟩), .slice A n c] w (Did (.int .i64 (agn V b).1) (agn V b).2 B p w) := by
  have hjr := jread_any b A n c w hS hn
  have H := Lib.hid h
  have HL := Lib.hid hl
  have HD := Lib.hid hd
  have HN := Lib.hid hN
  clear h hl hd hS hn hN
  by_cases hr : rdOk b = true
  · have hz : Szl (rdA b).1 := by
      unfold rdOk at hr
      exact (chk_ok (of_decide_eq_true hr).2.2).szl
    rw [hr] at hjr
    have hft : ∀ W A' n' c', Below w.heap.size w W → Fr W (fun g => w.heap.size ≤ g ∧ Kd W g) A' n' (rdA b).1 → Calls Try.prog 76 #[.pointer (some ⟨p, 0, none⟩), .slice A' n' c'] W fun e w' => e = .returned (.bool (fitL V.room (used V.now) (gns V.now (rdA b).1))) ∧ Below W.heap.size W w' :=
      fun W A' n' c' hW hF => fits_any (H.out.below hW) HL.out (by have := HN.out; omega) HD.out (hF.more fun g hg => hg.2.lt) hz
    have hag : agn V b = if fitL V.room (used V.now) (gns V.now (rdA b).1) = true then runs (mids (rdA b).1 ++ ends) (0, V) else (14, V) := by unfold agn; rw [if_pos hr]
    have HJR := Lib.hid hjr
    have HZ := Lib.hid hz
    clear hjr hr hz
    cases hfl : fitL V.room (used V.now) (gns V.now (rdA b).1) with
    | false =>
      rw [hfl] at hft
      rw [hfl, if_neg (by simp)] at hag
      rw [hag]
      have HFT := Lib.hid hft
      clear hag hfl hft
      go_enter Try.func58, Try.ntmps58
      go_wp2_with (first
        | (go_at_call 75; (with_reducible refine HJR.out.mono ?_); rintro e w1 ⟨A1, n1, c1, rfl, hF1, hnc1, hb1⟩; have HF1 := Lib.hid hF1; have HB1 := Lib.hid hb1; clear hF1 hb1)
        | (go_at_call 76; (with_reducible refine (HFT.out _ _ _ _ HB1.out HF1.out).mono ?_); rintro e w2 ⟨rfl, hb2⟩))
      go_ret
      have hb := HB1.out.trans (hb2.mono HB1.out.size)
      exact ⟨rfl, H.out.below hb, Mo.of hb⟩
    | true =>
      rw [hfl] at hft
      rw [hfl, if_pos rfl] at hag
      rw [hag]
      have HFT := Lib.hid hft
      clear hag hfl hft
      go_enter Try.func58, Try.ntmps58
      go_upto_region 6 with (first
        | (go_at_call 75; (with_reducible refine HJR.out.mono ?_); rintro e w1 ⟨A1, n1, c1, rfl, hF1, hnc1, hb1⟩; have HF1 := Lib.hid hF1; have HB1 := Lib.hid hb1; clear hF1 hb1)
        | (go_at_call 76; (with_reducible refine (HFT.out _ _ _ _ HB1.out HF1.out).mono ?_); rintro e w2 ⟨rfl, hb2⟩; have HB2 := Lib.hid (HB1.out.trans (hb2.mono HB1.out.size)); have HF2 := Lib.hid (HF1.out.keep fun g hg => hb2.block g hg.2.lt); have hkd2 : ∀ g, Kd w1 g → Kd w2 g ∧ g < w2.heap.size := fun g hg => ⟨hg.eq (hb2.block g hg.lt), Nat.lt_of_lt_of_le hg.lt hb2.size⟩; have HK2 := Lib.hid hkd2; clear hb2 hkd2))
      obtain ⟨W6, hW6⟩ : ∃ W, W = w2.alloc (Obj.cells #[.pointer (some ⟨p, 0, none⟩), .slice A1 n1 c1, .slice none 0 0, .int .i64 0] 95) := ⟨_, rfl⟩
      have hb6 : Below w2.heap.size w2 W6 := by rw [hW6]; exact (Below.refl _ _).alloc (Nat.le_refl _) _
      have hq6 : Bx W6 w2.heap.size (bxW p (.slice A1 n1 c1) (.slice none 0 0) 0) 95 := by rw [hW6]; exact Bx.new w2 _ _
      have hw6 : Below w.heap.size w W6 := HB2.out.trans (hb6.mono HB2.out.size)
      have hfr : Fr W6 (fun g => w.heap.size ≤ g ∧ Kd w1 g) A1 n1 (rdA b).1 := HF2.out.keep fun g hg => hb6.block g (HK2.out g hg.2).2
      have hpw : p < w.heap.size := by have := H.out; obtain ⟨m1, m2, A0, n0, c0, vs, h⟩ := this; exact h.box.lt
      have hpf : Pf W6 B p w2.heap.size (fun g => w.heap.size ≤ g ∧ Kd w1 g) := fun g hg => by
        have h2 := HK2.out g hg.2
        exact ⟨Nat.lt_of_lt_of_le h2.2 hb6.size, by omega, Nat.ne_of_lt h2.2, .inr (h2.1.eq (hb6.block g h2.2))⟩
      have hfm := from1_any (H.out.below hw6) HL.out hq6 hfr hpf HZ.out HN.out
      have HFM := Lib.hid hfm
      have HW6 := Lib.hid hw6
      have HS4 := Lib.hid HB2.out.size
      clear hb6 hq6 hw6 hfr hpw hpf hfm
      subst hW6
      go_wp2_with (go_at_call 57; (with_reducible refine HFM.out.mono ?_); rintro e w7 ⟨rfl, hv7, hm7⟩)
      go_ret
      exact ⟨rfl, hv7, Mo.of_q HW6.out hm7 HS4.out⟩
  · have hw : agn V b = (10, V) := by unfold agn; rw [if_neg hr]
    rw [hw]
    rw [(Bool.not_eq_true _).mp hr] at hjr
    have HJR := Lib.hid hjr
    clear hw hr hjr
    go_enter Try.func58, Try.ntmps58
    go_wp2_with (go_at_call 75; (with_reducible refine HJR.out.mono ?_); rintro e w1 ⟨A1, n1, c1, rfl, hF1, hnc1, hb1⟩)
    go_ret
    exact ⟨rfl, H.out.below hb1, Mo.of hb1⟩
set_option maxHeartbeats 4000000 in
theorem recover_any (h : Vp w B p V) (hl : Lim V N) (hN : N + 300000 ≤ 1099511627776) :
    Calls Try.prog 29 #[.pointer (some ⟨p, 0, none⟩)] w (Did (.int .i64 (rcv V).1) (rcv V).2 B p w) := by
  have hdd := dead_any h
  have H := Lib.hid h
  have HL := Lib.hid hl
  have HN := Lib.hid hN
  clear h hl hN
  by_cases hd : V.dead = true
  · have hw : rcv V = (15, V) := by unfold rcv; rw [if_pos hd]
    rw [hw]
    rw [hd] at hdd
    have HDD := Lib.hid hdd
    clear hw hd hdd
    go_enter Try.func29, Try.ntmps29
    go_wp2_with (go_at_call 22; (with_reducible refine HDD.out.mono ?_); rintro e w1 ⟨rfl, rfl⟩)
    go_ret
    exact ⟨rfl, H.out, Mo.refl _ _ _⟩
  · have hd' : V.dead = false := by simpa using hd
    have hrj := read_any (s := ⟨#[106, 111, 117, 114, 110, 97, 108]⟩) H.out HL.out (by decide) (by have := HN.out; omega)
    have hrm : ∀ W, Below w.heap.size w W → Calls Try.prog 21 #[.pointer (some ⟨p, 0, none⟩), .string ⟨#[109, 97, 114, 107]⟩] W (ReadP (V.read mN) W) := fun W hW => read_any (s := ⟨#[109, 97, 114, 107]⟩) (H.out.below hW) HL.out (by decide) (by have := HN.out; omega)
    rw [show V.read (⟨#[106, 111, 117, 114, 110, 97, 108]⟩ : ByteArray).data.toList = V.read jN from rfl, Vm.read_live hd'] at hrj
    rw [Vm.read_live hd'] at hrm
    have hjl : ((fnd V.now jN).getD []).length ≤ 1099511627776 := by
      have h1 := olen_fnd_le jN V.now
      have h2 := HL.out.now
      have h3 := HN.out
      rw [← olen_getD]; omega
    have hag : ∀ W A' n' c', Below w.heap.size w W → Sees W W.heap.size A' n' ((fnd V.now jN).getD []) → Calls Try.prog 58 #[.pointer (some ⟨p, 0, none⟩), .slice A' n' c'] W (Did (.int .i64 (agn V ((fnd V.now jN).getD [])).1) (agn V ((fnd V.now jN).getD [])).2 B p W) :=
      fun W A' n' c' hW hs => again_any (H.out.below hW) HL.out hd' hs (by rw [hs.len]; exact hjl) HN.out
    have hrc : rcv V = if (fnd V.now mN).isSome = true then agn V ((fnd V.now jN).getD []) else if (fnd V.now jN).isSome = true then runs ends (0, V) else (0, V) := by unfold rcv; rw [if_neg hd]
    rw [hd'] at hdd
    have HDD := Lib.hid hdd
    have HRJ := Lib.hid hrj
    have HRM := Lib.hid hrm
    have HAG := Lib.hid hag
    have HRC := Lib.hid hrc
    have HD := Lib.hid hd'
    clear hdd hrj hrm hag hrc hd hd' hjl
    generalize (fnd V.now jN).getD [] = jb at HRJ HAG HRC
    generalize (fnd V.now mN).getD [] = mb at HRM
    generalize (fnd V.now jN).isSome = js at HRJ HRC
    generalize (fnd V.now mN).isSome = ms at HRM HRC
    cases ms with
    | true =>
      have HR2 : Hid (rcv V = agn V jb) := Lib.hid (by rw [HRC.out, if_pos rfl])
      rw [HR2.out]
      clear HRC HR2
      go_enter Try.func29, Try.ntmps29
      go_wp2_with (first
        | (go_at_call 22; (with_reducible refine HDD.out.mono ?_); rintro e w1 ⟨rfl, rfl⟩)
        | (go_at_call 21; (with_reducible refine HRJ.out.mono ?_); rintro e w2 ⟨A2, n2, c2, rfl, hn2, ho2, hz2, hb2⟩; have HO2 := Lib.hid ho2; have HB2 := Lib.hid hb2; clear hn2 ho2 hz2 hb2)
        | (go_at_call 21; (with_reducible refine (HRM.out _ HB2.out).mono ?_); rintro e w3 ⟨A3, n3, c3, rfl, hn3, ho3, hz3, hb3⟩; have HS3 := Lib.hid (((Sees.of_own HO2.out).below hb3).more hb3.size); have HB3 := Lib.hid (HB2.out.trans (hb3.mono HB2.out.size)); clear hn3 ho3 hz3 hb3)
        | (go_at_call 58; (with_reducible refine (HAG.out _ _ _ _ HB3.out HS3.out).mono ?_); rintro e w4 ⟨rfl, hv4, hm4⟩))
      go_ret
      exact ⟨rfl, hv4, (Mo.of HB3.out).trans hm4⟩
    | false =>
      cases js with
      | true =>
        have HR2 : Hid (rcv V = runs ends (0, V)) := Lib.hid (by rw [HRC.out, if_neg (by simp), if_pos rfl])
        rw [HR2.out]
        clear HRC HR2 HAG
        go_enter Try.func29, Try.ntmps29
        go_upto_region 8 with (first
          | (go_at_call 22; (with_reducible refine HDD.out.mono ?_); rintro e w1 ⟨rfl, rfl⟩)
          | (go_at_call 21; (with_reducible refine HRJ.out.mono ?_); rintro e w2 ⟨A2, n2, c2, rfl, hn2, ho2, hz2, hb2⟩; have HB2 := Lib.hid hb2; clear hn2 ho2 hz2 hb2)
          | (go_at_call 21; (with_reducible refine (HRM.out _ HB2.out).mono ?_); rintro e w3 ⟨A3, n3, c3, rfl, hn3, ho3, hz3, hb3⟩; have HB3 := Lib.hid (HB2.out.trans (hb3.mono HB2.out.size)); clear hn3 ho3 hz3 hb3))
        obtain ⟨W6, hW6⟩ : ∃ W, W = w3.alloc (Obj.cells #[.pointer (some ⟨p, 0, none⟩), .slice none 0 0, .slice none 0 0, .int .i64 0] 95) := ⟨_, rfl⟩
        have hb6 : Below w3.heap.size w3 W6 := by rw [hW6]; exact (Below.refl _ _).alloc (Nat.le_refl _) _
        have hq6 : Bx W6 w3.heap.size (bxW p (.slice none 0 0) (.slice none 0 0) 0) 95 := by rw [hW6]; exact Bx.new w3 _ _
        have hw6 : Below w.heap.size w W6 := HB3.out.trans (hb6.mono HB3.out.size)
        have hfm := from2_any (H.out.below hw6) HL.out hq6 HN.out
        have HFM := Lib.hid hfm
        have HW6 := Lib.hid hw6
        have HS4 := Lib.hid HB3.out.size
        clear hb6 hq6 hw6 hfm
        subst hW6
        go_wp2_with (go_at_call 57; (with_reducible refine HFM.out.mono ?_); rintro e w7 ⟨rfl, hv7, hm7⟩)
        go_ret
        exact ⟨rfl, hv7, Mo.of_q HW6.out hm7 HS4.out⟩
      | false =>
        have HR2 : Hid (rcv V = (0, V)) := Lib.hid (by rw [HRC.out, if_neg (by simp), if_neg (by simp)])
        rw [HR2.out]
        clear HRC HR2 HAG
        go_enter Try.func29, Try.ntmps29
        go_wp2_with (first
          | (go_at_call 22; (with_reducible refine HDD.out.mono ?_); rintro e w1 ⟨rfl, rfl⟩)
          | (go_at_call 21; (with_reducible refine HRJ.out.mono ?_); rintro e w2 ⟨A2, n2, c2, rfl, hn2, ho2, hz2, hb2⟩; have HB2 := Lib.hid hb2; clear hn2 ho2 hz2 hb2)
          | (go_at_call 21; (with_reducible refine (HRM.out _ HB2.out).mono ?_); rintro e w3 ⟨A3, n3, c3, rfl, hn3, ho3, hz3, hb3⟩; have HB3 := Lib.hid (HB2.out.trans (hb3.mono HB2.out.size)); clear hn3 ho3 hz3 hb3))
        go_ret
        exact ⟨rfl, H.out.below HB3.out, Mo.of HB3.out⟩
end
end Go.Proofs.Ytpaaafdnkehmfaa.Vf
