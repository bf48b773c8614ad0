/- commit's laws: is. No conditions but that there is no more than 2^40 of anything. -/
import Derived.Test.YtpaaafdnkehmfaaCmGood
namespace Go.Proofs.Ytpaaafdnkehmfaa.Vf
open Go.RowKit
set_option maxRecDepth 100000

/-- The files are these, with the others put in their places. -/
structure IsP (f old now : FL) : Prop where
  one : ∀ (i : Nat) (x : BS × BS), old[i]? = some x → fnd f x.1 = some (match now[i]? with | some y => y.2 | none => x.2)
  two : ∀ (i : Nat) (x : BS × BS), old.length ≤ i → now[i]? = some x → fnd f x.1 = some x.2
  cnt : f.length = max old.length now.length
structure Few100 (l : FL) : Prop where
  cnt : l.length ≤ 10
  size : ∀ x ∈ l, x.1.length ≤ 100 ∧ x.2.length ≤ 100
section
variable {V : Vm} {w : World} {B p N : Nat} {Ao An : Option Addr} {no co nn cn : Nat} {old now : FL}
theorem below_drewN {B : Nat} {w w' : World} (h : Below B w w') (m : Nat) : Below B w (w'.drewN m) := ⟨h.os, h.tape, h.output, h.size, h.block⟩
/-- A Read where the files are alive. -/
theorem readL (h : Vp w B p V) (hl : Lim V N) (hN : N ≤ 1099511627776) (hd : V.dead = false) (s : BS) (hs : s.length ≤ 100) : Calls Try.prog 21 #[.pointer (some ⟨p, 0, none⟩), .string ⟨s.toArray⟩] w fun e w' =>
    ∃ A c, e = .returned (.tuple #[.slice A ((fnd V.now s).getD []).length c, .bool (fnd V.now s).isSome, .int .i64 0]) ∧ (convert 31 9 (.slice A ((fnd V.now s).getD []).length c)).run Try.prog w' = .ok (.string ⟨((fnd V.now s).getD []).toArray⟩) w' ∧ (∀ m, (convert 31 9 (.slice A ((fnd V.now s).getD []).length c)).run Try.prog (w'.drewN m) = .ok (.string ⟨((fnd V.now s).getD []).toArray⟩) (w'.drewN m)) ∧ Below w.heap.size w w' := by
  have h0 := read_any (s := ⟨s.toArray⟩) h hl (by show s.toArray.size ≤ _; rw [List.size_toArray]; unfold maxLen; omega) hN
  rw [show (⟨s.toArray⟩ : ByteArray).data.toList = s from rfl, Vm.read_live hd] at h0
  refine h0.mono ?_
  rintro e w' ⟨A, n, c, rfl, hn, ho, hz, hb⟩
  have hn' : n = ((fnd V.now s).getD []).length := hn
  subst hn'
  refine ⟨A, c, rfl, text_run (Sees.of_own ho), fun m => text_run (B := w'.heap.size) ?_, hb⟩
  have hs := Sees.of_own ho
  exact ⟨hs.1, hs.2⟩
theorem seesP_text {W : World} {P : Nat → Prop} {A : Option Addr} {n c : Nat} {l : BS} (h : SeesP W P A n l) : (convert 31 9 (.slice A n c)).run Try.prog W = .ok (.string ⟨l.toArray⟩) W := by
  refine text_run (B := W.heap.size) ⟨h.len, fun j u hu => ?_⟩
  obtain ⟨g, o, e, hp, hc⟩ := h.at_ j u hu
  exact ⟨_, e, World.block_lt_of_cell? W ⟨g, o + j, none⟩ hc, by rw [Addr.add_lit]; exact hc⟩
set_option maxHeartbeats 8000000 in
theorem is_any (h : Vp w B p V) (hl : Lim V N) (hN : N ≤ 1099511627776) (hd : V.dead = false) (hFo : Fr w (fun g => g < w.heap.size) Ao no old) (hFn : Fr w (fun g => g < w.heap.size) An nn now) (ho : Few100 old) (hn : Few100 now) :
    Calls Try.prog 30 #[.pointer (some ⟨p, 0, none⟩), .slice Ao no co, .slice An nn cn] w fun e w' => ∃ r : Bool, e = .returned (.bool r) ∧ (IsP V.now old now → r = true) ∧ Below w.heap.size w w' := by
  have hno := hFo.len
  have hnn := hFn.len
  have hno10 : no ≤ 10 := by have := ho.cnt; omega
  have hnn10 : nn ≤ 10 := by have := hn.cnt; omega
  have hnm := names_any h hl hN
  have HRD := Lib.hid (fun (W : World) (hW : Below w.heap.size w W) (s : BS) (hs : s.length ≤ 100) => readL (h.below hW) hl hN hd s hs)
  have HNM := Lib.hid (fun (W : World) (hW : Below w.heap.size w W) => names_any (h.below hW) hl hN)
  have hlen := hl.now
  have HLN := Lib.hid (show V.now.length ≤ 1099511627776 by omega)
  have HO := Lib.hid hFo
  have HF := Lib.hid hFn
  have HNO := Lib.hid hno
  have HNN := Lib.hid hnn
  have HFO := Lib.hid ho
  have HFN := Lib.hid hn
  clear h hl hN hd hFo hFn ho hn hno hnn hnm hlen
  go_enter Try.func30, Try.ntmps30
  go_wp2_with fail
  go_loopw [7, 8] (fun m i wr => ∃ (k : Nat), k ≤ no ∧ i = .int .i64 (k : Int) ∧ m = .int .i64 ((max nn k : Nat) : Int) ∧ Hid (Below w.heap.size w wr)) (fun _ i _ => no - (intOf i).toNat)
  case atStart => exact ⟨0, Nat.zero_le _, rfl, by rw [Nat.max_zero], Lib.hid (Below.refl _ _)⟩
  case round =>
    obtain ⟨k, hk, rfl, rfl, HB⟩ := hrel
    by_cases hlt : k < no
    · obtain ⟨⟨s, xb⟩, hx⟩ : ∃ x, old[k]? = some x := ⟨_, List.getElem?_eq_getElem (by have := HNO.out; omega)⟩
      have hFk := HO.out.below HB.out
      obtain ⟨b, o, Af, nf, cf, rfl, hbl, hc1, hc2, hsf, _, hcm⟩ := hFk.at_ k (s, xb) hx
      have hlen : nf = xb.length := hsf.len
      subst hlen
      simp only at hc1 hc2 hsf
      have hsz := HFO.out.size (s, xb) (List.mem_of_getElem? hx)
      simp only at hsz
      have hkn : (k : Int) < (no : Int) := by omega
      have hk0 : (0 : Int) ≤ (k : Int) := by omega
      have hrd := HRD.out wr HB.out s hsz.1
      have hone := fun (hI : IsP V.now old now) => hI.one k (s, xb) hx
      simp only at hone
      have HRD1 := Lib.hid hrd
      have HONE := Lib.hid hone
      have HLT := Lib.hid hlt
      have HC2 := Lib.hid (fun (W : World) (hW : Below wr.heap.size wr W) => And.intro ((hW.cell (p := ⟨b, o + k * 2 + 1, none⟩) (Nat.lt_of_lt_of_le hbl HB.out.size)).trans hc2) (seesP_text (c := cf) (hsf.keep (w' := W) fun g hg => hW.block g (Nat.lt_of_lt_of_le hg HB.out.size))))
      clear hrd hone hlt hx hFk hsf hcm hsz hc2
      by_cases hkm : k < nn
      · obtain ⟨⟨y, yb⟩, hy⟩ : ∃ x, now[k]? = some x := ⟨_, List.getElem?_eq_getElem (by have := HNN.out; omega)⟩
        have hGk := HF.out.below HB.out
        obtain ⟨b', o', Ag, ng, cg, rfl, hbl', hd1, hd2, hsg, _, hcg⟩ := hGk.at_ k (y, yb) hy
        have hlen : ng = yb.length := hsg.len
        subst hlen
        simp only at hd1 hd2 hsg
        have hkm1 : (k : Int) < (nn : Int) := by omega
        have hmx : max nn (k + 1) = max nn k := by omega
        have hone2 := HONE.out
        rw [hy] at hone2
        simp only at hone2
        have HONE2 := Lib.hid hone2
        have HD2 := Lib.hid (fun (W : World) (hW : Below wr.heap.size wr W) => And.intro ((hW.cell (p := ⟨b', o' + k * 2 + 1, none⟩) (Nat.lt_of_lt_of_le hbl' HB.out.size)).trans hd2) (seesP_text (c := cg) (hsg.keep (w' := W) fun g hg => hW.block g (Nat.lt_of_lt_of_le hg HB.out.size))))
        have HMX := Lib.hid hmx
        clear hone2 hy hGk hsg hcg hd1 hd2 hmx HONE hkm
        obtain ⟨o1, ho1⟩ : ∃ o1, o1 = fnd V.now s := ⟨_, rfl⟩
        rw [← ho1] at HRD1 HONE2
        clear ho1
        cases o1 with
        | none =>
          simp only [Option.isSome_none, Option.getD_none] at HRD1
          go_wp2_with (go_at_call 21; (with_reducible refine HRD1.out.mono ?_); rintro e w2 ⟨A2, c2, rfl, hcv, hcvN, hb2⟩; obtain ⟨p1, p2⟩ := HC2.out _ hb2; obtain ⟨p3, p4⟩ := HD2.out _ hb2)
          go_ret
          exact ⟨false, rfl, fun hI => absurd (HONE2.out hI) (by simp), HB.out.trans (hb2.mono HB.out.size)⟩
        | some bs =>
          simp only [Option.isSome_some, Option.getD_some] at HRD1
          by_cases heq : bs = yb
          · have heq1 : (bs == yb) = true := by simp [heq]
            have heq2 : (bs != yb) = false := by simp [heq]
            clear heq
            go_wp2_with (go_at_call 21; (with_reducible refine HRD1.out.mono ?_); rintro e w2 ⟨A2, c2, rfl, hcv, hcvN, hb2⟩; obtain ⟨p1, p2⟩ := HC2.out _ hb2; obtain ⟨p3, p4⟩ := HD2.out _ hb2)
            go_roundw
            case rel => exact ⟨k + 1, HLT.out, by go_num, by rw [HMX.out], Lib.hid (HB.out.trans (hb2.mono HB.out.size))⟩
            case measure => have := HLT.out; simp [intOf]; omega
          · have heq1 : (bs == yb) = false := by simp [heq]
            have heq2 : (bs != yb) = true := by simp [heq]
            have HEQ := Lib.hid heq
            clear heq
            go_wp2_with (go_at_call 21; (with_reducible refine HRD1.out.mono ?_); rintro e w2 ⟨A2, c2, rfl, hcv, hcvN, hb2⟩; obtain ⟨p1, p2⟩ := HC2.out _ hb2; obtain ⟨p3, p4⟩ := HD2.out _ hb2)
            go_ret
            exact ⟨false, rfl, fun hI => absurd (Option.some.inj (HONE2.out hI)) HEQ.out, HB.out.trans (hb2.mono HB.out.size)⟩
      · have hkm1 : ¬ (k : Int) < (nn : Int) := by omega
        have hkm2 : (nn : Int) ≤ (k : Int) := by omega
        have hmx : max nn (k + 1) = max nn k + 1 := by omega
        have hmw : wrap64 (((max nn k : Nat) : Int) + 1) = ((max nn (k + 1) : Nat) : Int) := by rw [hmx]; unfold wrap64; omega
        have hone2 := HONE.out
        rw [List.getElem?_eq_none (by have := HNN.out; omega)] at hone2
        simp only at hone2
        have HONE2 := Lib.hid hone2
        have HMX := Lib.hid hmw
        clear hone2 hmx hmw HONE hkm
        generalize ((max nn k : Nat) : Int) = mk at HMX
        obtain ⟨o1, ho1⟩ : ∃ o1, o1 = fnd V.now s := ⟨_, rfl⟩
        rw [← ho1] at HRD1 HONE2
        clear ho1
        cases o1 with
        | none =>
          simp only [Option.isSome_none, Option.getD_none] at HRD1
          go_wp2_with (go_at_call 21; (with_reducible refine HRD1.out.mono ?_); rintro e w2 ⟨A2, c2, rfl, hcv, hcvN, hb2⟩; obtain ⟨p1, p2⟩ := HC2.out _ hb2)
          go_ret
          exact ⟨false, rfl, fun hI => absurd (HONE2.out hI) (by simp), HB.out.trans (hb2.mono HB.out.size)⟩
        | some bs =>
          simp only [Option.isSome_some, Option.getD_some] at HRD1
          by_cases heq : bs = xb
          · have heq1 : (bs == xb) = true := by simp [heq]
            have heq2 : (bs != xb) = false := by simp [heq]
            clear heq
            go_wp2_with (go_at_call 21; (with_reducible refine HRD1.out.mono ?_); rintro e w2 ⟨A2, c2, rfl, hcv, hcvN, hb2⟩; obtain ⟨p1, p2⟩ := HC2.out _ hb2)
            go_roundw
            case rel => exact ⟨k + 1, HLT.out, by go_num, by rw [HMX.out], Lib.hid (HB.out.trans (hb2.mono HB.out.size))⟩
            case measure => have := HLT.out; simp [intOf]; omega
          · have heq1 : (bs == xb) = false := by simp [heq]
            have heq2 : (bs != xb) = true := by simp [heq]
            have HEQ := Lib.hid heq
            clear heq
            go_wp2_with (go_at_call 21; (with_reducible refine HRD1.out.mono ?_); rintro e w2 ⟨A2, c2, rfl, hcv, hcvN, hb2⟩; obtain ⟨p1, p2⟩ := HC2.out _ hb2)
            go_ret
            exact ⟨false, rfl, fun hI => absurd (Option.some.inj (HONE2.out hI)) HEQ.out, HB.out.trans (hb2.mono HB.out.size)⟩
    · obtain rfl : k = no := by omega
      have hkn : ¬ (k : Int) < (k : Int) := by omega
      have HNM1 := HNM
      have hwlt : wr.heap.size = wr.heap.size := rfl
      obtain ⟨mx, hmx⟩ : ∃ mx, mx = max nn k := ⟨_, rfl⟩
      rw [← hmx]
      have HMX := Lib.hid hmx
      have hmx20 : mx ≤ 20 := by omega
      clear hmx hwlt
      go_wp2_with fail
      go_loopw [13] (fun i wr => ∃ (j : Nat), k ≤ j ∧ j ≤ max nn k ∧ i = .int .i64 (j : Int) ∧ Hid (Below w.heap.size w wr)) (fun i _ => 20 - (intOf i).toNat)
      case atStart => exact ⟨k, Nat.le_refl _, Nat.le_max_right _ _, rfl, HB⟩
      case round =>
        obtain ⟨j, hj1, hj2, rfl, HB3⟩ := hrel
        by_cases hlt : j < nn
        · obtain ⟨⟨y, yb⟩, hy⟩ : ∃ x, now[j]? = some x := ⟨_, List.getElem?_eq_getElem (by have := HNN.out; omega)⟩
          have hGk := HF.out.below HB3.out
          obtain ⟨b', o', Ag, ng, cg, rfl, hbl', hd1, hd2, hsg, _, hcg⟩ := hGk.at_ j (y, yb) hy
          have hlen : ng = yb.length := hsg.len
          subst hlen
          simp only at hd1 hd2 hsg
          have hsz := HFN.out.size (y, yb) (List.mem_of_getElem? hy)
          simp only at hsz
          have hjn : (j : Int) < (nn : Int) := by omega
          have hj0 : (0 : Int) ≤ (j : Int) := by omega
          have hrd := HRD.out wr HB3.out y hsz.1
          have htwo := fun (hI : IsP V.now old now) => hI.two j (y, yb) (by rw [← HNO.out]; exact hj1) hy
          simp only at htwo
          have HTWO := Lib.hid htwo
          have HRD1 := Lib.hid hrd
          have HLT := Lib.hid hlt
          have HJ := Lib.hid hj1
          have HC2 := Lib.hid (fun (W : World) (hW : Below wr.heap.size wr W) => And.intro ((hW.cell (p := ⟨b', o' + j * 2 + 1, none⟩) (Nat.lt_of_lt_of_le hbl' HB3.out.size)).trans hd2) (seesP_text (c := cg) (hsg.keep (w' := W) fun g hg => hW.block g (Nat.lt_of_lt_of_le hg HB3.out.size))))
          clear htwo hrd hlt hy hGk hsg hcg hsz hd2 hj1 hj2
          obtain ⟨o1, ho1⟩ : ∃ o1, o1 = fnd V.now y := ⟨_, rfl⟩
          rw [← ho1] at HRD1 HTWO
          clear ho1
          cases o1 with
          | none =>
            simp only [Option.isSome_none, Option.getD_none] at HRD1
            go_upto_region 17 with (go_at_call 21; (with_reducible refine HRD1.out.mono ?_); rintro e w2 ⟨A2, c2, rfl, hcv, hcvN, hb2⟩; obtain ⟨p1, p2⟩ := HC2.out _ hb2; have p1N := fun m => (HC2.out _ (below_drewN hb2 m)).1; have p2N := fun m => (HC2.out _ (below_drewN hb2 m)).2)
            go_quiet (fail)
            go_wp2_with fail
            go_ret
            exact ⟨false, rfl, fun hI => absurd (HTWO.out hI) (by simp), below_drewN (HB3.out.trans (hb2.mono HB3.out.size)) _⟩
          | some bs =>
            simp only [Option.isSome_some, Option.getD_some] at HRD1
            by_cases heq : bs = yb
            · have heq1 : (bs == yb) = true := by simp [heq]
              have heq2 : (bs != yb) = false := by simp [heq]
              clear heq
              go_upto_region 17 with (go_at_call 21; (with_reducible refine HRD1.out.mono ?_); rintro e w2 ⟨A2, c2, rfl, hcv, hcvN, hb2⟩; obtain ⟨p1, p2⟩ := HC2.out _ hb2; have p1N := fun m => (HC2.out _ (below_drewN hb2 m)).1; have p2N := fun m => (HC2.out _ (below_drewN hb2 m)).2)
              go_quiet (fail)
              go_wp2_with fail
              go_roundw
              case rel => exact ⟨j + 1, by have := HJ.out; omega, by have := HLT.out; omega, by have := HLT.out; go_num, Lib.hid (below_drewN (HB3.out.trans (hb2.mono HB3.out.size)) _)⟩
              case measure => have := HLT.out; simp [intOf]; omega
            · have heq1 : (bs == yb) = false := by simp [heq]
              have heq2 : (bs != yb) = true := by simp [heq]
              have HEQ := Lib.hid heq
              clear heq
              go_upto_region 17 with (go_at_call 21; (with_reducible refine HRD1.out.mono ?_); rintro e w2 ⟨A2, c2, rfl, hcv, hcvN, hb2⟩; obtain ⟨p1, p2⟩ := HC2.out _ hb2; have p1N := fun m => (HC2.out _ (below_drewN hb2 m)).1; have p2N := fun m => (HC2.out _ (below_drewN hb2 m)).2)
              go_quiet (fail)
              go_wp2_with fail
              go_ret
              exact ⟨false, rfl, fun hI => absurd (Option.some.inj (HTWO.out hI)) HEQ.out, below_drewN (HB3.out.trans (hb2.mono HB3.out.size)) _⟩
        · have hjn : ¬ (j : Int) < (nn : Int) := by omega
          have hnm := HNM.out wr HB3.out
          have hcnt := fun (hI : IsP V.now old now) => hI.cnt
          rw [← HNO.out, ← HNN.out] at hcnt
          have HCNT := Lib.hid hcnt
          have hl2 : (V.now.map (·.1)).length = V.now.length := List.length_map _
          obtain ⟨ln, hln⟩ : ∃ ln, ln = (V.now.map (·.1)).length := ⟨_, rfl⟩
          have HL := Lib.hid (hln.trans hl2)
          unfold NamesP at hnm
          rw [← hln] at hnm
          have HNM2 := Lib.hid hnm
          clear hnm hcnt hl2 hln hlt
          by_cases heq : ln = mx
          · have heq1 : ((ln : Int) == (mx : Int)) = true := by simp [heq]
            have heq3 : (ln : Int) = (mx : Int) := by omega
            clear heq
            go_wp2_with (go_at_call 32; (with_reducible refine HNM2.out.mono ?_); rintro e w5 ⟨A5, c5, rfl, ho5, hb5⟩)
            go_ret
            exact ⟨true, rfl, fun _ => rfl, HB3.out.trans (hb5.mono HB3.out.size)⟩
          · have heq1 : ((ln : Int) == (mx : Int)) = false := by simp; omega
            have heq3 : ¬ (ln : Int) = (mx : Int) := by omega
            have HEQ := Lib.hid heq
            clear heq
            go_wp2_with (go_at_call 32; (with_reducible refine HNM2.out.mono ?_); rintro e w5 ⟨A5, c5, rfl, ho5, hb5⟩)
            go_ret
            exact ⟨false, rfl, fun hI => absurd (HL.out.trans ((HCNT.out hI).trans (by rw [HMX.out, Nat.max_comm]))) HEQ.out, HB3.out.trans (hb5.mono HB3.out.size)⟩
end
end Go.Proofs.Ytpaaafdnkehmfaa.Vf
