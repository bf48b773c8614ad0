/- CommitRoom, walked. No conditions. -/
import Derived.Test.YtpaaafdnkehmfaaCmRef
import Derived.Test.YtpaaafdnkehmfaaCmWholeM
namespace Go.Proofs.Ytpaaafdnkehmfaa.Vf
open Go.RowKit
set_option maxRecDepth 100000

theorem used_snoc {cs : List BS} {c : BS} (h : cs.length < 4) : used (gd (cs ++ [c])) = used (gd cs) + c.length := by
  rw [gd_snoc h, used_app]
  simp [used]
theorem used_take {cs : List BS} (h : cs.length ≤ 4) {k : Nat} {c : BS} (hk : cs[k]? = some c) : used (gd (cs.take (k + 1))) = used (gd (cs.take k)) + c.length := by
  obtain ⟨hl, rfl⟩ := List.getElem?_eq_some_iff.1 hk
  rw [List.take_succ_eq_append_getElem hl]
  exact used_snoc (by rw [List.length_take]; omega)
theorem used_mono {cs : List BS} (h : cs.length ≤ 4) : ∀ j k, k ≤ j → used (gd (cs.take k)) ≤ used (gd (cs.take j))
  | 0, k, hk => by
    have e : k = 0 := by omega
    rw [e]
    exact Nat.le_refl _
  | j + 1, k, hk => by
    by_cases e : k = j + 1
    · rw [e]; exact Nat.le_refl _
    · refine Nat.le_trans (used_mono h j k (by omega)) ?_
      rcases Nat.lt_or_ge j cs.length with g | g
      · rw [used_take h (List.getElem?_eq_getElem g)]; omega
      · rw [List.take_of_length_le g, List.take_of_length_le (show cs.length ≤ j + 1 by omega)]
        exact Nat.le_refl _
theorem used_all {cs : List BS} (h : cs.length ≤ 4) (k : Nat) : used (gd (cs.take k)) ≤ used (gd cs) := by
  have := used_mono h (max k cs.length) k (Nat.le_max_left _ _)
  rwa [List.take_of_length_le (show cs.length ≤ max k cs.length by omega)] at this
theorem wth_gd : ∀ {cs : List BS} (c : BS), cs.length < 4 → wth (nmK cs.length) (some c) (gd cs) = gd (cs ++ [c])
  | [], _, _ => rfl
  | [_], _, _ => rfl
  | [_, _], _, _ => rfl
  | [_, _, _], _, _ => rfl
theorem gn_gd {ca cb : List BS} (h1 : ca.length ≤ 4) (h2 : cb.length ≤ 4) {k : Nat} {c : BS} (hk : cb[k]? = some c) : (gns (gd ca) (gd cb))[k]? = some ((c.length : Int) - (olen ca[k]? : Int)) := by
  have hl := (List.getElem?_eq_some_iff.1 hk).1
  rw [gns_next (x := (nmK k, c)) (by rw [gd_get h2, hk]; rfl)]
  unfold gn
  rw [gd_fnd h1 (by omega)]
theorem sumP_nn : ∀ l : List Int, 0 ≤ sumP l
  | [] => Int.le_refl _
  | a :: l => by have := sumP_nn l; simp only [sumP]; omega
theorem sumP_take_le (ca cb : List BS) (h2 : C60 cb) (k : Nat) : sumP ((gns (gd ca) (gd cb)).take k) ≤ 240 := by
  have h := sum_small ((gd cb).take k) (gd ca) fun x hx => (h2.l4 x (List.mem_of_mem_take hx)).2
  have h3 : ((gd cb).take k).length ≤ 4 := by rw [List.length_take, gd_length h2.cnt]; have := h2.cnt; omega
  unfold gns at *
  rw [← List.map_take]
  omega
theorem wr_six {cb : List BS} (h : C60 cb) (hne : 1 ≤ cb.length) : 6 ≤ (wr (gd cb)).length := by
  have hl := gd_length h.cnt
  cases e : gd cb with
  | nil => rw [e] at hl; simp at hl; omega
  | cons x r =>
    have hx := h.l4 x (by rw [e]; simp)
    have := nm4_len hx.1
    simp only [Vf.wr, wrL, List.length_append, leB_length, tx_length]
    omega
/-- The files one by one. -/
theorem Qs.one {V : Vm} {room : Int} {ca : List BS} (h1 : C60 ca) {k : Nat} {c : BS} (hk : ca[k]? = some c) (h : Qs V (gd (ca.take k)) room k) (hr : (used (gd ca) : Int) ≤ room) : ∃ V', V.write (nmK k) c = (0, V') ∧ Qs V' (gd (ca.take (k + 1))) room (k + 1) := by
  have hl := (List.getElem?_eq_some_iff.1 hk).1
  have h4 := h1.cnt
  have hkl : (ca.take k).length = k := by rw [List.length_take]; omega
  have hw : wth (nmK k) (some c) (gd (ca.take k)) = gd (ca.take (k + 1)) := by
    have := wth_gd (cs := ca.take k) c (by omega)
    rw [hkl] at this
    obtain ⟨hl, rfl⟩ := List.getElem?_eq_some_iff.1 hk
    rw [this, List.take_succ_eq_append_getElem hl]
  have hu := used_all h1.cnt (k + 1)
  obtain ⟨e, q⟩ := h.w (k := nmK k) (b := c) (by have := nm4_len (nmK_mem (show k < 4 by omega)); omega) (by rw [hw]; omega)
  rw [hw] at q
  exact ⟨_, e, q⟩
/-- The commit at the edge. -/
theorem Qs.edge {V : Vm} {ca cb : List BS} {z : Int} {n : Nat} (h1 : C60 ca) (h2 : C60 cb) (hne : 1 ≤ cb.length) (h : Qs V (gd ca) (((wr (gd cb)).length : Int) + (used (gd ca) : Int) + sumP (gns (gd ca) (gd cb)) - z) n) :
    (z = 0 → ∃ V', Vf.cmt V (gd cb) = (0, V') ∧ V'.dead = false ∧ V'.now = gd (ov cb ca)) ∧ (0 < z → Vf.cmt V (gd cb) = (14, V)) := by
  refine ⟨fun e => ?_, fun e => ?_⟩
  · obtain ⟨V', e1, q, _⟩ := h.cmt (h2.chk hne) (h1.none (by decide)) (h1.none (by decide)) (by omega)
    exact ⟨V', e1, q.dead, by rw [q.now, wths_gd cb ca h2.cnt h1.cnt]⟩
  · unfold Vf.cmt
    rw [if_neg (by rw [h2.chk hne]; simp), if_neg (by rw [h.dead]; simp), if_pos (by rw [h.room, h.now]; omega)]
section
variable {w0 w : World} {p N : Nat} {V : Vm} {A : Option Addr} {n c : Nat} {b : BS}
theorem Vs.writeg (h : Vs w0 w w0.heap.size p N V) {k : BS} (hS : SeesP w0 (Pl w0.heap.size p) A n b) (hs : k.length ≤ 20) (hb : b.length ≤ 900) (hN : N + 1000 ≤ 1099511627776) : Calls Try.prog 19 #[.pointer (some ⟨p, 0, none⟩), .string ⟨k.toArray⟩, .slice A n c] w fun e w' => e = .returned (.int .i64 (V.write k b).1) ∧ Vs w0 w' w0.heap.size p (N + 1000) (V.write k b).2 := by
  have hS' : Sees w w.heap.size A n b := (hS.keep (h.block (Nat.le_refl _))).sees fun g hg => by have := hg.1; have := h.mo.size; omega
  have hsz : (⟨k.toArray⟩ : ByteArray).size = k.length := by show k.toArray.size = _; rw [List.size_toArray]
  exact (write_any h.vp h.lim hS' (by rw [hsz]; unfold maxLen; omega) (by omega)).mono fun _ _ ⟨h1, h2, h3⟩ => ⟨h1, h2, (h.lim.write k b).more (by omega), h.mo.trans h3⟩
theorem Vs.flushg (h : Vs w0 w w0.heap.size p N V) (hN : N + 1 ≤ 1099511627776) : Calls Try.prog 18 #[.pointer (some ⟨p, 0, none⟩)] w fun e w' => e = .returned (.int .i64 V.flush.1) ∧ Vs w0 w' w0.heap.size p (N + 1) V.flush.2 :=
  (flush_any h.vp h.lim (by omega)).mono fun _ _ ⟨h1, h2, h3⟩ => ⟨h1, h2, h.lim.flush, h.mo.trans h3⟩
end
set_option maxHeartbeats 16000000 in
theorem commitRoom_walk (A : Option Addr) (n c : Nat) (l : FL) (A2 : Option Addr) (n2 c2 : Nat) (l2 : FL) (a : Int) (w : World) (hF : Fr w (fun g => g < w.heap.size) A n l) (hn : n ≤ maxLen) (hF2 : Fr w (fun g => g < w.heap.size) A2 n2 l2) (hn2 : n2 ≤ maxLen) (ha : -9223372036854775808 ≤ a ∧ a ≤ 9223372036854775807) :
    Calls Try.prog 8 #[.slice A n c, .slice A2 n2 c2, .int .i64 a] w fun e w' => e = .returned (.bool true) ∧ Below w.heap.size w w' := by
  have hnl := hF.len
  have hnl2 := hF2.len
  obtain ⟨z, hz, hwi⟩ : ∃ z : Int, (0 ≤ z ∧ z < 3) ∧ ∀ w : World, Calls Try.prog 28 #[.int .i64 a, .int .i64 3] w fun e w' => e = .returned (.int .i64 z) ∧ w = w' :=
    ⟨a % 3, by omega, fun w => within16_any a 3 (by decide) (by decide) ha.1 ha.2 w⟩
  have HW1 := Lib.hid (fun W hb => few16 (c := c) (W := W) hF hb hn)
  have HW2 := Lib.hid (fun W hb => few16 (c := c2) (W := W) hF2 hb hn2)
  have HG1 := Lib.hid (fun W hb => good4 (c := c) (W := W) hF hb hn)
  have HG2 := Lib.hid (fun W hb => good4 (c := c2) (W := W) hF2 hb hn2)
  have HL1 := Lib.hid hnl
  have HL2 := Lib.hid hnl2
  have HZ := Lib.hid hz
  have HWI := Lib.hid hwi
  clear hF hF2 hn hn2 hnl hnl2 ha hz hwi
  cases hf1 : fewB l with
  | false =>
    rw [hf1] at HW1
    clear hf1
    go_enter Try.func8, Try.ntmps8
    go_wp2_with (first
      | (go_at_call 23; (with_reducible refine (known16_any _).mono ?_); rintro e w1 ⟨rfl, hb1⟩; have HB1 := Lib.hid hb1; clear hb1)
      | (go_at_call 24; (with_reducible refine (HW1.out _ HB1.out).mono ?_); rintro e w2 ⟨rfl, rfl⟩)
      | fail)
    go_ret
    exact ⟨rfl, HB1.out⟩
  | true =>
  cases hf2 : fewB l2 with
  | false =>
    rw [hf1] at HW1
    rw [hf2] at HW2
    clear hf1 hf2
    go_enter Try.func8, Try.ntmps8
    go_wp2_with (first
      | (go_at_call 23; (with_reducible refine (known16_any _).mono ?_); rintro e w1 ⟨rfl, hb1⟩; have HB1 := Lib.hid hb1; clear hb1)
      | (go_at_call 24; (with_reducible refine (HW1.out _ HB1.out).mono ?_); rintro e w2 ⟨rfl, rfl⟩)
      | (go_at_call 24; (with_reducible refine (HW2.out _ HB1.out).mono ?_); rintro e w2 ⟨rfl, rfl⟩)
      | fail)
    go_ret
    exact ⟨rfl, HB1.out⟩
  | true =>
  rw [hf1] at HW1
  rw [hf2] at HW2
  clear hf1 hf2
  by_cases h02 : n2 = 0
  · have q2 : ((n2 : Int) == 0) = true := by simp [h02]
    clear h02
    go_enter Try.func8, Try.ntmps8
    go_wp2_with (first
      | (go_at_call 23; (with_reducible refine (known16_any _).mono ?_); rintro e w1 ⟨rfl, hb1⟩; have HB1 := Lib.hid hb1; clear hb1)
      | (go_at_call 24; (with_reducible refine (HW1.out _ HB1.out).mono ?_); rintro e w2 ⟨rfl, rfl⟩)
      | (go_at_call 24; (with_reducible refine (HW2.out _ HB1.out).mono ?_); rintro e w2 ⟨rfl, rfl⟩)
      | fail)
    go_ret
    exact ⟨rfl, HB1.out⟩
  have q2 : ((n2 : Int) == 0) = false := by simp [h02]
  obtain ⟨ca, hca⟩ : ∃ ca, ca = goodC 4 l := ⟨_, rfl⟩
  obtain ⟨cb, hcb⟩ : ∃ cb, cb = goodC 4 l2 := ⟨_, rfl⟩
  have k1 : C60 ca := hca ▸ goodC_60 (Nat.le_refl _) l
  have k2 : C60 cb := hcb ▸ goodC_60 (Nat.le_refl _) l2
  have n2' : 1 ≤ cb.length := by rw [hcb, goodC_length]; have := HL2.out; omega
  rw [← hca] at HG1
  rw [← hcb] at HG2
  have HK1 := Lib.hid k1
  have HK2 := Lib.hid k2
  have HNE := Lib.hid n2'
  clear h02 hca hcb k1 k2 n2'
  go_enter Try.func8, Try.ntmps8
  go_upto_region 7 with (first
    | (go_at_call 23; (with_reducible refine (known16_any _).mono ?_); rintro e w1 ⟨rfl, hb1⟩; have HB1 := Lib.hid hb1; clear hb1)
    | (go_at_call 24; (with_reducible refine (HW1.out _ HB1.out).mono ?_); rintro e w2 ⟨rfl, rfl⟩)
    | (go_at_call 24; (with_reducible refine (HW2.out _ HB1.out).mono ?_); rintro e w2 ⟨rfl, rfl⟩)
    | (go_at_call 25; (with_reducible refine (HG1.out _ HB1.out).mono ?_); rintro e w3 ⟨A3, N3, c3, rfl, hF3, hnc3, hn3, hb3⟩; have HF3 := Lib.hid hF3; have HB3 := Lib.hid (HB1.out.trans (hb3.mono HB1.out.size)); have HC3 := Lib.hid (And.intro hnc3 hn3); clear hF3 hb3 hnc3 hn3)
    | (go_at_call 25; (with_reducible refine (HG2.out _ HB3.out).mono ?_); rintro e w4 ⟨A4, N4, c4, rfl, hF4, hnc4, hn4, hb4⟩; have HF4 := Lib.hid hF4; have HF34 := Lib.hid ((HF3.out.below hb4).more fun g hg => Nat.lt_of_lt_of_le hg hb4.size); have HB4 := Lib.hid (HB3.out.trans (hb4.mono HB3.out.size)); have HC4 := Lib.hid (And.intro hnc4 hn4); clear hF4 hb4 hnc4 hn4)
    | (go_at_call 34; (with_reducible refine (of_any (gd cb) A4 N4 c4 w4 HF4.out (by have := HC4.out; omega)).mono ?_); rintro e v1 ⟨A8, c8, rfl, hq8, hb8⟩; have HQ8 := Lib.hid hq8; have HBV1 := Lib.hid hb8; clear hq8 hb8)
    | (go_at_call 33; (with_reducible refine (bytes16_any (gd cb) _ _ _ _ HQ8.out HK2.out.few).mono ?_); rintro e w5 ⟨rfl, hb9⟩; have HB45 := Lib.hid (HBV1.out.trans (hb9.mono HBV1.out.size)); clear hb9)
    | fail)
  clear q2
  have hN3 : N3 = ca.length := by have := HF3.out.len; rwa [gd_length HK1.out.cnt] at this
  have hN4 : N4 = cb.length := by have := HF4.out.len; rwa [gd_length HK2.out.cnt] at this
  have f3 := (HF34.out.below HB45.out).more fun g hg => Nat.lt_of_lt_of_le hg HB45.out.size
  have f4 := (HF4.out.below HB45.out).more fun g hg => Nat.lt_of_lt_of_le hg HB45.out.size
  have HB5 := Lib.hid (HB4.out.trans (HB45.out.mono HB4.out.size))
  have hwl1 := HK2.out.wr
  have hwl2 := wr_six HK2.out HNE.out
  have hu1 := HK1.out.sm.used
  obtain ⟨wl, hwl⟩ : ∃ wl, wl = (wr (gd cb)).length := ⟨_, rfl⟩
  obtain ⟨u0, hu0⟩ : ∃ u0, u0 = used (gd ca) := ⟨_, rfl⟩
  rw [← hwl] at hwl1 hwl2
  rw [← hwl]
  rw [← hu0] at hu1
  have HWL := Lib.hid hwl
  have HU0 := Lib.hid hu0
  have HWB := Lib.hid (show 6 ≤ wl ∧ wl ≤ 300 ∧ u0 ≤ 840 by omega)
  have HF3' := Lib.hid (show Fr w5 (fun g => g < w5.heap.size) A3 N3 (gd ca) from f3)
  have HF4' := Lib.hid (show Fr w5 (fun g => g < w5.heap.size) A4 N4 (gd cb) from f4)
  have HN3 := Lib.hid hN3
  have HN4 := Lib.hid hN4
  have HN34 := Lib.hid (show N3 ≤ 4 ∧ N4 ≤ 4 by have := HC3.out; have := HC4.out; omega)
  clear f3 f4 hwl1 hwl2 hu1 hN3 hN4 hwl hu0
  go_wp2_with fail
  go_loopw [9, 10] (fun m i wr => ∃ (k : Nat), k ≤ N3 ∧ i = .int .i64 (k : Int) ∧ m = .int .i64 (wl + used (gd (ca.take k)) : Nat) ∧ w5 = wr) (fun _ i _ => N3 - (intOf i).toNat)
  case atStart => exact ⟨0, Nat.zero_le _, rfl, rfl, rfl⟩
  case round =>
    obtain ⟨k, hk, rfl, rfl, hw⟩ := hrel
    subst hw
    by_cases hlt : k < N3
    · obtain ⟨x, hx⟩ : ∃ x, ca[k]? = some x := ⟨_, List.getElem?_eq_getElem (by have := HN3.out; omega)⟩
      obtain ⟨b, o, Af, nf, cf, rfl, hbl, hc1, hc2, hsf, _, _⟩ := HF3'.out.at_ k (nmK k, x) (by rw [gd_get HK1.out.cnt, hx]; rfl)
      have hlen : nf = x.length := hsf.len
      subst hlen
      have hkn : (k : Int) < (N3 : Int) := by omega
      have hk0 : (0 : Int) ≤ (k : Int) := by omega
      have hut := used_take HK1.out.cnt hx
      have hua := used_all HK1.out.cnt (k + 1)
      rw [← HU0.out] at hua
      have hadd : wrap64 (((wl + used (gd (ca.take k)) : Nat) : Int) + (x.length : Int)) = ((wl + used (gd (ca.take (k + 1))) : Nat) : Int) := by have := HWB.out; rw [hut]; unfold wrap64; omega
      have HADD := Lib.hid hadd
      have HLT := Lib.hid hlt
      have hN := HN34.out.1
      clear hut hua hadd hlt hx hsf
      generalize ((wl + used (gd (ca.take k)) : Nat) : Int) = m0 at HADD
      go_wp2_with fail
      go_roundw
      case rel => exact ⟨k + 1, HLT.out, by go_num, by rw [HADD.out], trivial⟩
      case measure => have := HLT.out; simp [intOf]; omega
    · obtain rfl : k = N3 := by omega
      have hkn : ¬ (k : Int) < (k : Int) := by omega
      have hm0 : ((wl + used (gd (ca.take k)) : Nat) : Int) = ((wl + u0 : Nat) : Int) := by rw [List.take_of_length_le (by have := HN3.out; omega), ← HU0.out]
      rw [hm0]
      obtain ⟨gs, hgs⟩ : ∃ gs, gs = gns (gd ca) (gd cb) := ⟨_, rfl⟩
      have HGS := Lib.hid hgs
      clear hm0 hgs
      go_wp2_with fail
      go_loopw [9, 11] (fun m i wr => ∃ (j : Nat), j ≤ N4 ∧ i = .int .i64 (j : Int) ∧ m = .int .i64 (((wl + u0 : Nat) : Int) + sumP (gs.take j)) ∧ w5 = wr) (fun _ i _ => N4 - (intOf i).toNat)
      case atStart => exact ⟨0, Nat.zero_le _, rfl, by simp [sumP], rfl⟩
      case round =>
        obtain ⟨j, hj, rfl, rfl, hw⟩ := hrel
        subst hw
        by_cases hlt : j < N4
        · obtain ⟨y, hy⟩ : ∃ x, cb[j]? = some x := ⟨_, List.getElem?_eq_getElem (by have := HN4.out; omega)⟩
          obtain ⟨b, o, Af, nf, cf, rfl, hbl, hc1, hc2, hsf, _, _⟩ := HF4'.out.at_ j (nmK j, y) (by rw [gd_get HK2.out.cnt, hy]; rfl)
          have hlen : nf = y.length := hsf.len
          subst hlen
          have hjn : (j : Int) < (N4 : Int) := by omega
          have hj0 : (0 : Int) ≤ (j : Int) := by omega
          have hg := gn_gd HK1.out.cnt HK2.out.cnt hy
          rw [← HGS.out] at hg
          have hsn := sumP_next hg
          have hs0 := sumP_nn (gs.take j)
          have hs1 := sumP_take_le ca cb HK2.out j
          rw [← HGS.out] at hs1
          have hy60 := HK2.out.size y (List.mem_of_getElem? hy)
          have hcab : olen ca[j]? ≤ 60 := by
            cases e : ca[j]? with
            | none => exact Nat.zero_le _
            | some x => exact HK1.out.size x (List.mem_of_getElem? e)
          obtain ⟨wq, hwq⟩ : ∃ wq : Nat, wq = olen ca[j]? := ⟨_, rfl⟩
          rw [← hwq] at hsn hcab
          have hsub : wrap64 ((y.length : Int) - (wq : Int)) = (y.length : Int) - (wq : Int) := by unfold wrap64; omega
          have hadd : wrap64 (((wl + u0 : Nat) : Int) + sumP (gs.take j) + max ((y.length : Int) - (wq : Int)) 0) = ((wl + u0 : Nat) : Int) + sumP (gs.take (j + 1)) := by have := HWB.out; rw [hsn]; unfold wrap64; omega
          have HADD := Lib.hid hadd
          have HLT := Lib.hid hlt
          have hN := HN34.out
          clear hg hsn hs0 hs1 hadd hlt hsf
          generalize ((wl + u0 : Nat) : Int) + sumP (gs.take j) = m0 at HADD
          have HWQ := Lib.hid hwq
          clear hwq hy
          by_cases hjk : j < k
          · obtain ⟨x, hx⟩ : ∃ x, ca[j]? = some x := ⟨_, List.getElem?_eq_getElem (by have := HN3.out; omega)⟩
            obtain ⟨b', o', Ag, ng, cg, rfl, hbl', hd1, hd2, hsg, _, _⟩ := HF3'.out.at_ j (nmK j, x) (by rw [gd_get HK1.out.cnt, hx]; rfl)
            have hlen : ng = x.length := hsg.len
            subst hlen
            have e9 : wq = x.length := by rw [HWQ.out, hx]; rfl
            subst e9
            have hjk' : (j : Int) < (k : Int) := by omega
            clear hx hsg hjk
            by_cases hsg : (y.length : Int) - (x.length : Int) ≤ 0
            · have hm : max 0 ((y.length : Int) - (x.length : Int)) = 0 := by omega
              have hm2 := HADD.out
              rw [show max ((y.length : Int) - (x.length : Int)) 0 = 0 by omega, Int.add_zero] at hm2
              go_wp2_with fail
              go_roundw
              case rel => exact ⟨j + 1, HLT.out, by go_num, by rw [← hm2], trivial⟩
              case measure => have := HLT.out; simp [intOf]; omega
            · have hm : max 0 ((y.length : Int) - (x.length : Int)) = (y.length : Int) - (x.length : Int) := by omega
              have hm2 := HADD.out
              rw [show max ((y.length : Int) - (x.length : Int)) 0 = (y.length : Int) - (x.length : Int) by omega] at hm2
              go_wp2_with fail
              go_roundw
              case rel => exact ⟨j + 1, HLT.out, by go_num, by rw [← hm2], trivial⟩
              case measure => have := HLT.out; simp [intOf]; omega
          · have hjk' : ¬ (j : Int) < (k : Int) := by omega
            have e9 : wq = 0 := by rw [HWQ.out, List.getElem?_eq_none (by have := HN3.out; omega)]; rfl
            subst e9
            have hm2 := HADD.out
            clear hjk
            by_cases hsg : (y.length : Int) ≤ 0
            · have hm : max 0 (y.length : Int) = 0 := by omega
              rw [show max ((y.length : Int) - ((0 : Nat) : Int)) 0 = 0 by omega, Int.add_zero] at hm2
              go_wp2_with fail
              go_roundw
              case rel => exact ⟨j + 1, HLT.out, by go_num, by rw [← hm2], trivial⟩
              case measure => have := HLT.out; simp [intOf]; omega
            · have hm : max 0 (y.length : Int) = (y.length : Int) := by omega
              rw [show max ((y.length : Int) - ((0 : Nat) : Int)) 0 = (y.length : Int) by omega] at hm2
              go_wp2_with fail
              go_roundw
              case rel => exact ⟨j + 1, HLT.out, by go_num, by rw [← hm2], trivial⟩
              case measure => have := HLT.out; simp [intOf]; omega
        · obtain rfl : j = N4 := by omega
          have hjn : ¬ (j : Int) < (j : Int) := by omega
          have hm0 : gs.take j = gns (gd ca) (gd cb) := by rw [HGS.out, List.take_of_length_le (by rw [gns_length, gd_length HK2.out.cnt]; have := HN4.out; omega)]
          have hs1 := sumP_take_le ca cb HK2.out j
          rw [← HGS.out, hm0] at hs1
          have hs0 := sumP_nn (gns (gd ca) (gd cb))
          rw [hm0]
          have hroom : wrap64 (((wl + u0 : Nat) : Int) + sumP (gns (gd ca) (gd cb)) - z) = ((wl + u0 : Nat) : Int) + sumP (gns (gd ca) (gd cb)) - z := by have := HWB.out; have := HZ.out; unfold wrap64; omega
          obtain ⟨rm, hrm⟩ : ∃ rm : Int, rm = ((wl + u0 : Nat) : Int) + sumP (gns (gd ca) (gd cb)) - z := ⟨_, rfl⟩
          have hroom := hroom.trans hrm.symm
          have hrm2 : rm = ((wr (gd cb)).length : Int) + (used (gd ca) : Int) + sumP (gns (gd ca) (gd cb)) - z := by rw [hrm, ← HWL.out, ← HU0.out]; omega
          have hrl : (used (gd ca) : Int) ≤ rm ∧ rm ≤ 10000 ∧ 0 ≤ rm := by rw [← HU0.out]; have := HWB.out; have := HZ.out; omega
          have HRM := Lib.hid hrm2
          have HRL := Lib.hid hrl
          have hq0 : Qs (Vm.new rm) (gd (ca.take 0)) rm 0 := by
            have := Qs.new rm
            rw [show min (max rm 0) 1048576 = rm by omega] at this
            exact this
          have HQ0 := Lib.hid hq0
          clear hm0 hs1 hs0 hrm hrm2 hrl hq0
          generalize ((wl + u0 : Nat) : Int) + sumP (gns (gd ca) (gd cb)) = m0 at hroom ⊢
          go_upto_region 20 with (first
            | (go_at_call 28; (with_reducible refine (HWI.out _).mono ?_); rintro e wz ⟨rfl, rfl⟩)
            | (go_at_call 14; (with_reducible refine (new_any rm w5).mono ?_); rintro e w6 ⟨rfl, hbx6, hb6, hz6⟩; have HX6 := Lib.hid hbx6; have HB6 := Lib.hid hb6; have HZ6 := Lib.hid hz6; clear hbx6 hb6 hz6))
          obtain ⟨p, hp⟩ : ∃ p, p = w5.heap.size := ⟨_, rfl⟩
          have hx6 := HX6.out
          rw [← hp] at hx6
          rw [← hp]
          have hv6 := Vs.new hx6
          have f3 : Fr w6 (Pl w6.heap.size p) A3 k (gd ca) := by rw [HZ6.out, hp]; exact HF3'.out.pl (fun _ h => h) HB6.out
          have f4 : Fr w6 (Pl w6.heap.size p) A4 j (gd cb) := by rw [HZ6.out, hp]; exact HF4'.out.pl (fun _ h => h) HB6.out
          have hfin : ∀ W N V, Vs w6 W w6.heap.size p N V → Below w.heap.size w W := fun W N V hv => by
            have h1 := HB5.out.size
            have h2 := HZ6.out
            exact (HB5.out.trans (HB6.out.mono HB5.out.size)).trans (hv.toB (by omega) (by omega) (by omega))
          have HV6 := Lib.hid hv6
          have HFA := Lib.hid f3
          have HFB := Lib.hid f4
          have HFIN := Lib.hid hfin
          clear hx6 hv6 f3 f4 hfin hp hroom
          go_wp2_with fail
          go_loopw [14] (fun i wr => ∃ (q : Nat) (V : Vm), q ≤ k ∧ i = .int .i64 (q : Int) ∧ Hid (Vs w6 wr w6.heap.size p (q * 1000) V ∧ Qs V (gd (ca.take q)) rm q)) (fun i _ => k - (intOf i).toNat)
          case atStart => exact ⟨0, _, Nat.zero_le _, rfl, Lib.hid ⟨HV6.out, HQ0.out⟩⟩
          case round =>
            obtain ⟨q, V, hq, rfl, HI⟩ := hrel
            by_cases hlt : q < k
            · obtain ⟨x, hx⟩ : ∃ x, ca[q]? = some x := ⟨_, List.getElem?_eq_getElem (by have := HN3.out; omega)⟩
              obtain ⟨V', e1, q1⟩ := HI.out.2.one HK1.out hx HRL.out.1
              obtain ⟨b, o, Af, nf, cf, rfl, hpl, hc1, hc2, hsf, _, _⟩ := HFA.out.at_ q (nmK q, x) (by rw [gd_get HK1.out.cnt, hx]; rfl)
              have hlen : nf = x.length := hsf.len
              subst hlen
              have hblk := HI.out.1.block (Nat.le_refl _) b hpl
              have s1 : wr.drew.cell? ⟨b, o + q * 2, none⟩ = some (.string ⟨(nmK q).toArray⟩) := (World.cell?_of_block (a := ⟨b, o + q * 2, none⟩) hblk).trans hc1
              have s2 : wr.drew.cell? ⟨b, o + q * 2 + 1, none⟩ = some (.slice Af x.length cf) := (World.cell?_of_block (a := ⟨b, o + q * 2 + 1, none⟩) hblk).trans hc2
              have hkn : (q : Int) < (k : Int) := by omega
              have hk0 : (0 : Int) ≤ (q : Int) := by omega
              have hx60 := HK1.out.size x (List.mem_of_getElem? hx)
              have hq4 : q < 4 := by have := HN34.out; omega
              have hwr := (HI.out.1.below ((Below.refl wr.heap.size wr).drew)).writeg (c := cf) (k := nmK q) hsf (by have := nm4_len (nmK_mem hq4); omega) (Nat.le_trans (show x.length ≤ 60 from hx60) (by decide)) (by omega)
              rw [e1] at hwr
              have HWRI := Lib.hid hwr
              have HQ1 := Lib.hid q1
              have HLT := Lib.hid hlt
              have HBK := Lib.hid (fun W N V (hv : Vs w6 W w6.heap.size p N V) => And.intro ((World.cell?_of_block (a := ⟨b, o + q * 2, none⟩) (hv.block (Nat.le_refl _) b hpl)).trans hc1) ((World.cell?_of_block (a := ⟨b, o + q * 2 + 1, none⟩) (hv.block (Nat.le_refl _) b hpl)).trans hc2))
              clear hwr e1 q1 hlt hx hsf hc1 hc2 hpl hblk hx60
              go_wp2_with fail
              go_region_held3 (fun W => W.cell? ⟨b, o + q * 2, none⟩ = some (.string ⟨(nmK q).toArray⟩) ∧ W.cell? ⟨b, o + q * 2 + 1, none⟩ = some (.slice Af x.length cf)) (first | exact ⟨s1, s2⟩ | exact s3)
                (first
                | (go_at_call 19; (with_reducible refine HWRI.out.mono ?_); rintro e w7 ⟨rfl, hv7⟩; have s3 := HBK.out _ _ _ hv7; have HV7 := Lib.hid hv7; clear hv7))
              all_goals
                go_wp2_with fail
                go_roundw
                case rel => exact ⟨q + 1, V', HLT.out, by go_num, Lib.hid ⟨by rw [show (q + 1) * 1000 = q * 1000 + 1000 by omega]; exact HV7.out, HQ1.out⟩⟩
                case measure => have := HLT.out; simp [intOf]; omega
            · obtain rfl : q = k := by omega
              have hkn : ¬ (q : Int) < (q : Int) := by omega
              have hq := HI.out.2
              rw [List.take_of_length_le (by have := HN3.out; omega)] at hq
              obtain ⟨V2, e2, q2, _⟩ := hq.flu
              rw [HRM.out] at q2
              obtain ⟨hz0, hz1⟩ := q2.edge HK1.out HK2.out HNE.out
              have hfl := HI.out.1.flushg (by have := HN34.out; omega)
              rw [show V.flush = (0, V2) from e2] at hfl
              have HFL := Lib.hid hfl
              have hcm : ∀ W, Vs w6 W w6.heap.size p (q * 1000 + 1) V2 → Calls Try.prog 26 #[.pointer (some ⟨p, 0, none⟩), .slice A4 j c4] W fun e w' => e = .returned (.int .i64 (cmt V2 (gd cb)).1) ∧ Vs w6 w' w6.heap.size p (q * 1000 + 1 + 300000) (cmt V2 (gd cb)).2 := fun W hv => hv.commit (Nat.le_refl _) HFB.out (by have := HN34.out; omega) HC4.out.1 (by have := HN34.out; omega)
              by_cases hzz : z = 0
              · obtain ⟨V3, e3, d3, n3⟩ := hz0 hzz
                rw [e3] at hcm
                have hzn : ¬ (0 : Int) < z := by omega
                have his : ∀ W, Vs w6 W w6.heap.size p (q * 1000 + 1 + 300000) V3 → Calls Try.prog 30 #[.pointer (some ⟨p, 0, none⟩), .slice A3 q c3, .slice A4 j c4] W fun e w' => e = .returned (.bool true) ∧ Vs w6 w' w6.heap.size p (q * 1000 + 1 + 300000) V3 := fun W hv => by
                  refine (hv.isf (by have := HN34.out; omega) d3 (Nat.le_refl _) HFA.out HFB.out HK1.out.few HK2.out.few).mono ?_
                  rintro e w' ⟨r, h1, h2, h3⟩
                  rw [h2 (by rw [n3]; exact isP_gd HK2.out HK1.out)] at h1
                  exact ⟨h1, h3⟩
                have hby : ∀ W, Calls Try.prog 35 #[.slice none 0 0, .int .i64 0] W fun e w' => ∃ A' c', e = .returned (.slice A' 1 c') ∧ Below W.heap.size W w' := fun W => by
                  refine (rputByte_any none 0 0 W.heap.size [] 0 W (Own.nil _ _) (Nat.le_refl _) (by decide)).mono ?_
                  rintro e w' ⟨⟨A', N', c', h1, h2⟩, _, h3⟩
                  obtain rfl : N' = 1 := h2.len
                  exact ⟨A', c', h1, (Below.refl _ _).grown h3 (Nat.le_refl _) (fun g e => by cases e)⟩
                have HCM := Lib.hid hcm
                have HIS := Lib.hid his
                have HBY := Lib.hid hby
                clear hcm his hby hfl e2 e3 d3 n3 hq q2 hz0 hz1
                go_wp2_with (first
                  | (go_at_call 18; (with_reducible refine HFL.out.mono ?_); rintro e w8 ⟨rfl, hv8⟩; have HV8 := Lib.hid hv8; clear hv8)
                  | (go_at_call 26; (with_reducible refine (HCM.out _ HV8.out).mono ?_); rintro e w9 ⟨rfl, hv9⟩; have HV9 := Lib.hid hv9; clear hv9)
                  | (go_at_call 30; (with_reducible refine (HIS.out _ HV9.out).mono ?_); rintro e w10 ⟨rfl, hv10⟩; have HV10 := Lib.hid hv10; clear hv10)
                  | (go_at_call 35; (with_reducible refine (HBY.out _).mono ?_); rintro e w11 ⟨A11, c11, rfl, hb11⟩; have HB11 := Lib.hid hb11; clear hb11))
                go_ret
                have hb := HFIN.out _ _ _ HV10.out
                exact ⟨rfl, hb.trans (HB11.out.mono hb.size)⟩
              · have e3 := hz1 (by have := HZ.out; omega)
                rw [e3] at hcm
                have hzn : (0 : Int) < z := by have := HZ.out; omega
                have his : ∀ W, Vs w6 W w6.heap.size p (q * 1000 + 1 + 300000) V2 → Calls Try.prog 30 #[.pointer (some ⟨p, 0, none⟩), .slice A3 q c3, .slice none 0 0] W fun e w' => e = .returned (.bool true) ∧ Vs w6 w' w6.heap.size p (q * 1000 + 1 + 300000) V2 := fun W hv => by
                  refine (hv.isf (by have := HN34.out; omega) q2.dead (Nat.le_refl _) HFA.out (fr_nil _ _ _) HK1.out.few ⟨Nat.zero_le _, fun _ h => by cases h⟩).mono ?_
                  rintro e w' ⟨r, h1, h2, h3⟩
                  rw [h2 (by rw [q2.now]; exact isP_self HK1.out)] at h1
                  exact ⟨h1, h3⟩
                have HCM := Lib.hid hcm
                have HIS := Lib.hid his
                clear hcm his hfl e2 e3 hq q2 hz0 hz1
                go_wp2_with (first
                  | (go_at_call 18; (with_reducible refine HFL.out.mono ?_); rintro e w8 ⟨rfl, hv8⟩; have HV8 := Lib.hid hv8; clear hv8)
                  | (go_at_call 26; (with_reducible refine (HCM.out _ HV8.out).mono ?_); rintro e w9 ⟨rfl, hv9⟩; have HV9 := Lib.hid hv9; clear hv9)
                  | (go_at_call 30; (with_reducible refine (HIS.out _ HV9.out).mono ?_); rintro e w10 ⟨rfl, hv10⟩; have HV10 := Lib.hid hv10; clear hv10))
                go_ret
                exact ⟨rfl, HFIN.out _ _ _ HV10.out⟩
end Go.Proofs.Ytpaaafdnkehmfaa.Vf
