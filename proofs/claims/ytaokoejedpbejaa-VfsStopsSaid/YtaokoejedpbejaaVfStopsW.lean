/- VfsStops, walked. No conditions. -/
import Derived.Test.YtaokoejedpbejaaVfLem
namespace Go.Proofs.Ytaokoejedpbejaa.Vf
open Go.RowKit
set_option maxRecDepth 100000

def aL (b : Bool) : FL := if b = true then [([97], [1])] else []
structure SInv (V : Vm) (m d : Nat) (is : Bool) : Prop where
  room : V.room = 100
  num : V.ops = d
  le : d ≤ m
  dead : V.dead = decide (m ≤ d)
  stop : V.stop = if d < m then (m : Int) - d else 0
  now : V.now = aL is
theorem asc_aL (b : Bool) : Asc (aL b) := by cases b <;> simp [aL, Asc]
theorem wth_aL (b : Bool) (o : Option BS) (ho : o = none ∨ o = some [1]) : wth [97] o (aL b) = aL o.isSome := by
  rcases ho with rfl | rfl <;> cases b <;> rfl
theorem tick_dead {V : Vm} {m d : Nat} {is : Bool} (h : SInv V m d is) (hd : d < m) : V.tick.dead = decide (m ≤ d + 1) ∧ V.tick.stop = (if d + 1 < m then (m : Int) - (d + 1 : Nat) else 0) ∧ V.tick.ops = d + 1 := by
  have hs : V.stop = (m : Int) - d := by rw [h.stop, if_pos hd]
  refine ⟨?_, ?_, ?_⟩
  · simp only [Vm.tick]
    rw [if_pos (by omega), hs]
    by_cases e : m ≤ d + 1
    · rw [decide_eq_true e, decide_eq_true (by omega)]
    · rw [decide_eq_false e, decide_eq_false (by omega)]
  · simp only [Vm.tick]
    rw [if_pos (by omega), hs]
    split <;> omega
  · simp only [Vm.tick, h.num]
theorem SInv.does {V : Vm} {m d : Nat} {is : Bool} (h : SInv V m d is) (hd : d < m) (o : Option BS) (ho : o = none ∨ o = some [1]) : (V.does [97] o).says = (if m ≤ d + 1 then 15 else 0) ∧ SInv (V.does [97] o) m (d + 1) o.isSome := by
  have ht := tick_dead (V := ({ V with since := V.since ++ [([97], o)] } : Vm)) (is := o.isSome) ⟨h.room, h.num, h.le, h.dead, h.stop, by
    show Vm.now _ = _
    simp only [Vm.now, ops_app]
    have := h.now
    unfold Vm.now at this
    rw [this]
    exact wth_aL is o ho⟩ hd
  refine ⟨?_, h.room, ht.2.2, by omega, ht.1, ht.2.1, ?_⟩
  · unfold Vm.says
    rw [show (V.does [97] o).dead = decide (m ≤ d + 1) from ht.1]
    by_cases e : m ≤ d + 1
    · rw [decide_eq_true e, if_pos e, if_pos rfl]
    · rw [decide_eq_false e, if_neg e, if_neg (by simp)]
  · rw [does_now, h.now, wth_aL is o ho]
theorem not_dead {V : Vm} {m d : Nat} {is : Bool} (h : SInv V m d is) (hd : d < m) : ¬ V.dead = true := by rw [h.dead]; simp; omega
theorem is_dead {V : Vm} {m d : Nat} {is : Bool} (h : SInv V m d is) (hd : m ≤ d) : V.dead = true := by rw [h.dead]; simp; omega
theorem SInv.write {V : Vm} {m d : Nat} {is : Bool} (h : SInv V m d is) (hd : d < m) : (V.write (⟨#[97]⟩ : ByteArray).data.toList [1]).1 = (if m ≤ d + 1 then 15 else 0) ∧ SInv (V.write (⟨#[97]⟩ : ByteArray).data.toList [1]).2 m (d + 1) true := by
  have hw : V.write (⟨#[97]⟩ : ByteArray).data.toList [1] = ((V.does [97] (some [1])).says, V.does [97] (some [1])) := by
    unfold Vm.write
    rw [if_neg (not_dead h hd), if_neg (by decide), if_neg (by
      show ¬ V.room < (used (wth [97] (some [1]) V.now) : Int)
      rw [h.now, wth_aL is _ (.inr rfl), h.room]; decide)]
  rw [hw]
  exact h.does hd (some [1]) (.inr rfl)
theorem SInv.remove {V : Vm} {m d : Nat} (h : SInv V m d true) (hd : d < m) : (V.remove (⟨#[97]⟩ : ByteArray).data.toList).1 = (if m ≤ d + 1 then 15 else 0) ∧ SInv (V.remove (⟨#[97]⟩ : ByteArray).data.toList).2 m (d + 1) false := by
  have hw : V.remove (⟨#[97]⟩ : ByteArray).data.toList = ((V.does [97] none).says, V.does [97] none) := by
    unfold Vm.remove
    rw [if_neg (not_dead h hd), if_neg (by rw [h.now]; decide)]
  rw [hw]
  exact h.does hd none (.inl rfl)
theorem SInv.remove0 {V : Vm} {m d : Nat} (h : SInv V m d false) (hd : d < m) : V.remove (⟨#[97]⟩ : ByteArray).data.toList = (2, V) := by
  unfold Vm.remove
  rw [if_neg (not_dead h hd), if_pos (by rw [h.now]; decide)]
theorem SInv.full {V : Vm} {m d : Nat} {is : Bool} (h : SInv V m d is) (hd : d < m) : V.write (⟨#[98]⟩ : ByteArray).data.toList (List.replicate 101 0) = (14, V) := by
  unfold Vm.write
  rw [if_neg (not_dead h hd), if_neg (by decide), if_pos (by
    show V.room < (used (wth [98] (some (List.replicate 101 0)) V.now) : Int)
    rw [h.now, h.room]; cases is <;> decide)]
theorem SInv.flush {V : Vm} {m d : Nat} {is : Bool} (h : SInv V m d is) (hd : d < m) : V.flush.1 = (if m ≤ d + 1 then 15 else 0) ∧ SInv V.flush.2 m (d + 1) is := by
  have ht := tick_dead h hd
  unfold Vm.flush
  rw [if_neg (not_dead h hd)]
  by_cases e : m ≤ d + 1
  · rw [if_pos (by rw [ht.1]; exact decide_eq_true e), if_pos e]
    exact ⟨rfl, h.room, ht.2.2, by omega, ht.1, ht.2.1, h.now⟩
  · rw [if_neg (by rw [ht.1]; simp; omega), if_neg e]
    exact ⟨rfl, h.room, ht.2.2, by omega, ht.1, ht.2.1, h.now⟩
theorem dead_write {V : Vm} (h : V.dead = true) (k b : BS) : V.write k b = (15, V) := by unfold Vm.write; rw [if_pos h]
theorem dead_remove {V : Vm} (h : V.dead = true) (k : BS) : V.remove k = (15, V) := by unfold Vm.remove; rw [if_pos h]
theorem dead_flush {V : Vm} (h : V.dead = true) : V.flush = (15, V) := by unfold Vm.flush; rw [if_pos h]
theorem crash_flush (V : Vm) : (V.crash []).flush.1 = 0 := by rfl
theorem zeros101 (W : World) : (Instr.makeSlice 31 (.int .i64 101) (.int .i64 101)).run Try.prog W = .ok (.slice (some ⟨W.heap.size, 0, none⟩) 101 101) (W.alloc (.cells (byts (List.replicate 101 0)).toArray 5)) := zeros_run 101 (by decide) W

set_option maxHeartbeats 8000000 in
theorem vfsStops_walk (a : Int) (A : Option Addr) (n c : Nat) (l : List Int) (w : World) (hS : SeesV w w.heap.size A n (l.map (Value.int .i64))) (hr : ∀ x ∈ l, -9223372036854775808 ≤ x ∧ x ≤ 9223372036854775807) (ha : -9223372036854775808 ≤ a ∧ a ≤ 9223372036854775807) :
    Calls Try.prog 5 #[.int .i64 a, .slice A n c] w fun e w' => e = .returned (.bool true) ∧ Below w.heap.size w w' := by
  obtain ⟨z, hz, -, hwz⟩ := within_nat a 10 (by decide) (by decide) ha.1 ha.2
  obtain ⟨m, hm⟩ : ∃ m, m = 1 + z := ⟨_, rfl⟩
  have w3 : wrap64 (1 + (z : Int)) = (m : Int) := by unfold wrap64; omega
  have hm1 : 1 ≤ m := by omega
  have hm10 : m ≤ 10 := by omega
  have HS := Lib.hid hS
  have HR := Lib.hid hr
  have HWZ := Lib.hid (show ∀ w : World, Calls Try.prog 12 #[.int .i64 a, .int .i64 10] w fun e w' => e = .returned (.int .i64 (z : Int)) ∧ w = w' from hwz)
  have HM1 := Lib.hid hm1
  have HM10 := Lib.hid hm10
  clear hS hr ha hz hwz hm hm1 hm10
  go_enter Try.func5, Try.ntmps5
  go_upto_region 5 with (first
    | (go_at_call 10; (with_reducible refine (known_any _).mono ?_); rintro e W1 ⟨rfl, hb1⟩; have HB1 := Lib.hid hb1; clear hb1)
    | (go_at_call 12; (with_reducible refine (HWZ.out _).mono ?_); rintro e W ⟨rfl, rfl⟩)
    | (go_at_call 13; (with_reducible refine (new_any _ W1).mono ?_); rintro e W2 ⟨rfl, hbx2, hb2, hz2⟩; have HBX2 := Lib.hid hbx2; have HB2 := Lib.hid hb2; clear hbx2 hb2 hz2))
  have hv2 := Vp.fresh (B := W2.heap.size) HBX2.out HBX2.out.lt (Nat.le_refl _)
  have hbw2 : Below w.heap.size w W2 := HB1.out.trans (HB2.out.mono HB1.out.size)
  have c2w : ∀ W, Mo W2.heap.size W1.heap.size W2 W → Below w.heap.size w W := fun W h => hbw2.trans (h.below hbw2.size HB1.out.size hbw2.size)
  have hst := stop_any hv2 (m : Int)
  have HST := Lib.hid hst
  have HC := Lib.hid c2w
  clear hv2 hbw2 c2w hst
  go_wp2_with (go_at_call 22; (with_reducible refine HST.out.mono ?_); rintro e W3 ⟨rfl, hv3, hm3⟩; have HV3 := Lib.hid hv3; have HM3 := Lib.hid hm3; clear hv3 hm3)
  go_loopw [6, 7, 8] (fun dv iv kv wr => ∃ (k d : Nat) (is : Bool) (V : Vm), k ≤ 30 ∧ k ≤ n ∧ kv = .int .i64 (k : Int) ∧ dv = .int .i64 (d : Int) ∧ iv = .bool is ∧ Vp wr W2.heap.size W1.heap.size V ∧ Lim V (k * 200) ∧ SInv V m d is ∧ Mo W2.heap.size W1.heap.size W2 wr) (fun _ _ kv _ => 30 - (intOf kv).toNat)
  case atStart =>
    refine ⟨0, 0, false, (Vm.new 100).stopAt m, by omega, Nat.zero_le _, rfl, rfl, rfl, HV3.out, (Lim.new 100).stopAt (by have := HM10.out; omega), ⟨rfl, rfl, Nat.zero_le _, ?_, ?_, rfl⟩, HM3.out⟩
    · have := HM1.out
      show false = _
      rw [decide_eq_false (by omega)]
    · have := HM1.out
      show (m : Int) = _
      rw [if_pos (by omega)]; omega
  case round =>
    obtain ⟨k, d, is, V, hk, hkn, rfl, rfl, rfl, hv, hl, hi, hmo⟩ := hrel
    have HV := Lib.hid hv
    have HL := Lib.hid hl
    have HI := Lib.hid hi
    have HMO := Lib.hid hmo
    have HK := Lib.hid hk
    clear hv hl hi hmo hk
    by_cases hlt : k < n ∧ k < 30
    · obtain ⟨h1, h2⟩ := hlt
      have q1 : (k : Int) < (n : Int) := by omega
      have q2 : (k : Int) < 30 := by omega
      have k0 : (0 : Int) ≤ (k : Int) := by omega
      obtain ⟨b, o, rfl, hb, hcell⟩ := (HS.out.below (HC.out _ HMO.out)).int h1
      have hkl : k < l.length := by have := HS.out.len; rw [List.length_map] at this; omega
      have hget : l.getD k 0 = l[k] := by simp [List.getD, List.getElem?_eq_getElem hkl]
      have hss := HR.out l[k] (List.getElem_mem hkl)
      rw [hget] at hcell
      obtain ⟨s, hs⟩ : ∃ s, s = l[k] := ⟨_, rfl⟩
      rw [← hs] at hcell hss
      obtain ⟨y, hy, hwy⟩ := within_four s hss.1 hss.2
      have hdm := HI.out.le
      have hm10 := HM10.out
      have w4 : wrap64 ((d : Int) + 1) = (d : Int) + 1 := by unfold wrap64; omega
      have HWY := Lib.hid hwy
      have H1 := Lib.hid h1
      have H2 := Lib.hid h2
      have HDM := Lib.hid hdm
      clear hss hget hs hkl hb h1 h2 hkn hwy hdm hm10
      have lim1 := (HL.out.write (⟨#[97]⟩ : ByteArray).data.toList [1]).more (M := (k + 1) * 200) (by show k * 200 + (1 + 1 + 1) ≤ _; omega)
      have lim2 := HL.out.flush.more (M := (k + 1) * 200) (by omega)
      have lim3 := (HL.out.remove (⟨#[97]⟩ : ByteArray).data.toList).more (M := (k + 1) * 200) (by show k * 200 + (1 + 1) ≤ _; omega)
      have lim4 := HL.out.more (M := (k + 1) * 200) (by omega)
      have hk := HK.out
      have hw1 := write_any (s := ⟨#[97]⟩) (n := 1) (c := 1) (HV.out.below ((Below.refl _ _).alloc (Nat.le_refl _) (Obj.cells #[.int .u8 1] 5))) HL.out (sees_new wr [1] rfl) (by decide) (by show k * 200 + 21 + 1 ≤ 1099511627776; omega)
      have hw2 := flush_any HV.out HL.out (by omega)
      have hw3 := remove_any (s := ⟨#[97]⟩) HV.out HL.out (by decide) (by show k * 200 + 1 + 1 ≤ 1099511627776; omega)
      have hw4 := write_any (s := ⟨#[98]⟩) (n := 101) (c := 101) (HV.out.below ((Below.refl _ _).alloc (Nat.le_refl _) (Obj.cells (byts (List.replicate 101 0)).toArray 5))) HL.out (sees_new wr (List.replicate 101 0) rfl) (by decide) (by show k * 200 + 21 + (List.replicate 101 (0 : UInt8)).length ≤ 1099511627776; rw [List.length_replicate]; omega)
      have hzz := zeros101
      have hdead : ∀ (V' : Vm) (W' : World) (d' : Nat) (is' : Bool), Vp W' W2.heap.size W1.heap.size V' → SInv V' m d' is' → (Calls Try.prog 21 #[.pointer (some ⟨W1.heap.size, 0, none⟩)] W' fun e w' => e = .returned (.bool (decide (m ≤ d'))) ∧ W' = w') ∧ (Calls Try.prog 24 #[.pointer (some ⟨W1.heap.size, 0, none⟩)] W' fun e w' => e = .returned (.int .i64 (d' : Int)) ∧ W' = w') := fun V' W' d' is' hv hi => by
        have h1 := dead_any hv
        have h2 := ops_any hv
        rw [hi.dead] at h1
        rw [hi.num] at h2
        exact ⟨h1, h2⟩
      have HLA := Lib.hid lim1
      have HLB := Lib.hid lim2
      have HLC := Lib.hid lim3
      have HLD := Lib.hid lim4
      have HWA := Lib.hid hw1
      have HWB := Lib.hid hw2
      have HWC := Lib.hid hw3
      have HWD := Lib.hid hw4
      have HDE := Lib.hid hdead
      obtain ⟨ZB, hZB⟩ : ∃ Z, Z = Obj.cells (byts (List.replicate 101 0)).toArray 5 := ⟨_, rfl⟩
      rw [← hZB] at hzz HWD
      clear lim1 lim2 lim3 lim4 hk hw1 hw2 hw3 hw4 hdead hZB
      rcases hy with rfl | rfl | rfl | rfl
      · cases is with
        | true =>
          by_cases hd : m ≤ d
          · have p1 : (m : Int) ≤ (d : Int) := by omega
            have p2 : ¬ (d : Int) < (m : Int) := by omega
            have hq := HWA.out
            rw [dead_write (is_dead HI.out hd)] at hq
            try simp only at hq
            have HQ := Lib.hid hq
            have HD := Lib.hid hd
            have hcond : decide (m ≤ d) = true := by simp; omega
            have HCO := Lib.hid hcond
            clear hq hcond hd
            go_wp2_with (first
              | (go_at_call 12; (with_reducible refine (HWY.out _).mono ?_); rintro e W ⟨rfl, rfl⟩)
              | (go_at_call 18; (with_reducible refine HQ.out.mono ?_); rintro e W4 ⟨rfl, hv4, hm4⟩; have hde := HDE.out _ _ _ _ hv4 HI.out; rw [HCO.out] at hde; have HDD := Lib.hid hde; clear hde)
              | (go_at_call 21; (with_reducible refine HDD.out.1.mono ?_); rintro e W ⟨rfl, rfl⟩)
              | (go_at_call 24; (with_reducible refine HDD.out.2.mono ?_); rintro e W ⟨rfl, rfl⟩))
            go_roundw
            case rel => exact ⟨k + 1, d, true, _, by have := H2.out; omega, by have := H1.out; omega, by go_num, by first | rfl | go_num, rfl, hv4, HLD.out, HI.out, HMO.out.trans ((Mo.of ((Below.refl _ _).alloc (Nat.le_refl _) _)).trans hm4)⟩
            case measure => have := H2.out; simp [intOf]; omega
          · have hlt2 : d < m := by omega
            have p1 : ¬ (m : Int) ≤ (d : Int) := by omega
            have p2 : (d : Int) < (m : Int) := by omega
            by_cases hlast : d + 1 = m
            · have p3 : ((d : Int) + 1 == (m : Int)) = true := by rw [beq_iff_eq]; omega
              have p4 : (m : Int) ≤ (d : Int) + 1 := by omega
              have hq := HWA.out
              obtain ⟨ha, hn⟩ := HI.out.write hlt2
              rw [ha] at hq
              rw [if_pos (by omega)] at hq
              have HN := Lib.hid hn
              clear ha hn
              try simp only at hq
              have HQ := Lib.hid hq
              have HD := Lib.hid hlt2
              have hcond : decide (m ≤ d + 1) = true := by simp; omega
              have HCO := Lib.hid hcond
              clear hq hcond hlt2 hd hlast
              go_wp2_with (first
                | (go_at_call 12; (with_reducible refine (HWY.out _).mono ?_); rintro e W ⟨rfl, rfl⟩)
                | (go_at_call 18; (with_reducible refine HQ.out.mono ?_); rintro e W4 ⟨rfl, hv4, hm4⟩; have hde := HDE.out _ _ _ _ hv4 HN.out; rw [HCO.out] at hde; have HDD := Lib.hid hde; clear hde)
                | (go_at_call 21; (with_reducible refine HDD.out.1.mono ?_); rintro e W ⟨rfl, rfl⟩)
                | (go_at_call 24; (with_reducible refine HDD.out.2.mono ?_); rintro e W ⟨rfl, rfl⟩))
              go_roundw
              case rel => exact ⟨k + 1, d + 1, true, _, by have := H2.out; omega, by have := H1.out; omega, by go_num, by first | rfl | go_num, rfl, hv4, HLA.out, HN.out, HMO.out.trans ((Mo.of ((Below.refl _ _).alloc (Nat.le_refl _) _)).trans hm4)⟩
              case measure => have := H2.out; simp [intOf]; omega
            · have p3 : ((d : Int) + 1 == (m : Int)) = false := by rw [beq_eq_false_iff_ne]; omega
              have p4 : ¬ (m : Int) ≤ (d : Int) + 1 := by omega
              have hq := HWA.out
              obtain ⟨ha, hn⟩ := HI.out.write hlt2
              rw [ha] at hq
              rw [if_neg (by omega)] at hq
              have HN := Lib.hid hn
              clear ha hn
              try simp only at hq
              have HQ := Lib.hid hq
              have HD := Lib.hid hlt2
              have hcond : decide (m ≤ d + 1) = false := by simp; omega
              have HCO := Lib.hid hcond
              clear hq hcond hlt2 hd hlast
              go_wp2_with (first
                | (go_at_call 12; (with_reducible refine (HWY.out _).mono ?_); rintro e W ⟨rfl, rfl⟩)
                | (go_at_call 18; (with_reducible refine HQ.out.mono ?_); rintro e W4 ⟨rfl, hv4, hm4⟩; have hde := HDE.out _ _ _ _ hv4 HN.out; rw [HCO.out] at hde; have HDD := Lib.hid hde; clear hde)
                | (go_at_call 21; (with_reducible refine HDD.out.1.mono ?_); rintro e W ⟨rfl, rfl⟩)
                | (go_at_call 24; (with_reducible refine HDD.out.2.mono ?_); rintro e W ⟨rfl, rfl⟩))
              go_roundw
              case rel => exact ⟨k + 1, d + 1, true, _, by have := H2.out; omega, by have := H1.out; omega, by go_num, by first | rfl | go_num, rfl, hv4, HLA.out, HN.out, HMO.out.trans ((Mo.of ((Below.refl _ _).alloc (Nat.le_refl _) _)).trans hm4)⟩
              case measure => have := H2.out; simp [intOf]; omega
        | false =>
          by_cases hd : m ≤ d
          · have p1 : (m : Int) ≤ (d : Int) := by omega
            have p2 : ¬ (d : Int) < (m : Int) := by omega
            have hq := HWA.out
            rw [dead_write (is_dead HI.out hd)] at hq
            try simp only at hq
            have HQ := Lib.hid hq
            have HD := Lib.hid hd
            have hcond : decide (m ≤ d) = true := by simp; omega
            have HCO := Lib.hid hcond
            clear hq hcond hd
            go_wp2_with (first
              | (go_at_call 12; (with_reducible refine (HWY.out _).mono ?_); rintro e W ⟨rfl, rfl⟩)
              | (go_at_call 18; (with_reducible refine HQ.out.mono ?_); rintro e W4 ⟨rfl, hv4, hm4⟩; have hde := HDE.out _ _ _ _ hv4 HI.out; rw [HCO.out] at hde; have HDD := Lib.hid hde; clear hde)
              | (go_at_call 21; (with_reducible refine HDD.out.1.mono ?_); rintro e W ⟨rfl, rfl⟩)
              | (go_at_call 24; (with_reducible refine HDD.out.2.mono ?_); rintro e W ⟨rfl, rfl⟩))
            go_roundw
            case rel => exact ⟨k + 1, d, false, _, by have := H2.out; omega, by have := H1.out; omega, by go_num, by first | rfl | go_num, rfl, hv4, HLD.out, HI.out, HMO.out.trans ((Mo.of ((Below.refl _ _).alloc (Nat.le_refl _) _)).trans hm4)⟩
            case measure => have := H2.out; simp [intOf]; omega
          · have hlt2 : d < m := by omega
            have p1 : ¬ (m : Int) ≤ (d : Int) := by omega
            have p2 : (d : Int) < (m : Int) := by omega
            by_cases hlast : d + 1 = m
            · have p3 : ((d : Int) + 1 == (m : Int)) = true := by rw [beq_iff_eq]; omega
              have p4 : (m : Int) ≤ (d : Int) + 1 := by omega
              have hq := HWA.out
              obtain ⟨ha, hn⟩ := HI.out.write hlt2
              rw [ha] at hq
              rw [if_pos (by omega)] at hq
              have HN := Lib.hid hn
              clear ha hn
              try simp only at hq
              have HQ := Lib.hid hq
              have HD := Lib.hid hlt2
              have hcond : decide (m ≤ d + 1) = true := by simp; omega
              have HCO := Lib.hid hcond
              clear hq hcond hlt2 hd hlast
              go_wp2_with (first
                | (go_at_call 12; (with_reducible refine (HWY.out _).mono ?_); rintro e W ⟨rfl, rfl⟩)
                | (go_at_call 18; (with_reducible refine HQ.out.mono ?_); rintro e W4 ⟨rfl, hv4, hm4⟩; have hde := HDE.out _ _ _ _ hv4 HN.out; rw [HCO.out] at hde; have HDD := Lib.hid hde; clear hde)
                | (go_at_call 21; (with_reducible refine HDD.out.1.mono ?_); rintro e W ⟨rfl, rfl⟩)
                | (go_at_call 24; (with_reducible refine HDD.out.2.mono ?_); rintro e W ⟨rfl, rfl⟩))
              go_roundw
              case rel => exact ⟨k + 1, d + 1, true, _, by have := H2.out; omega, by have := H1.out; omega, by go_num, by first | rfl | go_num, rfl, hv4, HLA.out, HN.out, HMO.out.trans ((Mo.of ((Below.refl _ _).alloc (Nat.le_refl _) _)).trans hm4)⟩
              case measure => have := H2.out; simp [intOf]; omega
            · have p3 : ((d : Int) + 1 == (m : Int)) = false := by rw [beq_eq_false_iff_ne]; omega
              have p4 : ¬ (m : Int) ≤ (d : Int) + 1 := by omega
              have hq := HWA.out
              obtain ⟨ha, hn⟩ := HI.out.write hlt2
              rw [ha] at hq
              rw [if_neg (by omega)] at hq
              have HN := Lib.hid hn
              clear ha hn
              try simp only at hq
              have HQ := Lib.hid hq
              have HD := Lib.hid hlt2
              have hcond : decide (m ≤ d + 1) = false := by simp; omega
              have HCO := Lib.hid hcond
              clear hq hcond hlt2 hd hlast
              go_wp2_with (first
                | (go_at_call 12; (with_reducible refine (HWY.out _).mono ?_); rintro e W ⟨rfl, rfl⟩)
                | (go_at_call 18; (with_reducible refine HQ.out.mono ?_); rintro e W4 ⟨rfl, hv4, hm4⟩; have hde := HDE.out _ _ _ _ hv4 HN.out; rw [HCO.out] at hde; have HDD := Lib.hid hde; clear hde)
                | (go_at_call 21; (with_reducible refine HDD.out.1.mono ?_); rintro e W ⟨rfl, rfl⟩)
                | (go_at_call 24; (with_reducible refine HDD.out.2.mono ?_); rintro e W ⟨rfl, rfl⟩))
              go_roundw
              case rel => exact ⟨k + 1, d + 1, true, _, by have := H2.out; omega, by have := H1.out; omega, by go_num, by first | rfl | go_num, rfl, hv4, HLA.out, HN.out, HMO.out.trans ((Mo.of ((Below.refl _ _).alloc (Nat.le_refl _) _)).trans hm4)⟩
              case measure => have := H2.out; simp [intOf]; omega
      · cases is with
        | true =>
          by_cases hd : m ≤ d
          · have p1 : (m : Int) ≤ (d : Int) := by omega
            have p2 : ¬ (d : Int) < (m : Int) := by omega
            have hq := HWB.out
            rw [dead_flush (is_dead HI.out hd)] at hq
            try simp only at hq
            have HQ := Lib.hid hq
            have HD := Lib.hid hd
            have hcond : decide (m ≤ d) = true := by simp; omega
            have HCO := Lib.hid hcond
            clear hq hcond hd
            go_wp2_with (first
              | (go_at_call 12; (with_reducible refine (HWY.out _).mono ?_); rintro e W ⟨rfl, rfl⟩)
              | (go_at_call 17; (with_reducible refine HQ.out.mono ?_); rintro e W4 ⟨rfl, hv4, hm4⟩; have hde := HDE.out _ _ _ _ hv4 HI.out; rw [HCO.out] at hde; have HDD := Lib.hid hde; clear hde)
              | (go_at_call 21; (with_reducible refine HDD.out.1.mono ?_); rintro e W ⟨rfl, rfl⟩)
              | (go_at_call 24; (with_reducible refine HDD.out.2.mono ?_); rintro e W ⟨rfl, rfl⟩))
            go_roundw
            case rel => exact ⟨k + 1, d, true, _, by have := H2.out; omega, by have := H1.out; omega, by go_num, by first | rfl | go_num, rfl, hv4, HLD.out, HI.out, HMO.out.trans (hm4)⟩
            case measure => have := H2.out; simp [intOf]; omega
          · have hlt2 : d < m := by omega
            have p1 : ¬ (m : Int) ≤ (d : Int) := by omega
            have p2 : (d : Int) < (m : Int) := by omega
            by_cases hlast : d + 1 = m
            · have p3 : ((d : Int) + 1 == (m : Int)) = true := by rw [beq_iff_eq]; omega
              have p4 : (m : Int) ≤ (d : Int) + 1 := by omega
              have hq := HWB.out
              obtain ⟨ha, hn⟩ := HI.out.flush hlt2
              rw [ha] at hq
              rw [if_pos (by omega)] at hq
              have HN := Lib.hid hn
              clear ha hn
              try simp only at hq
              have HQ := Lib.hid hq
              have HD := Lib.hid hlt2
              have hcond : decide (m ≤ d + 1) = true := by simp; omega
              have HCO := Lib.hid hcond
              clear hq hcond hlt2 hd hlast
              go_wp2_with (first
                | (go_at_call 12; (with_reducible refine (HWY.out _).mono ?_); rintro e W ⟨rfl, rfl⟩)
                | (go_at_call 17; (with_reducible refine HQ.out.mono ?_); rintro e W4 ⟨rfl, hv4, hm4⟩; have hde := HDE.out _ _ _ _ hv4 HN.out; rw [HCO.out] at hde; have HDD := Lib.hid hde; clear hde)
                | (go_at_call 21; (with_reducible refine HDD.out.1.mono ?_); rintro e W ⟨rfl, rfl⟩)
                | (go_at_call 24; (with_reducible refine HDD.out.2.mono ?_); rintro e W ⟨rfl, rfl⟩))
              go_roundw
              case rel => exact ⟨k + 1, d + 1, true, _, by have := H2.out; omega, by have := H1.out; omega, by go_num, by first | rfl | go_num, rfl, hv4, HLB.out, HN.out, HMO.out.trans (hm4)⟩
              case measure => have := H2.out; simp [intOf]; omega
            · have p3 : ((d : Int) + 1 == (m : Int)) = false := by rw [beq_eq_false_iff_ne]; omega
              have p4 : ¬ (m : Int) ≤ (d : Int) + 1 := by omega
              have hq := HWB.out
              obtain ⟨ha, hn⟩ := HI.out.flush hlt2
              rw [ha] at hq
              rw [if_neg (by omega)] at hq
              have HN := Lib.hid hn
              clear ha hn
              try simp only at hq
              have HQ := Lib.hid hq
              have HD := Lib.hid hlt2
              have hcond : decide (m ≤ d + 1) = false := by simp; omega
              have HCO := Lib.hid hcond
              clear hq hcond hlt2 hd hlast
              go_wp2_with (first
                | (go_at_call 12; (with_reducible refine (HWY.out _).mono ?_); rintro e W ⟨rfl, rfl⟩)
                | (go_at_call 17; (with_reducible refine HQ.out.mono ?_); rintro e W4 ⟨rfl, hv4, hm4⟩; have hde := HDE.out _ _ _ _ hv4 HN.out; rw [HCO.out] at hde; have HDD := Lib.hid hde; clear hde)
                | (go_at_call 21; (with_reducible refine HDD.out.1.mono ?_); rintro e W ⟨rfl, rfl⟩)
                | (go_at_call 24; (with_reducible refine HDD.out.2.mono ?_); rintro e W ⟨rfl, rfl⟩))
              go_roundw
              case rel => exact ⟨k + 1, d + 1, true, _, by have := H2.out; omega, by have := H1.out; omega, by go_num, by first | rfl | go_num, rfl, hv4, HLB.out, HN.out, HMO.out.trans (hm4)⟩
              case measure => have := H2.out; simp [intOf]; omega
        | false =>
          by_cases hd : m ≤ d
          · have p1 : (m : Int) ≤ (d : Int) := by omega
            have p2 : ¬ (d : Int) < (m : Int) := by omega
            have hq := HWB.out
            rw [dead_flush (is_dead HI.out hd)] at hq
            try simp only at hq
            have HQ := Lib.hid hq
            have HD := Lib.hid hd
            have hcond : decide (m ≤ d) = true := by simp; omega
            have HCO := Lib.hid hcond
            clear hq hcond hd
            go_wp2_with (first
              | (go_at_call 12; (with_reducible refine (HWY.out _).mono ?_); rintro e W ⟨rfl, rfl⟩)
              | (go_at_call 17; (with_reducible refine HQ.out.mono ?_); rintro e W4 ⟨rfl, hv4, hm4⟩; have hde := HDE.out _ _ _ _ hv4 HI.out; rw [HCO.out] at hde; have HDD := Lib.hid hde; clear hde)
              | (go_at_call 21; (with_reducible refine HDD.out.1.mono ?_); rintro e W ⟨rfl, rfl⟩)
              | (go_at_call 24; (with_reducible refine HDD.out.2.mono ?_); rintro e W ⟨rfl, rfl⟩))
            go_roundw
            case rel => exact ⟨k + 1, d, false, _, by have := H2.out; omega, by have := H1.out; omega, by go_num, by first | rfl | go_num, rfl, hv4, HLD.out, HI.out, HMO.out.trans (hm4)⟩
            case measure => have := H2.out; simp [intOf]; omega
          · have hlt2 : d < m := by omega
            have p1 : ¬ (m : Int) ≤ (d : Int) := by omega
            have p2 : (d : Int) < (m : Int) := by omega
            by_cases hlast : d + 1 = m
            · have p3 : ((d : Int) + 1 == (m : Int)) = true := by rw [beq_iff_eq]; omega
              have p4 : (m : Int) ≤ (d : Int) + 1 := by omega
              have hq := HWB.out
              obtain ⟨ha, hn⟩ := HI.out.flush hlt2
              rw [ha] at hq
              rw [if_pos (by omega)] at hq
              have HN := Lib.hid hn
              clear ha hn
              try simp only at hq
              have HQ := Lib.hid hq
              have HD := Lib.hid hlt2
              have hcond : decide (m ≤ d + 1) = true := by simp; omega
              have HCO := Lib.hid hcond
              clear hq hcond hlt2 hd hlast
              go_wp2_with (first
                | (go_at_call 12; (with_reducible refine (HWY.out _).mono ?_); rintro e W ⟨rfl, rfl⟩)
                | (go_at_call 17; (with_reducible refine HQ.out.mono ?_); rintro e W4 ⟨rfl, hv4, hm4⟩; have hde := HDE.out _ _ _ _ hv4 HN.out; rw [HCO.out] at hde; have HDD := Lib.hid hde; clear hde)
                | (go_at_call 21; (with_reducible refine HDD.out.1.mono ?_); rintro e W ⟨rfl, rfl⟩)
                | (go_at_call 24; (with_reducible refine HDD.out.2.mono ?_); rintro e W ⟨rfl, rfl⟩))
              go_roundw
              case rel => exact ⟨k + 1, d + 1, false, _, by have := H2.out; omega, by have := H1.out; omega, by go_num, by first | rfl | go_num, rfl, hv4, HLB.out, HN.out, HMO.out.trans (hm4)⟩
              case measure => have := H2.out; simp [intOf]; omega
            · have p3 : ((d : Int) + 1 == (m : Int)) = false := by rw [beq_eq_false_iff_ne]; omega
              have p4 : ¬ (m : Int) ≤ (d : Int) + 1 := by omega
              have hq := HWB.out
              obtain ⟨ha, hn⟩ := HI.out.flush hlt2
              rw [ha] at hq
              rw [if_neg (by omega)] at hq
              have HN := Lib.hid hn
              clear ha hn
              try simp only at hq
              have HQ := Lib.hid hq
              have HD := Lib.hid hlt2
              have hcond : decide (m ≤ d + 1) = false := by simp; omega
              have HCO := Lib.hid hcond
              clear hq hcond hlt2 hd hlast
              go_wp2_with (first
                | (go_at_call 12; (with_reducible refine (HWY.out _).mono ?_); rintro e W ⟨rfl, rfl⟩)
                | (go_at_call 17; (with_reducible refine HQ.out.mono ?_); rintro e W4 ⟨rfl, hv4, hm4⟩; have hde := HDE.out _ _ _ _ hv4 HN.out; rw [HCO.out] at hde; have HDD := Lib.hid hde; clear hde)
                | (go_at_call 21; (with_reducible refine HDD.out.1.mono ?_); rintro e W ⟨rfl, rfl⟩)
                | (go_at_call 24; (with_reducible refine HDD.out.2.mono ?_); rintro e W ⟨rfl, rfl⟩))
              go_roundw
              case rel => exact ⟨k + 1, d + 1, false, _, by have := H2.out; omega, by have := H1.out; omega, by go_num, by first | rfl | go_num, rfl, hv4, HLB.out, HN.out, HMO.out.trans (hm4)⟩
              case measure => have := H2.out; simp [intOf]; omega
      · cases is with
        | true =>
          by_cases hd : m ≤ d
          · have p1 : (m : Int) ≤ (d : Int) := by omega
            have p2 : ¬ (d : Int) < (m : Int) := by omega
            have hq := HWC.out
            rw [dead_remove (is_dead HI.out hd)] at hq
            try simp only at hq
            have HQ := Lib.hid hq
            have HD := Lib.hid hd
            have hcond : decide (m ≤ d) = true := by simp; omega
            have HCO := Lib.hid hcond
            clear hq hcond hd
            go_wp2_with (first
              | (go_at_call 12; (with_reducible refine (HWY.out _).mono ?_); rintro e W ⟨rfl, rfl⟩)
              | (go_at_call 23; (with_reducible refine HQ.out.mono ?_); rintro e W4 ⟨rfl, hv4, hm4⟩; have hde := HDE.out _ _ _ _ hv4 HI.out; rw [HCO.out] at hde; have HDD := Lib.hid hde; clear hde)
              | (go_at_call 21; (with_reducible refine HDD.out.1.mono ?_); rintro e W ⟨rfl, rfl⟩)
              | (go_at_call 24; (with_reducible refine HDD.out.2.mono ?_); rintro e W ⟨rfl, rfl⟩))
            go_roundw
            case rel => exact ⟨k + 1, d, true, _, by have := H2.out; omega, by have := H1.out; omega, by go_num, by first | rfl | go_num, rfl, hv4, HLD.out, HI.out, HMO.out.trans (hm4)⟩
            case measure => have := H2.out; simp [intOf]; omega
          · have hlt2 : d < m := by omega
            have p1 : ¬ (m : Int) ≤ (d : Int) := by omega
            have p2 : (d : Int) < (m : Int) := by omega
            by_cases hlast : d + 1 = m
            · have p3 : ((d : Int) + 1 == (m : Int)) = true := by rw [beq_iff_eq]; omega
              have p4 : (m : Int) ≤ (d : Int) + 1 := by omega
              have hq := HWC.out
              obtain ⟨ha, hn⟩ := HI.out.remove hlt2
              rw [ha] at hq
              rw [if_pos (by omega)] at hq
              have HN := Lib.hid hn
              clear ha hn
              try simp only at hq
              have HQ := Lib.hid hq
              have HD := Lib.hid hlt2
              have hcond : decide (m ≤ d + 1) = true := by simp; omega
              have HCO := Lib.hid hcond
              clear hq hcond hlt2 hd hlast
              go_wp2_with (first
                | (go_at_call 12; (with_reducible refine (HWY.out _).mono ?_); rintro e W ⟨rfl, rfl⟩)
                | (go_at_call 23; (with_reducible refine HQ.out.mono ?_); rintro e W4 ⟨rfl, hv4, hm4⟩; have hde := HDE.out _ _ _ _ hv4 HN.out; rw [HCO.out] at hde; have HDD := Lib.hid hde; clear hde)
                | (go_at_call 21; (with_reducible refine HDD.out.1.mono ?_); rintro e W ⟨rfl, rfl⟩)
                | (go_at_call 24; (with_reducible refine HDD.out.2.mono ?_); rintro e W ⟨rfl, rfl⟩))
              go_roundw
              case rel => exact ⟨k + 1, d + 1, false, _, by have := H2.out; omega, by have := H1.out; omega, by go_num, by first | rfl | go_num, rfl, hv4, HLC.out, HN.out, HMO.out.trans (hm4)⟩
              case measure => have := H2.out; simp [intOf]; omega
            · have p3 : ((d : Int) + 1 == (m : Int)) = false := by rw [beq_eq_false_iff_ne]; omega
              have p4 : ¬ (m : Int) ≤ (d : Int) + 1 := by omega
              have hq := HWC.out
              obtain ⟨ha, hn⟩ := HI.out.remove hlt2
              rw [ha] at hq
              rw [if_neg (by omega)] at hq
              have HN := Lib.hid hn
              clear ha hn
              try simp only at hq
              have HQ := Lib.hid hq
              have HD := Lib.hid hlt2
              have hcond : decide (m ≤ d + 1) = false := by simp; omega
              have HCO := Lib.hid hcond
              clear hq hcond hlt2 hd hlast
              go_wp2_with (first
                | (go_at_call 12; (with_reducible refine (HWY.out _).mono ?_); rintro e W ⟨rfl, rfl⟩)
                | (go_at_call 23; (with_reducible refine HQ.out.mono ?_); rintro e W4 ⟨rfl, hv4, hm4⟩; have hde := HDE.out _ _ _ _ hv4 HN.out; rw [HCO.out] at hde; have HDD := Lib.hid hde; clear hde)
                | (go_at_call 21; (with_reducible refine HDD.out.1.mono ?_); rintro e W ⟨rfl, rfl⟩)
                | (go_at_call 24; (with_reducible refine HDD.out.2.mono ?_); rintro e W ⟨rfl, rfl⟩))
              go_roundw
              case rel => exact ⟨k + 1, d + 1, false, _, by have := H2.out; omega, by have := H1.out; omega, by go_num, by first | rfl | go_num, rfl, hv4, HLC.out, HN.out, HMO.out.trans (hm4)⟩
              case measure => have := H2.out; simp [intOf]; omega
        | false =>
          by_cases hd : m ≤ d
          · have p1 : (m : Int) ≤ (d : Int) := by omega
            have p2 : ¬ (d : Int) < (m : Int) := by omega
            have hq := HWC.out
            rw [dead_remove (is_dead HI.out hd)] at hq
            try simp only at hq
            have HQ := Lib.hid hq
            have HD := Lib.hid hd
            have hcond : decide (m ≤ d) = true := by simp; omega
            have HCO := Lib.hid hcond
            clear hq hcond hd
            go_wp2_with (first
              | (go_at_call 12; (with_reducible refine (HWY.out _).mono ?_); rintro e W ⟨rfl, rfl⟩)
              | (go_at_call 23; (with_reducible refine HQ.out.mono ?_); rintro e W4 ⟨rfl, hv4, hm4⟩; have hde := HDE.out _ _ _ _ hv4 HI.out; rw [HCO.out] at hde; have HDD := Lib.hid hde; clear hde)
              | (go_at_call 21; (with_reducible refine HDD.out.1.mono ?_); rintro e W ⟨rfl, rfl⟩)
              | (go_at_call 24; (with_reducible refine HDD.out.2.mono ?_); rintro e W ⟨rfl, rfl⟩))
            go_roundw
            case rel => exact ⟨k + 1, d, false, _, by have := H2.out; omega, by have := H1.out; omega, by go_num, by first | rfl | go_num, rfl, hv4, HLD.out, HI.out, HMO.out.trans (hm4)⟩
            case measure => have := H2.out; simp [intOf]; omega
          · have hlt2 : d < m := by omega
            have p1 : ¬ (m : Int) ≤ (d : Int) := by omega
            have p2 : (d : Int) < (m : Int) := by omega
            by_cases hlast : d + 1 = m
            · have p3 : ((d : Int) + 1 == (m : Int)) = true := by rw [beq_iff_eq]; omega
              have p4 : (m : Int) ≤ (d : Int) + 1 := by omega
              have hq := HWC.out
              rw [HI.out.remove0 hlt2] at hq
              try simp only at hq
              have HQ := Lib.hid hq
              have HD := Lib.hid hlt2
              have hcond : decide (m ≤ d) = false := by simp; omega
              have HCO := Lib.hid hcond
              clear hq hcond hlt2 hd hlast
              go_wp2_with (first
                | (go_at_call 12; (with_reducible refine (HWY.out _).mono ?_); rintro e W ⟨rfl, rfl⟩)
                | (go_at_call 23; (with_reducible refine HQ.out.mono ?_); rintro e W4 ⟨rfl, hv4, hm4⟩; have hde := HDE.out _ _ _ _ hv4 HI.out; rw [HCO.out] at hde; have HDD := Lib.hid hde; clear hde)
                | (go_at_call 21; (with_reducible refine HDD.out.1.mono ?_); rintro e W ⟨rfl, rfl⟩)
                | (go_at_call 24; (with_reducible refine HDD.out.2.mono ?_); rintro e W ⟨rfl, rfl⟩))
              go_roundw
              case rel => exact ⟨k + 1, d, false, _, by have := H2.out; omega, by have := H1.out; omega, by go_num, by first | rfl | go_num, rfl, hv4, HLD.out, HI.out, HMO.out.trans (hm4)⟩
              case measure => have := H2.out; simp [intOf]; omega
            · have p3 : ((d : Int) + 1 == (m : Int)) = false := by rw [beq_eq_false_iff_ne]; omega
              have p4 : ¬ (m : Int) ≤ (d : Int) + 1 := by omega
              have hq := HWC.out
              rw [HI.out.remove0 hlt2] at hq
              try simp only at hq
              have HQ := Lib.hid hq
              have HD := Lib.hid hlt2
              have hcond : decide (m ≤ d) = false := by simp; omega
              have HCO := Lib.hid hcond
              clear hq hcond hlt2 hd hlast
              go_wp2_with (first
                | (go_at_call 12; (with_reducible refine (HWY.out _).mono ?_); rintro e W ⟨rfl, rfl⟩)
                | (go_at_call 23; (with_reducible refine HQ.out.mono ?_); rintro e W4 ⟨rfl, hv4, hm4⟩; have hde := HDE.out _ _ _ _ hv4 HI.out; rw [HCO.out] at hde; have HDD := Lib.hid hde; clear hde)
                | (go_at_call 21; (with_reducible refine HDD.out.1.mono ?_); rintro e W ⟨rfl, rfl⟩)
                | (go_at_call 24; (with_reducible refine HDD.out.2.mono ?_); rintro e W ⟨rfl, rfl⟩))
              go_roundw
              case rel => exact ⟨k + 1, d, false, _, by have := H2.out; omega, by have := H1.out; omega, by go_num, by first | rfl | go_num, rfl, hv4, HLD.out, HI.out, HMO.out.trans (hm4)⟩
              case measure => have := H2.out; simp [intOf]; omega
      · cases is with
        | true =>
          by_cases hd : m ≤ d
          · have p1 : (m : Int) ≤ (d : Int) := by omega
            have p2 : ¬ (d : Int) < (m : Int) := by omega
            have hq := HWD.out
            rw [dead_write (is_dead HI.out hd)] at hq
            try simp only at hq
            have HQ := Lib.hid hq
            have HD := Lib.hid hd
            have hcond : decide (m ≤ d) = true := by simp; omega
            have HCO := Lib.hid hcond
            clear hq hcond hd
            go_wp2_with (first
              | (go_at_call 12; (with_reducible refine (HWY.out _).mono ?_); rintro e W ⟨rfl, rfl⟩)
              | (go_at_call 18; (with_reducible refine HQ.out.mono ?_); rintro e W4 ⟨rfl, hv4, hm4⟩; have hde := HDE.out _ _ _ _ hv4 HI.out; rw [HCO.out] at hde; have HDD := Lib.hid hde; clear hde)
              | (go_at_call 21; (with_reducible refine HDD.out.1.mono ?_); rintro e W ⟨rfl, rfl⟩)
              | (go_at_call 24; (with_reducible refine HDD.out.2.mono ?_); rintro e W ⟨rfl, rfl⟩))
            go_roundw
            case rel => exact ⟨k + 1, d, true, _, by have := H2.out; omega, by have := H1.out; omega, by go_num, by first | rfl | go_num, rfl, hv4, HLD.out, HI.out, HMO.out.trans ((Mo.of ((Below.refl _ _).alloc (Nat.le_refl _) _)).trans hm4)⟩
            case measure => have := H2.out; simp [intOf]; omega
          · have hlt2 : d < m := by omega
            have p1 : ¬ (m : Int) ≤ (d : Int) := by omega
            have p2 : (d : Int) < (m : Int) := by omega
            by_cases hlast : d + 1 = m
            · have p3 : ((d : Int) + 1 == (m : Int)) = true := by rw [beq_iff_eq]; omega
              have p4 : (m : Int) ≤ (d : Int) + 1 := by omega
              have hq := HWD.out
              rw [HI.out.full hlt2] at hq
              try simp only at hq
              have HQ := Lib.hid hq
              have HD := Lib.hid hlt2
              have hcond : decide (m ≤ d) = false := by simp; omega
              have HCO := Lib.hid hcond
              clear hq hcond hlt2 hd hlast
              go_wp2_with (first
                | (go_at_call 12; (with_reducible refine (HWY.out _).mono ?_); rintro e W ⟨rfl, rfl⟩)
                | (go_at_call 18; (with_reducible refine HQ.out.mono ?_); rintro e W4 ⟨rfl, hv4, hm4⟩; have hde := HDE.out _ _ _ _ hv4 HI.out; rw [HCO.out] at hde; have HDD := Lib.hid hde; clear hde)
                | (go_at_call 21; (with_reducible refine HDD.out.1.mono ?_); rintro e W ⟨rfl, rfl⟩)
                | (go_at_call 24; (with_reducible refine HDD.out.2.mono ?_); rintro e W ⟨rfl, rfl⟩))
              go_roundw
              case rel => exact ⟨k + 1, d, true, _, by have := H2.out; omega, by have := H1.out; omega, by go_num, by first | rfl | go_num, rfl, hv4, HLD.out, HI.out, HMO.out.trans ((Mo.of ((Below.refl _ _).alloc (Nat.le_refl _) _)).trans hm4)⟩
              case measure => have := H2.out; simp [intOf]; omega
            · have p3 : ((d : Int) + 1 == (m : Int)) = false := by rw [beq_eq_false_iff_ne]; omega
              have p4 : ¬ (m : Int) ≤ (d : Int) + 1 := by omega
              have hq := HWD.out
              rw [HI.out.full hlt2] at hq
              try simp only at hq
              have HQ := Lib.hid hq
              have HD := Lib.hid hlt2
              have hcond : decide (m ≤ d) = false := by simp; omega
              have HCO := Lib.hid hcond
              clear hq hcond hlt2 hd hlast
              go_wp2_with (first
                | (go_at_call 12; (with_reducible refine (HWY.out _).mono ?_); rintro e W ⟨rfl, rfl⟩)
                | (go_at_call 18; (with_reducible refine HQ.out.mono ?_); rintro e W4 ⟨rfl, hv4, hm4⟩; have hde := HDE.out _ _ _ _ hv4 HI.out; rw [HCO.out] at hde; have HDD := Lib.hid hde; clear hde)
                | (go_at_call 21; (with_reducible refine HDD.out.1.mono ?_); rintro e W ⟨rfl, rfl⟩)
                | (go_at_call 24; (with_reducible refine HDD.out.2.mono ?_); rintro e W ⟨rfl, rfl⟩))
              go_roundw
              case rel => exact ⟨k + 1, d, true, _, by have := H2.out; omega, by have := H1.out; omega, by go_num, by first | rfl | go_num, rfl, hv4, HLD.out, HI.out, HMO.out.trans ((Mo.of ((Below.refl _ _).alloc (Nat.le_refl _) _)).trans hm4)⟩
              case measure => have := H2.out; simp [intOf]; omega
        | false =>
          by_cases hd : m ≤ d
          · have p1 : (m : Int) ≤ (d : Int) := by omega
            have p2 : ¬ (d : Int) < (m : Int) := by omega
            have hq := HWD.out
            rw [dead_write (is_dead HI.out hd)] at hq
            try simp only at hq
            have HQ := Lib.hid hq
            have HD := Lib.hid hd
            have hcond : decide (m ≤ d) = true := by simp; omega
            have HCO := Lib.hid hcond
            clear hq hcond hd
            go_wp2_with (first
              | (go_at_call 12; (with_reducible refine (HWY.out _).mono ?_); rintro e W ⟨rfl, rfl⟩)
              | (go_at_call 18; (with_reducible refine HQ.out.mono ?_); rintro e W4 ⟨rfl, hv4, hm4⟩; have hde := HDE.out _ _ _ _ hv4 HI.out; rw [HCO.out] at hde; have HDD := Lib.hid hde; clear hde)
              | (go_at_call 21; (with_reducible refine HDD.out.1.mono ?_); rintro e W ⟨rfl, rfl⟩)
              | (go_at_call 24; (with_reducible refine HDD.out.2.mono ?_); rintro e W ⟨rfl, rfl⟩))
            go_roundw
            case rel => exact ⟨k + 1, d, false, _, by have := H2.out; omega, by have := H1.out; omega, by go_num, by first | rfl | go_num, rfl, hv4, HLD.out, HI.out, HMO.out.trans ((Mo.of ((Below.refl _ _).alloc (Nat.le_refl _) _)).trans hm4)⟩
            case measure => have := H2.out; simp [intOf]; omega
          · have hlt2 : d < m := by omega
            have p1 : ¬ (m : Int) ≤ (d : Int) := by omega
            have p2 : (d : Int) < (m : Int) := by omega
            by_cases hlast : d + 1 = m
            · have p3 : ((d : Int) + 1 == (m : Int)) = true := by rw [beq_iff_eq]; omega
              have p4 : (m : Int) ≤ (d : Int) + 1 := by omega
              have hq := HWD.out
              rw [HI.out.full hlt2] at hq
              try simp only at hq
              have HQ := Lib.hid hq
              have HD := Lib.hid hlt2
              have hcond : decide (m ≤ d) = false := by simp; omega
              have HCO := Lib.hid hcond
              clear hq hcond hlt2 hd hlast
              go_wp2_with (first
                | (go_at_call 12; (with_reducible refine (HWY.out _).mono ?_); rintro e W ⟨rfl, rfl⟩)
                | (go_at_call 18; (with_reducible refine HQ.out.mono ?_); rintro e W4 ⟨rfl, hv4, hm4⟩; have hde := HDE.out _ _ _ _ hv4 HI.out; rw [HCO.out] at hde; have HDD := Lib.hid hde; clear hde)
                | (go_at_call 21; (with_reducible refine HDD.out.1.mono ?_); rintro e W ⟨rfl, rfl⟩)
                | (go_at_call 24; (with_reducible refine HDD.out.2.mono ?_); rintro e W ⟨rfl, rfl⟩))
              go_roundw
              case rel => exact ⟨k + 1, d, false, _, by have := H2.out; omega, by have := H1.out; omega, by go_num, by first | rfl | go_num, rfl, hv4, HLD.out, HI.out, HMO.out.trans ((Mo.of ((Below.refl _ _).alloc (Nat.le_refl _) _)).trans hm4)⟩
              case measure => have := H2.out; simp [intOf]; omega
            · have p3 : ((d : Int) + 1 == (m : Int)) = false := by rw [beq_eq_false_iff_ne]; omega
              have p4 : ¬ (m : Int) ≤ (d : Int) + 1 := by omega
              have hq := HWD.out
              rw [HI.out.full hlt2] at hq
              try simp only at hq
              have HQ := Lib.hid hq
              have HD := Lib.hid hlt2
              have hcond : decide (m ≤ d) = false := by simp; omega
              have HCO := Lib.hid hcond
              clear hq hcond hlt2 hd hlast
              go_wp2_with (first
                | (go_at_call 12; (with_reducible refine (HWY.out _).mono ?_); rintro e W ⟨rfl, rfl⟩)
                | (go_at_call 18; (with_reducible refine HQ.out.mono ?_); rintro e W4 ⟨rfl, hv4, hm4⟩; have hde := HDE.out _ _ _ _ hv4 HI.out; rw [HCO.out] at hde; have HDD := Lib.hid hde; clear hde)
                | (go_at_call 21; (with_reducible refine HDD.out.1.mono ?_); rintro e W ⟨rfl, rfl⟩)
                | (go_at_call 24; (with_reducible refine HDD.out.2.mono ?_); rintro e W ⟨rfl, rfl⟩))
              go_roundw
              case rel => exact ⟨k + 1, d, false, _, by have := H2.out; omega, by have := H1.out; omega, by go_num, by first | rfl | go_num, rfl, hv4, HLD.out, HI.out, HMO.out.trans ((Mo.of ((Below.refl _ _).alloc (Nat.le_refl _) _)).trans hm4)⟩
              case measure => have := H2.out; simp [intOf]; omega
    · have hcr := crash_any (ck := 0) HV.out HL.out (by have := HK.out; omega) (sti_nil wr W2.heap.size W1.heap.size)
      have hfl : ∀ W, Vp W W2.heap.size W1.heap.size (V.crash []) → (Calls Try.prog 21 #[.pointer (some ⟨W1.heap.size, 0, none⟩)] W fun e w' => e = .returned (.bool false) ∧ W = w') ∧ Calls Try.prog 17 #[.pointer (some ⟨W1.heap.size, 0, none⟩)] W (Did (.int .i64 0) (V.crash []).flush.2 W2.heap.size W1.heap.size W) := fun W h => by
        have h2 := flush_any h (HL.out.crash []) (by have := HK.out; omega)
        rw [crash_flush] at h2
        exact ⟨dead_any h, h2⟩
      have HCR := Lib.hid hcr
      have HFL := Lib.hid hfl
      have hdis : (n : Int) ≤ (k : Int) ∨ ((k : Int) < (n : Int) ∧ (30 : Int) ≤ (k : Int)) := by omega
      clear hlt hcr hfl
      rcases hdis with q1 | ⟨q1, q2⟩
      all_goals
        go_wp2_with (first
          | (go_at_call 19; (with_reducible refine HCR.out.mono ?_); rintro e W5 ⟨rfl, hv5, hm5⟩; have HV5 := Lib.hid hv5; have HM5 := Lib.hid hm5; clear hv5 hm5)
          | (go_at_call 21; (with_reducible refine (HFL.out _ HV5.out).1.mono ?_); rintro e W ⟨rfl, rfl⟩)
          | (go_at_call 17; (with_reducible refine (HFL.out _ HV5.out).2.mono ?_); rintro e W6 ⟨rfl, hv6, hm6⟩; have HM6 := Lib.hid hm6; clear hv6 hm6))
        go_ret
        exact ⟨rfl, HC.out _ ((HMO.out.trans HM5.out).trans HM6.out)⟩
end Go.Proofs.Ytaokoejedpbejaa.Vf
