/- VfsStays, walked. No conditions. -/
import Derived.Test.YtpaaafdnkehmfaaVfStaysM
import Derived.BigQuiet
import Derived.Deep.Cut
import Derived.Deep.CutRange
namespace Go.Proofs.Ytpaaafdnkehmfaa.Vf
open Go.RowKit
set_option maxRecDepth 100000

def st (o : Option BS) : ByteArray := ⟨(o.getD []).toArray⟩
def bxS (wt : Nat → Option BS) : List Value := [.string (st (wt 0)), .string (st (wt 1)), .string (st (wt 2))]
def bxI (wt : Nat → Option BS) : List Value := [.bool (wt 0).isSome, .bool (wt 1).isSome, .bool (wt 2).isSome]
theorem bxS_get (wt : Nat → Option BS) {j : Nat} (hj : j < 3) : (bxS wt)[j]? = some (.string (st (wt j))) := by
  have h : j = 0 ∨ j = 1 ∨ j = 2 := by omega
  rcases h with rfl | rfl | rfl <;> rfl
theorem bxI_get (wt : Nat → Option BS) {j : Nat} (hj : j < 3) : (bxI wt)[j]? = some (.bool (wt j).isSome) := by
  have h : j = 0 ∨ j = 1 ∨ j = 2 := by omega
  rcases h with rfl | rfl | rfl <;> rfl
theorem bxS_up1 (wt : Nat → Option BS) {q : Nat} (hq : q < 3) (b : BS) : (bxS wt).set q (.string ⟨b.toArray⟩) = bxS (upW wt q 1 b) := by
  have h : q = 0 ∨ q = 1 ∨ q = 2 := by omega
  rcases h with rfl | rfl | rfl <;> simp [bxS, upW, st]
theorem bxI_up1 (wt : Nat → Option BS) {q : Nat} (hq : q < 3) (b : BS) : (bxI wt).set q (.bool true) = bxI (upW wt q 1 b) := by
  have h : q = 0 ∨ q = 1 ∨ q = 2 := by omega
  rcases h with rfl | rfl | rfl <;> simp [bxI, upW]
theorem bxS_up2 (wt : Nat → Option BS) {q : Nat} (hq : q < 3) (b : BS) : (bxS wt).set q (.string ⟨(half b).toArray⟩) = bxS (upW wt q 2 b) := by
  have h : q = 0 ∨ q = 1 ∨ q = 2 := by omega
  rcases h with rfl | rfl | rfl <;> simp [bxS, upW, st]
theorem bxI_up2 (wt : Nat → Option BS) {q : Nat} (hq : q < 3) (b : BS) : (bxI wt).set q (.bool true) = bxI (upW wt q 2 b) := by
  have h : q = 0 ∨ q = 1 ∨ q = 2 := by omega
  rcases h with rfl | rfl | rfl <;> simp [bxI, upW]
theorem upW_none (wt : Nat → Option BS) (q : Nat) (how : Int) (b : BS) (h1 : how ≠ 1) (h2 : how ≠ 2) : upW wt q how b = wt := by
  funext j
  unfold upW
  rw [if_neg h1, if_neg h2]
  split
  · rename_i e; rw [e]
  · rfl
/-- Ahead of the flush, or behind it. -/
def SI (V : Vm) (i z : Nat) (ks : List Int) (wt : Nat → Option BS) : Prop := if i ≤ z then SA V i wt else SC V i (i - z) ks wt

structure SJ (V : Vm) (i z : Nat) (ks : List Int) (wt : Nat → Option BS) : Prop where
  a : i < z → SA V i wt
  c : z ≤ i → SC V i (i - z) ks wt
def howOf (i z : Nat) (ks : List Int) : Int := if z ≤ i then ks.getD (i - z) 0 else 1
theorem SI.ne {V : Vm} {i z : Nat} {ks : List Int} {wt : Nat → Option BS} (h : SI V i z ks wt) (hne : i ≠ z) : SJ V i z ks wt :=
  ⟨fun g => by unfold SI at h; rwa [if_pos (by omega)] at h, fun g => by unfold SI at h; rwa [if_neg (by omega)] at h⟩
theorem SI.eq {V : Vm} {i z : Nat} {ks : List Int} {wt : Nat → Option BS} (h : SI V i z ks wt) (he : i = z) : V.flush.1 = 0 ∧ SJ V.flush.2 i z ks wt := by
  unfold SI at h
  rw [if_pos (by omega)] at h
  have h2 := h.flush ks
  exact ⟨h2.1, fun g => by omega, fun _ => by rw [show i - z = 0 by omega]; exact h2.2⟩
theorem SJ.write {V : Vm} {i z N : Nat} {ks : List Int} {wt : Nat → Option BS} (h : SJ V i z ks wt) (hl : Lim V N) {q : Nat} (hq : q < 3) (hi : i < 15) {b : BS} (hb : b.length ≤ 200) :
    V.write (nmR q).data.toList b = (0, V.does (nmR q).data.toList (some b)) ∧ SI (V.does (nmR q).data.toList (some b)) (i + 1) z ks (upW wt q (howOf i z ks) b) := by
  unfold SI howOf
  by_cases g : z ≤ i
  · have h2 := h.c g
    refine ⟨(h2.toSB.write hl hi hb).1, ?_⟩
    rw [if_neg (by omega), if_pos g, show i + 1 - z = i - z + 1 by omega]
    exact h2.write hl hq hi hb
  · have h2 := h.a (by omega)
    refine ⟨(h2.toSB.write hl hi hb).1, ?_⟩
    rw [if_pos (by omega), if_neg g]
    exact h2.write hl hq hi hb

set_option maxHeartbeats 8000000 in
theorem vfsStays_walk (A0 : Option Addr) (n0 c0 : Nat) (l0 : List Bf) (A1 : Option Addr) (n1 c1 : Nat) (l1 : List Int) (a : Int) (A3 : Option Addr) (n3 c3 : Nat) (l3 : List Int) (w : World)
    (hS0 : BRow w w.heap.size A0 n0 l0) (hS1 : SeesV w w.heap.size A1 n1 (l1.map (Value.int .i64))) (hr1 : ∀ x ∈ l1, -9223372036854775808 ≤ x ∧ x ≤ 9223372036854775807) (ha : -9223372036854775808 ≤ a ∧ a ≤ 9223372036854775807) (hS3 : SeesV w w.heap.size A3 n3 (l3.map (Value.int .i64))) :
    Calls Try.prog 4 #[.slice A0 n0 c0, .slice A1 n1 c1, .int .i64 a, .slice A3 n3 c3] w fun e w' => e = .returned (.bool true) ∧ Below w.heap.size w w' := by
  by_cases hbig : 15 < n0
  · have q0 : (15 : Int) < (n0 : Int) := by omega
    clear hS0 hS1 hr1 ha hS3 hbig
    go_enter Try.func4, Try.ntmps4
    go_wp2_with (go_at_call 11; (with_reducible refine (known_any _).mono ?_); rintro e W1 ⟨rfl, hb1⟩)
    go_ret
    exact ⟨rfl, hb1⟩
  have q0 : ¬ (15 : Int) < (n0 : Int) := by omega
  obtain ⟨z, hz, hwz⟩ : ∃ z : Nat, z < n0 + 1 ∧ ∀ w : World, Calls Try.prog 13 #[.int .i64 a, .int .i64 ((n0 : Int) + 1)] w fun e w' => e = .returned (.int .i64 (z : Int)) ∧ w = w' := by
    rw [show (n0 : Int) + 1 = ((n0 + 1 : Nat) : Int) by omega]
    obtain ⟨k, h1, _, h2⟩ := within_nat a (n0 + 1) (by omega) (by omega) ha.1 ha.2
    exact ⟨k, h1, h2⟩
  have HS0 := Lib.hid hS0
  have HS1 := Lib.hid hS1
  have HR1 := Lib.hid hr1
  have HS3 := Lib.hid hS3
  have HZ := Lib.hid hz
  have HWZ := Lib.hid hwz
  have HN0 := Lib.hid hbig
  clear hS0 hS1 hr1 ha hS3 hbig hz hwz
  go_enter Try.func4, Try.ntmps4
  go_upto_region 8 with (first
    | (go_at_call 11; (with_reducible refine (known_any _).mono ?_); rintro e W1 ⟨rfl, hb1⟩; have HB1 := Lib.hid hb1; clear hb1)
    | (go_at_call 14; (with_reducible refine (new_any _ W1).mono ?_); rintro e W2 ⟨rfl, hbx2, hb2, hz2⟩; have HBX2 := Lib.hid hbx2; have HB2 := Lib.hid hb2; have HZ2 := Lib.hid hz2; clear hbx2 hb2 hz2))
  obtain ⟨W3, hW3⟩ : ∃ W, W = W2.alloc (Obj.cells #[Value.string ⟨#[]⟩, Value.string ⟨#[]⟩, Value.string ⟨#[]⟩] 37) := ⟨_, rfl⟩
  have hz3 : W3.heap.size = W2.heap.size + 1 := by rw [hW3]; exact Array.size_push ..
  rw [← hz3]
  rw [← hW3]
  obtain ⟨W4, hW4⟩ : ∃ W, W = W3.alloc (Obj.cells #[Value.bool false, Value.bool false, Value.bool false] 38) := ⟨_, rfl⟩
  rw [← hW4]
  have hb3 : Below W2.heap.size W2 W3 := by rw [hW3]; exact (Below.refl _ _).alloc (Nat.le_refl _) _
  have hb4 : Below W3.heap.size W3 W4 := by rw [hW4]; exact (Below.refl _ _).alloc (Nat.le_refl _) _
  have hz4 : W4.heap.size = W3.heap.size + 1 := by rw [hW4]; exact Array.size_push ..
  have hg3 : Bx W3 W2.heap.size (bxS fun _ => none) 37 := by rw [hW3]; exact Bx.new W2 _ _
  have hg4 : Bx W4 W3.heap.size (bxI fun _ => none) 38 := by rw [hW4]; exact Bx.new W3 _ _
  have hb24 : Below W2.heap.size W2 W4 := hb3.trans (hb4.mono hb3.size)
  have hv4 := Vp.fresh (B := W4.heap.size) (HBX2.out.below hb24 HBX2.out.lt) (by have := HBX2.out.lt; omega) (Nat.le_refl _)
  have hbw4 : Below w.heap.size w W4 := (HB1.out.trans (HB2.out.mono HB1.out.size)).trans (hb24.mono (Nat.le_trans HB1.out.size HB2.out.size))
  have HV4 := Lib.hid hv4
  have HG3 := Lib.hid (hg3.below hb4 (by omega))
  have HG4 := Lib.hid hg4
  have HZ3 := Lib.hid hz3
  have HZ4 := Lib.hid hz4
  have HBW4 := Lib.hid hbw4
  clear hb3 hb4 hz3 hz4 hg3 hg4 hb24 hv4 hbw4 hW3 hW4
  go_wp2_with (go_at_call 13; (with_reducible refine (HWZ.out _).mono ?_); rintro e W ⟨rfl, rfl⟩)
  go_loopw [12] (fun kv wr => ∃ (i : Nat) (wt : Nat → Option BS) (V : Vm), i ≤ n0 ∧ kv = .int .i64 (i : Int) ∧ Vp wr W4.heap.size W1.heap.size V ∧ Lim V (i * 300) ∧ SI V i z l3 wt ∧ Bx wr W2.heap.size (bxS wt) 37 ∧ Bx wr W3.heap.size (bxI wt) 38 ∧ Below w.heap.size w wr) (fun kv _ => n0 - (intOf kv).toNat)
  case atStart => exact ⟨0, fun _ => none, Vm.new 10000, Nat.zero_le _, rfl, HV4.out, Lim.new 10000, by unfold SI; rw [if_pos (Nat.zero_le _)]; exact SA.new, HG3.out, HG4.out, HBW4.out⟩
  case round =>
    obtain ⟨i, wt, V, hi, rfl, hv, hl, hI, hgs, hgi, hbw⟩ := hrel
    have HV := Lib.hid hv
    have HL := Lib.hid hl
    have HI := Lib.hid hI
    have HGS := Lib.hid hgs
    have HGI := Lib.hid hgi
    have HBW := Lib.hid hbw
    have HIN := Lib.hid hi
    clear hv hl hI hgs hgi hbw hi
    by_cases hlt : i < n0
    · have q1 : (i : Int) < (n0 : Int) := by omega
      have k0 : (0 : Int) ≤ (i : Int) := by omega
      have hil : i < l0.length := by have := HS0.out.len; omega
      obtain ⟨b, hb⟩ : ∃ b, b = l0[i] := ⟨_, rfl⟩
      obtain ⟨ab, ao, rfl, hab, hcell⟩ := (HS0.out.below HBW.out).cell i b (by rw [hb]; exact List.getElem?_eq_getElem hil)
      obtain ⟨hsb, hbc1, hbc2⟩ := HS0.out.row b (by rw [hb]; exact List.getElem_mem hil)
      have HLT := Lib.hid hlt
      have HBI := Lib.hid (show l0[i]? = some b by rw [hb]; exact List.getElem?_eq_getElem hil)
      have HSB := Lib.hid hsb
      clear hlt hil hb hab hsb hbc1 hbc2
      by_cases h200 : 200 < b.n
      · have q2 : (200 : Int) < (b.n : Int) := by omega
        clear h200
        go_wp2_with fail
        go_ret
        exact ⟨rfl, HBW.out⟩
      have q2 : ¬ (200 : Int) < (b.n : Int) := by omega
      have hbl : b.l.length ≤ 200 := by have := HSB.out.len; omega
      have HBL := Lib.hid hbl
      clear h200 hbl
      have r1 : (i : Int).tmod 3 = ((i % 3 : Nat) : Int) := by rw [Int.tmod_eq_emod_of_nonneg (by omega)]; omega
      have r2 : wrap64 (((i % 3 : Nat) : Int)) = ((i % 3 : Nat) : Int) := by unfold wrap64; omega
      go_upto_region 14 with fail
      go_cut [49] from 30 to 115 (fun s wx => s = .bool false ∧ ∃ V5, Hid (Vp wx W4.heap.size W1.heap.size V5) ∧ Hid (SJ V5 i z l3 wt) ∧ Hid (Lim V5 (i * 300 + 1)) ∧ Hid (Mo W4.heap.size W1.heap.size wr wx))
      case first =>
        by_cases hiz : i = z
        · have p2 : ((i : Int) == (z : Int)) = true := by rw [beq_iff_eq]; omega
          obtain ⟨hf0, hsj⟩ := HI.out.eq hiz
          have hfl := flush_any HV.out HL.out (by have := HLT.out; have := HN0.out; omega)
          rw [hf0] at hfl
          have HFL := Lib.hid hfl
          have HSJ := Lib.hid hsj
          clear hfl hsj hf0 hiz
          go_wp2_with (go_at_call 18; (with_reducible refine HFL.out.mono ?_); rintro e W5 ⟨rfl, hv5, hm5⟩; have HV5 := Lib.hid hv5; have HM5 := Lib.hid hm5; clear hv5 hm5)
          go_meet
          exact ⟨rfl, _, HV5, HSJ, Lib.hid HL.out.flush, HM5⟩
        · have p1 : ¬ (i : Int) = (z : Int) := by omega
          have p2 : ((i : Int) == (z : Int)) = false := by rw [beq_eq_false_iff_ne]; exact p1
          have HSJ := Lib.hid (HI.out.ne hiz)
          clear hiz
          go_wp2_with fail
          go_meet
          exact ⟨rfl, _, HV, HSJ, Lib.hid (HL.out.more (M := i * 300 + 1) (by omega)), Lib.hid (Mo.refl _ _ _)⟩
      case rest =>
        obtain ⟨rfl, V5, HV5, HSJ, HL5, HM5⟩ := hcut
        obtain ⟨W5, hW5⟩ : ∃ W, W = wc := ⟨_, rfl⟩
        rw [← hW5] at HV5 HM5 ⊢
        clear hW5
        have hbw5 : Below w.heap.size w W5 := HBW.out.trans (HM5.out.below (by have := HBW4.out.size; omega) HB1.out.size HBW.out.size)
        have HGS5 := Lib.hid (HGS.out.mo HM5.out (by have := HBX2.out.lt; omega) (by have := HZ3.out; have := HZ4.out; omega))
        have HGI5 := Lib.hid (HGI.out.mo HM5.out (by have := HBX2.out.lt; have := HZ3.out; omega) (by have := HZ4.out; omega))
        have HBW5 := Lib.hid hbw5
        by_cases hn1 : i < n1
        · have q3 : (i : Int) < (n1 : Int) := by omega
          obtain ⟨b1, o1, rfl, hb1, hcell1⟩ := (HS1.out.below hbw5).int hn1
          have hkl : i < l1.length := by have := HS1.out.len; rw [List.length_map] at this; omega
          have hget : l1.getD i 0 = l1[i] := by simp [List.getD, List.getElem?_eq_getElem hkl]
          have hss := HR1.out l1[i] (List.getElem_mem hkl)
          rw [hget] at hcell1
          obtain ⟨y, hy⟩ : ∃ y, y = l1[i] := ⟨_, rfl⟩
          rw [← hy] at hcell1 hss
          obtain ⟨q, hq, hwq⟩ : ∃ q : Nat, q < 3 ∧ ∀ w : World, Calls Try.prog 13 #[.int .i64 y, .int .i64 3] w fun e w' => e = .returned (.int .i64 (q : Int)) ∧ w = w' := by
            obtain ⟨k, h1, _, h2⟩ := within_nat y 3 (by decide) (by decide) hss.1 hss.2
            exact ⟨k, h1, h2⟩
          have HQ := Lib.hid hq
          have HWQ := Lib.hid hwq
          clear hss hget hy hkl hb1 hn1 hq hwq hbw5
          go_upto_region 19 with (go_at_call 13; (with_reducible refine (HWQ.out _).mono ?_); rintro e W ⟨rfl, rfl⟩)
          clear hcell1 r1 r2
          have hsz : (W5.alloc (Obj.cells #[Value.string ⟨#[97]⟩, Value.string ⟨#[98]⟩, Value.string ⟨#[99]⟩] 9)).heap.size = W5.heap.size + 1 := Array.size_push ..
          have hb5a : Below W5.heap.size W5 ((W5.alloc (Obj.cells #[Value.string ⟨#[97]⟩, Value.string ⟨#[98]⟩, Value.string ⟨#[99]⟩] 9)).drew) := by
            have h := (Below.refl W5.heap.size W5).alloc (Nat.le_refl _) (Obj.cells #[Value.string ⟨#[97]⟩, Value.string ⟨#[98]⟩, Value.string ⟨#[99]⟩] 9)
            exact ⟨h.os, h.tape, h.output, h.size, h.block⟩
          have hbw5 := HBW5.out
          have hsw := HSJ.out.write HL5.out HQ.out (by have := HLT.out; have := HN0.out; omega) HBL.out
          have hlm := HL5.out.does (nmR q).data.toList (some b.l)
          obtain ⟨V6, hV6⟩ : ∃ x, x = V5.does (nmR q).data.toList (some b.l) := ⟨_, rfl⟩
          rw [← hV6] at hsw hlm
          have hl6 := hlm.more (M := (i + 1) * 300) (by have := HBL.out; show i * 300 + 1 + (1 + b.l.length + 1) ≤ _; omega)
          have hwx := write_any (s := nmR q) (c := b.c) (HV5.out.below hb5a) HL5.out (((HSB.out.below (hbw5.trans (hb5a.mono hbw5.size))).more (Nat.le_trans hbw5.size hb5a.size))) (show 1 ≤ maxLen by decide) (by have := HBL.out; have := HLT.out; have := HN0.out; omega)
          rw [hsw.1] at hwx
          have hcs : (W5.alloc (Obj.cells #[Value.string ⟨#[97]⟩, Value.string ⟨#[98]⟩, Value.string ⟨#[99]⟩] 9)).cell? ⟨W5.heap.size, q, none⟩ = some (.string (nmR q)) := by
            rw [cell_of_row _ _ _ _ _ _ (heap_alloc_new W5 _)]
            have h : q = 0 ∨ q = 1 ∨ q = 2 := by have := HQ.out; omega
            rcases h with rfl | rfl | rfl <;> rfl
          obtain ⟨ab2, ao2, eab, hab2, hcell5⟩ := (HS0.out.below hbw5).cell i b HBI.out
          cases eab
          have hcell6 : (W5.alloc (Obj.cells #[Value.string ⟨#[97]⟩, Value.string ⟨#[98]⟩, Value.string ⟨#[99]⟩] 9)).cell? ⟨ab, ao + i, none⟩ = some (.slice b.A b.n b.c) := (((Below.refl W5.heap.size W5).alloc (Nat.le_refl _) _).cell (p := ⟨ab, ao + i, none⟩) (Nat.lt_of_lt_of_le hab2 hbw5.size)).trans hcell5
          have p4 : (q : Int) < 3 := by have := HQ.out; omega
          have p5 : (0 : Int) ≤ (q : Int) := by omega
          have HWX := Lib.hid hwx
          have HI6 := Lib.hid hsw.2
          have HL6 := Lib.hid hl6
          have HB5A := Lib.hid hb5a
          clear hwx hsw hl6 hlm hV6 hb5a hsz hbw5 hab2
          go_cut [71] from 30 to 115 (fun s wx => s = .bool false ∧ Hid (Vp wx W4.heap.size W1.heap.size V6) ∧ Hid (Bx wx W2.heap.size (bxS wt) 37) ∧ Hid (Bx wx W3.heap.size (bxI wt) 38) ∧ Hid (Below w.heap.size w wx))
          case first =>
            go_region_with (go_at_call 19; (with_reducible refine HWX.out.mono ?_); rintro e W6 ⟨rfl, hv6, hm6⟩; have HV6 := Lib.hid hv6; have HM6 := Lib.hid hm6; clear hv6 hm6)
            all_goals (
              go_wp2_with fail
              go_meet
              exact ⟨rfl, HV6, Lib.hid ((HGS5.out.below HB5A.out HGS5.out.lt).mo HM6.out (by have := HBX2.out.lt; omega) (by have := HZ3.out; have := HZ4.out; omega)), Lib.hid ((HGI5.out.below HB5A.out HGI5.out.lt).mo HM6.out (by have := HBX2.out.lt; have := HZ3.out; omega) (by have := HZ4.out; omega)), Lib.hid ((HBW5.out.trans (HB5A.out.mono HBW5.out.size)).trans (HM6.out.below HBW4.out.size HB1.out.size (Nat.le_trans HBW5.out.size HB5A.out.size)))⟩)
          case rest =>
            obtain ⟨rfl, HV6, HGS6, HGI6, HB6⟩ := hcut
            clear hcs p4 p5 hcell6 hcell5
            by_cases hzi : z ≤ i
            · have p6 : (z : Int) ≤ (i : Int) := by omega
              have hin : i < 15 := by have := HLT.out; have := HN0.out; omega
              have hln : l3.length = n3 := by have := HS3.out.len; rw [List.length_map] at this; omega
              by_cases hdn : i - z < n3
              · have p8 : (i : Int) - (z : Int) < (n3 : Int) := by omega
                have p9 : (0 : Int) ≤ (i : Int) - (z : Int) := by omega
                have p10 : ((i : Int) - (z : Int)).toNat = i - z := by omega
                obtain ⟨b3, o3, rfl, hb3l, hcell3⟩ := (HS3.out.below HB6.out).int hdn
                obtain ⟨y3, hy3⟩ : ∃ y, y = l3.getD (i - z) 0 := ⟨_, rfl⟩
                rw [← hy3] at hcell3
                have HY3 := Lib.hid (show howOf i z l3 = y3 by unfold howOf; rw [if_pos hzi, hy3])
                clear hy3 hln hb3l hdn hzi
                by_cases h1 : y3 = 1
                · subst h1
                  have hho : howOf i z l3 = 1 := HY3.out
                  have hgs6 := HGS6.out
                  have hgi6 := HGI6.out
                  have r1 := (hgs6.cells q).trans (bxS_get wt HQ.out)
                  have r2 := (hgi6.cells q).trans (bxI_get wt HQ.out)
                  have f1 := hgs6.free q
                  have f2 := hgi6.free q
                  obtain ⟨ab3, ao3, eab3, hab3, hc6⟩ := (HS0.out.below HB6.out).cell i b HBI.out
                  cases eab3
                  have qc := text_run (c := b.c) (HSB.out.below HB6.out)
                  generalize hsl : (⟨b.l.toArray⟩ : ByteArray) = sl at qc
                  have gne : W3.heap.size ≠ W2.heap.size := by have := HZ3.out; omega
                  have p4 : (q : Int) < 3 := by have := HQ.out; omega
                  have p5 : (0 : Int) ≤ (q : Int) := by omega
                  have HSL := Lib.hid hsl
                  have HHO := Lib.hid hho
                  generalize st (wt q) = so at r1
                  generalize (wt q).isSome = bo at r2
                  clear hgs6 hgi6 hsl hho hab3
                  go_upto_region 28 with fail
                  obtain ⟨W7, hW7⟩ : ∃ W, W = (wc.setCell ⟨W2.heap.size, q, none⟩ (.string sl)).setCell ⟨W3.heap.size, q, none⟩ (.bool true) := ⟨_, rfl⟩
                  rw [← hW7]
                  have hm7 : Mv wc W7 (fun k => k = W2.heap.size ∨ k = W3.heap.size) := by rw [hW7]; exact (Mv.setCell wc ⟨W2.heap.size, q, none⟩ _).trans (Mv.setCell _ _ _)
                  have hv7 : Vp W7 W4.heap.size W1.heap.size V6 := HV6.out.old (hm7.weak fun x _ e => by have := HZ3.out; have := HZ4.out; have := HBX2.out.lt; rcases e with e | e <;> (rw [e]; exact ⟨by omega, by omega⟩))
                  have hgs7 : Bx W7 W2.heap.size (bxS (upW wt q 1 b.l)) 37 := by
                    have h := HGS6.out.set q (.string sl)
                    rw [← HSL.out, bxS_up1 wt HQ.out] at h
                    rw [hW7, ← HSL.out]
                    exact h.eq ((Mv.setCell _ ⟨W3.heap.size, q, none⟩ _).block _ h.lt (fun e => gne e.symm))
                  have hgi7 : Bx W7 W3.heap.size (bxI (upW wt q 1 b.l)) 38 := by
                    have h := (HGI6.out.eq ((Mv.setCell wc ⟨W2.heap.size, q, none⟩ (.string sl)).block _ HGI6.out.lt (fun e => gne e))).set q (.bool true)
                    rw [bxI_up1 wt HQ.out b.l] at h
                    rw [hW7]
                    exact h
                  have hbw7 : Below w.heap.size w W7 := HB6.out.trans (hm7.toB HB6.out.size fun x e => by have := HZ3.out; have := HB1.out.size; have := HB2.out.size; omega)
                  have hsi7 := HI6.out
                  rw [HHO.out] at hsi7
                  clear hW7 hm7 r1 r2 f1 f2 qc gne p4 p5 hc6
                  have HV7 := Lib.hid hv7
                  have HGS7 := Lib.hid hgs7
                  have HGI7 := Lib.hid hgi7
                  have HBW7 := Lib.hid hbw7
                  have HSI7 := Lib.hid hsi7
                  clear hv7 hgs7 hgi7 hbw7 hsi7

                  go_wp2_with fail
                  go_roundw
                  case rel =>
                    exact ⟨i + 1, upW wt q 1 b.l, V6, by have := HLT.out; omega, by go_num, HV7.out, HL6.out, HSI7.out, HGS7.out, HGI7.out, HBW7.out⟩
                  case measure => have := HLT.out; simp [intOf]; omega
                by_cases h2 : y3 = 2
                · subst h2
                  have hho : howOf i z l3 = 2 := HY3.out
                  have hgs6 := HGS6.out
                  have hgi6 := HGI6.out
                  have r1 := (hgs6.cells q).trans (bxS_get wt HQ.out)
                  have r2 := (hgi6.cells q).trans (bxI_get wt HQ.out)
                  have f1 := hgs6.free q
                  have f2 := hgi6.free q
                  obtain ⟨ab3, ao3, eab3, hab3, hc6⟩ := (HS0.out.below HB6.out).cell i b HBI.out
                  cases eab3
                  have hbn := HSB.out.len
                  have hh : Sees wc w.heap.size b.A (b.n / 2) (half b.l) := by
                    have h := (HSB.out.below HB6.out).take (k := b.n / 2) (by omega)
                    rwa [show b.l.take (b.n / 2) = half b.l from by rw [half, hbn]] at h
                  have qc := text_run (c := b.c) hh
                  have qcd := text_run (c := b.c) hh.drew
                  generalize hsl : (⟨(half b.l).toArray⟩ : ByteArray) = sl at qc qcd
                  have gne : W3.heap.size ≠ W2.heap.size := by have := HZ3.out; omega
                  have p4 : (q : Int) < 3 := by have := HQ.out; omega
                  have p5 : (0 : Int) ≤ (q : Int) := by omega
                  have HSL := Lib.hid hsl
                  have HHO := Lib.hid hho
                  generalize st (wt q) = so at r1
                  generalize (wt q).isSome = bo at r2
                  clear hgs6 hgi6 hsl hho hab3

                  have wq : wrap64 ((b.n : Int) / 2) = ((b.n / 2 : Nat) : Int) := by have := HBL.out; unfold wrap64; omega
                  have b1 : (0 : Int) ≤ ((b.n / 2 : Nat) : Int) := by omega
                  have b2 : ((b.n / 2 : Nat) : Int) ≤ (b.c : Int) := by have := (HS0.out.row b (List.mem_of_getElem? HBI.out)).2.1; omega
                  have hc6d : wc.drew.cell? ⟨ab, ao + i, none⟩ = some (.slice b.A b.n b.c) := hc6
                  have r1d : wc.drew.cell? ⟨W2.heap.size, q, none⟩ = some (.string so) := r1
                  have r2d : wc.drew.cell? ⟨W3.heap.size, q, none⟩ = some (.bool bo) := r2
                  have f1d : wc.drew.frozen? ⟨W2.heap.size, q, none⟩ = false := f1
                  have f2d : wc.drew.frozen? ⟨W3.heap.size, q, none⟩ = false := f2
                  have b3 : (0 : Int) ≤ (b.n : Int) / 2 := by omega
                  have b4 : (b.n : Int) / 2 ≤ (b.c : Int) := by omega
                  have wq2 : IntKind.i64.wrap ((b.n : Int) / 2) = (b.n : Int) / 2 := by have := HBL.out; rw [IntKind.wrap_i64]; omega
                  have wq3 : (b.n : Int).tdiv 2 = (b.n : Int) / 2 := by rw [Int.tdiv_eq_ediv_of_nonneg (by omega)]
                  have wq4 : ((b.n : Int) / 2).toNat = b.n / 2 := by omega
                  clear hbn hh wq
                  go_upto_region 29 with fail
                  go_region_with fail
                  all_goals (
                    clear qcd hc6d r1d r2d f1d f2d
                    obtain ⟨W7, hW7⟩ : ∃ W, W = (wc.setCell ⟨W2.heap.size, q, none⟩ (.string sl)).setCell ⟨W3.heap.size, q, none⟩ (.bool true) := ⟨_, rfl⟩
                    rw [← hW7]
                    have hm7 : Mv wc W7 (fun k => k = W2.heap.size ∨ k = W3.heap.size) := by rw [hW7]; exact (Mv.setCell wc ⟨W2.heap.size, q, none⟩ _).trans (Mv.setCell _ _ _)
                    have hv7 : Vp W7 W4.heap.size W1.heap.size V6 := HV6.out.old (hm7.weak fun x _ e => by have := HZ3.out; have := HZ4.out; have := HBX2.out.lt; rcases e with e | e <;> (rw [e]; exact ⟨by omega, by omega⟩))
                    have hgs7 : Bx W7 W2.heap.size (bxS (upW wt q 2 b.l)) 37 := by
                      have h := HGS6.out.set q (.string sl)
                      rw [← HSL.out, bxS_up2 wt HQ.out] at h
                      rw [hW7, ← HSL.out]
                      exact h.eq ((Mv.setCell _ ⟨W3.heap.size, q, none⟩ _).block _ h.lt (fun e => gne e.symm))
                    have hgi7 : Bx W7 W3.heap.size (bxI (upW wt q 2 b.l)) 38 := by
                      have h := (HGI6.out.eq ((Mv.setCell wc ⟨W2.heap.size, q, none⟩ (.string sl)).block _ HGI6.out.lt (fun e => gne e))).set q (.bool true)
                      rw [bxI_up2 wt HQ.out b.l] at h
                      rw [hW7]
                      exact h
                    have hbw7 : Below w.heap.size w W7 := HB6.out.trans (hm7.toB HB6.out.size fun x e => by have := HZ3.out; have := HB1.out.size; have := HB2.out.size; omega)
                    have hsi7 := HI6.out
                    rw [HHO.out] at hsi7
                    clear hW7 hm7 r1 r2 f1 f2 qc gne p4 p5 hc6
                    have hdb : Below W7.heap.size W7 W7.drew := ⟨rfl, rfl, rfl, Nat.le_refl _, fun _ _ => rfl⟩
                    have HV7 := Lib.hid (hv7.below hdb)
                    have HGS7 := Lib.hid (hgs7.below hdb hgs7.lt)
                    have HGI7 := Lib.hid (hgi7.below hdb hgi7.lt)
                    have HBW7 := Lib.hid (hbw7.trans (hdb.mono hbw7.size))
                    have HSI7 := Lib.hid hsi7
                    clear hdb hv7 hgs7 hgi7 hbw7 hsi7

                    go_wp2_with fail
                    go_roundw
                    case rel =>
                      exact ⟨i + 1, upW wt q 2 b.l, V6, by have := HLT.out; omega, by go_num, HV7.out, HL6.out, HSI7.out, HGS7.out, HGI7.out, HBW7.out⟩
                    case measure => have := HLT.out; simp [intOf]; omega)
                have HY1 := Lib.hid h1
                have HY2 := Lib.hid h2
                have hsi7 := HI6.out
                rw [show howOf i z l3 = y3 from HY3.out, upW_none _ _ _ _ HY1.out HY2.out] at hsi7
                have HSI7 := Lib.hid hsi7
                have HV7 := HV6
                have HGS7 := HGS6
                have HGI7 := HGI6
                have HBW7 := HB6
                clear hsi7

                go_wp2_with fail
                go_roundw
                case rel =>
                  exact ⟨i + 1, wt, V6, by have := HLT.out; omega, by go_num, HV7.out, HL6.out, HSI7.out, HGS7.out, HGI7.out, HBW7.out⟩
                case measure => have := HLT.out; simp [intOf]; omega
              · have p8 : ¬ (i : Int) - (z : Int) < (n3 : Int) := by omega
                obtain ⟨y3, hy3⟩ : ∃ y : Int, y = 0 := ⟨_, rfl⟩
                have HY3 := Lib.hid (show howOf i z l3 = y3 by unfold howOf; rw [if_pos hzi, List.getD, List.getElem?_eq_none (by omega), hy3]; rfl)
                have HY1 := Lib.hid (show y3 ≠ 1 by rw [hy3]; decide)
                have HY2 := Lib.hid (show y3 ≠ 2 by rw [hy3]; decide)
                have hsi7 := HI6.out
                rw [show howOf i z l3 = y3 from HY3.out, upW_none _ _ _ _ HY1.out HY2.out] at hsi7
                have HSI7 := Lib.hid hsi7
                have HV7 := HV6
                have HGS7 := HGS6
                have HGI7 := HGI6
                have HBW7 := HB6
                clear hsi7 hdn hzi hln hy3

                go_wp2_with fail
                go_roundw
                case rel =>
                  exact ⟨i + 1, wt, V6, by have := HLT.out; omega, by go_num, HV7.out, HL6.out, HSI7.out, HGS7.out, HGI7.out, HBW7.out⟩
                case measure => have := HLT.out; simp [intOf]; omega
            · have p6 : ¬ (z : Int) ≤ (i : Int) := by omega
              have HZI := Lib.hid hzi
              have hho : howOf i z l3 = 1 := by unfold howOf; rw [if_neg HZI.out]
              have hgs6 := HGS6.out
              have hgi6 := HGI6.out
              have r1 := (hgs6.cells q).trans (bxS_get wt HQ.out)
              have r2 := (hgi6.cells q).trans (bxI_get wt HQ.out)
              have f1 := hgs6.free q
              have f2 := hgi6.free q
              obtain ⟨ab3, ao3, eab3, hab3, hc6⟩ := (HS0.out.below HB6.out).cell i b HBI.out
              cases eab3
              have qc := text_run (c := b.c) (HSB.out.below HB6.out)
              generalize hsl : (⟨b.l.toArray⟩ : ByteArray) = sl at qc
              have gne : W3.heap.size ≠ W2.heap.size := by have := HZ3.out; omega
              have p4 : (q : Int) < 3 := by have := HQ.out; omega
              have p5 : (0 : Int) ≤ (q : Int) := by omega
              have HSL := Lib.hid hsl
              have HHO := Lib.hid hho
              generalize st (wt q) = so at r1
              generalize (wt q).isSome = bo at r2
              clear hgs6 hgi6 hsl hho hab3 hzi
              go_upto_region 28 with fail
              obtain ⟨W7, hW7⟩ : ∃ W, W = (wc.setCell ⟨W2.heap.size, q, none⟩ (.string sl)).setCell ⟨W3.heap.size, q, none⟩ (.bool true) := ⟨_, rfl⟩
              rw [← hW7]
              have hm7 : Mv wc W7 (fun k => k = W2.heap.size ∨ k = W3.heap.size) := by rw [hW7]; exact (Mv.setCell wc ⟨W2.heap.size, q, none⟩ _).trans (Mv.setCell _ _ _)
              have hv7 : Vp W7 W4.heap.size W1.heap.size V6 := HV6.out.old (hm7.weak fun x _ e => by have := HZ3.out; have := HZ4.out; have := HBX2.out.lt; rcases e with e | e <;> (rw [e]; exact ⟨by omega, by omega⟩))
              have hgs7 : Bx W7 W2.heap.size (bxS (upW wt q 1 b.l)) 37 := by
                have h := HGS6.out.set q (.string sl)
                rw [← HSL.out, bxS_up1 wt HQ.out] at h
                rw [hW7, ← HSL.out]
                exact h.eq ((Mv.setCell _ ⟨W3.heap.size, q, none⟩ _).block _ h.lt (fun e => gne e.symm))
              have hgi7 : Bx W7 W3.heap.size (bxI (upW wt q 1 b.l)) 38 := by
                have h := (HGI6.out.eq ((Mv.setCell wc ⟨W2.heap.size, q, none⟩ (.string sl)).block _ HGI6.out.lt (fun e => gne e))).set q (.bool true)
                rw [bxI_up1 wt HQ.out b.l] at h
                rw [hW7]
                exact h
              have hbw7 : Below w.heap.size w W7 := HB6.out.trans (hm7.toB HB6.out.size fun x e => by have := HZ3.out; have := HB1.out.size; have := HB2.out.size; omega)
              have hsi7 := HI6.out
              rw [HHO.out] at hsi7
              clear hW7 hm7 r1 r2 f1 f2 qc gne p4 p5 hc6
              have HV7 := Lib.hid hv7
              have HGS7 := Lib.hid hgs7
              have HGI7 := Lib.hid hgi7
              have HBW7 := Lib.hid hbw7
              have HSI7 := Lib.hid hsi7
              clear hv7 hgs7 hgi7 hbw7 hsi7

              go_wp2_with fail
              go_roundw
              case rel =>
                exact ⟨i + 1, upW wt q 1 b.l, V6, by have := HLT.out; omega, by go_num, HV7.out, HL6.out, HSI7.out, HGS7.out, HGI7.out, HBW7.out⟩
              case measure => have := HLT.out; simp [intOf]; omega
        · have q3 : ¬ (i : Int) < (n1 : Int) := by omega
          obtain ⟨q, hq⟩ : ∃ q, q = i % 3 := ⟨_, rfl⟩
          rw [← hq] at r1 r2
          have HQ := Lib.hid (show q < 3 by omega)
          clear hq hn1 hbw5
          go_upto_region 19 with fail
          clear r1 r2
          have hsz : (W5.alloc (Obj.cells #[Value.string ⟨#[97]⟩, Value.string ⟨#[98]⟩, Value.string ⟨#[99]⟩] 9)).heap.size = W5.heap.size + 1 := Array.size_push ..
          have hb5a : Below W5.heap.size W5 ((W5.alloc (Obj.cells #[Value.string ⟨#[97]⟩, Value.string ⟨#[98]⟩, Value.string ⟨#[99]⟩] 9)).drew) := by
            have h := (Below.refl W5.heap.size W5).alloc (Nat.le_refl _) (Obj.cells #[Value.string ⟨#[97]⟩, Value.string ⟨#[98]⟩, Value.string ⟨#[99]⟩] 9)
            exact ⟨h.os, h.tape, h.output, h.size, h.block⟩
          have hbw5 := HBW5.out
          have hsw := HSJ.out.write HL5.out HQ.out (by have := HLT.out; have := HN0.out; omega) HBL.out
          have hlm := HL5.out.does (nmR q).data.toList (some b.l)
          obtain ⟨V6, hV6⟩ : ∃ x, x = V5.does (nmR q).data.toList (some b.l) := ⟨_, rfl⟩
          rw [← hV6] at hsw hlm
          have hl6 := hlm.more (M := (i + 1) * 300) (by have := HBL.out; show i * 300 + 1 + (1 + b.l.length + 1) ≤ _; omega)
          have hwx := write_any (s := nmR q) (c := b.c) (HV5.out.below hb5a) HL5.out (((HSB.out.below (hbw5.trans (hb5a.mono hbw5.size))).more (Nat.le_trans hbw5.size hb5a.size))) (show 1 ≤ maxLen by decide) (by have := HBL.out; have := HLT.out; have := HN0.out; omega)
          rw [hsw.1] at hwx
          have hcs : (W5.alloc (Obj.cells #[Value.string ⟨#[97]⟩, Value.string ⟨#[98]⟩, Value.string ⟨#[99]⟩] 9)).cell? ⟨W5.heap.size, q, none⟩ = some (.string (nmR q)) := by
            rw [cell_of_row _ _ _ _ _ _ (heap_alloc_new W5 _)]
            have h : q = 0 ∨ q = 1 ∨ q = 2 := by have := HQ.out; omega
            rcases h with rfl | rfl | rfl <;> rfl
          obtain ⟨ab2, ao2, eab, hab2, hcell5⟩ := (HS0.out.below hbw5).cell i b HBI.out
          cases eab
          have hcell6 : (W5.alloc (Obj.cells #[Value.string ⟨#[97]⟩, Value.string ⟨#[98]⟩, Value.string ⟨#[99]⟩] 9)).cell? ⟨ab, ao + i, none⟩ = some (.slice b.A b.n b.c) := (((Below.refl W5.heap.size W5).alloc (Nat.le_refl _) _).cell (p := ⟨ab, ao + i, none⟩) (Nat.lt_of_lt_of_le hab2 hbw5.size)).trans hcell5
          have p4 : (q : Int) < 3 := by have := HQ.out; omega
          have p5 : (0 : Int) ≤ (q : Int) := by omega
          have HWX := Lib.hid hwx
          have HI6 := Lib.hid hsw.2
          have HL6 := Lib.hid hl6
          have HB5A := Lib.hid hb5a
          clear hwx hsw hl6 hlm hV6 hb5a hsz hbw5 hab2
          go_cut [71] from 30 to 115 (fun s wx => s = .bool false ∧ Hid (Vp wx W4.heap.size W1.heap.size V6) ∧ Hid (Bx wx W2.heap.size (bxS wt) 37) ∧ Hid (Bx wx W3.heap.size (bxI wt) 38) ∧ Hid (Below w.heap.size w wx))
          case first =>
            go_region_with (go_at_call 19; (with_reducible refine HWX.out.mono ?_); rintro e W6 ⟨rfl, hv6, hm6⟩; have HV6 := Lib.hid hv6; have HM6 := Lib.hid hm6; clear hv6 hm6)
            all_goals (
              go_wp2_with fail
              go_meet
              exact ⟨rfl, HV6, Lib.hid ((HGS5.out.below HB5A.out HGS5.out.lt).mo HM6.out (by have := HBX2.out.lt; omega) (by have := HZ3.out; have := HZ4.out; omega)), Lib.hid ((HGI5.out.below HB5A.out HGI5.out.lt).mo HM6.out (by have := HBX2.out.lt; have := HZ3.out; omega) (by have := HZ4.out; omega)), Lib.hid ((HBW5.out.trans (HB5A.out.mono HBW5.out.size)).trans (HM6.out.below HBW4.out.size HB1.out.size (Nat.le_trans HBW5.out.size HB5A.out.size)))⟩)
          case rest =>
            obtain ⟨rfl, HV6, HGS6, HGI6, HB6⟩ := hcut
            clear hcs p4 p5 hcell6 hcell5
            by_cases hzi : z ≤ i
            · have p6 : (z : Int) ≤ (i : Int) := by omega
              have hin : i < 15 := by have := HLT.out; have := HN0.out; omega
              have hln : l3.length = n3 := by have := HS3.out.len; rw [List.length_map] at this; omega
              by_cases hdn : i - z < n3
              · have p8 : (i : Int) - (z : Int) < (n3 : Int) := by omega
                have p9 : (0 : Int) ≤ (i : Int) - (z : Int) := by omega
                have p10 : ((i : Int) - (z : Int)).toNat = i - z := by omega
                obtain ⟨b3, o3, rfl, hb3l, hcell3⟩ := (HS3.out.below HB6.out).int hdn
                obtain ⟨y3, hy3⟩ : ∃ y, y = l3.getD (i - z) 0 := ⟨_, rfl⟩
                rw [← hy3] at hcell3
                have HY3 := Lib.hid (show howOf i z l3 = y3 by unfold howOf; rw [if_pos hzi, hy3])
                clear hy3 hln hb3l hdn hzi
                by_cases h1 : y3 = 1
                · subst h1
                  have hho : howOf i z l3 = 1 := HY3.out
                  have hgs6 := HGS6.out
                  have hgi6 := HGI6.out
                  have r1 := (hgs6.cells q).trans (bxS_get wt HQ.out)
                  have r2 := (hgi6.cells q).trans (bxI_get wt HQ.out)
                  have f1 := hgs6.free q
                  have f2 := hgi6.free q
                  obtain ⟨ab3, ao3, eab3, hab3, hc6⟩ := (HS0.out.below HB6.out).cell i b HBI.out
                  cases eab3
                  have qc := text_run (c := b.c) (HSB.out.below HB6.out)
                  generalize hsl : (⟨b.l.toArray⟩ : ByteArray) = sl at qc
                  have gne : W3.heap.size ≠ W2.heap.size := by have := HZ3.out; omega
                  have p4 : (q : Int) < 3 := by have := HQ.out; omega
                  have p5 : (0 : Int) ≤ (q : Int) := by omega
                  have HSL := Lib.hid hsl
                  have HHO := Lib.hid hho
                  generalize st (wt q) = so at r1
                  generalize (wt q).isSome = bo at r2
                  clear hgs6 hgi6 hsl hho hab3
                  go_upto_region 28 with fail
                  obtain ⟨W7, hW7⟩ : ∃ W, W = (wc.setCell ⟨W2.heap.size, q, none⟩ (.string sl)).setCell ⟨W3.heap.size, q, none⟩ (.bool true) := ⟨_, rfl⟩
                  rw [← hW7]
                  have hm7 : Mv wc W7 (fun k => k = W2.heap.size ∨ k = W3.heap.size) := by rw [hW7]; exact (Mv.setCell wc ⟨W2.heap.size, q, none⟩ _).trans (Mv.setCell _ _ _)
                  have hv7 : Vp W7 W4.heap.size W1.heap.size V6 := HV6.out.old (hm7.weak fun x _ e => by have := HZ3.out; have := HZ4.out; have := HBX2.out.lt; rcases e with e | e <;> (rw [e]; exact ⟨by omega, by omega⟩))
                  have hgs7 : Bx W7 W2.heap.size (bxS (upW wt q 1 b.l)) 37 := by
                    have h := HGS6.out.set q (.string sl)
                    rw [← HSL.out, bxS_up1 wt HQ.out] at h
                    rw [hW7, ← HSL.out]
                    exact h.eq ((Mv.setCell _ ⟨W3.heap.size, q, none⟩ _).block _ h.lt (fun e => gne e.symm))
                  have hgi7 : Bx W7 W3.heap.size (bxI (upW wt q 1 b.l)) 38 := by
                    have h := (HGI6.out.eq ((Mv.setCell wc ⟨W2.heap.size, q, none⟩ (.string sl)).block _ HGI6.out.lt (fun e => gne e))).set q (.bool true)
                    rw [bxI_up1 wt HQ.out b.l] at h
                    rw [hW7]
                    exact h
                  have hbw7 : Below w.heap.size w W7 := HB6.out.trans (hm7.toB HB6.out.size fun x e => by have := HZ3.out; have := HB1.out.size; have := HB2.out.size; omega)
                  have hsi7 := HI6.out
                  rw [HHO.out] at hsi7
                  clear hW7 hm7 r1 r2 f1 f2 qc gne p4 p5 hc6
                  have HV7 := Lib.hid hv7
                  have HGS7 := Lib.hid hgs7
                  have HGI7 := Lib.hid hgi7
                  have HBW7 := Lib.hid hbw7
                  have HSI7 := Lib.hid hsi7
                  clear hv7 hgs7 hgi7 hbw7 hsi7

                  go_wp2_with fail
                  go_roundw
                  case rel =>
                    exact ⟨i + 1, upW wt q 1 b.l, V6, by have := HLT.out; omega, by go_num, HV7.out, HL6.out, HSI7.out, HGS7.out, HGI7.out, HBW7.out⟩
                  case measure => have := HLT.out; simp [intOf]; omega
                by_cases h2 : y3 = 2
                · subst h2
                  have hho : howOf i z l3 = 2 := HY3.out
                  have hgs6 := HGS6.out
                  have hgi6 := HGI6.out
                  have r1 := (hgs6.cells q).trans (bxS_get wt HQ.out)
                  have r2 := (hgi6.cells q).trans (bxI_get wt HQ.out)
                  have f1 := hgs6.free q
                  have f2 := hgi6.free q
                  obtain ⟨ab3, ao3, eab3, hab3, hc6⟩ := (HS0.out.below HB6.out).cell i b HBI.out
                  cases eab3
                  have hbn := HSB.out.len
                  have hh : Sees wc w.heap.size b.A (b.n / 2) (half b.l) := by
                    have h := (HSB.out.below HB6.out).take (k := b.n / 2) (by omega)
                    rwa [show b.l.take (b.n / 2) = half b.l from by rw [half, hbn]] at h
                  have qc := text_run (c := b.c) hh
                  have qcd := text_run (c := b.c) hh.drew
                  generalize hsl : (⟨(half b.l).toArray⟩ : ByteArray) = sl at qc qcd
                  have gne : W3.heap.size ≠ W2.heap.size := by have := HZ3.out; omega
                  have p4 : (q : Int) < 3 := by have := HQ.out; omega
                  have p5 : (0 : Int) ≤ (q : Int) := by omega
                  have HSL := Lib.hid hsl
                  have HHO := Lib.hid hho
                  generalize st (wt q) = so at r1
                  generalize (wt q).isSome = bo at r2
                  clear hgs6 hgi6 hsl hho hab3

                  have wq : wrap64 ((b.n : Int) / 2) = ((b.n / 2 : Nat) : Int) := by have := HBL.out; unfold wrap64; omega
                  have b1 : (0 : Int) ≤ ((b.n / 2 : Nat) : Int) := by omega
                  have b2 : ((b.n / 2 : Nat) : Int) ≤ (b.c : Int) := by have := (HS0.out.row b (List.mem_of_getElem? HBI.out)).2.1; omega
                  have hc6d : wc.drew.cell? ⟨ab, ao + i, none⟩ = some (.slice b.A b.n b.c) := hc6
                  have r1d : wc.drew.cell? ⟨W2.heap.size, q, none⟩ = some (.string so) := r1
                  have r2d : wc.drew.cell? ⟨W3.heap.size, q, none⟩ = some (.bool bo) := r2
                  have f1d : wc.drew.frozen? ⟨W2.heap.size, q, none⟩ = false := f1
                  have f2d : wc.drew.frozen? ⟨W3.heap.size, q, none⟩ = false := f2
                  have b3 : (0 : Int) ≤ (b.n : Int) / 2 := by omega
                  have b4 : (b.n : Int) / 2 ≤ (b.c : Int) := by omega
                  have wq2 : IntKind.i64.wrap ((b.n : Int) / 2) = (b.n : Int) / 2 := by have := HBL.out; rw [IntKind.wrap_i64]; omega
                  have wq3 : (b.n : Int).tdiv 2 = (b.n : Int) / 2 := by rw [Int.tdiv_eq_ediv_of_nonneg (by omega)]
                  have wq4 : ((b.n : Int) / 2).toNat = b.n / 2 := by omega
                  clear hbn hh wq
                  go_upto_region 29 with fail
                  go_region_with fail
                  all_goals (
                    clear qcd hc6d r1d r2d f1d f2d
                    obtain ⟨W7, hW7⟩ : ∃ W, W = (wc.setCell ⟨W2.heap.size, q, none⟩ (.string sl)).setCell ⟨W3.heap.size, q, none⟩ (.bool true) := ⟨_, rfl⟩
                    rw [← hW7]
                    have hm7 : Mv wc W7 (fun k => k = W2.heap.size ∨ k = W3.heap.size) := by rw [hW7]; exact (Mv.setCell wc ⟨W2.heap.size, q, none⟩ _).trans (Mv.setCell _ _ _)
                    have hv7 : Vp W7 W4.heap.size W1.heap.size V6 := HV6.out.old (hm7.weak fun x _ e => by have := HZ3.out; have := HZ4.out; have := HBX2.out.lt; rcases e with e | e <;> (rw [e]; exact ⟨by omega, by omega⟩))
                    have hgs7 : Bx W7 W2.heap.size (bxS (upW wt q 2 b.l)) 37 := by
                      have h := HGS6.out.set q (.string sl)
                      rw [← HSL.out, bxS_up2 wt HQ.out] at h
                      rw [hW7, ← HSL.out]
                      exact h.eq ((Mv.setCell _ ⟨W3.heap.size, q, none⟩ _).block _ h.lt (fun e => gne e.symm))
                    have hgi7 : Bx W7 W3.heap.size (bxI (upW wt q 2 b.l)) 38 := by
                      have h := (HGI6.out.eq ((Mv.setCell wc ⟨W2.heap.size, q, none⟩ (.string sl)).block _ HGI6.out.lt (fun e => gne e))).set q (.bool true)
                      rw [bxI_up2 wt HQ.out b.l] at h
                      rw [hW7]
                      exact h
                    have hbw7 : Below w.heap.size w W7 := HB6.out.trans (hm7.toB HB6.out.size fun x e => by have := HZ3.out; have := HB1.out.size; have := HB2.out.size; omega)
                    have hsi7 := HI6.out
                    rw [HHO.out] at hsi7
                    clear hW7 hm7 r1 r2 f1 f2 qc gne p4 p5 hc6
                    have hdb : Below W7.heap.size W7 W7.drew := ⟨rfl, rfl, rfl, Nat.le_refl _, fun _ _ => rfl⟩
                    have HV7 := Lib.hid (hv7.below hdb)
                    have HGS7 := Lib.hid (hgs7.below hdb hgs7.lt)
                    have HGI7 := Lib.hid (hgi7.below hdb hgi7.lt)
                    have HBW7 := Lib.hid (hbw7.trans (hdb.mono hbw7.size))
                    have HSI7 := Lib.hid hsi7
                    clear hdb hv7 hgs7 hgi7 hbw7 hsi7

                    go_wp2_with fail
                    go_roundw
                    case rel =>
                      exact ⟨i + 1, upW wt q 2 b.l, V6, by have := HLT.out; omega, by go_num, HV7.out, HL6.out, HSI7.out, HGS7.out, HGI7.out, HBW7.out⟩
                    case measure => have := HLT.out; simp [intOf]; omega)
                have HY1 := Lib.hid h1
                have HY2 := Lib.hid h2
                have hsi7 := HI6.out
                rw [show howOf i z l3 = y3 from HY3.out, upW_none _ _ _ _ HY1.out HY2.out] at hsi7
                have HSI7 := Lib.hid hsi7
                have HV7 := HV6
                have HGS7 := HGS6
                have HGI7 := HGI6
                have HBW7 := HB6
                clear hsi7

                go_wp2_with fail
                go_roundw
                case rel =>
                  exact ⟨i + 1, wt, V6, by have := HLT.out; omega, by go_num, HV7.out, HL6.out, HSI7.out, HGS7.out, HGI7.out, HBW7.out⟩
                case measure => have := HLT.out; simp [intOf]; omega
              · have p8 : ¬ (i : Int) - (z : Int) < (n3 : Int) := by omega
                obtain ⟨y3, hy3⟩ : ∃ y : Int, y = 0 := ⟨_, rfl⟩
                have HY3 := Lib.hid (show howOf i z l3 = y3 by unfold howOf; rw [if_pos hzi, List.getD, List.getElem?_eq_none (by omega), hy3]; rfl)
                have HY1 := Lib.hid (show y3 ≠ 1 by rw [hy3]; decide)
                have HY2 := Lib.hid (show y3 ≠ 2 by rw [hy3]; decide)
                have hsi7 := HI6.out
                rw [show howOf i z l3 = y3 from HY3.out, upW_none _ _ _ _ HY1.out HY2.out] at hsi7
                have HSI7 := Lib.hid hsi7
                have HV7 := HV6
                have HGS7 := HGS6
                have HGI7 := HGI6
                have HBW7 := HB6
                clear hsi7 hdn hzi hln hy3

                go_wp2_with fail
                go_roundw
                case rel =>
                  exact ⟨i + 1, wt, V6, by have := HLT.out; omega, by go_num, HV7.out, HL6.out, HSI7.out, HGS7.out, HGI7.out, HBW7.out⟩
                case measure => have := HLT.out; simp [intOf]; omega
            · have p6 : ¬ (z : Int) ≤ (i : Int) := by omega
              have HZI := Lib.hid hzi
              have hho : howOf i z l3 = 1 := by unfold howOf; rw [if_neg HZI.out]
              have hgs6 := HGS6.out
              have hgi6 := HGI6.out
              have r1 := (hgs6.cells q).trans (bxS_get wt HQ.out)
              have r2 := (hgi6.cells q).trans (bxI_get wt HQ.out)
              have f1 := hgs6.free q
              have f2 := hgi6.free q
              obtain ⟨ab3, ao3, eab3, hab3, hc6⟩ := (HS0.out.below HB6.out).cell i b HBI.out
              cases eab3
              have qc := text_run (c := b.c) (HSB.out.below HB6.out)
              generalize hsl : (⟨b.l.toArray⟩ : ByteArray) = sl at qc
              have gne : W3.heap.size ≠ W2.heap.size := by have := HZ3.out; omega
              have p4 : (q : Int) < 3 := by have := HQ.out; omega
              have p5 : (0 : Int) ≤ (q : Int) := by omega
              have HSL := Lib.hid hsl
              have HHO := Lib.hid hho
              generalize st (wt q) = so at r1
              generalize (wt q).isSome = bo at r2
              clear hgs6 hgi6 hsl hho hab3 hzi
              go_upto_region 28 with fail
              obtain ⟨W7, hW7⟩ : ∃ W, W = (wc.setCell ⟨W2.heap.size, q, none⟩ (.string sl)).setCell ⟨W3.heap.size, q, none⟩ (.bool true) := ⟨_, rfl⟩
              rw [← hW7]
              have hm7 : Mv wc W7 (fun k => k = W2.heap.size ∨ k = W3.heap.size) := by rw [hW7]; exact (Mv.setCell wc ⟨W2.heap.size, q, none⟩ _).trans (Mv.setCell _ _ _)
              have hv7 : Vp W7 W4.heap.size W1.heap.size V6 := HV6.out.old (hm7.weak fun x _ e => by have := HZ3.out; have := HZ4.out; have := HBX2.out.lt; rcases e with e | e <;> (rw [e]; exact ⟨by omega, by omega⟩))
              have hgs7 : Bx W7 W2.heap.size (bxS (upW wt q 1 b.l)) 37 := by
                have h := HGS6.out.set q (.string sl)
                rw [← HSL.out, bxS_up1 wt HQ.out] at h
                rw [hW7, ← HSL.out]
                exact h.eq ((Mv.setCell _ ⟨W3.heap.size, q, none⟩ _).block _ h.lt (fun e => gne e.symm))
              have hgi7 : Bx W7 W3.heap.size (bxI (upW wt q 1 b.l)) 38 := by
                have h := (HGI6.out.eq ((Mv.setCell wc ⟨W2.heap.size, q, none⟩ (.string sl)).block _ HGI6.out.lt (fun e => gne e))).set q (.bool true)
                rw [bxI_up1 wt HQ.out b.l] at h
                rw [hW7]
                exact h
              have hbw7 : Below w.heap.size w W7 := HB6.out.trans (hm7.toB HB6.out.size fun x e => by have := HZ3.out; have := HB1.out.size; have := HB2.out.size; omega)
              have hsi7 := HI6.out
              rw [HHO.out] at hsi7
              clear hW7 hm7 r1 r2 f1 f2 qc gne p4 p5 hc6
              have HV7 := Lib.hid hv7
              have HGS7 := Lib.hid hgs7
              have HGI7 := Lib.hid hgi7
              have HBW7 := Lib.hid hbw7
              have HSI7 := Lib.hid hsi7
              clear hv7 hgs7 hgi7 hbw7 hsi7

              go_wp2_with fail
              go_roundw
              case rel =>
                exact ⟨i + 1, upW wt q 1 b.l, V6, by have := HLT.out; omega, by go_num, HV7.out, HL6.out, HSI7.out, HGS7.out, HGI7.out, HBW7.out⟩
              case measure => have := HLT.out; simp [intOf]; omega
    · have hin : i = n0 := by have := HIN.out; omega
      have q1 : ¬ (i : Int) < (n0 : Int) := by omega
      clear hlt
      go_upto_region 30 with fail
      go_cut [124] from 116 to 161 (fun s wx => s = .bool false ∧ ∃ V5, Hid (Vp wx W4.heap.size W1.heap.size V5) ∧ Hid (SC V5 i (i - z) l3 wt) ∧ Hid (Lim V5 (i * 300 + 1)) ∧ Hid (Mo W4.heap.size W1.heap.size wr wx))
      case first =>
        by_cases hiz : i = z
        · have p2 : ((z : Int) == (n0 : Int)) = true := by rw [beq_iff_eq]; omega
          obtain ⟨hf0, hsj⟩ := HI.out.eq hiz
          have hfl := flush_any HV.out HL.out (by have := HN0.out; omega)
          rw [hf0] at hfl
          have HFL := Lib.hid hfl
          have HSJ := Lib.hid (hsj.c (by omega))
          clear hfl hsj hf0 hiz hin q1
          go_wp2_with (go_at_call 18; (with_reducible refine HFL.out.mono ?_); rintro e W5 ⟨rfl, hv5, hm5⟩; have HV5 := Lib.hid hv5; have HM5 := Lib.hid hm5; clear hv5 hm5)
          go_meet
          exact ⟨rfl, _, HV5, HSJ, Lib.hid HL.out.flush, HM5⟩
        · have p2 : ((z : Int) == (n0 : Int)) = false := by rw [beq_eq_false_iff_ne]; omega
          have HSJ := Lib.hid ((HI.out.ne hiz).c (by have := HZ.out; omega))
          clear hiz hin q1
          go_wp2_with fail
          go_meet
          exact ⟨rfl, _, HV, HSJ, Lib.hid (HL.out.more (M := i * 300 + 1) (by omega)), Lib.hid (Mo.refl _ _ _)⟩
      case rest =>
        obtain ⟨rfl, V5, HV5, HSC, HL5, HM5⟩ := hcut
        obtain ⟨W5, hW5⟩ : ∃ W, W = wc := ⟨_, rfl⟩
        rw [← hW5] at HV5 HM5 ⊢
        clear hW5
        have hbw5 : Below w.heap.size w W5 := HBW.out.trans (HM5.out.below (by have := HBW4.out.size; omega) HB1.out.size HBW.out.size)
        have hgs5 := HGS.out.mo HM5.out (by have := HBX2.out.lt; omega) (by have := HZ3.out; have := HZ4.out; omega)
        have hgi5 := HGI.out.mo HM5.out (by have := HBX2.out.lt; have := HZ3.out; omega) (by have := HZ4.out; omega)
        have hst : Sti W5 W4.heap.size W1.heap.size A3 n3 l3 := ⟨by have := HS3.out.len; rw [List.length_map] at this; exact this, fun j x hx => by
          obtain ⟨b3, o3, e3, hb3, hc3⟩ := (HS3.out.below hbw5).cell j (.int .i64 x) (by rw [List.getElem?_map, hx]; rfl)
          have h1 := HB1.out.size
          have h2 := HBW4.out.size
          exact ⟨b3, o3, e3, Nat.lt_of_lt_of_le hb3 hbw5.size, by omega, .inl (by omega), hc3⟩⟩
        have HCR := Lib.hid (crash_any (ck := c3) HV5.out HL5.out (by have := HN0.out; omega) hst)
        obtain ⟨hcd, hcr⟩ := HSC.out.crash
        have hlc := HL5.out.crash l3
        obtain ⟨V6, hV6⟩ : ∃ x, x = V5.crash l3 := ⟨_, rfl⟩
        rw [← hV6] at hcd hcr hlc HCR
        have HGS5 := Lib.hid hgs5
        have HGI5 := Lib.hid hgi5
        have HBW5 := Lib.hid hbw5
        have HCD := Lib.hid hcd
        have HRD := Lib.hid hcr
        have HLC := Lib.hid hlc
        clear hcd hcr hlc hV6 hst hgs5 hgi5 hbw5 hin q1
        go_upto_region 33 with (go_at_call 20; (with_reducible refine HCR.out.mono ?_); rintro e W6 ⟨rfl, hv6, hm6⟩; have HV6 := Lib.hid hv6; have HM6 := Lib.hid hm6; clear hv6 hm6)
        have HGS6 := Lib.hid (HGS5.out.mo HM6.out (by have := HBX2.out.lt; omega) (by have := HZ3.out; have := HZ4.out; omega))
        have HGI6 := Lib.hid (HGI5.out.mo HM6.out (by have := HBX2.out.lt; have := HZ3.out; omega) (by have := HZ4.out; omega))
        have HB6 := Lib.hid (HBW5.out.trans (HM6.out.below (by have := HBW4.out.size; omega) HB1.out.size HBW5.out.size))
        go_wp2_with fail
        go_loopw [15] (fun kv wr => ∃ j : Nat, j ≤ 3 ∧ kv = .int .i64 (j : Int) ∧ Hid (Vp wr W4.heap.size W1.heap.size V6) ∧ Hid (Bx wr W2.heap.size (bxS wt) 37) ∧ Hid (Bx wr W3.heap.size (bxI wt) 38) ∧ Hid (Below w.heap.size w wr)) (fun kv _ => 3 - (intOf kv).toNat)
        case atStart => exact ⟨0, by omega, rfl, HV6, HGS6, HGI6, HB6⟩
        case round =>
          obtain ⟨j, hj, rfl, HVj, HGSj, HGIj, HBj⟩ := hrel
          by_cases hj3 : j < 3
          · have q4 : (j : Int) < 3 := by omega
            have q5 : (0 : Int) ≤ (j : Int) := by omega
            have hba : Below wr.heap.size wr (wr.alloc (Obj.cells #[Value.string ⟨#[97]⟩, Value.string ⟨#[98]⟩, Value.string ⟨#[99]⟩] 9)) := (Below.refl _ _).alloc (Nat.le_refl _) _
            have hcs : (wr.alloc (Obj.cells #[Value.string ⟨#[97]⟩, Value.string ⟨#[98]⟩, Value.string ⟨#[99]⟩] 9)).cell? ⟨wr.heap.size, j, none⟩ = some (.string (nmR j)) := by
              rw [cell_of_row _ _ _ _ _ _ (heap_alloc_new wr _)]
              have h : j = 0 ∨ j = 1 ∨ j = 2 := by omega
              rcases h with rfl | rfl | rfl <;> rfl
            have hrd := read_any (s := nmR j) (HVj.out.below hba) HLC.out (show 1 ≤ maxLen by decide) (by have := HN0.out; have := HIN.out; omega)
            rw [HRD.out j hj3] at hrd
            have HR := Lib.hid hrd
            have HJ3 := Lib.hid hj3
            have HBA := Lib.hid hba
            clear hrd hj3 hba
            go_upto_region 37 with (go_at_call 21; (with_reducible refine HR.out.mono ?_); rintro e W9 ⟨A9, n9, c9, rfl, hn9, ho9, hz9, hb9⟩; have HN9 := Lib.hid hn9; have HO9 := Lib.hid ho9; have HB9 := Lib.hid hb9; clear hn9 ho9 hz9 hb9)
            have hb9 : Below wr.heap.size wr W9 := HBA.out.trans (HB9.out.mono HBA.out.size)
            have hg9 := HGSj.out.below hb9 HGSj.out.lt
            have hi9 := HGIj.out.below hb9 HGIj.out.lt
            have q9 := text_run (c := c9) (Sees.of_own HO9.out)
            have q9d := text_run (c := c9) (Sees.of_own HO9.out).drew
            have r1 := (hg9.cells j).trans (bxS_get wt HJ3.out)
            have r2 := (hi9.cells j).trans (bxI_get wt HJ3.out)
            have r1d : W9.drew.cell? ⟨W2.heap.size, j, none⟩ = _ := r1
            have r2d : W9.drew.cell? ⟨W3.heap.size, j, none⟩ = _ := r2
            have HV9 := Lib.hid (HVj.out.below hb9)
            have HG9 := Lib.hid hg9
            have HI9 := Lib.hid hi9
            have HBW9 := Lib.hid (HBj.out.trans (hb9.mono HBj.out.size))
            have est : (⟨((wt j).getD []).toArray⟩ : ByteArray) = st (wt j) := rfl
            rw [est] at q9 q9d
            generalize st (wt j) = so at q9 q9d r1 r1d
            generalize hbo : (wt j).isSome = bo at r2 r2d ⊢
            clear hb9 hg9 hi9 est hbo
            go_region
            go_wp2_with fail
            go_roundw
            case rel => exact ⟨j + 1, HJ3.out, by go_num, Lib.hid (HV9.out.below ⟨rfl, rfl, rfl, Nat.le_refl _, fun _ _ => rfl⟩), Lib.hid HG9.out, Lib.hid HI9.out, Lib.hid ⟨HBW9.out.os, HBW9.out.tape, HBW9.out.output, HBW9.out.size, HBW9.out.block⟩⟩
            case measure => have := HJ3.out; simp [intOf]; omega
          · have q4 : ¬ (j : Int) < 3 := by omega
            have hdd := dead_any HVj.out
            rw [HCD.out] at hdd
            have HDD := Lib.hid hdd
            clear hdd
            go_wp2_with (go_at_call 22; (with_reducible refine HDD.out.mono ?_); rintro e W ⟨rfl, rfl⟩)
            go_ret
            exact ⟨rfl, HBj.out⟩
end Go.Proofs.Ytpaaafdnkehmfaa.Vf
