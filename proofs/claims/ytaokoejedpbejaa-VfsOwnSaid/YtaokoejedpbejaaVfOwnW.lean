/- VfOwn, walked. No conditions. -/
import Derived.Test.YtaokoejedpbejaaVfLem
namespace Go.Proofs.Ytaokoejedpbejaa.Vf
open Go.RowKit
set_option maxRecDepth 100000

def oV (l : BS) : Vm := ⟨[], [([97], some l)], 1000, 1, 0, false⟩
theorem oE1 {l : BS} (hl : l.length ≤ 100) : (Vm.new 1000).write (⟨#[97]⟩ : ByteArray).data.toList l = (0, oV l) := by
  unfold Vm.write
  rw [if_neg (by simp [Vm.new]), if_neg (by decide), if_neg (by
    show ¬ (1000 : Int) < (used (wth [97] (some l) []) : Int)
    simp only [wth, one, used]; omega)]
  rfl
theorem oE2 (l : BS) : (oV l).read (⟨#[97]⟩ : ByteArray).data.toList = (l, true, 0) := by
  unfold Vm.read
  rw [if_neg (by simp [oV])]
  rfl
theorem oE3 : (Vm.new 1000).read (⟨#[97]⟩ : ByteArray).data.toList = ([], false, 0) := by rfl
theorem oE4 : (Vm.new 1000).now.map (·.1) = [] := by rfl
theorem oL {l : BS} (hl : l.length ≤ 100) : Lim (oV l) 200 := by
  have := ((Lim.new 1000).write (⟨#[97]⟩ : ByteArray).data.toList l).more (M := 200) (by show 0 + (1 + l.length + 1) ≤ 200; omega)
  rw [oE1 hl] at this
  exact this

set_option maxHeartbeats 4000000 in
theorem vfsOwn_walk (A : Option Addr) (n c : Nat) (l : BS) (a : Int) (w : World) (hS : Sees w w.heap.size A n l) (hnc : n ≤ c) (ha : -9223372036854775808 ≤ a ∧ a ≤ 9223372036854775807) :
    Calls Try.prog 7 #[.slice A n c, .int .i64 a] w fun e w' => e = .returned (.bool true) ∧ Below w.heap.size w w' := by
  have hlen := hS.len
  have HS := Lib.hid hS
  have HLen := Lib.hid hlen
  obtain ⟨ha1, ha2⟩ := ha
  have HA1 := Lib.hid ha1
  have HA2 := Lib.hid ha2
  clear hS hlen ha1 ha2
  by_cases h0 : n = 0
  · have q0 : ((n : Int) == 0) = true := by simp [h0]
    clear h0
    go_enter Try.func7, Try.ntmps7
    go_wp2_with (go_at_call 10; (with_reducible refine (known_any _).mono ?_); rintro e W1 ⟨rfl, hb1⟩)
    go_ret
    exact ⟨rfl, hb1⟩
  · have q0 : ((n : Int) == 0) = false := by simp [h0]
    by_cases h1 : 100 < n
    · have q1 : (100 : Int) < (n : Int) := by omega
      clear h0 h1
      go_enter Try.func7, Try.ntmps7
      go_wp2_with (go_at_call 10; (with_reducible refine (known_any _).mono ?_); rintro e W1 ⟨rfl, hb1⟩)
      go_ret
      exact ⟨rfl, hb1⟩
    · have q1 : ¬ (100 : Int) < (n : Int) := by omega
      obtain ⟨k, hk, -, hwi⟩ := within_nat a n (by omega) (by omega) HA1.out HA2.out
      have HWI := Lib.hid hwi
      have HK := Lib.hid hk
      have HN := Lib.hid (show n ≤ 100 by omega)
      clear h0 h1 hwi hk
      go_enter Try.func7, Try.ntmps7
      go_upto_region 6 with (first
        | (go_at_call 10; (with_reducible refine (known_any _).mono ?_); rintro e W1 ⟨rfl, hb1⟩; have HB1 := Lib.hid hb1; clear hb1)
        | (go_at_call 13; (with_reducible refine (new_any _ W1).mono ?_); rintro e W2 ⟨rfl, hbx2, hb2, hz2⟩; have HBX2 := Lib.hid hbx2; have HB2 := Lib.hid hb2; have HZ2 := Lib.hid hz2; clear hbx2 hb2 hz2)
        | (go_at_call 13; (with_reducible refine (new_any _ W2).mono ?_); rintro e W3 ⟨rfl, hbx3, hb3, hz3⟩; have HBX3 := Lib.hid hbx3; have HB3 := Lib.hid hb3; have HZ3 := Lib.hid hz3; clear hbx3 hb3 hz3))
      have hb23 : Below W1.heap.size W1 W3 := HB2.out.trans (HB3.out.mono HB2.out.size)
      have hb13 : Below w.heap.size w W3 := HB1.out.trans (hb23.mono HB1.out.size)
      have hS3 := (HS.out.below hb13).more hb13.size
      have ho4 : Own (W3.alloc (Obj.cells #[] 5)) W3.heap.size (some ⟨W3.heap.size, 0, none⟩) 0 0 [] := Own.lit W3 [] 0 (Nat.le_refl _) (Nat.zero_le _) rfl
      have hf4 : From Try.prog (W3.alloc (Obj.cells #[] 5)) 31 (.slice A n c) n l := From.sees (hS3.alloc (Nat.le_refl _) _)
      have HO4 := Lib.hid ho4
      have HF4 := Lib.hid hf4
      have HB13 := Lib.hid hb13
      clear hb23 hb13 hS3 ho4 hf4
      go_upto_region 7 with (at_builtin; refine wpList_append_from rfl (.tmp 29) (.tmp 30) 31 rfl rfl rfl HO4.out HF4.out (by have := HN.out; omega) (by simp) ?_; intro A4 n4 c4 W4 ho4 hg4 hat4)
      rw [List.nil_append] at ho4
      have hb34 : Below W3.heap.size W3 W4 := ((Below.refl _ _).alloc (Nat.le_refl _) _).grown hg4 (by simp) (fun k hk => (HO4.out.lt k hk).1)
      have hbx4 : Bx W4 W1.heap.size (bx0 (Vm.new 1000)) 61 := (HBX2.out.below HB3.out (by have := HZ2.out; omega)).below hb34 (by have := HZ2.out; have := HZ3.out; omega)
      have hcx4 : Bx W4 W2.heap.size (bx0 (Vm.new 1000)) 61 := HBX3.out.below hb34 (by have := HZ3.out; omega)
      have hv4 := Vp.fresh (B := W4.heap.size) hbx4 hbx4.lt (Nat.le_refl _)
      have hn4 : n4 = n := by have := ho4.len; have := HLen.out; omega
      have hll : l.length ≤ 100 := by have := HN.out; have := HLen.out; omega
      have hw := write_any (s := ⟨#[97]⟩) (c := c4) hv4 (Lim.new 1000) ho4.sees (by decide) (by omega)
      rw [oE1 hll] at hw
      subst hn4
      obtain ⟨aa, eaa, _, hcell⟩ := ho4.sees.at_ (j := k) HK.out
      subst eaa
      obtain ⟨g4, hg4e, hcell4, hfr4, hg4l⟩ : ∃ g4, aa = ⟨g4, 0, none⟩ ∧ (∃ cur, W4.heap[g4]? = some (.cells cur 5 (0, 0))) ∧ (W3.heap.size ≤ g4) ∧ g4 < W4.heap.size := by
        rcases ho4.row.2 with ⟨e, _⟩ | ⟨g, cap, cur, e, hgb, hh, _⟩
        · cases e
        · injection e with e1
          injection e1 with e1
          exact ⟨g, e1, ⟨cur, hh⟩, hgb, (Array.getElem?_eq_some_iff.1 hh).1⟩
      subst hg4e
      have HW := Lib.hid hw
      have HB34 := Lib.hid hb34
      have HCX4 := Lib.hid hcx4
      have HLL := Lib.hid hll
      have HC4 := Lib.hid hcell
      have HH4 := Lib.hid hcell4
      have HG4 := Lib.hid hfr4
      have HG4L := Lib.hid hg4l
      have hc4n : n4 ≤ c4 := ho4.cap.1
      clear hw hb34 hcx4 hbx4 hv4 hll hcell hcell4 hfr4 hg4l ho4 hg4 hat4
      go_upto_region 9 with (go_at_call 18; (with_reducible refine HW.out.mono ?_); rintro e W5 ⟨rfl, hv5, hm5⟩; have HV5 := Lib.hid hv5; have HM5 := Lib.hid hm5; clear hv5 hm5)
      have hpg : g4 ≠ W1.heap.size := by have := HG4.out; have := HZ2.out; have := HZ3.out; omega
      have hg5 : W5.heap[g4]? = W4.heap[g4]? := HM5.out.block g4 HG4L.out fun e => by
        rcases e with e | ⟨e, _⟩
        · exact hpg e
        · have := HG4L.out; omega
      have d0 : W5.cell? ⟨g4, k, none⟩ = some (.int .u8 (((l.getD k 0).toNat : Nat) : Int)) := by
        have h := HC4.out
        rw [Addr.add_lit, Nat.zero_add] at h
        exact (World.cell?_of_block (a := ⟨g4, k, none⟩) hg5).trans h
      obtain ⟨xb, hxb⟩ : ∃ x : Int, x = (((l.getD k 0).toNat : Nat) : Int) := ⟨_, rfl⟩
      rw [← hxb] at d0
      clear hxb
      have d1 : W5.frozen? ⟨g4, k, none⟩ = false := by
        obtain ⟨cur, hh⟩ := HH4.out
        have h' := hg5.trans hh
        simp [World.frozen?, h']
      have k0 : (0 : Int) ≤ (k : Int) := by omega
      have k1 : (k : Int) < (n4 : Int) := by have := HK.out; omega
      have HPG := Lib.hid hpg
      clear hpg hg5
      go_upto_region 10 with (go_at_call 12; (with_reducible refine (HWI.out _).mono ?_); rintro e W ⟨rfl, rfl⟩)
      obtain ⟨W6, hW6⟩ : ∃ W, W = W5.setCell ⟨g4, k, none⟩ (.int .u8 ((xb + 1) % 256)) := ⟨_, rfl⟩
      rw [← hW6]
      have hm6 : Mv W5 W6 (· = g4) := by rw [hW6]; exact Mv.setCell _ _ _
      have hv6 : Vp W6 W4.heap.size W1.heap.size (oV l) := HV5.out.old (hm6.weak fun k _ e => by rw [e]; exact ⟨HG4L.out, HPG.out⟩)
      have hr6 := read_any (s := ⟨#[97]⟩) hv6 (oL HLL.out) (by decide) (by decide)
      rw [oE2] at hr6
      have HV6 := Lib.hid hv6
      have HR6 := Lib.hid hr6
      have HM6 := Lib.hid hm6
      clear hm6 hv6 hr6 d0 d1 hW6
      go_upto_region 11 with (go_at_call 20; (with_reducible refine HR6.out.mono ?_); rintro e W7 ⟨A7, n7, c7, rfl, hn7, ho7, hz7, hb7⟩; have HN7 := Lib.hid hn7; have HO7 := Lib.hid ho7; have HB7 := Lib.hid hb7; clear hn7 ho7 hz7 hb7)
      have hn7 := HN7.out
      have hnn : n7 = n4 := by have := HLen.out; omega
      subst hnn
      have hb56 : Mo W4.heap.size W1.heap.size W5 W5 := Mo.refl _ _ _
      have hb16 : Below W1.heap.size W1 W6 := by
        have h1 : Below W1.heap.size W4 W5 := HM5.out.below (by have := HZ2.out; have := HZ3.out; have := HB34.out.size; omega) (Nat.le_refl _) (by have := HZ2.out; have := HZ3.out; have := HB34.out.size; omega)
        have h2 : Below W1.heap.size W5 W6 := HM6.out.toB (by have := HM5.out.size; have := HZ2.out; have := HZ3.out; have := HB34.out.size; omega) (fun k e => by have := HG4.out; have := HZ2.out; have := HZ3.out; omega)
        exact (((HB2.out.trans (HB3.out.mono HB2.out.size)).trans (HB34.out.mono (by have := HZ2.out; have := HZ3.out; omega))).trans h1).trans h2
      have hbw6 : Below w.heap.size w W6 := HB1.out.trans (hb16.mono HB1.out.size)
      have hbw7 : Below w.heap.size w W7 := hbw6.trans (HB7.out.mono hbw6.size)
      have HBW6 := Lib.hid hbw6
      have q7 := text_run (c := c7) (Sees.of_own HO7.out)
      have qb := text_run (c := c) (HS.out.below hbw7)
      have HBW7 := Lib.hid hbw7
      have k2 : (k : Int) < (n7 : Int) := k1
      obtain ⟨g7, x7, e7, hg7, hg7l, r7, f7⟩ := own_cell HO7.out HK.out
      subst e7
      generalize hs : (⟨l.toArray⟩ : ByteArray) = sl at q7 qb
      have HSL := Lib.hid hs
      have HG7 := Lib.hid hg7
      have HG7L := Lib.hid hg7l
      clear hn7 hb56 hb16 hbw6 hbw7 hs hg7 hg7l
      go_upto_region 14 with (go_at_call 12; (with_reducible refine (HWI.out _).mono ?_); rintro e W ⟨rfl, rfl⟩)
      obtain ⟨W8, hW8⟩ : ∃ W, W = W7.setCell ⟨g7, k, none⟩ (.int .u8 ((x7 + 1) % 256)) := ⟨_, rfl⟩
      rw [← hW8]
      have hb8 : Below W6.heap.size W6 W8 := by rw [hW8]; exact HB7.out.setCell (p := ⟨g7, k, none⟩) HG7.out _
      have hv8 : Vp W8 W4.heap.size W1.heap.size (oV l) := HV6.out.below hb8
      have hr8 := read_any (s := ⟨#[97]⟩) hv8 (oL HLL.out) (by decide) (by decide)
      rw [oE2] at hr8
      have HV8 := Lib.hid hv8
      have HR8 := Lib.hid hr8
      have HB8 := Lib.hid hb8
      clear hb8 hv8 hr8 r7 f7 hW8 q7 qb
      go_upto_region 15 with (go_at_call 20; (with_reducible refine HR8.out.mono ?_); rintro e W9 ⟨A9, n9, c9, rfl, hn9, ho9, hz9, hb9⟩; have HN9 := Lib.hid hn9; have HO9 := Lib.hid ho9; have HB9 := Lib.hid hb9; clear hn9 ho9 hz9 hb9)
      have hx9 : Bx W9 W2.heap.size (bx0 (Vm.new 1000)) 61 := by
        have h5 := HCX4.out.mo HM5.out (by have := HZ2.out; omega) HCX4.out.lt
        have h6 : Bx W6 W2.heap.size (bx0 (Vm.new 1000)) 61 := h5.eq (HM6.out.block _ h5.lt (by have := HG4.out; have := HZ3.out; omega))
        exact ((h6.below HB8.out h6.lt)).below HB9.out (Nat.lt_of_lt_of_le h6.lt HB8.out.size)
      have hvx := Vp.fresh (B := W9.heap.size) hx9 hx9.lt (Nat.le_refl _)
      have hrx := read_any (s := ⟨#[97]⟩) hvx (Lim.new 1000) (by decide) (by decide)
      rw [oE3] at hrx
      have HVX := Lib.hid hvx
      have HRX := Lib.hid hrx
      clear hx9 hvx hrx
      go_upto_region 16 with (go_at_call 20; (with_reducible refine HRX.out.mono ?_); rintro e W10 ⟨A10, n10, c10, rfl, hn10, ho10, hz10, hb10⟩; have HB10 := Lib.hid hb10; clear hn10 ho10 hz10 hb10)
      have hbw10 : Below w.heap.size w W10 := HBW6.out.trans (((HB8.out.trans (HB9.out.mono HB8.out.size)).trans (HB10.out.mono (Nat.le_trans HB8.out.size HB9.out.size))).mono HBW6.out.size)
      have q9 := text_run (c := c9) ((Sees.of_own HO9.out).below HB10.out)
      have qb := text_run (c := c) (HS.out.below hbw10)
      rw [HSL.out] at q9 qb
      have hv10 := HVX.out.below HB10.out
      have hna := names_any hv10 (Lim.new 1000) (by decide)
      rw [oE4] at hna
      have HNA := Lib.hid hna
      have HV10 := Lib.hid hv10
      have HBW10 := Lib.hid hbw10
      clear hv10 hna hbw10
      go_wp2_with (first
        | (go_at_call 27; (with_reducible refine HNA.out.mono ?_); rintro e W11 ⟨A11, c11, rfl, ho11, hb11⟩; have HB11 := Lib.hid hb11; have hus := used_any (HV10.out.below hb11); have HUS := Lib.hid hus; clear ho11 hb11 hus)
        | (go_at_call 25; (with_reducible refine HUS.out.mono ?_); rintro e W ⟨rfl, rfl⟩))
      go_ret
      exact ⟨rfl, HBW10.out.trans (HB11.out.mono HBW10.out.size)⟩
end Go.Proofs.Ytaokoejedpbejaa.Vf
