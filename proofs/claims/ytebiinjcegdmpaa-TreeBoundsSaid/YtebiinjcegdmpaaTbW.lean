/- TreeBounds, walked. Conditions: numbers within their kind. -/
import Derived.Test.YtebiinjcegdmpaaTbMath
namespace Go.Proofs.Ytebiinjcegdmpaa.Ps
open Go.RowKit Go.Proofs.Ytebiinjcegdmpaa.Jd Go.Proofs.Ytebiinjcegdmpaa.Cl
set_option maxRecDepth 100000


set_option maxHeartbeats 4000000 in
theorem tb_0 (a1 a2 : Int) (w : World) (w1 : (Lit.int .i64 a1).wf = true) (w2 : (Lit.int .i64 a2).wf = true) (hk : a1 % 4 = 0) :
    Calls Try.prog 4 #[.int .i64 a1, .int .i64 a2] w fun e w' => e = .returned (.bool true) ∧ Below w.heap.size w w' := by
  have hK := known_any w
  have hW1 := within_any a1 4 (by omega) (by omega) w1
  have hW2 := within_any a2 6 (by omega) (by omega) w2
  rw [hk] at hW1
  obtain ⟨m, hm, hm5⟩ : ∃ m : Nat, a2 % 6 = (m : Int) ∧ m ≤ 5 := ⟨(a2 % 6).toNat, by omega, by omega⟩
  rw [hm] at hW2
  have HW1 := Lib.hid hW1
  have HW2 := Lib.hid hW2
  clear hW1 hW2 hm hk w1 w2
  obtain ⟨q, hq⟩ : ∃ q, q = 398 + m := ⟨_, rfl⟩
  have hqm : 398 + (m : Int) = (q : Int) := by omega
  have hw398 : wrap64 (398 + (m : Int)) = (q : Int) := by unfold wrap64; omega
  have hwq : wrap64 (q : Int) = (q : Int) := by unfold wrap64; omega
  rcases Nat.lt_or_ge 2 m with hmo | hmo
  · have hov : (2 : Int) < (m : Int) := by omega
    have hfl := lv_fault q (by omega)
    rw [if_pos (by omega)] at hfl
    have Hfl := Lib.hid hfl
    have hq404 : q ≤ 404 := by omega
    clear hfl hm5 hq hmo
    go_enter Try.func4, Try.ntmps4
    go_wp2_with fail
    refine hK.mono ?_
    rintro e w1 ⟨rfl, hb1⟩
    go_wp2_with fail
    refine (HW2.out _).mono ?_
    rintro e _ ⟨rfl, rfl⟩
    go_wp2_with fail
    refine (HW1.out _).mono ?_
    rintro e _ ⟨rfl, rfl⟩
    go_wp2_with fail
    go_loopw [5, 8] (fun v i wr => ∃ (k c : Nat) (A : Option Addr) (vs : List Value), k ≤ q ∧ i = .int .i64 k ∧ v = .slice A k c ∧ Hid (Edg wr w1.heap.size w1.heap.size A k c (lv 0 k) vs) ∧ Hid (Below w1.heap.size w1 wr)) (fun _ i _ => q - (intOf i).toNat)
    case atStart => exact ⟨0, 0, none, [], Nat.zero_le _, rfl, rfl, Lib.hid (Edg.nil _ _ _), Lib.hid (Below.refl _ _)⟩
    case round =>
      obtain ⟨k, c, A, vs, hk, rfl, rfl, HE, HBl⟩ := hrel
      by_cases hlt : k < q
      · have hkn : (k : Int) < (q : Int) := by omega
        have hk0 : (0 : Int) ≤ (k : Int) := by omega
        have hk4 : k ≤ 404 := by omega
        have hk1 : k + 1 ≤ 1099511627776 := by omega
        have hcv := fun W => conv_two (k / 256) (k % 256) (by omega) (by omega) W
        rw [show ((k / 256 : Nat) : Int) = (k : Int) / 256 by omega, show ((k % 256 : Nat) : Int) = (k : Int) % 256 by omega] at hcv
        obtain ⟨x, hx⟩ : ∃ x : ByteArray, x = nm2 k := ⟨_, rfl⟩
        have hx' : x = ⟨#[UInt8.ofNat (k / 256), UInt8.ofNat (k % 256)]⟩ := hx
        rw [← hx'] at hcv
        have Hx := Lib.hid hx
        have Hlt := Lib.hid hlt
        have hEb := (HE.out.below (w' := wr.alloc (Obj.cells #[Value.int .u8 ((k : Int) / 256), Value.int .u8 ((k : Int) % 256)] 5)) ((Below.refl _ _).alloc (Nat.le_refl _) _)).below (w' := (wr.alloc (Obj.cells #[Value.int .u8 ((k : Int) / 256), Value.int .u8 ((k : Int) % 256)] 5)).alloc (Obj.cells #[Value.string x, Value.slice none 0 0] 44)) ((Below.refl _ _).alloc (Nat.le_refl _) _)
        have HEb := Lib.hid hEb
        have hsz1 := HBl.out.size
        clear hx hx' hlt hEb
        go_wp2_with (at_builtin; refine wpList_append_row rfl (.tmp 29) (.tmp 38) _ _ rfl elem_edge rfl rfl HEb.out.own (src_edge _ x none 0 0 _ (by simp)) hk1 (by simp; omega) ?_; intro A4 c4 w4 ho4 hg4 hat4)
        have hP := HEb.out.push (u := .cons x .nil .nil) (us := [.string x, .slice none 0 0]) (RowP.one (show HoldsP _ _ none 0 .nil from rfl) (Nat.le_refl _) (Nat.zero_le _)) ho4 hg4 (fun a ha => (hat4 a ha).imp (fun e => Nat.le_of_eq e.symm) id)
        have hb4 : Below w1.heap.size w1 w4 := ((HBl.out.alloc HBl.out.size _).alloc (by simp; omega) _).grown hg4 (by simp; omega) (fun q hq => (HEb.out.own.lt q hq).1)
        have he : appT (lv 0 k) (.cons x .nil .nil) = lv 0 (k + 1) := by
          have := lv_snoc k 0
          rw [Nat.zero_add] at this
          rw [Hx.out]; exact this
        rw [he] at hP
        have HP4 := Lib.hid hP
        have HB4 := Lib.hid hb4
        clear hP he hb4
        go_wp2_with fail
        go_roundw
        case rel => exact ⟨k + 1, c4, A4, _, Hlt.out, by go_num, rfl, HP4, HB4⟩
        case measure => have := Hlt.out; simp [intOf]; omega
      · obtain rfl : k = q := by omega
        have hkn : ¬ (k : Int) < (k : Int) := by omega
        have Hbw : Hid (Below w.heap.size w wr) := Lib.hid (hb1.trans (HBl.out.mono hb1.size))
        have HB : Hid (Bnd wr A k c (lv 0 k) 4) := Lib.hid ⟨⟨HE.out.holds (Nat.le_refl _), HE.out.cap, by rw [lv_size]; omega, lv_nm _ _⟩, lv_fit _ _, by rw [lv_bulk]; omega, by rw [Hfl.out]; rfl⟩
        clear hlt HE HBl
        have HC := Lib.hid (bnd_check HB.out (Below.refl _ _))
        go_wp2_with fail
        (with_reducible refine HC.out.mono ?_)
        rintro e w4 ⟨rfl, hb4⟩
        have HBy := Lib.hid (bnd_bytes HB.out hb4)
        go_wp2_with fail
        (with_reducible refine HBy.out.mono ?_)
        rintro e w5 ⟨A5, n5, c5, rfl, ho5, hb5⟩
        have HPa := Lib.hid (bnd_parse HB.out ho5)
        have hb45 := hb4.trans (hb5.mono hb4.size)
        clear ho5 hb4 hb5
        go_wp2_with fail
        (with_reducible refine HPa.out.mono ?_)
        rintro e w6 ⟨A6, n6, c6, rfl, hb6, h60, h6t⟩
        have hb46 := hb45.trans (hb6.mono hb45.size)
        clear hb6 hb45
        obtain rfl : n6 = 0 := h60 (by decide)
        clear h60 h6t
        go_wp2_with fail
        go_ret
        exact ⟨rfl, Hbw.out.trans (hb46.mono Hbw.out.size)⟩
  · have hov : ¬ (2 : Int) < (m : Int) := by omega
    have hfl := lv_fault q (by omega)
    rw [if_neg (by omega)] at hfl
    have Hfl := Lib.hid hfl
    have hq404 : q ≤ 404 := by omega
    clear hfl hm5 hq hmo
    go_enter Try.func4, Try.ntmps4
    go_wp2_with fail
    refine hK.mono ?_
    rintro e w1 ⟨rfl, hb1⟩
    go_wp2_with fail
    refine (HW2.out _).mono ?_
    rintro e _ ⟨rfl, rfl⟩
    go_wp2_with fail
    refine (HW1.out _).mono ?_
    rintro e _ ⟨rfl, rfl⟩
    go_wp2_with fail
    go_loopw [5, 8] (fun v i wr => ∃ (k c : Nat) (A : Option Addr) (vs : List Value), k ≤ q ∧ i = .int .i64 k ∧ v = .slice A k c ∧ Hid (Edg wr w1.heap.size w1.heap.size A k c (lv 0 k) vs) ∧ Hid (Below w1.heap.size w1 wr)) (fun _ i _ => q - (intOf i).toNat)
    case atStart => exact ⟨0, 0, none, [], Nat.zero_le _, rfl, rfl, Lib.hid (Edg.nil _ _ _), Lib.hid (Below.refl _ _)⟩
    case round =>
      obtain ⟨k, c, A, vs, hk, rfl, rfl, HE, HBl⟩ := hrel
      by_cases hlt : k < q
      · have hkn : (k : Int) < (q : Int) := by omega
        have hk0 : (0 : Int) ≤ (k : Int) := by omega
        have hk4 : k ≤ 404 := by omega
        have hk1 : k + 1 ≤ 1099511627776 := by omega
        have hcv := fun W => conv_two (k / 256) (k % 256) (by omega) (by omega) W
        rw [show ((k / 256 : Nat) : Int) = (k : Int) / 256 by omega, show ((k % 256 : Nat) : Int) = (k : Int) % 256 by omega] at hcv
        obtain ⟨x, hx⟩ : ∃ x : ByteArray, x = nm2 k := ⟨_, rfl⟩
        have hx' : x = ⟨#[UInt8.ofNat (k / 256), UInt8.ofNat (k % 256)]⟩ := hx
        rw [← hx'] at hcv
        have Hx := Lib.hid hx
        have Hlt := Lib.hid hlt
        have hEb := (HE.out.below (w' := wr.alloc (Obj.cells #[Value.int .u8 ((k : Int) / 256), Value.int .u8 ((k : Int) % 256)] 5)) ((Below.refl _ _).alloc (Nat.le_refl _) _)).below (w' := (wr.alloc (Obj.cells #[Value.int .u8 ((k : Int) / 256), Value.int .u8 ((k : Int) % 256)] 5)).alloc (Obj.cells #[Value.string x, Value.slice none 0 0] 44)) ((Below.refl _ _).alloc (Nat.le_refl _) _)
        have HEb := Lib.hid hEb
        have hsz1 := HBl.out.size
        clear hx hx' hlt hEb
        go_wp2_with (at_builtin; refine wpList_append_row rfl (.tmp 29) (.tmp 38) _ _ rfl elem_edge rfl rfl HEb.out.own (src_edge _ x none 0 0 _ (by simp)) hk1 (by simp; omega) ?_; intro A4 c4 w4 ho4 hg4 hat4)
        have hP := HEb.out.push (u := .cons x .nil .nil) (us := [.string x, .slice none 0 0]) (RowP.one (show HoldsP _ _ none 0 .nil from rfl) (Nat.le_refl _) (Nat.zero_le _)) ho4 hg4 (fun a ha => (hat4 a ha).imp (fun e => Nat.le_of_eq e.symm) id)
        have hb4 : Below w1.heap.size w1 w4 := ((HBl.out.alloc HBl.out.size _).alloc (by simp; omega) _).grown hg4 (by simp; omega) (fun q hq => (HEb.out.own.lt q hq).1)
        have he : appT (lv 0 k) (.cons x .nil .nil) = lv 0 (k + 1) := by
          have := lv_snoc k 0
          rw [Nat.zero_add] at this
          rw [Hx.out]; exact this
        rw [he] at hP
        have HP4 := Lib.hid hP
        have HB4 := Lib.hid hb4
        clear hP he hb4
        go_wp2_with fail
        go_roundw
        case rel => exact ⟨k + 1, c4, A4, _, Hlt.out, by go_num, rfl, HP4, HB4⟩
        case measure => have := Hlt.out; simp [intOf]; omega
      · obtain rfl : k = q := by omega
        have hkn : ¬ (k : Int) < (k : Int) := by omega
        have Hbw : Hid (Below w.heap.size w wr) := Lib.hid (hb1.trans (HBl.out.mono hb1.size))
        have HB : Hid (Bnd wr A k c (lv 0 k) 0) := Lib.hid ⟨⟨HE.out.holds (Nat.le_refl _), HE.out.cap, by rw [lv_size]; omega, lv_nm _ _⟩, lv_fit _ _, by rw [lv_bulk]; omega, by rw [Hfl.out]; rfl⟩
        clear hlt HE HBl
        have HC := Lib.hid (bnd_check HB.out (Below.refl _ _))
        go_wp2_with fail
        (with_reducible refine HC.out.mono ?_)
        rintro e w4 ⟨rfl, hb4⟩
        have HBy := Lib.hid (bnd_bytes HB.out hb4)
        go_wp2_with fail
        (with_reducible refine HBy.out.mono ?_)
        rintro e w5 ⟨A5, n5, c5, rfl, ho5, hb5⟩
        have HPa := Lib.hid (bnd_parse HB.out ho5)
        have hb45 := hb4.trans (hb5.mono hb4.size)
        clear ho5 hb4 hb5
        go_wp2_with fail
        (with_reducible refine HPa.out.mono ?_)
        rintro e w6 ⟨A6, n6, c6, rfl, hb6, h60, h6t⟩
        have hb46 := hb45.trans (hb6.mono hb45.size)
        clear hb6 hb45
        have HS := Lib.hid (bnd_same (c3 := c6) HB.out hb46 (h6t (by first | trivial | rfl)))
        clear h60 h6t
        go_wp2_with fail
        (with_reducible refine HS.out.mono ?_)
        rintro e w7 ⟨rfl, hb7⟩
        have hb47 := hb46.trans (hb7.mono hb46.size)
        go_wp2_with fail
        go_ret
        exact ⟨rfl, Hbw.out.trans (hb47.mono Hbw.out.size)⟩

set_option maxHeartbeats 4000000 in
theorem tb_1 (a1 a2 : Int) (w : World) (w1 : (Lit.int .i64 a1).wf = true) (w2 : (Lit.int .i64 a2).wf = true) (hk : a1 % 4 = 1) :
    Calls Try.prog 4 #[.int .i64 a1, .int .i64 a2] w fun e w' => e = .returned (.bool true) ∧ Below w.heap.size w w' := by
  have hK := known_any w
  have hW1 := within_any a1 4 (by omega) (by omega) w1
  have hW2 := within_any a2 6 (by omega) (by omega) w2
  rw [hk] at hW1
  obtain ⟨m, hm, hm5⟩ : ∃ m : Nat, a2 % 6 = (m : Int) ∧ m ≤ 5 := ⟨(a2 % 6).toNat, by omega, by omega⟩
  rw [hm] at hW2
  have HW1 := Lib.hid hW1
  have HW2 := Lib.hid hW2
  clear hW1 hW2 hm hk w1 w2
  obtain ⟨q, hq⟩ : ∃ q, q = 10 + m := ⟨_, rfl⟩
  have hqm : 10 + (m : Int) = (q : Int) := by omega
  have hw10 : wrap64 (10 + (m : Int)) = (q : Int) := by unfold wrap64; omega
  have hwq : wrap64 (q : Int) = (q : Int) := by unfold wrap64; omega
  rcases Nat.lt_or_ge 2 m with hmo | hmo
  · have hov : (2 : Int) < (m : Int) := by omega
    have hfl := dp_fault q (by omega)
    rw [if_pos (by omega)] at hfl
    have Hfl := Lib.hid hfl
    have hq15 : q ≤ 15 := by omega
    clear hfl hm5 hq hmo
    go_enter Try.func4, Try.ntmps4
    go_wp2_with fail
    refine hK.mono ?_
    rintro e w1 ⟨rfl, hb1⟩
    go_wp2_with fail
    refine (HW2.out _).mono ?_
    rintro e _ ⟨rfl, rfl⟩
    go_wp2_with fail
    refine (HW1.out _).mono ?_
    rintro e _ ⟨rfl, rfl⟩
    go_wp2_with fail
    go_loopw [5, 9] (fun v i wr => ∃ (k n c : Nat) (A : Option Addr), k ≤ q ∧ i = .int .i64 k ∧ v = .slice A n c ∧ Hid (Okay wr A n c (dp k)) ∧ Hid (Below w1.heap.size w1 wr)) (fun _ i _ => q - (intOf i).toNat)
    case atStart => exact ⟨0, 0, 0, none, Nat.zero_le _, rfl, rfl, Lib.hid ⟨(show (0 : Nat) = 0 from rfl), ⟨Nat.le_refl _, Nat.zero_le _⟩, Nat.zero_le _, trivial⟩, Lib.hid (Below.refl _ _)⟩
    case round =>
      obtain ⟨k, n, c, A, hk, rfl, rfl, HO, HBl⟩ := hrel
      by_cases hlt : k < q
      · have hkn : (k : Int) < (q : Int) := by omega
        have Hlt := Lib.hid hlt
        clear hlt
        go_wp2_with fail
        have hg : (wr.alloc (Obj.cells #[Value.string ⟨#[100]⟩, Value.slice A n c] 44)).heap[wr.heap.size]? = some (Obj.cells #[Value.string ⟨#[100]⟩, Value.slice A n c] 44) := heap_alloc_new wr _
        have hba : Below wr.heap.size wr (wr.alloc (Obj.cells #[Value.string ⟨#[100]⟩, Value.slice A n c] 44)) := (Below.refl _ _).alloc (Nat.le_refl _) _
        have hO := HO.out.below hba
        have hok : Okay (wr.alloc (Obj.cells #[Value.string ⟨#[100]⟩, Value.slice A n c] 44)) (some ⟨wr.heap.size, 0, none⟩) 1 1 (dp (k + 1)) :=
          ⟨⟨wr.heap.size, 0, rfl, by simp, by rw [cell_of_row _ _ _ _ _ _ hg]; rfl, ⟨A, n, c, by rw [cell_of_row _ _ _ _ _ _ hg]; rfl, hO.cap.1, hO.cap.2, hO.holds⟩, 0, rfl, rfl⟩, ⟨Nat.le_refl _, by simp [maxLen]⟩, by rw [dp_size]; omega, dp_nm _⟩
        have Hok2 := Lib.hid hok
        have HB2 := Lib.hid (HBl.out.trans (hba.mono HBl.out.size))
        clear hok hO hg hba
        go_roundw
        case rel => exact ⟨k + 1, 1, 1, _, Hlt.out, by go_num, rfl, Hok2, HB2⟩
        case measure => have := Hlt.out; simp [intOf]; omega
      · obtain rfl : k = q := by omega
        have hkn : ¬ (k : Int) < (k : Int) := by omega
        have Hbw : Hid (Below w.heap.size w wr) := Lib.hid (hb1.trans (HBl.out.mono hb1.size))
        have HB : Hid (Bnd wr A n c (dp k) 11) := Lib.hid ⟨HO.out, dp_fit _, by rw [dp_bulk]; omega, by rw [Hfl.out]; rfl⟩
        clear hlt HO HBl
        have HC := Lib.hid (bnd_check HB.out (Below.refl _ _))
        go_wp2_with fail
        (with_reducible refine HC.out.mono ?_)
        rintro e w4 ⟨rfl, hb4⟩
        have HBy := Lib.hid (bnd_bytes HB.out hb4)
        go_wp2_with fail
        (with_reducible refine HBy.out.mono ?_)
        rintro e w5 ⟨A5, n5, c5, rfl, ho5, hb5⟩
        have HPa := Lib.hid (bnd_parse HB.out ho5)
        have hb45 := hb4.trans (hb5.mono hb4.size)
        clear ho5 hb4 hb5
        go_wp2_with fail
        (with_reducible refine HPa.out.mono ?_)
        rintro e w6 ⟨A6, n6, c6, rfl, hb6, h60, h6t⟩
        have hb46 := hb45.trans (hb6.mono hb45.size)
        clear hb6 hb45
        obtain rfl : n6 = 0 := h60 (by decide)
        clear h60 h6t
        go_wp2_with fail
        go_ret
        exact ⟨rfl, Hbw.out.trans (hb46.mono Hbw.out.size)⟩
  · have hov : ¬ (2 : Int) < (m : Int) := by omega
    have hfl := dp_fault q (by omega)
    rw [if_neg (by omega)] at hfl
    have Hfl := Lib.hid hfl
    have hq15 : q ≤ 15 := by omega
    clear hfl hm5 hq hmo
    go_enter Try.func4, Try.ntmps4
    go_wp2_with fail
    refine hK.mono ?_
    rintro e w1 ⟨rfl, hb1⟩
    go_wp2_with fail
    refine (HW2.out _).mono ?_
    rintro e _ ⟨rfl, rfl⟩
    go_wp2_with fail
    refine (HW1.out _).mono ?_
    rintro e _ ⟨rfl, rfl⟩
    go_wp2_with fail
    go_loopw [5, 9] (fun v i wr => ∃ (k n c : Nat) (A : Option Addr), k ≤ q ∧ i = .int .i64 k ∧ v = .slice A n c ∧ Hid (Okay wr A n c (dp k)) ∧ Hid (Below w1.heap.size w1 wr)) (fun _ i _ => q - (intOf i).toNat)
    case atStart => exact ⟨0, 0, 0, none, Nat.zero_le _, rfl, rfl, Lib.hid ⟨(show (0 : Nat) = 0 from rfl), ⟨Nat.le_refl _, Nat.zero_le _⟩, Nat.zero_le _, trivial⟩, Lib.hid (Below.refl _ _)⟩
    case round =>
      obtain ⟨k, n, c, A, hk, rfl, rfl, HO, HBl⟩ := hrel
      by_cases hlt : k < q
      · have hkn : (k : Int) < (q : Int) := by omega
        have Hlt := Lib.hid hlt
        clear hlt
        go_wp2_with fail
        have hg : (wr.alloc (Obj.cells #[Value.string ⟨#[100]⟩, Value.slice A n c] 44)).heap[wr.heap.size]? = some (Obj.cells #[Value.string ⟨#[100]⟩, Value.slice A n c] 44) := heap_alloc_new wr _
        have hba : Below wr.heap.size wr (wr.alloc (Obj.cells #[Value.string ⟨#[100]⟩, Value.slice A n c] 44)) := (Below.refl _ _).alloc (Nat.le_refl _) _
        have hO := HO.out.below hba
        have hok : Okay (wr.alloc (Obj.cells #[Value.string ⟨#[100]⟩, Value.slice A n c] 44)) (some ⟨wr.heap.size, 0, none⟩) 1 1 (dp (k + 1)) :=
          ⟨⟨wr.heap.size, 0, rfl, by simp, by rw [cell_of_row _ _ _ _ _ _ hg]; rfl, ⟨A, n, c, by rw [cell_of_row _ _ _ _ _ _ hg]; rfl, hO.cap.1, hO.cap.2, hO.holds⟩, 0, rfl, rfl⟩, ⟨Nat.le_refl _, by simp [maxLen]⟩, by rw [dp_size]; omega, dp_nm _⟩
        have Hok2 := Lib.hid hok
        have HB2 := Lib.hid (HBl.out.trans (hba.mono HBl.out.size))
        clear hok hO hg hba
        go_roundw
        case rel => exact ⟨k + 1, 1, 1, _, Hlt.out, by go_num, rfl, Hok2, HB2⟩
        case measure => have := Hlt.out; simp [intOf]; omega
      · obtain rfl : k = q := by omega
        have hkn : ¬ (k : Int) < (k : Int) := by omega
        have Hbw : Hid (Below w.heap.size w wr) := Lib.hid (hb1.trans (HBl.out.mono hb1.size))
        have HB : Hid (Bnd wr A n c (dp k) 0) := Lib.hid ⟨HO.out, dp_fit _, by rw [dp_bulk]; omega, by rw [Hfl.out]; rfl⟩
        clear hlt HO HBl
        have HC := Lib.hid (bnd_check HB.out (Below.refl _ _))
        go_wp2_with fail
        (with_reducible refine HC.out.mono ?_)
        rintro e w4 ⟨rfl, hb4⟩
        have HBy := Lib.hid (bnd_bytes HB.out hb4)
        go_wp2_with fail
        (with_reducible refine HBy.out.mono ?_)
        rintro e w5 ⟨A5, n5, c5, rfl, ho5, hb5⟩
        have HPa := Lib.hid (bnd_parse HB.out ho5)
        have hb45 := hb4.trans (hb5.mono hb4.size)
        clear ho5 hb4 hb5
        go_wp2_with fail
        (with_reducible refine HPa.out.mono ?_)
        rintro e w6 ⟨A6, n6, c6, rfl, hb6, h60, h6t⟩
        have hb46 := hb45.trans (hb6.mono hb45.size)
        clear hb6 hb45
        have HS := Lib.hid (bnd_same (c3 := c6) HB.out hb46 (h6t (by first | trivial | rfl)))
        clear h60 h6t
        go_wp2_with fail
        (with_reducible refine HS.out.mono ?_)
        rintro e w7 ⟨rfl, hb7⟩
        have hb47 := hb46.trans (hb7.mono hb46.size)
        go_wp2_with fail
        go_ret
        exact ⟨rfl, Hbw.out.trans (hb47.mono Hbw.out.size)⟩

set_option maxHeartbeats 4000000 in
theorem tb_2 (a1 a2 : Int) (w : World) (w1 : (Lit.int .i64 a1).wf = true) (w2 : (Lit.int .i64 a2).wf = true) (hk : a1 % 4 = 2) :
    Calls Try.prog 4 #[.int .i64 a1, .int .i64 a2] w fun e w' => e = .returned (.bool true) ∧ Below w.heap.size w w' := by
  have hK := known_any w
  have hW1 := within_any a1 4 (by omega) (by omega) w1
  have hW2 := within_any a2 6 (by omega) (by omega) w2
  rw [hk] at hW1
  obtain ⟨m, hm, hm5⟩ : ∃ m : Nat, a2 % 6 = (m : Int) ∧ m ≤ 5 := ⟨(a2 % 6).toNat, by omega, by omega⟩
  rw [hm] at hW2
  have HW1 := Lib.hid hW1
  have HW2 := Lib.hid hW2
  clear hW1 hW2 hm hk w1 w2
  obtain ⟨q, hq⟩ : ∃ q, q = 78 + m := ⟨_, rfl⟩
  have hqm : 78 + (m : Int) = (q : Int) := by omega
  have hw78 : wrap64 (78 + (m : Int)) = (q : Int) := by unfold wrap64; omega
  have hwq : wrap64 (q : Int) = (q : Int) := by unfold wrap64; omega
  obtain ⟨arr, z, hz, hmk, hcz⟩ := conv_zeros q (by omega)
  have hq83 : q ≤ 83 := by omega
  rcases Nat.lt_or_ge 2 m with hmo | hmo
  · have hov : (2 : Int) < (m : Int) := by omega
    have hfl := one_fault z
    rw [if_pos (by omega)] at hfl
    have Hfl := Lib.hid hfl
    have Hz := Lib.hid hz
    clear hfl hm5 hq hmo hz
    go_enter Try.func4, Try.ntmps4
    go_wp2_with fail
    refine hK.mono ?_
    rintro e w1 ⟨rfl, hb1⟩
    go_wp2_with fail
    refine (HW2.out _).mono ?_
    rintro e _ ⟨rfl, rfl⟩
    go_wp2_with fail
    refine (HW1.out _).mono ?_
    rintro e _ ⟨rfl, rfl⟩
    go_wp2_with fail
    obtain ⟨Wx, hWx⟩ : ∃ W, W = (w1.alloc (.cells arr 5)).alloc (Obj.cells #[Value.string z, Value.slice none 0 0] 44) := ⟨_, rfl⟩
    rw [← hWx]
    have HWx := Lib.hid hWx
    clear hWx
    have hbx : Below w1.heap.size w1 Wx := by rw [HWx.out]; exact ((Below.refl _ _).alloc (Nat.le_refl _) _).alloc (by simp) _
    have hxg : Wx.heap[w1.heap.size + 1]? = some (Obj.cells #[Value.string z, Value.slice none 0 0] 44) := by
      rw [HWx.out]
      have := heap_alloc_new (w1.alloc (.cells arr 5)) (Obj.cells #[Value.string z, Value.slice none 0 0] 44)
      simpa using this
    have hxl := (Array.getElem?_eq_some_iff.1 hxg).1
    have Hbw : Hid (Below w.heap.size w Wx) := Lib.hid (hb1.trans (hbx.mono hb1.size))
    have hok : Okay Wx (some ⟨w1.heap.size + 1, 0, none⟩) 1 1 (.cons z .nil .nil) :=
      ⟨Holds.leaf hxl (by rw [cell_of_row _ _ _ _ _ _ hxg]; rfl) (by rw [cell_of_row _ _ _ _ _ _ hxg]; rfl) rfl, ⟨Nat.le_refl _, by simp [maxLen]⟩, by simp [Tr.size], by have := Hz.out; show z.size ≤ _; omega, trivial, trivial⟩
    have HB : Hid (Bnd Wx (some ⟨w1.heap.size + 1, 0, none⟩) 1 1 (.cons z .nil .nil) 5) := Lib.hid ⟨hok, ⟨by have := Hz.out; omega, Nat.zero_le _, trivial, trivial⟩, by have := Hz.out; simp [Tr.bulk]; omega, by rw [Hfl.out]; rfl⟩
    clear hok hxg hxl hbx hmk hcz
    have HC := Lib.hid (bnd_check HB.out (Below.refl _ _))
    go_wp2_with fail
    (with_reducible refine HC.out.mono ?_)
    rintro e w4 ⟨rfl, hb4⟩
    have HBy := Lib.hid (bnd_bytes HB.out hb4)
    go_wp2_with fail
    (with_reducible refine HBy.out.mono ?_)
    rintro e w5 ⟨A5, n5, c5, rfl, ho5, hb5⟩
    have HPa := Lib.hid (bnd_parse HB.out ho5)
    have hb45 := hb4.trans (hb5.mono hb4.size)
    clear ho5 hb4 hb5
    go_wp2_with fail
    (with_reducible refine HPa.out.mono ?_)
    rintro e w6 ⟨A6, n6, c6, rfl, hb6, h60, h6t⟩
    have hb46 := hb45.trans (hb6.mono hb45.size)
    clear hb6 hb45
    obtain rfl : n6 = 0 := h60 (by decide)
    clear h60 h6t
    go_wp2_with fail
    go_ret
    exact ⟨rfl, Hbw.out.trans (hb46.mono Hbw.out.size)⟩
  · have hov : ¬ (2 : Int) < (m : Int) := by omega
    have hfl := one_fault z
    rw [if_neg (by omega)] at hfl
    have Hfl := Lib.hid hfl
    have Hz := Lib.hid hz
    clear hfl hm5 hq hmo hz
    go_enter Try.func4, Try.ntmps4
    go_wp2_with fail
    refine hK.mono ?_
    rintro e w1 ⟨rfl, hb1⟩
    go_wp2_with fail
    refine (HW2.out _).mono ?_
    rintro e _ ⟨rfl, rfl⟩
    go_wp2_with fail
    refine (HW1.out _).mono ?_
    rintro e _ ⟨rfl, rfl⟩
    go_wp2_with fail
    obtain ⟨Wx, hWx⟩ : ∃ W, W = (w1.alloc (.cells arr 5)).alloc (Obj.cells #[Value.string z, Value.slice none 0 0] 44) := ⟨_, rfl⟩
    rw [← hWx]
    have HWx := Lib.hid hWx
    clear hWx
    have hbx : Below w1.heap.size w1 Wx := by rw [HWx.out]; exact ((Below.refl _ _).alloc (Nat.le_refl _) _).alloc (by simp) _
    have hxg : Wx.heap[w1.heap.size + 1]? = some (Obj.cells #[Value.string z, Value.slice none 0 0] 44) := by
      rw [HWx.out]
      have := heap_alloc_new (w1.alloc (.cells arr 5)) (Obj.cells #[Value.string z, Value.slice none 0 0] 44)
      simpa using this
    have hxl := (Array.getElem?_eq_some_iff.1 hxg).1
    have Hbw : Hid (Below w.heap.size w Wx) := Lib.hid (hb1.trans (hbx.mono hb1.size))
    have hok : Okay Wx (some ⟨w1.heap.size + 1, 0, none⟩) 1 1 (.cons z .nil .nil) :=
      ⟨Holds.leaf hxl (by rw [cell_of_row _ _ _ _ _ _ hxg]; rfl) (by rw [cell_of_row _ _ _ _ _ _ hxg]; rfl) rfl, ⟨Nat.le_refl _, by simp [maxLen]⟩, by simp [Tr.size], by have := Hz.out; show z.size ≤ _; omega, trivial, trivial⟩
    have HB : Hid (Bnd Wx (some ⟨w1.heap.size + 1, 0, none⟩) 1 1 (.cons z .nil .nil) 0) := Lib.hid ⟨hok, ⟨by have := Hz.out; omega, Nat.zero_le _, trivial, trivial⟩, by have := Hz.out; simp [Tr.bulk]; omega, by rw [Hfl.out]; rfl⟩
    clear hok hxg hxl hbx hmk hcz
    have HC := Lib.hid (bnd_check HB.out (Below.refl _ _))
    go_wp2_with fail
    (with_reducible refine HC.out.mono ?_)
    rintro e w4 ⟨rfl, hb4⟩
    have HBy := Lib.hid (bnd_bytes HB.out hb4)
    go_wp2_with fail
    (with_reducible refine HBy.out.mono ?_)
    rintro e w5 ⟨A5, n5, c5, rfl, ho5, hb5⟩
    have HPa := Lib.hid (bnd_parse HB.out ho5)
    have hb45 := hb4.trans (hb5.mono hb4.size)
    clear ho5 hb4 hb5
    go_wp2_with fail
    (with_reducible refine HPa.out.mono ?_)
    rintro e w6 ⟨A6, n6, c6, rfl, hb6, h60, h6t⟩
    have hb46 := hb45.trans (hb6.mono hb45.size)
    clear hb6 hb45
    have HS := Lib.hid (bnd_same (c3 := c6) HB.out hb46 (h6t (by first | trivial | rfl)))
    clear h60 h6t
    go_wp2_with fail
    (with_reducible refine HS.out.mono ?_)
    rintro e w7 ⟨rfl, hb7⟩
    have hb47 := hb46.trans (hb7.mono hb46.size)
    go_wp2_with fail
    go_ret
    exact ⟨rfl, Hbw.out.trans (hb47.mono Hbw.out.size)⟩

set_option maxHeartbeats 4000000 in
theorem tb_3 (a1 a2 : Int) (w : World) (w1 : (Lit.int .i64 a1).wf = true) (w2 : (Lit.int .i64 a2).wf = true) (hk : a1 % 4 = 3) :
    Calls Try.prog 4 #[.int .i64 a1, .int .i64 a2] w fun e w' => e = .returned (.bool true) ∧ Below w.heap.size w w' := by
  have hK := known_any w
  have hW1 := within_any a1 4 (by omega) (by omega) w1
  have hW2 := within_any a2 6 (by omega) (by omega) w2
  rw [hk] at hW1
  obtain ⟨m, hm, hm5⟩ : ∃ m : Nat, a2 % 6 = (m : Int) ∧ m ≤ 5 := ⟨(a2 % 6).toNat, by omega, by omega⟩
  rw [hm] at hW2
  have HW1 := Lib.hid hW1
  have HW2 := Lib.hid hW2
  clear hW1 hW2 hm hk w1 w2
  obtain ⟨q, hq⟩ : ∃ q, q = 102 - m := ⟨_, rfl⟩
  have hqm : 102 - (m : Int) = (q : Int) := by omega
  have hw102 : wrap64 (102 - (m : Int)) = (q : Int) := by unfold wrap64; omega
  have hwq : wrap64 (q : Int) = (q : Int) := by unfold wrap64; omega
  have hq102 : q ≤ 102 := by omega
  have hwu : IntKind.u8.wrap (q : Int) = (q : Int) := by rw [IntKind.wrap_u8]; omega
  have hcv := fun W => conv_one q (by omega) W
  obtain ⟨z, hz⟩ : ∃ z : ByteArray, z = ⟨#[UInt8.ofNat q]⟩ := ⟨_, rfl⟩
  rw [← hz] at hcv
  have hzs : z.size = 1 := by rw [hz]; rfl
  have htwo : two2 m = .cons ⟨#[98]⟩ .nil (.cons z .nil .nil) := by rw [hz, hq]; rfl
  rcases Nat.lt_or_ge 3 m with hmo | hmo
  · have hov : (4 : Int) ≤ (m : Int) := by omega
    have hfl := two_fault m hm5
    rw [if_pos (by omega), htwo] at hfl
    have Hfl := Lib.hid hfl
    have Hz := Lib.hid hzs
    clear hfl hm5 hq hmo hz hzs htwo
    go_enter Try.func4, Try.ntmps4
    go_wp2_with fail
    refine hK.mono ?_
    rintro e w1 ⟨rfl, hb1⟩
    go_wp2_with fail
    refine (HW2.out _).mono ?_
    rintro e _ ⟨rfl, rfl⟩
    go_wp2_with fail
    refine (HW1.out _).mono ?_
    rintro e _ ⟨rfl, rfl⟩
    go_wp2_with fail
    obtain ⟨Wx, hWx⟩ : ∃ W, W = (w1.alloc (.cells #[Value.int .u8 (q : Int)] 5)).alloc (Obj.cells #[Value.string ⟨#[98]⟩, Value.slice none 0 0, Value.string z, Value.slice none 0 0] 44) := ⟨_, rfl⟩
    rw [← hWx]
    have HWx := Lib.hid hWx
    clear hWx
    have hbx : Below w1.heap.size w1 Wx := by rw [HWx.out]; exact ((Below.refl _ _).alloc (Nat.le_refl _) _).alloc (by simp) _
    have hxg : Wx.heap[w1.heap.size + 1]? = some (Obj.cells #[Value.string ⟨#[98]⟩, Value.slice none 0 0, Value.string z, Value.slice none 0 0] 44) := by
      rw [HWx.out]
      have := heap_alloc_new (w1.alloc (.cells #[Value.int .u8 (q : Int)] 5)) (Obj.cells #[Value.string ⟨#[98]⟩, Value.slice none 0 0, Value.string z, Value.slice none 0 0] 44)
      simpa using this
    have hxl := (Array.getElem?_eq_some_iff.1 hxg).1
    have Hbw : Hid (Below w.heap.size w Wx) := Lib.hid (hb1.trans (hbx.mono hb1.size))
    have hok : Okay Wx (some ⟨w1.heap.size + 1, 0, none⟩) 2 2 (.cons ⟨#[98]⟩ .nil (.cons z .nil .nil)) :=
      ⟨Holds.leaf hxl (by rw [cell_of_row _ _ _ _ _ _ hxg]; rfl) (by rw [cell_of_row _ _ _ _ _ _ hxg]; rfl) (Holds.leaf hxl (by rw [cell_of_row _ _ _ _ _ _ hxg]; rfl) (by rw [cell_of_row _ _ _ _ _ _ hxg]; rfl) rfl), ⟨Nat.le_refl _, by simp [maxLen]⟩, by simp [Tr.size], by show (1 : Nat) ≤ _; omega, trivial, by have := Hz.out; show z.size ≤ _; omega, trivial, trivial⟩
    have HB : Hid (Bnd Wx (some ⟨w1.heap.size + 1, 0, none⟩) 2 2 (.cons ⟨#[98]⟩ .nil (.cons z .nil .nil)) 12) := Lib.hid ⟨hok, ⟨by show (1 : Nat) ≤ _; omega, Nat.zero_le _, trivial, by have := Hz.out; omega, Nat.zero_le _, trivial, trivial⟩, by have := Hz.out; have e : (ByteArray.mk #[98]).size = 1 := rfl; simp only [Tr.bulk]; omega, by rw [Hfl.out]; rfl⟩
    clear hok hxg hxl hbx hcv hwu
    have HC := Lib.hid (bnd_check HB.out (Below.refl _ _))
    go_wp2_with fail
    (with_reducible refine HC.out.mono ?_)
    rintro e w4 ⟨rfl, hb4⟩
    have HBy := Lib.hid (bnd_bytes HB.out hb4)
    go_wp2_with fail
    (with_reducible refine HBy.out.mono ?_)
    rintro e w5 ⟨A5, n5, c5, rfl, ho5, hb5⟩
    have HPa := Lib.hid (bnd_parse HB.out ho5)
    have hb45 := hb4.trans (hb5.mono hb4.size)
    clear ho5 hb4 hb5
    go_wp2_with fail
    (with_reducible refine HPa.out.mono ?_)
    rintro e w6 ⟨A6, n6, c6, rfl, hb6, h60, h6t⟩
    have hb46 := hb45.trans (hb6.mono hb45.size)
    clear hb6 hb45
    obtain rfl : n6 = 0 := h60 (by decide)
    clear h60 h6t
    go_wp2_with fail
    go_ret
    exact ⟨rfl, Hbw.out.trans (hb46.mono Hbw.out.size)⟩
  · have hov : ¬ (4 : Int) ≤ (m : Int) := by omega
    have hfl := two_fault m hm5
    rw [if_neg (by omega), htwo] at hfl
    have Hfl := Lib.hid hfl
    have Hz := Lib.hid hzs
    clear hfl hm5 hq hmo hz hzs htwo
    go_enter Try.func4, Try.ntmps4
    go_wp2_with fail
    refine hK.mono ?_
    rintro e w1 ⟨rfl, hb1⟩
    go_wp2_with fail
    refine (HW2.out _).mono ?_
    rintro e _ ⟨rfl, rfl⟩
    go_wp2_with fail
    refine (HW1.out _).mono ?_
    rintro e _ ⟨rfl, rfl⟩
    go_wp2_with fail
    obtain ⟨Wx, hWx⟩ : ∃ W, W = (w1.alloc (.cells #[Value.int .u8 (q : Int)] 5)).alloc (Obj.cells #[Value.string ⟨#[98]⟩, Value.slice none 0 0, Value.string z, Value.slice none 0 0] 44) := ⟨_, rfl⟩
    rw [← hWx]
    have HWx := Lib.hid hWx
    clear hWx
    have hbx : Below w1.heap.size w1 Wx := by rw [HWx.out]; exact ((Below.refl _ _).alloc (Nat.le_refl _) _).alloc (by simp) _
    have hxg : Wx.heap[w1.heap.size + 1]? = some (Obj.cells #[Value.string ⟨#[98]⟩, Value.slice none 0 0, Value.string z, Value.slice none 0 0] 44) := by
      rw [HWx.out]
      have := heap_alloc_new (w1.alloc (.cells #[Value.int .u8 (q : Int)] 5)) (Obj.cells #[Value.string ⟨#[98]⟩, Value.slice none 0 0, Value.string z, Value.slice none 0 0] 44)
      simpa using this
    have hxl := (Array.getElem?_eq_some_iff.1 hxg).1
    have Hbw : Hid (Below w.heap.size w Wx) := Lib.hid (hb1.trans (hbx.mono hb1.size))
    have hok : Okay Wx (some ⟨w1.heap.size + 1, 0, none⟩) 2 2 (.cons ⟨#[98]⟩ .nil (.cons z .nil .nil)) :=
      ⟨Holds.leaf hxl (by rw [cell_of_row _ _ _ _ _ _ hxg]; rfl) (by rw [cell_of_row _ _ _ _ _ _ hxg]; rfl) (Holds.leaf hxl (by rw [cell_of_row _ _ _ _ _ _ hxg]; rfl) (by rw [cell_of_row _ _ _ _ _ _ hxg]; rfl) rfl), ⟨Nat.le_refl _, by simp [maxLen]⟩, by simp [Tr.size], by show (1 : Nat) ≤ _; omega, trivial, by have := Hz.out; show z.size ≤ _; omega, trivial, trivial⟩
    have HB : Hid (Bnd Wx (some ⟨w1.heap.size + 1, 0, none⟩) 2 2 (.cons ⟨#[98]⟩ .nil (.cons z .nil .nil)) 0) := Lib.hid ⟨hok, ⟨by show (1 : Nat) ≤ _; omega, Nat.zero_le _, trivial, by have := Hz.out; omega, Nat.zero_le _, trivial, trivial⟩, by have := Hz.out; have e : (ByteArray.mk #[98]).size = 1 := rfl; simp only [Tr.bulk]; omega, by rw [Hfl.out]; rfl⟩
    clear hok hxg hxl hbx hcv hwu
    have HC := Lib.hid (bnd_check HB.out (Below.refl _ _))
    go_wp2_with fail
    (with_reducible refine HC.out.mono ?_)
    rintro e w4 ⟨rfl, hb4⟩
    have HBy := Lib.hid (bnd_bytes HB.out hb4)
    go_wp2_with fail
    (with_reducible refine HBy.out.mono ?_)
    rintro e w5 ⟨A5, n5, c5, rfl, ho5, hb5⟩
    have HPa := Lib.hid (bnd_parse HB.out ho5)
    have hb45 := hb4.trans (hb5.mono hb4.size)
    clear ho5 hb4 hb5
    go_wp2_with fail
    (with_reducible refine HPa.out.mono ?_)
    rintro e w6 ⟨A6, n6, c6, rfl, hb6, h60, h6t⟩
    have hb46 := hb45.trans (hb6.mono hb45.size)
    clear hb6 hb45
    have HS := Lib.hid (bnd_same (c3 := c6) HB.out hb46 (h6t (by first | trivial | rfl)))
    clear h60 h6t
    go_wp2_with fail
    (with_reducible refine HS.out.mono ?_)
    rintro e w7 ⟨rfl, hb7⟩
    have hb47 := hb46.trans (hb7.mono hb46.size)
    go_wp2_with fail
    go_ret
    exact ⟨rfl, Hbw.out.trans (hb47.mono Hbw.out.size)⟩

theorem treeBounds_walk (a1 a2 : Int) (w : World) (w1 : (Lit.int .i64 a1).wf = true) (w2 : (Lit.int .i64 a2).wf = true) :
    Calls Try.prog 4 #[.int .i64 a1, .int .i64 a2] w fun e w' => e = .returned (.bool true) ∧ Below w.heap.size w w' := by
  have h : a1 % 4 = 0 ∨ a1 % 4 = 1 ∨ a1 % 4 = 2 ∨ a1 % 4 = 3 := by omega
  rcases h with h | h | h | h
  · exact tb_0 a1 a2 w w1 w2 h
  · exact tb_1 a1 a2 w w1 w2 h
  · exact tb_2 a1 a2 w w1 w2 h
  · exact tb_3 a1 a2 w w1 w2 h
end Go.Proofs.Ytebiinjcegdmpaa.Ps
