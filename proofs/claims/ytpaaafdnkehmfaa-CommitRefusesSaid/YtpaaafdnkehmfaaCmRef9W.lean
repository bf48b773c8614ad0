/- CommitRefuses, walked. No conditions. -/
import Derived.Test.YtpaaafdnkehmfaaCmLaw
namespace Go.Proofs.Ytpaaafdnkehmfaa.Vf
open Go.RowKit
set_option maxRecDepth 100000

section
variable {w0 w W : World} {B p g N : Nat} {V : Vm} {P : Nat → Prop}
theorem Vs.namesz (h : Vs w0 w B p N V) (hN : N ≤ 1099511627776) : Calls Try.prog 32 #[.pointer (some ⟨p, 0, none⟩)] w fun e w' => ∃ A c, e = .returned (.slice A (V.now.map (·.1)).length c) ∧ Vs w0 w' B p N V :=
  (names_any h.vp h.lim hN).mono fun _ _ ⟨A, c, h1, _, h3⟩ => ⟨A, c, h1, h.below h3⟩
theorem sees1 {u : UInt8} (h : Bx W g [byt u] 5) (hp : P g) : SeesP W P (some ⟨g, 0, none⟩) 1 [u] := ⟨rfl, fun j v hv => by
  have hj : j = 0 := by
    have := (List.getElem?_eq_some_iff.1 hv).1
    simp at this
    exact this
  subst hj
  simp at hv
  subst hv
  exact ⟨g, 0, rfl, hp, h.cells 0⟩⟩
theorem fr_row3 {x0 x1 x2 b0 b1 b2 : BS} {A0 A1 A2 : Option Addr} {n0 n1 n2 c0 c1 c2 : Nat} (h : Bx W g [.string ⟨x0.toArray⟩, .slice A0 n0 c0, .string ⟨x1.toArray⟩, .slice A1 n1 c1, .string ⟨x2.toArray⟩, .slice A2 n2 c2] 56) (hg : P g) (h0 : SeesP W P A0 n0 b0) (h1 : SeesP W P A1 n1 b1) (h2 : SeesP W P A2 n2 b2) (k0 : n0 ≤ c0 ∧ c0 ≤ maxLen) (k1 : n1 ≤ c1 ∧ c1 ≤ maxLen) (k2 : n2 ≤ c2 ∧ c2 ≤ maxLen) :
    Fr W P (some ⟨g, 0, none⟩) 3 [(x0, b0), (x1, b1), (x2, b2)] := ⟨rfl, fun k x hx => by
  match k, hx with
  | 0, hx => cases hx; exact ⟨g, 0, A0, n0, c0, rfl, hg, h.cells 0, h.cells 1, h0, k0⟩
  | 1, hx => cases hx; exact ⟨g, 0, A1, n1, c1, rfl, hg, h.cells 2, h.cells 3, h1, k1⟩
  | 2, hx => cases hx; exact ⟨g, 0, A2, n2, c2, rfl, hg, h.cells 4, h.cells 5, h2, k2⟩
  | k + 3, hx => simp at hx⟩
theorem seesR {b : BS} (h : Bx W g (byts b) 5) (hp : P g) {n : Nat} (hn : n = b.length) : SeesP W P (some ⟨g, 0, none⟩) n b := ⟨hn, fun j v hv => ⟨g, 0, rfl, hp, by
  rw [Nat.zero_add, h.cells j, byts, List.getElem?_map, hv]
  rfl⟩⟩
end
theorem zeros_runL (n : Nat) (hn : n ≤ 10000) (W : World) : (Instr.makeSlice 31 (.int .i64 (n : Int)) (.int .i64 (n : Int))).run Try.prog W = .ok (.slice (some ⟨W.heap.size, 0, none⟩) n n) (W.alloc (.cells (byts (List.replicate n 0)).toArray 5)) := by
  obtain ⟨i, hi, hz, hs, hb⟩ := info_parts info_u8
  have h := run_make (P := Try.prog) W 31 5 i (.int .u8 0) Try.underlying31 hi hz .i64 .i64 n n (by omega) (by omega) (by rw [hb]; omega) (by omega)
  rw [h, hs]
  simp only [Int.toNat_natCast, Nat.mul_one]
  rw [show (Value.int IntKind.u8 0).cells = #[.int .u8 0] from rfl, toList_madeCells]
theorem cmt_long {s : BS} (h : 20 < s.length) : cmt (Vm.new 20000) [([97], [1]), (s, [2]), ([111], [3])] = (12, Vm.new 20000) := by
  have e1 : chk1 [([97], [1])] (s, [2]) = 12 := by unfold chk1; rw [if_pos (Or.inr (Or.inl h))]
  have e2 : chk [([97], [1]), (s, [2]), ([111], [3])] = 12 := by
    show (if chk1 [([97], [1])] (s, [2]) = 0 then _ else chk1 [([97], [1])] (s, [2])) = 12
    rw [e1]
    rfl
  unfold cmt
  rw [e2]
  rfl
theorem cmt_big {s : BS} (h : 8000 < s.length) : cmt (Vm.new 20000) [([97], s), ([98], [2]), ([111], [3])] = (5, Vm.new 20000) := by
  have e1 : chk1 [] ([97], s) = 5 := by unfold chk1; rw [if_neg (show ¬(([97] : BS).length < 1 ∨ 20 < ([97] : BS).length ∨ ([97] : BS) = jN ∨ ([97] : BS) = mN) by decide), if_neg (by simp), if_pos h]
  have e2 : chk [([97], s), ([98], [2]), ([111], [3])] = 5 := by
    show (if chk1 [] ([97], s) = 0 then _ else chk1 [] ([97], s)) = 5
    rw [e1]
    rfl
  unfold cmt
  rw [e2]
  rfl
theorem cmt_many {l : FL} (h : 8 < l.length) : cmt (Vm.new 20000) l = (1, Vm.new 20000) := by
  have e2 : chk l = 1 := by unfold chk; rw [if_pos (Or.inr h)]
  unfold cmt
  rw [e2]
  rfl
def rowV (z : Nat) : List Value := [.string ⟨#[97]⟩, .slice (some ⟨z, 0, none⟩) 1 1, .string ⟨#[98]⟩, .slice (some ⟨z + 1, 0, none⟩) 1 1, .string ⟨#[111]⟩, .slice (some ⟨z + 1 + 1, 0, none⟩) 1 1]
/-- The row as it is laid. -/
structure L3 (w0 W : World) (z : Nat) (vs : List Value) : Prop where
  b0 : Bx W z [.int .u8 1] 5
  b1 : Bx W (z + 1) [.int .u8 2] 5
  b2 : Bx W (z + 1 + 1) [.int .u8 3] 5
  row : Bx W (z + 1 + 1 + 1) vs 56
  below : Below z w0 W
abbrev litW (w : World) : World := (((w.alloc (Obj.cells #[.int .u8 1] 5)).alloc (Obj.cells #[.int .u8 2] 5)).alloc (Obj.cells #[.int .u8 3] 5)).alloc (Obj.cells #[.string ⟨#[97]⟩, .slice (some ⟨w.heap.size, 0, none⟩) 1 1, .string ⟨#[98]⟩, .slice (some ⟨w.heap.size + 1, 0, none⟩) 1 1, .string ⟨#[111]⟩, .slice (some ⟨w.heap.size + 1 + 1, 0, none⟩) 1 1] 56)
theorem l3_new (w : World) : L3 w (litW w) w.heap.size (rowV w.heap.size) := by
  have z1 : (w.alloc (Obj.cells #[.int .u8 1] 5)).heap.size = w.heap.size + 1 := World.size_alloc _ _
  have z2 : ((w.alloc (Obj.cells #[.int .u8 1] 5)).alloc (Obj.cells #[.int .u8 2] 5)).heap.size = w.heap.size + 1 + 1 := (World.size_alloc _ _).trans (by rw [z1])
  have z3 : (((w.alloc (Obj.cells #[.int .u8 1] 5)).alloc (Obj.cells #[.int .u8 2] 5)).alloc (Obj.cells #[.int .u8 3] 5)).heap.size = w.heap.size + 1 + 1 + 1 := (World.size_alloc _ _).trans (by rw [z2])
  have a0 := Bx.new w [.int .u8 1] 5
  have a1 := Bx.new (w.alloc (Obj.cells #[.int .u8 1] 5)) [.int .u8 2] 5
  have a2 := Bx.new ((w.alloc (Obj.cells #[.int .u8 1] 5)).alloc (Obj.cells #[.int .u8 2] 5)) [.int .u8 3] 5
  have a3 := Bx.new (((w.alloc (Obj.cells #[.int .u8 1] 5)).alloc (Obj.cells #[.int .u8 2] 5)).alloc (Obj.cells #[.int .u8 3] 5)) (rowV w.heap.size) 56
  rw [z1] at a1
  rw [z2] at a2
  rw [z3] at a3
  exact ⟨((a0.alloc _).alloc _).alloc _, (a1.alloc _).alloc _, a2.alloc _, a3, (((Below.refl _ w).alloc (Nat.le_refl _) _).alloc (by rw [z1]; omega) _).alloc (by rw [z2]; omega) _ |>.alloc (by rw [z3]; omega) _⟩
theorem L3.set {w0 W : World} {z : Nat} {vs : List Value} (h : L3 w0 W z vs) (j : Nat) (v : Value) : L3 w0 (W.setCell ⟨z + 1 + 1 + 1, j, none⟩ v) z (vs.set j v) := by
  have hm : Mv W (W.setCell ⟨z + 1 + 1 + 1, j, none⟩ v) (· = z + 1 + 1 + 1) := Mv.setCell _ _ _
  have hb := hm.toB (B := z) (by have := h.b0.lt; omega) fun k e => by omega
  exact ⟨h.b0.eq (hm.block _ h.b0.lt (by omega)), h.b1.eq (hm.block _ h.b1.lt (by omega)), h.b2.eq (hm.block _ h.b2.lt (by omega)), h.row.set j v, h.below.trans hb⟩
theorem L3.on {w0 W W' : World} {z : Nat} {vs : List Value} (h : L3 w0 W z vs) (hb : Below W.heap.size W W') : L3 w0 W' z vs :=
  ⟨h.b0.eq (hb.block _ h.b0.lt), h.b1.eq (hb.block _ h.b1.lt), h.b2.eq (hb.block _ h.b2.lt), h.row.eq (hb.block _ h.row.lt), h.below.trans (hb.mono (by have := h.b0.lt; omega))⟩
/-- Files of other names. -/
theorem L3.fr {w0 W : World} {z p : Nat} {x0 x1 x2 : BS} (h : L3 w0 W z [.string ⟨x0.toArray⟩, .slice (some ⟨z, 0, none⟩) 1 1, .string ⟨x1.toArray⟩, .slice (some ⟨z + 1, 0, none⟩) 1 1, .string ⟨x2.toArray⟩, .slice (some ⟨z + 1 + 1, 0, none⟩) 1 1]) (hp : p < z) : Fr W (Pl W.heap.size p) (some ⟨z + 1 + 1 + 1, 0, none⟩) 3 [(x0, [1]), (x1, [2]), (x2, [3])] := by
  have hm : (1 : Nat) ≤ 1 ∧ 1 ≤ maxLen := by unfold maxLen; omega
  exact fr_row3 h.row ⟨h.row.lt, by omega⟩ (sees1 h.b0 ⟨h.b0.lt, by omega⟩) (sees1 h.b1 ⟨h.b1.lt, by omega⟩) (sees1 h.b2 ⟨h.b2.lt, by omega⟩) hm hm hm
set_option maxHeartbeats 8000000 in
theorem refuses_0 (a b : Int) (ha : -9223372036854775808 ≤ a ∧ a ≤ 9223372036854775807) (hb : -9223372036854775808 ≤ b ∧ b ≤ 9223372036854775807) (hm : a % 9 = 0) (w : World) :
    Calls Try.prog 6 #[.int .i64 a, .int .i64 b] w fun e w' => e = .returned (.bool true) ∧ Below w.heap.size w w' := by
  have hwa := fun W => within16_any a 9 (by decide) (by decide) ha.1 ha.2 W
  rw [hm] at hwa
  have hwb := fun W => within16_any b 9 (by decide) (by decide) hb.1 hb.2 W
  have hnz := Int.emod_nonneg b (show (9 : Int) ≠ 0 by decide)
  have hnl := Int.emod_lt_of_pos b (show (0 : Int) < 9 by decide)
  generalize b % 9 = n at hwb hnz hnl
  have HWA := Lib.hid hwa
  have HWB := Lib.hid hwb
  clear hwa hwb ha hb hm
  go_enter Try.func6, Try.ntmps6
  go_upto_region 6 with (first
    | (go_at_call 23; (with_reducible refine (known16_any _).mono ?_); rintro e w1 ⟨rfl, hb1⟩; have HB1 := Lib.hid hb1; clear hb1)
    | (go_at_call 28; (with_reducible refine (HWB.out _).mono ?_); rintro e wz ⟨rfl, rfl⟩)
    | (go_at_call 14; (with_reducible refine (new_any _ w1).mono ?_); rintro e w2 ⟨rfl, hbx2, hb2, hz2⟩; have HX2 := Lib.hid hbx2; have HB2 := Lib.hid hb2; have HZ2 := Lib.hid hz2; clear hbx2 hb2 hz2))
  obtain ⟨W, hW⟩ : ∃ W, W = litW w2 := ⟨_, rfl⟩
  have hl3 : L3 w2 W w2.heap.size (rowV w2.heap.size) := hW ▸ l3_new w2
  unfold litW at hW
  rw [← hW]
  obtain ⟨z, hz⟩ : ∃ z, z = w2.heap.size := ⟨_, rfl⟩
  rw [← hz] at hl3
  rw [← hz]
  have hx2 : Bx W w1.heap.size (bx0 (Vm.new 20000)) 72 := HX2.out.below hl3.below (by rw [hz]; exact HX2.out.lt)
  have hbw : Below w.heap.size w W := (HB1.out.trans (HB2.out.mono HB1.out.size)).trans (hl3.below.mono (by have := HB1.out.size; have := HB2.out.size; omega))
  have HL3 := Lib.hid hl3
  have HXW := Lib.hid hx2
  have HBW := Lib.hid hbw
  have HZ := Lib.hid (show w1.heap.size < z ∧ w.heap.size ≤ w1.heap.size by have := HZ2.out; have := HB1.out.size; omega)
  have hmx : z + 1 + 1 + 1 < W.heap.size := hl3.row.lt
  clear hW hl3 hz hx2 hbw
  go_upto_region 30 with (first
    | (go_at_call 28; (with_reducible refine (HWA.out _).mono ?_); rintro e wz ⟨rfl, rfl⟩))
  have hf : Fr W (Pl W.heap.size w1.heap.size) none 0 [] := fr_nil _ _ _
  have HF := Lib.hid hf
  have hcm : cmt (Vm.new 20000) [] = (1, Vm.new 20000) := by rfl
  clear hf
  have hc := (Vs.new HXW.out).commit (c := 0) (Nat.le_refl _) HF.out (by decide) (by decide) (by decide)
  rw [hcm] at hc
  have HCM := Lib.hid hc
  have hfin : ∀ X, Vs W X W.heap.size w1.heap.size (0 + 300000) (Vm.new 20000) → Below w.heap.size w X := fun X hv => HBW.out.trans (hv.toB HBW.out.size (by have := HZ.out; omega) HBW.out.size)
  have HFIN := Lib.hid hfin
  have ho : ∀ X, Vs W X W.heap.size w1.heap.size (0 + 300000) (Vm.new 20000) → Calls Try.prog 31 #[.pointer (some ⟨w1.heap.size, 0, none⟩)] X fun e w' => e = .returned (.int .i64 0) ∧ X = w' := fun X hv => hv.opsA
  have hna : ∀ X, Vs W X W.heap.size w1.heap.size (0 + 300000) (Vm.new 20000) → Calls Try.prog 32 #[.pointer (some ⟨w1.heap.size, 0, none⟩)] X fun e w' => ∃ A c, e = .returned (.slice A 0 c) ∧ Vs W w' W.heap.size w1.heap.size (0 + 300000) (Vm.new 20000) := fun X hv => hv.namesz (by decide)
  have HO := Lib.hid ho
  have HNA := Lib.hid hna
  clear hc hcm hfin ho hna
  go_wp2_with (first
    | (go_at_call 26; (with_reducible refine HCM.out.mono ?_); rintro e w5 ⟨rfl, hv5⟩; have HV5 := Lib.hid hv5; clear hv5)
    | (go_at_call 31; (with_reducible refine (HO.out _ HV5.out).mono ?_); rintro e w6 ⟨rfl, rfl⟩)
    | (go_at_call 32; (with_reducible refine (HNA.out _ HV5.out).mono ?_); rintro e w7 ⟨A7, c7, rfl, hv7⟩; have HV7 := Lib.hid hv7; clear hv7))
  go_ret
  exact ⟨rfl, HFIN.out _ HV7.out⟩

/-- The row grows. -/
structure Gr (z : Nat) (w1z : Nat) (r : Int) (W wr : World) (A : Option Addr) (c n : Nat) : Prop where
  row : ∃ vs l, wr.ownsRow (z + 1 + 1 + 1) 56 2 (.slice A n c) n vs ∧ RowP wr (fun g => z ≤ g ∧ g < z + 1 + 1 + 1) vs l
  below : Below (z + 1 + 1 + 1) W wr
  box : Bx wr w1z (bx0 (Vm.new r)) 72
theorem L3.gr {w0 W : World} {z q : Nat} {r : Int} (h : L3 w0 W z (rowV z)) (hx : Bx W q (bx0 (Vm.new r)) 72) : Gr z q r W W (some ⟨z + 1 + 1 + 1, 0, none⟩) 3 3 := by
  have hm : (1 : Nat) ≤ maxLen := by unfold maxLen; omega
  have hm3 : (3 : Nat) ≤ maxLen := by unfold maxLen; omega
  exact ⟨⟨rowV z, [([97], [1]), ([98], [2]), ([111], [3])], ⟨rfl, .inr ⟨z + 1 + 1 + 1, 3, (rowV z).toArray, rfl, Nat.le_refl _, h.row, Nat.le_refl _, hm3, rfl, rfl⟩⟩,
    ⟨rfl, sees1 h.b0 (by omega), Nat.le_refl _, hm, rfl, sees1 h.b1 (by omega), Nat.le_refl _, hm, rfl, sees1 h.b2 (by omega), Nat.le_refl _, hm, trivial⟩⟩, Below.refl _ _, hx⟩
theorem Gr.fr {z q : Nat} {r : Int} {W wr : World} {A : Option Addr} {c n : Nat} (h : Gr z q r W wr A c n) (hq : q < z) (hz : z + 1 + 1 + 1 < W.heap.size) : ∃ l, l.length = n ∧ n ≤ c ∧ Fr wr (Pl wr.heap.size q) A n l := by
  obtain ⟨vs, l, ho, hr⟩ := h.row
  have hs := h.below.size
  have hf := own_fr (P := Pl wr.heap.size q) ho (hr.mono fun g hg => ⟨by omega, by omega⟩) fun g h1 h2 => ⟨h2, by omega⟩
  refine ⟨l, hf.len.symm, ?_, hf⟩
  rcases ho.2 with ⟨e, e2⟩ | ⟨g, cap, cur, e, _, _, e3, _⟩
  · injection e with _ _ e; omega
  · injection e with _ _ e; omega
set_option maxHeartbeats 8000000 in
theorem refuses_1 (a b : Int) (ha : -9223372036854775808 ≤ a ∧ a ≤ 9223372036854775807) (hb : -9223372036854775808 ≤ b ∧ b ≤ 9223372036854775807) (hm : a % 9 = 1) (w : World) :
    Calls Try.prog 6 #[.int .i64 a, .int .i64 b] w fun e w' => e = .returned (.bool true) ∧ Below w.heap.size w w' := by
  have hwa := fun W => within16_any a 9 (by decide) (by decide) ha.1 ha.2 W
  rw [hm] at hwa
  have hwb := fun W => within16_any b 9 (by decide) (by decide) hb.1 hb.2 W
  have hnz := Int.emod_nonneg b (show (9 : Int) ≠ 0 by decide)
  have hnl := Int.emod_lt_of_pos b (show (0 : Int) < 9 by decide)
  generalize b % 9 = n at hwb hnz hnl
  have HWA := Lib.hid hwa
  have HWB := Lib.hid hwb
  clear hwa hwb ha hb hm
  go_enter Try.func6, Try.ntmps6
  go_upto_region 6 with (first
    | (go_at_call 23; (with_reducible refine (known16_any _).mono ?_); rintro e w1 ⟨rfl, hb1⟩; have HB1 := Lib.hid hb1; clear hb1)
    | (go_at_call 28; (with_reducible refine (HWB.out _).mono ?_); rintro e wz ⟨rfl, rfl⟩)
    | (go_at_call 14; (with_reducible refine (new_any _ w1).mono ?_); rintro e w2 ⟨rfl, hbx2, hb2, hz2⟩; have HX2 := Lib.hid hbx2; have HB2 := Lib.hid hb2; have HZ2 := Lib.hid hz2; clear hbx2 hb2 hz2))
  obtain ⟨W, hW⟩ : ∃ W, W = litW w2 := ⟨_, rfl⟩
  have hl3 : L3 w2 W w2.heap.size (rowV w2.heap.size) := hW ▸ l3_new w2
  unfold litW at hW
  rw [← hW]
  obtain ⟨z, hz⟩ : ∃ z, z = w2.heap.size := ⟨_, rfl⟩
  rw [← hz] at hl3
  rw [← hz]
  have hx2 : Bx W w1.heap.size (bx0 (Vm.new 20000)) 72 := HX2.out.below hl3.below (by rw [hz]; exact HX2.out.lt)
  have hbw : Below w.heap.size w W := (HB1.out.trans (HB2.out.mono HB1.out.size)).trans (hl3.below.mono (by have := HB1.out.size; have := HB2.out.size; omega))
  have HL3 := Lib.hid hl3
  have HXW := Lib.hid hx2
  have HBW := Lib.hid hbw
  have HZ := Lib.hid (show w1.heap.size < z ∧ w.heap.size ≤ w1.heap.size by have := HZ2.out; have := HB1.out.size; omega)
  have hmx : z + 1 + 1 + 1 < W.heap.size := hl3.row.lt
  clear hW hl3 hz hx2 hbw
  obtain ⟨d, rfl⟩ : ∃ d : Nat, n = (d : Int) := ⟨n.toNat, by omega⟩
  have hd8 : d ≤ 8 := by omega
  have hgr := HL3.out.gr HXW.out
  have HGR := Lib.hid hgr
  clear hgr
  go_wp2_with (first
    | (go_at_call 28; (with_reducible refine (HWA.out _).mono ?_); rintro e wz ⟨rfl, rfl⟩))
  go_loopw [6, 8] (fun s i wr => ∃ (k : Nat) (A' : Option Addr) (c' : Nat), k ≤ 6 + d ∧ i = .int .i64 (k : Int) ∧ s = .slice A' (3 + k) c' ∧ Hid (Gr z w1.heap.size 20000 W wr A' c' (3 + k))) (fun _ i _ => 6 + d - (intOf i).toNat)
  case atStart => exact ⟨0, _, _, Nat.zero_le _, rfl, rfl, HGR⟩
  case round =>
    obtain ⟨k, A', c', hk, rfl, rfl, HG⟩ := hrel
    by_cases hlt : k < 6 + d
    · have hkn : (k : Int) < 6 + (d : Int) := by omega
      have hk0 : (0 : Int) ≤ (k : Int) := by omega
      have hk13 : (k : Int) < 14 := by omega
      obtain ⟨u, hu⟩ : ∃ u : UInt8, (u.toNat : Int) = 97 + (k : Int) := ⟨UInt8.ofNat (97 + k), by rw [UInt8.toNat_ofNat']; omega⟩
      have hbu : (byts [u]).toArray = #[.int .u8 (97 + (k : Int))] := by
        show #[Value.int .u8 (u.toNat : Int)] = _
        rw [hu]
      have hcv : (convert 31 9 (.slice (some ⟨wr.heap.size, 0, none⟩) 1 1)).run Try.prog (wr.alloc (Obj.cells #[.int .u8 (97 + (k : Int))] 5)) = .ok (.string ⟨[u].toArray⟩) (wr.alloc (Obj.cells #[.int .u8 (97 + (k : Int))] 5)) := by
        have h := text_run (sees_new wr [u] (n := 1) rfl) (c := 1)
        rwa [hbu] at h
      obtain ⟨q, hq⟩ : ∃ q : ByteArray, q = ⟨[u].toArray⟩ := ⟨_, rfl⟩
      have hqs : q.size = 1 := by rw [hq]; rfl
      rw [← hq] at hcv
      have hadd := fun W => run_string_add_sum (P := Try.prog) W ⟨#[102]⟩ q (by have : (ByteArray.mk #[102]).size = 1 := rfl; omega)
      obtain ⟨t, ht⟩ : ∃ t : ByteArray, t = (⟨#[102]⟩ : ByteArray) ++ q := ⟨_, rfl⟩
      rw [← ht] at hadd
      obtain ⟨vs, l, ho, hr⟩ := HG.out.row
      have hbs := HG.out.below.size
      have hsrc := src_cfile (V := (wr.alloc (Obj.cells #[.int .u8 (97 + (k : Int))] 5)).alloc (Obj.cells #[.string t, .slice none 0 0] 56)) (g := (wr.alloc (Obj.cells #[.int .u8 (97 + (k : Int))] 5)).heap.size) (a := .string t) (b := .slice none 0 0) (heap_alloc_new _ _) rfl rfl
      obtain ⟨A5, c5, w5, hr5, ho5, hg5, _⟩ := run_append_row 47 elem_cfile ((ho.alloc _).alloc _) hsrc (by omega) (by simp; omega)
      rw [World.size_alloc] at hr5
      have hbz : Below (z + 1 + 1 + 1) wr w5 := (((Below.refl _ wr).alloc (by omega) _).alloc (by simp; omega) _).grown hg5 (by simp; omega) fun g hg => (ho.lt g hg).1
      have hgi : Gr z w1.heap.size 20000 W w5 A5 c5 (3 + k + 1) := ⟨⟨_, l ++ [(t.data.toList, [])], ho5, (hr.keep fun g hg => hbz.block g hg.2).app ⟨rfl, SeesP.nil _, Nat.le_refl _, Nat.zero_le _, trivial⟩⟩, HG.out.below.trans hbz, HG.out.box.below hbz (by have := HZ.out; omega)⟩
      have HGI := Lib.hid hgi
      have HLT := Lib.hid hlt
      clear hgi hbz ho5 hg5 hsrc ho hr hbs hq hqs ht hbu hu hlt
      go_wp2_with (at_builtin; refine Lib.wpList_append_run _ rfl (.tmp 33) (.tmp 41) _ _ rfl _ _ rfl rfl _ _ hr5 ?_)
      go_roundw
      case rel => exact ⟨k + 1, A5, c5, HLT.out, by go_num, rfl, HGI⟩
      case measure => have := HLT.out; simp [intOf]; omega
    · have hkn : ¬ (k : Int) < 6 + (d : Int) := by omega
      go_upto_region 30 with fail
      obtain ⟨l, hl, hnc, hf⟩ := HG.out.fr HZ.out.1 hmx
      have hbw4 : Below w.heap.size w wr := HBW.out.trans (HG.out.below.mono (by have := HZ.out; omega))
      have hx4 := HG.out.box
      have hk14 : 3 + k ≤ 17 := by omega
      have hcm := cmt_many (l := l) (by omega)
      clear HXW HBW hkn
      have HXW := Lib.hid hx4
      have HBW := Lib.hid hbw4
      have HF := Lib.hid hf
      clear hx4 hbw4 hf hl
      have hc := (Vs.new HXW.out).commit (c := c') (Nat.le_refl _) HF.out (by omega) (by omega) (by decide)
      rw [hcm] at hc
      have HCM := Lib.hid hc
      have hfin : ∀ X, Vs wr X wr.heap.size w1.heap.size (0 + 300000) (Vm.new 20000) → Below w.heap.size w X := fun X hv => HBW.out.trans (hv.toB HBW.out.size (by have := HZ.out; omega) HBW.out.size)
      have HFIN := Lib.hid hfin
      have ho : ∀ X, Vs wr X wr.heap.size w1.heap.size (0 + 300000) (Vm.new 20000) → Calls Try.prog 31 #[.pointer (some ⟨w1.heap.size, 0, none⟩)] X fun e w' => e = .returned (.int .i64 0) ∧ X = w' := fun X hv => hv.opsA
      have hna : ∀ X, Vs wr X wr.heap.size w1.heap.size (0 + 300000) (Vm.new 20000) → Calls Try.prog 32 #[.pointer (some ⟨w1.heap.size, 0, none⟩)] X fun e w' => ∃ A c, e = .returned (.slice A 0 c) ∧ Vs wr w' wr.heap.size w1.heap.size (0 + 300000) (Vm.new 20000) := fun X hv => hv.namesz (by decide)
      have HO := Lib.hid ho
      have HNA := Lib.hid hna
      clear hc hcm hfin ho hna
      go_wp2_with (first
        | (go_at_call 26; (with_reducible refine HCM.out.mono ?_); rintro e w5 ⟨rfl, hv5⟩; have HV5 := Lib.hid hv5; clear hv5)
        | (go_at_call 31; (with_reducible refine (HO.out _ HV5.out).mono ?_); rintro e w6 ⟨rfl, rfl⟩)
        | (go_at_call 32; (with_reducible refine (HNA.out _ HV5.out).mono ?_); rintro e w7 ⟨A7, c7, rfl, hv7⟩; have HV7 := Lib.hid hv7; clear hv7))
      go_ret
      exact ⟨rfl, HFIN.out _ HV7.out⟩
set_option maxHeartbeats 8000000 in
theorem refuses_2 (a b : Int) (ha : -9223372036854775808 ≤ a ∧ a ≤ 9223372036854775807) (hb : -9223372036854775808 ≤ b ∧ b ≤ 9223372036854775807) (hm : a % 9 = 2) (w : World) :
    Calls Try.prog 6 #[.int .i64 a, .int .i64 b] w fun e w' => e = .returned (.bool true) ∧ Below w.heap.size w w' := by
  have hwa := fun W => within16_any a 9 (by decide) (by decide) ha.1 ha.2 W
  rw [hm] at hwa
  have hwb := fun W => within16_any b 9 (by decide) (by decide) hb.1 hb.2 W
  have hnz := Int.emod_nonneg b (show (9 : Int) ≠ 0 by decide)
  have hnl := Int.emod_lt_of_pos b (show (0 : Int) < 9 by decide)
  generalize b % 9 = n at hwb hnz hnl
  have HWA := Lib.hid hwa
  have HWB := Lib.hid hwb
  clear hwa hwb ha hb hm
  go_enter Try.func6, Try.ntmps6
  go_upto_region 6 with (first
    | (go_at_call 23; (with_reducible refine (known16_any _).mono ?_); rintro e w1 ⟨rfl, hb1⟩; have HB1 := Lib.hid hb1; clear hb1)
    | (go_at_call 28; (with_reducible refine (HWB.out _).mono ?_); rintro e wz ⟨rfl, rfl⟩)
    | (go_at_call 14; (with_reducible refine (new_any _ w1).mono ?_); rintro e w2 ⟨rfl, hbx2, hb2, hz2⟩; have HX2 := Lib.hid hbx2; have HB2 := Lib.hid hb2; have HZ2 := Lib.hid hz2; clear hbx2 hb2 hz2))
  obtain ⟨W, hW⟩ : ∃ W, W = litW w2 := ⟨_, rfl⟩
  have hl3 : L3 w2 W w2.heap.size (rowV w2.heap.size) := hW ▸ l3_new w2
  unfold litW at hW
  rw [← hW]
  obtain ⟨z, hz⟩ : ∃ z, z = w2.heap.size := ⟨_, rfl⟩
  rw [← hz] at hl3
  rw [← hz]
  have hx2 : Bx W w1.heap.size (bx0 (Vm.new 20000)) 72 := HX2.out.below hl3.below (by rw [hz]; exact HX2.out.lt)
  have hbw : Below w.heap.size w W := (HB1.out.trans (HB2.out.mono HB1.out.size)).trans (hl3.below.mono (by have := HB1.out.size; have := HB2.out.size; omega))
  have HL3 := Lib.hid hl3
  have HXW := Lib.hid hx2
  have HBW := Lib.hid hbw
  have HZ := Lib.hid (show w1.heap.size < z ∧ w.heap.size ≤ w1.heap.size by have := HZ2.out; have := HB1.out.size; omega)
  have hmx : z + 1 + 1 + 1 < W.heap.size := hl3.row.lt
  clear hW hl3 hz hx2 hbw
  have c0 : W.cell? ⟨z + 1 + 1 + 1, 2, none⟩ = some (.string ⟨#[98]⟩) := HL3.out.row.cells 2
  have f0 : W.frozen? ⟨z + 1 + 1 + 1, 2, none⟩ = false := HL3.out.row.free 2
  go_upto_region 30 with (first
    | (go_at_call 28; (with_reducible refine (HWA.out _).mono ?_); rintro e wz ⟨rfl, rfl⟩))
  have hl4 := HL3.out.set 2 (.string ⟨#[]⟩)
  have hb4 : Mv W (W.setCell ⟨z + 1 + 1 + 1, 2, none⟩ (.string ⟨#[]⟩)) (· = z + 1 + 1 + 1) := Mv.setCell _ _ _
  have hx4 := HXW.out.eq (hb4.block _ HXW.out.lt (by have := HZ.out; omega))
  have hbw4 : Below w.heap.size w _ := HBW.out.trans (hb4.toB HBW.out.size fun k e => by have := HZ.out; omega)
  generalize W.setCell ⟨z + 1 + 1 + 1, 2, none⟩ (.string ⟨#[]⟩) = W at hl4 hx4 hbw4 ⊢
  have HL3 := Lib.hid hl4
  have HXW := Lib.hid hx4
  have HBW := Lib.hid hbw4
  clear hl4 hx4 hbw4 hb4 c0 f0
  have hf : Fr W (Pl W.heap.size w1.heap.size) (some ⟨z + 1 + 1 + 1, 0, none⟩) 3 [([97], [1]), ([], [2]), ([111], [3])] := L3.fr HL3.out HZ.out.1
  have HF := Lib.hid hf
  have hcm : cmt (Vm.new 20000) [([97], [1]), ([], [2]), ([111], [3])] = (12, Vm.new 20000) := by rfl
  clear hf
  have hc := (Vs.new HXW.out).commit (c := 3) (Nat.le_refl _) HF.out (by decide) (by decide) (by decide)
  rw [hcm] at hc
  have HCM := Lib.hid hc
  have hfin : ∀ X, Vs W X W.heap.size w1.heap.size (0 + 300000) (Vm.new 20000) → Below w.heap.size w X := fun X hv => HBW.out.trans (hv.toB HBW.out.size (by have := HZ.out; omega) HBW.out.size)
  have HFIN := Lib.hid hfin
  have ho : ∀ X, Vs W X W.heap.size w1.heap.size (0 + 300000) (Vm.new 20000) → Calls Try.prog 31 #[.pointer (some ⟨w1.heap.size, 0, none⟩)] X fun e w' => e = .returned (.int .i64 0) ∧ X = w' := fun X hv => hv.opsA
  have hna : ∀ X, Vs W X W.heap.size w1.heap.size (0 + 300000) (Vm.new 20000) → Calls Try.prog 32 #[.pointer (some ⟨w1.heap.size, 0, none⟩)] X fun e w' => ∃ A c, e = .returned (.slice A 0 c) ∧ Vs W w' W.heap.size w1.heap.size (0 + 300000) (Vm.new 20000) := fun X hv => hv.namesz (by decide)
  have HO := Lib.hid ho
  have HNA := Lib.hid hna
  clear hc hcm hfin ho hna
  go_wp2_with (first
    | (go_at_call 26; (with_reducible refine HCM.out.mono ?_); rintro e w5 ⟨rfl, hv5⟩; have HV5 := Lib.hid hv5; clear hv5)
    | (go_at_call 31; (with_reducible refine (HO.out _ HV5.out).mono ?_); rintro e w6 ⟨rfl, rfl⟩)
    | (go_at_call 32; (with_reducible refine (HNA.out _ HV5.out).mono ?_); rintro e w7 ⟨A7, c7, rfl, hv7⟩; have HV7 := Lib.hid hv7; clear hv7))
  go_ret
  exact ⟨rfl, HFIN.out _ HV7.out⟩
set_option maxHeartbeats 8000000 in
theorem refuses_3 (a b : Int) (ha : -9223372036854775808 ≤ a ∧ a ≤ 9223372036854775807) (hb : -9223372036854775808 ≤ b ∧ b ≤ 9223372036854775807) (hm : a % 9 = 3) (w : World) :
    Calls Try.prog 6 #[.int .i64 a, .int .i64 b] w fun e w' => e = .returned (.bool true) ∧ Below w.heap.size w w' := by
  have hwa := fun W => within16_any a 9 (by decide) (by decide) ha.1 ha.2 W
  rw [hm] at hwa
  have hwb := fun W => within16_any b 9 (by decide) (by decide) hb.1 hb.2 W
  have hnz := Int.emod_nonneg b (show (9 : Int) ≠ 0 by decide)
  have hnl := Int.emod_lt_of_pos b (show (0 : Int) < 9 by decide)
  generalize b % 9 = n at hwb hnz hnl
  have HWA := Lib.hid hwa
  have HWB := Lib.hid hwb
  clear hwa hwb ha hb hm
  go_enter Try.func6, Try.ntmps6
  go_upto_region 6 with (first
    | (go_at_call 23; (with_reducible refine (known16_any _).mono ?_); rintro e w1 ⟨rfl, hb1⟩; have HB1 := Lib.hid hb1; clear hb1)
    | (go_at_call 28; (with_reducible refine (HWB.out _).mono ?_); rintro e wz ⟨rfl, rfl⟩)
    | (go_at_call 14; (with_reducible refine (new_any _ w1).mono ?_); rintro e w2 ⟨rfl, hbx2, hb2, hz2⟩; have HX2 := Lib.hid hbx2; have HB2 := Lib.hid hb2; have HZ2 := Lib.hid hz2; clear hbx2 hb2 hz2))
  obtain ⟨W, hW⟩ : ∃ W, W = litW w2 := ⟨_, rfl⟩
  have hl3 : L3 w2 W w2.heap.size (rowV w2.heap.size) := hW ▸ l3_new w2
  unfold litW at hW
  rw [← hW]
  obtain ⟨z, hz⟩ : ∃ z, z = w2.heap.size := ⟨_, rfl⟩
  rw [← hz] at hl3
  rw [← hz]
  have hx2 : Bx W w1.heap.size (bx0 (Vm.new 20000)) 72 := HX2.out.below hl3.below (by rw [hz]; exact HX2.out.lt)
  have hbw : Below w.heap.size w W := (HB1.out.trans (HB2.out.mono HB1.out.size)).trans (hl3.below.mono (by have := HB1.out.size; have := HB2.out.size; omega))
  have HL3 := Lib.hid hl3
  have HXW := Lib.hid hx2
  have HBW := Lib.hid hbw
  have HZ := Lib.hid (show w1.heap.size < z ∧ w.heap.size ≤ w1.heap.size by have := HZ2.out; have := HB1.out.size; omega)
  have hmx : z + 1 + 1 + 1 < W.heap.size := hl3.row.lt
  clear hW hl3 hz hx2 hbw
  obtain ⟨d, rfl⟩ : ∃ d : Nat, n = (d : Int) := ⟨n.toNat, by omega⟩
  have hd8 : d ≤ 8 := by omega
  obtain ⟨m, hm⟩ : ∃ m, m = 21 + d := ⟨_, rfl⟩
  obtain ⟨s, hs⟩ : ∃ s : BS, s = List.replicate m 0 := ⟨_, rfl⟩
  have hsl : m = s.length := by rw [hs, List.length_replicate]
  have hmk : ∀ X : World, (Instr.makeSlice 31 (.int .i64 (21 + (d : Int))) (.int .i64 (21 + (d : Int)))).run Try.prog X = .ok (.slice (some ⟨X.heap.size, 0, none⟩) m m) (X.alloc (.cells (byts s).toArray 5)) := fun X => by
    have h := zeros_runL m (by omega) X
    rwa [← hs, show (m : Int) = 21 + (d : Int) by omega] at h
  have hcv : (convert 31 9 (.slice (some ⟨W.heap.size, 0, none⟩) m m)).run Try.prog (W.alloc (.cells (byts s).toArray 5)) = .ok (.string ⟨s.toArray⟩) (W.alloc (.cells (byts s).toArray 5)) := text_run (sees_new W s hsl)
  have hy : L3 w2 (W.alloc (.cells (byts s).toArray 5)) z (rowV z) := HL3.out.on ((Below.refl _ _).alloc (Nat.le_refl _) _)
  have c0 : (W.alloc (.cells (byts s).toArray 5)).cell? ⟨z + 1 + 1 + 1, 2, none⟩ = some (.string ⟨#[98]⟩) := hy.row.cells 2
  have f0 : (W.alloc (.cells (byts s).toArray 5)).frozen? ⟨z + 1 + 1 + 1, 2, none⟩ = false := hy.row.free 2
  have HS := Lib.hid hs
  have HM := Lib.hid hm
  have HSL := Lib.hid hsl
  have HY := Lib.hid hy
  clear hs hm hsl hy
  go_upto_region 30 with (first
    | (go_at_call 28; (with_reducible refine (HWA.out _).mono ?_); rintro e wz ⟨rfl, rfl⟩))
  have hb4 : Mv W (W.setCell ⟨z + 1 + 1 + 1, 2, none⟩ (.string ⟨s.toArray⟩)) (· = z + 1 + 1 + 1) := Mv.setCell _ _ _
  have hz4 : (W.setCell ⟨z + 1 + 1 + 1, 2, none⟩ (.string ⟨s.toArray⟩)).heap.size = W.heap.size := by simp [World.setCell]
  have hb5 : Below (W.setCell ⟨z + 1 + 1 + 1, 2, none⟩ (.string ⟨s.toArray⟩)).heap.size (W.setCell ⟨z + 1 + 1 + 1, 2, none⟩ (.string ⟨s.toArray⟩)) ((W.setCell ⟨z + 1 + 1 + 1, 2, none⟩ (.string ⟨s.toArray⟩)).alloc (Obj.cells (byts s).toArray 5)) := (Below.refl _ _).alloc (Nat.le_refl _) _
  have hl4 := (HL3.out.set 2 (.string ⟨s.toArray⟩)).on hb5
  have hx3 := HXW.out.eq (hb4.block _ HXW.out.lt (by have := HZ.out; omega))
  have hx4 := hx3.eq (hb5.block _ hx3.lt)
  have hbw3 : Below w.heap.size w _ := HBW.out.trans (hb4.toB HBW.out.size fun k e => by have := HZ.out; omega)
  have hbw4 : Below w.heap.size w _ := hbw3.trans (hb5.mono hbw3.size)
  generalize (W.setCell ⟨z + 1 + 1 + 1, 2, none⟩ (.string ⟨s.toArray⟩)).alloc (Obj.cells (byts s).toArray 5) = W5 at hl4 hx4 hbw4 ⊢
  obtain ⟨W, hW⟩ : ∃ W, W = W5 := ⟨_, rfl⟩
  subst hW
  have HXW := Lib.hid hx4
  have HBW := Lib.hid hbw4
  have hf : Fr W (Pl W.heap.size w1.heap.size) (some ⟨z + 1 + 1 + 1, 0, none⟩) 3 [([97], [1]), (s, [2]), ([111], [3])] := L3.fr hl4 HZ.out.1
  have HF := Lib.hid hf
  have hcm := cmt_long (s := s) (by have := HM.out; have := HSL.out; omega)
  clear hf hl4 hx4 hbw4 hx3 hb4 hb5 hbw3 hz4 c0 f0 hcv
  have hc := (Vs.new HXW.out).commit (c := 3) (Nat.le_refl _) HF.out (by decide) (by decide) (by decide)
  rw [hcm] at hc
  have HCM := Lib.hid hc
  have hfin : ∀ X, Vs W X W.heap.size w1.heap.size (0 + 300000) (Vm.new 20000) → Below w.heap.size w X := fun X hv => HBW.out.trans (hv.toB HBW.out.size (by have := HZ.out; omega) HBW.out.size)
  have HFIN := Lib.hid hfin
  have ho : ∀ X, Vs W X W.heap.size w1.heap.size (0 + 300000) (Vm.new 20000) → Calls Try.prog 31 #[.pointer (some ⟨w1.heap.size, 0, none⟩)] X fun e w' => e = .returned (.int .i64 0) ∧ X = w' := fun X hv => hv.opsA
  have hna : ∀ X, Vs W X W.heap.size w1.heap.size (0 + 300000) (Vm.new 20000) → Calls Try.prog 32 #[.pointer (some ⟨w1.heap.size, 0, none⟩)] X fun e w' => ∃ A c, e = .returned (.slice A 0 c) ∧ Vs W w' W.heap.size w1.heap.size (0 + 300000) (Vm.new 20000) := fun X hv => hv.namesz (by decide)
  have HO := Lib.hid ho
  have HNA := Lib.hid hna
  clear hc hcm hfin ho hna
  go_wp2_with (first
    | (go_at_call 26; (with_reducible refine HCM.out.mono ?_); rintro e w5 ⟨rfl, hv5⟩; have HV5 := Lib.hid hv5; clear hv5)
    | (go_at_call 31; (with_reducible refine (HO.out _ HV5.out).mono ?_); rintro e w6 ⟨rfl, rfl⟩)
    | (go_at_call 32; (with_reducible refine (HNA.out _ HV5.out).mono ?_); rintro e w7 ⟨A7, c7, rfl, hv7⟩; have HV7 := Lib.hid hv7; clear hv7))
  go_ret
  exact ⟨rfl, HFIN.out _ HV7.out⟩
set_option maxHeartbeats 8000000 in
theorem refuses_4 (a b : Int) (ha : -9223372036854775808 ≤ a ∧ a ≤ 9223372036854775807) (hb : -9223372036854775808 ≤ b ∧ b ≤ 9223372036854775807) (hm : a % 9 = 4) (w : World) :
    Calls Try.prog 6 #[.int .i64 a, .int .i64 b] w fun e w' => e = .returned (.bool true) ∧ Below w.heap.size w w' := by
  have hwa := fun W => within16_any a 9 (by decide) (by decide) ha.1 ha.2 W
  rw [hm] at hwa
  have hwb := fun W => within16_any b 9 (by decide) (by decide) hb.1 hb.2 W
  have hnz := Int.emod_nonneg b (show (9 : Int) ≠ 0 by decide)
  have hnl := Int.emod_lt_of_pos b (show (0 : Int) < 9 by decide)
  generalize b % 9 = n at hwb hnz hnl
  have HWA := Lib.hid hwa
  have HWB := Lib.hid hwb
  clear hwa hwb ha hb hm
  go_enter Try.func6, Try.ntmps6
  go_upto_region 6 with (first
    | (go_at_call 23; (with_reducible refine (known16_any _).mono ?_); rintro e w1 ⟨rfl, hb1⟩; have HB1 := Lib.hid hb1; clear hb1)
    | (go_at_call 28; (with_reducible refine (HWB.out _).mono ?_); rintro e wz ⟨rfl, rfl⟩)
    | (go_at_call 14; (with_reducible refine (new_any _ w1).mono ?_); rintro e w2 ⟨rfl, hbx2, hb2, hz2⟩; have HX2 := Lib.hid hbx2; have HB2 := Lib.hid hb2; have HZ2 := Lib.hid hz2; clear hbx2 hb2 hz2))
  obtain ⟨W, hW⟩ : ∃ W, W = litW w2 := ⟨_, rfl⟩
  have hl3 : L3 w2 W w2.heap.size (rowV w2.heap.size) := hW ▸ l3_new w2
  unfold litW at hW
  rw [← hW]
  obtain ⟨z, hz⟩ : ∃ z, z = w2.heap.size := ⟨_, rfl⟩
  rw [← hz] at hl3
  rw [← hz]
  have hx2 : Bx W w1.heap.size (bx0 (Vm.new 20000)) 72 := HX2.out.below hl3.below (by rw [hz]; exact HX2.out.lt)
  have hbw : Below w.heap.size w W := (HB1.out.trans (HB2.out.mono HB1.out.size)).trans (hl3.below.mono (by have := HB1.out.size; have := HB2.out.size; omega))
  have HL3 := Lib.hid hl3
  have HXW := Lib.hid hx2
  have HBW := Lib.hid hbw
  have HZ := Lib.hid (show w1.heap.size < z ∧ w.heap.size ≤ w1.heap.size by have := HZ2.out; have := HB1.out.size; omega)
  have hmx : z + 1 + 1 + 1 < W.heap.size := hl3.row.lt
  clear hW hl3 hz hx2 hbw
  have c0 : W.cell? ⟨z + 1 + 1 + 1, 4, none⟩ = some (.string ⟨#[111]⟩) := HL3.out.row.cells 4
  have f0 : W.frozen? ⟨z + 1 + 1 + 1, 4, none⟩ = false := HL3.out.row.free 4
  go_upto_region 30 with (first
    | (go_at_call 28; (with_reducible refine (HWA.out _).mono ?_); rintro e wz ⟨rfl, rfl⟩))
  have hl4 := HL3.out.set 4 (.string ⟨#[106, 111, 117, 114, 110, 97, 108]⟩)
  have hb4 : Mv W (W.setCell ⟨z + 1 + 1 + 1, 4, none⟩ (.string ⟨#[106, 111, 117, 114, 110, 97, 108]⟩)) (· = z + 1 + 1 + 1) := Mv.setCell _ _ _
  have hx4 := HXW.out.eq (hb4.block _ HXW.out.lt (by have := HZ.out; omega))
  have hbw4 : Below w.heap.size w _ := HBW.out.trans (hb4.toB HBW.out.size fun k e => by have := HZ.out; omega)
  generalize W.setCell ⟨z + 1 + 1 + 1, 4, none⟩ (.string ⟨#[106, 111, 117, 114, 110, 97, 108]⟩) = W at hl4 hx4 hbw4 ⊢
  have HL3 := Lib.hid hl4
  have HXW := Lib.hid hx4
  have HBW := Lib.hid hbw4
  clear hl4 hx4 hbw4 hb4 c0 f0
  have hf : Fr W (Pl W.heap.size w1.heap.size) (some ⟨z + 1 + 1 + 1, 0, none⟩) 3 [([97], [1]), ([98], [2]), ([106, 111, 117, 114, 110, 97, 108], [3])] := L3.fr HL3.out HZ.out.1
  have HF := Lib.hid hf
  have hcm : cmt (Vm.new 20000) [([97], [1]), ([98], [2]), ([106, 111, 117, 114, 110, 97, 108], [3])] = (12, Vm.new 20000) := by rfl
  clear hf
  have hc := (Vs.new HXW.out).commit (c := 3) (Nat.le_refl _) HF.out (by decide) (by decide) (by decide)
  rw [hcm] at hc
  have HCM := Lib.hid hc
  have hfin : ∀ X, Vs W X W.heap.size w1.heap.size (0 + 300000) (Vm.new 20000) → Below w.heap.size w X := fun X hv => HBW.out.trans (hv.toB HBW.out.size (by have := HZ.out; omega) HBW.out.size)
  have HFIN := Lib.hid hfin
  have ho : ∀ X, Vs W X W.heap.size w1.heap.size (0 + 300000) (Vm.new 20000) → Calls Try.prog 31 #[.pointer (some ⟨w1.heap.size, 0, none⟩)] X fun e w' => e = .returned (.int .i64 0) ∧ X = w' := fun X hv => hv.opsA
  have hna : ∀ X, Vs W X W.heap.size w1.heap.size (0 + 300000) (Vm.new 20000) → Calls Try.prog 32 #[.pointer (some ⟨w1.heap.size, 0, none⟩)] X fun e w' => ∃ A c, e = .returned (.slice A 0 c) ∧ Vs W w' W.heap.size w1.heap.size (0 + 300000) (Vm.new 20000) := fun X hv => hv.namesz (by decide)
  have HO := Lib.hid ho
  have HNA := Lib.hid hna
  clear hc hcm hfin ho hna
  go_wp2_with (first
    | (go_at_call 26; (with_reducible refine HCM.out.mono ?_); rintro e w5 ⟨rfl, hv5⟩; have HV5 := Lib.hid hv5; clear hv5)
    | (go_at_call 31; (with_reducible refine (HO.out _ HV5.out).mono ?_); rintro e w6 ⟨rfl, rfl⟩)
    | (go_at_call 32; (with_reducible refine (HNA.out _ HV5.out).mono ?_); rintro e w7 ⟨A7, c7, rfl, hv7⟩; have HV7 := Lib.hid hv7; clear hv7))
  go_ret
  exact ⟨rfl, HFIN.out _ HV7.out⟩
set_option maxHeartbeats 8000000 in
theorem refuses_5 (a b : Int) (ha : -9223372036854775808 ≤ a ∧ a ≤ 9223372036854775807) (hb : -9223372036854775808 ≤ b ∧ b ≤ 9223372036854775807) (hm : a % 9 = 5) (w : World) :
    Calls Try.prog 6 #[.int .i64 a, .int .i64 b] w fun e w' => e = .returned (.bool true) ∧ Below w.heap.size w w' := by
  have hwa := fun W => within16_any a 9 (by decide) (by decide) ha.1 ha.2 W
  rw [hm] at hwa
  have hwb := fun W => within16_any b 9 (by decide) (by decide) hb.1 hb.2 W
  have hnz := Int.emod_nonneg b (show (9 : Int) ≠ 0 by decide)
  have hnl := Int.emod_lt_of_pos b (show (0 : Int) < 9 by decide)
  generalize b % 9 = n at hwb hnz hnl
  have HWA := Lib.hid hwa
  have HWB := Lib.hid hwb
  clear hwa hwb ha hb hm
  go_enter Try.func6, Try.ntmps6
  go_upto_region 6 with (first
    | (go_at_call 23; (with_reducible refine (known16_any _).mono ?_); rintro e w1 ⟨rfl, hb1⟩; have HB1 := Lib.hid hb1; clear hb1)
    | (go_at_call 28; (with_reducible refine (HWB.out _).mono ?_); rintro e wz ⟨rfl, rfl⟩)
    | (go_at_call 14; (with_reducible refine (new_any _ w1).mono ?_); rintro e w2 ⟨rfl, hbx2, hb2, hz2⟩; have HX2 := Lib.hid hbx2; have HB2 := Lib.hid hb2; have HZ2 := Lib.hid hz2; clear hbx2 hb2 hz2))
  obtain ⟨W, hW⟩ : ∃ W, W = litW w2 := ⟨_, rfl⟩
  have hl3 : L3 w2 W w2.heap.size (rowV w2.heap.size) := hW ▸ l3_new w2
  unfold litW at hW
  rw [← hW]
  obtain ⟨z, hz⟩ : ∃ z, z = w2.heap.size := ⟨_, rfl⟩
  rw [← hz] at hl3
  rw [← hz]
  have hx2 : Bx W w1.heap.size (bx0 (Vm.new 20000)) 72 := HX2.out.below hl3.below (by rw [hz]; exact HX2.out.lt)
  have hbw : Below w.heap.size w W := (HB1.out.trans (HB2.out.mono HB1.out.size)).trans (hl3.below.mono (by have := HB1.out.size; have := HB2.out.size; omega))
  have HL3 := Lib.hid hl3
  have HXW := Lib.hid hx2
  have HBW := Lib.hid hbw
  have HZ := Lib.hid (show w1.heap.size < z ∧ w.heap.size ≤ w1.heap.size by have := HZ2.out; have := HB1.out.size; omega)
  have hmx : z + 1 + 1 + 1 < W.heap.size := hl3.row.lt
  clear hW hl3 hz hx2 hbw
  have c0 : W.cell? ⟨z + 1 + 1 + 1, 4, none⟩ = some (.string ⟨#[111]⟩) := HL3.out.row.cells 4
  have f0 : W.frozen? ⟨z + 1 + 1 + 1, 4, none⟩ = false := HL3.out.row.free 4
  go_upto_region 30 with (first
    | (go_at_call 28; (with_reducible refine (HWA.out _).mono ?_); rintro e wz ⟨rfl, rfl⟩))
  have hl4 := HL3.out.set 4 (.string ⟨#[109, 97, 114, 107]⟩)
  have hb4 : Mv W (W.setCell ⟨z + 1 + 1 + 1, 4, none⟩ (.string ⟨#[109, 97, 114, 107]⟩)) (· = z + 1 + 1 + 1) := Mv.setCell _ _ _
  have hx4 := HXW.out.eq (hb4.block _ HXW.out.lt (by have := HZ.out; omega))
  have hbw4 : Below w.heap.size w _ := HBW.out.trans (hb4.toB HBW.out.size fun k e => by have := HZ.out; omega)
  generalize W.setCell ⟨z + 1 + 1 + 1, 4, none⟩ (.string ⟨#[109, 97, 114, 107]⟩) = W at hl4 hx4 hbw4 ⊢
  have HL3 := Lib.hid hl4
  have HXW := Lib.hid hx4
  have HBW := Lib.hid hbw4
  clear hl4 hx4 hbw4 hb4 c0 f0
  have hf : Fr W (Pl W.heap.size w1.heap.size) (some ⟨z + 1 + 1 + 1, 0, none⟩) 3 [([97], [1]), ([98], [2]), ([109, 97, 114, 107], [3])] := L3.fr HL3.out HZ.out.1
  have HF := Lib.hid hf
  have hcm : cmt (Vm.new 20000) [([97], [1]), ([98], [2]), ([109, 97, 114, 107], [3])] = (12, Vm.new 20000) := by rfl
  clear hf
  have hc := (Vs.new HXW.out).commit (c := 3) (Nat.le_refl _) HF.out (by decide) (by decide) (by decide)
  rw [hcm] at hc
  have HCM := Lib.hid hc
  have hfin : ∀ X, Vs W X W.heap.size w1.heap.size (0 + 300000) (Vm.new 20000) → Below w.heap.size w X := fun X hv => HBW.out.trans (hv.toB HBW.out.size (by have := HZ.out; omega) HBW.out.size)
  have HFIN := Lib.hid hfin
  have ho : ∀ X, Vs W X W.heap.size w1.heap.size (0 + 300000) (Vm.new 20000) → Calls Try.prog 31 #[.pointer (some ⟨w1.heap.size, 0, none⟩)] X fun e w' => e = .returned (.int .i64 0) ∧ X = w' := fun X hv => hv.opsA
  have hna : ∀ X, Vs W X W.heap.size w1.heap.size (0 + 300000) (Vm.new 20000) → Calls Try.prog 32 #[.pointer (some ⟨w1.heap.size, 0, none⟩)] X fun e w' => ∃ A c, e = .returned (.slice A 0 c) ∧ Vs W w' W.heap.size w1.heap.size (0 + 300000) (Vm.new 20000) := fun X hv => hv.namesz (by decide)
  have HO := Lib.hid ho
  have HNA := Lib.hid hna
  clear hc hcm hfin ho hna
  go_wp2_with (first
    | (go_at_call 26; (with_reducible refine HCM.out.mono ?_); rintro e w5 ⟨rfl, hv5⟩; have HV5 := Lib.hid hv5; clear hv5)
    | (go_at_call 31; (with_reducible refine (HO.out _ HV5.out).mono ?_); rintro e w6 ⟨rfl, rfl⟩)
    | (go_at_call 32; (with_reducible refine (HNA.out _ HV5.out).mono ?_); rintro e w7 ⟨A7, c7, rfl, hv7⟩; have HV7 := Lib.hid hv7; clear hv7))
  go_ret
  exact ⟨rfl, HFIN.out _ HV7.out⟩
set_option maxHeartbeats 8000000 in
theorem refuses_6 (a b : Int) (ha : -9223372036854775808 ≤ a ∧ a ≤ 9223372036854775807) (hb : -9223372036854775808 ≤ b ∧ b ≤ 9223372036854775807) (hm : a % 9 = 6) (w : World) :
    Calls Try.prog 6 #[.int .i64 a, .int .i64 b] w fun e w' => e = .returned (.bool true) ∧ Below w.heap.size w w' := by
  have hwa := fun W => within16_any a 9 (by decide) (by decide) ha.1 ha.2 W
  rw [hm] at hwa
  have hwb := fun W => within16_any b 9 (by decide) (by decide) hb.1 hb.2 W
  have hnz := Int.emod_nonneg b (show (9 : Int) ≠ 0 by decide)
  have hnl := Int.emod_lt_of_pos b (show (0 : Int) < 9 by decide)
  generalize b % 9 = n at hwb hnz hnl
  have HWA := Lib.hid hwa
  have HWB := Lib.hid hwb
  clear hwa hwb ha hb hm
  go_enter Try.func6, Try.ntmps6
  go_upto_region 6 with (first
    | (go_at_call 23; (with_reducible refine (known16_any _).mono ?_); rintro e w1 ⟨rfl, hb1⟩; have HB1 := Lib.hid hb1; clear hb1)
    | (go_at_call 28; (with_reducible refine (HWB.out _).mono ?_); rintro e wz ⟨rfl, rfl⟩)
    | (go_at_call 14; (with_reducible refine (new_any _ w1).mono ?_); rintro e w2 ⟨rfl, hbx2, hb2, hz2⟩; have HX2 := Lib.hid hbx2; have HB2 := Lib.hid hb2; have HZ2 := Lib.hid hz2; clear hbx2 hb2 hz2))
  obtain ⟨W, hW⟩ : ∃ W, W = litW w2 := ⟨_, rfl⟩
  have hl3 : L3 w2 W w2.heap.size (rowV w2.heap.size) := hW ▸ l3_new w2
  unfold litW at hW
  rw [← hW]
  obtain ⟨z, hz⟩ : ∃ z, z = w2.heap.size := ⟨_, rfl⟩
  rw [← hz] at hl3
  rw [← hz]
  have hx2 : Bx W w1.heap.size (bx0 (Vm.new 20000)) 72 := HX2.out.below hl3.below (by rw [hz]; exact HX2.out.lt)
  have hbw : Below w.heap.size w W := (HB1.out.trans (HB2.out.mono HB1.out.size)).trans (hl3.below.mono (by have := HB1.out.size; have := HB2.out.size; omega))
  have HL3 := Lib.hid hl3
  have HXW := Lib.hid hx2
  have HBW := Lib.hid hbw
  have HZ := Lib.hid (show w1.heap.size < z ∧ w.heap.size ≤ w1.heap.size by have := HZ2.out; have := HB1.out.size; omega)
  have hmx : z + 1 + 1 + 1 < W.heap.size := hl3.row.lt
  clear hW hl3 hz hx2 hbw
  have c0 : W.cell? ⟨z + 1 + 1 + 1, 4, none⟩ = some (.string ⟨#[111]⟩) := HL3.out.row.cells 4
  have f0 : W.frozen? ⟨z + 1 + 1 + 1, 4, none⟩ = false := HL3.out.row.free 4
  go_upto_region 30 with (first
    | (go_at_call 28; (with_reducible refine (HWA.out _).mono ?_); rintro e wz ⟨rfl, rfl⟩))
  have hl4 := HL3.out.set 4 (.string ⟨#[97]⟩)
  have hb4 : Mv W (W.setCell ⟨z + 1 + 1 + 1, 4, none⟩ (.string ⟨#[97]⟩)) (· = z + 1 + 1 + 1) := Mv.setCell _ _ _
  have hx4 := HXW.out.eq (hb4.block _ HXW.out.lt (by have := HZ.out; omega))
  have hbw4 : Below w.heap.size w _ := HBW.out.trans (hb4.toB HBW.out.size fun k e => by have := HZ.out; omega)
  generalize W.setCell ⟨z + 1 + 1 + 1, 4, none⟩ (.string ⟨#[97]⟩) = W at hl4 hx4 hbw4 ⊢
  have HL3 := Lib.hid hl4
  have HXW := Lib.hid hx4
  have HBW := Lib.hid hbw4
  clear hl4 hx4 hbw4 hb4 c0 f0
  have hf : Fr W (Pl W.heap.size w1.heap.size) (some ⟨z + 1 + 1 + 1, 0, none⟩) 3 [([97], [1]), ([98], [2]), ([97], [3])] := L3.fr HL3.out HZ.out.1
  have HF := Lib.hid hf
  have hcm : cmt (Vm.new 20000) [([97], [1]), ([98], [2]), ([97], [3])] = (7, Vm.new 20000) := by rfl
  clear hf
  have hc := (Vs.new HXW.out).commit (c := 3) (Nat.le_refl _) HF.out (by decide) (by decide) (by decide)
  rw [hcm] at hc
  have HCM := Lib.hid hc
  have hfin : ∀ X, Vs W X W.heap.size w1.heap.size (0 + 300000) (Vm.new 20000) → Below w.heap.size w X := fun X hv => HBW.out.trans (hv.toB HBW.out.size (by have := HZ.out; omega) HBW.out.size)
  have HFIN := Lib.hid hfin
  have ho : ∀ X, Vs W X W.heap.size w1.heap.size (0 + 300000) (Vm.new 20000) → Calls Try.prog 31 #[.pointer (some ⟨w1.heap.size, 0, none⟩)] X fun e w' => e = .returned (.int .i64 0) ∧ X = w' := fun X hv => hv.opsA
  have hna : ∀ X, Vs W X W.heap.size w1.heap.size (0 + 300000) (Vm.new 20000) → Calls Try.prog 32 #[.pointer (some ⟨w1.heap.size, 0, none⟩)] X fun e w' => ∃ A c, e = .returned (.slice A 0 c) ∧ Vs W w' W.heap.size w1.heap.size (0 + 300000) (Vm.new 20000) := fun X hv => hv.namesz (by decide)
  have HO := Lib.hid ho
  have HNA := Lib.hid hna
  clear hc hcm hfin ho hna
  go_wp2_with (first
    | (go_at_call 26; (with_reducible refine HCM.out.mono ?_); rintro e w5 ⟨rfl, hv5⟩; have HV5 := Lib.hid hv5; clear hv5)
    | (go_at_call 31; (with_reducible refine (HO.out _ HV5.out).mono ?_); rintro e w6 ⟨rfl, rfl⟩)
    | (go_at_call 32; (with_reducible refine (HNA.out _ HV5.out).mono ?_); rintro e w7 ⟨A7, c7, rfl, hv7⟩; have HV7 := Lib.hid hv7; clear hv7))
  go_ret
  exact ⟨rfl, HFIN.out _ HV7.out⟩
set_option maxHeartbeats 8000000 in
theorem refuses_7 (a b : Int) (ha : -9223372036854775808 ≤ a ∧ a ≤ 9223372036854775807) (hb : -9223372036854775808 ≤ b ∧ b ≤ 9223372036854775807) (hm : a % 9 = 7) (w : World) :
    Calls Try.prog 6 #[.int .i64 a, .int .i64 b] w fun e w' => e = .returned (.bool true) ∧ Below w.heap.size w w' := by
  have hwa := fun W => within16_any a 9 (by decide) (by decide) ha.1 ha.2 W
  rw [hm] at hwa
  have hwb := fun W => within16_any b 9 (by decide) (by decide) hb.1 hb.2 W
  have hnz := Int.emod_nonneg b (show (9 : Int) ≠ 0 by decide)
  have hnl := Int.emod_lt_of_pos b (show (0 : Int) < 9 by decide)
  generalize b % 9 = n at hwb hnz hnl
  have HWA := Lib.hid hwa
  have HWB := Lib.hid hwb
  clear hwa hwb ha hb hm
  go_enter Try.func6, Try.ntmps6
  go_upto_region 6 with (first
    | (go_at_call 23; (with_reducible refine (known16_any _).mono ?_); rintro e w1 ⟨rfl, hb1⟩; have HB1 := Lib.hid hb1; clear hb1)
    | (go_at_call 28; (with_reducible refine (HWB.out _).mono ?_); rintro e wz ⟨rfl, rfl⟩)
    | (go_at_call 14; (with_reducible refine (new_any _ w1).mono ?_); rintro e w2 ⟨rfl, hbx2, hb2, hz2⟩; have HX2 := Lib.hid hbx2; have HB2 := Lib.hid hb2; have HZ2 := Lib.hid hz2; clear hbx2 hb2 hz2))
  obtain ⟨W, hW⟩ : ∃ W, W = litW w2 := ⟨_, rfl⟩
  have hl3 : L3 w2 W w2.heap.size (rowV w2.heap.size) := hW ▸ l3_new w2
  unfold litW at hW
  rw [← hW]
  obtain ⟨z, hz⟩ : ∃ z, z = w2.heap.size := ⟨_, rfl⟩
  rw [← hz] at hl3
  rw [← hz]
  have hx2 : Bx W w1.heap.size (bx0 (Vm.new 20000)) 72 := HX2.out.below hl3.below (by rw [hz]; exact HX2.out.lt)
  have hbw : Below w.heap.size w W := (HB1.out.trans (HB2.out.mono HB1.out.size)).trans (hl3.below.mono (by have := HB1.out.size; have := HB2.out.size; omega))
  have HL3 := Lib.hid hl3
  have HXW := Lib.hid hx2
  have HBW := Lib.hid hbw
  have HZ := Lib.hid (show w1.heap.size < z ∧ w.heap.size ≤ w1.heap.size by have := HZ2.out; have := HB1.out.size; omega)
  have hmx : z + 1 + 1 + 1 < W.heap.size := hl3.row.lt
  clear hW hl3 hz hx2 hbw
  obtain ⟨d, rfl⟩ : ∃ d : Nat, n = (d : Int) := ⟨n.toNat, by omega⟩
  have hd8 : d ≤ 8 := by omega
  obtain ⟨m, hm⟩ : ∃ m, m = 8001 + d := ⟨_, rfl⟩
  obtain ⟨s, hs⟩ : ∃ s : BS, s = List.replicate m 0 := ⟨_, rfl⟩
  have hsl : m = s.length := by rw [hs, List.length_replicate]
  have hmk : ∀ X : World, (Instr.makeSlice 31 (.int .i64 (8001 + (d : Int))) (.int .i64 (8001 + (d : Int)))).run Try.prog X = .ok (.slice (some ⟨X.heap.size, 0, none⟩) m m) (X.alloc (.cells (byts s).toArray 5)) := fun X => by
    have h := zeros_runL m (by omega) X
    rwa [← hs, show (m : Int) = 8001 + (d : Int) by omega] at h
  have hy : L3 w2 (W.alloc (.cells (byts s).toArray 5)) z (rowV z) := HL3.out.on ((Below.refl _ _).alloc (Nat.le_refl _) _)
  have c0 : (W.alloc (.cells (byts s).toArray 5)).cell? ⟨z + 1 + 1 + 1, 1, none⟩ = some (.slice (some ⟨z, 0, none⟩) 1 1) := hy.row.cells 1
  have f0 : (W.alloc (.cells (byts s).toArray 5)).frozen? ⟨z + 1 + 1 + 1, 1, none⟩ = false := hy.row.free 1
  have HS := Lib.hid hs
  have HM := Lib.hid hm
  have HSL := Lib.hid hsl
  have HY := Lib.hid hy
  clear hs hm hsl hy
  go_upto_region 30 with (first
    | (go_at_call 28; (with_reducible refine (HWA.out _).mono ?_); rintro e wz ⟨rfl, rfl⟩))
  have hb4 : Mv W (W.setCell ⟨z + 1 + 1 + 1, 1, none⟩ (.slice (some ⟨W.heap.size, 0, none⟩) m m)) (· = z + 1 + 1 + 1) := Mv.setCell _ _ _
  have hz4 : (W.setCell ⟨z + 1 + 1 + 1, 1, none⟩ (.slice (some ⟨W.heap.size, 0, none⟩) m m)).heap.size = W.heap.size := by simp [World.setCell]
  have hb5 : Below (W.setCell ⟨z + 1 + 1 + 1, 1, none⟩ (.slice (some ⟨W.heap.size, 0, none⟩) m m)).heap.size (W.setCell ⟨z + 1 + 1 + 1, 1, none⟩ (.slice (some ⟨W.heap.size, 0, none⟩) m m)) ((W.setCell ⟨z + 1 + 1 + 1, 1, none⟩ (.slice (some ⟨W.heap.size, 0, none⟩) m m)).alloc (Obj.cells (byts s).toArray 5)) := (Below.refl _ _).alloc (Nat.le_refl _) _
  have hl4 := (HL3.out.set 1 (.slice (some ⟨W.heap.size, 0, none⟩) m m)).on hb5
  have hx3 := HXW.out.eq (hb4.block _ HXW.out.lt (by have := HZ.out; omega))
  have hx4 := hx3.eq (hb5.block _ hx3.lt)
  have hbw3 : Below w.heap.size w _ := HBW.out.trans (hb4.toB HBW.out.size fun k e => by have := HZ.out; omega)
  have hbw4 : Below w.heap.size w _ := hbw3.trans (hb5.mono hbw3.size)
  have hs4 : Bx ((W.setCell ⟨z + 1 + 1 + 1, 1, none⟩ (.slice (some ⟨W.heap.size, 0, none⟩) m m)).alloc (Obj.cells (byts s).toArray 5)) W.heap.size (byts s) 5 := by
    have h := Bx.new (W.setCell ⟨z + 1 + 1 + 1, 1, none⟩ (.slice (some ⟨W.heap.size, 0, none⟩) m m)) (byts s) 5
    rwa [hz4] at h
  have hwq : w1.heap.size < W.heap.size := HXW.out.lt
  generalize (W.setCell ⟨z + 1 + 1 + 1, 1, none⟩ (.slice (some ⟨W.heap.size, 0, none⟩) m m)).alloc (Obj.cells (byts s).toArray 5) = W5 at hl4 hx4 hbw4 hs4 ⊢
  obtain ⟨W, hW⟩ : ∃ W, W = W5 := ⟨_, rfl⟩
  subst hW
  have HXW := Lib.hid hx4
  have HBW := Lib.hid hbw4
  have hf : Fr W (Pl W.heap.size w1.heap.size) (some ⟨z + 1 + 1 + 1, 0, none⟩) 3 [([97], s), ([98], [2]), ([111], [3])] := by
    have hq := HZ.out.1
    have hm : (1 : Nat) ≤ 1 ∧ 1 ≤ maxLen := by unfold maxLen; omega
    exact fr_row3 hl4.row ⟨hl4.row.lt, by omega⟩ (seesR hs4 ⟨hs4.lt, by omega⟩ HSL.out) (sees1 hl4.b1 ⟨hl4.b1.lt, by omega⟩) (sees1 hl4.b2 ⟨hl4.b2.lt, by omega⟩) ⟨Nat.le_refl _, by have := HM.out; unfold maxLen; omega⟩ hm hm
  have HF := Lib.hid hf
  have hcm := cmt_big (s := s) (by have := HM.out; have := HSL.out; omega)
  clear hf hl4 hx4 hbw4 hx3 hb4 hb5 hbw3 hz4 c0 f0 hs4
  have hc := (Vs.new HXW.out).commit (c := 3) (Nat.le_refl _) HF.out (by decide) (by decide) (by decide)
  rw [hcm] at hc
  have HCM := Lib.hid hc
  have hfin : ∀ X, Vs W X W.heap.size w1.heap.size (0 + 300000) (Vm.new 20000) → Below w.heap.size w X := fun X hv => HBW.out.trans (hv.toB HBW.out.size (by have := HZ.out; omega) HBW.out.size)
  have HFIN := Lib.hid hfin
  have ho : ∀ X, Vs W X W.heap.size w1.heap.size (0 + 300000) (Vm.new 20000) → Calls Try.prog 31 #[.pointer (some ⟨w1.heap.size, 0, none⟩)] X fun e w' => e = .returned (.int .i64 0) ∧ X = w' := fun X hv => hv.opsA
  have hna : ∀ X, Vs W X W.heap.size w1.heap.size (0 + 300000) (Vm.new 20000) → Calls Try.prog 32 #[.pointer (some ⟨w1.heap.size, 0, none⟩)] X fun e w' => ∃ A c, e = .returned (.slice A 0 c) ∧ Vs W w' W.heap.size w1.heap.size (0 + 300000) (Vm.new 20000) := fun X hv => hv.namesz (by decide)
  have HO := Lib.hid ho
  have HNA := Lib.hid hna
  clear hc hcm hfin ho hna
  go_wp2_with (first
    | (go_at_call 26; (with_reducible refine HCM.out.mono ?_); rintro e w5 ⟨rfl, hv5⟩; have HV5 := Lib.hid hv5; clear hv5)
    | (go_at_call 31; (with_reducible refine (HO.out _ HV5.out).mono ?_); rintro e w6 ⟨rfl, rfl⟩)
    | (go_at_call 32; (with_reducible refine (HNA.out _ HV5.out).mono ?_); rintro e w7 ⟨A7, c7, rfl, hv7⟩; have HV7 := Lib.hid hv7; clear hv7))
  go_ret
  exact ⟨rfl, HFIN.out _ HV7.out⟩
set_option maxHeartbeats 8000000 in
theorem refuses_8 (a b : Int) (ha : -9223372036854775808 ≤ a ∧ a ≤ 9223372036854775807) (hb : -9223372036854775808 ≤ b ∧ b ≤ 9223372036854775807) (hm : a % 9 = 8) (w : World) :
    Calls Try.prog 6 #[.int .i64 a, .int .i64 b] w fun e w' => e = .returned (.bool true) ∧ Below w.heap.size w w' := by
  have hwa := fun W => within16_any a 9 (by decide) (by decide) ha.1 ha.2 W
  rw [hm] at hwa
  have hwb := fun W => within16_any b 9 (by decide) (by decide) hb.1 hb.2 W
  have hnz := Int.emod_nonneg b (show (9 : Int) ≠ 0 by decide)
  have hnl := Int.emod_lt_of_pos b (show (0 : Int) < 9 by decide)
  generalize b % 9 = n at hwb hnz hnl
  have HWA := Lib.hid hwa
  have HWB := Lib.hid hwb
  clear hwa hwb ha hb hm
  go_enter Try.func6, Try.ntmps6
  go_upto_region 6 with (first
    | (go_at_call 23; (with_reducible refine (known16_any _).mono ?_); rintro e w1 ⟨rfl, hb1⟩; have HB1 := Lib.hid hb1; clear hb1)
    | (go_at_call 28; (with_reducible refine (HWB.out _).mono ?_); rintro e wz ⟨rfl, rfl⟩)
    | (go_at_call 14; (with_reducible refine (new_any _ w1).mono ?_); rintro e w2 ⟨rfl, hbx2, hb2, hz2⟩; have HX2 := Lib.hid hbx2; have HB2 := Lib.hid hb2; have HZ2 := Lib.hid hz2; clear hbx2 hb2 hz2))
  obtain ⟨W, hW⟩ : ∃ W, W = litW w2 := ⟨_, rfl⟩
  have hl3 : L3 w2 W w2.heap.size (rowV w2.heap.size) := hW ▸ l3_new w2
  unfold litW at hW
  rw [← hW]
  obtain ⟨z, hz⟩ : ∃ z, z = w2.heap.size := ⟨_, rfl⟩
  rw [← hz] at hl3
  rw [← hz]
  have hx2 : Bx W w1.heap.size (bx0 (Vm.new 20000)) 72 := HX2.out.below hl3.below (by rw [hz]; exact HX2.out.lt)
  have hbw : Below w.heap.size w W := (HB1.out.trans (HB2.out.mono HB1.out.size)).trans (hl3.below.mono (by have := HB1.out.size; have := HB2.out.size; omega))
  have HL3 := Lib.hid hl3
  have HXW := Lib.hid hx2
  have HBW := Lib.hid hbw
  have HZ := Lib.hid (show w1.heap.size < z ∧ w.heap.size ≤ w1.heap.size by have := HZ2.out; have := HB1.out.size; omega)
  have hmx : z + 1 + 1 + 1 < W.heap.size := hl3.row.lt
  clear hW hl3 hz hx2 hbw
  go_upto_region 30 with (first
    | (go_at_call 28; (with_reducible refine (HWA.out _).mono ?_); rintro e wz ⟨rfl, rfl⟩)
    | (go_at_call 14; (with_reducible refine (new_any _ W).mono ?_); rintro e w4 ⟨rfl, hbx4, hb4, hz4⟩; have HX4 := Lib.hid hbx4; have HB4 := Lib.hid hb4; have HZ4 := Lib.hid hz4; clear hbx4 hb4 hz4))
  have hl4 := HL3.out.on HB4.out
  have hbw4 : Below w.heap.size w w4 := HBW.out.trans (HB4.out.mono HBW.out.size)
  have hf : Fr w4 (Pl w4.heap.size W.heap.size) (some ⟨z + 1 + 1 + 1, 0, none⟩) 3 [([97], [1]), ([98], [2]), ([111], [3])] := by
    have hq := hl4.row.lt
    have hm : (1 : Nat) ≤ 1 ∧ 1 ≤ maxLen := by unfold maxLen; omega
    exact fr_row3 hl4.row ⟨hl4.row.lt, by omega⟩ (sees1 hl4.b0 ⟨hl4.b0.lt, by omega⟩) (sees1 hl4.b1 ⟨hl4.b1.lt, by omega⟩) (sees1 hl4.b2 ⟨hl4.b2.lt, by omega⟩) hm hm hm
  obtain ⟨p, hp⟩ : ∃ p, p = W.heap.size := ⟨_, rfl⟩
  have hx4 := HX4.out
  rw [← hp] at hx4 hf
  rw [← hp]
  have hz4 : p < w4.heap.size := hx4.lt
  have HZ := Lib.hid (show w.heap.size ≤ p by have := HBW.out.size; omega)
  clear HL3 HXW HBW HX4 HB4 HZ4 hl4 hmx hp
  have HXW := Lib.hid hx4
  have HBW := Lib.hid hbw4
  have HF := Lib.hid hf
  have hcm : cmt (Vm.new 10) [([97], [1]), ([98], [2]), ([111], [3])] = (14, Vm.new 10) := by rfl
  clear hx4 hbw4 hf
  have hc := (Vs.new HXW.out).commit (c := 3) (Nat.le_refl _) HF.out (by decide) (by decide) (by decide)
  rw [hcm] at hc
  have HCM := Lib.hid hc
  have hfin : ∀ X, Vs w4 X w4.heap.size p (0 + 300000) (Vm.new 10) → Below w.heap.size w X := fun X hv => HBW.out.trans (hv.toB HBW.out.size (by have := HZ.out; omega) HBW.out.size)
  have HFIN := Lib.hid hfin
  have ho : ∀ X, Vs w4 X w4.heap.size p (0 + 300000) (Vm.new 10) → Calls Try.prog 31 #[.pointer (some ⟨p, 0, none⟩)] X fun e w' => e = .returned (.int .i64 0) ∧ X = w' := fun X hv => hv.opsA
  have hna : ∀ X, Vs w4 X w4.heap.size p (0 + 300000) (Vm.new 10) → Calls Try.prog 32 #[.pointer (some ⟨p, 0, none⟩)] X fun e w' => ∃ A c, e = .returned (.slice A 0 c) ∧ Vs w4 w' w4.heap.size p (0 + 300000) (Vm.new 10) := fun X hv => hv.namesz (by decide)
  have HO := Lib.hid ho
  have HNA := Lib.hid hna
  clear hc hcm hfin ho hna
  go_wp2_with (first
    | (go_at_call 26; (with_reducible refine HCM.out.mono ?_); rintro e w5 ⟨rfl, hv5⟩; have HV5 := Lib.hid hv5; clear hv5)
    | (go_at_call 31; (with_reducible refine (HO.out _ HV5.out).mono ?_); rintro e w6 ⟨rfl, rfl⟩)
    | (go_at_call 32; (with_reducible refine (HNA.out _ HV5.out).mono ?_); rintro e w7 ⟨A7, c7, rfl, hv7⟩; have HV7 := Lib.hid hv7; clear hv7))
  go_ret
  exact ⟨rfl, HFIN.out _ HV7.out⟩
theorem commitRefuses_walk (a b : Int) (ha : -9223372036854775808 ≤ a ∧ a ≤ 9223372036854775807) (hb : -9223372036854775808 ≤ b ∧ b ≤ 9223372036854775807) (w : World) :
    Calls Try.prog 6 #[.int .i64 a, .int .i64 b] w fun e w' => e = .returned (.bool true) ∧ Below w.heap.size w w' := by
  have h0 := Int.emod_nonneg a (show (9 : Int) ≠ 0 by decide)
  have h1 := Int.emod_lt_of_pos a (show (0 : Int) < 9 by decide)
  rcases (show a % 9 = 0 ∨ a % 9 = 1 ∨ a % 9 = 2 ∨ a % 9 = 3 ∨ a % 9 = 4 ∨ a % 9 = 5 ∨ a % 9 = 6 ∨ a % 9 = 7 ∨ a % 9 = 8 by omega) with h | h | h | h | h | h | h | h | h
  · exact refuses_0 a b ha hb h w
  · exact refuses_1 a b ha hb h w
  · exact refuses_2 a b ha hb h w
  · exact refuses_3 a b ha hb h w
  · exact refuses_4 a b ha hb h w
  · exact refuses_5 a b ha hb h w
  · exact refuses_6 a b ha hb h w
  · exact refuses_7 a b ha hb h w
  · exact refuses_8 a b ha hb h w
end Go.Proofs.Ytpaaafdnkehmfaa.Vf
