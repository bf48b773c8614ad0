/- merge's laws: row and value. No conditions. -/
import Derived.Test.YtchoipmfngcdoaaMgRowM
import Derived.Deep.CutRange
namespace Go.Proofs.Ytchoipmfngcdoaa.Mg
open Go.RowKit Go.Proofs.Ytchoipmfngcdoaa.Pt Go.Proofs.Ytchoipmfngcdoaa.Df Go.Proofs.Ytchoipmfngcdoaa.Sc Go.Proofs.Ytchoipmfngcdoaa.Cl
set_option maxRecDepth 100000

theorem quo_lim {x : Int} (d : Int) (hd : 1 ≤ d) (h : -9223372036854775808 ≤ x ∧ x ≤ 9223372036854775807) : -9223372036854775808 ≤ x.tdiv d ∧ x.tdiv d ≤ 9223372036854775807 := by
  rcases Int.le_total 0 x with h0 | h0
  · rw [Int.tdiv_eq_ediv_of_nonneg h0]
    have h1 := Int.ediv_le_self d h0
    have h2 := Int.ediv_nonneg h0 (show 0 ≤ d by omega)
    omega
  · have e : x.tdiv d = -((-x).tdiv d) := by rw [Int.neg_tdiv, Int.neg_neg]
    rw [e, Int.tdiv_eq_ediv_of_nonneg (by omega)]
    have h1 := Int.ediv_le_self d (show 0 ≤ -x by omega)
    have h2 := Int.ediv_nonneg (show 0 ≤ -x by omega) (show 0 ≤ d by omega)
    omega
theorem wf_of {x : Int} (h : -9223372036854775808 ≤ x ∧ x ≤ 9223372036854775807) : (Lit.int .i64 x).wf = true := by
  simpa [Lit.wf, IntKind.min, IntKind.max, IntKind.signed, IntKind.bits] using h
/-- The text of one byte. -/
theorem conv48 (i : Nat) (hi : i ≤ 25) (V : World) (g : Nat) (hg : V.heap[g]? = some (Obj.cells #[Value.int .u8 (48 + (i : Int))] 5 (0, 0))) : (convert 77 9 (.slice (some ⟨g, 0, none⟩) 1 1)).run Try.prog V = .ok (.string ⟨#[UInt8.ofNat (48 + i)]⟩) V := by
  have hb : byt (UInt8.ofNat (48 + i)) = Value.int .u8 (48 + (i : Int)) := by
    simp only [byt, UInt8.toNat_ofNat']
    congr 1
    omega
  have hs : Sees V (g + 1) (some ⟨g, 0, none⟩) 1 [UInt8.ofNat (48 + i)] := by
    refine ⟨rfl, fun q u hu => ⟨_, rfl, Nat.lt_succ_self _, ?_⟩⟩
    cases q with
    | zero =>
      simp only [List.getElem?_cons_zero, Option.some.injEq] at hu
      subst hu
      rw [Addr.add_lit, cell_of_row _ _ _ _ _ _ hg, hb]
      rfl
    | succ q => simp at hu
  exact run_text _ _ _ Try.underlying77 Try.underlying5 Try.underlying9 hs
theorem heap2_low (w : World) (a b : Obj) : ((w.alloc a).alloc b).heap[w.heap.size]? = some a := by
  rw [heap_alloc_old (w.alloc a) b (Array.getElem?_eq_some_iff.1 (heap_alloc_new w a)).1]
  exact heap_alloc_new w a
theorem heap2_high (w : World) (a b : Obj) : ((w.alloc a).alloc b).heap[w.heap.size + 1]? = some b := by
  have h := heap_alloc_new (w.alloc a) b
  rwa [show (w.alloc a).heap.size = w.heap.size + 1 by simp] at h
theorem valueT_any (x : ByteArray) (w : World) : Calls Try.prog 20 #[.string x] w (OkP w (.cons x .nil .nil)) :=
  (value_any x w).mono fun e w' ⟨he, hw⟩ => by
    subst hw
    refine ⟨some ⟨w.heap.size, 0, none⟩, 1, 1, he, ⟨?_, Nat.le_refl _, by simp [maxLen]⟩, (Below.refl _ _).alloc (Nat.le_refl _) _⟩
    have h := Bx.new w [.string x, .slice none 0 0] 51
    exact ⟨w.heap.size, 0, rfl, h.lt, h.cells 0, ⟨none, 0, 0, h.cells 1, Nat.le_refl _, Nat.zero_le _, rfl⟩, 0, rfl, rfl⟩
def RowP (w : World) (n : Int) (e : Ending) (w' : World) : Prop := ∃ (A : Option Addr) (N c : Nat) (t : Tr), e = .returned (.slice A N c) ∧ OkT w' A N c t ∧ RowI t (dg n) 3 ∧ Below w.heap.size w w'

set_option maxHeartbeats 4000000 in
theorem value12_any {W : World} {A : Option Addr} {n c k : Nat} {t : Tr} {s : ByteArray} (h : OkT W A n c t) (hz : t.len ≤ 1000000) (hs : bl t s = vO k) :
    Calls Try.prog 12 #[.slice A n c, .string s] W fun e w' => e = .returned (.string (vS k)) ∧ ∃ q, w' = W.drewN q := by
  have HK := Lib.hid (kid2_any t A n c W.heap.size s W h.holds (Nat.le_refl _) (by have := h.holds.len; omega))
  cases k with
  | zero =>
    have e1 : t.atIs s = false := congrArg Op.is hs
    rw [e1] at HK
    clear h hz hs e1
    go_enter Try.func12, Try.ntmps12
    go_wp2_with fail
    (with_reducible refine HK.out.mono ?_)
    rintro e w' ⟨A', n', c', rfl, _, _, _, q, rfl⟩
    go_wp2_with fail
    go_ret
    exact ⟨rfl, q, rfl⟩
  | succ k =>
    have e1 : t.atIs s = true := congrArg Op.is hs
    have e2 : kidT t s = .cons (vB (k + 1)) .nil .nil := congrArg Op.t hs
    rw [e1, e2] at HK
    clear h hz hs e1 e2
    go_enter Try.func12, Try.ntmps12
    go_wp2_with fail
    (with_reducible refine HK.out.mono ?_)
    rintro e w' ⟨A', n', c', rfl, hk, hc, hm, q, rfl⟩
    obtain rfl : n' = 1 := hk.len
    obtain ⟨b, o, rfl, hb, hcell, _⟩ := hk
    have hcell' : (W.drewN q).cell? ⟨b, o, none⟩ = some (.string (vB (k + 1))) := hcell
    go_wp2_with fail
    go_ret
    exact ⟨rfl, q, rfl⟩

theorem names3 (W : World) {k : Nat} {s : ByteArray} (hs : nm3[k]? = some s) : (W.alloc (Obj.cells #[Value.string ⟨#[97]⟩, Value.string ⟨#[98]⟩, Value.string ⟨#[99]⟩] 9)).cell? ⟨W.heap.size, k, none⟩ = some (.string s) := by
  have h := Bx.new W [.string ⟨#[97]⟩, .string ⟨#[98]⟩, .string ⟨#[99]⟩] 9
  match k, hs with
  | 0, hs => have e : s = ⟨#[97]⟩ := by simpa using hs.symm
             rw [e]; exact h.cells 0
  | 1, hs => have e : s = ⟨#[98]⟩ := by simpa using hs.symm
             rw [e]; exact h.cells 1
  | 2, hs => have e : s = ⟨#[99]⟩ := by simpa using hs.symm
             rw [e]; exact h.cells 2
  | k + 3, hs => simp at hs

set_option maxHeartbeats 8000000 in
theorem row_any (n : Int) (hr : -9223372036854775808 ≤ n ∧ n ≤ 9223372036854775807) (w : World) : Calls Try.prog 11 #[.int .i64 n] w (RowP w n) := by
  go_enter Try.func11, Try.ntmps11
  go_wp2_with fail
  go_loopw [3, 4] (fun tv i wr => ∃ (k : Nat) (t : Tr) (A : Option Addr) (N c : Nat), k ≤ 3 ∧ i = .int .i64 k ∧ tv = .slice A N c ∧ Hid (OkT wr A N c t ∧ RowI t (dg n) k ∧ Below w.heap.size w wr)) (fun _ i _ => 3 - (intOf i).toNat)
  case atStart => exact ⟨0, .nil, none, 0, 0, by omega, rfl, rfl, Lib.hid ⟨⟨rfl, Nat.le_refl _, Nat.zero_le _⟩, row_start _, Below.refl _ _⟩⟩
  case round =>
    obtain ⟨k, t, A, N, c, hk, rfl, rfl, HO⟩ := hrel
    by_cases hlt : k < 3
    · have hlt1 : (k : Int) < 3 := by omega
      have hlt0 : (0 : Int) ≤ (k : Int) := by omega
      go_upto_region 5 with (fail)
      go_cut [5] from 6 to 30 (fun dv wx => dv = .int .i64 (dg n k) ∧ Below wr.heap.size wr wx)
      case first =>
        rcases (show k = 0 ∨ k = 1 ∨ k = 2 by omega) with rfl | rfl | rfl
        · have HW := Lib.hid (within12_any (n) 4 (by omega) (by omega) (wf_of (by simpa using quo_lim 1 (by omega) hr)) (wr.alloc (Obj.cells #[Value.int .i64 1, Value.int .i64 4, Value.int .i64 16] 3)))
          have hq : IntKind.i64.wrap (n) = n := IntWalk.i64_in _ (by simpa using quo_lim 1 (by omega) hr)
          go_wp2_with fail
          (with_reducible refine HW.out.mono ?_)
          rintro e w' ⟨rfl, rfl⟩
          go_wp2_with fail
          go_meet
          exact ⟨by rw [← dg_int]; simp [dgD], (Below.refl _ _).alloc (Nat.le_refl _) _⟩
        · have HW := Lib.hid (within12_any (n.tdiv 4) 4 (by omega) (by omega) (wf_of (by simpa using quo_lim 4 (by omega) hr)) (wr.alloc (Obj.cells #[Value.int .i64 1, Value.int .i64 4, Value.int .i64 16] 3)))
          have hq : IntKind.i64.wrap (n.tdiv 4) = n.tdiv 4 := IntWalk.i64_in _ (by simpa using quo_lim 4 (by omega) hr)
          go_wp2_with fail
          (with_reducible refine HW.out.mono ?_)
          rintro e w' ⟨rfl, rfl⟩
          go_wp2_with fail
          go_meet
          exact ⟨by rw [← dg_int]; simp [dgD], (Below.refl _ _).alloc (Nat.le_refl _) _⟩
        · have HW := Lib.hid (within12_any (n.tdiv 16) 4 (by omega) (by omega) (wf_of (by simpa using quo_lim 16 (by omega) hr)) (wr.alloc (Obj.cells #[Value.int .i64 1, Value.int .i64 4, Value.int .i64 16] 3)))
          have hq : IntKind.i64.wrap (n.tdiv 16) = n.tdiv 16 := IntWalk.i64_in _ (by simpa using quo_lim 16 (by omega) hr)
          go_wp2_with fail
          (with_reducible refine HW.out.mono ?_)
          rintro e w' ⟨rfl, rfl⟩
          go_wp2_with fail
          go_meet
          exact ⟨by rw [← dg_int]; simp [dgD], (Below.refl _ _).alloc (Nat.le_refl _) _⟩
      case rest =>
        obtain ⟨rfl, hb⟩ := hcut
        obtain ⟨wa, rfl⟩ : ∃ x : World, x = wc := ⟨_, rfl⟩
        obtain ⟨nm, hnm⟩ := nm3_at hlt
        have Hnm := Lib.hid hnm
        have HO2 := Lib.hid (show OkT wa A N c t ∧ RowI t (dg n) k ∧ Below w.heap.size w wa from ⟨HO.out.1.below hb, HO.out.2.1, HO.out.2.2.trans (hb.mono HO.out.2.2.size)⟩)
        clear hnm HO hb
        have hd4 := dg_lt n k
        obtain ⟨d, hd⟩ : ∃ d, d = dg n k := ⟨_, rfl⟩
        rw [← hd] at hd4
        rw [← hd]
        have Hd := Lib.hid hd
        clear hd
        by_cases h0 : d = 0
        · subst h0
          go_wp2_with fail
          go_roundw
          case rel => exact ⟨k + 1, t, A, N, c, by omega, by go_num, rfl, Lib.hid ⟨HO2.out.1, row_skip HO2.out.2.1 Hd.out.symm, HO2.out.2.2⟩⟩
          case measure => simp [intOf]; omega
        · have hd0 : (0 : Int) < (d : Int) := by omega
          have hw1 : IntKind.i64.wrap (48 + (d : Int)) = 48 + (d : Int) := IntWalk.i64_in _ (by omega)
          have hw2 : IntKind.u8.wrap (48 + (d : Int)) = 48 + (d : Int) := by rw [IntKind.wrap_u8]; omega
          have z1 := conv48 d (by omega) (wa.alloc (Obj.cells #[Value.int .u8 (48 + (d : Int))] 5)).drew wa.heap.size (heap_alloc_new wa _)
          have z2 := conv48 d (by omega) ((wa.alloc (Obj.cells #[Value.string ⟨#[97]⟩, Value.string ⟨#[98]⟩, Value.string ⟨#[99]⟩] 9)).alloc (Obj.cells #[Value.int .u8 (48 + (d : Int))] 5)).drew (wa.heap.size + 1) (heap2_high wa _ _)
          have z3 := conv48 d (by omega) ((wa.alloc (Obj.cells #[Value.int .u8 (48 + (d : Int))] 5)).alloc (Obj.cells #[Value.string ⟨#[97]⟩, Value.string ⟨#[98]⟩, Value.string ⟨#[99]⟩] 9)).drew wa.heap.size (heap2_low wa _ _)
          obtain ⟨vb, hvb⟩ : ∃ b : ByteArray, b = ⟨#[UInt8.ofNat (48 + d)]⟩ := ⟨_, rfl⟩
          rw [← hvb] at z1 z2 z3
          have Hvb := Lib.hid (show vb = vB d from hvb)
          have HV := Lib.hid (fun (W : World) (_ : Below wa.heap.size wa W) => valueT_any vb W)
          have hy := fun W => names3 W Hnm.out
          have hy2 : (wa.alloc (Obj.cells #[Value.string ⟨#[97]⟩, Value.string ⟨#[98]⟩, Value.string ⟨#[99]⟩] 9)).drew.cell? ⟨wa.heap.size, k, none⟩ = some (.string nm) := names3 wa Hnm.out
          have b1 : Below wa.heap.size wa (wa.alloc (Obj.cells #[Value.int .u8 (48 + (d : Int))] 5)).drew := ((Below.refl _ _).alloc (Nat.le_refl _) _).drew
          have b2 : Below wa.heap.size wa ((wa.alloc (Obj.cells #[Value.string ⟨#[97]⟩, Value.string ⟨#[98]⟩, Value.string ⟨#[99]⟩] 9)).alloc (Obj.cells #[Value.int .u8 (48 + (d : Int))] 5)).drew := (((Below.refl _ _).alloc (Nat.le_refl _) _).alloc (by simp) _).drew
          have b3 : Below wa.heap.size wa ((wa.alloc (Obj.cells #[Value.int .u8 (48 + (d : Int))] 5)).alloc (Obj.cells #[Value.string ⟨#[97]⟩, Value.string ⟨#[98]⟩, Value.string ⟨#[99]⟩] 9)).drew := (((Below.refl _ _).alloc (Nat.le_refl _) _).alloc (by simp) _).drew
          have hy4 : ((wa.alloc (Obj.cells #[Value.string ⟨#[97]⟩, Value.string ⟨#[98]⟩, Value.string ⟨#[99]⟩] 9)).alloc (Obj.cells #[Value.int .u8 (48 + (d : Int))] 5)).drew.cell? ⟨wa.heap.size, k, none⟩ = some (.string nm) := by
            have h1 : Below (wa.alloc (Obj.cells #[Value.string ⟨#[97]⟩, Value.string ⟨#[98]⟩, Value.string ⟨#[99]⟩] 9)).heap.size (wa.alloc (Obj.cells #[Value.string ⟨#[97]⟩, Value.string ⟨#[98]⟩, Value.string ⟨#[99]⟩] 9)) ((wa.alloc (Obj.cells #[Value.string ⟨#[97]⟩, Value.string ⟨#[98]⟩, Value.string ⟨#[99]⟩] 9)).alloc (Obj.cells #[Value.int .u8 (48 + (d : Int))] 5)).drew := ((Below.refl _ _).alloc (Nat.le_refl _) _).drew
            exact (h1.cell (p := ⟨wa.heap.size, k, none⟩) (by simp)).trans (names3 wa Hnm.out)
          have hy5 : ((wa.alloc (Obj.cells #[Value.int .u8 (48 + (d : Int))] 5)).alloc (Obj.cells #[Value.string ⟨#[97]⟩, Value.string ⟨#[98]⟩, Value.string ⟨#[99]⟩] 9)).drew.cell? ⟨wa.heap.size + 1, k, none⟩ = some (.string nm) := by
            have := names3 (wa.alloc (Obj.cells #[Value.int .u8 (48 + (d : Int))] 5)) Hnm.out
            rwa [show (wa.alloc (Obj.cells #[Value.int .u8 (48 + (d : Int))] 5)).heap.size = wa.heap.size + 1 by simp] at this
          clear hvb
          go_wp2_with fail
          go_region_law (first
            | (go_simp; (with_reducible refine (HV.out _ b2).mono ?_); rintro e w4 ⟨V1, V2, V3, rfl, okv, hbv⟩; have hy3 := (hbv.cell (p := ⟨wa.heap.size, k, none⟩) (by simp; omega)).trans hy4; have hbr := b2.trans (hbv.mono b2.size); have HW := Lib.hid (fun W0 (hb : Below w4.heap.size w4 W0) => with_ok nm (HO2.out.1.below (hbr.trans (hb.mono hbr.size))) (okv.below hb) (by have := HO2.out.2.1.size; omega)); have hr4 := Below.refl w4.heap.size w4)
            | (go_simp; (with_reducible refine (HV.out _ b3).mono ?_); rintro e w4 ⟨V1, V2, V3, rfl, okv, hbv⟩; have hy3 := (hbv.cell (p := ⟨wa.heap.size + 1, k, none⟩) (by simp)).trans hy5; have hbr := b3.trans (hbv.mono b3.size); have HW := Lib.hid (fun W0 (hb : Below w4.heap.size w4 W0) => with_ok nm (HO2.out.1.below (hbr.trans (hb.mono hbr.size))) (okv.below hb) (by have := HO2.out.2.1.size; omega)); have hr4 := Below.refl w4.heap.size w4)
            | (go_simp; (with_reducible refine (HV.out _ b1).mono ?_); rintro e w4 ⟨V1, V2, V3, rfl, okv, hbv⟩; have hbr := b1.trans (hbv.mono b1.size); have HW := Lib.hid (fun W0 (hb : Below w4.heap.size w4 W0) => with_ok nm (HO2.out.1.below (hbr.trans (hb.mono hbr.size))) (okv.below hb) (by have := HO2.out.2.1.size; omega)); have hr4 := (Below.refl w4.heap.size w4).alloc (Nat.le_refl _) (Obj.cells #[Value.string ⟨#[97]⟩, Value.string ⟨#[98]⟩, Value.string ⟨#[99]⟩] 9))
            | (go_simp; (with_reducible refine (HW.out _ hr4).mono ?_); rintro e w5 ⟨X1, X2, X3, rfl, okx, hbx⟩))
          all_goals
            go_wp2_with fail
            go_roundw
            case rel => exact ⟨k + 1, t.withT nm (.cons vb .nil .nil), X1, X2, X3, by omega, by go_num, rfl, Lib.hid ⟨okx, by
              have e := Hvb.out
              subst e
              obtain ⟨d', rfl⟩ : ∃ d', d = d' + 1 := ⟨d - 1, by omega⟩
              exact row_put HO2.out.2.1 Hnm.out Hd.out.symm, HO2.out.2.2.trans ((hbr.trans ((hr4.trans (hbx.mono hr4.size)).mono hbr.size)).mono HO2.out.2.2.size)⟩⟩
            case measure => simp [intOf]; omega
    · obtain rfl : k = 3 := by omega
      go_wp2_with fail
      go_ret
      exact ⟨A, N, c, t, rfl, HO.out⟩
end Go.Proofs.Ytchoipmfngcdoaa.Mg
