/- The second reader's face: what each answers, and what it leaves. -/
import Derived.Test.YtfnenafdmpihaaaRefTake
import Derived.Deep.RegionHeld3
namespace Go.Proofs.Ytfnenafdmpihaaa
open Go.RowKit

/-- What a second reader is made of: its slice, its bytes. -/
structure Dat where
  A : Option Addr
  n : Nat
  c : Nat
  L : List UInt8
def Rfs (D : Dat) (w : World) (g : Nat) (l : List UInt8) (e : Int) : Prop := ∃ A n c L p, Rf w g A n c L p e ∧ l = L.drop p ∧ D = ⟨A, n, c, L⟩
def RfPost (D : Dat) (w w' : World) (g : Nat) (l : List UInt8) (e : Int) : Prop := Rfs D w' g l e ∧ w.grownBy w' (some g)
variable {D : Dat}

theorem rtake_err (g k : Nat) (l : List UInt8) (e : Int) (w : World) (h : Rfs D w g l e) (he : e ≠ 0) : Calls Try.prog 37 #[.pointer (some ⟨g, 0, none⟩), .int .i64 k] w fun en w' =>
    en = .returned (.slice none 0 0) ∧ RfPost D w w' g l e := by
  obtain ⟨A, n, c, L, p, h, rfl, rfl⟩ := h
  exact (take_err g n c p k A L e w h he).mono fun en w' ⟨a, b⟩ => ⟨a, ⟨A, n, c, L, p, b.1, rfl, rfl⟩, b.2⟩
theorem rtake_short (g k : Nat) (l : List UInt8) (w : World) (h : Rfs D w g l 0) (hk : l.length < k) : Calls Try.prog 37 #[.pointer (some ⟨g, 0, none⟩), .int .i64 k] w fun en w' =>
    en = .returned (.slice none 0 0) ∧ RfPost D w w' g l 8 := by
  obtain ⟨A, n, c, L, p, h, rfl, rfl⟩ := h
  have hl := h.sees.len
  rw [List.length_drop] at hk
  exact (take_short g n c p k A L w h (by omega)).mono fun en w' ⟨a, b⟩ => ⟨a, ⟨A, n, c, L, p, b.1, rfl, rfl⟩, b.2⟩
theorem rtake_yes (g k : Nat) (l : List UInt8) (w : World) (h : Rfs D w g l 0) (hk : ¬ l.length < k) (hk2 : k ≤ 65535) : Calls Try.prog 37 #[.pointer (some ⟨g, 0, none⟩), .int .i64 k] w fun en w' =>
    TakeGot en w' g k (l.take k) ∧ RfPost D w w' g (l.drop k) 0 := by
  obtain ⟨A, n, c, L, p, h, rfl, rfl⟩ := h
  have hl := h.sees.len
  have hp := h.pos
  rw [List.length_drop] at hk
  exact (take_yes g n c p k A L w h (by omega) hk2).mono fun en w' ⟨a, b⟩ => ⟨a, ⟨A, n, c, L, p + k, b.1, by rw [List.drop_drop], rfl⟩, b.2⟩

theorem valB_cons {T : List UInt8} {k : Nat} (h : k < T.length) : valB (T.drop k) = (T.getD k 0).toNat + 256 * valB (T.drop (k + 1)) := by
  rw [List.drop_eq_getElem_cons h, valB]
  simp [List.getD, List.getElem?_eq_getElem h]
theorem shl_or (x : UInt8) (V : Nat) (hV : V < 2 ^ 56) : bits .or .u64 (((V : Int) * 256)) (x.toNat : Int) = ((x.toNat + 256 * V : Nat) : Int) := by
  have hx := x.toNat_lt
  generalize x.toNat = y at *
  have e : ((V : Int) * 256) = ((V * 2 ^ 8 : Nat) : Int) := by omega
  rw [e, u64_or_nat _ _ (by omega) (by omega)]
  congr 1
  rw [← Nat.shiftLeft_eq, ← Nat.shiftLeft_add_eq_or_of_lt (by omega), Nat.shiftLeft_eq]
  omega

set_option maxHeartbeats 1000000 in
theorem rbyte_any (g : Nat) (l : List UInt8) (e : Int) (w : World) (h : Rfs D w g l e) : Calls Try.prog 24 #[.pointer (some ⟨g, 0, none⟩)] w fun en w' =>
    en = .returned (.int .i64 (((rdStep 1 l e).1 : Nat) : Int)) ∧ RfPost D w w' g (rdStep 1 l e).2.1 (rdStep 1 l e).2.2 := by
  by_cases he : e = 0
  · subst he
    by_cases hk : l.length < 1
    · rw [rdStep_short hk]
      go_enter Try.func24, Try.ntmps24
      go_wp2_with fail
      refine (rtake_short g 1 l w h hk).mono ?_
      rintro en w' ⟨rfl, hp⟩
      go_wp2_with fail
      go_ret
      exact ⟨rfl, hp⟩
    · rw [rdStep_yes hk]
      obtain ⟨x, r, rfl⟩ : ∃ x r, l = x :: r := by
        cases l with
        | nil => exact absurd (by simp) hk
        | cons x r => exact ⟨x, r, rfl⟩
      have e1 : valB ((x :: r).take 1) = x.toNat := by simp [valB]
      rw [e1]
      go_enter Try.func24, Try.ntmps24
      go_wp2_with fail
      refine (rtake_yes g 1 _ w h hk (by omega)).mono ?_
      rintro en w' ⟨⟨A2, c2, rfl, hs⟩, hp⟩
      obtain ⟨b, o, rfl, _, hc⟩ := hs.at0 (j := 0) (by omega)
      have hx : ((x :: r).take 1).getD 0 0 = x := rfl
      rw [hx, Nat.add_zero] at hc
      have hx256 := x.toNat_lt
      clear hx hs
      go_wp2_with fail
      go_ret
      exact ⟨rfl, hp⟩
  · rw [rdStep_err he]
    go_enter Try.func24, Try.ntmps24
    go_wp2_with fail
    refine (rtake_err g 1 l e w h he).mono ?_
    rintro en w' ⟨rfl, hp⟩
    go_wp2_with fail
    go_ret
    exact ⟨rfl, hp⟩

set_option maxHeartbeats 2000000 in
theorem rint_any (g : Nat) (l : List UInt8) (e : Int) (w : World) (h : Rfs D w g l e) : Calls Try.prog 22 #[.pointer (some ⟨g, 0, none⟩)] w fun en w' =>
    en = .returned (.int .i64 (wrap64 (((rdStep 8 l e).1 : Nat) : Int))) ∧ RfPost D w w' g (rdStep 8 l e).2.1 (rdStep 8 l e).2.2 := by
  have key : ∃ T m, m ≤ 8 ∧ valB T = (rdStep 8 l e).1 ∧ T.length = m ∧ Calls Try.prog 37 #[.pointer (some ⟨g, 0, none⟩), .int .i64 8] w fun en w' => TakeGot en w' g m T ∧ RfPost D w w' g (rdStep 8 l e).2.1 (rdStep 8 l e).2.2 := by
    by_cases he : e = 0
    · subst he
      by_cases hk : l.length < 8
      · rw [rdStep_short hk]
        exact ⟨[], 0, by omega, rfl, rfl, (rtake_short g 8 l w h hk).mono fun en w' ⟨a, b⟩ => ⟨⟨none, 0, a, Sees.none_ _ _ _⟩, b⟩⟩
      · rw [rdStep_yes hk]
        exact ⟨l.take 8, 8, by omega, rfl, by rw [List.length_take]; omega, rtake_yes g 8 l w h hk (by omega)⟩
    · rw [rdStep_err he]
      exact ⟨[], 0, by omega, rfl, rfl, (rtake_err g 8 l e w h he).mono fun en w' ⟨a, b⟩ => ⟨⟨none, 0, a, Sees.none_ _ _ _⟩, b⟩⟩
  generalize rdStep 8 l e = R at key ⊢
  obtain ⟨T, m, hm, hv, hl, hcall⟩ := key
  rw [← hv]
  have Hl := Lib.hid hl
  have Hc := Lib.hid hcall
  clear hv hl hcall
  go_enter Try.func22, Try.ntmps22
  go_wp2_with fail
  refine Hc.out.mono ?_
  rintro en w1 ⟨⟨A2, c2, rfl, hs⟩, hp⟩
  go_wp2_with fail
  go_loop [3, 5] (fun u i => ∃ k : Nat, k ≤ m ∧ i = .int .i64 ((k : Int) - 1) ∧ u = .int .u64 (valB (T.drop k))) (fun _ i => (intOf i + 1).toNat)
  case atStart => exact ⟨m, Nat.le_refl _, rfl, by rw [List.drop_of_length_le (by rw [Hl.out]; exact Nat.le_refl _)]; rfl⟩
  case round =>
    obtain ⟨k, hk, rfl, rfl⟩ := hrel
    by_cases h0 : k = 0
    · subst h0
      rw [List.drop_zero]
      go_wp2_with fail
      go_ret
      exact ⟨rfl, hp⟩
    · obtain ⟨j, rfl⟩ : ∃ j, k = j + 1 := ⟨k - 1, by omega⟩
      obtain ⟨b, o, rfl, _, hc⟩ := hs.at0 (j := j) (by omega)
      have HV := Lib.hid (valB_cons (T := T) (k := j) (by rw [Hl.out]; omega))
      have hV : valB (T.drop (j + 1)) < 2 ^ 56 := Nat.lt_of_lt_of_le (valB_lt _) (Nat.pow_le_pow_right (by omega) (by rw [List.length_drop, Hl.out]; omega))
      generalize valB (T.drop (j + 1)) = V at *
      generalize T.getD j 0 = x at *
      have hor := shl_or x V hV
      have hV2 : V < 72057594037927936 := hV
      have hx256 := x.toNat_lt
      clear hV
      go_wp2_with fail
      go_round
      case rel => exact ⟨j, by omega, rfl, by rw [HV.out]; exact congrArg (Value.int IntKind.u64) (by omega)⟩
      case measure => simp [intOf]
end Go.Proofs.Ytfnenafdmpihaaa
