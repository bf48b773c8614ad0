/- cmp.Or of two strings, lines.End, the document's own End; its Same at two rows that are the same. Conditions: lengths below 2^62. -/
import Derived.Test.YtcnadiddgllejaaLiFace
namespace Go.Proofs.Ytcnadiddgllejaa.Li
open Go.RowKit
set_option maxRecDepth 100000

/-- The first one that is not empty. -/
def or2 (a b : Bs) : Bs := if a = [] then b else a
theorem endOf_or {x : Ln} {r : List Ln} : endOf (x :: r) = or2 x.2 [10] := rfl

set_option maxHeartbeats 1000000 in
theorem or_any (g : Nat) (s t : ByteArray) (w : World) (h0 : w.cell? ⟨g, 0, none⟩ = some (.string s)) (h1 : w.cell? ⟨g, 1, none⟩ = some (.string t)) :
    Calls Try.prog 20 #[.slice (some ⟨g, 0, none⟩) 2 2] w fun e w' => e = .returned (encs (or2 s.data.toList t.data.toList)) ∧ w = w' := by
  by_cases hs : s.data.toList = []
  · have e1 : s.toList = [] := by rw [ByteArray.toList_eq]; exact hs
    have e2 : encs (or2 s.data.toList t.data.toList) = .string t := by rw [or2, if_pos hs]; rfl
    have HE := Lib.hid e2
    have hs0 : s = ⟨#[]⟩ := ByteArray.ext (Array.toList_inj.1 hs)
    subst hs0
    clear hs e2
    by_cases ht : t.data.toList = []
    · have ht0 : t = ⟨#[]⟩ := ByteArray.ext (Array.toList_inj.1 ht)
      subst ht0
      clear ht
      go_enter Try.func20, Try.ntmps20
      go_wp2
      go_loop [8] (fun i => ∃ k : Nat, k ≤ 2 ∧ i = .int .i64 k) (fun i => 2 - (intOf i).toNat)
      case atStart => exact ⟨0, by omega, rfl⟩
      case round =>
        obtain ⟨k, hk, rfl⟩ := hrel
        have hk3 : k = 0 ∨ k = 1 ∨ k = 2 := by omega
        rcases hk3 with rfl | rfl | rfl
        · go_wp2
          go_round
          case rel => exact ⟨1, by omega, rfl⟩
          case measure => simp [intOf]
        · go_wp2
          go_round
          case rel => exact ⟨2, by omega, rfl⟩
          case measure => simp [intOf]
        · go_wp2
          go_ret
          exact ⟨by rw [HE.out]; rfl, rfl⟩
    · have e3 : t.toList ≠ [] := by rw [ByteArray.toList_eq]; exact ht
      have e4 : t.toList.isEmpty = false := by rw [List.isEmpty_eq_false_iff]; exact e3
      have e5 : (t.toList == ([] : List UInt8)) = false := by simpa using e3
      clear ht e3
      go_enter Try.func20, Try.ntmps20
      go_wp2
      go_loop [8] (fun i => ∃ k : Nat, k ≤ 1 ∧ i = .int .i64 k) (fun i => 2 - (intOf i).toNat)
      case atStart => exact ⟨0, by omega, rfl⟩
      case round =>
        obtain ⟨k, hk, rfl⟩ := hrel
        have hk3 : k = 0 ∨ k = 1 := by omega
        rcases hk3 with rfl | rfl
        · go_wp2
          go_round
          case rel => exact ⟨1, by omega, rfl⟩
          case measure => simp [intOf]
        · go_wp2
          go_ret
          exact ⟨by rw [HE.out]; rfl, rfl⟩
  · have e2 : encs (or2 s.data.toList t.data.toList) = .string s := by rw [or2, if_neg hs]; rfl
    have HE := Lib.hid e2
    have e3 : s.toList ≠ [] := by rw [ByteArray.toList_eq]; exact hs
    have e4 : s.toList.isEmpty = false := by rw [List.isEmpty_eq_false_iff]; exact e3
    have e5 : (s.toList == ([] : List UInt8)) = false := by simpa using e3
    clear hs e2 e3
    go_enter Try.func20, Try.ntmps20
    go_wp2
    go_loop [8] (fun i => i = .int .i64 ((0 : Nat) : Int)) (fun i => 2 - (intOf i).toNat)
    case atStart => rfl
    case round =>
      subst hrel
      go_wp2
      go_ret
      exact ⟨by rw [HE.out]; rfl, rfl⟩

set_option maxHeartbeats 1000000 in
theorem end_any (ls : List Ln) (A : Option Addr) (n c B : Nat) (w : World) (_ : B ≤ w.heap.size) (h : SeesL w B A n ls) (hc : n ≤ c) (hn : n ≤ 1099511627776) :
    Calls Try.prog 14 #[.slice A n c] w fun e w' => e = .returned (encs (endOf ls)) ∧ Below w.heap.size w w' := by
  have hlen := h.len
  cases ls with
  | nil =>
    obtain rfl : n = 0 := hlen
    go_enter Try.func14, Try.ntmps14
    go_wp2
    go_ret
    exact ⟨rfl, Below.refl _ _⟩
  | cons x r =>
    obtain ⟨m, rfl⟩ : ∃ m, n = m + 1 := ⟨r.length, hlen⟩
    obtain ⟨b, o, rfl, hbB, hc1, hc2⟩ := h.at_ (j := 0) rfl
    obtain ⟨s2, hs2⟩ : ∃ s : ByteArray, s = ⟨x.2.toArray⟩ := ⟨_, rfl⟩
    rw [encs, ← hs2] at hc2
    have e2 : s2.data.toList = x.2 := by rw [hs2]
    have H2 := Lib.hid e2
    rw [Nat.zero_mul, Nat.add_zero] at hc2
    have q0 : ((m : Int) + 1 == 0) = false := by simp; omega
    obtain ⟨W1, hW1⟩ : ∃ W, W = w.alloc (Obj.cells #[.string s2, .string ⟨#[10]⟩] 9) := ⟨_, rfl⟩
    have hg1 : W1.heap[w.heap.size]? = some (.cells #[.string s2, .string ⟨#[10]⟩] 9 (0, 0)) := by rw [hW1]; exact heap_alloc_new _ _
    have hbb : Below w.heap.size w W1 := by rw [hW1]; exact (Below.refl _ _).alloc (Nat.le_refl _) _
    obtain ⟨p1, p2⟩ := box2 hg1
    have HC := Lib.hid (or_any w.heap.size s2 ⟨#[10]⟩ W1 p1 p2)
    have HW := Lib.hid hW1
    clear hs2 e2 hlen h hc1 p1 p2 hg1 hW1
    go_enter Try.func14, Try.ntmps14
    go_wp2_with fail
    rw [← HW.out]
    (with_reducible refine HC.out.mono ?_)
    rintro e w2 ⟨rfl, rfl⟩
    go_wp2_with fail
    go_ret
    refine ⟨?_, hbb⟩
    rw [endOf_or, ← H2.out]; rfl

set_option maxHeartbeats 1000000 in
theorem rend_any (ls : List Ln) (A : Option Addr) (n c B : Nat) (w : World) (_ : B ≤ w.heap.size) (h : SeesL w B A n ls) (hc : n ≤ c) (hn : n ≤ 1099511627776) :
    Calls Try.prog 15 #[.slice A n c] w fun e w' => e = .returned (encs (endOf ls)) ∧ w = w' := by
  have hlen := h.len
  cases ls with
  | nil =>
    obtain rfl : n = 0 := hlen
    go_enter Try.func15, Try.ntmps15
    go_wp2
    go_ret
    exact ⟨rfl, rfl⟩
  | cons x r =>
    obtain ⟨m, rfl⟩ : ∃ m, n = m + 1 := ⟨r.length, hlen⟩
    obtain ⟨b, o, rfl, hbB, hc1, hc2⟩ := h.at_ (j := 0) rfl
    obtain ⟨s2, hs2⟩ : ∃ s : ByteArray, s = ⟨x.2.toArray⟩ := ⟨_, rfl⟩
    have hv : encs (endOf (x :: r)) = if x.2 = [] then .string ⟨#[10]⟩ else .string s2 := by
      rw [endOf_or, or2]
      by_cases h0 : x.2 = []
      · rw [if_pos h0, if_pos h0]; rfl
      · rw [if_neg h0, if_neg h0, hs2]; rfl
    rw [encs, ← hs2] at hc2
    have e2 : s2.data.toList = x.2 := by rw [hs2]
    rw [Nat.zero_mul, Nat.add_zero] at hc2
    have q0 : ((m : Int) + 1 == 0) = false := by simp; omega
    by_cases h0 : x.2 = []
    · rw [if_pos h0] at hv
      have hs0 : s2 = ⟨#[]⟩ := ByteArray.ext (Array.toList_inj.1 (e2.trans h0))
      subst hs0
      have HV := Lib.hid hv
      clear hv hs2 e2 h0 hlen h hc1
      go_enter Try.func15, Try.ntmps15
      go_wp2_with fail
      go_ret
      exact ⟨by rw [HV.out]; rfl, rfl⟩
    · rw [if_neg h0] at hv
      have HV := Lib.hid hv
      have e3 : s2.toList ≠ [] := by rw [ByteArray.toList_eq, e2]; exact h0
      have e4 : s2.toList.isEmpty = false := by rw [List.isEmpty_eq_false_iff]; exact e3
      have e5 : (s2.toList == ([] : List UInt8)) = false := by simpa using e3
      clear hv hs2 e2 h0 hlen h hc1 e3
      go_enter Try.func15, Try.ntmps15
      go_wp2_with fail
      go_ret
      exact ⟨by rw [HV.out]; rfl, rfl⟩

theorem below_drewN {b : Nat} {w w' : World} (h : Below b w w') (n : Nat) : Below b w (w'.drewN n) := ⟨h.os, h.tape, h.output, h.size, h.block⟩
theorem neq_line (s t : ByteArray) (w : World) : (binOp .neq 34 (.agg #[.string s, .string t]) (.agg #[.string s, .string t])).run Try.prog w = .ok (.bool false) w := by
  have h1 := Try.underlying9
  simp [go_sem, run_neq_struct, run_equalIn_struct]


set_option maxHeartbeats 2000000 in
theorem same_any (ls : List Ln) (A A2 : Option Addr) (n c n2 c2 B : Nat) (w : World) (hB : B ≤ w.heap.size) (h : SeesL w B A n ls) (h2 : SeesL w B A2 n2 ls) (hn : n ≤ 1099511627776) :
    Calls Try.prog 11 #[.slice A n c, .slice A2 n2 c2] w fun e w' => e = .returned (.bool true) ∧ Below w.heap.size w w' := by
  obtain rfl : n2 = n := by rw [h.len, h2.len]
  have HL := Lib.hid h.len
  have HN := Lib.hid (fun s t w => neq_line s t w)
  go_enter Try.func11, Try.ntmps11
  go_wp2
  go_loopw [5] (fun i wr => ∃ k : Nat, k ≤ n2 ∧ i = .int .i64 k ∧ Below w.heap.size w wr) (fun i _ => n2 - (intOf i).toNat)
  case atStart => exact ⟨0, Nat.zero_le _, rfl, Below.refl _ _⟩
  case round =>
    obtain ⟨k, hk, rfl, hw⟩ := hrel
    by_cases hlt : k < n2
    · have q0 : (k : Int) < (n2 : Int) := by omega
      have q1 : (0 : Int) ≤ (k : Int) := by omega
      obtain ⟨x, hx⟩ : ∃ x, ls[k]? = some x := ⟨_, List.getElem?_eq_getElem (by have := HL.out; omega)⟩
      obtain ⟨b, o, rfl, hbB, hc1, hc2⟩ := (h.keep (w' := wr) (fun p hp => hw.cell (Nat.lt_of_lt_of_le hp hB))).at_ hx
      obtain ⟨b2, o2, rfl, hbB2, hd1, hd2⟩ := (h2.keep (w' := wr) (fun p hp => hw.cell (Nat.lt_of_lt_of_le hp hB))).at_ hx
      rw [encs] at hc1 hc2 hd1 hd2
      have hne := HN.out ⟨x.1.toArray⟩ ⟨x.2.toArray⟩
      generalize (⟨x.1.toArray⟩ : ByteArray) = s1 at *
      generalize (⟨x.2.toArray⟩ : ByteArray) = s2 at *
      clear h h2 hx
      go_wp2_with fail
      go_quiet (fail)
      go_wp2_with fail
      go_roundw
      case rel => exact ⟨k + 1, by omega, by go_num, below_drewN hw _⟩
      case measure => simp [intOf]; omega
    · have hkn : (n2 : Int) ≤ (k : Int) := by omega
      go_wp2_with fail
      go_ret
      exact ⟨rfl, hw⟩
end Go.Proofs.Ytcnadiddgllejaa.Li
