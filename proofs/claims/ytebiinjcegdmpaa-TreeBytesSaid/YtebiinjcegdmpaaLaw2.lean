/- The chapter's example (known), and within; text and bytes at a length that is a number. No conditions but within's: n is not below 1. -/
import Derived.Test.YtebiinjcegdmpaaBin
namespace Go.Proofs.Ytebiinjcegdmpaa
open Go.RowKit
set_option maxRecDepth 100000

theorem text_n (A : Option Addr) (n c : Nat) (t : Tr) (w : World) (hn : n = t.len) (h : Holds w w.heap.size A n t) (hc : n ≤ c) (hm : c ≤ maxLen) (hsz : t.size ≤ 17179869184) (hbk : t.bulk ≤ 17179869184) :
    Calls Try.prog 13 #[.slice A n c] w fun e w' => e = .returned (.string ⟨t.text.toArray⟩) ∧ Below w.heap.size w w' := by
  subst hn
  exact text_any A c t w h hc hm hsz hbk
theorem bytes_n (A : Option Addr) (n c : Nat) (t : Tr) (w : World) (hn : n = t.len) (h : Holds w w.heap.size A n t) (hc : n ≤ c) (hm : c ≤ maxLen) (hsz : t.size ≤ 17179869184) (hbk : t.bulk ≤ 17179869184) :
    Calls Try.prog 9 #[.slice A n c] w fun e w' => ∃ A' N c', e = .returned (.slice A' N c') ∧ Own w' w.heap.size A' N c' t.bin ∧ Below w.heap.size w w' := by
  subst hn
  exact bytes_any A c t w h hc hm hsz hbk

/-- A leaf beside others, from its cells. -/
theorem Holds.leaf {w : World} {B b o n : Nat} {s : ByteArray} {r : Tr} (hb : b < B) (h0 : w.cell? ⟨b, o, none⟩ = some (.string s)) (h1 : w.cell? ⟨b, o + 1, none⟩ = some (.slice none 0 0)) (hr : Holds w B (some ⟨b, o + 2, none⟩) n r) : Holds w B (some ⟨b, o, none⟩) (n + 1) (.cons s .nil r) :=
  ⟨b, o, rfl, hb, h0, ⟨none, 0, 0, h1, Nat.le_refl _, Nat.zero_le _, rfl⟩, n, rfl, hr⟩

def leafA : Tr := .cons ⟨#[97]⟩ .nil .nil
theorem leafA_text : leafA.text = [123, 34, 97, 34, 58, 32, 123, 125, 125] := by rfl

set_option maxHeartbeats 1000000 in
theorem known_any (w : World) : Calls Try.prog 6 #[] w fun e w' => e = .returned (.bool true) ∧ Below w.heap.size w w' := by
  have hh := heap_alloc_new w (.cells #[.string ⟨#[97]⟩, .slice none 0 0] 44)
  have hl : Holds (w.alloc (.cells #[.string ⟨#[97]⟩, .slice none 0 0] 44)) (w.alloc (.cells #[.string ⟨#[97]⟩, .slice none 0 0] 44)).heap.size (some ⟨w.heap.size, 0, none⟩) 1 leafA :=
    Holds.leaf (n := 0) (by simp) (by rw [cell_of_row _ _ _ _ _ _ hh]; rfl) (by rw [cell_of_row _ _ _ _ _ _ hh]; rfl) rfl
  have hc := text_n (some ⟨w.heap.size, 0, none⟩) 1 1 leafA _ rfl hl (Nat.le_refl _) (by simp [maxLen]) (by simp [leafA, Tr.size]) (by simp [leafA, Tr.bulk, ByteArray.size])
  rw [leafA_text] at hc
  have Hc := Lib.hid hc
  clear hh hl hc
  go_enter Try.func6, Try.ntmps6
  go_wp2_with fail
  refine Hc.out.mono ?_
  rintro e w2 ⟨rfl, hb2⟩
  have hb := (((Below.refl _ w).alloc (Nat.le_refl _) (.cells #[.string ⟨#[97]⟩, .slice none 0 0] 44))).trans (hb2.mono (by simp))
  go_wp2_with fail
  go_ret
  exact ⟨rfl, hb⟩

theorem tmod_pos {a n : Int} (hn : 0 < n) (h : 0 ≤ a.tmod n) : a.tmod n = a % n := by
  have h1 := Int.tmod_add_mul_tdiv a n
  have h2 := Int.tmod_lt_of_pos a hn
  conv => rhs; rw [← h1]
  rw [Int.add_mul_emod_self_left, Int.emod_eq_of_lt h h2]
theorem tmod_neg {a n : Int} (hn : 0 < n) (h : a.tmod n < 0) : a.tmod n + n = a % n := by
  have h1 := Int.tmod_add_mul_tdiv a n
  have h2 := Int.lt_tmod_of_pos a hn
  conv => rhs; rw [← h1]
  rw [Int.add_mul_emod_self_left, ← Int.add_emod_right, Int.emod_eq_of_lt (by omega) (by omega)]

set_option maxHeartbeats 400000 in
theorem within_any (a n : Int) (hn : 0 < n) (hn2 : n ≤ 2147483647) (ha : (Lit.int .i64 a).wf = true) (w : World) : Calls Try.prog 15 #[.int .i64 a, .int .i64 n] w fun e w' => e = .returned (.int .i64 (a % n)) ∧ w = w' := by
  have hx : -9223372036854775808 ≤ a ∧ a ≤ 9223372036854775807 := by simpa [Lit.wf, IntKind.min, IntKind.max, IntKind.signed, IntKind.bits] using ha
  obtain ⟨hx1, hx2⟩ := hx
  have hm1 := Int.tmod_lt_of_pos a hn
  have hm2 := Int.lt_tmod_of_pos a hn
  clear ha
  by_cases h : a.tmod n < 0
  · have Hf := Lib.hid (tmod_neg hn h)
    go_enter Try.func15, Try.ntmps15
    go_wp2
    go_ret
    exact ⟨by rw [← Hf.out]; rfl, rfl⟩
  · have Hf := Lib.hid (tmod_pos hn (by omega : 0 ≤ a.tmod n))
    go_enter Try.func15, Try.ntmps15
    go_wp2
    go_ret
    exact ⟨by rw [← Hf.out]; rfl, rfl⟩
end Go.Proofs.Ytebiinjcegdmpaa
