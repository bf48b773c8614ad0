/- At, Kid of the reference: where a name's edge stands, or would. Conditions: fewer edges than 2^47. -/
import Derived.Test.YtcfaocjgflefmaaCount
import Derived.Deep.QuietTactic
import Derived.BigQuiet
namespace Go.Proofs.Ytcfaocjgflefmaa
open Go.RowKit
set_option maxRecDepth 100000

/-- How many edges stand ahead of a name; whether the next one is its own. -/
def Tr.atN (name : ByteArray) : Tr → Nat
  | .nil => 0
  | .cons s _ r => if Op.bytesLess s.toList name.toList = true then r.atN name + 1 else 0
def Tr.headIs (name : ByteArray) : Tr → Bool
  | .nil => false
  | .cons s _ _ => s.toList == name.toList
def Tr.atIs (name : ByteArray) (t : Tr) : Bool := (t.dropT (t.atN name)).headIs name
theorem atN_le (name : ByteArray) (t : Tr) : t.atN name ≤ t.len := by
  induction t with
  | nil => exact Nat.le_refl _
  | cons s k r _ ih => simp only [Tr.atN, Tr.len]; split <;> omega

set_option maxHeartbeats 1000000 in
theorem at_any (t : Tr) (A : Option Addr) (n c B : Nat) (name : ByteArray) (w : World) (h : Holds w B A n t) (hB : B ≤ w.heap.size) (hn : n ≤ 140737488351232) :
    Calls Try.prog 33 #[.slice A n c, .string name] w fun e w' => e = .returned (.tuple #[.int .i64 (t.atN name : Nat), .bool (t.atIs name)]) ∧ ∃ q, w' = w.drewN q := by
  have Hn := Lib.hid h.len
  go_enter Try.func33, Try.ntmps33
  go_wp2_with fail
  go_loop [6] (fun i => ∃ k : Nat, k ≤ n ∧ i = .int .i64 k ∧ Hid (k + (t.dropT k).atN name = t.atN name)) (fun i => n - (intOf i).toNat)
  case atStart => exact ⟨0, by omega, rfl, by rw [dropT_zero]; exact Lib.hid (Nat.zero_add _)⟩
  case round =>
    obtain ⟨k, hk, rfl, He⟩ := hrel
    by_cases hlt : k < n
    · obtain ⟨b, o, s, kt, r, A', n', c', rfl, hb, hs, hc, hn', hc', hk', hr, hd, hd2⟩ := h.split k hlt
      have hbl : b < w.heap.size := by omega
      by_cases hls : Op.bytesLess s.toList name.toList = true
      · have He2 : Hid (k + 1 + (t.dropT (k + 1)).atN name = t.atN name) := by
          have := He.out
          rw [hd] at this
          simp only [Tr.atN] at this
          rw [if_pos hls] at this
          rw [hd2]
          exact Lib.hid (by omega)
        clear hd hd2 He
        go_wp2_with fail
        go_round
        case rel => exact ⟨k + 1, by omega, by go_num, He2⟩
        case measure => simp [intOf]; omega
      · have He2 : Hid (k = t.atN name ∧ t.atIs name = (s.toList == name.toList)) := by
          have := He.out
          rw [hd] at this
          simp only [Tr.atN] at this
          rw [if_neg hls] at this
          refine Lib.hid ⟨by omega, ?_⟩
          unfold Tr.atIs
          rw [← this, Nat.add_zero, hd]
          rfl
        have hls2 : Op.bytesLess s.toList name.toList = false := by simpa using hls
        have hkn : (k : Int) < (n : Int) := by omega
        have hk0 : (0 : Int) ≤ (k : Int) := by omega
        clear hd hd2 He hls
        go_wp2_with fail
        go_quiet (fail)
        go_wp2_with fail
        go_ret2
        exact ⟨by rw [← He2.out.1, He2.out.2]; rfl, _, rfl⟩
    · obtain rfl : k = n := by omega
      have He2 : Hid (k = t.atN name ∧ t.atIs name = false) := by
        have := He.out
        rw [drop_len t k (by rw [← Hn.out]; exact Nat.le_refl _)] at this
        simp only [Tr.atN] at this
        refine Lib.hid ⟨by omega, ?_⟩
        unfold Tr.atIs
        rw [← this, Nat.add_zero, drop_len t k (by rw [← Hn.out]; exact Nat.le_refl _)]
        rfl
      clear He hlt
      go_wp2_with fail
      go_quiet (fail)
      go_wp2_with fail
      go_ret2
      exact ⟨by rw [← He2.out.1, He2.out.2]; rfl, _, rfl⟩
end Go.Proofs.Ytcfaocjgflefmaa
