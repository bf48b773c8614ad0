/- csv's count: how many lines a text has. Conditions: a text below 2^62 bytes. -/
import Derived.Test.YtkgpjohfkfbfhaaGreatDoorMwRtTurnM
namespace Go.Proofs.YtkgpjohfkfbfhaaGreatDoor.Cv
open Go.RowKit Go.Proofs.YtkgpjohfkfbfhaaGreatDoor.Jd Go.Proofs.YtkgpjohfkfbfhaaGreatDoor.Li Go.Proofs.YtkgpjohfkfbfhaaGreatDoor.Cl Go.Proofs.YtkgpjohfkfbfhaaGreatDoor.Pt
set_option maxRecDepth 100000

set_option maxHeartbeats 4000000 in
theorem count_lines (s : ByteArray) (w : World) (hz : s.size ≤ 1000000) : Calls Tryz.prog 23 #[.string s] w fun e w' => e = .returned (.int .i64 (split s.data.toList).length) ∧ w = w' := by
  rw [split_cnt]
  go_enter Tryz.func23, Tryz.ntmps23
  go_wp2_with fail
  go_loopw [3, 4] (fun v i wr => ∃ (k m : Nat), k ≤ s.size ∧ m ≤ k ∧ i = .int .i64 k ∧ v = .int .i64 m ∧ Hid (cnt s.data.toList = m + cnt (s.data.toList.drop k)) ∧ Hid (wr = w)) (fun _ i _ => s.size - (intOf i).toNat)
  case atStart => exact ⟨0, 0, Nat.zero_le _, Nat.le_refl _, rfl, rfl, Lib.hid (by simp), Lib.hid rfl⟩
  case round =>
    obtain ⟨k, m, hk, hm, rfl, rfl, HR, HW⟩ := hrel
    obtain rfl : wr = w := HW.out
    have hk0 : (0 : Int) ≤ (k : Int) := by omega
    by_cases hlt : k < s.size
    · have hkn : (k : Int) < (s.size : Int) := by omega
      have hst := cnt_step s[k] (s.data.toList.drop (k + 1))
      rw [← drop_at hlt] at hst
      have hnil : (s.data.toList.drop (k + 1) = []) ↔ k + 1 = s.size := by
        rw [List.drop_eq_nil_iff]
        have : s.data.toList.length = s.size := rfl
        omega
      have hw1 : IntKind.i64.wrap ((k : Int) + 1) = (k : Int) + 1 := IntWalk.i64_in _ (by omega)
      have hw2 : IntKind.i64.wrap ((m : Int) + 1) = (m : Int) + 1 := IntWalk.i64_in _ (by omega)
      by_cases h10 : s[k] = 10
      · have q1 : ((s[k].toNat : Int) == 10) = true := by rw [h10]; rfl
        have HR2 : Hid (cnt s.data.toList = (m + 1) + cnt (s.data.toList.drop (k + 1))) := Lib.hid (by rw [HR.out, hst, if_pos (.inl h10)]; omega)
        have Hlt := Lib.hid hlt
        clear HR hst hnil h10
        go_wp2_with fail
        go_roundw
        case rel => exact ⟨k + 1, m + 1, Hlt.out, by omega, by go_num, by go_num, HR2, by first | exact Lib.hid rfl | exact Lib.hid trivial⟩
        case measure => have := Hlt.out; simp [intOf]; omega
      · have n10 : s[k].toNat ≠ 10 := ne_toNat (by decide) h10
        have q1 : ((s[k].toNat : Int) == 10) = false := by rw [beq_eq_false_iff_ne]; omega
        by_cases hl : k + 1 = s.size
        · have q2 : ((k : Int) + 1 == (s.size : Int)) = true := by rw [beq_iff_eq]; omega
          have HR2 : Hid (cnt s.data.toList = (m + 1) + cnt (s.data.toList.drop (k + 1))) := Lib.hid (by rw [HR.out, hst, if_pos (.inr (hnil.2 hl))]; omega)
          have Hlt := Lib.hid hlt
          clear HR hst hnil h10 n10 hl
          go_wp2_with fail
          go_roundw
          case rel => exact ⟨k + 1, m + 1, Hlt.out, by omega, by go_num, by go_num, HR2, by first | exact Lib.hid rfl | exact Lib.hid trivial⟩
          case measure => have := Hlt.out; simp [intOf]; omega
        · have q2 : ((k : Int) + 1 == (s.size : Int)) = false := by rw [beq_eq_false_iff_ne]; omega
          have HR2 : Hid (cnt s.data.toList = m + cnt (s.data.toList.drop (k + 1))) := Lib.hid (by rw [HR.out, hst, if_neg (by rw [hnil]; exact fun h => h.elim h10 hl)]; omega)
          have Hlt := Lib.hid hlt
          clear HR hst hnil h10 n10 hl
          go_wp2_with fail
          go_roundw
          case rel => exact ⟨k + 1, m, Hlt.out, by omega, by go_num, rfl, HR2, by first | exact Lib.hid rfl | exact Lib.hid trivial⟩
          case measure => have := Hlt.out; simp [intOf]; omega
    · have hkn : ¬ (k : Int) < (s.size : Int) := by omega
      have hm2 : m = cnt s.data.toList := by
        rw [HR.out, List.drop_eq_nil_of_le (by have : s.data.toList.length = s.size := rfl; omega)]
        rfl
      have Hm := Lib.hid hm2
      clear HR hlt hm2
      go_wp2_with fail
      go_ret
      exact ⟨by rw [Hm.out]; rfl, rfl⟩
end Go.Proofs.YtkgpjohfkfbfhaaGreatDoor.Cv
