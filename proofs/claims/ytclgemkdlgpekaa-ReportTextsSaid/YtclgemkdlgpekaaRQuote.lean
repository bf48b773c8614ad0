/- Quoted of the reference: a name, quoted. Conditions: names below 2^40 bytes. -/
import Derived.Test.YtclgemkdlgpekaaQuote
import Derived.Deep.QuietTactic
import Derived.BigQuiet
import Derived.IntWalk
import Derived.Laws.Concat
import Derived.Outline
namespace Go.Proofs.Ytclgemkdlgpekaa.Pt
open Go.RowKit
set_option maxRecDepth 100000

theorem extract_one (s : ByteArray) (k : Nat) (h : k < s.size) : (s.extract k (k + 1)).data.toList = [s[k]] := by
  have e : (s.extract k (k + 1)).data = s.data.extract k (k + 1) := by simp [ByteArray.data_extract]
  rw [e, Array.toList_extract, List.extract_eq_take_drop]
  rw [show k + 1 - k = 1 by omega, List.drop_eq_getElem_cons (by rw [Array.length_toList]; exact h)]
  rfl
theorem extract_one_size (s : ByteArray) (k : Nat) (h : k < s.size) : (s.extract k (k + 1)).size = 1 := by
  rw [ByteArray.size_extract]; omega
def HEX : ByteArray := ⟨#[48, 49, 50, 51, 52, 53, 54, 55, 56, 57, 97, 98, 99, 100, 101, 102]⟩
theorem hex_one : ∀ a : Nat, a < 16 → (HEX.extract a (a + 1)).data.toList = [dig16 a] := by decide
theorem hex_size (a : Nat) (h : a < 16) : (HEX.extract a (a + 1)).size = 1 := extract_one_size HEX a h
theorem app_list (a b : ByteArray) : (a ++ b).data.toList = a.data.toList ++ b.data.toList := by simp

set_option maxHeartbeats 2000000 in
theorem rquoted_any (s : ByteArray) (w : World) (hs : s.size ≤ 1099511627776) :
    Calls Try.prog 18 #[.string s] w fun e w' => (∃ O : ByteArray, e = .returned (.string O) ∧ O.data.toList = quo s.data.toList) ∧ ∃ q, w' = w.drewN q := by
  go_enter Try.func18, Try.ntmps18
  go_wp2_with fail
  go_loopw [4, 5] (fun o i wr => ∃ (k : Nat) (O : ByteArray) (q : Nat), k ≤ s.size ∧ i = .int .i64 k ∧ o = .string O ∧ Hid (O.data.toList = [34] ++ quoL (s.data.toList.take k)) ∧ Hid (wr = w.drewN q)) (fun _ i _ => s.size - (intOf i).toNat)
  case atStart => exact ⟨0, ⟨#[34]⟩, 0, by omega, rfl, rfl, Lib.hid (by simp [quoL]), Lib.hid rfl⟩
  case round =>
    obtain ⟨k, O, q0, hk, rfl, rfl, HO, HW⟩ := hrel
    have hOl : O.size ≤ 4 * s.size + 1 := by
      have h1 := congrArg List.length HO.out
      have h2 := quoL_le (s.data.toList.take k)
      simp only [List.length_append, List.length_cons, List.length_nil, List.length_take, Array.length_toList] at h1 h2
      have : O.data.size = O.size := rfl
      omega
    by_cases hlt : k < s.size
    · have hts := take_snoc_ s k hlt
      have HS : Hid (quoL (s.data.toList.take (k + 1)) = quoL (s.data.toList.take k) ++ quoB s[k]) := by rw [hts]; exact quoL_snoc _ _
      have hu := s[k].toNat_lt
      have hx1 := extract_one s k hlt
      have hxz := extract_one_size s k hlt
      have Hx1 := Lib.hid hx1
      have Hxz := Lib.hid hxz
      clear hts hx1 hxz
      obtain ⟨c, hc⟩ : ∃ c, c = s[k] := ⟨_, rfl⟩
      by_cases h1 : s[k].toNat = 34 ∨ s[k].toNat = 92
      · have hB : quoB s[k] = [92, s[k]] := by unfold quoB; rw [if_pos h1]
        have HB := Lib.hid hB
        have hadd1 := fun W => run_string_add_sum (P := Try.prog) W O ⟨#[92]⟩ (by have : (ByteArray.mk #[92]).size = 1 := rfl; omega)
        obtain ⟨O1, hO1⟩ : ∃ x, x = O ++ ⟨#[92]⟩ := ⟨_, rfl⟩
        rw [← hO1] at hadd1
        have hO1s : O1.size = O.size + 1 := by rw [hO1, ByteArray.size_append]; rfl
        have hadd2 := fun W => run_string_add_sum (P := Try.prog) W O1 (s.extract k (k + 1)) (by have := Hxz.out; omega)
        obtain ⟨O2, hO2⟩ : ∃ x, x = O1 ++ s.extract k (k + 1) := ⟨_, rfl⟩
        rw [← hO2] at hadd2
        have hO3 : O2.data.toList = [34] ++ quoL (s.data.toList.take (k + 1)) := by
          rw [hO2, hO1, app_list, app_list, HO.out, HS.out, HB.out, Hx1.out]; simp
        have HO3 := Lib.hid hO3
        have Hlt := Lib.hid hlt
        clear hB hO1 hO2 hO1s hO3 hc
        by_cases h34 : s[k].toNat = 34
        · have h34' : (s[k].toNat : Int) = 34 := by omega
          clear h1 h34
          go_wp2_with fail
          go_roundw
          case rel => exact ⟨k + 1, O2, q0, Hlt.out, by go_num, rfl, HO3, HW⟩
          case measure => have := Hlt.out; simp [intOf]; omega
        · have h34' : ¬ (s[k].toNat : Int) = 34 := by omega
          have h92' : (s[k].toNat : Int) = 92 := by omega
          have h34b : ((s[k].toNat : Int) == 34) = false := by simp; omega
          have h92b : ((s[k].toNat : Int) == 92) = true := by simp; omega
          clear h1 h34
          go_wp2_with fail
          go_roundw
          case rel => exact ⟨k + 1, O2, q0, Hlt.out, by go_num, rfl, HO3, HW⟩
          case measure => have := Hlt.out; simp [intOf]; omega
          all_goals (exfalso; simp_all <;> omega)
      · have h34 : ((s[k].toNat : Int) == 34) = false := by simp; omega
        have h92 : ((s[k].toNat : Int) == 92) = false := by simp; omega
        by_cases h4 : s[k].toNat < 32 ∨ 126 < s[k].toNat
        · have hB : quoB s[k] = [92, 120, dig16 (s[k].toNat / 16), dig16 (s[k].toNat % 16)] := by unfold quoB; rw [if_neg h1, if_pos h4]
          have HB := Lib.hid hB
          obtain ⟨a, ha⟩ : ∃ a, a = s[k].toNat / 16 := ⟨_, rfl⟩
          obtain ⟨b, hb⟩ : ∃ b, b = s[k].toNat % 16 := ⟨_, rfl⟩
          have ha16 : a < 16 := by omega
          have hb16 : b < 16 := by omega
          have hxa := hex_one a ha16
          have hxas := hex_size a ha16
          have hxb := hex_one b hb16
          have hxbs := hex_size b hb16
          have hadd1 := fun W => run_string_add_sum (P := Try.prog) W O ⟨#[92, 120]⟩ (by have : (ByteArray.mk #[92, 120]).size = 2 := rfl; omega)
          obtain ⟨O1, hO1⟩ : ∃ x, x = O ++ ⟨#[92, 120]⟩ := ⟨_, rfl⟩
          rw [← hO1] at hadd1
          have hO1s : O1.size = O.size + 2 := by rw [hO1, ByteArray.size_append]; rfl
          have hadd2 := fun W => run_string_add_sum (P := Try.prog) W O1 (HEX.extract a (a + 1)) (by omega)
          obtain ⟨O2, hO2⟩ : ∃ x, x = O1 ++ HEX.extract a (a + 1) := ⟨_, rfl⟩
          rw [← hO2] at hadd2
          have hO2s : O2.size = O1.size + 1 := by rw [hO2, ByteArray.size_append, hxas]
          have hadd3 := fun W => run_string_add_sum (P := Try.prog) W O2 (HEX.extract b (b + 1)) (by omega)
          obtain ⟨O3, hO3⟩ : ∃ x, x = O2 ++ HEX.extract b (b + 1) := ⟨_, rfl⟩
          rw [← hO3] at hadd3
          have hO4 : O3.data.toList = [34] ++ quoL (s.data.toList.take (k + 1)) := by
            rw [hO3, hO2, hO1, app_list, app_list, app_list, HO.out, HS.out, HB.out, hxa, hxb, ha, hb]; simp
          have hd : IntKind.u8.wrap ((s[k].toNat : Int) / 16) = a := by rw [IntKind.wrap_u8]; omega
          have hm : (s[k].toNat : Int).tmod 16 = b := by rw [Int.tmod_eq_emod_of_nonneg (by omega)]; omega
          have hd2 : IntKind.u8.wrap ((a : Int) + 1) = (a : Int) + 1 := by rw [IntKind.wrap_u8]; omega
          have hm2 : IntKind.u8.wrap ((b : Int) + 1) = (b : Int) + 1 := by rw [IntKind.wrap_u8]; omega
          have hd3 : ((a : Int) + 1).toNat = a + 1 := by omega
          have hm3 : ((b : Int) + 1).toNat = b + 1 := by omega
          have hd4 : (a : Int) + 1 ≤ 16 := by omega
          have hm4 : (b : Int) + 1 ≤ 16 := by omega
          have hd5 : (0 : Int) ≤ (a : Int) + 1 := by omega
          have hm5 : (0 : Int) ≤ (b : Int) + 1 := by omega
          have hd6 : (a : Int) ≤ (a : Int) + 1 := by omega
          have hm6 : (b : Int) ≤ (b : Int) + 1 := by omega
          have hor : (s[k].toNat : Int) < 32 ∨ ¬ (s[k].toNat : Int) < 32 ∧ 126 < (s[k].toNat : Int) := by omega
          have HO4 := Lib.hid hO4
          have Hlt := Lib.hid hlt
          unfold HEX at hadd2 hadd3
          clear hB hO1 hO2 hO3 hO4 hO1s hO2s h1 h4 hc hxa hxas hxb hxbs ha hb
          rcases hor with hor | ⟨hor, hor2⟩
          · go_wp2_with fail
            go_quiet (fail)
            go_wp2_with fail
            go_roundw
            case rel => exact ⟨k + 1, O3, _, Hlt.out, by go_num, rfl, HO4, Lib.hid (by rw [HW.out, World.drewN_drewN])⟩
            case measure => have := Hlt.out; simp [intOf]; omega
          · go_wp2_with fail
            go_quiet (fail)
            go_wp2_with fail
            go_roundw
            case rel => exact ⟨k + 1, O3, _, Hlt.out, by go_num, rfl, HO4, Lib.hid (by rw [HW.out, World.drewN_drewN])⟩
            case measure => have := Hlt.out; simp [intOf]; omega
        · have hB : quoB s[k] = [s[k]] := by unfold quoB; rw [if_neg h1, if_neg h4]
          have HB := Lib.hid hB
          have h5 : (32 : Int) ≤ (s[k].toNat : Int) := by omega
          have h6 : (s[k].toNat : Int) ≤ 126 := by omega
          have hadd2 := fun W => run_string_add_sum (P := Try.prog) W O (s.extract k (k + 1)) (by have := Hxz.out; omega)
          obtain ⟨O2, hO2⟩ : ∃ x, x = O ++ s.extract k (k + 1) := ⟨_, rfl⟩
          rw [← hO2] at hadd2
          have hO3 : O2.data.toList = [34] ++ quoL (s.data.toList.take (k + 1)) := by
            rw [hO2, app_list, HO.out, HS.out, HB.out, Hx1.out]; simp
          have HO3 := Lib.hid hO3
          have Hlt := Lib.hid hlt
          clear hB hO2 hO3 h1 h4 hc
          go_wp2_with fail
          go_roundw
          case rel => exact ⟨k + 1, O2, q0, Hlt.out, by go_num, rfl, HO3, HW⟩
          case measure => have := Hlt.out; simp [intOf]; omega
    · obtain rfl : k = s.size := by omega
      have hall : s.data.toList.take s.size = s.data.toList := List.take_of_length_le (by rw [Array.length_toList]; exact Nat.le_refl _)
      have hadd1 := fun W => run_string_add_sum (P := Try.prog) W O ⟨#[34]⟩ (by have : (ByteArray.mk #[34]).size = 1 := rfl; omega)
      obtain ⟨O1, hO1⟩ : ∃ x, x = O ++ ⟨#[34]⟩ := ⟨_, rfl⟩
      rw [← hO1] at hadd1
      have hO3 : O1.data.toList = quo s.data.toList := by rw [hO1, app_list, HO.out, hall]; rfl
      have HO3 := Lib.hid hO3
      clear hlt hall hO1 hO3
      go_wp2_with fail
      go_ret
      exact ⟨⟨O1, rfl, HO3.out⟩, q0, HW.out⟩
end Go.Proofs.Ytclgemkdlgpekaa.Pt
