/- CsvNames' walk. Conditions: MaxLen's cell. -/
import Derived.Test.YtlojjmmjmpffnaaGreatDoorCvNamesA
import Derived.Test.YtlojjmmjmpffnaaGreatDoorCvNamesB
import Derived.Test.YtlojjmmjmpffnaaGreatDoorCvNamesD0
import Derived.Test.YtlojjmmjmpffnaaGreatDoorCvNamesD1
import Derived.Test.YtlojjmmjmpffnaaGreatDoorCvNamesD2
namespace Go.Proofs.YtlojjmmjmpffnaaGreatDoor.Cv
open Go.RowKit Go.Proofs.YtlojjmmjmpffnaaGreatDoor.Jd Go.Proofs.YtlojjmmjmpffnaaGreatDoor.Li Go.Proofs.YtlojjmmjmpffnaaGreatDoor.Cl
set_option maxRecDepth 100000

theorem names_walk (a b : Int) (w : World) (ha : -9223372036854775808 ≤ a ∧ a ≤ 9223372036854775807) (hb : -9223372036854775808 ≤ b ∧ b ≤ 9223372036854775807) (hG : Gl w) :
    Calls Tryz.prog 5 #[.int .i64 a, .int .i64 b] w fun e w' => e = .returned (.bool true) ∧ Below w.heap.size w w' := by
  have HK := Lib.hid (known_any w hG)
  obtain ⟨k, hk, HJ'⟩ := within_nat a 7 (by omega) (by omega) ha
  have HJ0 : Hid (∀ w, Calls Tryz.prog 8 #[.int .i64 a, .int .i64 7] w fun e w' => e = .returned (.int .i64 k) ∧ w = w') := Lib.hid HJ'
  obtain ⟨j3, hj3, HJ'3⟩ := within_nat b 3 (by omega) (by omega) hb
  have HJ3 : Hid (∀ w, Calls Tryz.prog 8 #[.int .i64 b, .int .i64 3] w fun e w' => e = .returned (.int .i64 j3) ∧ w = w') := Lib.hid HJ'3
  obtain ⟨j4, hj4, HJ'4⟩ := within_nat b 4 (by omega) (by omega) hb
  have HJ4 : Hid (∀ w, Calls Tryz.prog 8 #[.int .i64 b, .int .i64 4] w fun e w' => e = .returned (.int .i64 j4) ∧ w = w') := Lib.hid HJ'4
  have h3 : j3 = 0 ∨ j3 = 1 ∨ j3 = 2 := by omega
  have h4 : j4 = 0 ∨ j4 = 1 ∨ j4 = 2 ∨ j4 = 3 := by omega
  by_cases q3 : k < 3
  · exact names_A a b w k j3 j4 HJ0 HJ3 HJ4 HK q3 h3
  · by_cases q5 : k < 5
    · exact names_B a b w k j3 j4 HJ0 HJ3 HJ4 HK q3 q5 h4
    · by_cases q6 : k = 5
      · exact names_C a b w k j3 j4 HJ0 HJ3 HJ4 HK q6 h3
      · rcases h3 with h3 | h3 | h3
        · exact names_D0 a b w k j3 j4 HJ0 HJ3 HJ4 HK q5 q6 h3
        · exact names_D1 a b w k j3 j4 HJ0 HJ3 HJ4 HK q5 q6 h3
        · exact names_D2 a b w k j3 j4 HJ0 HJ3 HJ4 HK q5 q6 h3
end Go.Proofs.YtlojjmmjmpffnaaGreatDoor.Cv
