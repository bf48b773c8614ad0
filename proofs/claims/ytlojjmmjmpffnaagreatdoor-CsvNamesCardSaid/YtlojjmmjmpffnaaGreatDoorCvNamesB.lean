/- CsvNames' walk: a column's name. No conditions. -/
import Derived.Test.YtlojjmmjmpffnaaGreatDoorCvNamesM
namespace Go.Proofs.YtlojjmmjmpffnaaGreatDoor.Cv
open Go.RowKit Go.Proofs.YtlojjmmjmpffnaaGreatDoor.Jd Go.Proofs.YtlojjmmjmpffnaaGreatDoor.Li Go.Proofs.YtlojjmmjmpffnaaGreatDoor.Cl
set_option maxRecDepth 100000

set_option maxHeartbeats 8000000 in
theorem names_B (a b : Int) (w : World) (k j3 j4 : Nat) (HJ0 : Hid (∀ w, Calls Tryz.prog 8 #[.int .i64 a, .int .i64 7] w fun e w' => e = .returned (.int .i64 k) ∧ w = w')) (_ : Hid (∀ w, Calls Tryz.prog 8 #[.int .i64 b, .int .i64 3] w fun e w' => e = .returned (.int .i64 j3) ∧ w = w')) (HJ4 : Hid (∀ w, Calls Tryz.prog 8 #[.int .i64 b, .int .i64 4] w fun e w' => e = .returned (.int .i64 j4) ∧ w = w')) (HK : Hid (Calls Tryz.prog 6 #[] w fun e w' => e = .returned (.bool true) ∧ Below w.heap.size w w')) (q3 : ¬ k < 3) (q5 : k < 5) (h4 : j4 = 0 ∨ j4 = 1 ∨ j4 = 2 ∨ j4 = 3) :
    Calls Tryz.prog 5 #[.int .i64 a, .int .i64 b] w fun e w' => e = .returned (.bool true) ∧ Below w.heap.size w w' := by
  have HV := Lib.hid rvalue_any
  go_enter Tryz.func5, Tryz.ntmps5
  go_wp2_with fail
  (with_reducible refine HK.out.mono ?_)
  rintro e w1 ⟨rfl, hb1⟩
  go_wp2_with fail
  (with_reducible refine (HJ0.out _).mono ?_)
  rintro e w2 ⟨rfl, rfl⟩
  go_wp2_with fail
  (with_reducible refine (HV.out _ _).mono ?_)
  rintro e w3 ⟨rfl, rfl⟩
  go_upto_block 0 with (fail)
  go_cut [] from 18 to 75 (fun wx => C13 w1 (w1.heap.size + 1 + 1 + 1) wx)
  case first =>
    have HA := Lib.hid (fun s x y : ByteArray => lay3_holds (w1.alloc (Obj.cells #[Value.string ⟨#[]⟩, Value.string ⟨#[97, 10, 98]⟩, Value.string ⟨#[13]⟩] 9)) (w1.heap.size + 1) (by simp) s x y)
    have HAb := Lib.hid (fun s x y : ByteArray => ((Below.refl w1.heap.size w1).alloc (Nat.le_refl _) (Obj.cells #[Value.string ⟨#[]⟩, Value.string ⟨#[97, 10, 98]⟩, Value.string ⟨#[13]⟩] 9)).trans ((lay3_below (w1.alloc (Obj.cells #[Value.string ⟨#[]⟩, Value.string ⟨#[97, 10, 98]⟩, Value.string ⟨#[13]⟩] 9)) (w1.heap.size + 1) s x y).mono (by simp)))
    have HAs := Lib.hid (fun s x y : ByteArray => (by simp [lay3] : (lay3 (w1.alloc (Obj.cells #[Value.string ⟨#[]⟩, Value.string ⟨#[97, 10, 98]⟩, Value.string ⟨#[13]⟩] 9)) (w1.heap.size + 1) s x y).heap.size = w1.heap.size + 1 + 1 + 1 + 1))
    have r3 : ¬ (k : Int) < 3 := by omega
    have r5 : (k : Int) < 5 := by omega
    rcases h4 with rfl | rfl | rfl | rfl
    · go_upto_region 10 with (fail)
      go_region_with
        (first
        | (go_at_call 8; (with_reducible refine (HJ4.out _).mono ?_); rintro e w5 ⟨rfl, rfl⟩))
      all_goals
        go_wp2_with fail
        go_meet
        exact c13_of fB0 (HA.out _ _ _) (HAb.out _ _ _) ((Below.refl _ _).alloc (Nat.le_refl _) _).drew
    · go_upto_region 10 with (fail)
      go_region_with
        (first
        | (go_at_call 8; (with_reducible refine (HJ4.out _).mono ?_); rintro e w5 ⟨rfl, rfl⟩))
      all_goals
        go_wp2_with fail
        go_meet
        exact c13_of fB1 (HA.out _ _ _) (HAb.out _ _ _) ((Below.refl _ _).alloc (Nat.le_refl _) _).drew
    · go_upto_region 10 with (fail)
      go_region_with
        (first
        | (go_at_call 8; (with_reducible refine (HJ4.out _).mono ?_); rintro e w5 ⟨rfl, rfl⟩))
      all_goals
        go_wp2_with fail
        go_meet
        exact c13_of fB2 (HA.out _ _ _) (HAb.out _ _ _) ((Below.refl _ _).alloc (Nat.le_refl _) _).drew
    · go_upto_region 10 with (fail)
      go_region_with
        (first
        | (go_at_call 8; (with_reducible refine (HJ4.out _).mono ?_); rintro e w5 ⟨rfl, rfl⟩))
      all_goals
        go_wp2_with fail
        go_meet
        exact c13_of fB3 (HA.out _ _ _) (HAb.out _ _ _) ((Below.refl _ _).alloc (Nat.le_refl _) _).drew
  case rest =>
    obtain ⟨T, hT, hh, hbx⟩ := hcut
    obtain ⟨wx, rfl⟩ : ∃ wx : World, wx = wc := ⟨_, rfl⟩
    have HF := Lib.hid (fit_any hT _ wx hh)
    have HX := Lib.hid hbx
    clear hh hbx hT
    go_wp2_with fail
    (with_reducible refine HF.out.mono ?_)
    rintro e v1 ⟨rfl, f1⟩
    go_wp2_with fail
    (with_reducible refine (HV.out _ _).mono ?_)
    rintro e v2 ⟨rfl, rfl⟩
    have hG := fit_any fG _ _ (lay3_holds v1 v1.heap.size rfl _ _ _)
    unfold lay3 at hG
    have HG := Lib.hid hG
    clear hG
    go_wp2_with fail
    (with_reducible refine HG.out.mono ?_)
    rintro e v3 ⟨rfl, f3⟩
    go_wp2_with fail
    go_ret
    have hl := lay3_below v1 v1.heap.size ⟨#[32, 34, 118, 44]⟩ ⟨#[99]⟩ ⟨#[114]⟩
    exact ⟨rfl, hb1.trans ((HX.out.trans ((f1.trans ((hl.trans (f3.mono hl.size)).mono f1.size)).mono HX.out.size)).mono hb1.size)⟩

end Go.Proofs.YtlojjmmjmpffnaaGreatDoor.Cv
