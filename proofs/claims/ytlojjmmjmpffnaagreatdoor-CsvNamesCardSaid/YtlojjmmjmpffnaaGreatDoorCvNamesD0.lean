/- CsvNames' walk: what stands below a column. No conditions. -/
import Derived.Test.YtlojjmmjmpffnaaGreatDoorCvNamesM
namespace Go.Proofs.YtlojjmmjmpffnaaGreatDoor.Cv
open Go.RowKit Go.Proofs.YtlojjmmjmpffnaaGreatDoor.Jd Go.Proofs.YtlojjmmjmpffnaaGreatDoor.Li Go.Proofs.YtlojjmmjmpffnaaGreatDoor.Cl
set_option maxRecDepth 100000

set_option maxHeartbeats 8000000 in
theorem names_D0 (a b : Int) (w : World) (k j3 j4 : Nat) (HJ0 : Hid (∀ w, Calls Tryz.prog 8 #[.int .i64 a, .int .i64 7] w fun e w' => e = .returned (.int .i64 k) ∧ w = w')) (HJ3 : Hid (∀ w, Calls Tryz.prog 8 #[.int .i64 b, .int .i64 3] w fun e w' => e = .returned (.int .i64 j3) ∧ w = w')) (_ : Hid (∀ w, Calls Tryz.prog 8 #[.int .i64 b, .int .i64 4] w fun e w' => e = .returned (.int .i64 j4) ∧ w = w')) (HK : Hid (Calls Tryz.prog 6 #[] w fun e w' => e = .returned (.bool true) ∧ Below w.heap.size w w')) (q5 : ¬ k < 5) (q6 : ¬ k = 5) (h3 : j3 = 0) :
    Calls Tryz.prog 5 #[.int .i64 a, .int .i64 b] w fun e w' => e = .returned (.bool true) ∧ Below w.heap.size w w' := by
  have HV := Lib.hid rvalue_any
  go_enter Tryz.func5, Tryz.ntmps5
  go_wp2_with fail
  (with_reducible refine HK.out.mono ?_)
  rintro e w1 ⟨rfl, hb1⟩
  go_wp2_with fail
  (with_reducible refine (HJ0.out _).mono ?_)
  rintro e w2 ⟨rfl, rfl⟩
  go_wp2_with fail
  (with_reducible refine (HV.out _ _).mono ?_)
  rintro e w3 ⟨rfl, rfl⟩
  go_upto_block 0 with (fail)
  go_cut [] from 18 to 75 (fun wx => C13 w1 (w1.heap.size + 1 + 1 + 1) wx)
  case first =>
    have HA := Lib.hid (fun s x y : ByteArray => lay3_holds (w1.alloc (Obj.cells #[Value.string ⟨#[]⟩, Value.string ⟨#[97, 10, 98]⟩, Value.string ⟨#[13]⟩] 9)) (w1.heap.size + 1) (by simp) s x y)
    have HAb := Lib.hid (fun s x y : ByteArray => ((Below.refl w1.heap.size w1).alloc (Nat.le_refl _) (Obj.cells #[Value.string ⟨#[]⟩, Value.string ⟨#[97, 10, 98]⟩, Value.string ⟨#[13]⟩] 9)).trans ((lay3_below (w1.alloc (Obj.cells #[Value.string ⟨#[]⟩, Value.string ⟨#[97, 10, 98]⟩, Value.string ⟨#[13]⟩] 9)) (w1.heap.size + 1) s x y).mono (by simp)))
    have HAs := Lib.hid (fun s x y : ByteArray => (by simp [lay3] : (lay3 (w1.alloc (Obj.cells #[Value.string ⟨#[]⟩, Value.string ⟨#[97, 10, 98]⟩, Value.string ⟨#[13]⟩] 9)) (w1.heap.size + 1) s x y).heap.size = w1.heap.size + 1 + 1 + 1 + 1))
    have r3 : ¬ (k : Int) < 3 := by omega
    have r5 : ¬ (k : Int) < 5 := by omega
    have r6 : ((k : Int) == 5) = false := by simp; omega
    subst h3
    go_upto_region 6 with (fail)
    refine wp_region_noPanic (wp_region_held_drew (S := fun W => W.cell? ⟨w1.heap.size + 1 + 1 + 1, 1, none⟩ = some (Value.slice (some ⟨w1.heap.size + 1 + 1, 0, none⟩) 1 1)) (by kernel_rfl) (by (try simp only [drew_cell]); exact at_new (by simp) _ _ _) (fun hS0 => ?_))
    refine wpAnyH_take (i := 0) (v := .slice (some ⟨w1.heap.size + 1 + 1 + 1, 0, none⟩) 1 1) rfl (by kernel_rfl) (by kernel_rfl) (by kernel_rfl) (fun _ _ _ h => h) (Or.inl ⟨by rfl, ?_⟩) hS0 ?_
    · intro w' hSw
      clear hSw
      go_simp
    simp only [List.getElem_toArray, List.getElem_cons_zero, Act.put, List.setIfInBounds_toArray, List.set_cons_zero, List.set_cons_succ]
    refine wpAnyH_take (i := 1) (v := .pointer (some ⟨w1.heap.size + 1 + 1 + 1, 0, none⟩)) rfl (by kernel_rfl) (by kernel_rfl) (by kernel_rfl) (fun _ _ _ h => h) (Or.inl ⟨by rfl, ?_⟩) hS0 ?_
    · intro w' hSw
      clear hSw
      go_simp
    simp only [List.getElem_toArray, List.getElem_cons_succ, List.getElem_cons_zero, Act.put, List.setIfInBounds_toArray, List.set_cons_zero, List.set_cons_succ]
    refine wpAnyH_take (i := 2) (v := .pointer (some ⟨w1.heap.size + 1 + 1 + 1, 1, none⟩)) rfl (by kernel_rfl) (by kernel_rfl) (by kernel_rfl) (fun _ _ _ h => h) (Or.inl ⟨by rfl, ?_⟩) hS0 ?_
    · intro w' hSw
      clear hSw
      go_simp
    simp only [List.getElem_toArray, List.getElem_cons_succ, List.getElem_cons_zero, Act.put, List.setIfInBounds_toArray, List.set_cons_zero, List.set_cons_succ]
    refine wpAnyH_take (i := 3) (v := .slice (some ⟨w1.heap.size + 1 + 1, 0, none⟩) 1 1) rfl (by kernel_rfl) (by kernel_rfl) (by kernel_rfl) (fun _ _ _ h => h) (Or.inl ⟨by rfl, ?_⟩) hS0 ?_
    · intro w' hSw
      (try dsimp only at hSw)
      go_simp
    simp only [List.getElem_toArray, List.getElem_cons_succ, List.getElem_cons_zero, Act.put, List.setIfInBounds_toArray, List.set_cons_zero, List.set_cons_succ]
    refine wpAnyH_take (i := 4) (v := .agg #[Value.string ⟨#[117]⟩, Value.slice none 0 0]) rfl (by kernel_rfl) (by kernel_rfl) (by kernel_rfl) (fun _ _ _ h => h) (Or.inl ⟨by rfl, ?_⟩) hS0 ?_
    · intro w' hSw
      clear hSw
      go_simp
    simp only [List.getElem_toArray, List.getElem_cons_succ, List.getElem_cons_zero, Act.put, List.setIfInBounds_toArray, List.set_cons_zero, List.set_cons_succ]
    refine wpAnyH_take (i := 5) (v := .agg #[Value.string ⟨#[118]⟩, Value.slice none 0 0]) rfl (by kernel_rfl) (by kernel_rfl) (by kernel_rfl) (fun _ _ _ h => h) (Or.inl ⟨by rfl, ?_⟩) hS0 ?_
    · intro w' hSw
      clear hSw
      go_simp
    simp only [List.getElem_toArray, List.getElem_cons_succ, List.getElem_cons_zero, Act.put, List.setIfInBounds_toArray, List.set_cons_zero, List.set_cons_succ]
    refine wpAnyH_take (i := 11) (v := .int .i64 b) rfl (by kernel_rfl) (by kernel_rfl) (by kernel_rfl) (fun _ _ _ h => h) (Or.inl ⟨by rfl, ?_⟩) hS0 ?_
    · intro w' hSw
      clear hSw
      go_simp
    simp only [List.getElem_toArray, List.getElem_cons_succ, List.getElem_cons_zero, Act.put, List.setIfInBounds_toArray, List.set_cons_zero, List.set_cons_succ]
    refine wpAnyH_ready (rs := [6, 7]) (by kernel_rfl) (by simp) (AllReadyH.cons rfl (fun K hK => ?_) (AllReadyH.cons rfl (fun K hK => ?_) AllReadyH.nil))
    · go_simp
      refine hK.out _ _ (by (try simp only [drew_cell]); rw [at_old (by simp <;> omega)]; (try simp only [drew_cell]); exact at_new (by simp) _ _ _) (fun hS0 => ?_)
      clear hK K
      refine wpAnyH_ready (rs := [7]) (by kernel_rfl) (by simp) (AllReadyH.cons rfl (fun K hK => ?_) AllReadyH.nil)
      go_simp
      (with_reducible refine (HV.out _ _).mono ?_)
      rintro e w6 ⟨rfl, rfl⟩
      refine hK.out _ _ (by (try simp only [drew_cell]); rw [at_old (by simp <;> omega)]; (try simp only [drew_cell]); rw [at_old (by simp <;> omega)]; (try simp only [drew_cell]); exact at_new (by simp) _ _ _) (fun hS0 => ?_)
      clear hK K
      refine wpAnyH_take (i := 8) (v := .agg #[Value.string ⟨#[117]⟩, Value.slice (some ⟨w1.heap.size + 1 + 1 + 1 + 1 + 1, 0, none⟩) 1 1]) rfl (by kernel_rfl) (by kernel_rfl) (by kernel_rfl) (fun _ _ _ h => h) (Or.inl ⟨by rfl, ?_⟩) hS0 ?_
      · intro w' hSw
        clear hSw
        go_simp
      simp only [List.getElem_toArray, List.getElem_cons_succ, List.getElem_cons_zero, Act.put, List.setIfInBounds_toArray, List.set_cons_zero, List.set_cons_succ]
      refine wpAnyH_ready (rs := [9, 12]) (by kernel_rfl) (by simp) (AllReadyH.cons rfl (fun K hK => ?_) (AllReadyH.cons rfl (fun K hK => ?_) AllReadyH.nil))
      · go_simp
        refine hK.out _ _ (by (try simp only [drew_cell]); rw [at_old (by simp <;> omega)]; (try simp only [drew_cell]); rw [at_old (by simp <;> omega)]; (try simp only [drew_cell]); rw [at_old (by simp <;> omega)]; (try simp only [drew_cell]); exact at_new (by simp) _ _ _) (fun hS0 => ?_)
        clear hK K
        refine wpAnyH_ready (rs := [10, 12]) (by kernel_rfl) (by simp) (AllReadyH.cons rfl (fun K hK => ?_) (AllReadyH.cons rfl (fun K hK => ?_) AllReadyH.nil))
        · go_simp
          refine hK.out _ _ (by (try simp only [drew_cell]); rw [at_old (by simp <;> omega)]; (try simp only [drew_cell]); rw [at_old (by simp <;> omega)]; (try simp only [drew_cell]); rw [at_old (by simp <;> omega)]; (try simp only [drew_cell]); rw [at_old (by simp <;> omega)]; (try simp only [drew_cell]); exact at_new (by simp) _ _ _) (fun hS0 => ?_)
          clear hK K
          refine wpAnyH_ready (rs := [12]) (by kernel_rfl) (by simp) (AllReadyH.cons rfl (fun K hK => ?_) AllReadyH.nil)
          go_simp
          (with_reducible refine (HJ3.out _).mono ?_)
          rintro e w6 ⟨rfl, rfl⟩
          refine hK.out _ _ (by (try simp only [drew_cell]); rw [at_old (by simp <;> omega)]; (try simp only [drew_cell]); rw [at_old (by simp <;> omega)]; (try simp only [drew_cell]); rw [at_old (by simp <;> omega)]; (try simp only [drew_cell]); rw [at_old (by simp <;> omega)]; (try simp only [drew_cell]); exact at_new (by simp) _ _ _) (fun hS0 => ?_)
          clear hK K
          refine wpAnyH_take (i := 13) (v := .pointer (some ⟨w1.heap.size + 1 + 1 + 1 + 1 + 1 + 1 + 1, 0, none⟩)) rfl (by kernel_rfl) (by kernel_rfl) (by kernel_rfl) (fun _ _ _ h => h) (Or.inl ⟨by rfl, ?_⟩) hS0 ?_
          · intro w' hSw
            clear hSw
            go_simp
          simp only [List.getElem_toArray, List.getElem_cons_succ, List.getElem_cons_zero, Act.put, List.setIfInBounds_toArray, List.set_cons_zero, List.set_cons_succ]
          refine wpAnyH_ready (rs := [14]) (by kernel_rfl) (by simp) (AllReadyH.cons rfl (fun K hK => ?_) AllReadyH.nil)
          go_simp
          refine hK.out _ _ (by (try simp only [drew_cell]); rw [at_old (by simp <;> omega)]; (try simp only [drew_cell]); rw [at_old (by simp <;> omega)]; (try simp only [drew_cell]); rw [at_old (by simp <;> omega)]; (try simp only [drew_cell]); rw [at_old (by simp <;> omega)]; (try simp only [drew_cell]); exact at_new (by simp) _ _ _) (fun hS0 => ?_)
          clear hK K
          refine wpAnyH_take (i := 15) (v := .pointer (some ⟨w1.heap.size + 1 + 1, 0, none⟩)) rfl (by kernel_rfl) (by kernel_rfl) (by kernel_rfl) (fun _ _ _ h => h) (Or.inl ⟨by rfl, ?_⟩) hS0 ?_
          · intro w' hSw
            clear hSw
            go_simp
          simp only [List.getElem_toArray, List.getElem_cons_succ, List.getElem_cons_zero, Act.put, List.setIfInBounds_toArray, List.set_cons_zero, List.set_cons_succ]
          refine wpAnyH_take (i := 16) (v := .pointer (some ⟨w1.heap.size + 1 + 1, 1, none⟩)) rfl (by kernel_rfl) (by kernel_rfl) (by kernel_rfl) (fun _ _ _ h => h) (Or.inl ⟨by rfl, ?_⟩) hS0 ?_
          · intro w' hSw
            clear hSw
            go_simp
          simp only [List.getElem_toArray, List.getElem_cons_succ, List.getElem_cons_zero, Act.put, List.setIfInBounds_toArray, List.set_cons_zero, List.set_cons_succ]
          refine wpAnyH_ready (rs := [17]) (by kernel_rfl) (by simp) (AllReadyH.cons rfl (fun K hK => ?_) AllReadyH.nil)
          go_simp
          refine hK.out _ _ (by (try simp only [drew_cell]); rw [at_old (by simp <;> omega)]; (try simp only [drew_cell]); rw [at_old (by simp <;> omega)]; (try simp only [drew_cell]); rw [at_old (by simp <;> omega)]; (try simp only [drew_cell]); rw [at_old (by simp <;> omega)]; (try simp only [drew_cell]); exact at_new (by simp) _ _ _) (fun hS0 => ?_)
          clear hK K
          refine wpAnyH_done (by kernel_rfl) ?_ _
          refine NoPanic.normal ?_
          go_wp2_with fail
          go_meet
          exact c13_of fD0 (list_one [(Obj.cells #[Value.string ⟨#[]⟩, Value.string ⟨#[97, 10, 98]⟩, Value.string ⟨#[13]⟩] 9), Obj.cells #[Value.string ⟨#[118]⟩, Value.slice none 0 0] 42, Obj.cells #[Value.string ⟨#[99]⟩, Value.slice none 0 0] 42, Obj.cells #[Value.string ⟨#[114]⟩, Value.slice (some ⟨w1.heap.size + 2, 0, none⟩) 1 1] 42, Obj.cells #[Value.string ⟨#[117]⟩, Value.slice none 0 0, Value.string ⟨#[118]⟩, Value.slice none 0 0] 42, Obj.cells #[Value.string ⟨#[119]⟩, Value.slice none 0 0] 42, Obj.cells #[Value.string ⟨#[117]⟩, Value.slice (some ⟨w1.heap.size + 5, 0, none⟩) 1 1] 42, Obj.cells #[Value.slice none 0 0, Value.slice (some ⟨w1.heap.size + 4, 0, none⟩) 2 2, Value.slice (some ⟨w1.heap.size + 6, 0, none⟩) 1 1] 30] w1 3 rfl (by simp) (by decide) (list_one _ w1 2 rfl (by simp) (by decide) (holds_none _ _ _))) (allocs_below _ _) (Below.refl _ _).drew
        · go_simp
          (with_reducible refine (HJ3.out _).mono ?_)
          rintro e w6 ⟨rfl, rfl⟩
          refine hK.out _ _ (by (try simp only [drew_cell]); rw [at_old (by simp <;> omega)]; (try simp only [drew_cell]); rw [at_old (by simp <;> omega)]; (try simp only [drew_cell]); rw [at_old (by simp <;> omega)]; (try simp only [drew_cell]); exact at_new (by simp) _ _ _) (fun hS0 => ?_)
          clear hK K
          refine wpAnyH_ready (rs := [10]) (by kernel_rfl) (by simp) (AllReadyH.cons rfl (fun K hK => ?_) AllReadyH.nil)
          go_simp
          refine hK.out _ _ (by (try simp only [drew_cell]); rw [at_old (by simp <;> omega)]; (try simp only [drew_cell]); rw [at_old (by simp <;> omega)]; (try simp only [drew_cell]); rw [at_old (by simp <;> omega)]; (try simp only [drew_cell]); rw [at_old (by simp <;> omega)]; (try simp only [drew_cell]); exact at_new (by simp) _ _ _) (fun hS0 => ?_)
          clear hK K
          refine wpAnyH_take (i := 13) (v := .pointer (some ⟨w1.heap.size + 1 + 1 + 1 + 1 + 1 + 1 + 1, 0, none⟩)) rfl (by kernel_rfl) (by kernel_rfl) (by kernel_rfl) (fun _ _ _ h => h) (Or.inl ⟨by rfl, ?_⟩) hS0 ?_
          · intro w' hSw
            clear hSw
            go_simp
          simp only [List.getElem_toArray, List.getElem_cons_succ, List.getElem_cons_zero, Act.put, List.setIfInBounds_toArray, List.set_cons_zero, List.set_cons_succ]
          refine wpAnyH_ready (rs := [14]) (by kernel_rfl) (by simp) (AllReadyH.cons rfl (fun K hK => ?_) AllReadyH.nil)
          go_simp
          refine hK.out _ _ (by (try simp only [drew_cell]); rw [at_old (by simp <;> omega)]; (try simp only [drew_cell]); rw [at_old (by simp <;> omega)]; (try simp only [drew_cell]); rw [at_old (by simp <;> omega)]; (try simp only [drew_cell]); rw [at_old (by simp <;> omega)]; (try simp only [drew_cell]); exact at_new (by simp) _ _ _) (fun hS0 => ?_)
          clear hK K
          refine wpAnyH_take (i := 15) (v := .pointer (some ⟨w1.heap.size + 1 + 1, 0, none⟩)) rfl (by kernel_rfl) (by kernel_rfl) (by kernel_rfl) (fun _ _ _ h => h) (Or.inl ⟨by rfl, ?_⟩) hS0 ?_
          · intro w' hSw
            clear hSw
            go_simp
          simp only [List.getElem_toArray, List.getElem_cons_succ, List.getElem_cons_zero, Act.put, List.setIfInBounds_toArray, List.set_cons_zero, List.set_cons_succ]
          refine wpAnyH_take (i := 16) (v := .pointer (some ⟨w1.heap.size + 1 + 1, 1, none⟩)) rfl (by kernel_rfl) (by kernel_rfl) (by kernel_rfl) (fun _ _ _ h => h) (Or.inl ⟨by rfl, ?_⟩) hS0 ?_
          · intro w' hSw
            clear hSw
            go_simp
          simp only [List.getElem_toArray, List.getElem_cons_succ, List.getElem_cons_zero, Act.put, List.setIfInBounds_toArray, List.set_cons_zero, List.set_cons_succ]
          refine wpAnyH_ready (rs := [17]) (by kernel_rfl) (by simp) (AllReadyH.cons rfl (fun K hK => ?_) AllReadyH.nil)
          go_simp
          refine hK.out _ _ (by (try simp only [drew_cell]); rw [at_old (by simp <;> omega)]; (try simp only [drew_cell]); rw [at_old (by simp <;> omega)]; (try simp only [drew_cell]); rw [at_old (by simp <;> omega)]; (try simp only [drew_cell]); rw [at_old (by simp <;> omega)]; (try simp only [drew_cell]); exact at_new (by simp) _ _ _) (fun hS0 => ?_)
          clear hK K
          refine wpAnyH_done (by kernel_rfl) ?_ _
          refine NoPanic.normal ?_
          go_wp2_with fail
          go_meet
          exact c13_of fD0 (list_one [(Obj.cells #[Value.string ⟨#[]⟩, Value.string ⟨#[97, 10, 98]⟩, Value.string ⟨#[13]⟩] 9), Obj.cells #[Value.string ⟨#[118]⟩, Value.slice none 0 0] 42, Obj.cells #[Value.string ⟨#[99]⟩, Value.slice none 0 0] 42, Obj.cells #[Value.string ⟨#[114]⟩, Value.slice (some ⟨w1.heap.size + 2, 0, none⟩) 1 1] 42, Obj.cells #[Value.string ⟨#[117]⟩, Value.slice none 0 0, Value.string ⟨#[118]⟩, Value.slice none 0 0] 42, Obj.cells #[Value.string ⟨#[119]⟩, Value.slice none 0 0] 42, Obj.cells #[Value.string ⟨#[117]⟩, Value.slice (some ⟨w1.heap.size + 5, 0, none⟩) 1 1] 42, Obj.cells #[Value.slice none 0 0, Value.slice (some ⟨w1.heap.size + 4, 0, none⟩) 2 2, Value.slice (some ⟨w1.heap.size + 6, 0, none⟩) 1 1] 30] w1 3 rfl (by simp) (by decide) (list_one _ w1 2 rfl (by simp) (by decide) (holds_none _ _ _))) (allocs_below _ _) (Below.refl _ _).drew
      · go_simp
        (with_reducible refine (HJ3.out _).mono ?_)
        rintro e w6 ⟨rfl, rfl⟩
        refine hK.out _ _ (by (try simp only [drew_cell]); rw [at_old (by simp <;> omega)]; (try simp only [drew_cell]); rw [at_old (by simp <;> omega)]; (try simp only [drew_cell]); exact at_new (by simp) _ _ _) (fun hS0 => ?_)
        clear hK K
        refine wpAnyH_ready (rs := [9]) (by kernel_rfl) (by simp) (AllReadyH.cons rfl (fun K hK => ?_) AllReadyH.nil)
        go_simp
        refine hK.out _ _ (by (try simp only [drew_cell]); rw [at_old (by simp <;> omega)]; (try simp only [drew_cell]); rw [at_old (by simp <;> omega)]; (try simp only [drew_cell]); rw [at_old (by simp <;> omega)]; (try simp only [drew_cell]); exact at_new (by simp) _ _ _) (fun hS0 => ?_)
        clear hK K
        refine wpAnyH_ready (rs := [10]) (by kernel_rfl) (by simp) (AllReadyH.cons rfl (fun K hK => ?_) AllReadyH.nil)
        go_simp
        refine hK.out _ _ (by (try simp only [drew_cell]); rw [at_old (by simp <;> omega)]; (try simp only [drew_cell]); rw [at_old (by simp <;> omega)]; (try simp only [drew_cell]); rw [at_old (by simp <;> omega)]; (try simp only [drew_cell]); rw [at_old (by simp <;> omega)]; (try simp only [drew_cell]); exact at_new (by simp) _ _ _) (fun hS0 => ?_)
        clear hK K
        refine wpAnyH_take (i := 13) (v := .pointer (some ⟨w1.heap.size + 1 + 1 + 1 + 1 + 1 + 1 + 1, 0, none⟩)) rfl (by kernel_rfl) (by kernel_rfl) (by kernel_rfl) (fun _ _ _ h => h) (Or.inl ⟨by rfl, ?_⟩) hS0 ?_
        · intro w' hSw
          clear hSw
          go_simp
        simp only [List.getElem_toArray, List.getElem_cons_succ, List.getElem_cons_zero, Act.put, List.setIfInBounds_toArray, List.set_cons_zero, List.set_cons_succ]
        refine wpAnyH_ready (rs := [14]) (by kernel_rfl) (by simp) (AllReadyH.cons rfl (fun K hK => ?_) AllReadyH.nil)
        go_simp
        refine hK.out _ _ (by (try simp only [drew_cell]); rw [at_old (by simp <;> omega)]; (try simp only [drew_cell]); rw [at_old (by simp <;> omega)]; (try simp only [drew_cell]); rw [at_old (by simp <;> omega)]; (try simp only [drew_cell]); rw [at_old (by simp <;> omega)]; (try simp only [drew_cell]); exact at_new (by simp) _ _ _) (fun hS0 => ?_)
        clear hK K
        refine wpAnyH_take (i := 15) (v := .pointer (some ⟨w1.heap.size + 1 + 1, 0, none⟩)) rfl (by kernel_rfl) (by kernel_rfl) (by kernel_rfl) (fun _ _ _ h => h) (Or.inl ⟨by rfl, ?_⟩) hS0 ?_
        · intro w' hSw
          clear hSw
          go_simp
        simp only [List.getElem_toArray, List.getElem_cons_succ, List.getElem_cons_zero, Act.put, List.setIfInBounds_toArray, List.set_cons_zero, List.set_cons_succ]
        refine wpAnyH_take (i := 16) (v := .pointer (some ⟨w1.heap.size + 1 + 1, 1, none⟩)) rfl (by kernel_rfl) (by kernel_rfl) (by kernel_rfl) (fun _ _ _ h => h) (Or.inl ⟨by rfl, ?_⟩) hS0 ?_
        · intro w' hSw
          clear hSw
          go_simp
        simp only [List.getElem_toArray, List.getElem_cons_succ, List.getElem_cons_zero, Act.put, List.setIfInBounds_toArray, List.set_cons_zero, List.set_cons_succ]
        refine wpAnyH_ready (rs := [17]) (by kernel_rfl) (by simp) (AllReadyH.cons rfl (fun K hK => ?_) AllReadyH.nil)
        go_simp
        refine hK.out _ _ (by (try simp only [drew_cell]); rw [at_old (by simp <;> omega)]; (try simp only [drew_cell]); rw [at_old (by simp <;> omega)]; (try simp only [drew_cell]); rw [at_old (by simp <;> omega)]; (try simp only [drew_cell]); rw [at_old (by simp <;> omega)]; (try simp only [drew_cell]); exact at_new (by simp) _ _ _) (fun hS0 => ?_)
        clear hK K
        refine wpAnyH_done (by kernel_rfl) ?_ _
        refine NoPanic.normal ?_
        go_wp2_with fail
        go_meet
        exact c13_of fD0 (list_one [(Obj.cells #[Value.string ⟨#[]⟩, Value.string ⟨#[97, 10, 98]⟩, Value.string ⟨#[13]⟩] 9), Obj.cells #[Value.string ⟨#[118]⟩, Value.slice none 0 0] 42, Obj.cells #[Value.string ⟨#[99]⟩, Value.slice none 0 0] 42, Obj.cells #[Value.string ⟨#[114]⟩, Value.slice (some ⟨w1.heap.size + 2, 0, none⟩) 1 1] 42, Obj.cells #[Value.string ⟨#[117]⟩, Value.slice none 0 0, Value.string ⟨#[118]⟩, Value.slice none 0 0] 42, Obj.cells #[Value.string ⟨#[119]⟩, Value.slice none 0 0] 42, Obj.cells #[Value.string ⟨#[117]⟩, Value.slice (some ⟨w1.heap.size + 5, 0, none⟩) 1 1] 42, Obj.cells #[Value.slice none 0 0, Value.slice (some ⟨w1.heap.size + 4, 0, none⟩) 2 2, Value.slice (some ⟨w1.heap.size + 6, 0, none⟩) 1 1] 30] w1 3 rfl (by simp) (by decide) (list_one _ w1 2 rfl (by simp) (by decide) (holds_none _ _ _))) (allocs_below _ _) (Below.refl _ _).drew
    · go_simp
      (with_reducible refine (HV.out _ _).mono ?_)
      rintro e w6 ⟨rfl, rfl⟩
      refine hK.out _ _ (by (try simp only [drew_cell]); rw [at_old (by simp <;> omega)]; (try simp only [drew_cell]); exact at_new (by simp) _ _ _) (fun hS0 => ?_)
      clear hK K
      refine wpAnyH_take (i := 8) (v := .agg #[Value.string ⟨#[117]⟩, Value.slice (some ⟨w1.heap.size + 1 + 1 + 1 + 1, 0, none⟩) 1 1]) rfl (by kernel_rfl) (by kernel_rfl) (by kernel_rfl) (fun _ _ _ h => h) (Or.inl ⟨by rfl, ?_⟩) hS0 ?_
      · intro w' hSw
        clear hSw
        go_simp
      simp only [List.getElem_toArray, List.getElem_cons_succ, List.getElem_cons_zero, Act.put, List.setIfInBounds_toArray, List.set_cons_zero, List.set_cons_succ]
      refine wpAnyH_ready (rs := [6, 9, 12]) (by kernel_rfl) (by simp) (AllReadyH.cons rfl (fun K hK => ?_) (AllReadyH.cons rfl (fun K hK => ?_) (AllReadyH.cons rfl (fun K hK => ?_) AllReadyH.nil)))
      · go_simp
        refine hK.out _ _ (by (try simp only [drew_cell]); rw [at_old (by simp <;> omega)]; (try simp only [drew_cell]); rw [at_old (by simp <;> omega)]; (try simp only [drew_cell]); exact at_new (by simp) _ _ _) (fun hS0 => ?_)
        clear hK K
        refine wpAnyH_ready (rs := [9, 12]) (by kernel_rfl) (by simp) (AllReadyH.cons rfl (fun K hK => ?_) (AllReadyH.cons rfl (fun K hK => ?_) AllReadyH.nil))
        · go_simp
          refine hK.out _ _ (by (try simp only [drew_cell]); rw [at_old (by simp <;> omega)]; (try simp only [drew_cell]); rw [at_old (by simp <;> omega)]; (try simp only [drew_cell]); rw [at_old (by simp <;> omega)]; (try simp only [drew_cell]); exact at_new (by simp) _ _ _) (fun hS0 => ?_)
          clear hK K
          refine wpAnyH_ready (rs := [10, 12]) (by kernel_rfl) (by simp) (AllReadyH.cons rfl (fun K hK => ?_) (AllReadyH.cons rfl (fun K hK => ?_) AllReadyH.nil))
          · go_simp
            refine hK.out _ _ (by (try simp only [drew_cell]); rw [at_old (by simp <;> omega)]; (try simp only [drew_cell]); rw [at_old (by simp <;> omega)]; (try simp only [drew_cell]); rw [at_old (by simp <;> omega)]; (try simp only [drew_cell]); rw [at_old (by simp <;> omega)]; (try simp only [drew_cell]); exact at_new (by simp) _ _ _) (fun hS0 => ?_)
            clear hK K
            refine wpAnyH_ready (rs := [12]) (by kernel_rfl) (by simp) (AllReadyH.cons rfl (fun K hK => ?_) AllReadyH.nil)
            go_simp
            (with_reducible refine (HJ3.out _).mono ?_)
            rintro e w6 ⟨rfl, rfl⟩
            refine hK.out _ _ (by (try simp only [drew_cell]); rw [at_old (by simp <;> omega)]; (try simp only [drew_cell]); rw [at_old (by simp <;> omega)]; (try simp only [drew_cell]); rw [at_old (by simp <;> omega)]; (try simp only [drew_cell]); rw [at_old (by simp <;> omega)]; (try simp only [drew_cell]); exact at_new (by simp) _ _ _) (fun hS0 => ?_)
            clear hK K
            refine wpAnyH_take (i := 13) (v := .pointer (some ⟨w1.heap.size + 1 + 1 + 1 + 1 + 1 + 1 + 1, 0, none⟩)) rfl (by kernel_rfl) (by kernel_rfl) (by kernel_rfl) (fun _ _ _ h => h) (Or.inl ⟨by rfl, ?_⟩) hS0 ?_
            · intro w' hSw
              clear hSw
              go_simp
            simp only [List.getElem_toArray, List.getElem_cons_succ, List.getElem_cons_zero, Act.put, List.setIfInBounds_toArray, List.set_cons_zero, List.set_cons_succ]
            refine wpAnyH_ready (rs := [14]) (by kernel_rfl) (by simp) (AllReadyH.cons rfl (fun K hK => ?_) AllReadyH.nil)
            go_simp
            refine hK.out _ _ (by (try simp only [drew_cell]); rw [at_old (by simp <;> omega)]; (try simp only [drew_cell]); rw [at_old (by simp <;> omega)]; (try simp only [drew_cell]); rw [at_old (by simp <;> omega)]; (try simp only [drew_cell]); rw [at_old (by simp <;> omega)]; (try simp only [drew_cell]); exact at_new (by simp) _ _ _) (fun hS0 => ?_)
            clear hK K
            refine wpAnyH_take (i := 15) (v := .pointer (some ⟨w1.heap.size + 1 + 1, 0, none⟩)) rfl (by kernel_rfl) (by kernel_rfl) (by kernel_rfl) (fun _ _ _ h => h) (Or.inl ⟨by rfl, ?_⟩) hS0 ?_
            · intro w' hSw
              clear hSw
              go_simp
            simp only [List.getElem_toArray, List.getElem_cons_succ, List.getElem_cons_zero, Act.put, List.setIfInBounds_toArray, List.set_cons_zero, List.set_cons_succ]
            refine wpAnyH_take (i := 16) (v := .pointer (some ⟨w1.heap.size + 1 + 1, 1, none⟩)) rfl (by kernel_rfl) (by kernel_rfl) (by kernel_rfl) (fun _ _ _ h => h) (Or.inl ⟨by rfl, ?_⟩) hS0 ?_
            · intro w' hSw
              clear hSw
              go_simp
            simp only [List.getElem_toArray, List.getElem_cons_succ, List.getElem_cons_zero, Act.put, List.setIfInBounds_toArray, List.set_cons_zero, List.set_cons_succ]
            refine wpAnyH_ready (rs := [17]) (by kernel_rfl) (by simp) (AllReadyH.cons rfl (fun K hK => ?_) AllReadyH.nil)
            go_simp
            refine hK.out _ _ (by (try simp only [drew_cell]); rw [at_old (by simp <;> omega)]; (try simp only [drew_cell]); rw [at_old (by simp <;> omega)]; (try simp only [drew_cell]); rw [at_old (by simp <;> omega)]; (try simp only [drew_cell]); rw [at_old (by simp <;> omega)]; (try simp only [drew_cell]); exact at_new (by simp) _ _ _) (fun hS0 => ?_)
            clear hK K
            refine wpAnyH_done (by kernel_rfl) ?_ _
            refine NoPanic.normal ?_
            go_wp2_with fail
            go_meet
            exact c13_of fD0 (list_one [(Obj.cells #[Value.string ⟨#[]⟩, Value.string ⟨#[97, 10, 98]⟩, Value.string ⟨#[13]⟩] 9), Obj.cells #[Value.string ⟨#[118]⟩, Value.slice none 0 0] 42, Obj.cells #[Value.string ⟨#[99]⟩, Value.slice none 0 0] 42, Obj.cells #[Value.string ⟨#[114]⟩, Value.slice (some ⟨w1.heap.size + 2, 0, none⟩) 1 1] 42, Obj.cells #[Value.string ⟨#[119]⟩, Value.slice none 0 0] 42, Obj.cells #[Value.string ⟨#[117]⟩, Value.slice none 0 0, Value.string ⟨#[118]⟩, Value.slice none 0 0] 42, Obj.cells #[Value.string ⟨#[117]⟩, Value.slice (some ⟨w1.heap.size + 4, 0, none⟩) 1 1] 42, Obj.cells #[Value.slice none 0 0, Value.slice (some ⟨w1.heap.size + 5, 0, none⟩) 2 2, Value.slice (some ⟨w1.heap.size + 6, 0, none⟩) 1 1] 30] w1 3 rfl (by simp) (by decide) (list_one _ w1 2 rfl (by simp) (by decide) (holds_none _ _ _))) (allocs_below _ _) (Below.refl _ _).drew
          · go_simp
            (with_reducible refine (HJ3.out _).mono ?_)
            rintro e w6 ⟨rfl, rfl⟩
            refine hK.out _ _ (by (try simp only [drew_cell]); rw [at_old (by simp <;> omega)]; (try simp only [drew_cell]); rw [at_old (by simp <;> omega)]; (try simp only [drew_cell]); rw [at_old (by simp <;> omega)]; (try simp only [drew_cell]); exact at_new (by simp) _ _ _) (fun hS0 => ?_)
            clear hK K
            refine wpAnyH_ready (rs := [10]) (by kernel_rfl) (by simp) (AllReadyH.cons rfl (fun K hK => ?_) AllReadyH.nil)
            go_simp
            refine hK.out _ _ (by (try simp only [drew_cell]); rw [at_old (by simp <;> omega)]; (try simp only [drew_cell]); rw [at_old (by simp <;> omega)]; (try simp only [drew_cell]); rw [at_old (by simp <;> omega)]; (try simp only [drew_cell]); rw [at_old (by simp <;> omega)]; (try simp only [drew_cell]); exact at_new (by simp) _ _ _) (fun hS0 => ?_)
            clear hK K
            refine wpAnyH_take (i := 13) (v := .pointer (some ⟨w1.heap.size + 1 + 1 + 1 + 1 + 1 + 1 + 1, 0, none⟩)) rfl (by kernel_rfl) (by kernel_rfl) (by kernel_rfl) (fun _ _ _ h => h) (Or.inl ⟨by rfl, ?_⟩) hS0 ?_
            · intro w' hSw
              clear hSw
              go_simp
            simp only [List.getElem_toArray, List.getElem_cons_succ, List.getElem_cons_zero, Act.put, List.setIfInBounds_toArray, List.set_cons_zero, List.set_cons_succ]
            refine wpAnyH_ready (rs := [14]) (by kernel_rfl) (by simp) (AllReadyH.cons rfl (fun K hK => ?_) AllReadyH.nil)
            go_simp
            refine hK.out _ _ (by (try simp only [drew_cell]); rw [at_old (by simp <;> omega)]; (try simp only [drew_cell]); rw [at_old (by simp <;> omega)]; (try simp only [drew_cell]); rw [at_old (by simp <;> omega)]; (try simp only [drew_cell]); rw [at_old (by simp <;> omega)]; (try simp only [drew_cell]); exact at_new (by simp) _ _ _) (fun hS0 => ?_)
            clear hK K
            refine wpAnyH_take (i := 15) (v := .pointer (some ⟨w1.heap.size + 1 + 1, 0, none⟩)) rfl (by kernel_rfl) (by kernel_rfl) (by kernel_rfl) (fun _ _ _ h => h) (Or.inl ⟨by rfl, ?_⟩) hS0 ?_
            · intro w' hSw
              clear hSw
              go_simp
            simp only [List.getElem_toArray, List.getElem_cons_succ, List.getElem_cons_zero, Act.put, List.setIfInBounds_toArray, List.set_cons_zero, List.set_cons_succ]
            refine wpAnyH_take (i := 16) (v := .pointer (some ⟨w1.heap.size + 1 + 1, 1, none⟩)) rfl (by kernel_rfl) (by kernel_rfl) (by kernel_rfl) (fun _ _ _ h => h) (Or.inl ⟨by rfl, ?_⟩) hS0 ?_
            · intro w' hSw
              clear hSw
              go_simp
            simp only [List.getElem_toArray, List.getElem_cons_succ, List.getElem_cons_zero, Act.put, List.setIfInBounds_toArray, List.set_cons_zero, List.set_cons_succ]
            refine wpAnyH_ready (rs := [17]) (by kernel_rfl) (by simp) (AllReadyH.cons rfl (fun K hK => ?_) AllReadyH.nil)
            go_simp
            refine hK.out _ _ (by (try simp only [drew_cell]); rw [at_old (by simp <;> omega)]; (try simp only [drew_cell]); rw [at_old (by simp <;> omega)]; (try simp only [drew_cell]); rw [at_old (by simp <;> omega)]; (try simp only [drew_cell]); rw [at_old (by simp <;> omega)]; (try simp only [drew_cell]); exact at_new (by simp) _ _ _) (fun hS0 => ?_)
            clear hK K
            refine wpAnyH_done (by kernel_rfl) ?_ _
            refine NoPanic.normal ?_
            go_wp2_with fail
            go_meet
            exact c13_of fD0 (list_one [(Obj.cells #[Value.string ⟨#[]⟩, Value.string ⟨#[97, 10, 98]⟩, Value.string ⟨#[13]⟩] 9), Obj.cells #[Value.string ⟨#[118]⟩, Value.slice none 0 0] 42, Obj.cells #[Value.string ⟨#[99]⟩, Value.slice none 0 0] 42, Obj.cells #[Value.string ⟨#[114]⟩, Value.slice (some ⟨w1.heap.size + 2, 0, none⟩) 1 1] 42, Obj.cells #[Value.string ⟨#[119]⟩, Value.slice none 0 0] 42, Obj.cells #[Value.string ⟨#[117]⟩, Value.slice none 0 0, Value.string ⟨#[118]⟩, Value.slice none 0 0] 42, Obj.cells #[Value.string ⟨#[117]⟩, Value.slice (some ⟨w1.heap.size + 4, 0, none⟩) 1 1] 42, Obj.cells #[Value.slice none 0 0, Value.slice (some ⟨w1.heap.size + 5, 0, none⟩) 2 2, Value.slice (some ⟨w1.heap.size + 6, 0, none⟩) 1 1] 30] w1 3 rfl (by simp) (by decide) (list_one _ w1 2 rfl (by simp) (by decide) (holds_none _ _ _))) (allocs_below _ _) (Below.refl _ _).drew
        · go_simp
          (with_reducible refine (HJ3.out _).mono ?_)
          rintro e w6 ⟨rfl, rfl⟩
          refine hK.out _ _ (by (try simp only [drew_cell]); rw [at_old (by simp <;> omega)]; (try simp only [drew_cell]); rw [at_old (by simp <;> omega)]; (try simp only [drew_cell]); exact at_new (by simp) _ _ _) (fun hS0 => ?_)
          clear hK K
          refine wpAnyH_ready (rs := [9]) (by kernel_rfl) (by simp) (AllReadyH.cons rfl (fun K hK => ?_) AllReadyH.nil)
          go_simp
          refine hK.out _ _ (by (try simp only [drew_cell]); rw [at_old (by simp <;> omega)]; (try simp only [drew_cell]); rw [at_old (by simp <;> omega)]; (try simp only [drew_cell]); rw [at_old (by simp <;> omega)]; (try simp only [drew_cell]); exact at_new (by simp) _ _ _) (fun hS0 => ?_)
          clear hK K
          refine wpAnyH_ready (rs := [10]) (by kernel_rfl) (by simp) (AllReadyH.cons rfl (fun K hK => ?_) AllReadyH.nil)
          go_simp
          refine hK.out _ _ (by (try simp only [drew_cell]); rw [at_old (by simp <;> omega)]; (try simp only [drew_cell]); rw [at_old (by simp <;> omega)]; (try simp only [drew_cell]); rw [at_old (by simp <;> omega)]; (try simp only [drew_cell]); rw [at_old (by simp <;> omega)]; (try simp only [drew_cell]); exact at_new (by simp) _ _ _) (fun hS0 => ?_)
          clear hK K
          refine wpAnyH_take (i := 13) (v := .pointer (some ⟨w1.heap.size + 1 + 1 + 1 + 1 + 1 + 1 + 1, 0, none⟩)) rfl (by kernel_rfl) (by kernel_rfl) (by kernel_rfl) (fun _ _ _ h => h) (Or.inl ⟨by rfl, ?_⟩) hS0 ?_
          · intro w' hSw
            clear hSw
            go_simp
          simp only [List.getElem_toArray, List.getElem_cons_succ, List.getElem_cons_zero, Act.put, List.setIfInBounds_toArray, List.set_cons_zero, List.set_cons_succ]
          refine wpAnyH_ready (rs := [14]) (by kernel_rfl) (by simp) (AllReadyH.cons rfl (fun K hK => ?_) AllReadyH.nil)
          go_simp
          refine hK.out _ _ (by (try simp only [drew_cell]); rw [at_old (by simp <;> omega)]; (try simp only [drew_cell]); rw [at_old (by simp <;> omega)]; (try simp only [drew_cell]); rw [at_old (by simp <;> omega)]; (try simp only [drew_cell]); rw [at_old (by simp <;> omega)]; (try simp only [drew_cell]); exact at_new (by simp) _ _ _) (fun hS0 => ?_)
          clear hK K
          refine wpAnyH_take (i := 15) (v := .pointer (some ⟨w1.heap.size + 1 + 1, 0, none⟩)) rfl (by kernel_rfl) (by kernel_rfl) (by kernel_rfl) (fun _ _ _ h => h) (Or.inl ⟨by rfl, ?_⟩) hS0 ?_
          · intro w' hSw
            clear hSw
            go_simp
          simp only [List.getElem_toArray, List.getElem_cons_succ, List.getElem_cons_zero, Act.put, List.setIfInBounds_toArray, List.set_cons_zero, List.set_cons_succ]
          refine wpAnyH_take (i := 16) (v := .pointer (some ⟨w1.heap.size + 1 + 1, 1, none⟩)) rfl (by kernel_rfl) (by kernel_rfl) (by kernel_rfl) (fun _ _ _ h => h) (Or.inl ⟨by rfl, ?_⟩) hS0 ?_
          · intro w' hSw
            clear hSw
            go_simp
          simp only [List.getElem_toArray, List.getElem_cons_succ, List.getElem_cons_zero, Act.put, List.setIfInBounds_toArray, List.set_cons_zero, List.set_cons_succ]
          refine wpAnyH_ready (rs := [17]) (by kernel_rfl) (by simp) (AllReadyH.cons rfl (fun K hK => ?_) AllReadyH.nil)
          go_simp
          refine hK.out _ _ (by (try simp only [drew_cell]); rw [at_old (by simp <;> omega)]; (try simp only [drew_cell]); rw [at_old (by simp <;> omega)]; (try simp only [drew_cell]); rw [at_old (by simp <;> omega)]; (try simp only [drew_cell]); rw [at_old (by simp <;> omega)]; (try simp only [drew_cell]); exact at_new (by simp) _ _ _) (fun hS0 => ?_)
          clear hK K
          refine wpAnyH_done (by kernel_rfl) ?_ _
          refine NoPanic.normal ?_
          go_wp2_with fail
          go_meet
          exact c13_of fD0 (list_one [(Obj.cells #[Value.string ⟨#[]⟩, Value.string ⟨#[97, 10, 98]⟩, Value.string ⟨#[13]⟩] 9), Obj.cells #[Value.string ⟨#[118]⟩, Value.slice none 0 0] 42, Obj.cells #[Value.string ⟨#[99]⟩, Value.slice none 0 0] 42, Obj.cells #[Value.string ⟨#[114]⟩, Value.slice (some ⟨w1.heap.size + 2, 0, none⟩) 1 1] 42, Obj.cells #[Value.string ⟨#[119]⟩, Value.slice none 0 0] 42, Obj.cells #[Value.string ⟨#[117]⟩, Value.slice none 0 0, Value.string ⟨#[118]⟩, Value.slice none 0 0] 42, Obj.cells #[Value.string ⟨#[117]⟩, Value.slice (some ⟨w1.heap.size + 4, 0, none⟩) 1 1] 42, Obj.cells #[Value.slice none 0 0, Value.slice (some ⟨w1.heap.size + 5, 0, none⟩) 2 2, Value.slice (some ⟨w1.heap.size + 6, 0, none⟩) 1 1] 30] w1 3 rfl (by simp) (by decide) (list_one _ w1 2 rfl (by simp) (by decide) (holds_none _ _ _))) (allocs_below _ _) (Below.refl _ _).drew
      · go_simp
        refine hK.out _ _ (by (try simp only [drew_cell]); rw [at_old (by simp <;> omega)]; (try simp only [drew_cell]); rw [at_old (by simp <;> omega)]; (try simp only [drew_cell]); exact at_new (by simp) _ _ _) (fun hS0 => ?_)
        clear hK K
        refine wpAnyH_ready (rs := [6, 12]) (by kernel_rfl) (by simp) (AllReadyH.cons rfl (fun K hK => ?_) (AllReadyH.cons rfl (fun K hK => ?_) AllReadyH.nil))
        · go_simp
          refine hK.out _ _ (by (try simp only [drew_cell]); rw [at_old (by simp <;> omega)]; (try simp only [drew_cell]); rw [at_old (by simp <;> omega)]; (try simp only [drew_cell]); rw [at_old (by simp <;> omega)]; (try simp only [drew_cell]); exact at_new (by simp) _ _ _) (fun hS0 => ?_)
          clear hK K
          refine wpAnyH_ready (rs := [10, 12]) (by kernel_rfl) (by simp) (AllReadyH.cons rfl (fun K hK => ?_) (AllReadyH.cons rfl (fun K hK => ?_) AllReadyH.nil))
          · go_simp
            refine hK.out _ _ (by (try simp only [drew_cell]); rw [at_old (by simp <;> omega)]; (try simp only [drew_cell]); rw [at_old (by simp <;> omega)]; (try simp only [drew_cell]); rw [at_old (by simp <;> omega)]; (try simp only [drew_cell]); rw [at_old (by simp <;> omega)]; (try simp only [drew_cell]); exact at_new (by simp) _ _ _) (fun hS0 => ?_)
            clear hK K
            refine wpAnyH_ready (rs := [12]) (by kernel_rfl) (by simp) (AllReadyH.cons rfl (fun K hK => ?_) AllReadyH.nil)
            go_simp
            (with_reducible refine (HJ3.out _).mono ?_)
            rintro e w6 ⟨rfl, rfl⟩
            refine hK.out _ _ (by (try simp only [drew_cell]); rw [at_old (by simp <;> omega)]; (try simp only [drew_cell]); rw [at_old (by simp <;> omega)]; (try simp only [drew_cell]); rw [at_old (by simp <;> omega)]; (try simp only [drew_cell]); rw [at_old (by simp <;> omega)]; (try simp only [drew_cell]); exact at_new (by simp) _ _ _) (fun hS0 => ?_)
            clear hK K
            refine wpAnyH_take (i := 13) (v := .pointer (some ⟨w1.heap.size + 1 + 1 + 1 + 1 + 1 + 1 + 1, 0, none⟩)) rfl (by kernel_rfl) (by kernel_rfl) (by kernel_rfl) (fun _ _ _ h => h) (Or.inl ⟨by rfl, ?_⟩) hS0 ?_
            · intro w' hSw
              clear hSw
              go_simp
            simp only [List.getElem_toArray, List.getElem_cons_succ, List.getElem_cons_zero, Act.put, List.setIfInBounds_toArray, List.set_cons_zero, List.set_cons_succ]
            refine wpAnyH_ready (rs := [14]) (by kernel_rfl) (by simp) (AllReadyH.cons rfl (fun K hK => ?_) AllReadyH.nil)
            go_simp
            refine hK.out _ _ (by (try simp only [drew_cell]); rw [at_old (by simp <;> omega)]; (try simp only [drew_cell]); rw [at_old (by simp <;> omega)]; (try simp only [drew_cell]); rw [at_old (by simp <;> omega)]; (try simp only [drew_cell]); rw [at_old (by simp <;> omega)]; (try simp only [drew_cell]); exact at_new (by simp) _ _ _) (fun hS0 => ?_)
            clear hK K
            refine wpAnyH_take (i := 15) (v := .pointer (some ⟨w1.heap.size + 1 + 1, 0, none⟩)) rfl (by kernel_rfl) (by kernel_rfl) (by kernel_rfl) (fun _ _ _ h => h) (Or.inl ⟨by rfl, ?_⟩) hS0 ?_
            · intro w' hSw
              clear hSw
              go_simp
            simp only [List.getElem_toArray, List.getElem_cons_succ, List.getElem_cons_zero, Act.put, List.setIfInBounds_toArray, List.set_cons_zero, List.set_cons_succ]
            refine wpAnyH_take (i := 16) (v := .pointer (some ⟨w1.heap.size + 1 + 1, 1, none⟩)) rfl (by kernel_rfl) (by kernel_rfl) (by kernel_rfl) (fun _ _ _ h => h) (Or.inl ⟨by rfl, ?_⟩) hS0 ?_
            · intro w' hSw
              clear hSw
              go_simp
            simp only [List.getElem_toArray, List.getElem_cons_succ, List.getElem_cons_zero, Act.put, List.setIfInBounds_toArray, List.set_cons_zero, List.set_cons_succ]
            refine wpAnyH_ready (rs := [17]) (by kernel_rfl) (by simp) (AllReadyH.cons rfl (fun K hK => ?_) AllReadyH.nil)
            go_simp
            refine hK.out _ _ (by (try simp only [drew_cell]); rw [at_old (by simp <;> omega)]; (try simp only [drew_cell]); rw [at_old (by simp <;> omega)]; (try simp only [drew_cell]); rw [at_old (by simp <;> omega)]; (try simp only [drew_cell]); rw [at_old (by simp <;> omega)]; (try simp only [drew_cell]); exact at_new (by simp) _ _ _) (fun hS0 => ?_)
            clear hK K
            refine wpAnyH_done (by kernel_rfl) ?_ _
            refine NoPanic.normal ?_
            go_wp2_with fail
            go_meet
            exact c13_of fD0 (list_one [(Obj.cells #[Value.string ⟨#[]⟩, Value.string ⟨#[97, 10, 98]⟩, Value.string ⟨#[13]⟩] 9), Obj.cells #[Value.string ⟨#[118]⟩, Value.slice none 0 0] 42, Obj.cells #[Value.string ⟨#[99]⟩, Value.slice none 0 0] 42, Obj.cells #[Value.string ⟨#[114]⟩, Value.slice (some ⟨w1.heap.size + 2, 0, none⟩) 1 1] 42, Obj.cells #[Value.string ⟨#[119]⟩, Value.slice none 0 0] 42, Obj.cells #[Value.string ⟨#[117]⟩, Value.slice (some ⟨w1.heap.size + 4, 0, none⟩) 1 1] 42, Obj.cells #[Value.string ⟨#[117]⟩, Value.slice none 0 0, Value.string ⟨#[118]⟩, Value.slice none 0 0] 42, Obj.cells #[Value.slice none 0 0, Value.slice (some ⟨w1.heap.size + 6, 0, none⟩) 2 2, Value.slice (some ⟨w1.heap.size + 5, 0, none⟩) 1 1] 30] w1 3 rfl (by simp) (by decide) (list_one _ w1 2 rfl (by simp) (by decide) (holds_none _ _ _))) (allocs_below _ _) (Below.refl _ _).drew
          · go_simp
            (with_reducible refine (HJ3.out _).mono ?_)
            rintro e w6 ⟨rfl, rfl⟩
            refine hK.out _ _ (by (try simp only [drew_cell]); rw [at_old (by simp <;> omega)]; (try simp only [drew_cell]); rw [at_old (by simp <;> omega)]; (try simp only [drew_cell]); rw [at_old (by simp <;> omega)]; (try simp only [drew_cell]); exact at_new (by simp) _ _ _) (fun hS0 => ?_)
            clear hK K
            refine wpAnyH_ready (rs := [10]) (by kernel_rfl) (by simp) (AllReadyH.cons rfl (fun K hK => ?_) AllReadyH.nil)
            go_simp
            refine hK.out _ _ (by (try simp only [drew_cell]); rw [at_old (by simp <;> omega)]; (try simp only [drew_cell]); rw [at_old (by simp <;> omega)]; (try simp only [drew_cell]); rw [at_old (by simp <;> omega)]; (try simp only [drew_cell]); rw [at_old (by simp <;> omega)]; (try simp only [drew_cell]); exact at_new (by simp) _ _ _) (fun hS0 => ?_)
            clear hK K
            refine wpAnyH_take (i := 13) (v := .pointer (some ⟨w1.heap.size + 1 + 1 + 1 + 1 + 1 + 1 + 1, 0, none⟩)) rfl (by kernel_rfl) (by kernel_rfl) (by kernel_rfl) (fun _ _ _ h => h) (Or.inl ⟨by rfl, ?_⟩) hS0 ?_
            · intro w' hSw
              clear hSw
              go_simp
            simp only [List.getElem_toArray, List.getElem_cons_succ, List.getElem_cons_zero, Act.put, List.setIfInBounds_toArray, List.set_cons_zero, List.set_cons_succ]
            refine wpAnyH_ready (rs := [14]) (by kernel_rfl) (by simp) (AllReadyH.cons rfl (fun K hK => ?_) AllReadyH.nil)
            go_simp
            refine hK.out _ _ (by (try simp only [drew_cell]); rw [at_old (by simp <;> omega)]; (try simp only [drew_cell]); rw [at_old (by simp <;> omega)]; (try simp only [drew_cell]); rw [at_old (by simp <;> omega)]; (try simp only [drew_cell]); rw [at_old (by simp <;> omega)]; (try simp only [drew_cell]); exact at_new (by simp) _ _ _) (fun hS0 => ?_)
            clear hK K
            refine wpAnyH_take (i := 15) (v := .pointer (some ⟨w1.heap.size + 1 + 1, 0, none⟩)) rfl (by kernel_rfl) (by kernel_rfl) (by kernel_rfl) (fun _ _ _ h => h) (Or.inl ⟨by rfl, ?_⟩) hS0 ?_
            · intro w' hSw
              clear hSw
              go_simp
            simp only [List.getElem_toArray, List.getElem_cons_succ, List.getElem_cons_zero, Act.put, List.setIfInBounds_toArray, List.set_cons_zero, List.set_cons_succ]
            refine wpAnyH_take (i := 16) (v := .pointer (some ⟨w1.heap.size + 1 + 1, 1, none⟩)) rfl (by kernel_rfl) (by kernel_rfl) (by kernel_rfl) (fun _ _ _ h => h) (Or.inl ⟨by rfl, ?_⟩) hS0 ?_
            · intro w' hSw
              clear hSw
              go_simp
            simp only [List.getElem_toArray, List.getElem_cons_succ, List.getElem_cons_zero, Act.put, List.setIfInBounds_toArray, List.set_cons_zero, List.set_cons_succ]
            refine wpAnyH_ready (rs := [17]) (by kernel_rfl) (by simp) (AllReadyH.cons rfl (fun K hK => ?_) AllReadyH.nil)
            go_simp
            refine hK.out _ _ (by (try simp only [drew_cell]); rw [at_old (by simp <;> omega)]; (try simp only [drew_cell]); rw [at_old (by simp <;> omega)]; (try simp only [drew_cell]); rw [at_old (by simp <;> omega)]; (try simp only [drew_cell]); rw [at_old (by simp <;> omega)]; (try simp only [drew_cell]); exact at_new (by simp) _ _ _) (fun hS0 => ?_)
            clear hK K
            refine wpAnyH_done (by kernel_rfl) ?_ _
            refine NoPanic.normal ?_
            go_wp2_with fail
            go_meet
            exact c13_of fD0 (list_one [(Obj.cells #[Value.string ⟨#[]⟩, Value.string ⟨#[97, 10, 98]⟩, Value.string ⟨#[13]⟩] 9), Obj.cells #[Value.string ⟨#[118]⟩, Value.slice none 0 0] 42, Obj.cells #[Value.string ⟨#[99]⟩, Value.slice none 0 0] 42, Obj.cells #[Value.string ⟨#[114]⟩, Value.slice (some ⟨w1.heap.size + 2, 0, none⟩) 1 1] 42, Obj.cells #[Value.string ⟨#[119]⟩, Value.slice none 0 0] 42, Obj.cells #[Value.string ⟨#[117]⟩, Value.slice (some ⟨w1.heap.size + 4, 0, none⟩) 1 1] 42, Obj.cells #[Value.string ⟨#[117]⟩, Value.slice none 0 0, Value.string ⟨#[118]⟩, Value.slice none 0 0] 42, Obj.cells #[Value.slice none 0 0, Value.slice (some ⟨w1.heap.size + 6, 0, none⟩) 2 2, Value.slice (some ⟨w1.heap.size + 5, 0, none⟩) 1 1] 30] w1 3 rfl (by simp) (by decide) (list_one _ w1 2 rfl (by simp) (by decide) (holds_none _ _ _))) (allocs_below _ _) (Below.refl _ _).drew
        · go_simp
          (with_reducible refine (HJ3.out _).mono ?_)
          rintro e w6 ⟨rfl, rfl⟩
          refine hK.out _ _ (by (try simp only [drew_cell]); rw [at_old (by simp <;> omega)]; (try simp only [drew_cell]); rw [at_old (by simp <;> omega)]; (try simp only [drew_cell]); exact at_new (by simp) _ _ _) (fun hS0 => ?_)
          clear hK K
          refine wpAnyH_ready (rs := [6]) (by kernel_rfl) (by simp) (AllReadyH.cons rfl (fun K hK => ?_) AllReadyH.nil)
          go_simp
          refine hK.out _ _ (by (try simp only [drew_cell]); rw [at_old (by simp <;> omega)]; (try simp only [drew_cell]); rw [at_old (by simp <;> omega)]; (try simp only [drew_cell]); rw [at_old (by simp <;> omega)]; (try simp only [drew_cell]); exact at_new (by simp) _ _ _) (fun hS0 => ?_)
          clear hK K
          refine wpAnyH_ready (rs := [10]) (by kernel_rfl) (by simp) (AllReadyH.cons rfl (fun K hK => ?_) AllReadyH.nil)
          go_simp
          refine hK.out _ _ (by (try simp only [drew_cell]); rw [at_old (by simp <;> omega)]; (try simp only [drew_cell]); rw [at_old (by simp <;> omega)]; (try simp only [drew_cell]); rw [at_old (by simp <;> omega)]; (try simp only [drew_cell]); rw [at_old (by simp <;> omega)]; (try simp only [drew_cell]); exact at_new (by simp) _ _ _) (fun hS0 => ?_)
          clear hK K
          refine wpAnyH_take (i := 13) (v := .pointer (some ⟨w1.heap.size + 1 + 1 + 1 + 1 + 1 + 1 + 1, 0, none⟩)) rfl (by kernel_rfl) (by kernel_rfl) (by kernel_rfl) (fun _ _ _ h => h) (Or.inl ⟨by rfl, ?_⟩) hS0 ?_
          · intro w' hSw
            clear hSw
            go_simp
          simp only [List.getElem_toArray, List.getElem_cons_succ, List.getElem_cons_zero, Act.put, List.setIfInBounds_toArray, List.set_cons_zero, List.set_cons_succ]
          refine wpAnyH_ready (rs := [14]) (by kernel_rfl) (by simp) (AllReadyH.cons rfl (fun K hK => ?_) AllReadyH.nil)
          go_simp
          refine hK.out _ _ (by (try simp only [drew_cell]); rw [at_old (by simp <;> omega)]; (try simp only [drew_cell]); rw [at_old (by simp <;> omega)]; (try simp only [drew_cell]); rw [at_old (by simp <;> omega)]; (try simp only [drew_cell]); rw [at_old (by simp <;> omega)]; (try simp only [drew_cell]); exact at_new (by simp) _ _ _) (fun hS0 => ?_)
          clear hK K
          refine wpAnyH_take (i := 15) (v := .pointer (some ⟨w1.heap.size + 1 + 1, 0, none⟩)) rfl (by kernel_rfl) (by kernel_rfl) (by kernel_rfl) (fun _ _ _ h => h) (Or.inl ⟨by rfl, ?_⟩) hS0 ?_
          · intro w' hSw
            clear hSw
            go_simp
          simp only [List.getElem_toArray, List.getElem_cons_succ, List.getElem_cons_zero, Act.put, List.setIfInBounds_toArray, List.set_cons_zero, List.set_cons_succ]
          refine wpAnyH_take (i := 16) (v := .pointer (some ⟨w1.heap.size + 1 + 1, 1, none⟩)) rfl (by kernel_rfl) (by kernel_rfl) (by kernel_rfl) (fun _ _ _ h => h) (Or.inl ⟨by rfl, ?_⟩) hS0 ?_
          · intro w' hSw
            clear hSw
            go_simp
          simp only [List.getElem_toArray, List.getElem_cons_succ, List.getElem_cons_zero, Act.put, List.setIfInBounds_toArray, List.set_cons_zero, List.set_cons_succ]
          refine wpAnyH_ready (rs := [17]) (by kernel_rfl) (by simp) (AllReadyH.cons rfl (fun K hK => ?_) AllReadyH.nil)
          go_simp
          refine hK.out _ _ (by (try simp only [drew_cell]); rw [at_old (by simp <;> omega)]; (try simp only [drew_cell]); rw [at_old (by simp <;> omega)]; (try simp only [drew_cell]); rw [at_old (by simp <;> omega)]; (try simp only [drew_cell]); rw [at_old (by simp <;> omega)]; (try simp only [drew_cell]); exact at_new (by simp) _ _ _) (fun hS0 => ?_)
          clear hK K
          refine wpAnyH_done (by kernel_rfl) ?_ _
          refine NoPanic.normal ?_
          go_wp2_with fail
          go_meet
          exact c13_of fD0 (list_one [(Obj.cells #[Value.string ⟨#[]⟩, Value.string ⟨#[97, 10, 98]⟩, Value.string ⟨#[13]⟩] 9), Obj.cells #[Value.string ⟨#[118]⟩, Value.slice none 0 0] 42, Obj.cells #[Value.string ⟨#[99]⟩, Value.slice none 0 0] 42, Obj.cells #[Value.string ⟨#[114]⟩, Value.slice (some ⟨w1.heap.size + 2, 0, none⟩) 1 1] 42, Obj.cells #[Value.string ⟨#[119]⟩, Value.slice none 0 0] 42, Obj.cells #[Value.string ⟨#[117]⟩, Value.slice (some ⟨w1.heap.size + 4, 0, none⟩) 1 1] 42, Obj.cells #[Value.string ⟨#[117]⟩, Value.slice none 0 0, Value.string ⟨#[118]⟩, Value.slice none 0 0] 42, Obj.cells #[Value.slice none 0 0, Value.slice (some ⟨w1.heap.size + 6, 0, none⟩) 2 2, Value.slice (some ⟨w1.heap.size + 5, 0, none⟩) 1 1] 30] w1 3 rfl (by simp) (by decide) (list_one _ w1 2 rfl (by simp) (by decide) (holds_none _ _ _))) (allocs_below _ _) (Below.refl _ _).drew
      · go_simp
        (with_reducible refine (HJ3.out _).mono ?_)
        rintro e w6 ⟨rfl, rfl⟩
        refine hK.out _ _ (by (try simp only [drew_cell]); rw [at_old (by simp <;> omega)]; (try simp only [drew_cell]); exact at_new (by simp) _ _ _) (fun hS0 => ?_)
        clear hK K
        refine wpAnyH_ready (rs := [6, 9]) (by kernel_rfl) (by simp) (AllReadyH.cons rfl (fun K hK => ?_) (AllReadyH.cons rfl (fun K hK => ?_) AllReadyH.nil))
        · go_simp
          refine hK.out _ _ (by (try simp only [drew_cell]); rw [at_old (by simp <;> omega)]; (try simp only [drew_cell]); rw [at_old (by simp <;> omega)]; (try simp only [drew_cell]); exact at_new (by simp) _ _ _) (fun hS0 => ?_)
          clear hK K
          refine wpAnyH_ready (rs := [9]) (by kernel_rfl) (by simp) (AllReadyH.cons rfl (fun K hK => ?_) AllReadyH.nil)
          go_simp
          refine hK.out _ _ (by (try simp only [drew_cell]); rw [at_old (by simp <;> omega)]; (try simp only [drew_cell]); rw [at_old (by simp <;> omega)]; (try simp only [drew_cell]); rw [at_old (by simp <;> omega)]; (try simp only [drew_cell]); exact at_new (by simp) _ _ _) (fun hS0 => ?_)
          clear hK K
          refine wpAnyH_ready (rs := [10]) (by kernel_rfl) (by simp) (AllReadyH.cons rfl (fun K hK => ?_) AllReadyH.nil)
          go_simp
          refine hK.out _ _ (by (try simp only [drew_cell]); rw [at_old (by simp <;> omega)]; (try simp only [drew_cell]); rw [at_old (by simp <;> omega)]; (try simp only [drew_cell]); rw [at_old (by simp <;> omega)]; (try simp only [drew_cell]); rw [at_old (by simp <;> omega)]; (try simp only [drew_cell]); exact at_new (by simp) _ _ _) (fun hS0 => ?_)
          clear hK K
          refine wpAnyH_take (i := 13) (v := .pointer (some ⟨w1.heap.size + 1 + 1 + 1 + 1 + 1 + 1 + 1, 0, none⟩)) rfl (by kernel_rfl) (by kernel_rfl) (by kernel_rfl) (fun _ _ _ h => h) (Or.inl ⟨by rfl, ?_⟩) hS0 ?_
          · intro w' hSw
            clear hSw
            go_simp
          simp only [List.getElem_toArray, List.getElem_cons_succ, List.getElem_cons_zero, Act.put, List.setIfInBounds_toArray, List.set_cons_zero, List.set_cons_succ]
          refine wpAnyH_ready (rs := [14]) (by kernel_rfl) (by simp) (AllReadyH.cons rfl (fun K hK => ?_) AllReadyH.nil)
          go_simp
          refine hK.out _ _ (by (try simp only [drew_cell]); rw [at_old (by simp <;> omega)]; (try simp only [drew_cell]); rw [at_old (by simp <;> omega)]; (try simp only [drew_cell]); rw [at_old (by simp <;> omega)]; (try simp only [drew_cell]); rw [at_old (by simp <;> omega)]; (try simp only [drew_cell]); exact at_new (by simp) _ _ _) (fun hS0 => ?_)
          clear hK K
          refine wpAnyH_take (i := 15) (v := .pointer (some ⟨w1.heap.size + 1 + 1, 0, none⟩)) rfl (by kernel_rfl) (by kernel_rfl) (by kernel_rfl) (fun _ _ _ h => h) (Or.inl ⟨by rfl, ?_⟩) hS0 ?_
          · intro w' hSw
            clear hSw
            go_simp
          simp only [List.getElem_toArray, List.getElem_cons_succ, List.getElem_cons_zero, Act.put, List.setIfInBounds_toArray, List.set_cons_zero, List.set_cons_succ]
          refine wpAnyH_take (i := 16) (v := .pointer (some ⟨w1.heap.size + 1 + 1, 1, none⟩)) rfl (by kernel_rfl) (by kernel_rfl) (by kernel_rfl) (fun _ _ _ h => h) (Or.inl ⟨by rfl, ?_⟩) hS0 ?_
          · intro w' hSw
            clear hSw
            go_simp
          simp only [List.getElem_toArray, List.getElem_cons_succ, List.getElem_cons_zero, Act.put, List.setIfInBounds_toArray, List.set_cons_zero, List.set_cons_succ]
          refine wpAnyH_ready (rs := [17]) (by kernel_rfl) (by simp) (AllReadyH.cons rfl (fun K hK => ?_) AllReadyH.nil)
          go_simp
          refine hK.out _ _ (by (try simp only [drew_cell]); rw [at_old (by simp <;> omega)]; (try simp only [drew_cell]); rw [at_old (by simp <;> omega)]; (try simp only [drew_cell]); rw [at_old (by simp <;> omega)]; (try simp only [drew_cell]); rw [at_old (by simp <;> omega)]; (try simp only [drew_cell]); exact at_new (by simp) _ _ _) (fun hS0 => ?_)
          clear hK K
          refine wpAnyH_done (by kernel_rfl) ?_ _
          refine NoPanic.normal ?_
          go_wp2_with fail
          go_meet
          exact c13_of fD0 (list_one [(Obj.cells #[Value.string ⟨#[]⟩, Value.string ⟨#[97, 10, 98]⟩, Value.string ⟨#[13]⟩] 9), Obj.cells #[Value.string ⟨#[118]⟩, Value.slice none 0 0] 42, Obj.cells #[Value.string ⟨#[99]⟩, Value.slice none 0 0] 42, Obj.cells #[Value.string ⟨#[114]⟩, Value.slice (some ⟨w1.heap.size + 2, 0, none⟩) 1 1] 42, Obj.cells #[Value.string ⟨#[119]⟩, Value.slice none 0 0] 42, Obj.cells #[Value.string ⟨#[117]⟩, Value.slice none 0 0, Value.string ⟨#[118]⟩, Value.slice none 0 0] 42, Obj.cells #[Value.string ⟨#[117]⟩, Value.slice (some ⟨w1.heap.size + 4, 0, none⟩) 1 1] 42, Obj.cells #[Value.slice none 0 0, Value.slice (some ⟨w1.heap.size + 5, 0, none⟩) 2 2, Value.slice (some ⟨w1.heap.size + 6, 0, none⟩) 1 1] 30] w1 3 rfl (by simp) (by decide) (list_one _ w1 2 rfl (by simp) (by decide) (holds_none _ _ _))) (allocs_below _ _) (Below.refl _ _).drew
        · go_simp
          refine hK.out _ _ (by (try simp only [drew_cell]); rw [at_old (by simp <;> omega)]; (try simp only [drew_cell]); rw [at_old (by simp <;> omega)]; (try simp only [drew_cell]); exact at_new (by simp) _ _ _) (fun hS0 => ?_)
          clear hK K
          refine wpAnyH_ready (rs := [6]) (by kernel_rfl) (by simp) (AllReadyH.cons rfl (fun K hK => ?_) AllReadyH.nil)
          go_simp
          refine hK.out _ _ (by (try simp only [drew_cell]); rw [at_old (by simp <;> omega)]; (try simp only [drew_cell]); rw [at_old (by simp <;> omega)]; (try simp only [drew_cell]); rw [at_old (by simp <;> omega)]; (try simp only [drew_cell]); exact at_new (by simp) _ _ _) (fun hS0 => ?_)
          clear hK K
          refine wpAnyH_ready (rs := [10]) (by kernel_rfl) (by simp) (AllReadyH.cons rfl (fun K hK => ?_) AllReadyH.nil)
          go_simp
          refine hK.out _ _ (by (try simp only [drew_cell]); rw [at_old (by simp <;> omega)]; (try simp only [drew_cell]); rw [at_old (by simp <;> omega)]; (try simp only [drew_cell]); rw [at_old (by simp <;> omega)]; (try simp only [drew_cell]); rw [at_old (by simp <;> omega)]; (try simp only [drew_cell]); exact at_new (by simp) _ _ _) (fun hS0 => ?_)
          clear hK K
          refine wpAnyH_take (i := 13) (v := .pointer (some ⟨w1.heap.size + 1 + 1 + 1 + 1 + 1 + 1 + 1, 0, none⟩)) rfl (by kernel_rfl) (by kernel_rfl) (by kernel_rfl) (fun _ _ _ h => h) (Or.inl ⟨by rfl, ?_⟩) hS0 ?_
          · intro w' hSw
            clear hSw
            go_simp
          simp only [List.getElem_toArray, List.getElem_cons_succ, List.getElem_cons_zero, Act.put, List.setIfInBounds_toArray, List.set_cons_zero, List.set_cons_succ]
          refine wpAnyH_ready (rs := [14]) (by kernel_rfl) (by simp) (AllReadyH.cons rfl (fun K hK => ?_) AllReadyH.nil)
          go_simp
          refine hK.out _ _ (by (try simp only [drew_cell]); rw [at_old (by simp <;> omega)]; (try simp only [drew_cell]); rw [at_old (by simp <;> omega)]; (try simp only [drew_cell]); rw [at_old (by simp <;> omega)]; (try simp only [drew_cell]); rw [at_old (by simp <;> omega)]; (try simp only [drew_cell]); exact at_new (by simp) _ _ _) (fun hS0 => ?_)
          clear hK K
          refine wpAnyH_take (i := 15) (v := .pointer (some ⟨w1.heap.size + 1 + 1, 0, none⟩)) rfl (by kernel_rfl) (by kernel_rfl) (by kernel_rfl) (fun _ _ _ h => h) (Or.inl ⟨by rfl, ?_⟩) hS0 ?_
          · intro w' hSw
            clear hSw
            go_simp
          simp only [List.getElem_toArray, List.getElem_cons_succ, List.getElem_cons_zero, Act.put, List.setIfInBounds_toArray, List.set_cons_zero, List.set_cons_succ]
          refine wpAnyH_take (i := 16) (v := .pointer (some ⟨w1.heap.size + 1 + 1, 1, none⟩)) rfl (by kernel_rfl) (by kernel_rfl) (by kernel_rfl) (fun _ _ _ h => h) (Or.inl ⟨by rfl, ?_⟩) hS0 ?_
          · intro w' hSw
            clear hSw
            go_simp
          simp only [List.getElem_toArray, List.getElem_cons_succ, List.getElem_cons_zero, Act.put, List.setIfInBounds_toArray, List.set_cons_zero, List.set_cons_succ]
          refine wpAnyH_ready (rs := [17]) (by kernel_rfl) (by simp) (AllReadyH.cons rfl (fun K hK => ?_) AllReadyH.nil)
          go_simp
          refine hK.out _ _ (by (try simp only [drew_cell]); rw [at_old (by simp <;> omega)]; (try simp only [drew_cell]); rw [at_old (by simp <;> omega)]; (try simp only [drew_cell]); rw [at_old (by simp <;> omega)]; (try simp only [drew_cell]); rw [at_old (by simp <;> omega)]; (try simp only [drew_cell]); exact at_new (by simp) _ _ _) (fun hS0 => ?_)
          clear hK K
          refine wpAnyH_done (by kernel_rfl) ?_ _
          refine NoPanic.normal ?_
          go_wp2_with fail
          go_meet
          exact c13_of fD0 (list_one [(Obj.cells #[Value.string ⟨#[]⟩, Value.string ⟨#[97, 10, 98]⟩, Value.string ⟨#[13]⟩] 9), Obj.cells #[Value.string ⟨#[118]⟩, Value.slice none 0 0] 42, Obj.cells #[Value.string ⟨#[99]⟩, Value.slice none 0 0] 42, Obj.cells #[Value.string ⟨#[114]⟩, Value.slice (some ⟨w1.heap.size + 2, 0, none⟩) 1 1] 42, Obj.cells #[Value.string ⟨#[119]⟩, Value.slice none 0 0] 42, Obj.cells #[Value.string ⟨#[117]⟩, Value.slice (some ⟨w1.heap.size + 4, 0, none⟩) 1 1] 42, Obj.cells #[Value.string ⟨#[117]⟩, Value.slice none 0 0, Value.string ⟨#[118]⟩, Value.slice none 0 0] 42, Obj.cells #[Value.slice none 0 0, Value.slice (some ⟨w1.heap.size + 6, 0, none⟩) 2 2, Value.slice (some ⟨w1.heap.size + 5, 0, none⟩) 1 1] 30] w1 3 rfl (by simp) (by decide) (list_one _ w1 2 rfl (by simp) (by decide) (holds_none _ _ _))) (allocs_below _ _) (Below.refl _ _).drew
  case rest =>
    obtain ⟨T, hT, hh, hbx⟩ := hcut
    obtain ⟨wx, rfl⟩ : ∃ wx : World, wx = wc := ⟨_, rfl⟩
    have HF := Lib.hid (fit_any hT _ wx hh)
    have HX := Lib.hid hbx
    clear hh hbx hT
    go_wp2_with fail
    (with_reducible refine HF.out.mono ?_)
    rintro e v1 ⟨rfl, f1⟩
    go_wp2_with fail
    (with_reducible refine (HV.out _ _).mono ?_)
    rintro e v2 ⟨rfl, rfl⟩
    have hG := fit_any fG _ _ (lay3_holds v1 v1.heap.size rfl _ _ _)
    unfold lay3 at hG
    have HG := Lib.hid hG
    clear hG
    go_wp2_with fail
    (with_reducible refine HG.out.mono ?_)
    rintro e v3 ⟨rfl, f3⟩
    go_wp2_with fail
    go_ret
    have hl := lay3_below v1 v1.heap.size ⟨#[32, 34, 118, 44]⟩ ⟨#[99]⟩ ⟨#[114]⟩
    exact ⟨rfl, hb1.trans ((HX.out.trans ((f1.trans ((hl.trans (f3.mono hl.size)).mono f1.size)).mono HX.out.size)).mono hb1.size)⟩

end Go.Proofs.YtlojjmmjmpffnaaGreatDoor.Cv
