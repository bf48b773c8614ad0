/- cadenceref3's pick: what is in both sets, in one or both. Conditions: fewer than 2^37 names in each. -/
import Derived.Test.YtagoeededpmdkaaNmPick0
namespace Go.Proofs.Ytagoeededpmdkaa.Nm
open Go.RowKit
set_option maxRecDepth 100000

set_option maxHeartbeats 16000000 in
theorem pick_and (a b : St) (A A2 : Option Addr) (n c n2 c2 : Nat) (w : World) (h : In w a A n) (h2 : In w b A2 n2) (hn : n ≤ 137438953472) (hn2 : n2 ≤ 137438953472) :
    Calls Try.prog 140 #[.agg #[.bool a.all, .slice A n c], .agg #[.bool b.all, .slice A2 n2 c2], .bool true] w (Told (comb (· && ·) (fr a) (fr b)) w) := by
  obtain ⟨x0, hx0⟩ : ∃ x, x = a.all := ⟨_, rfl⟩
  obtain ⟨y0, hy0⟩ : ∃ x, x = b.all := ⟨_, rfl⟩
  have Hx0 := Lib.hid hx0
  have Hy0 := Lib.hid hy0
  have Hin := Lib.hid h
  have Hin2 := Lib.hid h2
  rw [← hx0, ← hy0]
  clear hx0 hy0 h h2
  cases x0 <;> cases y0
  · have HC0 : Hid ((comb (· && ·) (fr a) (fr b)).all = false) := by refine Lib.hid ?_; simp only [comb, fr]; rw [← Hx0.out, ← Hy0.out]; rfl
    have Hf : Hid (∀ y, ((a.mem y && b.mem y) != (a.all && b.all)) = ((a.mem y && b.mem y) != false)) := by
      have := HC0.out
      simp only [comb, fr] at this
      rw [this]
      exact Lib.hid fun y => rfl
    obtain ⟨W1, hW1, g0, g1, g2, g3, gs, gb⟩ := four w (Obj.cells #[Value.bool false, Value.slice A n c] 60) (Obj.cells #[Value.bool false, Value.slice A2 n2 c2] 60) (Obj.cells #[Value.bool false, Value.slice none 0 0] 60) (Obj.cells #[Value.bool false, Value.slice none 0 0] 60)
    have HSA : Hid (∀ W, Below W1.heap.size W1 W → Src Try.prog 1 49 (.slice A n c) n (a.l.map encs) W) := Lib.hid fun W hb => src_strs (((Hin.out.below gb).below hb).sees)
    have HSB : Hid (∀ W, Below W1.heap.size W1 W → Src Try.prog 1 49 (.slice A2 n2 c2) n2 (b.l.map encs) W) := Lib.hid fun W hb => src_strs (((Hin2.out.below gb).below hb).sees)
    have HK := Lib.hid (fun W (hb : Below W1.heap.size W1 W) => have t0 := box2 (Below.box hb g0); have t1 := box2 (Below.box hb g1); (⟨hb, t0.2.1, t1.2.1⟩ : Below W1.heap.size W1 W ∧ W.cell? ⟨w.heap.size, 1, none⟩ = some (.slice A n c) ∧ W.cell? ⟨w.heap.size + 1, 1, none⟩ = some (.slice A2 n2 c2)))
    have hb0 : Below W1.heap.size W1 W1.drew := (Below.refl _ _).drew
    have hbe : Below W1.heap.size W1 (W1.alloc (Obj.cells #[] 9)).drew := ((Below.refl _ _).alloc (Nat.le_refl _) _).drew
    have hoe := own_undrew (row_empty (w := W1) (base := W1.heap.size) (Nat.le_refl _))
    have hse : W1.heap.size ≤ (W1.alloc (Obj.cells #[] 9)).drew.heap.size := hbe.size
    have hgs : w.heap.size + 4 ≤ W1.heap.size := by omega
    clear gs
    have hnn : 0 + n ≤ 1099511627776 := by omega
    have hnn2 : 0 + n + n2 ≤ 1099511627776 := by omega
    go_enter Try.func140, Try.ntmps140
    go_wp2_with fail
    rw [← hW1]
    clear hW1
    go_region_held3 (fun W => Below W1.heap.size W1 W ∧ W.cell? ⟨w.heap.size, 1, none⟩ = some (.slice A n c) ∧ W.cell? ⟨w.heap.size + 1, 1, none⟩ = some (.slice A2 n2 c2))
      (first | exact HK.out _ hb2 | exact HK.out _ hb1 | exact HK.out _ hbe | exact HK.out _ hb0)
      (first
      | (refine step_append_row rfl (.tmp 27) (.tmp 29) _ _ rfl elem_s rfl rfl hoe (HSA.out _ hbe) hnn hse ?_; intro A1 c1 w1 ho1 hg1 hat1; have hb1 : Below W1.heap.size W1 w1 := hbe.grown hg1 hse (fun q hq => (hoe.lt q hq).1))
      | (refine step_append_row rfl (.tmp 30) (.tmp 32) _ _ rfl elem_s rfl rfl ho1 (HSB.out _ hb1) hnn2 hb1.size ?_; intro A3 c3 w2 ho2 hg2 hat2; have hb2 : Below W1.heap.size W1 w2 := hb1.grown hg2 hb1.size (fun q hq => (ho1.lt q hq).1)))
    simp only [Nat.zero_add, List.nil_append] at ho2
    rw [← List.map_append] at ho2
    have hs2 := sees_own ho2
    have hw2 : Below w.heap.size w w2 := gb.trans (hb2.mono (by omega))
    have k0 := Below.box hb2 g0
    have k1 := Below.box hb2 g1
    have k2 := Below.box hb2 g2
    have k3 := Below.box hb2 g3
    have hW2 : w.heap.size + 4 ≤ w2.heap.size := Nat.le_trans hgs hb2.size
    obtain ⟨Z, hZ⟩ : ∃ Z, Z = a.l ++ b.l := ⟨_, rfl⟩
    rw [← hZ] at hs2
    have HZ := Lib.hid hZ
    clear hZ ho1 ho2 hg1 hg2 hat1 hat2 hb1 hb2 HK HSA HSB hb0 hbe hoe hse hnn hnn2 g0 g1 g2 g3
    go_wp2_with fail
    simp only [Nat.zero_add]
    obtain ⟨m, hm⟩ : ∃ m, m = n + n2 := ⟨_, rfl⟩
    rw [← hm] at hs2 ⊢
    have hm2 : m ≤ 274877906944 := by omega
    clear hm
    go_loopw [9] (fun i wr => ∃ (k : Nat) (R : Option Addr) (N cR : Nat) (ys : List (List UInt8)), k ≤ m ∧ N ≤ k ∧ N = ys.length ∧ i = .int .i64 k ∧ Rst (w.heap.size + 1 + 1 + 1) w2.heap.size w2 false R N cR ys wr ∧ Hid (∀ y, y ∈ ys ↔ y ∈ Z.take k ∧ ((a.mem y && b.mem y) != false) = true)) (fun i _ => m - (intOf i).toNat)
    case atStart => exact ⟨0, none, 0, 0, [], Nat.zero_le _, Nat.le_refl _, rfl, rfl, ⟨fun k hk _ => rfl, Nat.le_refl _, rfl, rfl, rfl, k3, ⟨rfl, fun j u h => by simp at h⟩, Nat.le_refl _, .inl ⟨rfl, rfl⟩, List.Pairwise.nil⟩, Lib.hid (by simp)⟩
    case round =>
      obtain ⟨k, R, N, cR, ys, hk, hNk, hN, rfl, hC, H⟩ := hrel
      obtain ⟨q0, q1, _, _⟩ := box2 ((hC.keep w.heap.size (by omega) (by omega)).trans k0)
      obtain ⟨q2, q3, _, _⟩ := box2 ((hC.keep (w.heap.size + 1) (by omega) (by omega)).trans k1)
      obtain ⟨q4, q5, q6, q7⟩ := box2 ((hC.keep (w.heap.size + 1 + 1) (by omega) (by omega)).trans k2)
      obtain ⟨q8, q9, q10, q11⟩ := box2 hC.boxc
      have HN := Lib.hid hN
      have hsz := hC.size
      have hwr : Below w.heap.size w wr := hw2.trans (hC.less (B := w.heap.size) (by omega) (by omega) rfl)
      clear hN
      by_cases hlt : k < m
      · obtain ⟨b3, o3, x, rfl, hb3, hc3, hx3⟩ := nth hs2 hlt
        have hb33 : b3 ≠ w.heap.size + 1 + 1 + 1 := by
          rintro rfl
          exact box2_str k3 (fun x e => by cases e) (fun x e => by cases e) _ hc3
        have hcx : wr.cell? ⟨b3, o3 + k, none⟩ = some (.string x) := (World.cell?_of_block (hC.keep b3 hb3 hb33)).trans hc3
        have hb3r : b3 < wr.heap.size := by omega
        have Hx3 := Lib.hid hx3
        have HC := Lib.hid hC
        have hkn : (k : Int) < (m : Int) := by omega
        have hk0 : (0 : Int) ≤ (k : Int) := by omega
        have hb0 : Below wr.heap.size wr wr.drew := (Below.refl _ _).drew
        have hX : w.heap.size < wr.heap.size := by omega
        have hX1 : w.heap.size + 1 < wr.heap.size := by omega
        have HKr := Lib.hid (fun W (hb : Below wr.heap.size wr W) => (⟨hb, (hb.cell (p := ⟨w.heap.size, 0, none⟩) hX).trans q0, (hb.cell (p := ⟨w.heap.size, 1, none⟩) hX).trans q1, (hb.cell (p := ⟨w.heap.size + 1, 0, none⟩) hX1).trans q2, (hb.cell (p := ⟨w.heap.size + 1, 1, none⟩) hX1).trans q3, (hb.cell (p := ⟨b3, o3 + k, none⟩) hb3r).trans hcx⟩ : Below wr.heap.size wr W ∧ W.cell? ⟨w.heap.size, 0, none⟩ = some (.bool false) ∧ W.cell? ⟨w.heap.size, 1, none⟩ = some (.slice A n c) ∧ W.cell? ⟨w.heap.size + 1, 0, none⟩ = some (.bool false) ∧ W.cell? ⟨w.heap.size + 1, 1, none⟩ = some (.slice A2 n2 c2) ∧ W.cell? ⟨b3, o3 + k, none⟩ = some (.string x)))
        have HA : Hid (∀ W, Below wr.heap.size wr W → Calls Try.prog 88 #[.agg #[.bool false, .slice A n c], .string x] W fun e w' => e = .returned (.bool (a.mem x.data.toList)) ∧ Below wr.heap.size wr w') := by
          refine Lib.hid fun W hb => ?_
          have := rhas_any a A n c x W (Hin.out.below (hwr.trans (hb.mono (by omega)))) (by omega)
          rw [← Hx0.out] at this
          exact this.mono fun e w' h => ⟨h.1, hb.trans (h.2.mono hb.size)⟩
        have HB : Hid (∀ W, Below wr.heap.size wr W → Calls Try.prog 88 #[.agg #[.bool false, .slice A2 n2 c2], .string x] W fun e w' => e = .returned (.bool (b.mem x.data.toList)) ∧ Below wr.heap.size wr w') := by
          refine Lib.hid fun W hb => ?_
          have := rhas_any b A2 n2 c2 x W (Hin2.out.below (hwr.trans (hb.mono (by omega)))) (by omega)
          rw [← Hy0.out] at this
          exact this.mono fun e w' h => ⟨h.1, hb.trans (h.2.mono hb.size)⟩
        clear hx3 hc3 hC hlt
        cases hpa : a.mem x.data.toList <;> cases hpb : b.mem x.data.toList
        · have HA' := HA.out
          have HB' := HB.out
          rw [hpa] at HA'
          rw [hpb] at HB'
          have HA2 := Lib.hid HA'
          have HB2 := Lib.hid HB'
          have Hpa := Lib.hid hpa
          have Hpb := Lib.hid hpb
          clear HA' HB' hpa hpb HA HB
          go_wp2_with fail
          refine wp_region_noPanic (wp_region_held_drew (S := fun W => Below wr.heap.size wr W ∧ W.cell? ⟨w.heap.size, 0, none⟩ = some (.bool false) ∧ W.cell? ⟨w.heap.size, 1, none⟩ = some (.slice A n c) ∧ W.cell? ⟨w.heap.size + 1, 0, none⟩ = some (.bool false) ∧ W.cell? ⟨w.heap.size + 1, 1, none⟩ = some (.slice A2 n2 c2) ∧ W.cell? ⟨b3, o3 + k, none⟩ = some (.string x)) (by kernel_rfl) (HKr.out _ hb0) (fun hS0 => ?_))
          refine wpAnyH_take (i := 0) (v := .agg #[.bool false, .slice A n c]) rfl (by kernel_rfl) (by kernel_rfl) (by kernel_rfl) (fun _ _ _ h => h) (Or.inl ⟨by rfl, ?_⟩) hS0 ?_
          · intro w' hSw
            obtain ⟨_, s0, s1, s2, s3, s4⟩ := hSw
            go_simp
          simp only [List.getElem_toArray, List.getElem_cons_zero, Act.put, List.setIfInBounds_toArray, List.set_cons_zero, List.set_cons_succ]
          refine wpAnyH_take (i := 1) (v := .slice (some ⟨b3, o3, none⟩) m c3) rfl (by kernel_rfl) (by kernel_rfl) (by kernel_rfl) (fun _ _ _ h => h) (Or.inl ⟨by rfl, ?_⟩) hS0 ?_
          · intro w' hSw
            obtain ⟨_, s0, s1, s2, s3, s4⟩ := hSw
            go_simp
          simp only [List.getElem_toArray, List.getElem_cons_succ, List.getElem_cons_zero, Act.put, List.setIfInBounds_toArray, List.set_cons_zero, List.set_cons_succ]
          refine wpAnyH_take (i := 2) (v := .int .i64 k) rfl (by kernel_rfl) (by kernel_rfl) (by kernel_rfl) (fun _ _ _ h => h) (Or.inl ⟨by rfl, ?_⟩) hS0 ?_
          · intro w' hSw
            obtain ⟨_, s0, s1, s2, s3, s4⟩ := hSw
            go_simp
          simp only [List.getElem_toArray, List.getElem_cons_succ, List.getElem_cons_zero, Act.put, List.setIfInBounds_toArray, List.set_cons_zero, List.set_cons_succ]
          refine wpAnyH_take (i := 3) (v := .pointer (some ⟨b3, o3 + k, none⟩)) rfl (by kernel_rfl) (by kernel_rfl) (by kernel_rfl) (fun _ _ _ h => h) (Or.inl ⟨by rfl, ?_⟩) hS0 ?_
          · intro w' hSw
            obtain ⟨_, s0, s1, s2, s3, s4⟩ := hSw
            go_simp
          simp only [List.getElem_toArray, List.getElem_cons_succ, List.getElem_cons_zero, Act.put, List.setIfInBounds_toArray, List.set_cons_zero, List.set_cons_succ]
          refine wpAnyH_take (i := 4) (v := .string x) rfl (by kernel_rfl) (by kernel_rfl) (by kernel_rfl) (fun _ _ _ h => h) (Or.inl ⟨by rfl, ?_⟩) hS0 ?_
          · intro w' hSw
            obtain ⟨_, s0, s1, s2, s3, s4⟩ := hSw
            go_simp
          simp only [List.getElem_toArray, List.getElem_cons_succ, List.getElem_cons_zero, Act.put, List.setIfInBounds_toArray, List.set_cons_zero, List.set_cons_succ]
          refine wpAnyH_ready (rs := [5]) (by kernel_rfl) (by simp) (AllReadyH.cons rfl (fun K hK => ?_) AllReadyH.nil)
          go_simp
          refine (HA2.out _ hb0).mono ?_
          rintro e w11 ⟨rfl, hb11⟩
          refine hK.out _ _ (HKr.out _ hb11) (fun hS0 => ?_)
          clear hK K
          refine wpAnyH_take (i := 6) (v := .bool false) rfl (by kernel_rfl) (by kernel_rfl) (by kernel_rfl) (fun _ _ _ h => h) (Or.inl ⟨by rfl, ?_⟩) hS0 ?_
          · intro w' hSw
            obtain ⟨_, s0, s1, s2, s3, s4⟩ := hSw
            go_simp
          simp only [List.getElem_toArray, List.getElem_cons_succ, List.getElem_cons_zero, Act.put, List.setIfInBounds_toArray, List.set_cons_zero, List.set_cons_succ]
          refine wpAnyH_take (i := 7) (v := undef) rfl (by kernel_rfl) (by kernel_rfl) (by kernel_rfl) (fun _ _ _ h => h) (Or.inr ⟨by rfl, rfl⟩) hS0 ?_
          simp only [List.getElem_toArray, List.getElem_cons_succ, List.getElem_cons_zero, Act.put, List.setIfInBounds_toArray, List.set_cons_zero, List.set_cons_succ]
          refine wpAnyH_take (i := 8) (v := undef) rfl (by kernel_rfl) (by kernel_rfl) (by kernel_rfl) (fun _ _ _ h => h) (Or.inr ⟨by rfl, rfl⟩) hS0 ?_
          simp only [List.getElem_toArray, List.getElem_cons_succ, List.getElem_cons_zero, Act.put, List.setIfInBounds_toArray, List.set_cons_zero, List.set_cons_succ]
          refine wpAnyH_take (i := 9) (v := undef) rfl (by kernel_rfl) (by kernel_rfl) (by kernel_rfl) (fun _ _ _ h => h) (Or.inr ⟨by rfl, rfl⟩) hS0 ?_
          simp only [List.getElem_toArray, List.getElem_cons_succ, List.getElem_cons_zero, Act.put, List.setIfInBounds_toArray, List.set_cons_zero, List.set_cons_succ]
          refine wpAnyH_take (i := 10) (v := undef) rfl (by kernel_rfl) (by kernel_rfl) (by kernel_rfl) (fun _ _ _ h => h) (Or.inr ⟨by rfl, rfl⟩) hS0 ?_
          simp only [List.getElem_toArray, List.getElem_cons_succ, List.getElem_cons_zero, Act.put, List.setIfInBounds_toArray, List.set_cons_zero, List.set_cons_succ]
          refine wpAnyH_take (i := 11) (v := undef) rfl (by kernel_rfl) (by kernel_rfl) (by kernel_rfl) (fun _ _ _ h => h) (Or.inr ⟨by rfl, rfl⟩) hS0 ?_
          simp only [List.getElem_toArray, List.getElem_cons_succ, List.getElem_cons_zero, Act.put, List.setIfInBounds_toArray, List.set_cons_zero, List.set_cons_succ]
          refine wpAnyH_take (i := 12) (v := undef) rfl (by kernel_rfl) (by kernel_rfl) (by kernel_rfl) (fun _ _ _ h => h) (Or.inr ⟨by rfl, rfl⟩) hS0 ?_
          simp only [List.getElem_toArray, List.getElem_cons_succ, List.getElem_cons_zero, Act.put, List.setIfInBounds_toArray, List.set_cons_zero, List.set_cons_succ]
          refine wpAnyH_take (i := 13) (v := .bool false) rfl (by kernel_rfl) (by kernel_rfl) (by kernel_rfl) (fun _ _ _ h => h) (Or.inl ⟨by rfl, ?_⟩) hS0 ?_
          · intro w' hSw
            obtain ⟨_, s0, s1, s2, s3, s4⟩ := hSw
            go_simp
          simp only [List.getElem_toArray, List.getElem_cons_succ, List.getElem_cons_zero, Act.put, List.setIfInBounds_toArray, List.set_cons_zero, List.set_cons_succ]
          refine wpAnyH_take (i := 14) (v := .bool false) rfl (by kernel_rfl) (by kernel_rfl) (by kernel_rfl) (fun _ _ _ h => h) (Or.inl ⟨by rfl, ?_⟩) hS0 ?_
          · intro w' hSw
            obtain ⟨_, s0, s1, s2, s3, s4⟩ := hSw
            go_simp
          simp only [List.getElem_toArray, List.getElem_cons_succ, List.getElem_cons_zero, Act.put, List.setIfInBounds_toArray, List.set_cons_zero, List.set_cons_succ]
          refine wpAnyH_done (by kernel_rfl) ?_ _
          refine NoPanic.normal ?_
          have C2 := HC.out.below hb11
          obtain ⟨r8, r9, r10, r11⟩ := box2 C2.boxc
          have HC2 := Lib.hid C2
          clear C2 q0 q1 q2 q3 q4 q5 q6 q7 q8 q9 q10 q11
          go_wp2_with fail
          go_roundw
          case rel => exact ⟨k + 1, R, N, cR, ys, by omega, by omega, HN.out, by go_num, HC2.out, Lib.hid (fun y => by rw [H.out, mem_take Hx3.out, or_and_right]; exact ⟨.inl, fun g => g.elim id (fun e => by rw [e.1, Hpa.out, Hpb.out] at e; exact absurd e.2 (by decide))⟩)⟩
          case measure => simp [intOf]; omega
        · have HA' := HA.out
          have HB' := HB.out
          rw [hpa] at HA'
          rw [hpb] at HB'
          have HA2 := Lib.hid HA'
          have HB2 := Lib.hid HB'
          have Hpa := Lib.hid hpa
          have Hpb := Lib.hid hpb
          clear HA' HB' hpa hpb HA HB
          go_wp2_with fail
          refine wp_region_noPanic (wp_region_held_drew (S := fun W => Below wr.heap.size wr W ∧ W.cell? ⟨w.heap.size, 0, none⟩ = some (.bool false) ∧ W.cell? ⟨w.heap.size, 1, none⟩ = some (.slice A n c) ∧ W.cell? ⟨w.heap.size + 1, 0, none⟩ = some (.bool false) ∧ W.cell? ⟨w.heap.size + 1, 1, none⟩ = some (.slice A2 n2 c2) ∧ W.cell? ⟨b3, o3 + k, none⟩ = some (.string x)) (by kernel_rfl) (HKr.out _ hb0) (fun hS0 => ?_))
          refine wpAnyH_take (i := 0) (v := .agg #[.bool false, .slice A n c]) rfl (by kernel_rfl) (by kernel_rfl) (by kernel_rfl) (fun _ _ _ h => h) (Or.inl ⟨by rfl, ?_⟩) hS0 ?_
          · intro w' hSw
            obtain ⟨_, s0, s1, s2, s3, s4⟩ := hSw
            go_simp
          simp only [List.getElem_toArray, List.getElem_cons_zero, Act.put, List.setIfInBounds_toArray, List.set_cons_zero, List.set_cons_succ]
          refine wpAnyH_take (i := 1) (v := .slice (some ⟨b3, o3, none⟩) m c3) rfl (by kernel_rfl) (by kernel_rfl) (by kernel_rfl) (fun _ _ _ h => h) (Or.inl ⟨by rfl, ?_⟩) hS0 ?_
          · intro w' hSw
            obtain ⟨_, s0, s1, s2, s3, s4⟩ := hSw
            go_simp
          simp only [List.getElem_toArray, List.getElem_cons_succ, List.getElem_cons_zero, Act.put, List.setIfInBounds_toArray, List.set_cons_zero, List.set_cons_succ]
          refine wpAnyH_take (i := 2) (v := .int .i64 k) rfl (by kernel_rfl) (by kernel_rfl) (by kernel_rfl) (fun _ _ _ h => h) (Or.inl ⟨by rfl, ?_⟩) hS0 ?_
          · intro w' hSw
            obtain ⟨_, s0, s1, s2, s3, s4⟩ := hSw
            go_simp
          simp only [List.getElem_toArray, List.getElem_cons_succ, List.getElem_cons_zero, Act.put, List.setIfInBounds_toArray, List.set_cons_zero, List.set_cons_succ]
          refine wpAnyH_take (i := 3) (v := .pointer (some ⟨b3, o3 + k, none⟩)) rfl (by kernel_rfl) (by kernel_rfl) (by kernel_rfl) (fun _ _ _ h => h) (Or.inl ⟨by rfl, ?_⟩) hS0 ?_
          · intro w' hSw
            obtain ⟨_, s0, s1, s2, s3, s4⟩ := hSw
            go_simp
          simp only [List.getElem_toArray, List.getElem_cons_succ, List.getElem_cons_zero, Act.put, List.setIfInBounds_toArray, List.set_cons_zero, List.set_cons_succ]
          refine wpAnyH_take (i := 4) (v := .string x) rfl (by kernel_rfl) (by kernel_rfl) (by kernel_rfl) (fun _ _ _ h => h) (Or.inl ⟨by rfl, ?_⟩) hS0 ?_
          · intro w' hSw
            obtain ⟨_, s0, s1, s2, s3, s4⟩ := hSw
            go_simp
          simp only [List.getElem_toArray, List.getElem_cons_succ, List.getElem_cons_zero, Act.put, List.setIfInBounds_toArray, List.set_cons_zero, List.set_cons_succ]
          refine wpAnyH_ready (rs := [5]) (by kernel_rfl) (by simp) (AllReadyH.cons rfl (fun K hK => ?_) AllReadyH.nil)
          go_simp
          refine (HA2.out _ hb0).mono ?_
          rintro e w11 ⟨rfl, hb11⟩
          refine hK.out _ _ (HKr.out _ hb11) (fun hS0 => ?_)
          clear hK K
          refine wpAnyH_take (i := 6) (v := .bool false) rfl (by kernel_rfl) (by kernel_rfl) (by kernel_rfl) (fun _ _ _ h => h) (Or.inl ⟨by rfl, ?_⟩) hS0 ?_
          · intro w' hSw
            obtain ⟨_, s0, s1, s2, s3, s4⟩ := hSw
            go_simp
          simp only [List.getElem_toArray, List.getElem_cons_succ, List.getElem_cons_zero, Act.put, List.setIfInBounds_toArray, List.set_cons_zero, List.set_cons_succ]
          refine wpAnyH_take (i := 7) (v := undef) rfl (by kernel_rfl) (by kernel_rfl) (by kernel_rfl) (fun _ _ _ h => h) (Or.inr ⟨by rfl, rfl⟩) hS0 ?_
          simp only [List.getElem_toArray, List.getElem_cons_succ, List.getElem_cons_zero, Act.put, List.setIfInBounds_toArray, List.set_cons_zero, List.set_cons_succ]
          refine wpAnyH_take (i := 8) (v := undef) rfl (by kernel_rfl) (by kernel_rfl) (by kernel_rfl) (fun _ _ _ h => h) (Or.inr ⟨by rfl, rfl⟩) hS0 ?_
          simp only [List.getElem_toArray, List.getElem_cons_succ, List.getElem_cons_zero, Act.put, List.setIfInBounds_toArray, List.set_cons_zero, List.set_cons_succ]
          refine wpAnyH_take (i := 9) (v := undef) rfl (by kernel_rfl) (by kernel_rfl) (by kernel_rfl) (fun _ _ _ h => h) (Or.inr ⟨by rfl, rfl⟩) hS0 ?_
          simp only [List.getElem_toArray, List.getElem_cons_succ, List.getElem_cons_zero, Act.put, List.setIfInBounds_toArray, List.set_cons_zero, List.set_cons_succ]
          refine wpAnyH_take (i := 10) (v := undef) rfl (by kernel_rfl) (by kernel_rfl) (by kernel_rfl) (fun _ _ _ h => h) (Or.inr ⟨by rfl, rfl⟩) hS0 ?_
          simp only [List.getElem_toArray, List.getElem_cons_succ, List.getElem_cons_zero, Act.put, List.setIfInBounds_toArray, List.set_cons_zero, List.set_cons_succ]
          refine wpAnyH_take (i := 11) (v := undef) rfl (by kernel_rfl) (by kernel_rfl) (by kernel_rfl) (fun _ _ _ h => h) (Or.inr ⟨by rfl, rfl⟩) hS0 ?_
          simp only [List.getElem_toArray, List.getElem_cons_succ, List.getElem_cons_zero, Act.put, List.setIfInBounds_toArray, List.set_cons_zero, List.set_cons_succ]
          refine wpAnyH_take (i := 12) (v := undef) rfl (by kernel_rfl) (by kernel_rfl) (by kernel_rfl) (fun _ _ _ h => h) (Or.inr ⟨by rfl, rfl⟩) hS0 ?_
          simp only [List.getElem_toArray, List.getElem_cons_succ, List.getElem_cons_zero, Act.put, List.setIfInBounds_toArray, List.set_cons_zero, List.set_cons_succ]
          refine wpAnyH_take (i := 13) (v := .bool false) rfl (by kernel_rfl) (by kernel_rfl) (by kernel_rfl) (fun _ _ _ h => h) (Or.inl ⟨by rfl, ?_⟩) hS0 ?_
          · intro w' hSw
            obtain ⟨_, s0, s1, s2, s3, s4⟩ := hSw
            go_simp
          simp only [List.getElem_toArray, List.getElem_cons_succ, List.getElem_cons_zero, Act.put, List.setIfInBounds_toArray, List.set_cons_zero, List.set_cons_succ]
          refine wpAnyH_take (i := 14) (v := .bool false) rfl (by kernel_rfl) (by kernel_rfl) (by kernel_rfl) (fun _ _ _ h => h) (Or.inl ⟨by rfl, ?_⟩) hS0 ?_
          · intro w' hSw
            obtain ⟨_, s0, s1, s2, s3, s4⟩ := hSw
            go_simp
          simp only [List.getElem_toArray, List.getElem_cons_succ, List.getElem_cons_zero, Act.put, List.setIfInBounds_toArray, List.set_cons_zero, List.set_cons_succ]
          refine wpAnyH_done (by kernel_rfl) ?_ _
          refine NoPanic.normal ?_
          have C2 := HC.out.below hb11
          obtain ⟨r8, r9, r10, r11⟩ := box2 C2.boxc
          have HC2 := Lib.hid C2
          clear C2 q0 q1 q2 q3 q4 q5 q6 q7 q8 q9 q10 q11
          go_wp2_with fail
          go_roundw
          case rel => exact ⟨k + 1, R, N, cR, ys, by omega, by omega, HN.out, by go_num, HC2.out, Lib.hid (fun y => by rw [H.out, mem_take Hx3.out, or_and_right]; exact ⟨.inl, fun g => g.elim id (fun e => by rw [e.1, Hpa.out, Hpb.out] at e; exact absurd e.2 (by decide))⟩)⟩
          case measure => simp [intOf]; omega
        · have HA' := HA.out
          have HB' := HB.out
          rw [hpa] at HA'
          rw [hpb] at HB'
          have HA2 := Lib.hid HA'
          have HB2 := Lib.hid HB'
          have Hpa := Lib.hid hpa
          have Hpb := Lib.hid hpb
          clear HA' HB' hpa hpb HA HB
          go_wp2_with fail
          refine wp_region_noPanic (wp_region_held_drew (S := fun W => Below wr.heap.size wr W ∧ W.cell? ⟨w.heap.size, 0, none⟩ = some (.bool false) ∧ W.cell? ⟨w.heap.size, 1, none⟩ = some (.slice A n c) ∧ W.cell? ⟨w.heap.size + 1, 0, none⟩ = some (.bool false) ∧ W.cell? ⟨w.heap.size + 1, 1, none⟩ = some (.slice A2 n2 c2) ∧ W.cell? ⟨b3, o3 + k, none⟩ = some (.string x)) (by kernel_rfl) (HKr.out _ hb0) (fun hS0 => ?_))
          refine wpAnyH_take (i := 0) (v := .agg #[.bool false, .slice A n c]) rfl (by kernel_rfl) (by kernel_rfl) (by kernel_rfl) (fun _ _ _ h => h) (Or.inl ⟨by rfl, ?_⟩) hS0 ?_
          · intro w' hSw
            obtain ⟨_, s0, s1, s2, s3, s4⟩ := hSw
            go_simp
          simp only [List.getElem_toArray, List.getElem_cons_zero, Act.put, List.setIfInBounds_toArray, List.set_cons_zero, List.set_cons_succ]
          refine wpAnyH_take (i := 1) (v := .slice (some ⟨b3, o3, none⟩) m c3) rfl (by kernel_rfl) (by kernel_rfl) (by kernel_rfl) (fun _ _ _ h => h) (Or.inl ⟨by rfl, ?_⟩) hS0 ?_
          · intro w' hSw
            obtain ⟨_, s0, s1, s2, s3, s4⟩ := hSw
            go_simp
          simp only [List.getElem_toArray, List.getElem_cons_succ, List.getElem_cons_zero, Act.put, List.setIfInBounds_toArray, List.set_cons_zero, List.set_cons_succ]
          refine wpAnyH_take (i := 2) (v := .int .i64 k) rfl (by kernel_rfl) (by kernel_rfl) (by kernel_rfl) (fun _ _ _ h => h) (Or.inl ⟨by rfl, ?_⟩) hS0 ?_
          · intro w' hSw
            obtain ⟨_, s0, s1, s2, s3, s4⟩ := hSw
            go_simp
          simp only [List.getElem_toArray, List.getElem_cons_succ, List.getElem_cons_zero, Act.put, List.setIfInBounds_toArray, List.set_cons_zero, List.set_cons_succ]
          refine wpAnyH_take (i := 3) (v := .pointer (some ⟨b3, o3 + k, none⟩)) rfl (by kernel_rfl) (by kernel_rfl) (by kernel_rfl) (fun _ _ _ h => h) (Or.inl ⟨by rfl, ?_⟩) hS0 ?_
          · intro w' hSw
            obtain ⟨_, s0, s1, s2, s3, s4⟩ := hSw
            go_simp
          simp only [List.getElem_toArray, List.getElem_cons_succ, List.getElem_cons_zero, Act.put, List.setIfInBounds_toArray, List.set_cons_zero, List.set_cons_succ]
          refine wpAnyH_take (i := 4) (v := .string x) rfl (by kernel_rfl) (by kernel_rfl) (by kernel_rfl) (fun _ _ _ h => h) (Or.inl ⟨by rfl, ?_⟩) hS0 ?_
          · intro w' hSw
            obtain ⟨_, s0, s1, s2, s3, s4⟩ := hSw
            go_simp
          simp only [List.getElem_toArray, List.getElem_cons_succ, List.getElem_cons_zero, Act.put, List.setIfInBounds_toArray, List.set_cons_zero, List.set_cons_succ]
          refine wpAnyH_ready (rs := [5]) (by kernel_rfl) (by simp) (AllReadyH.cons rfl (fun K hK => ?_) AllReadyH.nil)
          go_simp
          refine (HA2.out _ hb0).mono ?_
          rintro e w11 ⟨rfl, hb11⟩
          refine hK.out _ _ (HKr.out _ hb11) (fun hS0 => ?_)
          clear hK K
          refine wpAnyH_take (i := 6) (v := .bool true) rfl (by kernel_rfl) (by kernel_rfl) (by kernel_rfl) (fun _ _ _ h => h) (Or.inl ⟨by rfl, ?_⟩) hS0 ?_
          · intro w' hSw
            obtain ⟨_, s0, s1, s2, s3, s4⟩ := hSw
            go_simp
          simp only [List.getElem_toArray, List.getElem_cons_succ, List.getElem_cons_zero, Act.put, List.setIfInBounds_toArray, List.set_cons_zero, List.set_cons_succ]
          refine wpAnyH_take (i := 7) (v := .agg #[.bool false, .slice A2 n2 c2]) rfl (by kernel_rfl) (by kernel_rfl) (by kernel_rfl) (fun _ _ _ h => h) (Or.inl ⟨by rfl, ?_⟩) hS0 ?_
          · intro w' hSw
            obtain ⟨_, s0, s1, s2, s3, s4⟩ := hSw
            go_simp
          simp only [List.getElem_toArray, List.getElem_cons_succ, List.getElem_cons_zero, Act.put, List.setIfInBounds_toArray, List.set_cons_zero, List.set_cons_succ]
          refine wpAnyH_take (i := 8) (v := .slice (some ⟨b3, o3, none⟩) m c3) rfl (by kernel_rfl) (by kernel_rfl) (by kernel_rfl) (fun _ _ _ h => h) (Or.inl ⟨by rfl, ?_⟩) hS0 ?_
          · intro w' hSw
            obtain ⟨_, s0, s1, s2, s3, s4⟩ := hSw
            go_simp
          simp only [List.getElem_toArray, List.getElem_cons_succ, List.getElem_cons_zero, Act.put, List.setIfInBounds_toArray, List.set_cons_zero, List.set_cons_succ]
          refine wpAnyH_take (i := 9) (v := .int .i64 k) rfl (by kernel_rfl) (by kernel_rfl) (by kernel_rfl) (fun _ _ _ h => h) (Or.inl ⟨by rfl, ?_⟩) hS0 ?_
          · intro w' hSw
            obtain ⟨_, s0, s1, s2, s3, s4⟩ := hSw
            go_simp
          simp only [List.getElem_toArray, List.getElem_cons_succ, List.getElem_cons_zero, Act.put, List.setIfInBounds_toArray, List.set_cons_zero, List.set_cons_succ]
          refine wpAnyH_take (i := 10) (v := .pointer (some ⟨b3, o3 + k, none⟩)) rfl (by kernel_rfl) (by kernel_rfl) (by kernel_rfl) (fun _ _ _ h => h) (Or.inl ⟨by rfl, ?_⟩) hS0 ?_
          · intro w' hSw
            obtain ⟨_, s0, s1, s2, s3, s4⟩ := hSw
            go_simp
          simp only [List.getElem_toArray, List.getElem_cons_succ, List.getElem_cons_zero, Act.put, List.setIfInBounds_toArray, List.set_cons_zero, List.set_cons_succ]
          refine wpAnyH_take (i := 11) (v := .string x) rfl (by kernel_rfl) (by kernel_rfl) (by kernel_rfl) (fun _ _ _ h => h) (Or.inl ⟨by rfl, ?_⟩) hS0 ?_
          · intro w' hSw
            obtain ⟨_, s0, s1, s2, s3, s4⟩ := hSw
            go_simp
          simp only [List.getElem_toArray, List.getElem_cons_succ, List.getElem_cons_zero, Act.put, List.setIfInBounds_toArray, List.set_cons_zero, List.set_cons_succ]
          refine wpAnyH_ready (rs := [12]) (by kernel_rfl) (by simp) (AllReadyH.cons rfl (fun K hK => ?_) AllReadyH.nil)
          go_simp
          refine (HB2.out _ hb11).mono ?_
          rintro e w12 ⟨rfl, hb12⟩
          refine hK.out _ _ (HKr.out _ hb12) (fun hS0 => ?_)
          clear hK K
          refine wpAnyH_take (i := 13) (v := .bool false) rfl (by kernel_rfl) (by kernel_rfl) (by kernel_rfl) (fun _ _ _ h => h) (Or.inl ⟨by rfl, ?_⟩) hS0 ?_
          · intro w' hSw
            obtain ⟨_, s0, s1, s2, s3, s4⟩ := hSw
            go_simp
          simp only [List.getElem_toArray, List.getElem_cons_succ, List.getElem_cons_zero, Act.put, List.setIfInBounds_toArray, List.set_cons_zero, List.set_cons_succ]
          refine wpAnyH_take (i := 14) (v := .bool false) rfl (by kernel_rfl) (by kernel_rfl) (by kernel_rfl) (fun _ _ _ h => h) (Or.inl ⟨by rfl, ?_⟩) hS0 ?_
          · intro w' hSw
            obtain ⟨_, s0, s1, s2, s3, s4⟩ := hSw
            go_simp
          simp only [List.getElem_toArray, List.getElem_cons_succ, List.getElem_cons_zero, Act.put, List.setIfInBounds_toArray, List.set_cons_zero, List.set_cons_succ]
          refine wpAnyH_done (by kernel_rfl) ?_ _
          refine NoPanic.normal ?_
          have C2 := HC.out.below hb12
          obtain ⟨r8, r9, r10, r11⟩ := box2 C2.boxc
          have HC2 := Lib.hid C2
          clear C2 q0 q1 q2 q3 q4 q5 q6 q7 q8 q9 q10 q11
          go_wp2_with fail
          go_roundw
          case rel => exact ⟨k + 1, R, N, cR, ys, by omega, by omega, HN.out, by go_num, HC2.out, Lib.hid (fun y => by rw [H.out, mem_take Hx3.out, or_and_right]; exact ⟨.inl, fun g => g.elim id (fun e => by rw [e.1, Hpa.out, Hpb.out] at e; exact absurd e.2 (by decide))⟩)⟩
          case measure => simp [intOf]; omega
        · have HA' := HA.out
          have HB' := HB.out
          rw [hpa] at HA'
          rw [hpb] at HB'
          have HA2 := Lib.hid HA'
          have HB2 := Lib.hid HB'
          have Hpa := Lib.hid hpa
          have Hpb := Lib.hid hpb
          clear HA' HB' hpa hpb HA HB
          go_wp2_with fail
          refine wp_region_noPanic (wp_region_held_drew (S := fun W => Below wr.heap.size wr W ∧ W.cell? ⟨w.heap.size, 0, none⟩ = some (.bool false) ∧ W.cell? ⟨w.heap.size, 1, none⟩ = some (.slice A n c) ∧ W.cell? ⟨w.heap.size + 1, 0, none⟩ = some (.bool false) ∧ W.cell? ⟨w.heap.size + 1, 1, none⟩ = some (.slice A2 n2 c2) ∧ W.cell? ⟨b3, o3 + k, none⟩ = some (.string x)) (by kernel_rfl) (HKr.out _ hb0) (fun hS0 => ?_))
          refine wpAnyH_take (i := 0) (v := .agg #[.bool false, .slice A n c]) rfl (by kernel_rfl) (by kernel_rfl) (by kernel_rfl) (fun _ _ _ h => h) (Or.inl ⟨by rfl, ?_⟩) hS0 ?_
          · intro w' hSw
            obtain ⟨_, s0, s1, s2, s3, s4⟩ := hSw
            go_simp
          simp only [List.getElem_toArray, List.getElem_cons_zero, Act.put, List.setIfInBounds_toArray, List.set_cons_zero, List.set_cons_succ]
          refine wpAnyH_take (i := 1) (v := .slice (some ⟨b3, o3, none⟩) m c3) rfl (by kernel_rfl) (by kernel_rfl) (by kernel_rfl) (fun _ _ _ h => h) (Or.inl ⟨by rfl, ?_⟩) hS0 ?_
          · intro w' hSw
            obtain ⟨_, s0, s1, s2, s3, s4⟩ := hSw
            go_simp
          simp only [List.getElem_toArray, List.getElem_cons_succ, List.getElem_cons_zero, Act.put, List.setIfInBounds_toArray, List.set_cons_zero, List.set_cons_succ]
          refine wpAnyH_take (i := 2) (v := .int .i64 k) rfl (by kernel_rfl) (by kernel_rfl) (by kernel_rfl) (fun _ _ _ h => h) (Or.inl ⟨by rfl, ?_⟩) hS0 ?_
          · intro w' hSw
            obtain ⟨_, s0, s1, s2, s3, s4⟩ := hSw
            go_simp
          simp only [List.getElem_toArray, List.getElem_cons_succ, List.getElem_cons_zero, Act.put, List.setIfInBounds_toArray, List.set_cons_zero, List.set_cons_succ]
          refine wpAnyH_take (i := 3) (v := .pointer (some ⟨b3, o3 + k, none⟩)) rfl (by kernel_rfl) (by kernel_rfl) (by kernel_rfl) (fun _ _ _ h => h) (Or.inl ⟨by rfl, ?_⟩) hS0 ?_
          · intro w' hSw
            obtain ⟨_, s0, s1, s2, s3, s4⟩ := hSw
            go_simp
          simp only [List.getElem_toArray, List.getElem_cons_succ, List.getElem_cons_zero, Act.put, List.setIfInBounds_toArray, List.set_cons_zero, List.set_cons_succ]
          refine wpAnyH_take (i := 4) (v := .string x) rfl (by kernel_rfl) (by kernel_rfl) (by kernel_rfl) (fun _ _ _ h => h) (Or.inl ⟨by rfl, ?_⟩) hS0 ?_
          · intro w' hSw
            obtain ⟨_, s0, s1, s2, s3, s4⟩ := hSw
            go_simp
          simp only [List.getElem_toArray, List.getElem_cons_succ, List.getElem_cons_zero, Act.put, List.setIfInBounds_toArray, List.set_cons_zero, List.set_cons_succ]
          refine wpAnyH_ready (rs := [5]) (by kernel_rfl) (by simp) (AllReadyH.cons rfl (fun K hK => ?_) AllReadyH.nil)
          go_simp
          refine (HA2.out _ hb0).mono ?_
          rintro e w11 ⟨rfl, hb11⟩
          refine hK.out _ _ (HKr.out _ hb11) (fun hS0 => ?_)
          clear hK K
          refine wpAnyH_take (i := 6) (v := .bool true) rfl (by kernel_rfl) (by kernel_rfl) (by kernel_rfl) (fun _ _ _ h => h) (Or.inl ⟨by rfl, ?_⟩) hS0 ?_
          · intro w' hSw
            obtain ⟨_, s0, s1, s2, s3, s4⟩ := hSw
            go_simp
          simp only [List.getElem_toArray, List.getElem_cons_succ, List.getElem_cons_zero, Act.put, List.setIfInBounds_toArray, List.set_cons_zero, List.set_cons_succ]
          refine wpAnyH_take (i := 7) (v := .agg #[.bool false, .slice A2 n2 c2]) rfl (by kernel_rfl) (by kernel_rfl) (by kernel_rfl) (fun _ _ _ h => h) (Or.inl ⟨by rfl, ?_⟩) hS0 ?_
          · intro w' hSw
            obtain ⟨_, s0, s1, s2, s3, s4⟩ := hSw
            go_simp
          simp only [List.getElem_toArray, List.getElem_cons_succ, List.getElem_cons_zero, Act.put, List.setIfInBounds_toArray, List.set_cons_zero, List.set_cons_succ]
          refine wpAnyH_take (i := 8) (v := .slice (some ⟨b3, o3, none⟩) m c3) rfl (by kernel_rfl) (by kernel_rfl) (by kernel_rfl) (fun _ _ _ h => h) (Or.inl ⟨by rfl, ?_⟩) hS0 ?_
          · intro w' hSw
            obtain ⟨_, s0, s1, s2, s3, s4⟩ := hSw
            go_simp
          simp only [List.getElem_toArray, List.getElem_cons_succ, List.getElem_cons_zero, Act.put, List.setIfInBounds_toArray, List.set_cons_zero, List.set_cons_succ]
          refine wpAnyH_take (i := 9) (v := .int .i64 k) rfl (by kernel_rfl) (by kernel_rfl) (by kernel_rfl) (fun _ _ _ h => h) (Or.inl ⟨by rfl, ?_⟩) hS0 ?_
          · intro w' hSw
            obtain ⟨_, s0, s1, s2, s3, s4⟩ := hSw
            go_simp
          simp only [List.getElem_toArray, List.getElem_cons_succ, List.getElem_cons_zero, Act.put, List.setIfInBounds_toArray, List.set_cons_zero, List.set_cons_succ]
          refine wpAnyH_take (i := 10) (v := .pointer (some ⟨b3, o3 + k, none⟩)) rfl (by kernel_rfl) (by kernel_rfl) (by kernel_rfl) (fun _ _ _ h => h) (Or.inl ⟨by rfl, ?_⟩) hS0 ?_
          · intro w' hSw
            obtain ⟨_, s0, s1, s2, s3, s4⟩ := hSw
            go_simp
          simp only [List.getElem_toArray, List.getElem_cons_succ, List.getElem_cons_zero, Act.put, List.setIfInBounds_toArray, List.set_cons_zero, List.set_cons_succ]
          refine wpAnyH_take (i := 11) (v := .string x) rfl (by kernel_rfl) (by kernel_rfl) (by kernel_rfl) (fun _ _ _ h => h) (Or.inl ⟨by rfl, ?_⟩) hS0 ?_
          · intro w' hSw
            obtain ⟨_, s0, s1, s2, s3, s4⟩ := hSw
            go_simp
          simp only [List.getElem_toArray, List.getElem_cons_succ, List.getElem_cons_zero, Act.put, List.setIfInBounds_toArray, List.set_cons_zero, List.set_cons_succ]
          refine wpAnyH_ready (rs := [12]) (by kernel_rfl) (by simp) (AllReadyH.cons rfl (fun K hK => ?_) AllReadyH.nil)
          go_simp
          refine (HB2.out _ hb11).mono ?_
          rintro e w12 ⟨rfl, hb12⟩
          refine hK.out _ _ (HKr.out _ hb12) (fun hS0 => ?_)
          clear hK K
          refine wpAnyH_take (i := 13) (v := .bool true) rfl (by kernel_rfl) (by kernel_rfl) (by kernel_rfl) (fun _ _ _ h => h) (Or.inl ⟨by rfl, ?_⟩) hS0 ?_
          · intro w' hSw
            obtain ⟨_, s0, s1, s2, s3, s4⟩ := hSw
            go_simp
          simp only [List.getElem_toArray, List.getElem_cons_succ, List.getElem_cons_zero, Act.put, List.setIfInBounds_toArray, List.set_cons_zero, List.set_cons_succ]
          refine wpAnyH_take (i := 14) (v := .bool true) rfl (by kernel_rfl) (by kernel_rfl) (by kernel_rfl) (fun _ _ _ h => h) (Or.inl ⟨by rfl, ?_⟩) hS0 ?_
          · intro w' hSw
            obtain ⟨_, s0, s1, s2, s3, s4⟩ := hSw
            go_simp
          simp only [List.getElem_toArray, List.getElem_cons_succ, List.getElem_cons_zero, Act.put, List.setIfInBounds_toArray, List.set_cons_zero, List.set_cons_succ]
          refine wpAnyH_done (by kernel_rfl) ?_ _
          refine NoPanic.normal ?_
          have C2 := HC.out.below hb12
          obtain ⟨r8, r9, r10, r11⟩ := box2 C2.boxc
          have hcx2 := (hb12.cell (p := ⟨b3, o3 + k, none⟩) hb3r).trans hcx
          have HP := Lib.hid (fun W (hb : Below w12.heap.size w12 W) => put_any ys C2.pair R N cR x W (C2.below hb).seen C2.cap C2.form (by omega))
          have HC2 := Lib.hid C2
          have hb20 : Below w12.heap.size w12 w12.drew := (Below.refl _ _).drew
          clear C2 hcx q0 q1 q2 q3 q4 q5 q6 q7 q8 q9 q10 q11
          go_wp2_with fail
          go_region_with (first
            | (go_at_call 141; (with_reducible refine (HP.out _ hb20).mono ?_); rintro e w4 ⟨A4, c4, zs, rfl, hf4, hs4, hc4, hp4, hm4, hl4, hb4⟩; have hP := HC2.out.put (hb20.trans hb4) hs4 hc4 hf4 hp4; obtain ⟨s6, s7, s8, s9⟩ := box2 hP.1; have HPP := Lib.hid hP.2; have Hm4 := Lib.hid hm4; clear hP hm4))
          all_goals
            go_wp2_with fail
            go_roundw
            case rel => exact ⟨k + 1, A4, _, c4, zs, by omega, by have := HN.out; omega, rfl, by go_num, HPP.out, Lib.hid (fun y => by rw [Hm4.out, H.out, mem_take Hx3.out, or_and_right]; exact ⟨fun g => g.elim (fun e => .inr ⟨e, by rw [e, Hpa.out, Hpb.out]; rfl⟩) .inl, fun g => g.elim .inr (fun e => .inl e.1)⟩)⟩
            case measure => simp [intOf]; omega
      · have hkn : ¬ (k : Int) < (m : Int) := by omega
        have hkn2 : (m : Int) ≤ (k : Int) := by omega
        have HC := Lib.hid hC
        have HW := Lib.hid hwr
        have hbx := (hC.keep (w.heap.size + 1 + 1) (by omega) (by omega)).trans k2
        have hml := hs2.len
        rw [List.length_map] at hml
        have hys : ys = (comb (· && ·) (fr a) (fr b)).l := comb_l (· && ·) a b hC.pair (fun y => by
          have h1 := H.out y
          rw [List.take_of_length_le (by omega), HZ.out, ← Hf.out] at h1
          exact h1)
        have Hys := Lib.hid hys
        have hsee := hC.seen
        clear hC hys hwr hml
        go_wp2_with fail
        refine bodyPost_ret (v := .agg #[.bool false, .slice R N cR]) (by simp [results, Try.results140, go_sem, q4, q5]) rfl ?_
        exact told_put (s := comb (· && ·) (fr a) (fr b)) hbx (by rw [← Hys.out]; exact hsee) (by rw [← Hys.out]; exact HN.out) HW.out (by omega) HC0.out.symm
  · have HC0 : Hid ((comb (· && ·) (fr a) (fr b)).all = false) := by refine Lib.hid ?_; simp only [comb, fr]; rw [← Hx0.out, ← Hy0.out]; rfl
    have Hf : Hid (∀ y, ((a.mem y && b.mem y) != (a.all && b.all)) = ((a.mem y && b.mem y) != false)) := by
      have := HC0.out
      simp only [comb, fr] at this
      rw [this]
      exact Lib.hid fun y => rfl
    obtain ⟨W1, hW1, g0, g1, g2, g3, gs, gb⟩ := four w (Obj.cells #[Value.bool false, Value.slice A n c] 60) (Obj.cells #[Value.bool true, Value.slice A2 n2 c2] 60) (Obj.cells #[Value.bool false, Value.slice none 0 0] 60) (Obj.cells #[Value.bool false, Value.slice none 0 0] 60)
    have HSA : Hid (∀ W, Below W1.heap.size W1 W → Src Try.prog 1 49 (.slice A n c) n (a.l.map encs) W) := Lib.hid fun W hb => src_strs (((Hin.out.below gb).below hb).sees)
    have HSB : Hid (∀ W, Below W1.heap.size W1 W → Src Try.prog 1 49 (.slice A2 n2 c2) n2 (b.l.map encs) W) := Lib.hid fun W hb => src_strs (((Hin2.out.below gb).below hb).sees)
    have HK := Lib.hid (fun W (hb : Below W1.heap.size W1 W) => have t0 := box2 (Below.box hb g0); have t1 := box2 (Below.box hb g1); (⟨hb, t0.2.1, t1.2.1⟩ : Below W1.heap.size W1 W ∧ W.cell? ⟨w.heap.size, 1, none⟩ = some (.slice A n c) ∧ W.cell? ⟨w.heap.size + 1, 1, none⟩ = some (.slice A2 n2 c2)))
    have hb0 : Below W1.heap.size W1 W1.drew := (Below.refl _ _).drew
    have hbe : Below W1.heap.size W1 (W1.alloc (Obj.cells #[] 9)).drew := ((Below.refl _ _).alloc (Nat.le_refl _) _).drew
    have hoe := own_undrew (row_empty (w := W1) (base := W1.heap.size) (Nat.le_refl _))
    have hse : W1.heap.size ≤ (W1.alloc (Obj.cells #[] 9)).drew.heap.size := hbe.size
    have hgs : w.heap.size + 4 ≤ W1.heap.size := by omega
    clear gs
    have hnn : 0 + n ≤ 1099511627776 := by omega
    have hnn2 : 0 + n + n2 ≤ 1099511627776 := by omega
    go_enter Try.func140, Try.ntmps140
    go_wp2_with fail
    rw [← hW1]
    clear hW1
    go_region_held3 (fun W => Below W1.heap.size W1 W ∧ W.cell? ⟨w.heap.size, 1, none⟩ = some (.slice A n c) ∧ W.cell? ⟨w.heap.size + 1, 1, none⟩ = some (.slice A2 n2 c2))
      (first | exact HK.out _ hb2 | exact HK.out _ hb1 | exact HK.out _ hbe | exact HK.out _ hb0)
      (first
      | (refine step_append_row rfl (.tmp 27) (.tmp 29) _ _ rfl elem_s rfl rfl hoe (HSA.out _ hbe) hnn hse ?_; intro A1 c1 w1 ho1 hg1 hat1; have hb1 : Below W1.heap.size W1 w1 := hbe.grown hg1 hse (fun q hq => (hoe.lt q hq).1))
      | (refine step_append_row rfl (.tmp 30) (.tmp 32) _ _ rfl elem_s rfl rfl ho1 (HSB.out _ hb1) hnn2 hb1.size ?_; intro A3 c3 w2 ho2 hg2 hat2; have hb2 : Below W1.heap.size W1 w2 := hb1.grown hg2 hb1.size (fun q hq => (ho1.lt q hq).1)))
    simp only [Nat.zero_add, List.nil_append] at ho2
    rw [← List.map_append] at ho2
    have hs2 := sees_own ho2
    have hw2 : Below w.heap.size w w2 := gb.trans (hb2.mono (by omega))
    have k0 := Below.box hb2 g0
    have k1 := Below.box hb2 g1
    have k2 := Below.box hb2 g2
    have k3 := Below.box hb2 g3
    have hW2 : w.heap.size + 4 ≤ w2.heap.size := Nat.le_trans hgs hb2.size
    obtain ⟨Z, hZ⟩ : ∃ Z, Z = a.l ++ b.l := ⟨_, rfl⟩
    rw [← hZ] at hs2
    have HZ := Lib.hid hZ
    clear hZ ho1 ho2 hg1 hg2 hat1 hat2 hb1 hb2 HK HSA HSB hb0 hbe hoe hse hnn hnn2 g0 g1 g2 g3
    go_wp2_with fail
    simp only [Nat.zero_add]
    obtain ⟨m, hm⟩ : ∃ m, m = n + n2 := ⟨_, rfl⟩
    rw [← hm] at hs2 ⊢
    have hm2 : m ≤ 274877906944 := by omega
    clear hm
    go_loopw [9] (fun i wr => ∃ (k : Nat) (R : Option Addr) (N cR : Nat) (ys : List (List UInt8)), k ≤ m ∧ N ≤ k ∧ N = ys.length ∧ i = .int .i64 k ∧ Rst (w.heap.size + 1 + 1 + 1) w2.heap.size w2 false R N cR ys wr ∧ Hid (∀ y, y ∈ ys ↔ y ∈ Z.take k ∧ ((a.mem y && b.mem y) != false) = true)) (fun i _ => m - (intOf i).toNat)
    case atStart => exact ⟨0, none, 0, 0, [], Nat.zero_le _, Nat.le_refl _, rfl, rfl, ⟨fun k hk _ => rfl, Nat.le_refl _, rfl, rfl, rfl, k3, ⟨rfl, fun j u h => by simp at h⟩, Nat.le_refl _, .inl ⟨rfl, rfl⟩, List.Pairwise.nil⟩, Lib.hid (by simp)⟩
    case round =>
      obtain ⟨k, R, N, cR, ys, hk, hNk, hN, rfl, hC, H⟩ := hrel
      obtain ⟨q0, q1, _, _⟩ := box2 ((hC.keep w.heap.size (by omega) (by omega)).trans k0)
      obtain ⟨q2, q3, _, _⟩ := box2 ((hC.keep (w.heap.size + 1) (by omega) (by omega)).trans k1)
      obtain ⟨q4, q5, q6, q7⟩ := box2 ((hC.keep (w.heap.size + 1 + 1) (by omega) (by omega)).trans k2)
      obtain ⟨q8, q9, q10, q11⟩ := box2 hC.boxc
      have HN := Lib.hid hN
      have hsz := hC.size
      have hwr : Below w.heap.size w wr := hw2.trans (hC.less (B := w.heap.size) (by omega) (by omega) rfl)
      clear hN
      by_cases hlt : k < m
      · obtain ⟨b3, o3, x, rfl, hb3, hc3, hx3⟩ := nth hs2 hlt
        have hb33 : b3 ≠ w.heap.size + 1 + 1 + 1 := by
          rintro rfl
          exact box2_str k3 (fun x e => by cases e) (fun x e => by cases e) _ hc3
        have hcx : wr.cell? ⟨b3, o3 + k, none⟩ = some (.string x) := (World.cell?_of_block (hC.keep b3 hb3 hb33)).trans hc3
        have hb3r : b3 < wr.heap.size := by omega
        have Hx3 := Lib.hid hx3
        have HC := Lib.hid hC
        have hkn : (k : Int) < (m : Int) := by omega
        have hk0 : (0 : Int) ≤ (k : Int) := by omega
        have hb0 : Below wr.heap.size wr wr.drew := (Below.refl _ _).drew
        have hX : w.heap.size < wr.heap.size := by omega
        have hX1 : w.heap.size + 1 < wr.heap.size := by omega
        have HKr := Lib.hid (fun W (hb : Below wr.heap.size wr W) => (⟨hb, (hb.cell (p := ⟨w.heap.size, 0, none⟩) hX).trans q0, (hb.cell (p := ⟨w.heap.size, 1, none⟩) hX).trans q1, (hb.cell (p := ⟨w.heap.size + 1, 0, none⟩) hX1).trans q2, (hb.cell (p := ⟨w.heap.size + 1, 1, none⟩) hX1).trans q3, (hb.cell (p := ⟨b3, o3 + k, none⟩) hb3r).trans hcx⟩ : Below wr.heap.size wr W ∧ W.cell? ⟨w.heap.size, 0, none⟩ = some (.bool false) ∧ W.cell? ⟨w.heap.size, 1, none⟩ = some (.slice A n c) ∧ W.cell? ⟨w.heap.size + 1, 0, none⟩ = some (.bool true) ∧ W.cell? ⟨w.heap.size + 1, 1, none⟩ = some (.slice A2 n2 c2) ∧ W.cell? ⟨b3, o3 + k, none⟩ = some (.string x)))
        have HA : Hid (∀ W, Below wr.heap.size wr W → Calls Try.prog 88 #[.agg #[.bool false, .slice A n c], .string x] W fun e w' => e = .returned (.bool (a.mem x.data.toList)) ∧ Below wr.heap.size wr w') := by
          refine Lib.hid fun W hb => ?_
          have := rhas_any a A n c x W (Hin.out.below (hwr.trans (hb.mono (by omega)))) (by omega)
          rw [← Hx0.out] at this
          exact this.mono fun e w' h => ⟨h.1, hb.trans (h.2.mono hb.size)⟩
        have HB : Hid (∀ W, Below wr.heap.size wr W → Calls Try.prog 88 #[.agg #[.bool true, .slice A2 n2 c2], .string x] W fun e w' => e = .returned (.bool (b.mem x.data.toList)) ∧ Below wr.heap.size wr w') := by
          refine Lib.hid fun W hb => ?_
          have := rhas_any b A2 n2 c2 x W (Hin2.out.below (hwr.trans (hb.mono (by omega)))) (by omega)
          rw [← Hy0.out] at this
          exact this.mono fun e w' h => ⟨h.1, hb.trans (h.2.mono hb.size)⟩
        clear hx3 hc3 hC hlt
        cases hpa : a.mem x.data.toList <;> cases hpb : b.mem x.data.toList
        · have HA' := HA.out
          have HB' := HB.out
          rw [hpa] at HA'
          rw [hpb] at HB'
          have HA2 := Lib.hid HA'
          have HB2 := Lib.hid HB'
          have Hpa := Lib.hid hpa
          have Hpb := Lib.hid hpb
          clear HA' HB' hpa hpb HA HB
          go_wp2_with fail
          refine wp_region_noPanic (wp_region_held_drew (S := fun W => Below wr.heap.size wr W ∧ W.cell? ⟨w.heap.size, 0, none⟩ = some (.bool false) ∧ W.cell? ⟨w.heap.size, 1, none⟩ = some (.slice A n c) ∧ W.cell? ⟨w.heap.size + 1, 0, none⟩ = some (.bool true) ∧ W.cell? ⟨w.heap.size + 1, 1, none⟩ = some (.slice A2 n2 c2) ∧ W.cell? ⟨b3, o3 + k, none⟩ = some (.string x)) (by kernel_rfl) (HKr.out _ hb0) (fun hS0 => ?_))
          refine wpAnyH_take (i := 0) (v := .agg #[.bool false, .slice A n c]) rfl (by kernel_rfl) (by kernel_rfl) (by kernel_rfl) (fun _ _ _ h => h) (Or.inl ⟨by rfl, ?_⟩) hS0 ?_
          · intro w' hSw
            obtain ⟨_, s0, s1, s2, s3, s4⟩ := hSw
            go_simp
          simp only [List.getElem_toArray, List.getElem_cons_zero, Act.put, List.setIfInBounds_toArray, List.set_cons_zero, List.set_cons_succ]
          refine wpAnyH_take (i := 1) (v := .slice (some ⟨b3, o3, none⟩) m c3) rfl (by kernel_rfl) (by kernel_rfl) (by kernel_rfl) (fun _ _ _ h => h) (Or.inl ⟨by rfl, ?_⟩) hS0 ?_
          · intro w' hSw
            obtain ⟨_, s0, s1, s2, s3, s4⟩ := hSw
            go_simp
          simp only [List.getElem_toArray, List.getElem_cons_succ, List.getElem_cons_zero, Act.put, List.setIfInBounds_toArray, List.set_cons_zero, List.set_cons_succ]
          refine wpAnyH_take (i := 2) (v := .int .i64 k) rfl (by kernel_rfl) (by kernel_rfl) (by kernel_rfl) (fun _ _ _ h => h) (Or.inl ⟨by rfl, ?_⟩) hS0 ?_
          · intro w' hSw
            obtain ⟨_, s0, s1, s2, s3, s4⟩ := hSw
            go_simp
          simp only [List.getElem_toArray, List.getElem_cons_succ, List.getElem_cons_zero, Act.put, List.setIfInBounds_toArray, List.set_cons_zero, List.set_cons_succ]
          refine wpAnyH_take (i := 3) (v := .pointer (some ⟨b3, o3 + k, none⟩)) rfl (by kernel_rfl) (by kernel_rfl) (by kernel_rfl) (fun _ _ _ h => h) (Or.inl ⟨by rfl, ?_⟩) hS0 ?_
          · intro w' hSw
            obtain ⟨_, s0, s1, s2, s3, s4⟩ := hSw
            go_simp
          simp only [List.getElem_toArray, List.getElem_cons_succ, List.getElem_cons_zero, Act.put, List.setIfInBounds_toArray, List.set_cons_zero, List.set_cons_succ]
          refine wpAnyH_take (i := 4) (v := .string x) rfl (by kernel_rfl) (by kernel_rfl) (by kernel_rfl) (fun _ _ _ h => h) (Or.inl ⟨by rfl, ?_⟩) hS0 ?_
          · intro w' hSw
            obtain ⟨_, s0, s1, s2, s3, s4⟩ := hSw
            go_simp
          simp only [List.getElem_toArray, List.getElem_cons_succ, List.getElem_cons_zero, Act.put, List.setIfInBounds_toArray, List.set_cons_zero, List.set_cons_succ]
          refine wpAnyH_ready (rs := [5]) (by kernel_rfl) (by simp) (AllReadyH.cons rfl (fun K hK => ?_) AllReadyH.nil)
          go_simp
          refine (HA2.out _ hb0).mono ?_
          rintro e w11 ⟨rfl, hb11⟩
          refine hK.out _ _ (HKr.out _ hb11) (fun hS0 => ?_)
          clear hK K
          refine wpAnyH_take (i := 6) (v := .bool false) rfl (by kernel_rfl) (by kernel_rfl) (by kernel_rfl) (fun _ _ _ h => h) (Or.inl ⟨by rfl, ?_⟩) hS0 ?_
          · intro w' hSw
            obtain ⟨_, s0, s1, s2, s3, s4⟩ := hSw
            go_simp
          simp only [List.getElem_toArray, List.getElem_cons_succ, List.getElem_cons_zero, Act.put, List.setIfInBounds_toArray, List.set_cons_zero, List.set_cons_succ]
          refine wpAnyH_take (i := 7) (v := undef) rfl (by kernel_rfl) (by kernel_rfl) (by kernel_rfl) (fun _ _ _ h => h) (Or.inr ⟨by rfl, rfl⟩) hS0 ?_
          simp only [List.getElem_toArray, List.getElem_cons_succ, List.getElem_cons_zero, Act.put, List.setIfInBounds_toArray, List.set_cons_zero, List.set_cons_succ]
          refine wpAnyH_take (i := 8) (v := undef) rfl (by kernel_rfl) (by kernel_rfl) (by kernel_rfl) (fun _ _ _ h => h) (Or.inr ⟨by rfl, rfl⟩) hS0 ?_
          simp only [List.getElem_toArray, List.getElem_cons_succ, List.getElem_cons_zero, Act.put, List.setIfInBounds_toArray, List.set_cons_zero, List.set_cons_succ]
          refine wpAnyH_take (i := 9) (v := undef) rfl (by kernel_rfl) (by kernel_rfl) (by kernel_rfl) (fun _ _ _ h => h) (Or.inr ⟨by rfl, rfl⟩) hS0 ?_
          simp only [List.getElem_toArray, List.getElem_cons_succ, List.getElem_cons_zero, Act.put, List.setIfInBounds_toArray, List.set_cons_zero, List.set_cons_succ]
          refine wpAnyH_take (i := 10) (v := undef) rfl (by kernel_rfl) (by kernel_rfl) (by kernel_rfl) (fun _ _ _ h => h) (Or.inr ⟨by rfl, rfl⟩) hS0 ?_
          simp only [List.getElem_toArray, List.getElem_cons_succ, List.getElem_cons_zero, Act.put, List.setIfInBounds_toArray, List.set_cons_zero, List.set_cons_succ]
          refine wpAnyH_take (i := 11) (v := undef) rfl (by kernel_rfl) (by kernel_rfl) (by kernel_rfl) (fun _ _ _ h => h) (Or.inr ⟨by rfl, rfl⟩) hS0 ?_
          simp only [List.getElem_toArray, List.getElem_cons_succ, List.getElem_cons_zero, Act.put, List.setIfInBounds_toArray, List.set_cons_zero, List.set_cons_succ]
          refine wpAnyH_take (i := 12) (v := undef) rfl (by kernel_rfl) (by kernel_rfl) (by kernel_rfl) (fun _ _ _ h => h) (Or.inr ⟨by rfl, rfl⟩) hS0 ?_
          simp only [List.getElem_toArray, List.getElem_cons_succ, List.getElem_cons_zero, Act.put, List.setIfInBounds_toArray, List.set_cons_zero, List.set_cons_succ]
          refine wpAnyH_take (i := 13) (v := .bool false) rfl (by kernel_rfl) (by kernel_rfl) (by kernel_rfl) (fun _ _ _ h => h) (Or.inl ⟨by rfl, ?_⟩) hS0 ?_
          · intro w' hSw
            obtain ⟨_, s0, s1, s2, s3, s4⟩ := hSw
            go_simp
          simp only [List.getElem_toArray, List.getElem_cons_succ, List.getElem_cons_zero, Act.put, List.setIfInBounds_toArray, List.set_cons_zero, List.set_cons_succ]
          refine wpAnyH_take (i := 14) (v := .bool false) rfl (by kernel_rfl) (by kernel_rfl) (by kernel_rfl) (fun _ _ _ h => h) (Or.inl ⟨by rfl, ?_⟩) hS0 ?_
          · intro w' hSw
            obtain ⟨_, s0, s1, s2, s3, s4⟩ := hSw
            go_simp
          simp only [List.getElem_toArray, List.getElem_cons_succ, List.getElem_cons_zero, Act.put, List.setIfInBounds_toArray, List.set_cons_zero, List.set_cons_succ]
          refine wpAnyH_done (by kernel_rfl) ?_ _
          refine NoPanic.normal ?_
          have C2 := HC.out.below hb11
          obtain ⟨r8, r9, r10, r11⟩ := box2 C2.boxc
          have HC2 := Lib.hid C2
          clear C2 q0 q1 q2 q3 q4 q5 q6 q7 q8 q9 q10 q11
          go_wp2_with fail
          go_roundw
          case rel => exact ⟨k + 1, R, N, cR, ys, by omega, by omega, HN.out, by go_num, HC2.out, Lib.hid (fun y => by rw [H.out, mem_take Hx3.out, or_and_right]; exact ⟨.inl, fun g => g.elim id (fun e => by rw [e.1, Hpa.out, Hpb.out] at e; exact absurd e.2 (by decide))⟩)⟩
          case measure => simp [intOf]; omega
        · have HA' := HA.out
          have HB' := HB.out
          rw [hpa] at HA'
          rw [hpb] at HB'
          have HA2 := Lib.hid HA'
          have HB2 := Lib.hid HB'
          have Hpa := Lib.hid hpa
          have Hpb := Lib.hid hpb
          clear HA' HB' hpa hpb HA HB
          go_wp2_with fail
          refine wp_region_noPanic (wp_region_held_drew (S := fun W => Below wr.heap.size wr W ∧ W.cell? ⟨w.heap.size, 0, none⟩ = some (.bool false) ∧ W.cell? ⟨w.heap.size, 1, none⟩ = some (.slice A n c) ∧ W.cell? ⟨w.heap.size + 1, 0, none⟩ = some (.bool true) ∧ W.cell? ⟨w.heap.size + 1, 1, none⟩ = some (.slice A2 n2 c2) ∧ W.cell? ⟨b3, o3 + k, none⟩ = some (.string x)) (by kernel_rfl) (HKr.out _ hb0) (fun hS0 => ?_))
          refine wpAnyH_take (i := 0) (v := .agg #[.bool false, .slice A n c]) rfl (by kernel_rfl) (by kernel_rfl) (by kernel_rfl) (fun _ _ _ h => h) (Or.inl ⟨by rfl, ?_⟩) hS0 ?_
          · intro w' hSw
            obtain ⟨_, s0, s1, s2, s3, s4⟩ := hSw
            go_simp
          simp only [List.getElem_toArray, List.getElem_cons_zero, Act.put, List.setIfInBounds_toArray, List.set_cons_zero, List.set_cons_succ]
          refine wpAnyH_take (i := 1) (v := .slice (some ⟨b3, o3, none⟩) m c3) rfl (by kernel_rfl) (by kernel_rfl) (by kernel_rfl) (fun _ _ _ h => h) (Or.inl ⟨by rfl, ?_⟩) hS0 ?_
          · intro w' hSw
            obtain ⟨_, s0, s1, s2, s3, s4⟩ := hSw
            go_simp
          simp only [List.getElem_toArray, List.getElem_cons_succ, List.getElem_cons_zero, Act.put, List.setIfInBounds_toArray, List.set_cons_zero, List.set_cons_succ]
          refine wpAnyH_take (i := 2) (v := .int .i64 k) rfl (by kernel_rfl) (by kernel_rfl) (by kernel_rfl) (fun _ _ _ h => h) (Or.inl ⟨by rfl, ?_⟩) hS0 ?_
          · intro w' hSw
            obtain ⟨_, s0, s1, s2, s3, s4⟩ := hSw
            go_simp
          simp only [List.getElem_toArray, List.getElem_cons_succ, List.getElem_cons_zero, Act.put, List.setIfInBounds_toArray, List.set_cons_zero, List.set_cons_succ]
          refine wpAnyH_take (i := 3) (v := .pointer (some ⟨b3, o3 + k, none⟩)) rfl (by kernel_rfl) (by kernel_rfl) (by kernel_rfl) (fun _ _ _ h => h) (Or.inl ⟨by rfl, ?_⟩) hS0 ?_
          · intro w' hSw
            obtain ⟨_, s0, s1, s2, s3, s4⟩ := hSw
            go_simp
          simp only [List.getElem_toArray, List.getElem_cons_succ, List.getElem_cons_zero, Act.put, List.setIfInBounds_toArray, List.set_cons_zero, List.set_cons_succ]
          refine wpAnyH_take (i := 4) (v := .string x) rfl (by kernel_rfl) (by kernel_rfl) (by kernel_rfl) (fun _ _ _ h => h) (Or.inl ⟨by rfl, ?_⟩) hS0 ?_
          · intro w' hSw
            obtain ⟨_, s0, s1, s2, s3, s4⟩ := hSw
            go_simp
          simp only [List.getElem_toArray, List.getElem_cons_succ, List.getElem_cons_zero, Act.put, List.setIfInBounds_toArray, List.set_cons_zero, List.set_cons_succ]
          refine wpAnyH_ready (rs := [5]) (by kernel_rfl) (by simp) (AllReadyH.cons rfl (fun K hK => ?_) AllReadyH.nil)
          go_simp
          refine (HA2.out _ hb0).mono ?_
          rintro e w11 ⟨rfl, hb11⟩
          refine hK.out _ _ (HKr.out _ hb11) (fun hS0 => ?_)
          clear hK K
          refine wpAnyH_take (i := 6) (v := .bool false) rfl (by kernel_rfl) (by kernel_rfl) (by kernel_rfl) (fun _ _ _ h => h) (Or.inl ⟨by rfl, ?_⟩) hS0 ?_
          · intro w' hSw
            obtain ⟨_, s0, s1, s2, s3, s4⟩ := hSw
            go_simp
          simp only [List.getElem_toArray, List.getElem_cons_succ, List.getElem_cons_zero, Act.put, List.setIfInBounds_toArray, List.set_cons_zero, List.set_cons_succ]
          refine wpAnyH_take (i := 7) (v := undef) rfl (by kernel_rfl) (by kernel_rfl) (by kernel_rfl) (fun _ _ _ h => h) (Or.inr ⟨by rfl, rfl⟩) hS0 ?_
          simp only [List.getElem_toArray, List.getElem_cons_succ, List.getElem_cons_zero, Act.put, List.setIfInBounds_toArray, List.set_cons_zero, List.set_cons_succ]
          refine wpAnyH_take (i := 8) (v := undef) rfl (by kernel_rfl) (by kernel_rfl) (by kernel_rfl) (fun _ _ _ h => h) (Or.inr ⟨by rfl, rfl⟩) hS0 ?_
          simp only [List.getElem_toArray, List.getElem_cons_succ, List.getElem_cons_zero, Act.put, List.setIfInBounds_toArray, List.set_cons_zero, List.set_cons_succ]
          refine wpAnyH_take (i := 9) (v := undef) rfl (by kernel_rfl) (by kernel_rfl) (by kernel_rfl) (fun _ _ _ h => h) (Or.inr ⟨by rfl, rfl⟩) hS0 ?_
          simp only [List.getElem_toArray, List.getElem_cons_succ, List.getElem_cons_zero, Act.put, List.setIfInBounds_toArray, List.set_cons_zero, List.set_cons_succ]
          refine wpAnyH_take (i := 10) (v := undef) rfl (by kernel_rfl) (by kernel_rfl) (by kernel_rfl) (fun _ _ _ h => h) (Or.inr ⟨by rfl, rfl⟩) hS0 ?_
          simp only [List.getElem_toArray, List.getElem_cons_succ, List.getElem_cons_zero, Act.put, List.setIfInBounds_toArray, List.set_cons_zero, List.set_cons_succ]
          refine wpAnyH_take (i := 11) (v := undef) rfl (by kernel_rfl) (by kernel_rfl) (by kernel_rfl) (fun _ _ _ h => h) (Or.inr ⟨by rfl, rfl⟩) hS0 ?_
          simp only [List.getElem_toArray, List.getElem_cons_succ, List.getElem_cons_zero, Act.put, List.setIfInBounds_toArray, List.set_cons_zero, List.set_cons_succ]
          refine wpAnyH_take (i := 12) (v := undef) rfl (by kernel_rfl) (by kernel_rfl) (by kernel_rfl) (fun _ _ _ h => h) (Or.inr ⟨by rfl, rfl⟩) hS0 ?_
          simp only [List.getElem_toArray, List.getElem_cons_succ, List.getElem_cons_zero, Act.put, List.setIfInBounds_toArray, List.set_cons_zero, List.set_cons_succ]
          refine wpAnyH_take (i := 13) (v := .bool false) rfl (by kernel_rfl) (by kernel_rfl) (by kernel_rfl) (fun _ _ _ h => h) (Or.inl ⟨by rfl, ?_⟩) hS0 ?_
          · intro w' hSw
            obtain ⟨_, s0, s1, s2, s3, s4⟩ := hSw
            go_simp
          simp only [List.getElem_toArray, List.getElem_cons_succ, List.getElem_cons_zero, Act.put, List.setIfInBounds_toArray, List.set_cons_zero, List.set_cons_succ]
          refine wpAnyH_take (i := 14) (v := .bool false) rfl (by kernel_rfl) (by kernel_rfl) (by kernel_rfl) (fun _ _ _ h => h) (Or.inl ⟨by rfl, ?_⟩) hS0 ?_
          · intro w' hSw
            obtain ⟨_, s0, s1, s2, s3, s4⟩ := hSw
            go_simp
          simp only [List.getElem_toArray, List.getElem_cons_succ, List.getElem_cons_zero, Act.put, List.setIfInBounds_toArray, List.set_cons_zero, List.set_cons_succ]
          refine wpAnyH_done (by kernel_rfl) ?_ _
          refine NoPanic.normal ?_
          have C2 := HC.out.below hb11
          obtain ⟨r8, r9, r10, r11⟩ := box2 C2.boxc
          have HC2 := Lib.hid C2
          clear C2 q0 q1 q2 q3 q4 q5 q6 q7 q8 q9 q10 q11
          go_wp2_with fail
          go_roundw
          case rel => exact ⟨k + 1, R, N, cR, ys, by omega, by omega, HN.out, by go_num, HC2.out, Lib.hid (fun y => by rw [H.out, mem_take Hx3.out, or_and_right]; exact ⟨.inl, fun g => g.elim id (fun e => by rw [e.1, Hpa.out, Hpb.out] at e; exact absurd e.2 (by decide))⟩)⟩
          case measure => simp [intOf]; omega
        · have HA' := HA.out
          have HB' := HB.out
          rw [hpa] at HA'
          rw [hpb] at HB'
          have HA2 := Lib.hid HA'
          have HB2 := Lib.hid HB'
          have Hpa := Lib.hid hpa
          have Hpb := Lib.hid hpb
          clear HA' HB' hpa hpb HA HB
          go_wp2_with fail
          refine wp_region_noPanic (wp_region_held_drew (S := fun W => Below wr.heap.size wr W ∧ W.cell? ⟨w.heap.size, 0, none⟩ = some (.bool false) ∧ W.cell? ⟨w.heap.size, 1, none⟩ = some (.slice A n c) ∧ W.cell? ⟨w.heap.size + 1, 0, none⟩ = some (.bool true) ∧ W.cell? ⟨w.heap.size + 1, 1, none⟩ = some (.slice A2 n2 c2) ∧ W.cell? ⟨b3, o3 + k, none⟩ = some (.string x)) (by kernel_rfl) (HKr.out _ hb0) (fun hS0 => ?_))
          refine wpAnyH_take (i := 0) (v := .agg #[.bool false, .slice A n c]) rfl (by kernel_rfl) (by kernel_rfl) (by kernel_rfl) (fun _ _ _ h => h) (Or.inl ⟨by rfl, ?_⟩) hS0 ?_
          · intro w' hSw
            obtain ⟨_, s0, s1, s2, s3, s4⟩ := hSw
            go_simp
          simp only [List.getElem_toArray, List.getElem_cons_zero, Act.put, List.setIfInBounds_toArray, List.set_cons_zero, List.set_cons_succ]
          refine wpAnyH_take (i := 1) (v := .slice (some ⟨b3, o3, none⟩) m c3) rfl (by kernel_rfl) (by kernel_rfl) (by kernel_rfl) (fun _ _ _ h => h) (Or.inl ⟨by rfl, ?_⟩) hS0 ?_
          · intro w' hSw
            obtain ⟨_, s0, s1, s2, s3, s4⟩ := hSw
            go_simp
          simp only [List.getElem_toArray, List.getElem_cons_succ, List.getElem_cons_zero, Act.put, List.setIfInBounds_toArray, List.set_cons_zero, List.set_cons_succ]
          refine wpAnyH_take (i := 2) (v := .int .i64 k) rfl (by kernel_rfl) (by kernel_rfl) (by kernel_rfl) (fun _ _ _ h => h) (Or.inl ⟨by rfl, ?_⟩) hS0 ?_
          · intro w' hSw
            obtain ⟨_, s0, s1, s2, s3, s4⟩ := hSw
            go_simp
          simp only [List.getElem_toArray, List.getElem_cons_succ, List.getElem_cons_zero, Act.put, List.setIfInBounds_toArray, List.set_cons_zero, List.set_cons_succ]
          refine wpAnyH_take (i := 3) (v := .pointer (some ⟨b3, o3 + k, none⟩)) rfl (by kernel_rfl) (by kernel_rfl) (by kernel_rfl) (fun _ _ _ h => h) (Or.inl ⟨by rfl, ?_⟩) hS0 ?_
          · intro w' hSw
            obtain ⟨_, s0, s1, s2, s3, s4⟩ := hSw
            go_simp
          simp only [List.getElem_toArray, List.getElem_cons_succ, List.getElem_cons_zero, Act.put, List.setIfInBounds_toArray, List.set_cons_zero, List.set_cons_succ]
          refine wpAnyH_take (i := 4) (v := .string x) rfl (by kernel_rfl) (by kernel_rfl) (by kernel_rfl) (fun _ _ _ h => h) (Or.inl ⟨by rfl, ?_⟩) hS0 ?_
          · intro w' hSw
            obtain ⟨_, s0, s1, s2, s3, s4⟩ := hSw
            go_simp
          simp only [List.getElem_toArray, List.getElem_cons_succ, List.getElem_cons_zero, Act.put, List.setIfInBounds_toArray, List.set_cons_zero, List.set_cons_succ]
          refine wpAnyH_ready (rs := [5]) (by kernel_rfl) (by simp) (AllReadyH.cons rfl (fun K hK => ?_) AllReadyH.nil)
          go_simp
          refine (HA2.out _ hb0).mono ?_
          rintro e w11 ⟨rfl, hb11⟩
          refine hK.out _ _ (HKr.out _ hb11) (fun hS0 => ?_)
          clear hK K
          refine wpAnyH_take (i := 6) (v := .bool true) rfl (by kernel_rfl) (by kernel_rfl) (by kernel_rfl) (fun _ _ _ h => h) (Or.inl ⟨by rfl, ?_⟩) hS0 ?_
          · intro w' hSw
            obtain ⟨_, s0, s1, s2, s3, s4⟩ := hSw
            go_simp
          simp only [List.getElem_toArray, List.getElem_cons_succ, List.getElem_cons_zero, Act.put, List.setIfInBounds_toArray, List.set_cons_zero, List.set_cons_succ]
          refine wpAnyH_take (i := 7) (v := .agg #[.bool true, .slice A2 n2 c2]) rfl (by kernel_rfl) (by kernel_rfl) (by kernel_rfl) (fun _ _ _ h => h) (Or.inl ⟨by rfl, ?_⟩) hS0 ?_
          · intro w' hSw
            obtain ⟨_, s0, s1, s2, s3, s4⟩ := hSw
            go_simp
          simp only [List.getElem_toArray, List.getElem_cons_succ, List.getElem_cons_zero, Act.put, List.setIfInBounds_toArray, List.set_cons_zero, List.set_cons_succ]
          refine wpAnyH_take (i := 8) (v := .slice (some ⟨b3, o3, none⟩) m c3) rfl (by kernel_rfl) (by kernel_rfl) (by kernel_rfl) (fun _ _ _ h => h) (Or.inl ⟨by rfl, ?_⟩) hS0 ?_
          · intro w' hSw
            obtain ⟨_, s0, s1, s2, s3, s4⟩ := hSw
            go_simp
          simp only [List.getElem_toArray, List.getElem_cons_succ, List.getElem_cons_zero, Act.put, List.setIfInBounds_toArray, List.set_cons_zero, List.set_cons_succ]
          refine wpAnyH_take (i := 9) (v := .int .i64 k) rfl (by kernel_rfl) (by kernel_rfl) (by kernel_rfl) (fun _ _ _ h => h) (Or.inl ⟨by rfl, ?_⟩) hS0 ?_
          · intro w' hSw
            obtain ⟨_, s0, s1, s2, s3, s4⟩ := hSw
            go_simp
          simp only [List.getElem_toArray, List.getElem_cons_succ, List.getElem_cons_zero, Act.put, List.setIfInBounds_toArray, List.set_cons_zero, List.set_cons_succ]
          refine wpAnyH_take (i := 10) (v := .pointer (some ⟨b3, o3 + k, none⟩)) rfl (by kernel_rfl) (by kernel_rfl) (by kernel_rfl) (fun _ _ _ h => h) (Or.inl ⟨by rfl, ?_⟩) hS0 ?_
          · intro w' hSw
            obtain ⟨_, s0, s1, s2, s3, s4⟩ := hSw
            go_simp
          simp only [List.getElem_toArray, List.getElem_cons_succ, List.getElem_cons_zero, Act.put, List.setIfInBounds_toArray, List.set_cons_zero, List.set_cons_succ]
          refine wpAnyH_take (i := 11) (v := .string x) rfl (by kernel_rfl) (by kernel_rfl) (by kernel_rfl) (fun _ _ _ h => h) (Or.inl ⟨by rfl, ?_⟩) hS0 ?_
          · intro w' hSw
            obtain ⟨_, s0, s1, s2, s3, s4⟩ := hSw
            go_simp
          simp only [List.getElem_toArray, List.getElem_cons_succ, List.getElem_cons_zero, Act.put, List.setIfInBounds_toArray, List.set_cons_zero, List.set_cons_succ]
          refine wpAnyH_ready (rs := [12]) (by kernel_rfl) (by simp) (AllReadyH.cons rfl (fun K hK => ?_) AllReadyH.nil)
          go_simp
          refine (HB2.out _ hb11).mono ?_
          rintro e w12 ⟨rfl, hb12⟩
          refine hK.out _ _ (HKr.out _ hb12) (fun hS0 => ?_)
          clear hK K
          refine wpAnyH_take (i := 13) (v := .bool false) rfl (by kernel_rfl) (by kernel_rfl) (by kernel_rfl) (fun _ _ _ h => h) (Or.inl ⟨by rfl, ?_⟩) hS0 ?_
          · intro w' hSw
            obtain ⟨_, s0, s1, s2, s3, s4⟩ := hSw
            go_simp
          simp only [List.getElem_toArray, List.getElem_cons_succ, List.getElem_cons_zero, Act.put, List.setIfInBounds_toArray, List.set_cons_zero, List.set_cons_succ]
          refine wpAnyH_take (i := 14) (v := .bool false) rfl (by kernel_rfl) (by kernel_rfl) (by kernel_rfl) (fun _ _ _ h => h) (Or.inl ⟨by rfl, ?_⟩) hS0 ?_
          · intro w' hSw
            obtain ⟨_, s0, s1, s2, s3, s4⟩ := hSw
            go_simp
          simp only [List.getElem_toArray, List.getElem_cons_succ, List.getElem_cons_zero, Act.put, List.setIfInBounds_toArray, List.set_cons_zero, List.set_cons_succ]
          refine wpAnyH_done (by kernel_rfl) ?_ _
          refine NoPanic.normal ?_
          have C2 := HC.out.below hb12
          obtain ⟨r8, r9, r10, r11⟩ := box2 C2.boxc
          have HC2 := Lib.hid C2
          clear C2 q0 q1 q2 q3 q4 q5 q6 q7 q8 q9 q10 q11
          go_wp2_with fail
          go_roundw
          case rel => exact ⟨k + 1, R, N, cR, ys, by omega, by omega, HN.out, by go_num, HC2.out, Lib.hid (fun y => by rw [H.out, mem_take Hx3.out, or_and_right]; exact ⟨.inl, fun g => g.elim id (fun e => by rw [e.1, Hpa.out, Hpb.out] at e; exact absurd e.2 (by decide))⟩)⟩
          case measure => simp [intOf]; omega
        · have HA' := HA.out
          have HB' := HB.out
          rw [hpa] at HA'
          rw [hpb] at HB'
          have HA2 := Lib.hid HA'
          have HB2 := Lib.hid HB'
          have Hpa := Lib.hid hpa
          have Hpb := Lib.hid hpb
          clear HA' HB' hpa hpb HA HB
          go_wp2_with fail
          refine wp_region_noPanic (wp_region_held_drew (S := fun W => Below wr.heap.size wr W ∧ W.cell? ⟨w.heap.size, 0, none⟩ = some (.bool false) ∧ W.cell? ⟨w.heap.size, 1, none⟩ = some (.slice A n c) ∧ W.cell? ⟨w.heap.size + 1, 0, none⟩ = some (.bool true) ∧ W.cell? ⟨w.heap.size + 1, 1, none⟩ = some (.slice A2 n2 c2) ∧ W.cell? ⟨b3, o3 + k, none⟩ = some (.string x)) (by kernel_rfl) (HKr.out _ hb0) (fun hS0 => ?_))
          refine wpAnyH_take (i := 0) (v := .agg #[.bool false, .slice A n c]) rfl (by kernel_rfl) (by kernel_rfl) (by kernel_rfl) (fun _ _ _ h => h) (Or.inl ⟨by rfl, ?_⟩) hS0 ?_
          · intro w' hSw
            obtain ⟨_, s0, s1, s2, s3, s4⟩ := hSw
            go_simp
          simp only [List.getElem_toArray, List.getElem_cons_zero, Act.put, List.setIfInBounds_toArray, List.set_cons_zero, List.set_cons_succ]
          refine wpAnyH_take (i := 1) (v := .slice (some ⟨b3, o3, none⟩) m c3) rfl (by kernel_rfl) (by kernel_rfl) (by kernel_rfl) (fun _ _ _ h => h) (Or.inl ⟨by rfl, ?_⟩) hS0 ?_
          · intro w' hSw
            obtain ⟨_, s0, s1, s2, s3, s4⟩ := hSw
            go_simp
          simp only [List.getElem_toArray, List.getElem_cons_succ, List.getElem_cons_zero, Act.put, List.setIfInBounds_toArray, List.set_cons_zero, List.set_cons_succ]
          refine wpAnyH_take (i := 2) (v := .int .i64 k) rfl (by kernel_rfl) (by kernel_rfl) (by kernel_rfl) (fun _ _ _ h => h) (Or.inl ⟨by rfl, ?_⟩) hS0 ?_
          · intro w' hSw
            obtain ⟨_, s0, s1, s2, s3, s4⟩ := hSw
            go_simp
          simp only [List.getElem_toArray, List.getElem_cons_succ, List.getElem_cons_zero, Act.put, List.setIfInBounds_toArray, List.set_cons_zero, List.set_cons_succ]
          refine wpAnyH_take (i := 3) (v := .pointer (some ⟨b3, o3 + k, none⟩)) rfl (by kernel_rfl) (by kernel_rfl) (by kernel_rfl) (fun _ _ _ h => h) (Or.inl ⟨by rfl, ?_⟩) hS0 ?_
          · intro w' hSw
            obtain ⟨_, s0, s1, s2, s3, s4⟩ := hSw
            go_simp
          simp only [List.getElem_toArray, List.getElem_cons_succ, List.getElem_cons_zero, Act.put, List.setIfInBounds_toArray, List.set_cons_zero, List.set_cons_succ]
          refine wpAnyH_take (i := 4) (v := .string x) rfl (by kernel_rfl) (by kernel_rfl) (by kernel_rfl) (fun _ _ _ h => h) (Or.inl ⟨by rfl, ?_⟩) hS0 ?_
          · intro w' hSw
            obtain ⟨_, s0, s1, s2, s3, s4⟩ := hSw
            go_simp
          simp only [List.getElem_toArray, List.getElem_cons_succ, List.getElem_cons_zero, Act.put, List.setIfInBounds_toArray, List.set_cons_zero, List.set_cons_succ]
          refine wpAnyH_ready (rs := [5]) (by kernel_rfl) (by simp) (AllReadyH.cons rfl (fun K hK => ?_) AllReadyH.nil)
          go_simp
          refine (HA2.out _ hb0).mono ?_
          rintro e w11 ⟨rfl, hb11⟩
          refine hK.out _ _ (HKr.out _ hb11) (fun hS0 => ?_)
          clear hK K
          refine wpAnyH_take (i := 6) (v := .bool true) rfl (by kernel_rfl) (by kernel_rfl) (by kernel_rfl) (fun _ _ _ h => h) (Or.inl ⟨by rfl, ?_⟩) hS0 ?_
          · intro w' hSw
            obtain ⟨_, s0, s1, s2, s3, s4⟩ := hSw
            go_simp
          simp only [List.getElem_toArray, List.getElem_cons_succ, List.getElem_cons_zero, Act.put, List.setIfInBounds_toArray, List.set_cons_zero, List.set_cons_succ]
          refine wpAnyH_take (i := 7) (v := .agg #[.bool true, .slice A2 n2 c2]) rfl (by kernel_rfl) (by kernel_rfl) (by kernel_rfl) (fun _ _ _ h => h) (Or.inl ⟨by rfl, ?_⟩) hS0 ?_
          · intro w' hSw
            obtain ⟨_, s0, s1, s2, s3, s4⟩ := hSw
            go_simp
          simp only [List.getElem_toArray, List.getElem_cons_succ, List.getElem_cons_zero, Act.put, List.setIfInBounds_toArray, List.set_cons_zero, List.set_cons_succ]
          refine wpAnyH_take (i := 8) (v := .slice (some ⟨b3, o3, none⟩) m c3) rfl (by kernel_rfl) (by kernel_rfl) (by kernel_rfl) (fun _ _ _ h => h) (Or.inl ⟨by rfl, ?_⟩) hS0 ?_
          · intro w' hSw
            obtain ⟨_, s0, s1, s2, s3, s4⟩ := hSw
            go_simp
          simp only [List.getElem_toArray, List.getElem_cons_succ, List.getElem_cons_zero, Act.put, List.setIfInBounds_toArray, List.set_cons_zero, List.set_cons_succ]
          refine wpAnyH_take (i := 9) (v := .int .i64 k) rfl (by kernel_rfl) (by kernel_rfl) (by kernel_rfl) (fun _ _ _ h => h) (Or.inl ⟨by rfl, ?_⟩) hS0 ?_
          · intro w' hSw
            obtain ⟨_, s0, s1, s2, s3, s4⟩ := hSw
            go_simp
          simp only [List.getElem_toArray, List.getElem_cons_succ, List.getElem_cons_zero, Act.put, List.setIfInBounds_toArray, List.set_cons_zero, List.set_cons_succ]
          refine wpAnyH_take (i := 10) (v := .pointer (some ⟨b3, o3 + k, none⟩)) rfl (by kernel_rfl) (by kernel_rfl) (by kernel_rfl) (fun _ _ _ h => h) (Or.inl ⟨by rfl, ?_⟩) hS0 ?_
          · intro w' hSw
            obtain ⟨_, s0, s1, s2, s3, s4⟩ := hSw
            go_simp
          simp only [List.getElem_toArray, List.getElem_cons_succ, List.getElem_cons_zero, Act.put, List.setIfInBounds_toArray, List.set_cons_zero, List.set_cons_succ]
          refine wpAnyH_take (i := 11) (v := .string x) rfl (by kernel_rfl) (by kernel_rfl) (by kernel_rfl) (fun _ _ _ h => h) (Or.inl ⟨by rfl, ?_⟩) hS0 ?_
          · intro w' hSw
            obtain ⟨_, s0, s1, s2, s3, s4⟩ := hSw
            go_simp
          simp only [List.getElem_toArray, List.getElem_cons_succ, List.getElem_cons_zero, Act.put, List.setIfInBounds_toArray, List.set_cons_zero, List.set_cons_succ]
          refine wpAnyH_ready (rs := [12]) (by kernel_rfl) (by simp) (AllReadyH.cons rfl (fun K hK => ?_) AllReadyH.nil)
          go_simp
          refine (HB2.out _ hb11).mono ?_
          rintro e w12 ⟨rfl, hb12⟩
          refine hK.out _ _ (HKr.out _ hb12) (fun hS0 => ?_)
          clear hK K
          refine wpAnyH_take (i := 13) (v := .bool true) rfl (by kernel_rfl) (by kernel_rfl) (by kernel_rfl) (fun _ _ _ h => h) (Or.inl ⟨by rfl, ?_⟩) hS0 ?_
          · intro w' hSw
            obtain ⟨_, s0, s1, s2, s3, s4⟩ := hSw
            go_simp
          simp only [List.getElem_toArray, List.getElem_cons_succ, List.getElem_cons_zero, Act.put, List.setIfInBounds_toArray, List.set_cons_zero, List.set_cons_succ]
          refine wpAnyH_take (i := 14) (v := .bool true) rfl (by kernel_rfl) (by kernel_rfl) (by kernel_rfl) (fun _ _ _ h => h) (Or.inl ⟨by rfl, ?_⟩) hS0 ?_
          · intro w' hSw
            obtain ⟨_, s0, s1, s2, s3, s4⟩ := hSw
            go_simp
          simp only [List.getElem_toArray, List.getElem_cons_succ, List.getElem_cons_zero, Act.put, List.setIfInBounds_toArray, List.set_cons_zero, List.set_cons_succ]
          refine wpAnyH_done (by kernel_rfl) ?_ _
          refine NoPanic.normal ?_
          have C2 := HC.out.below hb12
          obtain ⟨r8, r9, r10, r11⟩ := box2 C2.boxc
          have hcx2 := (hb12.cell (p := ⟨b3, o3 + k, none⟩) hb3r).trans hcx
          have HP := Lib.hid (fun W (hb : Below w12.heap.size w12 W) => put_any ys C2.pair R N cR x W (C2.below hb).seen C2.cap C2.form (by omega))
          have HC2 := Lib.hid C2
          have hb20 : Below w12.heap.size w12 w12.drew := (Below.refl _ _).drew
          clear C2 hcx q0 q1 q2 q3 q4 q5 q6 q7 q8 q9 q10 q11
          go_wp2_with fail
          go_region_with (first
            | (go_at_call 141; (with_reducible refine (HP.out _ hb20).mono ?_); rintro e w4 ⟨A4, c4, zs, rfl, hf4, hs4, hc4, hp4, hm4, hl4, hb4⟩; have hP := HC2.out.put (hb20.trans hb4) hs4 hc4 hf4 hp4; obtain ⟨s6, s7, s8, s9⟩ := box2 hP.1; have HPP := Lib.hid hP.2; have Hm4 := Lib.hid hm4; clear hP hm4))
          all_goals
            go_wp2_with fail
            go_roundw
            case rel => exact ⟨k + 1, A4, _, c4, zs, by omega, by have := HN.out; omega, rfl, by go_num, HPP.out, Lib.hid (fun y => by rw [Hm4.out, H.out, mem_take Hx3.out, or_and_right]; exact ⟨fun g => g.elim (fun e => .inr ⟨e, by rw [e, Hpa.out, Hpb.out]; rfl⟩) .inl, fun g => g.elim .inr (fun e => .inl e.1)⟩)⟩
            case measure => simp [intOf]; omega
      · have hkn : ¬ (k : Int) < (m : Int) := by omega
        have hkn2 : (m : Int) ≤ (k : Int) := by omega
        have HC := Lib.hid hC
        have HW := Lib.hid hwr
        have hbx := (hC.keep (w.heap.size + 1 + 1) (by omega) (by omega)).trans k2
        have hml := hs2.len
        rw [List.length_map] at hml
        have hys : ys = (comb (· && ·) (fr a) (fr b)).l := comb_l (· && ·) a b hC.pair (fun y => by
          have h1 := H.out y
          rw [List.take_of_length_le (by omega), HZ.out, ← Hf.out] at h1
          exact h1)
        have Hys := Lib.hid hys
        have hsee := hC.seen
        clear hC hys hwr hml
        go_wp2_with fail
        refine bodyPost_ret (v := .agg #[.bool false, .slice R N cR]) (by simp [results, Try.results140, go_sem, q4, q5]) rfl ?_
        exact told_put (s := comb (· && ·) (fr a) (fr b)) hbx (by rw [← Hys.out]; exact hsee) (by rw [← Hys.out]; exact HN.out) HW.out (by omega) HC0.out.symm
  · have HC0 : Hid ((comb (· && ·) (fr a) (fr b)).all = false) := by refine Lib.hid ?_; simp only [comb, fr]; rw [← Hx0.out, ← Hy0.out]; rfl
    have Hf : Hid (∀ y, ((a.mem y && b.mem y) != (a.all && b.all)) = ((a.mem y && b.mem y) != false)) := by
      have := HC0.out
      simp only [comb, fr] at this
      rw [this]
      exact Lib.hid fun y => rfl
    obtain ⟨W1, hW1, g0, g1, g2, g3, gs, gb⟩ := four w (Obj.cells #[Value.bool true, Value.slice A n c] 60) (Obj.cells #[Value.bool false, Value.slice A2 n2 c2] 60) (Obj.cells #[Value.bool false, Value.slice none 0 0] 60) (Obj.cells #[Value.bool false, Value.slice none 0 0] 60)
    have HSA : Hid (∀ W, Below W1.heap.size W1 W → Src Try.prog 1 49 (.slice A n c) n (a.l.map encs) W) := Lib.hid fun W hb => src_strs (((Hin.out.below gb).below hb).sees)
    have HSB : Hid (∀ W, Below W1.heap.size W1 W → Src Try.prog 1 49 (.slice A2 n2 c2) n2 (b.l.map encs) W) := Lib.hid fun W hb => src_strs (((Hin2.out.below gb).below hb).sees)
    have HK := Lib.hid (fun W (hb : Below W1.heap.size W1 W) => have t0 := box2 (Below.box hb g0); have t1 := box2 (Below.box hb g1); (⟨hb, t0.2.1, t1.2.1⟩ : Below W1.heap.size W1 W ∧ W.cell? ⟨w.heap.size, 1, none⟩ = some (.slice A n c) ∧ W.cell? ⟨w.heap.size + 1, 1, none⟩ = some (.slice A2 n2 c2)))
    have hb0 : Below W1.heap.size W1 W1.drew := (Below.refl _ _).drew
    have hbe : Below W1.heap.size W1 (W1.alloc (Obj.cells #[] 9)).drew := ((Below.refl _ _).alloc (Nat.le_refl _) _).drew
    have hoe := own_undrew (row_empty (w := W1) (base := W1.heap.size) (Nat.le_refl _))
    have hse : W1.heap.size ≤ (W1.alloc (Obj.cells #[] 9)).drew.heap.size := hbe.size
    have hgs : w.heap.size + 4 ≤ W1.heap.size := by omega
    clear gs
    have hnn : 0 + n ≤ 1099511627776 := by omega
    have hnn2 : 0 + n + n2 ≤ 1099511627776 := by omega
    go_enter Try.func140, Try.ntmps140
    go_wp2_with fail
    rw [← hW1]
    clear hW1
    go_region_held3 (fun W => Below W1.heap.size W1 W ∧ W.cell? ⟨w.heap.size, 1, none⟩ = some (.slice A n c) ∧ W.cell? ⟨w.heap.size + 1, 1, none⟩ = some (.slice A2 n2 c2))
      (first | exact HK.out _ hb2 | exact HK.out _ hb1 | exact HK.out _ hbe | exact HK.out _ hb0)
      (first
      | (refine step_append_row rfl (.tmp 27) (.tmp 29) _ _ rfl elem_s rfl rfl hoe (HSA.out _ hbe) hnn hse ?_; intro A1 c1 w1 ho1 hg1 hat1; have hb1 : Below W1.heap.size W1 w1 := hbe.grown hg1 hse (fun q hq => (hoe.lt q hq).1))
      | (refine step_append_row rfl (.tmp 30) (.tmp 32) _ _ rfl elem_s rfl rfl ho1 (HSB.out _ hb1) hnn2 hb1.size ?_; intro A3 c3 w2 ho2 hg2 hat2; have hb2 : Below W1.heap.size W1 w2 := hb1.grown hg2 hb1.size (fun q hq => (ho1.lt q hq).1)))
    simp only [Nat.zero_add, List.nil_append] at ho2
    rw [← List.map_append] at ho2
    have hs2 := sees_own ho2
    have hw2 : Below w.heap.size w w2 := gb.trans (hb2.mono (by omega))
    have k0 := Below.box hb2 g0
    have k1 := Below.box hb2 g1
    have k2 := Below.box hb2 g2
    have k3 := Below.box hb2 g3
    have hW2 : w.heap.size + 4 ≤ w2.heap.size := Nat.le_trans hgs hb2.size
    obtain ⟨Z, hZ⟩ : ∃ Z, Z = a.l ++ b.l := ⟨_, rfl⟩
    rw [← hZ] at hs2
    have HZ := Lib.hid hZ
    clear hZ ho1 ho2 hg1 hg2 hat1 hat2 hb1 hb2 HK HSA HSB hb0 hbe hoe hse hnn hnn2 g0 g1 g2 g3
    go_wp2_with fail
    simp only [Nat.zero_add]
    obtain ⟨m, hm⟩ : ∃ m, m = n + n2 := ⟨_, rfl⟩
    rw [← hm] at hs2 ⊢
    have hm2 : m ≤ 274877906944 := by omega
    clear hm
    go_loopw [9] (fun i wr => ∃ (k : Nat) (R : Option Addr) (N cR : Nat) (ys : List (List UInt8)), k ≤ m ∧ N ≤ k ∧ N = ys.length ∧ i = .int .i64 k ∧ Rst (w.heap.size + 1 + 1 + 1) w2.heap.size w2 false R N cR ys wr ∧ Hid (∀ y, y ∈ ys ↔ y ∈ Z.take k ∧ ((a.mem y && b.mem y) != false) = true)) (fun i _ => m - (intOf i).toNat)
    case atStart => exact ⟨0, none, 0, 0, [], Nat.zero_le _, Nat.le_refl _, rfl, rfl, ⟨fun k hk _ => rfl, Nat.le_refl _, rfl, rfl, rfl, k3, ⟨rfl, fun j u h => by simp at h⟩, Nat.le_refl _, .inl ⟨rfl, rfl⟩, List.Pairwise.nil⟩, Lib.hid (by simp)⟩
    case round =>
      obtain ⟨k, R, N, cR, ys, hk, hNk, hN, rfl, hC, H⟩ := hrel
      obtain ⟨q0, q1, _, _⟩ := box2 ((hC.keep w.heap.size (by omega) (by omega)).trans k0)
      obtain ⟨q2, q3, _, _⟩ := box2 ((hC.keep (w.heap.size + 1) (by omega) (by omega)).trans k1)
      obtain ⟨q4, q5, q6, q7⟩ := box2 ((hC.keep (w.heap.size + 1 + 1) (by omega) (by omega)).trans k2)
      obtain ⟨q8, q9, q10, q11⟩ := box2 hC.boxc
      have HN := Lib.hid hN
      have hsz := hC.size
      have hwr : Below w.heap.size w wr := hw2.trans (hC.less (B := w.heap.size) (by omega) (by omega) rfl)
      clear hN
      by_cases hlt : k < m
      · obtain ⟨b3, o3, x, rfl, hb3, hc3, hx3⟩ := nth hs2 hlt
        have hb33 : b3 ≠ w.heap.size + 1 + 1 + 1 := by
          rintro rfl
          exact box2_str k3 (fun x e => by cases e) (fun x e => by cases e) _ hc3
        have hcx : wr.cell? ⟨b3, o3 + k, none⟩ = some (.string x) := (World.cell?_of_block (hC.keep b3 hb3 hb33)).trans hc3
        have hb3r : b3 < wr.heap.size := by omega
        have Hx3 := Lib.hid hx3
        have HC := Lib.hid hC
        have hkn : (k : Int) < (m : Int) := by omega
        have hk0 : (0 : Int) ≤ (k : Int) := by omega
        have hb0 : Below wr.heap.size wr wr.drew := (Below.refl _ _).drew
        have hX : w.heap.size < wr.heap.size := by omega
        have hX1 : w.heap.size + 1 < wr.heap.size := by omega
        have HKr := Lib.hid (fun W (hb : Below wr.heap.size wr W) => (⟨hb, (hb.cell (p := ⟨w.heap.size, 0, none⟩) hX).trans q0, (hb.cell (p := ⟨w.heap.size, 1, none⟩) hX).trans q1, (hb.cell (p := ⟨w.heap.size + 1, 0, none⟩) hX1).trans q2, (hb.cell (p := ⟨w.heap.size + 1, 1, none⟩) hX1).trans q3, (hb.cell (p := ⟨b3, o3 + k, none⟩) hb3r).trans hcx⟩ : Below wr.heap.size wr W ∧ W.cell? ⟨w.heap.size, 0, none⟩ = some (.bool true) ∧ W.cell? ⟨w.heap.size, 1, none⟩ = some (.slice A n c) ∧ W.cell? ⟨w.heap.size + 1, 0, none⟩ = some (.bool false) ∧ W.cell? ⟨w.heap.size + 1, 1, none⟩ = some (.slice A2 n2 c2) ∧ W.cell? ⟨b3, o3 + k, none⟩ = some (.string x)))
        have HA : Hid (∀ W, Below wr.heap.size wr W → Calls Try.prog 88 #[.agg #[.bool true, .slice A n c], .string x] W fun e w' => e = .returned (.bool (a.mem x.data.toList)) ∧ Below wr.heap.size wr w') := by
          refine Lib.hid fun W hb => ?_
          have := rhas_any a A n c x W (Hin.out.below (hwr.trans (hb.mono (by omega)))) (by omega)
          rw [← Hx0.out] at this
          exact this.mono fun e w' h => ⟨h.1, hb.trans (h.2.mono hb.size)⟩
        have HB : Hid (∀ W, Below wr.heap.size wr W → Calls Try.prog 88 #[.agg #[.bool false, .slice A2 n2 c2], .string x] W fun e w' => e = .returned (.bool (b.mem x.data.toList)) ∧ Below wr.heap.size wr w') := by
          refine Lib.hid fun W hb => ?_
          have := rhas_any b A2 n2 c2 x W (Hin2.out.below (hwr.trans (hb.mono (by omega)))) (by omega)
          rw [← Hy0.out] at this
          exact this.mono fun e w' h => ⟨h.1, hb.trans (h.2.mono hb.size)⟩
        clear hx3 hc3 hC hlt
        cases hpa : a.mem x.data.toList <;> cases hpb : b.mem x.data.toList
        · have HA' := HA.out
          have HB' := HB.out
          rw [hpa] at HA'
          rw [hpb] at HB'
          have HA2 := Lib.hid HA'
          have HB2 := Lib.hid HB'
          have Hpa := Lib.hid hpa
          have Hpb := Lib.hid hpb
          clear HA' HB' hpa hpb HA HB
          go_wp2_with fail
          refine wp_region_noPanic (wp_region_held_drew (S := fun W => Below wr.heap.size wr W ∧ W.cell? ⟨w.heap.size, 0, none⟩ = some (.bool true) ∧ W.cell? ⟨w.heap.size, 1, none⟩ = some (.slice A n c) ∧ W.cell? ⟨w.heap.size + 1, 0, none⟩ = some (.bool false) ∧ W.cell? ⟨w.heap.size + 1, 1, none⟩ = some (.slice A2 n2 c2) ∧ W.cell? ⟨b3, o3 + k, none⟩ = some (.string x)) (by kernel_rfl) (HKr.out _ hb0) (fun hS0 => ?_))
          refine wpAnyH_take (i := 0) (v := .agg #[.bool true, .slice A n c]) rfl (by kernel_rfl) (by kernel_rfl) (by kernel_rfl) (fun _ _ _ h => h) (Or.inl ⟨by rfl, ?_⟩) hS0 ?_
          · intro w' hSw
            obtain ⟨_, s0, s1, s2, s3, s4⟩ := hSw
            go_simp
          simp only [List.getElem_toArray, List.getElem_cons_zero, Act.put, List.setIfInBounds_toArray, List.set_cons_zero, List.set_cons_succ]
          refine wpAnyH_take (i := 1) (v := .slice (some ⟨b3, o3, none⟩) m c3) rfl (by kernel_rfl) (by kernel_rfl) (by kernel_rfl) (fun _ _ _ h => h) (Or.inl ⟨by rfl, ?_⟩) hS0 ?_
          · intro w' hSw
            obtain ⟨_, s0, s1, s2, s3, s4⟩ := hSw
            go_simp
          simp only [List.getElem_toArray, List.getElem_cons_succ, List.getElem_cons_zero, Act.put, List.setIfInBounds_toArray, List.set_cons_zero, List.set_cons_succ]
          refine wpAnyH_take (i := 2) (v := .int .i64 k) rfl (by kernel_rfl) (by kernel_rfl) (by kernel_rfl) (fun _ _ _ h => h) (Or.inl ⟨by rfl, ?_⟩) hS0 ?_
          · intro w' hSw
            obtain ⟨_, s0, s1, s2, s3, s4⟩ := hSw
            go_simp
          simp only [List.getElem_toArray, List.getElem_cons_succ, List.getElem_cons_zero, Act.put, List.setIfInBounds_toArray, List.set_cons_zero, List.set_cons_succ]
          refine wpAnyH_take (i := 3) (v := .pointer (some ⟨b3, o3 + k, none⟩)) rfl (by kernel_rfl) (by kernel_rfl) (by kernel_rfl) (fun _ _ _ h => h) (Or.inl ⟨by rfl, ?_⟩) hS0 ?_
          · intro w' hSw
            obtain ⟨_, s0, s1, s2, s3, s4⟩ := hSw
            go_simp
          simp only [List.getElem_toArray, List.getElem_cons_succ, List.getElem_cons_zero, Act.put, List.setIfInBounds_toArray, List.set_cons_zero, List.set_cons_succ]
          refine wpAnyH_take (i := 4) (v := .string x) rfl (by kernel_rfl) (by kernel_rfl) (by kernel_rfl) (fun _ _ _ h => h) (Or.inl ⟨by rfl, ?_⟩) hS0 ?_
          · intro w' hSw
            obtain ⟨_, s0, s1, s2, s3, s4⟩ := hSw
            go_simp
          simp only [List.getElem_toArray, List.getElem_cons_succ, List.getElem_cons_zero, Act.put, List.setIfInBounds_toArray, List.set_cons_zero, List.set_cons_succ]
          refine wpAnyH_ready (rs := [5]) (by kernel_rfl) (by simp) (AllReadyH.cons rfl (fun K hK => ?_) AllReadyH.nil)
          go_simp
          refine (HA2.out _ hb0).mono ?_
          rintro e w11 ⟨rfl, hb11⟩
          refine hK.out _ _ (HKr.out _ hb11) (fun hS0 => ?_)
          clear hK K
          refine wpAnyH_take (i := 6) (v := .bool false) rfl (by kernel_rfl) (by kernel_rfl) (by kernel_rfl) (fun _ _ _ h => h) (Or.inl ⟨by rfl, ?_⟩) hS0 ?_
          · intro w' hSw
            obtain ⟨_, s0, s1, s2, s3, s4⟩ := hSw
            go_simp
          simp only [List.getElem_toArray, List.getElem_cons_succ, List.getElem_cons_zero, Act.put, List.setIfInBounds_toArray, List.set_cons_zero, List.set_cons_succ]
          refine wpAnyH_take (i := 7) (v := undef) rfl (by kernel_rfl) (by kernel_rfl) (by kernel_rfl) (fun _ _ _ h => h) (Or.inr ⟨by rfl, rfl⟩) hS0 ?_
          simp only [List.getElem_toArray, List.getElem_cons_succ, List.getElem_cons_zero, Act.put, List.setIfInBounds_toArray, List.set_cons_zero, List.set_cons_succ]
          refine wpAnyH_take (i := 8) (v := undef) rfl (by kernel_rfl) (by kernel_rfl) (by kernel_rfl) (fun _ _ _ h => h) (Or.inr ⟨by rfl, rfl⟩) hS0 ?_
          simp only [List.getElem_toArray, List.getElem_cons_succ, List.getElem_cons_zero, Act.put, List.setIfInBounds_toArray, List.set_cons_zero, List.set_cons_succ]
          refine wpAnyH_take (i := 9) (v := undef) rfl (by kernel_rfl) (by kernel_rfl) (by kernel_rfl) (fun _ _ _ h => h) (Or.inr ⟨by rfl, rfl⟩) hS0 ?_
          simp only [List.getElem_toArray, List.getElem_cons_succ, List.getElem_cons_zero, Act.put, List.setIfInBounds_toArray, List.set_cons_zero, List.set_cons_succ]
          refine wpAnyH_take (i := 10) (v := undef) rfl (by kernel_rfl) (by kernel_rfl) (by kernel_rfl) (fun _ _ _ h => h) (Or.inr ⟨by rfl, rfl⟩) hS0 ?_
          simp only [List.getElem_toArray, List.getElem_cons_succ, List.getElem_cons_zero, Act.put, List.setIfInBounds_toArray, List.set_cons_zero, List.set_cons_succ]
          refine wpAnyH_take (i := 11) (v := undef) rfl (by kernel_rfl) (by kernel_rfl) (by kernel_rfl) (fun _ _ _ h => h) (Or.inr ⟨by rfl, rfl⟩) hS0 ?_
          simp only [List.getElem_toArray, List.getElem_cons_succ, List.getElem_cons_zero, Act.put, List.setIfInBounds_toArray, List.set_cons_zero, List.set_cons_succ]
          refine wpAnyH_take (i := 12) (v := undef) rfl (by kernel_rfl) (by kernel_rfl) (by kernel_rfl) (fun _ _ _ h => h) (Or.inr ⟨by rfl, rfl⟩) hS0 ?_
          simp only [List.getElem_toArray, List.getElem_cons_succ, List.getElem_cons_zero, Act.put, List.setIfInBounds_toArray, List.set_cons_zero, List.set_cons_succ]
          refine wpAnyH_take (i := 13) (v := .bool false) rfl (by kernel_rfl) (by kernel_rfl) (by kernel_rfl) (fun _ _ _ h => h) (Or.inl ⟨by rfl, ?_⟩) hS0 ?_
          · intro w' hSw
            obtain ⟨_, s0, s1, s2, s3, s4⟩ := hSw
            go_simp
          simp only [List.getElem_toArray, List.getElem_cons_succ, List.getElem_cons_zero, Act.put, List.setIfInBounds_toArray, List.set_cons_zero, List.set_cons_succ]
          refine wpAnyH_take (i := 14) (v := .bool false) rfl (by kernel_rfl) (by kernel_rfl) (by kernel_rfl) (fun _ _ _ h => h) (Or.inl ⟨by rfl, ?_⟩) hS0 ?_
          · intro w' hSw
            obtain ⟨_, s0, s1, s2, s3, s4⟩ := hSw
            go_simp
          simp only [List.getElem_toArray, List.getElem_cons_succ, List.getElem_cons_zero, Act.put, List.setIfInBounds_toArray, List.set_cons_zero, List.set_cons_succ]
          refine wpAnyH_done (by kernel_rfl) ?_ _
          refine NoPanic.normal ?_
          have C2 := HC.out.below hb11
          obtain ⟨r8, r9, r10, r11⟩ := box2 C2.boxc
          have HC2 := Lib.hid C2
          clear C2 q0 q1 q2 q3 q4 q5 q6 q7 q8 q9 q10 q11
          go_wp2_with fail
          go_roundw
          case rel => exact ⟨k + 1, R, N, cR, ys, by omega, by omega, HN.out, by go_num, HC2.out, Lib.hid (fun y => by rw [H.out, mem_take Hx3.out, or_and_right]; exact ⟨.inl, fun g => g.elim id (fun e => by rw [e.1, Hpa.out, Hpb.out] at e; exact absurd e.2 (by decide))⟩)⟩
          case measure => simp [intOf]; omega
        · have HA' := HA.out
          have HB' := HB.out
          rw [hpa] at HA'
          rw [hpb] at HB'
          have HA2 := Lib.hid HA'
          have HB2 := Lib.hid HB'
          have Hpa := Lib.hid hpa
          have Hpb := Lib.hid hpb
          clear HA' HB' hpa hpb HA HB
          go_wp2_with fail
          refine wp_region_noPanic (wp_region_held_drew (S := fun W => Below wr.heap.size wr W ∧ W.cell? ⟨w.heap.size, 0, none⟩ = some (.bool true) ∧ W.cell? ⟨w.heap.size, 1, none⟩ = some (.slice A n c) ∧ W.cell? ⟨w.heap.size + 1, 0, none⟩ = some (.bool false) ∧ W.cell? ⟨w.heap.size + 1, 1, none⟩ = some (.slice A2 n2 c2) ∧ W.cell? ⟨b3, o3 + k, none⟩ = some (.string x)) (by kernel_rfl) (HKr.out _ hb0) (fun hS0 => ?_))
          refine wpAnyH_take (i := 0) (v := .agg #[.bool true, .slice A n c]) rfl (by kernel_rfl) (by kernel_rfl) (by kernel_rfl) (fun _ _ _ h => h) (Or.inl ⟨by rfl, ?_⟩) hS0 ?_
          · intro w' hSw
            obtain ⟨_, s0, s1, s2, s3, s4⟩ := hSw
            go_simp
          simp only [List.getElem_toArray, List.getElem_cons_zero, Act.put, List.setIfInBounds_toArray, List.set_cons_zero, List.set_cons_succ]
          refine wpAnyH_take (i := 1) (v := .slice (some ⟨b3, o3, none⟩) m c3) rfl (by kernel_rfl) (by kernel_rfl) (by kernel_rfl) (fun _ _ _ h => h) (Or.inl ⟨by rfl, ?_⟩) hS0 ?_
          · intro w' hSw
            obtain ⟨_, s0, s1, s2, s3, s4⟩ := hSw
            go_simp
          simp only [List.getElem_toArray, List.getElem_cons_succ, List.getElem_cons_zero, Act.put, List.setIfInBounds_toArray, List.set_cons_zero, List.set_cons_succ]
          refine wpAnyH_take (i := 2) (v := .int .i64 k) rfl (by kernel_rfl) (by kernel_rfl) (by kernel_rfl) (fun _ _ _ h => h) (Or.inl ⟨by rfl, ?_⟩) hS0 ?_
          · intro w' hSw
            obtain ⟨_, s0, s1, s2, s3, s4⟩ := hSw
            go_simp
          simp only [List.getElem_toArray, List.getElem_cons_succ, List.getElem_cons_zero, Act.put, List.setIfInBounds_toArray, List.set_cons_zero, List.set_cons_succ]
          refine wpAnyH_take (i := 3) (v := .pointer (some ⟨b3, o3 + k, none⟩)) rfl (by kernel_rfl) (by kernel_rfl) (by kernel_rfl) (fun _ _ _ h => h) (Or.inl ⟨by rfl, ?_⟩) hS0 ?_
          · intro w' hSw
            obtain ⟨_, s0, s1, s2, s3, s4⟩ := hSw
            go_simp
          simp only [List.getElem_toArray, List.getElem_cons_succ, List.getElem_cons_zero, Act.put, List.setIfInBounds_toArray, List.set_cons_zero, List.set_cons_succ]
          refine wpAnyH_take (i := 4) (v := .string x) rfl (by kernel_rfl) (by kernel_rfl) (by kernel_rfl) (fun _ _ _ h => h) (Or.inl ⟨by rfl, ?_⟩) hS0 ?_
          · intro w' hSw
            obtain ⟨_, s0, s1, s2, s3, s4⟩ := hSw
            go_simp
          simp only [List.getElem_toArray, List.getElem_cons_succ, List.getElem_cons_zero, Act.put, List.setIfInBounds_toArray, List.set_cons_zero, List.set_cons_succ]
          refine wpAnyH_ready (rs := [5]) (by kernel_rfl) (by simp) (AllReadyH.cons rfl (fun K hK => ?_) AllReadyH.nil)
          go_simp
          refine (HA2.out _ hb0).mono ?_
          rintro e w11 ⟨rfl, hb11⟩
          refine hK.out _ _ (HKr.out _ hb11) (fun hS0 => ?_)
          clear hK K
          refine wpAnyH_take (i := 6) (v := .bool false) rfl (by kernel_rfl) (by kernel_rfl) (by kernel_rfl) (fun _ _ _ h => h) (Or.inl ⟨by rfl, ?_⟩) hS0 ?_
          · intro w' hSw
            obtain ⟨_, s0, s1, s2, s3, s4⟩ := hSw
            go_simp
          simp only [List.getElem_toArray, List.getElem_cons_succ, List.getElem_cons_zero, Act.put, List.setIfInBounds_toArray, List.set_cons_zero, List.set_cons_succ]
          refine wpAnyH_take (i := 7) (v := undef) rfl (by kernel_rfl) (by kernel_rfl) (by kernel_rfl) (fun _ _ _ h => h) (Or.inr ⟨by rfl, rfl⟩) hS0 ?_
          simp only [List.getElem_toArray, List.getElem_cons_succ, List.getElem_cons_zero, Act.put, List.setIfInBounds_toArray, List.set_cons_zero, List.set_cons_succ]
          refine wpAnyH_take (i := 8) (v := undef) rfl (by kernel_rfl) (by kernel_rfl) (by kernel_rfl) (fun _ _ _ h => h) (Or.inr ⟨by rfl, rfl⟩) hS0 ?_
          simp only [List.getElem_toArray, List.getElem_cons_succ, List.getElem_cons_zero, Act.put, List.setIfInBounds_toArray, List.set_cons_zero, List.set_cons_succ]
          refine wpAnyH_take (i := 9) (v := undef) rfl (by kernel_rfl) (by kernel_rfl) (by kernel_rfl) (fun _ _ _ h => h) (Or.inr ⟨by rfl, rfl⟩) hS0 ?_
          simp only [List.getElem_toArray, List.getElem_cons_succ, List.getElem_cons_zero, Act.put, List.setIfInBounds_toArray, List.set_cons_zero, List.set_cons_succ]
          refine wpAnyH_take (i := 10) (v := undef) rfl (by kernel_rfl) (by kernel_rfl) (by kernel_rfl) (fun _ _ _ h => h) (Or.inr ⟨by rfl, rfl⟩) hS0 ?_
          simp only [List.getElem_toArray, List.getElem_cons_succ, List.getElem_cons_zero, Act.put, List.setIfInBounds_toArray, List.set_cons_zero, List.set_cons_succ]
          refine wpAnyH_take (i := 11) (v := undef) rfl (by kernel_rfl) (by kernel_rfl) (by kernel_rfl) (fun _ _ _ h => h) (Or.inr ⟨by rfl, rfl⟩) hS0 ?_
          simp only [List.getElem_toArray, List.getElem_cons_succ, List.getElem_cons_zero, Act.put, List.setIfInBounds_toArray, List.set_cons_zero, List.set_cons_succ]
          refine wpAnyH_take (i := 12) (v := undef) rfl (by kernel_rfl) (by kernel_rfl) (by kernel_rfl) (fun _ _ _ h => h) (Or.inr ⟨by rfl, rfl⟩) hS0 ?_
          simp only [List.getElem_toArray, List.getElem_cons_succ, List.getElem_cons_zero, Act.put, List.setIfInBounds_toArray, List.set_cons_zero, List.set_cons_succ]
          refine wpAnyH_take (i := 13) (v := .bool false) rfl (by kernel_rfl) (by kernel_rfl) (by kernel_rfl) (fun _ _ _ h => h) (Or.inl ⟨by rfl, ?_⟩) hS0 ?_
          · intro w' hSw
            obtain ⟨_, s0, s1, s2, s3, s4⟩ := hSw
            go_simp
          simp only [List.getElem_toArray, List.getElem_cons_succ, List.getElem_cons_zero, Act.put, List.setIfInBounds_toArray, List.set_cons_zero, List.set_cons_succ]
          refine wpAnyH_take (i := 14) (v := .bool false) rfl (by kernel_rfl) (by kernel_rfl) (by kernel_rfl) (fun _ _ _ h => h) (Or.inl ⟨by rfl, ?_⟩) hS0 ?_
          · intro w' hSw
            obtain ⟨_, s0, s1, s2, s3, s4⟩ := hSw
            go_simp
          simp only [List.getElem_toArray, List.getElem_cons_succ, List.getElem_cons_zero, Act.put, List.setIfInBounds_toArray, List.set_cons_zero, List.set_cons_succ]
          refine wpAnyH_done (by kernel_rfl) ?_ _
          refine NoPanic.normal ?_
          have C2 := HC.out.below hb11
          obtain ⟨r8, r9, r10, r11⟩ := box2 C2.boxc
          have HC2 := Lib.hid C2
          clear C2 q0 q1 q2 q3 q4 q5 q6 q7 q8 q9 q10 q11
          go_wp2_with fail
          go_roundw
          case rel => exact ⟨k + 1, R, N, cR, ys, by omega, by omega, HN.out, by go_num, HC2.out, Lib.hid (fun y => by rw [H.out, mem_take Hx3.out, or_and_right]; exact ⟨.inl, fun g => g.elim id (fun e => by rw [e.1, Hpa.out, Hpb.out] at e; exact absurd e.2 (by decide))⟩)⟩
          case measure => simp [intOf]; omega
        · have HA' := HA.out
          have HB' := HB.out
          rw [hpa] at HA'
          rw [hpb] at HB'
          have HA2 := Lib.hid HA'
          have HB2 := Lib.hid HB'
          have Hpa := Lib.hid hpa
          have Hpb := Lib.hid hpb
          clear HA' HB' hpa hpb HA HB
          go_wp2_with fail
          refine wp_region_noPanic (wp_region_held_drew (S := fun W => Below wr.heap.size wr W ∧ W.cell? ⟨w.heap.size, 0, none⟩ = some (.bool true) ∧ W.cell? ⟨w.heap.size, 1, none⟩ = some (.slice A n c) ∧ W.cell? ⟨w.heap.size + 1, 0, none⟩ = some (.bool false) ∧ W.cell? ⟨w.heap.size + 1, 1, none⟩ = some (.slice A2 n2 c2) ∧ W.cell? ⟨b3, o3 + k, none⟩ = some (.string x)) (by kernel_rfl) (HKr.out _ hb0) (fun hS0 => ?_))
          refine wpAnyH_take (i := 0) (v := .agg #[.bool true, .slice A n c]) rfl (by kernel_rfl) (by kernel_rfl) (by kernel_rfl) (fun _ _ _ h => h) (Or.inl ⟨by rfl, ?_⟩) hS0 ?_
          · intro w' hSw
            obtain ⟨_, s0, s1, s2, s3, s4⟩ := hSw
            go_simp
          simp only [List.getElem_toArray, List.getElem_cons_zero, Act.put, List.setIfInBounds_toArray, List.set_cons_zero, List.set_cons_succ]
          refine wpAnyH_take (i := 1) (v := .slice (some ⟨b3, o3, none⟩) m c3) rfl (by kernel_rfl) (by kernel_rfl) (by kernel_rfl) (fun _ _ _ h => h) (Or.inl ⟨by rfl, ?_⟩) hS0 ?_
          · intro w' hSw
            obtain ⟨_, s0, s1, s2, s3, s4⟩ := hSw
            go_simp
          simp only [List.getElem_toArray, List.getElem_cons_succ, List.getElem_cons_zero, Act.put, List.setIfInBounds_toArray, List.set_cons_zero, List.set_cons_succ]
          refine wpAnyH_take (i := 2) (v := .int .i64 k) rfl (by kernel_rfl) (by kernel_rfl) (by kernel_rfl) (fun _ _ _ h => h) (Or.inl ⟨by rfl, ?_⟩) hS0 ?_
          · intro w' hSw
            obtain ⟨_, s0, s1, s2, s3, s4⟩ := hSw
            go_simp
          simp only [List.getElem_toArray, List.getElem_cons_succ, List.getElem_cons_zero, Act.put, List.setIfInBounds_toArray, List.set_cons_zero, List.set_cons_succ]
          refine wpAnyH_take (i := 3) (v := .pointer (some ⟨b3, o3 + k, none⟩)) rfl (by kernel_rfl) (by kernel_rfl) (by kernel_rfl) (fun _ _ _ h => h) (Or.inl ⟨by rfl, ?_⟩) hS0 ?_
          · intro w' hSw
            obtain ⟨_, s0, s1, s2, s3, s4⟩ := hSw
            go_simp
          simp only [List.getElem_toArray, List.getElem_cons_succ, List.getElem_cons_zero, Act.put, List.setIfInBounds_toArray, List.set_cons_zero, List.set_cons_succ]
          refine wpAnyH_take (i := 4) (v := .string x) rfl (by kernel_rfl) (by kernel_rfl) (by kernel_rfl) (fun _ _ _ h => h) (Or.inl ⟨by rfl, ?_⟩) hS0 ?_
          · intro w' hSw
            obtain ⟨_, s0, s1, s2, s3, s4⟩ := hSw
            go_simp
          simp only [List.getElem_toArray, List.getElem_cons_succ, List.getElem_cons_zero, Act.put, List.setIfInBounds_toArray, List.set_cons_zero, List.set_cons_succ]
          refine wpAnyH_ready (rs := [5]) (by kernel_rfl) (by simp) (AllReadyH.cons rfl (fun K hK => ?_) AllReadyH.nil)
          go_simp
          refine (HA2.out _ hb0).mono ?_
          rintro e w11 ⟨rfl, hb11⟩
          refine hK.out _ _ (HKr.out _ hb11) (fun hS0 => ?_)
          clear hK K
          refine wpAnyH_take (i := 6) (v := .bool true) rfl (by kernel_rfl) (by kernel_rfl) (by kernel_rfl) (fun _ _ _ h => h) (Or.inl ⟨by rfl, ?_⟩) hS0 ?_
          · intro w' hSw
            obtain ⟨_, s0, s1, s2, s3, s4⟩ := hSw
            go_simp
          simp only [List.getElem_toArray, List.getElem_cons_succ, List.getElem_cons_zero, Act.put, List.setIfInBounds_toArray, List.set_cons_zero, List.set_cons_succ]
          refine wpAnyH_take (i := 7) (v := .agg #[.bool false, .slice A2 n2 c2]) rfl (by kernel_rfl) (by kernel_rfl) (by kernel_rfl) (fun _ _ _ h => h) (Or.inl ⟨by rfl, ?_⟩) hS0 ?_
          · intro w' hSw
            obtain ⟨_, s0, s1, s2, s3, s4⟩ := hSw
            go_simp
          simp only [List.getElem_toArray, List.getElem_cons_succ, List.getElem_cons_zero, Act.put, List.setIfInBounds_toArray, List.set_cons_zero, List.set_cons_succ]
          refine wpAnyH_take (i := 8) (v := .slice (some ⟨b3, o3, none⟩) m c3) rfl (by kernel_rfl) (by kernel_rfl) (by kernel_rfl) (fun _ _ _ h => h) (Or.inl ⟨by rfl, ?_⟩) hS0 ?_
          · intro w' hSw
            obtain ⟨_, s0, s1, s2, s3, s4⟩ := hSw
            go_simp
          simp only [List.getElem_toArray, List.getElem_cons_succ, List.getElem_cons_zero, Act.put, List.setIfInBounds_toArray, List.set_cons_zero, List.set_cons_succ]
          refine wpAnyH_take (i := 9) (v := .int .i64 k) rfl (by kernel_rfl) (by kernel_rfl) (by kernel_rfl) (fun _ _ _ h => h) (Or.inl ⟨by rfl, ?_⟩) hS0 ?_
          · intro w' hSw
            obtain ⟨_, s0, s1, s2, s3, s4⟩ := hSw
            go_simp
          simp only [List.getElem_toArray, List.getElem_cons_succ, List.getElem_cons_zero, Act.put, List.setIfInBounds_toArray, List.set_cons_zero, List.set_cons_succ]
          refine wpAnyH_take (i := 10) (v := .pointer (some ⟨b3, o3 + k, none⟩)) rfl (by kernel_rfl) (by kernel_rfl) (by kernel_rfl) (fun _ _ _ h => h) (Or.inl ⟨by rfl, ?_⟩) hS0 ?_
          · intro w' hSw
            obtain ⟨_, s0, s1, s2, s3, s4⟩ := hSw
            go_simp
          simp only [List.getElem_toArray, List.getElem_cons_succ, List.getElem_cons_zero, Act.put, List.setIfInBounds_toArray, List.set_cons_zero, List.set_cons_succ]
          refine wpAnyH_take (i := 11) (v := .string x) rfl (by kernel_rfl) (by kernel_rfl) (by kernel_rfl) (fun _ _ _ h => h) (Or.inl ⟨by rfl, ?_⟩) hS0 ?_
          · intro w' hSw
            obtain ⟨_, s0, s1, s2, s3, s4⟩ := hSw
            go_simp
          simp only [List.getElem_toArray, List.getElem_cons_succ, List.getElem_cons_zero, Act.put, List.setIfInBounds_toArray, List.set_cons_zero, List.set_cons_succ]
          refine wpAnyH_ready (rs := [12]) (by kernel_rfl) (by simp) (AllReadyH.cons rfl (fun K hK => ?_) AllReadyH.nil)
          go_simp
          refine (HB2.out _ hb11).mono ?_
          rintro e w12 ⟨rfl, hb12⟩
          refine hK.out _ _ (HKr.out _ hb12) (fun hS0 => ?_)
          clear hK K
          refine wpAnyH_take (i := 13) (v := .bool false) rfl (by kernel_rfl) (by kernel_rfl) (by kernel_rfl) (fun _ _ _ h => h) (Or.inl ⟨by rfl, ?_⟩) hS0 ?_
          · intro w' hSw
            obtain ⟨_, s0, s1, s2, s3, s4⟩ := hSw
            go_simp
          simp only [List.getElem_toArray, List.getElem_cons_succ, List.getElem_cons_zero, Act.put, List.setIfInBounds_toArray, List.set_cons_zero, List.set_cons_succ]
          refine wpAnyH_take (i := 14) (v := .bool false) rfl (by kernel_rfl) (by kernel_rfl) (by kernel_rfl) (fun _ _ _ h => h) (Or.inl ⟨by rfl, ?_⟩) hS0 ?_
          · intro w' hSw
            obtain ⟨_, s0, s1, s2, s3, s4⟩ := hSw
            go_simp
          simp only [List.getElem_toArray, List.getElem_cons_succ, List.getElem_cons_zero, Act.put, List.setIfInBounds_toArray, List.set_cons_zero, List.set_cons_succ]
          refine wpAnyH_done (by kernel_rfl) ?_ _
          refine NoPanic.normal ?_
          have C2 := HC.out.below hb12
          obtain ⟨r8, r9, r10, r11⟩ := box2 C2.boxc
          have HC2 := Lib.hid C2
          clear C2 q0 q1 q2 q3 q4 q5 q6 q7 q8 q9 q10 q11
          go_wp2_with fail
          go_roundw
          case rel => exact ⟨k + 1, R, N, cR, ys, by omega, by omega, HN.out, by go_num, HC2.out, Lib.hid (fun y => by rw [H.out, mem_take Hx3.out, or_and_right]; exact ⟨.inl, fun g => g.elim id (fun e => by rw [e.1, Hpa.out, Hpb.out] at e; exact absurd e.2 (by decide))⟩)⟩
          case measure => simp [intOf]; omega
        · have HA' := HA.out
          have HB' := HB.out
          rw [hpa] at HA'
          rw [hpb] at HB'
          have HA2 := Lib.hid HA'
          have HB2 := Lib.hid HB'
          have Hpa := Lib.hid hpa
          have Hpb := Lib.hid hpb
          clear HA' HB' hpa hpb HA HB
          go_wp2_with fail
          refine wp_region_noPanic (wp_region_held_drew (S := fun W => Below wr.heap.size wr W ∧ W.cell? ⟨w.heap.size, 0, none⟩ = some (.bool true) ∧ W.cell? ⟨w.heap.size, 1, none⟩ = some (.slice A n c) ∧ W.cell? ⟨w.heap.size + 1, 0, none⟩ = some (.bool false) ∧ W.cell? ⟨w.heap.size + 1, 1, none⟩ = some (.slice A2 n2 c2) ∧ W.cell? ⟨b3, o3 + k, none⟩ = some (.string x)) (by kernel_rfl) (HKr.out _ hb0) (fun hS0 => ?_))
          refine wpAnyH_take (i := 0) (v := .agg #[.bool true, .slice A n c]) rfl (by kernel_rfl) (by kernel_rfl) (by kernel_rfl) (fun _ _ _ h => h) (Or.inl ⟨by rfl, ?_⟩) hS0 ?_
          · intro w' hSw
            obtain ⟨_, s0, s1, s2, s3, s4⟩ := hSw
            go_simp
          simp only [List.getElem_toArray, List.getElem_cons_zero, Act.put, List.setIfInBounds_toArray, List.set_cons_zero, List.set_cons_succ]
          refine wpAnyH_take (i := 1) (v := .slice (some ⟨b3, o3, none⟩) m c3) rfl (by kernel_rfl) (by kernel_rfl) (by kernel_rfl) (fun _ _ _ h => h) (Or.inl ⟨by rfl, ?_⟩) hS0 ?_
          · intro w' hSw
            obtain ⟨_, s0, s1, s2, s3, s4⟩ := hSw
            go_simp
          simp only [List.getElem_toArray, List.getElem_cons_succ, List.getElem_cons_zero, Act.put, List.setIfInBounds_toArray, List.set_cons_zero, List.set_cons_succ]
          refine wpAnyH_take (i := 2) (v := .int .i64 k) rfl (by kernel_rfl) (by kernel_rfl) (by kernel_rfl) (fun _ _ _ h => h) (Or.inl ⟨by rfl, ?_⟩) hS0 ?_
          · intro w' hSw
            obtain ⟨_, s0, s1, s2, s3, s4⟩ := hSw
            go_simp
          simp only [List.getElem_toArray, List.getElem_cons_succ, List.getElem_cons_zero, Act.put, List.setIfInBounds_toArray, List.set_cons_zero, List.set_cons_succ]
          refine wpAnyH_take (i := 3) (v := .pointer (some ⟨b3, o3 + k, none⟩)) rfl (by kernel_rfl) (by kernel_rfl) (by kernel_rfl) (fun _ _ _ h => h) (Or.inl ⟨by rfl, ?_⟩) hS0 ?_
          · intro w' hSw
            obtain ⟨_, s0, s1, s2, s3, s4⟩ := hSw
            go_simp
          simp only [List.getElem_toArray, List.getElem_cons_succ, List.getElem_cons_zero, Act.put, List.setIfInBounds_toArray, List.set_cons_zero, List.set_cons_succ]
          refine wpAnyH_take (i := 4) (v := .string x) rfl (by kernel_rfl) (by kernel_rfl) (by kernel_rfl) (fun _ _ _ h => h) (Or.inl ⟨by rfl, ?_⟩) hS0 ?_
          · intro w' hSw
            obtain ⟨_, s0, s1, s2, s3, s4⟩ := hSw
            go_simp
          simp only [List.getElem_toArray, List.getElem_cons_succ, List.getElem_cons_zero, Act.put, List.setIfInBounds_toArray, List.set_cons_zero, List.set_cons_succ]
          refine wpAnyH_ready (rs := [5]) (by kernel_rfl) (by simp) (AllReadyH.cons rfl (fun K hK => ?_) AllReadyH.nil)
          go_simp
          refine (HA2.out _ hb0).mono ?_
          rintro e w11 ⟨rfl, hb11⟩
          refine hK.out _ _ (HKr.out _ hb11) (fun hS0 => ?_)
          clear hK K
          refine wpAnyH_take (i := 6) (v := .bool true) rfl (by kernel_rfl) (by kernel_rfl) (by kernel_rfl) (fun _ _ _ h => h) (Or.inl ⟨by rfl, ?_⟩) hS0 ?_
          · intro w' hSw
            obtain ⟨_, s0, s1, s2, s3, s4⟩ := hSw
            go_simp
          simp only [List.getElem_toArray, List.getElem_cons_succ, List.getElem_cons_zero, Act.put, List.setIfInBounds_toArray, List.set_cons_zero, List.set_cons_succ]
          refine wpAnyH_take (i := 7) (v := .agg #[.bool false, .slice A2 n2 c2]) rfl (by kernel_rfl) (by kernel_rfl) (by kernel_rfl) (fun _ _ _ h => h) (Or.inl ⟨by rfl, ?_⟩) hS0 ?_
          · intro w' hSw
            obtain ⟨_, s0, s1, s2, s3, s4⟩ := hSw
            go_simp
          simp only [List.getElem_toArray, List.getElem_cons_succ, List.getElem_cons_zero, Act.put, List.setIfInBounds_toArray, List.set_cons_zero, List.set_cons_succ]
          refine wpAnyH_take (i := 8) (v := .slice (some ⟨b3, o3, none⟩) m c3) rfl (by kernel_rfl) (by kernel_rfl) (by kernel_rfl) (fun _ _ _ h => h) (Or.inl ⟨by rfl, ?_⟩) hS0 ?_
          · intro w' hSw
            obtain ⟨_, s0, s1, s2, s3, s4⟩ := hSw
            go_simp
          simp only [List.getElem_toArray, List.getElem_cons_succ, List.getElem_cons_zero, Act.put, List.setIfInBounds_toArray, List.set_cons_zero, List.set_cons_succ]
          refine wpAnyH_take (i := 9) (v := .int .i64 k) rfl (by kernel_rfl) (by kernel_rfl) (by kernel_rfl) (fun _ _ _ h => h) (Or.inl ⟨by rfl, ?_⟩) hS0 ?_
          · intro w' hSw
            obtain ⟨_, s0, s1, s2, s3, s4⟩ := hSw
            go_simp
          simp only [List.getElem_toArray, List.getElem_cons_succ, List.getElem_cons_zero, Act.put, List.setIfInBounds_toArray, List.set_cons_zero, List.set_cons_succ]
          refine wpAnyH_take (i := 10) (v := .pointer (some ⟨b3, o3 + k, none⟩)) rfl (by kernel_rfl) (by kernel_rfl) (by kernel_rfl) (fun _ _ _ h => h) (Or.inl ⟨by rfl, ?_⟩) hS0 ?_
          · intro w' hSw
            obtain ⟨_, s0, s1, s2, s3, s4⟩ := hSw
            go_simp
          simp only [List.getElem_toArray, List.getElem_cons_succ, List.getElem_cons_zero, Act.put, List.setIfInBounds_toArray, List.set_cons_zero, List.set_cons_succ]
          refine wpAnyH_take (i := 11) (v := .string x) rfl (by kernel_rfl) (by kernel_rfl) (by kernel_rfl) (fun _ _ _ h => h) (Or.inl ⟨by rfl, ?_⟩) hS0 ?_
          · intro w' hSw
            obtain ⟨_, s0, s1, s2, s3, s4⟩ := hSw
            go_simp
          simp only [List.getElem_toArray, List.getElem_cons_succ, List.getElem_cons_zero, Act.put, List.setIfInBounds_toArray, List.set_cons_zero, List.set_cons_succ]
          refine wpAnyH_ready (rs := [12]) (by kernel_rfl) (by simp) (AllReadyH.cons rfl (fun K hK => ?_) AllReadyH.nil)
          go_simp
          refine (HB2.out _ hb11).mono ?_
          rintro e w12 ⟨rfl, hb12⟩
          refine hK.out _ _ (HKr.out _ hb12) (fun hS0 => ?_)
          clear hK K
          refine wpAnyH_take (i := 13) (v := .bool true) rfl (by kernel_rfl) (by kernel_rfl) (by kernel_rfl) (fun _ _ _ h => h) (Or.inl ⟨by rfl, ?_⟩) hS0 ?_
          · intro w' hSw
            obtain ⟨_, s0, s1, s2, s3, s4⟩ := hSw
            go_simp
          simp only [List.getElem_toArray, List.getElem_cons_succ, List.getElem_cons_zero, Act.put, List.setIfInBounds_toArray, List.set_cons_zero, List.set_cons_succ]
          refine wpAnyH_take (i := 14) (v := .bool true) rfl (by kernel_rfl) (by kernel_rfl) (by kernel_rfl) (fun _ _ _ h => h) (Or.inl ⟨by rfl, ?_⟩) hS0 ?_
          · intro w' hSw
            obtain ⟨_, s0, s1, s2, s3, s4⟩ := hSw
            go_simp
          simp only [List.getElem_toArray, List.getElem_cons_succ, List.getElem_cons_zero, Act.put, List.setIfInBounds_toArray, List.set_cons_zero, List.set_cons_succ]
          refine wpAnyH_done (by kernel_rfl) ?_ _
          refine NoPanic.normal ?_
          have C2 := HC.out.below hb12
          obtain ⟨r8, r9, r10, r11⟩ := box2 C2.boxc
          have hcx2 := (hb12.cell (p := ⟨b3, o3 + k, none⟩) hb3r).trans hcx
          have HP := Lib.hid (fun W (hb : Below w12.heap.size w12 W) => put_any ys C2.pair R N cR x W (C2.below hb).seen C2.cap C2.form (by omega))
          have HC2 := Lib.hid C2
          have hb20 : Below w12.heap.size w12 w12.drew := (Below.refl _ _).drew
          clear C2 hcx q0 q1 q2 q3 q4 q5 q6 q7 q8 q9 q10 q11
          go_wp2_with fail
          go_region_with (first
            | (go_at_call 141; (with_reducible refine (HP.out _ hb20).mono ?_); rintro e w4 ⟨A4, c4, zs, rfl, hf4, hs4, hc4, hp4, hm4, hl4, hb4⟩; have hP := HC2.out.put (hb20.trans hb4) hs4 hc4 hf4 hp4; obtain ⟨s6, s7, s8, s9⟩ := box2 hP.1; have HPP := Lib.hid hP.2; have Hm4 := Lib.hid hm4; clear hP hm4))
          all_goals
            go_wp2_with fail
            go_roundw
            case rel => exact ⟨k + 1, A4, _, c4, zs, by omega, by have := HN.out; omega, rfl, by go_num, HPP.out, Lib.hid (fun y => by rw [Hm4.out, H.out, mem_take Hx3.out, or_and_right]; exact ⟨fun g => g.elim (fun e => .inr ⟨e, by rw [e, Hpa.out, Hpb.out]; rfl⟩) .inl, fun g => g.elim .inr (fun e => .inl e.1)⟩)⟩
            case measure => simp [intOf]; omega
      · have hkn : ¬ (k : Int) < (m : Int) := by omega
        have hkn2 : (m : Int) ≤ (k : Int) := by omega
        have HC := Lib.hid hC
        have HW := Lib.hid hwr
        have hbx := (hC.keep (w.heap.size + 1 + 1) (by omega) (by omega)).trans k2
        have hml := hs2.len
        rw [List.length_map] at hml
        have hys : ys = (comb (· && ·) (fr a) (fr b)).l := comb_l (· && ·) a b hC.pair (fun y => by
          have h1 := H.out y
          rw [List.take_of_length_le (by omega), HZ.out, ← Hf.out] at h1
          exact h1)
        have Hys := Lib.hid hys
        have hsee := hC.seen
        clear hC hys hwr hml
        go_wp2_with fail
        refine bodyPost_ret (v := .agg #[.bool false, .slice R N cR]) (by simp [results, Try.results140, go_sem, q4, q5]) rfl ?_
        exact told_put (s := comb (· && ·) (fr a) (fr b)) hbx (by rw [← Hys.out]; exact hsee) (by rw [← Hys.out]; exact HN.out) HW.out (by omega) HC0.out.symm
  · have HC0 : Hid ((comb (· && ·) (fr a) (fr b)).all = true) := by refine Lib.hid ?_; simp only [comb, fr]; rw [← Hx0.out, ← Hy0.out]; rfl
    have Hf : Hid (∀ y, ((a.mem y && b.mem y) != (a.all && b.all)) = ((a.mem y && b.mem y) != true)) := by
      have := HC0.out
      simp only [comb, fr] at this
      rw [this]
      exact Lib.hid fun y => rfl
    obtain ⟨W1, hW1, g0, g1, g2, g3, gs, gb⟩ := four w (Obj.cells #[Value.bool true, Value.slice A n c] 60) (Obj.cells #[Value.bool true, Value.slice A2 n2 c2] 60) (Obj.cells #[Value.bool false, Value.slice none 0 0] 60) (Obj.cells #[Value.bool true, Value.slice none 0 0] 60)
    have HSA : Hid (∀ W, Below W1.heap.size W1 W → Src Try.prog 1 49 (.slice A n c) n (a.l.map encs) W) := Lib.hid fun W hb => src_strs (((Hin.out.below gb).below hb).sees)
    have HSB : Hid (∀ W, Below W1.heap.size W1 W → Src Try.prog 1 49 (.slice A2 n2 c2) n2 (b.l.map encs) W) := Lib.hid fun W hb => src_strs (((Hin2.out.below gb).below hb).sees)
    have HK := Lib.hid (fun W (hb : Below W1.heap.size W1 W) => have t0 := box2 (Below.box hb g0); have t1 := box2 (Below.box hb g1); (⟨hb, t0.2.1, t1.2.1⟩ : Below W1.heap.size W1 W ∧ W.cell? ⟨w.heap.size, 1, none⟩ = some (.slice A n c) ∧ W.cell? ⟨w.heap.size + 1, 1, none⟩ = some (.slice A2 n2 c2)))
    have hb0 : Below W1.heap.size W1 W1.drew := (Below.refl _ _).drew
    have hbe : Below W1.heap.size W1 (W1.alloc (Obj.cells #[] 9)).drew := ((Below.refl _ _).alloc (Nat.le_refl _) _).drew
    have hoe := own_undrew (row_empty (w := W1) (base := W1.heap.size) (Nat.le_refl _))
    have hse : W1.heap.size ≤ (W1.alloc (Obj.cells #[] 9)).drew.heap.size := hbe.size
    have hgs : w.heap.size + 4 ≤ W1.heap.size := by omega
    clear gs
    have hnn : 0 + n ≤ 1099511627776 := by omega
    have hnn2 : 0 + n + n2 ≤ 1099511627776 := by omega
    go_enter Try.func140, Try.ntmps140
    go_wp2_with fail
    rw [← hW1]
    clear hW1
    go_region_held3 (fun W => Below W1.heap.size W1 W ∧ W.cell? ⟨w.heap.size, 1, none⟩ = some (.slice A n c) ∧ W.cell? ⟨w.heap.size + 1, 1, none⟩ = some (.slice A2 n2 c2))
      (first | exact HK.out _ hb2 | exact HK.out _ hb1 | exact HK.out _ hbe | exact HK.out _ hb0)
      (first
      | (refine step_append_row rfl (.tmp 27) (.tmp 29) _ _ rfl elem_s rfl rfl hoe (HSA.out _ hbe) hnn hse ?_; intro A1 c1 w1 ho1 hg1 hat1; have hb1 : Below W1.heap.size W1 w1 := hbe.grown hg1 hse (fun q hq => (hoe.lt q hq).1))
      | (refine step_append_row rfl (.tmp 30) (.tmp 32) _ _ rfl elem_s rfl rfl ho1 (HSB.out _ hb1) hnn2 hb1.size ?_; intro A3 c3 w2 ho2 hg2 hat2; have hb2 : Below W1.heap.size W1 w2 := hb1.grown hg2 hb1.size (fun q hq => (ho1.lt q hq).1)))
    simp only [Nat.zero_add, List.nil_append] at ho2
    rw [← List.map_append] at ho2
    have hs2 := sees_own ho2
    have hw2 : Below w.heap.size w w2 := gb.trans (hb2.mono (by omega))
    have k0 := Below.box hb2 g0
    have k1 := Below.box hb2 g1
    have k2 := Below.box hb2 g2
    have k3 := Below.box hb2 g3
    have hW2 : w.heap.size + 4 ≤ w2.heap.size := Nat.le_trans hgs hb2.size
    obtain ⟨Z, hZ⟩ : ∃ Z, Z = a.l ++ b.l := ⟨_, rfl⟩
    rw [← hZ] at hs2
    have HZ := Lib.hid hZ
    clear hZ ho1 ho2 hg1 hg2 hat1 hat2 hb1 hb2 HK HSA HSB hb0 hbe hoe hse hnn hnn2 g0 g1 g2 g3
    go_wp2_with fail
    simp only [Nat.zero_add]
    obtain ⟨m, hm⟩ : ∃ m, m = n + n2 := ⟨_, rfl⟩
    rw [← hm] at hs2 ⊢
    have hm2 : m ≤ 274877906944 := by omega
    clear hm
    go_loopw [9] (fun i wr => ∃ (k : Nat) (R : Option Addr) (N cR : Nat) (ys : List (List UInt8)), k ≤ m ∧ N ≤ k ∧ N = ys.length ∧ i = .int .i64 k ∧ Rst (w.heap.size + 1 + 1 + 1) w2.heap.size w2 true R N cR ys wr ∧ Hid (∀ y, y ∈ ys ↔ y ∈ Z.take k ∧ ((a.mem y && b.mem y) != true) = true)) (fun i _ => m - (intOf i).toNat)
    case atStart => exact ⟨0, none, 0, 0, [], Nat.zero_le _, Nat.le_refl _, rfl, rfl, ⟨fun k hk _ => rfl, Nat.le_refl _, rfl, rfl, rfl, k3, ⟨rfl, fun j u h => by simp at h⟩, Nat.le_refl _, .inl ⟨rfl, rfl⟩, List.Pairwise.nil⟩, Lib.hid (by simp)⟩
    case round =>
      obtain ⟨k, R, N, cR, ys, hk, hNk, hN, rfl, hC, H⟩ := hrel
      obtain ⟨q0, q1, _, _⟩ := box2 ((hC.keep w.heap.size (by omega) (by omega)).trans k0)
      obtain ⟨q2, q3, _, _⟩ := box2 ((hC.keep (w.heap.size + 1) (by omega) (by omega)).trans k1)
      obtain ⟨q4, q5, q6, q7⟩ := box2 ((hC.keep (w.heap.size + 1 + 1) (by omega) (by omega)).trans k2)
      obtain ⟨q8, q9, q10, q11⟩ := box2 hC.boxc
      have HN := Lib.hid hN
      have hsz := hC.size
      have hwr : Below w.heap.size w wr := hw2.trans (hC.less (B := w.heap.size) (by omega) (by omega) rfl)
      clear hN
      by_cases hlt : k < m
      · obtain ⟨b3, o3, x, rfl, hb3, hc3, hx3⟩ := nth hs2 hlt
        have hb33 : b3 ≠ w.heap.size + 1 + 1 + 1 := by
          rintro rfl
          exact box2_str k3 (fun x e => by cases e) (fun x e => by cases e) _ hc3
        have hcx : wr.cell? ⟨b3, o3 + k, none⟩ = some (.string x) := (World.cell?_of_block (hC.keep b3 hb3 hb33)).trans hc3
        have hb3r : b3 < wr.heap.size := by omega
        have Hx3 := Lib.hid hx3
        have HC := Lib.hid hC
        have hkn : (k : Int) < (m : Int) := by omega
        have hk0 : (0 : Int) ≤ (k : Int) := by omega
        have hb0 : Below wr.heap.size wr wr.drew := (Below.refl _ _).drew
        have hX : w.heap.size < wr.heap.size := by omega
        have hX1 : w.heap.size + 1 < wr.heap.size := by omega
        have HKr := Lib.hid (fun W (hb : Below wr.heap.size wr W) => (⟨hb, (hb.cell (p := ⟨w.heap.size, 0, none⟩) hX).trans q0, (hb.cell (p := ⟨w.heap.size, 1, none⟩) hX).trans q1, (hb.cell (p := ⟨w.heap.size + 1, 0, none⟩) hX1).trans q2, (hb.cell (p := ⟨w.heap.size + 1, 1, none⟩) hX1).trans q3, (hb.cell (p := ⟨b3, o3 + k, none⟩) hb3r).trans hcx⟩ : Below wr.heap.size wr W ∧ W.cell? ⟨w.heap.size, 0, none⟩ = some (.bool true) ∧ W.cell? ⟨w.heap.size, 1, none⟩ = some (.slice A n c) ∧ W.cell? ⟨w.heap.size + 1, 0, none⟩ = some (.bool true) ∧ W.cell? ⟨w.heap.size + 1, 1, none⟩ = some (.slice A2 n2 c2) ∧ W.cell? ⟨b3, o3 + k, none⟩ = some (.string x)))
        have HA : Hid (∀ W, Below wr.heap.size wr W → Calls Try.prog 88 #[.agg #[.bool true, .slice A n c], .string x] W fun e w' => e = .returned (.bool (a.mem x.data.toList)) ∧ Below wr.heap.size wr w') := by
          refine Lib.hid fun W hb => ?_
          have := rhas_any a A n c x W (Hin.out.below (hwr.trans (hb.mono (by omega)))) (by omega)
          rw [← Hx0.out] at this
          exact this.mono fun e w' h => ⟨h.1, hb.trans (h.2.mono hb.size)⟩
        have HB : Hid (∀ W, Below wr.heap.size wr W → Calls Try.prog 88 #[.agg #[.bool true, .slice A2 n2 c2], .string x] W fun e w' => e = .returned (.bool (b.mem x.data.toList)) ∧ Below wr.heap.size wr w') := by
          refine Lib.hid fun W hb => ?_
          have := rhas_any b A2 n2 c2 x W (Hin2.out.below (hwr.trans (hb.mono (by omega)))) (by omega)
          rw [← Hy0.out] at this
          exact this.mono fun e w' h => ⟨h.1, hb.trans (h.2.mono hb.size)⟩
        clear hx3 hc3 hC hlt
        cases hpa : a.mem x.data.toList <;> cases hpb : b.mem x.data.toList
        · have HA' := HA.out
          have HB' := HB.out
          rw [hpa] at HA'
          rw [hpb] at HB'
          have HA2 := Lib.hid HA'
          have HB2 := Lib.hid HB'
          have Hpa := Lib.hid hpa
          have Hpb := Lib.hid hpb
          clear HA' HB' hpa hpb HA HB
          go_wp2_with fail
          refine wp_region_noPanic (wp_region_held_drew (S := fun W => Below wr.heap.size wr W ∧ W.cell? ⟨w.heap.size, 0, none⟩ = some (.bool true) ∧ W.cell? ⟨w.heap.size, 1, none⟩ = some (.slice A n c) ∧ W.cell? ⟨w.heap.size + 1, 0, none⟩ = some (.bool true) ∧ W.cell? ⟨w.heap.size + 1, 1, none⟩ = some (.slice A2 n2 c2) ∧ W.cell? ⟨b3, o3 + k, none⟩ = some (.string x)) (by kernel_rfl) (HKr.out _ hb0) (fun hS0 => ?_))
          refine wpAnyH_take (i := 0) (v := .agg #[.bool true, .slice A n c]) rfl (by kernel_rfl) (by kernel_rfl) (by kernel_rfl) (fun _ _ _ h => h) (Or.inl ⟨by rfl, ?_⟩) hS0 ?_
          · intro w' hSw
            obtain ⟨_, s0, s1, s2, s3, s4⟩ := hSw
            go_simp
          simp only [List.getElem_toArray, List.getElem_cons_zero, Act.put, List.setIfInBounds_toArray, List.set_cons_zero, List.set_cons_succ]
          refine wpAnyH_take (i := 1) (v := .slice (some ⟨b3, o3, none⟩) m c3) rfl (by kernel_rfl) (by kernel_rfl) (by kernel_rfl) (fun _ _ _ h => h) (Or.inl ⟨by rfl, ?_⟩) hS0 ?_
          · intro w' hSw
            obtain ⟨_, s0, s1, s2, s3, s4⟩ := hSw
            go_simp
          simp only [List.getElem_toArray, List.getElem_cons_succ, List.getElem_cons_zero, Act.put, List.setIfInBounds_toArray, List.set_cons_zero, List.set_cons_succ]
          refine wpAnyH_take (i := 2) (v := .int .i64 k) rfl (by kernel_rfl) (by kernel_rfl) (by kernel_rfl) (fun _ _ _ h => h) (Or.inl ⟨by rfl, ?_⟩) hS0 ?_
          · intro w' hSw
            obtain ⟨_, s0, s1, s2, s3, s4⟩ := hSw
            go_simp
          simp only [List.getElem_toArray, List.getElem_cons_succ, List.getElem_cons_zero, Act.put, List.setIfInBounds_toArray, List.set_cons_zero, List.set_cons_succ]
          refine wpAnyH_take (i := 3) (v := .pointer (some ⟨b3, o3 + k, none⟩)) rfl (by kernel_rfl) (by kernel_rfl) (by kernel_rfl) (fun _ _ _ h => h) (Or.inl ⟨by rfl, ?_⟩) hS0 ?_
          · intro w' hSw
            obtain ⟨_, s0, s1, s2, s3, s4⟩ := hSw
            go_simp
          simp only [List.getElem_toArray, List.getElem_cons_succ, List.getElem_cons_zero, Act.put, List.setIfInBounds_toArray, List.set_cons_zero, List.set_cons_succ]
          refine wpAnyH_take (i := 4) (v := .string x) rfl (by kernel_rfl) (by kernel_rfl) (by kernel_rfl) (fun _ _ _ h => h) (Or.inl ⟨by rfl, ?_⟩) hS0 ?_
          · intro w' hSw
            obtain ⟨_, s0, s1, s2, s3, s4⟩ := hSw
            go_simp
          simp only [List.getElem_toArray, List.getElem_cons_succ, List.getElem_cons_zero, Act.put, List.setIfInBounds_toArray, List.set_cons_zero, List.set_cons_succ]
          refine wpAnyH_ready (rs := [5]) (by kernel_rfl) (by simp) (AllReadyH.cons rfl (fun K hK => ?_) AllReadyH.nil)
          go_simp
          refine (HA2.out _ hb0).mono ?_
          rintro e w11 ⟨rfl, hb11⟩
          refine hK.out _ _ (HKr.out _ hb11) (fun hS0 => ?_)
          clear hK K
          refine wpAnyH_take (i := 6) (v := .bool false) rfl (by kernel_rfl) (by kernel_rfl) (by kernel_rfl) (fun _ _ _ h => h) (Or.inl ⟨by rfl, ?_⟩) hS0 ?_
          · intro w' hSw
            obtain ⟨_, s0, s1, s2, s3, s4⟩ := hSw
            go_simp
          simp only [List.getElem_toArray, List.getElem_cons_succ, List.getElem_cons_zero, Act.put, List.setIfInBounds_toArray, List.set_cons_zero, List.set_cons_succ]
          refine wpAnyH_take (i := 7) (v := undef) rfl (by kernel_rfl) (by kernel_rfl) (by kernel_rfl) (fun _ _ _ h => h) (Or.inr ⟨by rfl, rfl⟩) hS0 ?_
          simp only [List.getElem_toArray, List.getElem_cons_succ, List.getElem_cons_zero, Act.put, List.setIfInBounds_toArray, List.set_cons_zero, List.set_cons_succ]
          refine wpAnyH_take (i := 8) (v := undef) rfl (by kernel_rfl) (by kernel_rfl) (by kernel_rfl) (fun _ _ _ h => h) (Or.inr ⟨by rfl, rfl⟩) hS0 ?_
          simp only [List.getElem_toArray, List.getElem_cons_succ, List.getElem_cons_zero, Act.put, List.setIfInBounds_toArray, List.set_cons_zero, List.set_cons_succ]
          refine wpAnyH_take (i := 9) (v := undef) rfl (by kernel_rfl) (by kernel_rfl) (by kernel_rfl) (fun _ _ _ h => h) (Or.inr ⟨by rfl, rfl⟩) hS0 ?_
          simp only [List.getElem_toArray, List.getElem_cons_succ, List.getElem_cons_zero, Act.put, List.setIfInBounds_toArray, List.set_cons_zero, List.set_cons_succ]
          refine wpAnyH_take (i := 10) (v := undef) rfl (by kernel_rfl) (by kernel_rfl) (by kernel_rfl) (fun _ _ _ h => h) (Or.inr ⟨by rfl, rfl⟩) hS0 ?_
          simp only [List.getElem_toArray, List.getElem_cons_succ, List.getElem_cons_zero, Act.put, List.setIfInBounds_toArray, List.set_cons_zero, List.set_cons_succ]
          refine wpAnyH_take (i := 11) (v := undef) rfl (by kernel_rfl) (by kernel_rfl) (by kernel_rfl) (fun _ _ _ h => h) (Or.inr ⟨by rfl, rfl⟩) hS0 ?_
          simp only [List.getElem_toArray, List.getElem_cons_succ, List.getElem_cons_zero, Act.put, List.setIfInBounds_toArray, List.set_cons_zero, List.set_cons_succ]
          refine wpAnyH_take (i := 12) (v := undef) rfl (by kernel_rfl) (by kernel_rfl) (by kernel_rfl) (fun _ _ _ h => h) (Or.inr ⟨by rfl, rfl⟩) hS0 ?_
          simp only [List.getElem_toArray, List.getElem_cons_succ, List.getElem_cons_zero, Act.put, List.setIfInBounds_toArray, List.set_cons_zero, List.set_cons_succ]
          refine wpAnyH_take (i := 13) (v := .bool false) rfl (by kernel_rfl) (by kernel_rfl) (by kernel_rfl) (fun _ _ _ h => h) (Or.inl ⟨by rfl, ?_⟩) hS0 ?_
          · intro w' hSw
            obtain ⟨_, s0, s1, s2, s3, s4⟩ := hSw
            go_simp
          simp only [List.getElem_toArray, List.getElem_cons_succ, List.getElem_cons_zero, Act.put, List.setIfInBounds_toArray, List.set_cons_zero, List.set_cons_succ]
          refine wpAnyH_take (i := 14) (v := .bool false) rfl (by kernel_rfl) (by kernel_rfl) (by kernel_rfl) (fun _ _ _ h => h) (Or.inl ⟨by rfl, ?_⟩) hS0 ?_
          · intro w' hSw
            obtain ⟨_, s0, s1, s2, s3, s4⟩ := hSw
            go_simp
          simp only [List.getElem_toArray, List.getElem_cons_succ, List.getElem_cons_zero, Act.put, List.setIfInBounds_toArray, List.set_cons_zero, List.set_cons_succ]
          refine wpAnyH_done (by kernel_rfl) ?_ _
          refine NoPanic.normal ?_
          have C2 := HC.out.below hb11
          obtain ⟨r8, r9, r10, r11⟩ := box2 C2.boxc
          have hcx2 := (hb11.cell (p := ⟨b3, o3 + k, none⟩) hb3r).trans hcx
          have HP := Lib.hid (fun W (hb : Below w11.heap.size w11 W) => put_any ys C2.pair R N cR x W (C2.below hb).seen C2.cap C2.form (by omega))
          have HC2 := Lib.hid C2
          have hb20 : Below w11.heap.size w11 w11.drew := (Below.refl _ _).drew
          clear C2 hcx q0 q1 q2 q3 q4 q5 q6 q7 q8 q9 q10 q11
          go_wp2_with fail
          go_region_with (first
            | (go_at_call 141; (with_reducible refine (HP.out _ hb20).mono ?_); rintro e w4 ⟨A4, c4, zs, rfl, hf4, hs4, hc4, hp4, hm4, hl4, hb4⟩; have hP := HC2.out.put (hb20.trans hb4) hs4 hc4 hf4 hp4; obtain ⟨s6, s7, s8, s9⟩ := box2 hP.1; have HPP := Lib.hid hP.2; have Hm4 := Lib.hid hm4; clear hP hm4))
          all_goals
            go_wp2_with fail
            go_roundw
            case rel => exact ⟨k + 1, A4, _, c4, zs, by omega, by have := HN.out; omega, rfl, by go_num, HPP.out, Lib.hid (fun y => by rw [Hm4.out, H.out, mem_take Hx3.out, or_and_right]; exact ⟨fun g => g.elim (fun e => .inr ⟨e, by rw [e, Hpa.out, Hpb.out]; rfl⟩) .inl, fun g => g.elim .inr (fun e => .inl e.1)⟩)⟩
            case measure => simp [intOf]; omega
        · have HA' := HA.out
          have HB' := HB.out
          rw [hpa] at HA'
          rw [hpb] at HB'
          have HA2 := Lib.hid HA'
          have HB2 := Lib.hid HB'
          have Hpa := Lib.hid hpa
          have Hpb := Lib.hid hpb
          clear HA' HB' hpa hpb HA HB
          go_wp2_with fail
          refine wp_region_noPanic (wp_region_held_drew (S := fun W => Below wr.heap.size wr W ∧ W.cell? ⟨w.heap.size, 0, none⟩ = some (.bool true) ∧ W.cell? ⟨w.heap.size, 1, none⟩ = some (.slice A n c) ∧ W.cell? ⟨w.heap.size + 1, 0, none⟩ = some (.bool true) ∧ W.cell? ⟨w.heap.size + 1, 1, none⟩ = some (.slice A2 n2 c2) ∧ W.cell? ⟨b3, o3 + k, none⟩ = some (.string x)) (by kernel_rfl) (HKr.out _ hb0) (fun hS0 => ?_))
          refine wpAnyH_take (i := 0) (v := .agg #[.bool true, .slice A n c]) rfl (by kernel_rfl) (by kernel_rfl) (by kernel_rfl) (fun _ _ _ h => h) (Or.inl ⟨by rfl, ?_⟩) hS0 ?_
          · intro w' hSw
            obtain ⟨_, s0, s1, s2, s3, s4⟩ := hSw
            go_simp
          simp only [List.getElem_toArray, List.getElem_cons_zero, Act.put, List.setIfInBounds_toArray, List.set_cons_zero, List.set_cons_succ]
          refine wpAnyH_take (i := 1) (v := .slice (some ⟨b3, o3, none⟩) m c3) rfl (by kernel_rfl) (by kernel_rfl) (by kernel_rfl) (fun _ _ _ h => h) (Or.inl ⟨by rfl, ?_⟩) hS0 ?_
          · intro w' hSw
            obtain ⟨_, s0, s1, s2, s3, s4⟩ := hSw
            go_simp
          simp only [List.getElem_toArray, List.getElem_cons_succ, List.getElem_cons_zero, Act.put, List.setIfInBounds_toArray, List.set_cons_zero, List.set_cons_succ]
          refine wpAnyH_take (i := 2) (v := .int .i64 k) rfl (by kernel_rfl) (by kernel_rfl) (by kernel_rfl) (fun _ _ _ h => h) (Or.inl ⟨by rfl, ?_⟩) hS0 ?_
          · intro w' hSw
            obtain ⟨_, s0, s1, s2, s3, s4⟩ := hSw
            go_simp
          simp only [List.getElem_toArray, List.getElem_cons_succ, List.getElem_cons_zero, Act.put, List.setIfInBounds_toArray, List.set_cons_zero, List.set_cons_succ]
          refine wpAnyH_take (i := 3) (v := .pointer (some ⟨b3, o3 + k, none⟩)) rfl (by kernel_rfl) (by kernel_rfl) (by kernel_rfl) (fun _ _ _ h => h) (Or.inl ⟨by rfl, ?_⟩) hS0 ?_
          · intro w' hSw
            obtain ⟨_, s0, s1, s2, s3, s4⟩ := hSw
            go_simp
          simp only [List.getElem_toArray, List.getElem_cons_succ, List.getElem_cons_zero, Act.put, List.setIfInBounds_toArray, List.set_cons_zero, List.set_cons_succ]
          refine wpAnyH_take (i := 4) (v := .string x) rfl (by kernel_rfl) (by kernel_rfl) (by kernel_rfl) (fun _ _ _ h => h) (Or.inl ⟨by rfl, ?_⟩) hS0 ?_
          · intro w' hSw
            obtain ⟨_, s0, s1, s2, s3, s4⟩ := hSw
            go_simp
          simp only [List.getElem_toArray, List.getElem_cons_succ, List.getElem_cons_zero, Act.put, List.setIfInBounds_toArray, List.set_cons_zero, List.set_cons_succ]
          refine wpAnyH_ready (rs := [5]) (by kernel_rfl) (by simp) (AllReadyH.cons rfl (fun K hK => ?_) AllReadyH.nil)
          go_simp
          refine (HA2.out _ hb0).mono ?_
          rintro e w11 ⟨rfl, hb11⟩
          refine hK.out _ _ (HKr.out _ hb11) (fun hS0 => ?_)
          clear hK K
          refine wpAnyH_take (i := 6) (v := .bool false) rfl (by kernel_rfl) (by kernel_rfl) (by kernel_rfl) (fun _ _ _ h => h) (Or.inl ⟨by rfl, ?_⟩) hS0 ?_
          · intro w' hSw
            obtain ⟨_, s0, s1, s2, s3, s4⟩ := hSw
            go_simp
          simp only [List.getElem_toArray, List.getElem_cons_succ, List.getElem_cons_zero, Act.put, List.setIfInBounds_toArray, List.set_cons_zero, List.set_cons_succ]
          refine wpAnyH_take (i := 7) (v := undef) rfl (by kernel_rfl) (by kernel_rfl) (by kernel_rfl) (fun _ _ _ h => h) (Or.inr ⟨by rfl, rfl⟩) hS0 ?_
          simp only [List.getElem_toArray, List.getElem_cons_succ, List.getElem_cons_zero, Act.put, List.setIfInBounds_toArray, List.set_cons_zero, List.set_cons_succ]
          refine wpAnyH_take (i := 8) (v := undef) rfl (by kernel_rfl) (by kernel_rfl) (by kernel_rfl) (fun _ _ _ h => h) (Or.inr ⟨by rfl, rfl⟩) hS0 ?_
          simp only [List.getElem_toArray, List.getElem_cons_succ, List.getElem_cons_zero, Act.put, List.setIfInBounds_toArray, List.set_cons_zero, List.set_cons_succ]
          refine wpAnyH_take (i := 9) (v := undef) rfl (by kernel_rfl) (by kernel_rfl) (by kernel_rfl) (fun _ _ _ h => h) (Or.inr ⟨by rfl, rfl⟩) hS0 ?_
          simp only [List.getElem_toArray, List.getElem_cons_succ, List.getElem_cons_zero, Act.put, List.setIfInBounds_toArray, List.set_cons_zero, List.set_cons_succ]
          refine wpAnyH_take (i := 10) (v := undef) rfl (by kernel_rfl) (by kernel_rfl) (by kernel_rfl) (fun _ _ _ h => h) (Or.inr ⟨by rfl, rfl⟩) hS0 ?_
          simp only [List.getElem_toArray, List.getElem_cons_succ, List.getElem_cons_zero, Act.put, List.setIfInBounds_toArray, List.set_cons_zero, List.set_cons_succ]
          refine wpAnyH_take (i := 11) (v := undef) rfl (by kernel_rfl) (by kernel_rfl) (by kernel_rfl) (fun _ _ _ h => h) (Or.inr ⟨by rfl, rfl⟩) hS0 ?_
          simp only [List.getElem_toArray, List.getElem_cons_succ, List.getElem_cons_zero, Act.put, List.setIfInBounds_toArray, List.set_cons_zero, List.set_cons_succ]
          refine wpAnyH_take (i := 12) (v := undef) rfl (by kernel_rfl) (by kernel_rfl) (by kernel_rfl) (fun _ _ _ h => h) (Or.inr ⟨by rfl, rfl⟩) hS0 ?_
          simp only [List.getElem_toArray, List.getElem_cons_succ, List.getElem_cons_zero, Act.put, List.setIfInBounds_toArray, List.set_cons_zero, List.set_cons_succ]
          refine wpAnyH_take (i := 13) (v := .bool false) rfl (by kernel_rfl) (by kernel_rfl) (by kernel_rfl) (fun _ _ _ h => h) (Or.inl ⟨by rfl, ?_⟩) hS0 ?_
          · intro w' hSw
            obtain ⟨_, s0, s1, s2, s3, s4⟩ := hSw
            go_simp
          simp only [List.getElem_toArray, List.getElem_cons_succ, List.getElem_cons_zero, Act.put, List.setIfInBounds_toArray, List.set_cons_zero, List.set_cons_succ]
          refine wpAnyH_take (i := 14) (v := .bool false) rfl (by kernel_rfl) (by kernel_rfl) (by kernel_rfl) (fun _ _ _ h => h) (Or.inl ⟨by rfl, ?_⟩) hS0 ?_
          · intro w' hSw
            obtain ⟨_, s0, s1, s2, s3, s4⟩ := hSw
            go_simp
          simp only [List.getElem_toArray, List.getElem_cons_succ, List.getElem_cons_zero, Act.put, List.setIfInBounds_toArray, List.set_cons_zero, List.set_cons_succ]
          refine wpAnyH_done (by kernel_rfl) ?_ _
          refine NoPanic.normal ?_
          have C2 := HC.out.below hb11
          obtain ⟨r8, r9, r10, r11⟩ := box2 C2.boxc
          have hcx2 := (hb11.cell (p := ⟨b3, o3 + k, none⟩) hb3r).trans hcx
          have HP := Lib.hid (fun W (hb : Below w11.heap.size w11 W) => put_any ys C2.pair R N cR x W (C2.below hb).seen C2.cap C2.form (by omega))
          have HC2 := Lib.hid C2
          have hb20 : Below w11.heap.size w11 w11.drew := (Below.refl _ _).drew
          clear C2 hcx q0 q1 q2 q3 q4 q5 q6 q7 q8 q9 q10 q11
          go_wp2_with fail
          go_region_with (first
            | (go_at_call 141; (with_reducible refine (HP.out _ hb20).mono ?_); rintro e w4 ⟨A4, c4, zs, rfl, hf4, hs4, hc4, hp4, hm4, hl4, hb4⟩; have hP := HC2.out.put (hb20.trans hb4) hs4 hc4 hf4 hp4; obtain ⟨s6, s7, s8, s9⟩ := box2 hP.1; have HPP := Lib.hid hP.2; have Hm4 := Lib.hid hm4; clear hP hm4))
          all_goals
            go_wp2_with fail
            go_roundw
            case rel => exact ⟨k + 1, A4, _, c4, zs, by omega, by have := HN.out; omega, rfl, by go_num, HPP.out, Lib.hid (fun y => by rw [Hm4.out, H.out, mem_take Hx3.out, or_and_right]; exact ⟨fun g => g.elim (fun e => .inr ⟨e, by rw [e, Hpa.out, Hpb.out]; rfl⟩) .inl, fun g => g.elim .inr (fun e => .inl e.1)⟩)⟩
            case measure => simp [intOf]; omega
        · have HA' := HA.out
          have HB' := HB.out
          rw [hpa] at HA'
          rw [hpb] at HB'
          have HA2 := Lib.hid HA'
          have HB2 := Lib.hid HB'
          have Hpa := Lib.hid hpa
          have Hpb := Lib.hid hpb
          clear HA' HB' hpa hpb HA HB
          go_wp2_with fail
          refine wp_region_noPanic (wp_region_held_drew (S := fun W => Below wr.heap.size wr W ∧ W.cell? ⟨w.heap.size, 0, none⟩ = some (.bool true) ∧ W.cell? ⟨w.heap.size, 1, none⟩ = some (.slice A n c) ∧ W.cell? ⟨w.heap.size + 1, 0, none⟩ = some (.bool true) ∧ W.cell? ⟨w.heap.size + 1, 1, none⟩ = some (.slice A2 n2 c2) ∧ W.cell? ⟨b3, o3 + k, none⟩ = some (.string x)) (by kernel_rfl) (HKr.out _ hb0) (fun hS0 => ?_))
          refine wpAnyH_take (i := 0) (v := .agg #[.bool true, .slice A n c]) rfl (by kernel_rfl) (by kernel_rfl) (by kernel_rfl) (fun _ _ _ h => h) (Or.inl ⟨by rfl, ?_⟩) hS0 ?_
          · intro w' hSw
            obtain ⟨_, s0, s1, s2, s3, s4⟩ := hSw
            go_simp
          simp only [List.getElem_toArray, List.getElem_cons_zero, Act.put, List.setIfInBounds_toArray, List.set_cons_zero, List.set_cons_succ]
          refine wpAnyH_take (i := 1) (v := .slice (some ⟨b3, o3, none⟩) m c3) rfl (by kernel_rfl) (by kernel_rfl) (by kernel_rfl) (fun _ _ _ h => h) (Or.inl ⟨by rfl, ?_⟩) hS0 ?_
          · intro w' hSw
            obtain ⟨_, s0, s1, s2, s3, s4⟩ := hSw
            go_simp
          simp only [List.getElem_toArray, List.getElem_cons_succ, List.getElem_cons_zero, Act.put, List.setIfInBounds_toArray, List.set_cons_zero, List.set_cons_succ]
          refine wpAnyH_take (i := 2) (v := .int .i64 k) rfl (by kernel_rfl) (by kernel_rfl) (by kernel_rfl) (fun _ _ _ h => h) (Or.inl ⟨by rfl, ?_⟩) hS0 ?_
          · intro w' hSw
            obtain ⟨_, s0, s1, s2, s3, s4⟩ := hSw
            go_simp
          simp only [List.getElem_toArray, List.getElem_cons_succ, List.getElem_cons_zero, Act.put, List.setIfInBounds_toArray, List.set_cons_zero, List.set_cons_succ]
          refine wpAnyH_take (i := 3) (v := .pointer (some ⟨b3, o3 + k, none⟩)) rfl (by kernel_rfl) (by kernel_rfl) (by kernel_rfl) (fun _ _ _ h => h) (Or.inl ⟨by rfl, ?_⟩) hS0 ?_
          · intro w' hSw
            obtain ⟨_, s0, s1, s2, s3, s4⟩ := hSw
            go_simp
          simp only [List.getElem_toArray, List.getElem_cons_succ, List.getElem_cons_zero, Act.put, List.setIfInBounds_toArray, List.set_cons_zero, List.set_cons_succ]
          refine wpAnyH_take (i := 4) (v := .string x) rfl (by kernel_rfl) (by kernel_rfl) (by kernel_rfl) (fun _ _ _ h => h) (Or.inl ⟨by rfl, ?_⟩) hS0 ?_
          · intro w' hSw
            obtain ⟨_, s0, s1, s2, s3, s4⟩ := hSw
            go_simp
          simp only [List.getElem_toArray, List.getElem_cons_succ, List.getElem_cons_zero, Act.put, List.setIfInBounds_toArray, List.set_cons_zero, List.set_cons_succ]
          refine wpAnyH_ready (rs := [5]) (by kernel_rfl) (by simp) (AllReadyH.cons rfl (fun K hK => ?_) AllReadyH.nil)
          go_simp
          refine (HA2.out _ hb0).mono ?_
          rintro e w11 ⟨rfl, hb11⟩
          refine hK.out _ _ (HKr.out _ hb11) (fun hS0 => ?_)
          clear hK K
          refine wpAnyH_take (i := 6) (v := .bool true) rfl (by kernel_rfl) (by kernel_rfl) (by kernel_rfl) (fun _ _ _ h => h) (Or.inl ⟨by rfl, ?_⟩) hS0 ?_
          · intro w' hSw
            obtain ⟨_, s0, s1, s2, s3, s4⟩ := hSw
            go_simp
          simp only [List.getElem_toArray, List.getElem_cons_succ, List.getElem_cons_zero, Act.put, List.setIfInBounds_toArray, List.set_cons_zero, List.set_cons_succ]
          refine wpAnyH_take (i := 7) (v := .agg #[.bool true, .slice A2 n2 c2]) rfl (by kernel_rfl) (by kernel_rfl) (by kernel_rfl) (fun _ _ _ h => h) (Or.inl ⟨by rfl, ?_⟩) hS0 ?_
          · intro w' hSw
            obtain ⟨_, s0, s1, s2, s3, s4⟩ := hSw
            go_simp
          simp only [List.getElem_toArray, List.getElem_cons_succ, List.getElem_cons_zero, Act.put, List.setIfInBounds_toArray, List.set_cons_zero, List.set_cons_succ]
          refine wpAnyH_take (i := 8) (v := .slice (some ⟨b3, o3, none⟩) m c3) rfl (by kernel_rfl) (by kernel_rfl) (by kernel_rfl) (fun _ _ _ h => h) (Or.inl ⟨by rfl, ?_⟩) hS0 ?_
          · intro w' hSw
            obtain ⟨_, s0, s1, s2, s3, s4⟩ := hSw
            go_simp
          simp only [List.getElem_toArray, List.getElem_cons_succ, List.getElem_cons_zero, Act.put, List.setIfInBounds_toArray, List.set_cons_zero, List.set_cons_succ]
          refine wpAnyH_take (i := 9) (v := .int .i64 k) rfl (by kernel_rfl) (by kernel_rfl) (by kernel_rfl) (fun _ _ _ h => h) (Or.inl ⟨by rfl, ?_⟩) hS0 ?_
          · intro w' hSw
            obtain ⟨_, s0, s1, s2, s3, s4⟩ := hSw
            go_simp
          simp only [List.getElem_toArray, List.getElem_cons_succ, List.getElem_cons_zero, Act.put, List.setIfInBounds_toArray, List.set_cons_zero, List.set_cons_succ]
          refine wpAnyH_take (i := 10) (v := .pointer (some ⟨b3, o3 + k, none⟩)) rfl (by kernel_rfl) (by kernel_rfl) (by kernel_rfl) (fun _ _ _ h => h) (Or.inl ⟨by rfl, ?_⟩) hS0 ?_
          · intro w' hSw
            obtain ⟨_, s0, s1, s2, s3, s4⟩ := hSw
            go_simp
          simp only [List.getElem_toArray, List.getElem_cons_succ, List.getElem_cons_zero, Act.put, List.setIfInBounds_toArray, List.set_cons_zero, List.set_cons_succ]
          refine wpAnyH_take (i := 11) (v := .string x) rfl (by kernel_rfl) (by kernel_rfl) (by kernel_rfl) (fun _ _ _ h => h) (Or.inl ⟨by rfl, ?_⟩) hS0 ?_
          · intro w' hSw
            obtain ⟨_, s0, s1, s2, s3, s4⟩ := hSw
            go_simp
          simp only [List.getElem_toArray, List.getElem_cons_succ, List.getElem_cons_zero, Act.put, List.setIfInBounds_toArray, List.set_cons_zero, List.set_cons_succ]
          refine wpAnyH_ready (rs := [12]) (by kernel_rfl) (by simp) (AllReadyH.cons rfl (fun K hK => ?_) AllReadyH.nil)
          go_simp
          refine (HB2.out _ hb11).mono ?_
          rintro e w12 ⟨rfl, hb12⟩
          refine hK.out _ _ (HKr.out _ hb12) (fun hS0 => ?_)
          clear hK K
          refine wpAnyH_take (i := 13) (v := .bool false) rfl (by kernel_rfl) (by kernel_rfl) (by kernel_rfl) (fun _ _ _ h => h) (Or.inl ⟨by rfl, ?_⟩) hS0 ?_
          · intro w' hSw
            obtain ⟨_, s0, s1, s2, s3, s4⟩ := hSw
            go_simp
          simp only [List.getElem_toArray, List.getElem_cons_succ, List.getElem_cons_zero, Act.put, List.setIfInBounds_toArray, List.set_cons_zero, List.set_cons_succ]
          refine wpAnyH_take (i := 14) (v := .bool false) rfl (by kernel_rfl) (by kernel_rfl) (by kernel_rfl) (fun _ _ _ h => h) (Or.inl ⟨by rfl, ?_⟩) hS0 ?_
          · intro w' hSw
            obtain ⟨_, s0, s1, s2, s3, s4⟩ := hSw
            go_simp
          simp only [List.getElem_toArray, List.getElem_cons_succ, List.getElem_cons_zero, Act.put, List.setIfInBounds_toArray, List.set_cons_zero, List.set_cons_succ]
          refine wpAnyH_done (by kernel_rfl) ?_ _
          refine NoPanic.normal ?_
          have C2 := HC.out.below hb12
          obtain ⟨r8, r9, r10, r11⟩ := box2 C2.boxc
          have hcx2 := (hb12.cell (p := ⟨b3, o3 + k, none⟩) hb3r).trans hcx
          have HP := Lib.hid (fun W (hb : Below w12.heap.size w12 W) => put_any ys C2.pair R N cR x W (C2.below hb).seen C2.cap C2.form (by omega))
          have HC2 := Lib.hid C2
          have hb20 : Below w12.heap.size w12 w12.drew := (Below.refl _ _).drew
          clear C2 hcx q0 q1 q2 q3 q4 q5 q6 q7 q8 q9 q10 q11
          go_wp2_with fail
          go_region_with (first
            | (go_at_call 141; (with_reducible refine (HP.out _ hb20).mono ?_); rintro e w4 ⟨A4, c4, zs, rfl, hf4, hs4, hc4, hp4, hm4, hl4, hb4⟩; have hP := HC2.out.put (hb20.trans hb4) hs4 hc4 hf4 hp4; obtain ⟨s6, s7, s8, s9⟩ := box2 hP.1; have HPP := Lib.hid hP.2; have Hm4 := Lib.hid hm4; clear hP hm4))
          all_goals
            go_wp2_with fail
            go_roundw
            case rel => exact ⟨k + 1, A4, _, c4, zs, by omega, by have := HN.out; omega, rfl, by go_num, HPP.out, Lib.hid (fun y => by rw [Hm4.out, H.out, mem_take Hx3.out, or_and_right]; exact ⟨fun g => g.elim (fun e => .inr ⟨e, by rw [e, Hpa.out, Hpb.out]; rfl⟩) .inl, fun g => g.elim .inr (fun e => .inl e.1)⟩)⟩
            case measure => simp [intOf]; omega
        · have HA' := HA.out
          have HB' := HB.out
          rw [hpa] at HA'
          rw [hpb] at HB'
          have HA2 := Lib.hid HA'
          have HB2 := Lib.hid HB'
          have Hpa := Lib.hid hpa
          have Hpb := Lib.hid hpb
          clear HA' HB' hpa hpb HA HB
          go_wp2_with fail
          refine wp_region_noPanic (wp_region_held_drew (S := fun W => Below wr.heap.size wr W ∧ W.cell? ⟨w.heap.size, 0, none⟩ = some (.bool true) ∧ W.cell? ⟨w.heap.size, 1, none⟩ = some (.slice A n c) ∧ W.cell? ⟨w.heap.size + 1, 0, none⟩ = some (.bool true) ∧ W.cell? ⟨w.heap.size + 1, 1, none⟩ = some (.slice A2 n2 c2) ∧ W.cell? ⟨b3, o3 + k, none⟩ = some (.string x)) (by kernel_rfl) (HKr.out _ hb0) (fun hS0 => ?_))
          refine wpAnyH_take (i := 0) (v := .agg #[.bool true, .slice A n c]) rfl (by kernel_rfl) (by kernel_rfl) (by kernel_rfl) (fun _ _ _ h => h) (Or.inl ⟨by rfl, ?_⟩) hS0 ?_
          · intro w' hSw
            obtain ⟨_, s0, s1, s2, s3, s4⟩ := hSw
            go_simp
          simp only [List.getElem_toArray, List.getElem_cons_zero, Act.put, List.setIfInBounds_toArray, List.set_cons_zero, List.set_cons_succ]
          refine wpAnyH_take (i := 1) (v := .slice (some ⟨b3, o3, none⟩) m c3) rfl (by kernel_rfl) (by kernel_rfl) (by kernel_rfl) (fun _ _ _ h => h) (Or.inl ⟨by rfl, ?_⟩) hS0 ?_
          · intro w' hSw
            obtain ⟨_, s0, s1, s2, s3, s4⟩ := hSw
            go_simp
          simp only [List.getElem_toArray, List.getElem_cons_succ, List.getElem_cons_zero, Act.put, List.setIfInBounds_toArray, List.set_cons_zero, List.set_cons_succ]
          refine wpAnyH_take (i := 2) (v := .int .i64 k) rfl (by kernel_rfl) (by kernel_rfl) (by kernel_rfl) (fun _ _ _ h => h) (Or.inl ⟨by rfl, ?_⟩) hS0 ?_
          · intro w' hSw
            obtain ⟨_, s0, s1, s2, s3, s4⟩ := hSw
            go_simp
          simp only [List.getElem_toArray, List.getElem_cons_succ, List.getElem_cons_zero, Act.put, List.setIfInBounds_toArray, List.set_cons_zero, List.set_cons_succ]
          refine wpAnyH_take (i := 3) (v := .pointer (some ⟨b3, o3 + k, none⟩)) rfl (by kernel_rfl) (by kernel_rfl) (by kernel_rfl) (fun _ _ _ h => h) (Or.inl ⟨by rfl, ?_⟩) hS0 ?_
          · intro w' hSw
            obtain ⟨_, s0, s1, s2, s3, s4⟩ := hSw
            go_simp
          simp only [List.getElem_toArray, List.getElem_cons_succ, List.getElem_cons_zero, Act.put, List.setIfInBounds_toArray, List.set_cons_zero, List.set_cons_succ]
          refine wpAnyH_take (i := 4) (v := .string x) rfl (by kernel_rfl) (by kernel_rfl) (by kernel_rfl) (fun _ _ _ h => h) (Or.inl ⟨by rfl, ?_⟩) hS0 ?_
          · intro w' hSw
            obtain ⟨_, s0, s1, s2, s3, s4⟩ := hSw
            go_simp
          simp only [List.getElem_toArray, List.getElem_cons_succ, List.getElem_cons_zero, Act.put, List.setIfInBounds_toArray, List.set_cons_zero, List.set_cons_succ]
          refine wpAnyH_ready (rs := [5]) (by kernel_rfl) (by simp) (AllReadyH.cons rfl (fun K hK => ?_) AllReadyH.nil)
          go_simp
          refine (HA2.out _ hb0).mono ?_
          rintro e w11 ⟨rfl, hb11⟩
          refine hK.out _ _ (HKr.out _ hb11) (fun hS0 => ?_)
          clear hK K
          refine wpAnyH_take (i := 6) (v := .bool true) rfl (by kernel_rfl) (by kernel_rfl) (by kernel_rfl) (fun _ _ _ h => h) (Or.inl ⟨by rfl, ?_⟩) hS0 ?_
          · intro w' hSw
            obtain ⟨_, s0, s1, s2, s3, s4⟩ := hSw
            go_simp
          simp only [List.getElem_toArray, List.getElem_cons_succ, List.getElem_cons_zero, Act.put, List.setIfInBounds_toArray, List.set_cons_zero, List.set_cons_succ]
          refine wpAnyH_take (i := 7) (v := .agg #[.bool true, .slice A2 n2 c2]) rfl (by kernel_rfl) (by kernel_rfl) (by kernel_rfl) (fun _ _ _ h => h) (Or.inl ⟨by rfl, ?_⟩) hS0 ?_
          · intro w' hSw
            obtain ⟨_, s0, s1, s2, s3, s4⟩ := hSw
            go_simp
          simp only [List.getElem_toArray, List.getElem_cons_succ, List.getElem_cons_zero, Act.put, List.setIfInBounds_toArray, List.set_cons_zero, List.set_cons_succ]
          refine wpAnyH_take (i := 8) (v := .slice (some ⟨b3, o3, none⟩) m c3) rfl (by kernel_rfl) (by kernel_rfl) (by kernel_rfl) (fun _ _ _ h => h) (Or.inl ⟨by rfl, ?_⟩) hS0 ?_
          · intro w' hSw
            obtain ⟨_, s0, s1, s2, s3, s4⟩ := hSw
            go_simp
          simp only [List.getElem_toArray, List.getElem_cons_succ, List.getElem_cons_zero, Act.put, List.setIfInBounds_toArray, List.set_cons_zero, List.set_cons_succ]
          refine wpAnyH_take (i := 9) (v := .int .i64 k) rfl (by kernel_rfl) (by kernel_rfl) (by kernel_rfl) (fun _ _ _ h => h) (Or.inl ⟨by rfl, ?_⟩) hS0 ?_
          · intro w' hSw
            obtain ⟨_, s0, s1, s2, s3, s4⟩ := hSw
            go_simp
          simp only [List.getElem_toArray, List.getElem_cons_succ, List.getElem_cons_zero, Act.put, List.setIfInBounds_toArray, List.set_cons_zero, List.set_cons_succ]
          refine wpAnyH_take (i := 10) (v := .pointer (some ⟨b3, o3 + k, none⟩)) rfl (by kernel_rfl) (by kernel_rfl) (by kernel_rfl) (fun _ _ _ h => h) (Or.inl ⟨by rfl, ?_⟩) hS0 ?_
          · intro w' hSw
            obtain ⟨_, s0, s1, s2, s3, s4⟩ := hSw
            go_simp
          simp only [List.getElem_toArray, List.getElem_cons_succ, List.getElem_cons_zero, Act.put, List.setIfInBounds_toArray, List.set_cons_zero, List.set_cons_succ]
          refine wpAnyH_take (i := 11) (v := .string x) rfl (by kernel_rfl) (by kernel_rfl) (by kernel_rfl) (fun _ _ _ h => h) (Or.inl ⟨by rfl, ?_⟩) hS0 ?_
          · intro w' hSw
            obtain ⟨_, s0, s1, s2, s3, s4⟩ := hSw
            go_simp
          simp only [List.getElem_toArray, List.getElem_cons_succ, List.getElem_cons_zero, Act.put, List.setIfInBounds_toArray, List.set_cons_zero, List.set_cons_succ]
          refine wpAnyH_ready (rs := [12]) (by kernel_rfl) (by simp) (AllReadyH.cons rfl (fun K hK => ?_) AllReadyH.nil)
          go_simp
          refine (HB2.out _ hb11).mono ?_
          rintro e w12 ⟨rfl, hb12⟩
          refine hK.out _ _ (HKr.out _ hb12) (fun hS0 => ?_)
          clear hK K
          refine wpAnyH_take (i := 13) (v := .bool true) rfl (by kernel_rfl) (by kernel_rfl) (by kernel_rfl) (fun _ _ _ h => h) (Or.inl ⟨by rfl, ?_⟩) hS0 ?_
          · intro w' hSw
            obtain ⟨_, s0, s1, s2, s3, s4⟩ := hSw
            go_simp
          simp only [List.getElem_toArray, List.getElem_cons_succ, List.getElem_cons_zero, Act.put, List.setIfInBounds_toArray, List.set_cons_zero, List.set_cons_succ]
          refine wpAnyH_take (i := 14) (v := .bool true) rfl (by kernel_rfl) (by kernel_rfl) (by kernel_rfl) (fun _ _ _ h => h) (Or.inl ⟨by rfl, ?_⟩) hS0 ?_
          · intro w' hSw
            obtain ⟨_, s0, s1, s2, s3, s4⟩ := hSw
            go_simp
          simp only [List.getElem_toArray, List.getElem_cons_succ, List.getElem_cons_zero, Act.put, List.setIfInBounds_toArray, List.set_cons_zero, List.set_cons_succ]
          refine wpAnyH_done (by kernel_rfl) ?_ _
          refine NoPanic.normal ?_
          have C2 := HC.out.below hb12
          obtain ⟨r8, r9, r10, r11⟩ := box2 C2.boxc
          have HC2 := Lib.hid C2
          clear C2 q0 q1 q2 q3 q4 q5 q6 q7 q8 q9 q10 q11
          go_wp2_with fail
          go_roundw
          case rel => exact ⟨k + 1, R, N, cR, ys, by omega, by omega, HN.out, by go_num, HC2.out, Lib.hid (fun y => by rw [H.out, mem_take Hx3.out, or_and_right]; exact ⟨.inl, fun g => g.elim id (fun e => by rw [e.1, Hpa.out, Hpb.out] at e; exact absurd e.2 (by decide))⟩)⟩
          case measure => simp [intOf]; omega
      · have hkn : ¬ (k : Int) < (m : Int) := by omega
        have hkn2 : (m : Int) ≤ (k : Int) := by omega
        have HC := Lib.hid hC
        have HW := Lib.hid hwr
        have hbx := (hC.keep (w.heap.size + 1 + 1) (by omega) (by omega)).trans k2
        have hml := hs2.len
        rw [List.length_map] at hml
        have hys : ys = (comb (· && ·) (fr a) (fr b)).l := comb_l (· && ·) a b hC.pair (fun y => by
          have h1 := H.out y
          rw [List.take_of_length_le (by omega), HZ.out, ← Hf.out] at h1
          exact h1)
        have Hys := Lib.hid hys
        have hsee := hC.seen
        clear hC hys hwr hml
        go_wp2_with fail
        refine bodyPost_ret (v := .agg #[.bool true, .slice R N cR]) (by simp [results, Try.results140, go_sem, q4, q5]) rfl ?_
        exact told_put (s := comb (· && ·) (fr a) (fr b)) hbx (by rw [← Hys.out]; exact hsee) (by rw [← Hys.out]; exact HN.out) HW.out (by omega) HC0.out.symm
end Go.Proofs.Ytagoeededpmdkaa.Nm
