/- cadenceref3's Same: whether the same names are in both. Conditions: fewer than 2^62 names. -/
import Derived.Test.YtnjabeeogmldlaaNmRefNot
namespace Go.Proofs.Ytnjabeeogmldlaa.Nm
open Go.RowKit
set_option maxRecDepth 100000

set_option maxHeartbeats 4000000 in
theorem rsame_any (a b : St) (A A2 : Option Addr) (n c n2 c2 : Nat) (w : World) (h : In w a A n) (h2 : In w b A2 n2) (hn : n ≤ 4611686018427387904) (hn2 : n2 ≤ 4611686018427387904) :
    Calls Try.prog 56 #[.agg #[.bool a.all, .slice A n c], .agg #[.bool b.all, .slice A2 n2 c2]] w fun e w' => e = .returned (.bool (same a b)) ∧ Below w.heap.size w w' := by
  obtain ⟨W1, hW1, g0, g1, gs, gb⟩ := two w (Obj.cells #[Value.bool a.all, Value.slice A n c] 65) (Obj.cells #[Value.bool b.all, Value.slice A2 n2 c2] 65)
  have HA := Lib.hid ((h.below gb).sees)
  have HB := Lib.hid ((h2.below gb).sees)
  have Hl := Lib.hid h.len
  have Hl2 := Lib.hid h2.len
  have HS := Lib.hid (same_iff a b)
  obtain ⟨d, hd⟩ : ∃ d, d = same a b := ⟨_, rfl⟩
  rw [← hd] at HS ⊢
  clear hd h h2
  obtain ⟨x0, hx0⟩ : ∃ x, x = a.all := ⟨_, rfl⟩
  obtain ⟨y0, hy0⟩ : ∃ x, x = b.all := ⟨_, rfl⟩
  rw [← hx0] at g0 hW1 HS ⊢
  rw [← hy0] at g1 hW1 HS ⊢
  clear hx0 hy0
  by_cases h0 : x0 = y0
  · subst h0
    have HIa : Hid (∀ W, Below W1.heap.size W1 W → ∀ x : ByteArray, Calls Try.prog 99 #[.slice A n c, .string x] W fun e w' => e = .returned (.bool (decide (x.data.toList ∈ a.l))) ∧ W = w') :=
      Lib.hid fun W hb x => in_any a.l A n c W1.heap.size x W (HA.out.keep fun p hp => hb.cell hp) hn
    have HIb : Hid (∀ W, Below W1.heap.size W1 W → ∀ x : ByteArray, Calls Try.prog 99 #[.slice A2 n2 c2, .string x] W fun e w' => e = .returned (.bool (decide (x.data.toList ∈ b.l))) ∧ W = w') :=
      Lib.hid fun W hb x => in_any b.l A2 n2 c2 W1.heap.size x W (HB.out.keep fun p hp => hb.cell hp) hn2
    have hsz : w.heap.size + 1 < W1.heap.size := by omega
    go_enter Try.func56, Try.ntmps56
    go_wp2_with fail
    rw [← hW1]
    clear hW1
    go_loopw [5] (fun i wr => ∃ (k : Nat), k ≤ n ∧ i = .int .i64 k ∧ Below W1.heap.size W1 wr ∧ Hid (∀ y ∈ a.l.take k, y ∈ b.l)) (fun i _ => n - (intOf i).toNat)
    case atStart => exact ⟨0, Nat.zero_le _, rfl, Below.refl _ _, Lib.hid (by simp)⟩
    case round =>
      obtain ⟨k, hk, rfl, hb, H⟩ := hrel
      obtain ⟨q0, q1, _, _⟩ := box2 (Below.box hb g0)
      obtain ⟨q2, q3, _, _⟩ := box2 (Below.box hb g1)
      have hb0 : Below W1.heap.size W1 wr.drew := hb.drew
      by_cases hlt : k < n
      · obtain ⟨b3, o3, x, rfl, hb3, hc3, hx3⟩ := nth HA.out hlt
        have hcx := (hb.cell (p := ⟨b3, o3 + k, none⟩) hb3).trans hc3
        have Hx3 := Lib.hid hx3
        have hkn : (k : Int) < (n : Int) := by omega
        have hk0 : (0 : Int) ≤ (k : Int) := by omega
        have HI := Lib.hid (HIb.out _ hb0 x)
        clear hc3 hx3
        by_cases hin : x.data.toList ∈ b.l
        · rw [decide_eq_true hin] at HI
          have H2 : Hid (∀ y ∈ a.l.take (k + 1), y ∈ b.l) := Lib.hid fun y hy => ((mem_take Hx3.out).1 hy).elim (H.out y) (fun e => e ▸ hin)
          clear hin
          go_wp2_with fail
          go_region_held3 (fun w' => w' = wr.drew ∧ w'.cell? ⟨w.heap.size, 1, none⟩ = some (.slice (some ⟨b3, o3, none⟩) n c) ∧ w'.cell? ⟨w.heap.size + 1, 1, none⟩ = some (.slice A2 n2 c2) ∧ w'.cell? ⟨b3, o3 + k, none⟩ = some (.string x))
            (exact ⟨rfl, q1, q3, hcx⟩)
            ((go_at_call 99; (with_reducible refine HI.out.mono ?_); rintro e w' ⟨rfl, rfl⟩))
          all_goals
            go_wp2_with fail
            go_roundw
            case rel => exact ⟨k + 1, by omega, by go_num, hb0, H2⟩
            case measure => simp [intOf]; omega
        · rw [decide_eq_false hin] at HI
          have hd : d = false := by
            cases d with
            | false => rfl
            | true => exact absurd (((HS.out.1 rfl).2 _).1 (List.mem_of_getElem? Hx3.out)) hin
          subst hd
          clear hin
          go_wp2_with fail
          go_region_held3 (fun w' => w' = wr.drew ∧ w'.cell? ⟨w.heap.size, 1, none⟩ = some (.slice (some ⟨b3, o3, none⟩) n c) ∧ w'.cell? ⟨w.heap.size + 1, 1, none⟩ = some (.slice A2 n2 c2) ∧ w'.cell? ⟨b3, o3 + k, none⟩ = some (.string x))
            (exact ⟨rfl, q1, q3, hcx⟩)
            ((go_at_call 99; (with_reducible refine HI.out.mono ?_); rintro e w' ⟨rfl, rfl⟩))
          all_goals
            go_wp2_with fail
            go_ret
            exact ⟨rfl, gb.trans (hb0.mono (by omega))⟩
      · obtain rfl : k = n := by omega
        have hkn : ¬ (k : Int) < (k : Int) := by omega
        have HSub : Hid (∀ y ∈ a.l, y ∈ b.l) := by
          have := H.out
          rw [List.take_of_length_le (by rw [← Hl.out]; exact Nat.le_refl _)] at this
          exact Lib.hid this
        have hb' := hb
        clear H q0 q2
        go_wp2_with fail
        go_loopw [6] (fun i wr => ∃ (k : Nat), k ≤ n2 ∧ i = .int .i64 k ∧ Below W1.heap.size W1 wr ∧ Hid (∀ y ∈ b.l.take k, y ∈ a.l)) (fun i _ => n2 - (intOf i).toNat)
        case atStart => exact ⟨0, Nat.zero_le _, rfl, hb', Lib.hid (by simp)⟩
        case round =>
          clear q1 q3 hb0 hb hb'
          obtain ⟨j, hj, rfl, hb, H⟩ := hrel
          obtain ⟨q0, q1, _, _⟩ := box2 (Below.box hb g0)
          obtain ⟨q2, q3, _, _⟩ := box2 (Below.box hb g1)
          have hb0 : Below W1.heap.size W1 wr.drew := hb.drew
          by_cases hlt2 : j < n2
          · obtain ⟨b3, o3, x, rfl, hb3, hc3, hx3⟩ := nth HB.out hlt2
            have hcx := (hb.cell (p := ⟨b3, o3 + j, none⟩) hb3).trans hc3
            have Hx3 := Lib.hid hx3
            have hkn2 : (j : Int) < (n2 : Int) := by omega
            have hk0 : (0 : Int) ≤ (j : Int) := by omega
            have HI := Lib.hid (HIa.out _ hb0 x)
            clear hc3 hx3
            by_cases hin : x.data.toList ∈ a.l
            · rw [decide_eq_true hin] at HI
              have H2 : Hid (∀ y ∈ b.l.take (j + 1), y ∈ a.l) := Lib.hid fun y hy => ((mem_take Hx3.out).1 hy).elim (H.out y) (fun e => e ▸ hin)
              clear hin
              go_wp2_with fail
              go_region_held3 (fun w' => w' = wr.drew ∧ w'.cell? ⟨w.heap.size, 1, none⟩ = some (.slice A k c) ∧ w'.cell? ⟨w.heap.size + 1, 1, none⟩ = some (.slice (some ⟨b3, o3, none⟩) n2 c2) ∧ w'.cell? ⟨b3, o3 + j, none⟩ = some (.string x))
                (exact ⟨rfl, q1, q3, hcx⟩)
                ((go_at_call 99; (with_reducible refine HI.out.mono ?_); rintro e w' ⟨rfl, rfl⟩))
              all_goals
                go_wp2_with fail
                go_roundw
                case rel => exact ⟨j + 1, by omega, by go_num, hb0, H2⟩
                case measure => simp [intOf]; omega
            · rw [decide_eq_false hin] at HI
              have hd : d = false := by
                cases d with
                | false => rfl
                | true => exact absurd (((HS.out.1 rfl).2 _).2 (List.mem_of_getElem? Hx3.out)) hin
              subst hd
              clear hin
              go_wp2_with fail
              go_region_held3 (fun w' => w' = wr.drew ∧ w'.cell? ⟨w.heap.size, 1, none⟩ = some (.slice A k c) ∧ w'.cell? ⟨w.heap.size + 1, 1, none⟩ = some (.slice (some ⟨b3, o3, none⟩) n2 c2) ∧ w'.cell? ⟨b3, o3 + j, none⟩ = some (.string x))
                (exact ⟨rfl, q1, q3, hcx⟩)
                ((go_at_call 99; (with_reducible refine HI.out.mono ?_); rintro e w' ⟨rfl, rfl⟩))
              all_goals
                go_wp2_with fail
                go_ret
                exact ⟨rfl, gb.trans (hb0.mono (by omega))⟩
          · obtain rfl : j = n2 := by omega
            have hkn2 : ¬ (j : Int) < (j : Int) := by omega
            have hd : d = true := HS.out.2 ⟨by trivial, fun y => ⟨HSub.out y, fun hy => by
              have := H.out
              rw [List.take_of_length_le (by rw [← Hl2.out]; exact Nat.le_refl _)] at this
              exact this y hy⟩⟩
            subst hd
            go_wp2_with fail
            go_ret
            exact ⟨rfl, gb.trans (hb.mono (by omega))⟩
  · have hd : d = false := by
      cases d with
      | false => rfl
      | true => exact absurd (HS.out.1 rfl).1 h0
    subst hd
    have hxy : (x0 == y0) = false := by simpa using h0
    obtain ⟨q0, q1, _, _⟩ := box2 g0
    obtain ⟨q2, q3, _, _⟩ := box2 g1
    go_enter Try.func56, Try.ntmps56
    cases x0 <;> cases y0 <;> first | exact absurd rfl h0 | skip
    all_goals
      go_wp2_with fail
      go_ret
      exact ⟨rfl, by rw [← hW1]; exact gb⟩
end Go.Proofs.Ytnjabeeogmldlaa.Nm
