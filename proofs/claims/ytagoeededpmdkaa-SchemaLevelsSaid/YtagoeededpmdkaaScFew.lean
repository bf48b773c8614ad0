/- The law's Few: whether a raw schema is not too much. No conditions but that slices are no longer than slices can be. -/
import Derived.Test.YtagoeededpmdkaaScMany
namespace Go.Proofs.Ytagoeededpmdkaa.Sc
open Go.RowKit Go.Proofs.Ytagoeededpmdkaa.Nm
set_option maxRecDepth 100000

def fewF (fs : List Fld) : Bool := fs.all fun f => decide (f.n.l.length ≤ 25)
def fewD (d : Df) : Bool := decide (d.fs.length ≤ 8) && fewF d.fs
def few (s : List Df) : Bool := s.all fewD && decide (s.length ≤ 14)
theorem few_fit {s : List Df} (h : few s = true) : FitS s ∧ s.length ≤ 14 := by
  unfold few at h
  rw [Bool.and_eq_true, decide_eq_true_iff, List.all_eq_true] at h
  refine ⟨fun d hd => ?_, h.2⟩
  have := h.1 d hd
  unfold fewD fewF at this
  rw [Bool.and_eq_true, decide_eq_true_iff, List.all_eq_true] at this
  refine ⟨by omega, fun f hf => ?_⟩
  have := this.2 f hf
  rw [decide_eq_true_iff] at this
  omega

set_option maxHeartbeats 2000000 in
theorem few4_any (s : List Df) (A : Option Addr) (n c B : Nat) (w : World) (h : Ds w B A n s) (hn : n ≤ 9223372036854775807) :
    Calls Try.prog 47 #[.slice A n c] w fun e w' => e = .returned (.bool (few s)) ∧ w = w' := by
  have Hl := Lib.hid h.len
  obtain ⟨r, hr⟩ : ∃ r, r = few s := ⟨_, rfl⟩
  have Hr := Lib.hid hr
  rw [← hr]
  clear hr
  go_enter Try.func47, Try.ntmps47
  go_wp2_with fail
  go_loop [3] (fun i => ∃ k : Nat, k ≤ n ∧ i = .int .i64 k ∧ Hid ((s.take k).all fewD = true)) (fun i => n - (intOf i).toNat)
  case atStart => exact ⟨0, Nat.zero_le _, rfl, Lib.hid (by simp)⟩
  case round =>
    obtain ⟨k, hk, rfl, H⟩ := hrel
    by_cases hlt : k < n
    · obtain ⟨b, o, d, A2, n2, c2, rfl, hb, hd, h1, h2, h3, hF, h5, h6⟩ := h.at hlt
      unfold maxLen at h6
      have Hd := Lib.hid hd
      have Hl2 := Lib.hid hF.len
      have hkn : (k : Int) < (n : Int) := by omega
      have hk0 : (0 : Int) ≤ (k : Int) := by omega
      have hno : fewD d = false → r = false := fun e => by rw [Hr.out, few, all_false Hd.out e]; rfl
      have Hno := Lib.hid hno
      clear hd hno h2 h3
      by_cases h8 : n2 ≤ 8
      · have h8' : (n2 : Int) ≤ 8 := by omega
        go_wp2_with fail
        go_loop [4] (fun i => ∃ j : Nat, j ≤ n2 ∧ i = .int .i64 j ∧ Hid (fewF (d.fs.take j) = true)) (fun i => n2 - (intOf i).toNat)
        case atStart => exact ⟨0, Nat.zero_le _, rfl, Lib.hid (by simp [fewF])⟩
        case round =>
          obtain ⟨j, hj, rfl, H2⟩ := hrel
          by_cases hlt2 : j < n2
          · obtain ⟨b2, o2, f, A3, n3, c3, rfl, hb2, hf, f1, f2, f3, f4, hS, f5, f6⟩ := hF.at hlt2
            have Hf := Lib.hid hf
            have Hl3 : Hid (n3 = f.n.l.length) := Lib.hid (by have := hS.len; rwa [List.length_map] at this)
            have hjn : (j : Int) < (n2 : Int) := by omega
            have hj0 : (0 : Int) ≤ (j : Int) := by omega
            unfold maxLen at f5
            clear hf hS
            by_cases h25 : n3 ≤ 25
            · have h25' : (n3 : Int) ≤ 25 := by omega
              have H3 : Hid (fewF (d.fs.take (j + 1)) = true) := Lib.hid (by
                have := H2.out
                unfold fewF at this ⊢
                rw [all_take Hf.out, this, decide_eq_true (by rw [← Hl3.out]; exact h25)]
                rfl)
              go_wp2_with fail
              go_round
              case rel => exact ⟨j + 1, by omega, by go_num, H3⟩
              case measure => simp [intOf]; omega
            · have h25' : (25 : Int) < (n3 : Int) := by omega
              have hr2 : r = false := Hno.out (by
                unfold fewD fewF
                rw [all_false Hf.out (decide_eq_false (by rw [← Hl3.out]; exact h25)), Bool.and_false])
              subst hr2
              go_wp2_with fail
              go_ret
              exact ⟨rfl, rfl⟩
          · obtain rfl : j = n2 := by omega
            have H3 : Hid ((s.take (k + 1)).all fewD = true) := Lib.hid (by
              have h4 := H2.out
              rw [List.take_of_length_le (by rw [← Hl2.out]; exact Nat.le_refl _)] at h4
              rw [all_take Hd.out, H.out, fewD, h4, decide_eq_true (by rw [← Hl2.out]; exact h8)]
              rfl)
            go_wp2_with fail
            go_round
            case rel => exact ⟨k + 1, by omega, by go_num, H3⟩
            case measure => simp [intOf]; omega
      · have h8' : (8 : Int) < (n2 : Int) := by omega
        have hr2 : r = false := Hno.out (by rw [fewD, decide_eq_false (by rw [← Hl2.out]; exact h8)]; rfl)
        subst hr2
        go_wp2_with fail
        go_ret
        exact ⟨rfl, rfl⟩
    · obtain rfl : k = n := by omega
      have Hr2 : Hid (r = decide (k ≤ 14)) := Lib.hid (by
        have := H.out
        rw [List.take_of_length_le (by rw [← Hl.out]; exact Nat.le_refl _)] at this
        rw [Hr.out, few, this, ← Hl.out]
        rfl)
      by_cases h14 : k ≤ 14
      · have hr2 : r = true := by rw [Hr2.out, decide_eq_true h14]
        subst hr2
        have h14' : (k : Int) ≤ 14 := by omega
        go_wp2_with fail
        go_ret
        exact ⟨by first | rfl | (simp; omega), rfl⟩
      · have hr2 : r = false := by rw [Hr2.out, decide_eq_false h14]
        subst hr2
        have h14' : (14 : Int) < (k : Int) := by omega
        go_wp2_with fail
        go_ret
        exact ⟨by first | rfl | (simp; omega), rfl⟩
end Go.Proofs.Ytagoeededpmdkaa.Sc
