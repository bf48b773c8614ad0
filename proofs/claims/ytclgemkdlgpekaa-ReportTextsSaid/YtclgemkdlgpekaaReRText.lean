/- The reference's Text. Conditions: paths of at most 2^20 bytes each. -/
import Derived.Test.YtclgemkdlgpekaaReTextW
namespace Go.Proofs.Ytclgemkdlgpekaa.Re
open Go.RowKit
set_option maxRecDepth 100000

set_option maxHeartbeats 4000000 in
theorem rtext_cf (l : List Cf) (A : Option Addr) (n c B : Nat) (w : World) (h : CfRow w B A n l) (hn : n ≤ 1000) :
    Calls Try.prog 17 #[.slice A n c] w fun e w' => e = .returned (.string (mkB (linesT l))) ∧ ∃ q, w' = w.drewN q := by
  have HL := Lib.hid h.len
  have Hh := Lib.hid h
  clear h
  go_enter Try.func17, Try.ntmps17
  go_wp2_with fail
  go_loopw [3, 4] (fun o i wr => ∃ (k : Nat) (O : ByteArray), k ≤ n ∧ i = .int .i64 k ∧ o = .string O ∧ Hid (O.data.toList = linesT (l.take k)) ∧ Hid (∃ q, wr = w.drewN q)) (fun _ i _ => n - (intOf i).toNat)
  case atStart => exact ⟨0, ⟨#[]⟩, Nat.zero_le _, rfl, rfl, Lib.hid (by simp [linesT]), Lib.hid ⟨0, rfl⟩⟩
  case round =>
    obtain ⟨k, O, hk, rfl, rfl, HO, HW⟩ := hrel
    by_cases hlt : k < n
    · have q0 : (k : Int) < (n : Int) := by omega
      have q1 : (0 : Int) ≤ (k : Int) := by omega
      have hh := Hh.out.keep (w' := wr) (fun a _ => by obtain ⟨q, e⟩ := HW.out; rw [e]; rfl)
      obtain ⟨x, hx⟩ : ∃ x, l[k]? = some x := ⟨_, List.getElem?_eq_getElem (by have := HL.out; omega)⟩
      obtain ⟨b, o, rfl, hbl, hc1, hc2⟩ := hh.cell k x hx
      obtain ⟨hsx, hbk⟩ := hh.path x (List.mem_of_getElem? hx)
      have hll := linesT_len (l := l.take k) (fun y hy => (Hh.out.path y (List.mem_of_mem_take hy)).2)
      rw [List.length_take] at hll
      have hOs : O.size = (linesT (l.take k)).length := by rw [← HO.out, Array.length_toList]; rfl
      have hwl := word_len x
      have hpl := pathL_len x.p
      have HP := Lib.hid (rpath_any x.p x.A x.n x.c B wr hsx (by omega))
      obtain ⟨X0, hX0⟩ : ∃ X : ByteArray, X = mkB x.word := ⟨_, rfl⟩
      obtain ⟨X1, hX1⟩ : ∃ X : ByteArray, X = mkB (pathL x.p) := ⟨_, rfl⟩
      rw [← hX1] at HP
      have z0 : X0.size ≤ 5 := by rw [hX0, size_mk]; exact hwl
      have z1 : X1.size ≤ 4194305 := by rw [hX1, size_mk]; omega
      have hadd1 := fun W => run_string_add_sum (P := Try.prog) W O X0 (by omega)
      obtain ⟨Y1, hY1⟩ : ∃ X, X = O ++ X0 := ⟨_, rfl⟩
      rw [← hY1] at hadd1
      have y1 : Y1.size = O.size + X0.size := by rw [hY1, ByteArray.size_append]
      have hadd2 := fun W => run_string_add_sum (P := Try.prog) W Y1 ⟨#[32]⟩ (by have : (ByteArray.mk #[32]).size = 1 := rfl; omega)
      obtain ⟨Y2, hY2⟩ : ∃ X, X = Y1 ++ ⟨#[32]⟩ := ⟨_, rfl⟩
      rw [← hY2] at hadd2
      have y2 : Y2.size = Y1.size + 1 := by rw [hY2, ByteArray.size_append]; rfl
      have hadd3 := fun W => run_string_add_sum (P := Try.prog) W Y2 X1 (by omega)
      obtain ⟨Y3, hY3⟩ : ∃ X, X = Y2 ++ X1 := ⟨_, rfl⟩
      rw [← hY3] at hadd3
      have y3 : Y3.size = Y2.size + X1.size := by rw [hY3, ByteArray.size_append]
      have hadd4 := fun W => run_string_add_sum (P := Try.prog) W Y3 ⟨#[10]⟩ (by have : (ByteArray.mk #[10]).size = 1 := rfl; omega)
      obtain ⟨Y4, hY4⟩ : ∃ X, X = Y3 ++ ⟨#[10]⟩ := ⟨_, rfl⟩
      rw [← hY4] at hadd4
      have HY4 := Lib.hid (show Y4.data.toList = linesT (l.take (k + 1)) by
        rw [lines_step hx, hY4, app_mk, hY3, app_mk, hY2, app_mk, hY1, app_mk, HO.out, hX0, hX1]
        simp [Cf.line])
      by_cases h1 : x.k = 1
      · have e1 : (x.k == 1) = true := by rw [h1]; rfl
        have hX0' : X0 = ⟨#[103, 111, 110, 101]⟩ := by rw [hX0, Cf.word, if_pos h1]
        subst hX0'
        clear hX0 hX1 hY1 hY2 hY3 hY4 z0 z1 y1 y2 y3 hll hwl hpl hbk hsx hx hOs hh h1
        go_wp2_with fail
        (with_reducible refine HP.out.mono ?_)
        rintro e w2 ⟨rfl, hq⟩
        have HW2 : Hid (∃ q, w2 = w.drewN q) := Lib.hid (by
          obtain ⟨q1, e1⟩ := HW.out
          obtain ⟨q2, e2⟩ := hq
          exact ⟨q1 + q2, by rw [e2, e1, World.drewN_drewN]⟩)
        clear hq
        go_wp2_with fail
        go_roundw
        case rel => exact ⟨k + 1, Y4, by omega, by go_num, rfl, HY4, HW2⟩
        case measure => simp [intOf]; omega
      · have e1 : (x.k == 1) = false := by rw [beq_eq_false_iff_ne]; exact h1
        by_cases h2 : x.k = 2
        · have e2 : (x.k == 2) = true := by rw [h2]; rfl
          have hX0' : X0 = ⟨#[115, 104, 97, 112, 101]⟩ := by rw [hX0, Cf.word, if_neg h1, if_pos h2]
          subst hX0'
          clear hX0 hX1 hY1 hY2 hY3 hY4 z0 z1 y1 y2 y3 hll hwl hpl hbk hsx hx hOs hh h1 h2
          go_wp2_with fail
          (with_reducible refine HP.out.mono ?_)
          rintro e w2 ⟨rfl, hq⟩
          have HW2 : Hid (∃ q, w2 = w.drewN q) := Lib.hid (by
            obtain ⟨q1, e1⟩ := HW.out
            obtain ⟨q2, e2⟩ := hq
            exact ⟨q1 + q2, by rw [e2, e1, World.drewN_drewN]⟩)
          clear hq
          go_wp2_with fail
          go_roundw
          case rel => exact ⟨k + 1, Y4, by omega, by go_num, rfl, HY4, HW2⟩
          case measure => simp [intOf]; omega
        · have e2 : (x.k == 2) = false := by rw [beq_eq_false_iff_ne]; exact h2
          have hX0' : X0 = ⟨#[119, 104, 97, 116]⟩ := by rw [hX0, Cf.word, if_neg h1, if_neg h2]
          subst hX0'
          clear hX0 hX1 hY1 hY2 hY3 hY4 z0 z1 y1 y2 y3 hll hwl hpl hbk hsx hx hOs hh h1 h2
          go_wp2_with fail
          (with_reducible refine HP.out.mono ?_)
          rintro e w2 ⟨rfl, hq⟩
          have HW2 : Hid (∃ q, w2 = w.drewN q) := Lib.hid (by
            obtain ⟨q1, e1⟩ := HW.out
            obtain ⟨q2, e2⟩ := hq
            exact ⟨q1 + q2, by rw [e2, e1, World.drewN_drewN]⟩)
          clear hq
          go_wp2_with fail
          go_roundw
          case rel => exact ⟨k + 1, Y4, by omega, by go_num, rfl, HY4, HW2⟩
          case measure => simp [intOf]; omega
    · have hkn : (n : Int) ≤ (k : Int) := by omega
      obtain rfl : k = n := by omega
      have e : l.take k = l := List.take_of_length_le (by have := HL.out; omega)
      have HE := Lib.hid (show O = mkB (linesT l) from eq_mk (by rw [HO.out, e]))
      clear e
      go_wp2_with fail
      go_ret
      exact ⟨by rw [← HE.out]; rfl, HW.out⟩
end Go.Proofs.Ytclgemkdlgpekaa.Re
