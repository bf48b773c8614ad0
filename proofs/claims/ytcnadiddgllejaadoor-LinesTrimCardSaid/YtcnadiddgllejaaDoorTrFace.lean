/- lines.Trim, the document's own Trim: what they make of any text. Condition: fewer than 2^62 bytes. -/
import Derived.Test.YtcnadiddgllejaaDoorTrMath
import Derived.Test.YtcnadiddgllejaaDoorLiWords
namespace Go.Proofs.YtcnadiddgllejaaDoor.Li
open Go.RowKit
set_option maxRecDepth 100000

theorem blank_any (c : UInt8) (w : World) : Calls Tryd.prog 12 #[.int .u8 (c.toNat : Int)] w fun e w' => e = .returned (.bool (bl c)) ∧ w = w' := by
  by_cases h1 : c = 32
  · subst h1
    go_enter Tryd.func12, Tryd.ntmps12
    go_wp2
    go_ret
    exact ⟨rfl, rfl⟩
  · have n1 : c.toNat ≠ 32 := fun e => h1 (UInt8.toNat_inj.1 e)
    have q1 : ((c.toNat : Int) == 32) = false := by simp; omega
    by_cases h2 : c = 9
    · subst h2
      go_enter Tryd.func12, Tryd.ntmps12
      go_wp2
      go_ret
      exact ⟨rfl, rfl⟩
    · have n2 : c.toNat ≠ 9 := fun e => h2 (UInt8.toNat_inj.1 e)
      have q2 : ((c.toNat : Int) == 9) = false := by simp; omega
      have hb : bl c = false := by simp [bl, h1, h2]
      rw [hb]
      clear hb h1 h2 n1 n2
      go_enter Tryd.func12, Tryd.ntmps12
      go_wp2
      go_ret
      exact ⟨rfl, rfl⟩
theorem below_drewN {b : Nat} {w w' : World} (h : Below b w w') (n : Nat) : Below b w (w'.drewN n) := ⟨h.os, h.tape, h.output, h.size, h.block⟩
def Trimmed (b : ByteArray) (w : World) (e : Ending) (w' : World) : Prop :=
  e = .returned (.tuple #[.string (fr b), .string (mi b), .string (ba b)]) ∧ Below w.heap.size w w'

set_option maxHeartbeats 2000000 in
theorem rtrim_any (b : ByteArray) (w : World) (hb : b.size ≤ 4611686018427387904) : Calls Tryd.prog 7 #[.string b] w (Trimmed b w) := by
  have hlen : b.data.toList.length = b.size := Array.length_toList
  have hen := en_le b.data.toList
  obtain ⟨i0, hi0⟩ : ∃ i, i = tl b.data.toList := ⟨_, rfl⟩
  obtain ⟨k0, hk0⟩ : ∃ k, k = en b.data.toList := ⟨_, rfl⟩
  rw [← hi0, ← hk0, hlen] at hen
  have Hi := Lib.hid hi0
  have Hk := Lib.hid hk0
  clear hi0 hk0
  go_enter Tryd.func7, Tryd.ntmps7
  go_wp2_with fail
  go_loop [5] (fun i => ∃ k : Nat, k ≤ i0 ∧ i = .int .i64 k) (fun i => b.size - (intOf i).toNat)
  case atStart => exact ⟨0, Nat.zero_le _, rfl⟩
  case round =>
    obtain ⟨i, hi, rfl⟩ := hrel
    by_cases hlt : i < b.size
    · have q0 : (i : Int) < (b.size : Int) := by omega
      have q1 : (0 : Int) ≤ (i : Int) := by omega
      have hget : b.data.toList[i]'(by omega) = b[i] := rfl
      by_cases hin : i < i0
      · have hbl : bl b[i] = true := by rw [← hget]; exact tl_in _ _ _ (by rw [← Hi.out]; exact hin)
        have HB := Lib.hid (fun W => blank_any b[i] W)
        rw [hbl] at HB
        clear hget hbl
        go_wp2_with fail
        (with_reducible refine (HB.out _).mono ?_)
        rintro e w2 ⟨rfl, rfl⟩
        go_wp2_with fail
        go_round
        case rel => exact ⟨i + 1, by omega, by go_num⟩
        case measure => simp [intOf]; omega
      · obtain rfl : i0 = i := by omega
        have hbl : bl b[i0] = false := by
          have := tl_out b.data.toList (by rw [← Hi.out, hlen]; exact hlt)
          simp only [← Hi.out] at this
          exact this
        have HB := Lib.hid (fun W => blank_any b[i0] W)
        rw [hbl] at HB
        clear hget hbl
        go_wp2_with fail
        (with_reducible refine (HB.out _).mono ?_)
        rintro e w2 ⟨rfl, rfl⟩
        go_wp2_with fail
        go_loop [6] (fun i => ∃ k : Nat, k0 ≤ k ∧ k ≤ b.size ∧ i = .int .i64 k) (fun i => (intOf i).toNat)
        case atStart => exact ⟨b.size, hen.2, Nat.le_refl _, rfl⟩
        case round =>
          obtain ⟨k, hk1, hk2, rfl⟩ := hrel
          by_cases hkk : k0 < k
          · obtain ⟨j, rfl⟩ : ∃ j, k = j + 1 := ⟨k - 1, by omega⟩
            have r0 : (i0 : Int) < (j : Int) + 1 := by omega
            have r1 : (0 : Int) ≤ (j : Int) := by omega
            have r2 : (j : Int) < (b.size : Int) := by omega
            have hjb : j < b.size := by omega
            have hbl2 : bl b[j] = true := en_in b.data.toList j (by rw [hlen]; exact hjb) (by rw [← Hk.out]; omega)
            have HB2 := Lib.hid (fun W => blank_any b[j] W)
            rw [hbl2] at HB2
            clear hbl2
            go_wp2_with fail
            (with_reducible refine (HB2.out _).mono ?_)
            rintro e w3 ⟨rfl, rfl⟩
            go_wp2_with fail
            go_round
            case rel => exact ⟨j, by omega, by omega, by go_num⟩
            case measure => simp [intOf]
          · obtain rfl : k0 = k := by omega
            have s0 : (0 : Int) ≤ (i0 : Int) := by omega
            have s1 : (i0 : Int) ≤ (k0 : Int) := by omega
            have s2 : (k0 : Int) ≤ (b.size : Int) := by omega
            have s3 : (0 : Int) ≤ (k0 : Int) := by omega
            have s4 : (i0 : Int) ≤ (b.size : Int) := by omega
            have HF : Hid (Value.string (b.extract 0 i0) = .string (fr b) ∧ Value.string (b.extract i0 k0) = .string (mi b) ∧ Value.string (b.extract k0 b.size) = .string (ba b)) := Lib.hid ⟨by rw [ext_sl, Hi.out]; rfl, by rw [ext_sl, Hi.out, Hk.out]; rfl, by rw [ext_sl, Hk.out, ← hlen]; rfl⟩
            by_cases hik : i0 < k0
            · obtain ⟨j, rfl⟩ : ∃ j, k0 = j + 1 := ⟨k0 - 1, by omega⟩
              have r0 : (i0 : Int) < (j : Int) + 1 := by omega
              have r1 : (0 : Int) ≤ (j : Int) := by omega
              have r2 : (j : Int) < (b.size : Int) := by omega
              have r3 : (j : Int) + 1 ≤ (b.size : Int) := by omega
              have r4 : (i0 : Int) ≤ (j : Int) + 1 := by omega
              have r5 : (0 : Int) ≤ (j : Int) + 1 := by omega
              have r6 : ((j : Int) + 1).toNat = j + 1 := by omega
              have hjb : j < b.size := by omega
              have hbl2 : bl b[j] = false := by
                have := en_out b.data.toList (by rw [← Hi.out, ← Hk.out]; exact hik) (by rw [← Hk.out, hlen]; omega)
                simp only [← Hk.out, Nat.add_sub_cancel] at this
                exact this
              have HB2 := Lib.hid (fun W => blank_any b[j] W)
              rw [hbl2] at HB2
              clear hbl2
              go_wp2_with fail
              (with_reducible refine (HB2.out _).mono ?_)
              rintro e w3 ⟨rfl, rfl⟩
              go_wp2_with fail
              go_quiet (fail)
              go_wp2_with fail
              go_ret3
              exact ⟨by rw [← HF.out.1, ← HF.out.2.1, ← HF.out.2.2]; rfl, below_drewN (Below.refl _ _) _⟩
            · have r0 : (k0 : Int) ≤ (i0 : Int) := by omega
              go_wp2_with fail
              go_quiet (fail)
              go_wp2_with fail
              go_ret3
              exact ⟨by rw [← HF.out.1, ← HF.out.2.1, ← HF.out.2.2]; rfl, below_drewN (Below.refl _ _) _⟩
    · have q0 : (b.size : Int) ≤ (i : Int) := by omega
      obtain rfl : i0 = i := by omega
      go_wp2_with fail
      go_loop [6] (fun i => ∃ k : Nat, k0 ≤ k ∧ k ≤ b.size ∧ i = .int .i64 k) (fun i => (intOf i).toNat)
      case atStart => exact ⟨b.size, hen.2, Nat.le_refl _, rfl⟩
      case round =>
        obtain ⟨k, hk1, hk2, rfl⟩ := hrel
        by_cases hkk : k0 < k
        · obtain ⟨j, rfl⟩ : ∃ j, k = j + 1 := ⟨k - 1, by omega⟩
          have r0 : (i0 : Int) < (j : Int) + 1 := by omega
          have r1 : (0 : Int) ≤ (j : Int) := by omega
          have r2 : (j : Int) < (b.size : Int) := by omega
          have hjb : j < b.size := by omega
          have hbl2 : bl b[j] = true := en_in b.data.toList j (by rw [hlen]; exact hjb) (by rw [← Hk.out]; omega)
          have HB2 := Lib.hid (fun W => blank_any b[j] W)
          rw [hbl2] at HB2
          clear hbl2
          go_wp2_with fail
          (with_reducible refine (HB2.out _).mono ?_)
          rintro e w3 ⟨rfl, rfl⟩
          go_wp2_with fail
          go_round
          case rel => exact ⟨j, by omega, by omega, by go_num⟩
          case measure => simp [intOf]
        · obtain rfl : k0 = k := by omega
          have s0 : (0 : Int) ≤ (i0 : Int) := by omega
          have s1 : (i0 : Int) ≤ (k0 : Int) := by omega
          have s2 : (k0 : Int) ≤ (b.size : Int) := by omega
          have s3 : (0 : Int) ≤ (k0 : Int) := by omega
          have s4 : (i0 : Int) ≤ (b.size : Int) := by omega
          have HF : Hid (Value.string (b.extract 0 i0) = .string (fr b) ∧ Value.string (b.extract i0 k0) = .string (mi b) ∧ Value.string (b.extract k0 b.size) = .string (ba b)) := Lib.hid ⟨by rw [ext_sl, Hi.out]; rfl, by rw [ext_sl, Hi.out, Hk.out]; rfl, by rw [ext_sl, Hk.out, ← hlen]; rfl⟩
          by_cases hik : i0 < k0
          · obtain ⟨j, rfl⟩ : ∃ j, k0 = j + 1 := ⟨k0 - 1, by omega⟩
            have r0 : (i0 : Int) < (j : Int) + 1 := by omega
            have r1 : (0 : Int) ≤ (j : Int) := by omega
            have r2 : (j : Int) < (b.size : Int) := by omega
            have r3 : (j : Int) + 1 ≤ (b.size : Int) := by omega
            have r4 : (i0 : Int) ≤ (j : Int) + 1 := by omega
            have r5 : (0 : Int) ≤ (j : Int) + 1 := by omega
            have r6 : ((j : Int) + 1).toNat = j + 1 := by omega
            have hjb : j < b.size := by omega
            have hbl2 : bl b[j] = false := by
              have := en_out b.data.toList (by rw [← Hi.out, ← Hk.out]; exact hik) (by rw [← Hk.out, hlen]; omega)
              simp only [← Hk.out, Nat.add_sub_cancel] at this
              exact this
            have HB2 := Lib.hid (fun W => blank_any b[j] W)
            rw [hbl2] at HB2
            clear hbl2
            go_wp2_with fail
            (with_reducible refine (HB2.out _).mono ?_)
            rintro e w3 ⟨rfl, rfl⟩
            go_wp2_with fail
            go_quiet (fail)
            go_wp2_with fail
            go_ret3
            exact ⟨by rw [← HF.out.1, ← HF.out.2.1, ← HF.out.2.2]; rfl, below_drewN (Below.refl _ _) _⟩
          · have r0 : (k0 : Int) ≤ (i0 : Int) := by omega
            go_wp2_with fail
            go_quiet (fail)
            go_wp2_with fail
            go_ret3
            exact ⟨by rw [← HF.out.1, ← HF.out.2.1, ← HF.out.2.2]; rfl, below_drewN (Below.refl _ _) _⟩
end Go.Proofs.YtcnadiddgllejaaDoor.Li
