/- The reference's digit and name. Conditions: texts of at most 2^30 bytes. -/
import Derived.Test.YtclgemkdlgpekaaReRPath
import Derived.Deep.RegionHeld3
namespace Go.Proofs.Ytclgemkdlgpekaa.Re
open Go.RowKit
set_option maxRecDepth 100000

def dgR (c : UInt8) : Int := if 48 ≤ c.toNat ∧ c.toNat ≤ 57 then (c.toNat : Int) - 48 else if 97 ≤ c.toNat ∧ c.toNat ≤ 102 then (c.toNat : Int) - 87 else -1
theorem dgR_dig : ∀ d, d < 16 → dgR (dig16 d) = d := by decide
theorem dgR_le (c : UInt8) : -1 ≤ dgR c ∧ dgR c ≤ 15 := by
  unfold dgR
  split
  · omega
  · split <;> omega

set_option maxHeartbeats 1000000 in
theorem rdigit_any (c : UInt8) (w : World) : Calls Try.prog 32 #[.int .u8 (c.toNat : Int)] w fun e w' => e = .returned (.int .i64 (dgR c)) ∧ w = w' := by
  obtain ⟨x, hx⟩ : ∃ x, x = dgR c := ⟨_, rfl⟩
  rw [← hx]
  have hc := c.toNat_lt
  by_cases h1 : 48 ≤ c.toNat
  · by_cases h2 : c.toNat ≤ 57
    · have HX := Lib.hid (show x = (c.toNat : Int) - 48 by rw [hx, dgR, if_pos ⟨h1, h2⟩])
      have k1 : (48 : Int) ≤ (c.toNat : Int) := by omega
      have k2 : (c.toNat : Int) ≤ 57 := by omega
      have k3 : IntKind.u8.wrap ((c.toNat : Int) - 48) = (c.toNat : Int) - 48 := by rw [IntKind.wrap_u8]; omega
      clear h1 h2 hx hc
      go_enter Try.func32, Try.ntmps32
      go_wp2_with fail
      go_ret
      exact ⟨by rw [HX.out]; rfl, rfl⟩
    · by_cases h3 : 97 ≤ c.toNat
      · by_cases h4 : c.toNat ≤ 102
        · have HX := Lib.hid (show x = (c.toNat : Int) - 97 + 10 by rw [hx, dgR, if_neg (by omega), if_pos ⟨h3, h4⟩]; omega)
          have k1 : (48 : Int) ≤ (c.toNat : Int) := by omega
          have k2 : ¬ (c.toNat : Int) ≤ 57 := by omega
          have k3 : (97 : Int) ≤ (c.toNat : Int) := by omega
          have k4 : (c.toNat : Int) ≤ 102 := by omega
          have k5 : IntKind.u8.wrap ((c.toNat : Int) - 97) = (c.toNat : Int) - 97 := by rw [IntKind.wrap_u8]; omega
          clear h1 h2 h3 h4 hx hc
          go_enter Try.func32, Try.ntmps32
          go_wp2_with fail
          go_ret
          exact ⟨by rw [HX.out]; rfl, rfl⟩
        · have HX := Lib.hid (show x = -1 by rw [hx, dgR, if_neg (by omega), if_neg (by omega)])
          have k1 : (48 : Int) ≤ (c.toNat : Int) := by omega
          have k2 : ¬ (c.toNat : Int) ≤ 57 := by omega
          have k3 : (97 : Int) ≤ (c.toNat : Int) := by omega
          have k4 : ¬ (c.toNat : Int) ≤ 102 := by omega
          clear h1 h2 h3 h4 hx hc
          go_enter Try.func32, Try.ntmps32
          go_wp2_with fail
          go_ret
          exact ⟨by rw [HX.out]; rfl, rfl⟩
      · have HX := Lib.hid (show x = -1 by rw [hx, dgR, if_neg (by omega), if_neg (by omega)])
        have k1 : (48 : Int) ≤ (c.toNat : Int) := by omega
        have k2 : ¬ (c.toNat : Int) ≤ 57 := by omega
        have k3 : ¬ (97 : Int) ≤ (c.toNat : Int) := by omega
        clear h1 h2 h3 hx hc
        go_enter Try.func32, Try.ntmps32
        go_wp2_with fail
        go_ret
        exact ⟨by rw [HX.out]; rfl, rfl⟩
  · have HX := Lib.hid (show x = -1 by rw [hx, dgR, if_neg (by omega), if_neg (by omega)])
    have k1 : ¬ (48 : Int) ≤ (c.toNat : Int) := by omega
    have k3 : ¬ (97 : Int) ≤ (c.toNat : Int) := by omega
    clear h1 hx hc
    go_enter Try.func32, Try.ntmps32
    go_wp2_with fail
    go_ret
    exact ⟨by rw [HX.out]; rfl, rfl⟩

/-- What is left, as a quoted byte and what is behind it. -/
theorem quoL_sorts {l t0 d : Bs} (h : d = quoL l ++ 34 :: t0) : (l = [] ∧ d = 34 :: t0) ∨ ∃ y l', l = y :: l' ∧ d = quoB y ++ (quoL l' ++ 34 :: t0) := by
  cases l with
  | nil => exact .inl ⟨rfl, h⟩
  | cons y l' => exact .inr ⟨y, l', rfl, by rw [h, quoL_cons, List.append_assoc]⟩
theorem told_plain {l t0 d' : Bs} {x : UInt8} (h : x :: d' = quoL l ++ 34 :: t0) (h1 : x ≠ 34) (h2 : x ≠ 92) : ∃ l', l = [x] ++ l' ∧ d' = quoL l' ++ 34 :: t0 := by
  rcases quoL_sorts h with ⟨_, e⟩ | ⟨y, l', e1, e2⟩
  · injection e with e _; exact absurd e h1
  · rcases quoB_sorts y with ⟨e, _⟩ | ⟨a, b, _, _, _, e⟩ | ⟨e, _⟩
    · rw [e] at e2; injection e2 with e2 _; exact absurd e2 h2
    · rw [e] at e2; injection e2 with e2 _; exact absurd e2 h2
    · rw [e] at e2
      injection e2 with e2 e3
      subst e2
      exact ⟨l', e1, e3⟩
theorem told_end {l t0 : Bs} (h : ([92] : Bs) = quoL l ++ 34 :: t0) : False := by
  rcases quoL_sorts h with ⟨_, e⟩ | ⟨y, l', e1, e2⟩
  · injection e with e _; exact absurd e (by decide)
  · rcases quoB_sorts y with ⟨e, _⟩ | ⟨a, b, _, _, _, e⟩ | ⟨e, _, h3, _⟩
    · rw [e] at e2; simp at e2
    · rw [e] at e2; simp at e2
    · rw [e] at e2; injection e2 with e2 _; exact absurd e2.symm h3
theorem told_slash {l t0 d' : Bs} {z : UInt8} (h : 92 :: z :: d' = quoL l ++ 34 :: t0) (h1 : z ≠ 120) : ∃ l', l = [z] ++ l' ∧ d' = quoL l' ++ 34 :: t0 := by
  rcases quoL_sorts h with ⟨_, e⟩ | ⟨y, l', e1, e2⟩
  · injection e with e _; exact absurd e (by decide)
  · rcases quoB_sorts y with ⟨e, _⟩ | ⟨a, b, _, _, _, e⟩ | ⟨e, _, h3, _⟩
    · rw [e] at e2
      simp only [List.cons_append, List.nil_append, List.cons.injEq, true_and] at e2
      rw [e2.1]
      exact ⟨l', e1, e2.2⟩
    · rw [e] at e2
      simp only [List.cons_append, List.nil_append, List.cons.injEq, true_and] at e2
      exact absurd e2.1 h1
    · rw [e] at e2; injection e2 with e2 _; exact absurd e2.symm h3
theorem told_hex {l t0 d' : Bs} (h : 92 :: 120 :: d' = quoL l ++ 34 :: t0) : ∃ (i j : Nat) (d2 : Bs) (y : UInt8) (l' : Bs), i < 16 ∧ j < 16 ∧ d' = dig16 i :: dig16 j :: d2 ∧ y.toNat = 16 * i + j ∧ l = [y] ++ l' ∧ d2 = quoL l' ++ 34 :: t0 := by
  rcases quoL_sorts h with ⟨_, e⟩ | ⟨y, l', e1, e2⟩
  · injection e with e _; exact absurd e (by decide)
  · rcases quoB_sorts y with ⟨e, hy⟩ | ⟨a, b, ha, hb, hab, e⟩ | ⟨e, _, h3, _⟩
    · rw [e] at e2
      simp only [List.cons_append, List.nil_append, List.cons.injEq, true_and] at e2
      rcases hy with rfl | rfl <;> exact absurd e2.1 (by decide)
    · rw [e] at e2
      simp only [List.cons_append, List.nil_append, List.cons.injEq, true_and] at e2
      exact ⟨a, b, _, y, l', ha, hb, e2, hab, e1, rfl⟩
    · rw [e] at e2; injection e2 with e2 _; exact absurd e2.symm h3
end Go.Proofs.Ytclgemkdlgpekaa.Re
