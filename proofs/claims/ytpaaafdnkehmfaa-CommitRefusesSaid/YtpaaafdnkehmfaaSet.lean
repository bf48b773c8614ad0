/- Bytes taken into a number, or a text: the set methods. Conditions: the number's width. -/
import Derived.Test.YtpaaafdnkehmfaaKnown
import Derived.Laws.BitsAllLaws
namespace Go.Proofs.Ytpaaafdnkehmfaa
open Go.RowKit

theorem Sees.at0 {w : World} {B n : Nat} {A : Option Addr} {l : List UInt8} (h : Sees w B A n l) {j : Nat} (hj : j < n) : ∃ b o, A = some ⟨b, o, none⟩ ∧ b < B ∧ w.cell? ⟨b, o + j, none⟩ = some (.int .u8 (((l.getD j 0).toNat : Nat) : Int)) := by
  obtain ⟨a0, ha0, _, h0⟩ := h.at_ (j := 0) (by omega)
  obtain ⟨a, ha, hb, hc⟩ := h.at_ hj
  obtain ⟨b, o, sp⟩ := a
  have e : a0 = ⟨b, o, sp⟩ := by rw [ha0] at ha; exact Option.some.inj ha
  subst e
  have hsp : sp = none := by simpa [Addr.add] using World.cell?_spot h0
  subst hsp
  rw [Addr.add_lit] at hc
  exact ⟨b, o, ha, hb, hc⟩

/-- The number that bytes tell, the lowest first. -/
def valB : List UInt8 → Nat
  | [] => 0
  | x :: r => x.toNat + 256 * valB r
theorem valB_lt : ∀ l, valB l < 2 ^ (8 * l.length)
  | [] => by simp [valB]
  | x :: r => by
    have h := valB_lt r
    have hx := x.toNat_lt
    rw [valB, List.length_cons, show 8 * (r.length + 1) = 8 * r.length + 8 by omega, Nat.pow_add]
    omega
theorem valB_snoc : ∀ (l : List UInt8) (x : UInt8), valB (l ++ [x]) = valB l + x.toNat * 2 ^ (8 * l.length)
  | [], x => by simp [valB]
  | y :: r, x => by
    rw [List.cons_append, valB, valB, valB_snoc r x, List.length_cons, show 8 * (r.length + 1) = 8 * r.length + 8 by omega, Nat.pow_add]
    have e : x.toNat * (2 ^ (8 * r.length) * 2 ^ 8) = 256 * (x.toNat * 2 ^ (8 * r.length)) := by
      rw [Nat.mul_comm 256, Nat.mul_assoc]
    rw [e]
    omega
theorem valB_leB : ∀ (n v : Nat), v < 2 ^ (8 * n) → valB (leB n v) = v
  | 0, v, h => by simp at h; subst h; rfl
  | n + 1, v, h => by
    rw [show 8 * (n + 1) = 8 * n + 8 by omega, Nat.pow_add] at h
    rw [leB, valB, valB_leB n (v / 256) (by omega)]
    simp only [UInt8.toNat_ofNat']
    omega

theorem valB_step {l : List UInt8} {k : Nat} (hk : k < l.length) (h8 : k < 8) :
    bits .or .u64 ((valB (l.take k) : Nat) : Int) (IntKind.u64.wrap (IntKind.u64.wrap (((l[k]?.getD 0).toNat : Nat) : Int) * 2 ^ (8 * k))) = ((valB (l.take (k + 1)) : Nat) : Int) := by
  rw [List.take_succ_eq_append_getElem hk, valB_snoc]
  have hx : (l[k]?.getD 0) = l[k] := by rw [List.getElem?_eq_getElem hk]; rfl
  rw [hx]
  have hlt := valB_lt (l.take k)
  have hl : (l.take k).length = k := by rw [List.length_take]; omega
  rw [hl] at hlt ⊢
  have hb := l[k].toNat_lt
  generalize l[k].toNat = x at *
  generalize valB (l.take k) = V at *
  have hp : 2 ^ (8 * k) ≤ 2 ^ 56 := Nat.pow_le_pow_right (by omega) (by omega)
  have hxp : x * 2 ^ (8 * k) ≤ 255 * 2 ^ 56 := Nat.mul_le_mul (by omega) hp
  have e1 : IntKind.u64.wrap ((x : Nat) : Int) = (x : Int) := by rw [IntKind.wrap_u64]; omega
  rw [e1]
  have e2 : ((x : Int) * 2 ^ (8 * k)) = ((x * 2 ^ (8 * k) : Nat) : Int) := by
    rw [Int.natCast_mul, Int.natCast_pow]
    rfl
  rw [e2, IntKind.wrap_u64]
  have e3 : ((x * 2 ^ (8 * k) : Nat) : Int) % 18446744073709551616 = ((x * 2 ^ (8 * k) : Nat) : Int) := by omega
  rw [e3, u64_or_nat V _ (by omega) (by omega)]
  congr 1
  rw [Nat.or_comm, ← Nat.shiftLeft_eq, ← Nat.shiftLeft_add_eq_or_of_lt hlt, Nat.add_comm]

set_option maxHeartbeats 1000000 in
set_option maxHeartbeats 1000000 in
theorem set8_any (q n c B : Nat) (A : Option Addr) (l : List UInt8) (x : Int) (w : World) (hs : Sees w B A n l) (hn : n ≤ 1) (hc : w.cell? ⟨q, 0, none⟩ = some (.int .u8 x)) (hf : w.frozen? ⟨q, 0, none⟩ = false) :
    Calls Try.prog 110 #[.pointer (some ⟨q, 0, none⟩), .slice A n c] w fun e w' => e = .returned (.tuple #[]) ∧ w' = w.setCell ⟨q, 0, none⟩ (.int .u8 (valB l)) := by
  have Hb := Lib.hid (valB_lt l)
  have Hl := Lib.hid hs.len
  go_enter Try.func110, Try.ntmps110
  go_wp2
  go_loop [4, 9] (fun v i => ∃ k : Nat, k ≤ n ∧ i = .int .i64 k ∧ v = .int .u64 (valB (l.take k))) (fun _ i => n - (intOf i).toNat)
  case atStart => exact ⟨0, Nat.zero_le _, rfl, rfl⟩
  case round =>
    obtain ⟨k, hk, rfl, rfl⟩ := hrel
    by_cases hlt : k < n
    · obtain ⟨ab, ao, rfl, _, hcell⟩ := hs.at0 hlt
      go_wp2
      go_round
      case rel => exact ⟨k + 1, by omega, by go_num, congrArg (Value.int IntKind.u64) (valB_step (by rw [← Hl.out]; exact hlt) (by omega))⟩
      case measure => simp [intOf]; omega
    · obtain rfl : k = n := by omega
      have Hall := Lib.hid (show l.take k = l from List.take_of_length_le (by rw [← Hl.out]; exact Nat.le_refl _))
      rw [Hall.out]
      have hv : IntKind.u8.wrap (valB l) = valB l := by
        have h1 := Hb.out
        have h2 : 2 ^ (8 * l.length) ≤ 2 ^ (8 * 1) := Nat.pow_le_pow_right (by omega) (by rw [← Hl.out]; omega)
        have h3 : (2 : Nat) ^ (8 * 1) = 256 := by decide
        rw [IntKind.wrap_u8']
        omega
      go_wp2
      go_end0
      exact ⟨rfl, rfl⟩

set_option maxHeartbeats 1000000 in
theorem set16_any (q n c B : Nat) (A : Option Addr) (l : List UInt8) (x : Int) (w : World) (hs : Sees w B A n l) (hn : n ≤ 2) (hc : w.cell? ⟨q, 0, none⟩ = some (.int .u16 x)) (hf : w.frozen? ⟨q, 0, none⟩ = false) :
    Calls Try.prog 112 #[.pointer (some ⟨q, 0, none⟩), .slice A n c] w fun e w' => e = .returned (.tuple #[]) ∧ w' = w.setCell ⟨q, 0, none⟩ (.int .u16 (valB l)) := by
  have Hb := Lib.hid (valB_lt l)
  have Hl := Lib.hid hs.len
  go_enter Try.func112, Try.ntmps112
  go_wp2
  go_loop [4, 9] (fun v i => ∃ k : Nat, k ≤ n ∧ i = .int .i64 k ∧ v = .int .u64 (valB (l.take k))) (fun _ i => n - (intOf i).toNat)
  case atStart => exact ⟨0, Nat.zero_le _, rfl, rfl⟩
  case round =>
    obtain ⟨k, hk, rfl, rfl⟩ := hrel
    by_cases hlt : k < n
    · obtain ⟨ab, ao, rfl, _, hcell⟩ := hs.at0 hlt
      go_wp2
      go_round
      case rel => exact ⟨k + 1, by omega, by go_num, congrArg (Value.int IntKind.u64) (valB_step (by rw [← Hl.out]; exact hlt) (by omega))⟩
      case measure => simp [intOf]; omega
    · obtain rfl : k = n := by omega
      have Hall := Lib.hid (show l.take k = l from List.take_of_length_le (by rw [← Hl.out]; exact Nat.le_refl _))
      rw [Hall.out]
      have hv : IntKind.u16.wrap (valB l) = valB l := by
        have h1 := Hb.out
        have h2 : 2 ^ (8 * l.length) ≤ 2 ^ (8 * 2) := Nat.pow_le_pow_right (by omega) (by rw [← Hl.out]; omega)
        have h3 : (2 : Nat) ^ (8 * 2) = 65536 := by decide
        rw [IntKind.wrap_u16]
        omega
      go_wp2
      go_end0
      exact ⟨rfl, rfl⟩


set_option maxHeartbeats 1000000 in
theorem setText_any (q n c B : Nat) (A : Option Addr) (l : List UInt8) (x : ByteArray) (w : World) (hs : Sees w B A n l) (hc : w.cell? ⟨q, 0, none⟩ = some (.string x)) (hf : w.frozen? ⟨q, 0, none⟩ = false) :
    Calls Try.prog 98 #[.pointer (some ⟨q, 0, none⟩), .slice A n c] w fun e w' => e = .returned (.tuple #[]) ∧ w' = w.setCell ⟨q, 0, none⟩ (.string ⟨l.toArray⟩) := by
  have hcv := run_text 31 144 5 Try.underlying31 Try.underlying5 Try.underlying144 (c := c) hs
  go_enter Try.func98, Try.ntmps98
  go_wp2
  go_end0
  exact ⟨rfl, rfl⟩
end Go.Proofs.Ytpaaafdnkehmfaa
