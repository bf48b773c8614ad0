/- Numbers written in as many bytes as their type has: (number[T]).width and (number[T]).bytes. No conditions. -/
import Derived.Test.YtpaaafdnkehmfaaOwn
import Derived.LoopTactic
namespace Go.Proofs.Ytpaaafdnkehmfaa
open Go.RowKit

set_option maxHeartbeats 400000 in
set_option maxRecDepth 100000 in
theorem len_255 (w : World) : Calls Try.prog 109 #[.int .u64 255] w fun e w' => e = .returned (.int .i64 8) ∧ w' = w := by
  go_enter Try.func109, Try.ntmps109
  go_wp2
  go_ret
  exact ⟨by kernel_rfl, rfl⟩
set_option maxHeartbeats 400000 in
set_option maxRecDepth 100000 in
theorem len_65535 (w : World) : Calls Try.prog 109 #[.int .u64 65535] w fun e w' => e = .returned (.int .i64 16) ∧ w' = w := by
  go_enter Try.func109, Try.ntmps109
  go_wp2
  go_ret
  exact ⟨by kernel_rfl, rfl⟩
set_option maxHeartbeats 400000 in
set_option maxRecDepth 100000 in
theorem len_max (w : World) : Calls Try.prog 109 #[.int .u64 18446744073709551615] w fun e w' => e = .returned (.int .i64 64) ∧ w' = w := by
  go_enter Try.func109, Try.ntmps109
  go_wp2
  go_ret
  exact ⟨by kernel_rfl, rfl⟩

set_option maxHeartbeats 400000 in
set_option maxHeartbeats 400000 in
theorem width8 (v : Int) (w : World) : Calls Try.prog 92 #[.agg #[.int .u8 v]] w fun e w' => e = .returned (.int .i64 1) ∧ w' = w.alloc (.cells #[.int .u8 v] 130) := by
  go_enter Try.func92, Try.ntmps92
  go_wp2_with (go_at_call 109; refine (len_255 _).mono ?_; rintro e w' ⟨rfl, rfl⟩)
  go_ret
  exact ⟨rfl, rfl⟩
set_option maxHeartbeats 400000 in
theorem width16 (v : Int) (w : World) : Calls Try.prog 93 #[.agg #[.int .u16 v]] w fun e w' => e = .returned (.int .i64 2) ∧ w' = w.alloc (.cells #[.int .u16 v] 134) := by
  go_enter Try.func93, Try.ntmps93
  go_wp2_with (go_at_call 109; refine (len_65535 _).mono ?_; rintro e w' ⟨rfl, rfl⟩)
  go_ret
  exact ⟨rfl, rfl⟩

/-- The lowest n bytes of v, the lowest first. -/
def leB : Nat → Nat → List UInt8
  | 0, _ => []
  | n + 1, v => UInt8.ofNat v :: leB n (v / 256)
theorem leB_length : ∀ n v, (leB n v).length = n
  | 0, _ => rfl
  | n + 1, v => by simp [leB, leB_length n]
theorem leB_get : ∀ (n v k : Nat), k < n → (leB n v)[k]? = some (UInt8.ofNat (v / 2 ^ (8 * k)))
  | 0, _, _, h => absurd h (by omega)
  | n + 1, v, 0, _ => by simp [leB]
  | n + 1, v, k + 1, h => by
    rw [leB, List.getElem?_cons_succ, leB_get n (v / 256) k (by omega), Nat.div_div_eq_div_mul]
    have : 256 * 2 ^ (8 * k) = 2 ^ (8 * (k + 1)) := by rw [Nat.mul_add, Nat.pow_add, Nat.mul_comm]
    rw [this]
/-- A new row of n bytes whose first k are written. -/
def Arr (n v k : Nat) : Array Value := ((byts (leB n v)).take k ++ List.replicate (n - k) (Value.int .u8 0)).toArray
theorem Arr_size {n v k : Nat} (h : k ≤ n) : (Arr n v k).size = n := by simp [Arr, byts, leB_length]; omega
theorem Arr_zero (n v : Nat) : Arr n v 0 = (List.replicate n (Value.int .u8 0)).toArray := by simp [Arr]
theorem Arr_full (n v : Nat) : Arr n v n = (byts (leB n v)).toArray := by
  simp only [Arr, Nat.sub_self, List.replicate_zero, List.append_nil]
  rw [List.take_of_length_le (by rw [byts_length, leB_length]; exact Nat.le_refl n)]
theorem Arr_get {n v k : Nat} (h : k < n) : (Arr n v k)[k]? = some (.int .u8 0) := by
  have hl : ((byts (leB n v)).take k).length = k := by rw [List.length_take, byts_length, leB_length]; omega
  simp only [Arr, List.getElem?_toArray]
  rw [List.getElem?_append_right (by omega), hl, Nat.sub_self, List.getElem?_replicate, if_pos (by omega)]
theorem Arr_set {n v k : Nat} (h : k < n) : (Arr n v k).setIfInBounds k (.int .u8 ((v / 2 ^ (8 * k) % 256 : Nat) : Int)) = Arr n v (k + 1) := by
  have hl : ((byts (leB n v)).take k).length = k := by rw [List.length_take, byts_length, leB_length]; omega
  have hb : (byts (leB n v))[k]? = some (.int .u8 ((v / 2 ^ (8 * k) % 256 : Nat) : Int)) := by
    rw [byts, List.getElem?_map, leB_get n v k h]
    simp [byt]
  have hlt : k < (byts (leB n v)).length := by rw [byts_length, leB_length]; exact h
  have hg : (byts (leB n v))[k] = .int .u8 ((v / 2 ^ (8 * k) % 256 : Nat) : Int) := by
    rw [List.getElem?_eq_getElem hlt] at hb
    exact Option.some.inj hb
  obtain ⟨m, rfl⟩ : ∃ m, n = k + (m + 1) := ⟨n - k - 1, by omega⟩
  simp only [Arr, List.setIfInBounds_toArray]
  congr 1
  rw [List.set_append_right _ _ (by omega), hl, Nat.sub_self, List.take_succ_eq_append_getElem hlt, hg]
  rw [show k + (m + 1) - k = m + 1 by omega, show k + (m + 1) - (k + 1) = m by omega, List.replicate_succ]
  simp

theorem Arr_store {n v k : Nat} (h : k < n) : (Arr n v k).setIfInBounds k (Value.int .u8 ((v : Int) / 2 ^ (8 * k) % 256)) = Arr n v (k + 1) := by
  have e : ((v : Int) / 2 ^ (8 * k) % 256) = ((v / 2 ^ (8 * k) % 256 : Nat) : Int) := by
    rw [Int.natCast_emod, Int.natCast_ediv, Int.natCast_pow]
    rfl
  rw [e]
  exact Arr_set h

theorem make_n {P : Program} (t e : TypeId) (i : TypeInfo) (ht : P.underlying t = some (.slice e)) (hi : P.info? e = some i) (hz : i.zero = some (.int .u8 0)) (hs : i.size = 1) (hby : i.bytes = 1) (n v : Nat) (hn : n ≤ 1073741824) (w : World) :
    (Instr.makeSlice t (.int .i64 (n : Int)) (.int .i64 (n : Int))).run P w = .ok (.slice (some ⟨w.heap.size, 0, none⟩) n n) (w.alloc (.cells (Arr n v 0) e)) := by
  have h := run_make (P := P) w t e i (.int .u8 0) ht hi hz .i64 .i64 n n (by omega) (by omega) (by rw [hby]; omega) (by omega)
  rw [h, hs]
  simp only [Int.toNat_natCast, Nat.mul_one, Arr_zero]
  congr 3
  apply Array.toList_inj.1
  rw [show (Value.int IntKind.u8 0).cells = #[.int .u8 0] from rfl, toList_madeCells_one]

set_option maxHeartbeats 400000 in
set_option maxHeartbeats 400000 in
theorem bytes8 (v : Nat) (hv : v < 256) (w : World) : Calls Try.prog 82 #[.agg #[.int .u8 v]] w fun e w' =>
    ∃ g, e = .returned (.slice (some ⟨g, 0, none⟩) 1 1) ∧ Own w' w.heap.size (some ⟨g, 0, none⟩) 1 1 (leB 1 v) ∧ Below w.heap.size w w' := by
  obtain ⟨i0, hi0, hz0, hs0, hb0⟩ := info_parts info_u8
  have hmk : ∀ w : World, (Instr.makeSlice 31 (.int .i64 1) (.int .i64 1)).run Try.prog w = .ok (.slice (some ⟨w.heap.size, 0, none⟩) 1 1) (w.alloc (.cells (Arr 1 v 0) 5)) :=
    make_n 31 5 i0 Try.underlying31 hi0 hz0 hs0 hb0 1 v (by omega)
  clear hi0 hz0 hs0 hb0
  go_enter Try.func82, Try.ntmps82
  go_wp2_with (go_at_call 92; refine (width8 _ _).mono ?_; rintro e w' ⟨rfl, rfl⟩)
  clear hmk
  go_loopw [10] (fun i wr => ∃ k : Nat, k ≤ 1 ∧ i = .int .i64 k ∧ wr = ((w.alloc (Obj.cells #[Value.int IntKind.u8 ↑v] 130)).alloc (Obj.cells #[Value.int IntKind.u8 ↑v] 130)).alloc (.cells (Arr 1 v k) 5)) (fun i _ => 1 - (intOf i).toNat)
  case atStart => exact ⟨0, by omega, rfl, rfl⟩
  case round =>
    obtain ⟨k, hk, rfl, rfl⟩ := hrel
    by_cases hlt : k < 1
    · have hc := Arr_get (v := v) hlt
      go_wp2
      go_roundw
      case rel => exact ⟨k + 1, by omega, by go_num, by rw [Arr_store hlt]⟩
      case measure => simp [intOf]; omega
    · go_wp2
      go_ret
      obtain rfl : k = 1 := by omega
      refine ⟨w.heap.size + 1 + 1, rfl, ?_, ?_⟩
      · rw [Arr_full]
        have h := Own.lit (base := w.heap.size) ((w.alloc (Obj.cells #[Value.int IntKind.u8 ↑v] 130)).alloc (Obj.cells #[Value.int IntKind.u8 ↑v] 130)) (leB 1 v) 1 (by simp; omega) (by simp [maxLen]) (leB_length 1 v)
        simpa using h
      · exact (((Below.refl _ _).alloc (Nat.le_refl _) _).alloc (by simp) _).alloc (by simp; omega) _

set_option maxHeartbeats 400000 in
theorem bytes16 (v : Nat) (hv : v < 65536) (w : World) : Calls Try.prog 83 #[.agg #[.int .u16 v]] w fun e w' =>
    ∃ g, e = .returned (.slice (some ⟨g, 0, none⟩) 2 2) ∧ Own w' w.heap.size (some ⟨g, 0, none⟩) 2 2 (leB 2 v) ∧ Below w.heap.size w w' := by
  obtain ⟨i0, hi0, hz0, hs0, hb0⟩ := info_parts info_u8
  have hmk : ∀ w : World, (Instr.makeSlice 31 (.int .i64 2) (.int .i64 2)).run Try.prog w = .ok (.slice (some ⟨w.heap.size, 0, none⟩) 2 2) (w.alloc (.cells (Arr 2 v 0) 5)) :=
    make_n 31 5 i0 Try.underlying31 hi0 hz0 hs0 hb0 2 v (by omega)
  clear hi0 hz0 hs0 hb0
  go_enter Try.func83, Try.ntmps83
  go_wp2_with (go_at_call 93; refine (width16 _ _).mono ?_; rintro e w' ⟨rfl, rfl⟩)
  clear hmk
  go_loopw [10] (fun i wr => ∃ k : Nat, k ≤ 2 ∧ i = .int .i64 k ∧ wr = ((w.alloc (Obj.cells #[Value.int IntKind.u16 ↑v] 134)).alloc (Obj.cells #[Value.int IntKind.u16 ↑v] 134)).alloc (.cells (Arr 2 v k) 5)) (fun i _ => 2 - (intOf i).toNat)
  case atStart => exact ⟨0, by omega, rfl, rfl⟩
  case round =>
    obtain ⟨k, hk, rfl, rfl⟩ := hrel
    by_cases hlt : k < 2
    · have hc := Arr_get (v := v) hlt
      go_wp2
      go_roundw
      case rel => exact ⟨k + 1, by omega, by go_num, by rw [Arr_store hlt]⟩
      case measure => simp [intOf]; omega
    · go_wp2
      go_ret
      obtain rfl : k = 2 := by omega
      refine ⟨w.heap.size + 1 + 1, rfl, ?_, ?_⟩
      · rw [Arr_full]
        have h := Own.lit (base := w.heap.size) ((w.alloc (Obj.cells #[Value.int IntKind.u16 ↑v] 134)).alloc (Obj.cells #[Value.int IntKind.u16 ↑v] 134)) (leB 2 v) 2 (by simp; omega) (by simp [maxLen]) (leB_length 2 v)
        simpa using h
      · exact (((Below.refl _ _).alloc (Nat.le_refl _) _).alloc (by simp) _).alloc (by simp; omega) _

end Go.Proofs.Ytpaaafdnkehmfaa
