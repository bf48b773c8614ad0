/- Bytes taken into a number, or a text: the set methods. Conditions: the number's width. The Reader: Fail, End, next, read, Int, Byte, Text, New. next, with a text's set. The Reader's face: New, Int, Byte, Text, Fail, End: what each answers, and what it leaves. No conditions but a length below 2^46. The second reader (by itself): its state; take. Conditions: so many bytes as a slice has. The second reader's face: what each answers, and what it leaves. The second reader's Text. -/
import Derived.Test.YtebiinjcegdmpaaRbPut
import Derived.Laws.BitsAllLaws
import Derived.Deep.QuietTactic
import Derived.BigQuiet
import Derived.Deep.RegionHeld3
namespace Go.Proofs.Ytebiinjcegdmpaa
open Go.RowKit

theorem Sees.at0 {w : World} {B n : Nat} {A : Option Addr} {l : List UInt8} (h : Sees w B A n l) {j : Nat} (hj : j < n) : ∃ b o, A = some ⟨b, o, none⟩ ∧ b < B ∧ w.cell? ⟨b, o + j, none⟩ = some (.int .u8 (((l.getD j 0).toNat : Nat) : Int)) := by
  obtain ⟨a0, ha0, _, h0⟩ := h.at_ (j := 0) (by omega)
  obtain ⟨a, ha, hb, hc⟩ := h.at_ hj
  obtain ⟨b, o, sp⟩ := a
  have e : a0 = ⟨b, o, sp⟩ := by rw [ha0] at ha; exact Option.some.inj ha
  subst e
  have hsp : sp = none := by simpa [Addr.add] using World.cell?_spot h0
  subst hsp
  rw [Addr.add_lit] at hc
  exact ⟨b, o, ha, hb, hc⟩

/-- The number that bytes tell, the lowest first. -/
def valB : List UInt8 → Nat
  | [] => 0
  | x :: r => x.toNat + 256 * valB r
theorem valB_lt : ∀ l, valB l < 2 ^ (8 * l.length)
  | [] => by simp [valB]
  | x :: r => by
    have h := valB_lt r
    have hx := x.toNat_lt
    rw [valB, List.length_cons, show 8 * (r.length + 1) = 8 * r.length + 8 by omega, Nat.pow_add]
    omega
theorem valB_snoc : ∀ (l : List UInt8) (x : UInt8), valB (l ++ [x]) = valB l + x.toNat * 2 ^ (8 * l.length)
  | [], x => by simp [valB]
  | y :: r, x => by
    rw [List.cons_append, valB, valB, valB_snoc r x, List.length_cons, show 8 * (r.length + 1) = 8 * r.length + 8 by omega, Nat.pow_add]
    have e : x.toNat * (2 ^ (8 * r.length) * 2 ^ 8) = 256 * (x.toNat * 2 ^ (8 * r.length)) := by
      rw [Nat.mul_comm 256, Nat.mul_assoc]
    rw [e]
    omega
theorem valB_leB : ∀ (n v : Nat), v < 2 ^ (8 * n) → valB (leB n v) = v
  | 0, v, h => by simp at h; subst h; rfl
  | n + 1, v, h => by
    rw [show 8 * (n + 1) = 8 * n + 8 by omega, Nat.pow_add] at h
    rw [leB, valB, valB_leB n (v / 256) (by omega)]
    simp only [UInt8.toNat_ofNat']
    omega

theorem valB_step {l : List UInt8} {k : Nat} (hk : k < l.length) (h8 : k < 8) :
    bits .or .u64 ((valB (l.take k) : Nat) : Int) (IntKind.u64.wrap (IntKind.u64.wrap (((l[k]?.getD 0).toNat : Nat) : Int) * 2 ^ (8 * k))) = ((valB (l.take (k + 1)) : Nat) : Int) := by
  rw [List.take_succ_eq_append_getElem hk, valB_snoc]
  have hx : (l[k]?.getD 0) = l[k] := by rw [List.getElem?_eq_getElem hk]; rfl
  rw [hx]
  have hlt := valB_lt (l.take k)
  have hl : (l.take k).length = k := by rw [List.length_take]; omega
  rw [hl] at hlt ⊢
  have hb := l[k].toNat_lt
  generalize l[k].toNat = x at *
  generalize valB (l.take k) = V at *
  have hp : 2 ^ (8 * k) ≤ 2 ^ 56 := Nat.pow_le_pow_right (by omega) (by omega)
  have hxp : x * 2 ^ (8 * k) ≤ 255 * 2 ^ 56 := Nat.mul_le_mul (by omega) hp
  have e1 : IntKind.u64.wrap ((x : Nat) : Int) = (x : Int) := by rw [IntKind.wrap_u64]; omega
  rw [e1]
  have e2 : ((x : Int) * 2 ^ (8 * k)) = ((x * 2 ^ (8 * k) : Nat) : Int) := by
    rw [Int.natCast_mul, Int.natCast_pow]
    rfl
  rw [e2, IntKind.wrap_u64]
  have e3 : ((x * 2 ^ (8 * k) : Nat) : Int) % 18446744073709551616 = ((x * 2 ^ (8 * k) : Nat) : Int) := by omega
  rw [e3, u64_or_nat V _ (by omega) (by omega)]
  congr 1
  rw [Nat.or_comm, ← Nat.shiftLeft_eq, ← Nat.shiftLeft_add_eq_or_of_lt hlt, Nat.add_comm]

set_option maxHeartbeats 1000000 in
set_option maxHeartbeats 1000000 in
theorem set8_any (q n c B : Nat) (A : Option Addr) (l : List UInt8) (x : Int) (w : World) (hs : Sees w B A n l) (hn : n ≤ 1) (hc : w.cell? ⟨q, 0, none⟩ = some (.int .u8 x)) (hf : w.frozen? ⟨q, 0, none⟩ = false) :
    Calls Try.prog 127 #[.pointer (some ⟨q, 0, none⟩), .slice A n c] w fun e w' => e = .returned (.tuple #[]) ∧ w' = w.setCell ⟨q, 0, none⟩ (.int .u8 (valB l)) := by
  have Hb := Lib.hid (valB_lt l)
  have Hl := Lib.hid hs.len
  go_enter Try.func127, Try.ntmps127
  go_wp2
  go_loop [4, 9] (fun v i => ∃ k : Nat, k ≤ n ∧ i = .int .i64 k ∧ v = .int .u64 (valB (l.take k))) (fun _ i => n - (intOf i).toNat)
  case atStart => exact ⟨0, Nat.zero_le _, rfl, rfl⟩
  case round =>
    obtain ⟨k, hk, rfl, rfl⟩ := hrel
    by_cases hlt : k < n
    · obtain ⟨ab, ao, rfl, _, hcell⟩ := hs.at0 hlt
      go_wp2
      go_round
      case rel => exact ⟨k + 1, by omega, by go_num, congrArg (Value.int IntKind.u64) (valB_step (by rw [← Hl.out]; exact hlt) (by omega))⟩
      case measure => simp [intOf]; omega
    · obtain rfl : k = n := by omega
      have Hall := Lib.hid (show l.take k = l from List.take_of_length_le (by rw [← Hl.out]; exact Nat.le_refl _))
      rw [Hall.out]
      have hv : IntKind.u8.wrap (valB l) = valB l := by
        have h1 := Hb.out
        have h2 : 2 ^ (8 * l.length) ≤ 2 ^ (8 * 1) := Nat.pow_le_pow_right (by omega) (by rw [← Hl.out]; omega)
        have h3 : (2 : Nat) ^ (8 * 1) = 256 := by decide
        rw [IntKind.wrap_u8']
        omega
      go_wp2
      go_end0
      exact ⟨rfl, rfl⟩

set_option maxHeartbeats 1000000 in
theorem set16_any (q n c B : Nat) (A : Option Addr) (l : List UInt8) (x : Int) (w : World) (hs : Sees w B A n l) (hn : n ≤ 2) (hc : w.cell? ⟨q, 0, none⟩ = some (.int .u16 x)) (hf : w.frozen? ⟨q, 0, none⟩ = false) :
    Calls Try.prog 128 #[.pointer (some ⟨q, 0, none⟩), .slice A n c] w fun e w' => e = .returned (.tuple #[]) ∧ w' = w.setCell ⟨q, 0, none⟩ (.int .u16 (valB l)) := by
  have Hb := Lib.hid (valB_lt l)
  have Hl := Lib.hid hs.len
  go_enter Try.func128, Try.ntmps128
  go_wp2
  go_loop [4, 9] (fun v i => ∃ k : Nat, k ≤ n ∧ i = .int .i64 k ∧ v = .int .u64 (valB (l.take k))) (fun _ i => n - (intOf i).toNat)
  case atStart => exact ⟨0, Nat.zero_le _, rfl, rfl⟩
  case round =>
    obtain ⟨k, hk, rfl, rfl⟩ := hrel
    by_cases hlt : k < n
    · obtain ⟨ab, ao, rfl, _, hcell⟩ := hs.at0 hlt
      go_wp2
      go_round
      case rel => exact ⟨k + 1, by omega, by go_num, congrArg (Value.int IntKind.u64) (valB_step (by rw [← Hl.out]; exact hlt) (by omega))⟩
      case measure => simp [intOf]; omega
    · obtain rfl : k = n := by omega
      have Hall := Lib.hid (show l.take k = l from List.take_of_length_le (by rw [← Hl.out]; exact Nat.le_refl _))
      rw [Hall.out]
      have hv : IntKind.u16.wrap (valB l) = valB l := by
        have h1 := Hb.out
        have h2 : 2 ^ (8 * l.length) ≤ 2 ^ (8 * 2) := Nat.pow_le_pow_right (by omega) (by rw [← Hl.out]; omega)
        have h3 : (2 : Nat) ^ (8 * 2) = 65536 := by decide
        rw [IntKind.wrap_u16]
        omega
      go_wp2
      go_end0
      exact ⟨rfl, rfl⟩


set_option maxHeartbeats 1000000 in
theorem setText_any (q n c B : Nat) (A : Option Addr) (l : List UInt8) (x : ByteArray) (w : World) (hs : Sees w B A n l) (hc : w.cell? ⟨q, 0, none⟩ = some (.string x)) (hf : w.frozen? ⟨q, 0, none⟩ = false) :
    Calls Try.prog 114 #[.pointer (some ⟨q, 0, none⟩), .slice A n c] w fun e w' => e = .returned (.tuple #[]) ∧ w' = w.setCell ⟨q, 0, none⟩ (.string ⟨l.toArray⟩) := by
  have hcv := run_text 24 170 5 Try.underlying24 Try.underlying5 Try.underlying170 (c := c) hs
  go_enter Try.func114, Try.ntmps114
  go_wp2
  go_end0
  exact ⟨rfl, rfl⟩
end Go.Proofs.Ytebiinjcegdmpaa

namespace Go.Proofs.Ytebiinjcegdmpaa
open Go.RowKit

/-- A Reader in block g: bytes l are left, its error is e. -/
structure Rd (w : World) (g : Nat) (A : Option Addr) (n c : Nat) (l : List UInt8) (e : Int) : Prop where
  row : w.heap[g]? = some (.cells #[.slice A n c, .int .i64 e] 117 (0, 0))
  sees : Sees w g A n l
  cap : n ≤ c

section
variable {w w' : World} {g n c : Nat} {A : Option Addr} {l : List UInt8} {e : Int}
theorem Rd.rest (h : Rd w g A n c l e) : w.cell? ⟨g, 0, none⟩ = some (.slice A n c) := cell_of_row w g 0 _ _ _ h.row
theorem Rd.err (h : Rd w g A n c l e) : w.cell? ⟨g, 1, none⟩ = some (.int .i64 e) := cell_of_row w g 1 _ _ _ h.row
theorem Rd.free (h : Rd w g A n c l e) (i : Nat) : w.frozen? ⟨g, i, none⟩ = false := by simp [World.frozen?, h.row]
theorem Rd.lt (h : Rd w g A n c l e) : g < w.heap.size := block_lt_of_cell (a := ⟨g, 1, none⟩) h.err
theorem Rd.keep (h : Rd w g A n c l e) (hb : Below w.heap.size w w') : Rd w' g A n c l e :=
  ⟨(hb.block g h.lt).trans h.row, h.sees.below (hb.mono (Nat.le_of_lt h.lt)), h.cap⟩
end

set_option maxHeartbeats 1000000 in
theorem fail_zero (g n c : Nat) (A : Option Addr) (l : List UInt8) (x : Int) (w : World) (h : Rd w g A n c l 0) : Calls Try.prog 87 #[.pointer (some ⟨g, 0, none⟩), .int .i64 x] w fun e w' =>
    e = .returned (.tuple #[]) ∧ w' = w.setCell ⟨g, 1, none⟩ (.int .i64 x) := by
  have h1 := h.err
  have f1 := h.free 1
  go_enter Try.func87, Try.ntmps87
  go_wp2
  go_end0
  exact ⟨rfl, rfl⟩
set_option maxHeartbeats 1000000 in
theorem fail_some (g n c : Nat) (A : Option Addr) (l : List UInt8) (x y : Int) (w : World) (h : Rd w g A n c l y) (hy : y ≠ 0) : Calls Try.prog 87 #[.pointer (some ⟨g, 0, none⟩), .int .i64 x] w fun e w' =>
    e = .returned (.tuple #[]) ∧ w = w' := by
  have h1 := h.err
  have hb : (y == 0) = false := by simpa using hy
  go_enter Try.func87, Try.ntmps87
  go_wp2
  go_end0
  exact ⟨rfl, rfl⟩

set_option maxHeartbeats 1000000 in
theorem next_err (g n c k : Nat) (A : Option Addr) (l : List UInt8) (y : Int) (fv : Value) (w : World) (h : Rd w g A n c l y) (hy : y ≠ 0) : Calls Try.prog 112 #[.pointer (some ⟨g, 0, none⟩), .int .i64 k, fv] w fun e w' =>
    e = .returned (.tuple #[]) ∧ w = w' := by
  have h0 := h.rest
  have h1 := h.err
  have hb : (y != 0) = true := by simpa using hy
  by_cases hlt : n < k
  · go_enter Try.func112, Try.ntmps112
    go_wp2_with (go_at_call 87; refine (fail_some g n c A l 8 y _ h hy).mono ?_; rintro e w' ⟨rfl, rfl⟩)
    refine bodyPost_ret (results_none rfl _ _ _) rfl ?_
    exact ⟨rfl, rfl⟩
  · go_enter Try.func112, Try.ntmps112
    go_wp2_with fail
    refine bodyPost_ret (results_none rfl _ _ _) rfl ?_
    exact ⟨rfl, rfl⟩
set_option maxHeartbeats 1000000 in
theorem next_short (g n c k : Nat) (A : Option Addr) (l : List UInt8) (fv : Value) (w : World) (h : Rd w g A n c l 0) (hk : n < k) : Calls Try.prog 112 #[.pointer (some ⟨g, 0, none⟩), .int .i64 k, fv] w fun e w' =>
    e = .returned (.tuple #[]) ∧ w' = w.setCell ⟨g, 1, none⟩ (.int .i64 8) := by
  have h0 := h.rest
  have h1 := h.err
  have f1 := h.free 1
  go_enter Try.func112, Try.ntmps112
  go_wp2_with (go_at_call 87; refine (fail_zero g n c A l 8 _ h).mono ?_; rintro e w' ⟨rfl, rfl⟩)
  refine bodyPost_ret (results_none rfl _ _ _) rfl ?_
  exact ⟨rfl, rfl⟩

/-- What next leaves behind what set has made of the world: the rest. -/
def Nexted (w W w' : World) (g m : Nat) (l : List UInt8) : Prop := ∃ A' c', w' = W.setCell ⟨g, 0, none⟩ (.slice A' m c') ∧ Sees w g A' m l ∧ m ≤ c'

theorem Sees.drop_far {w : World} {B n k c : Nat} {A : Option Addr} {l : List UInt8} (h : Sees w B A n l) (hk : k ≤ n) (hc : n ≤ c) (hne : ¬ c = k) (h0 : k ≠ 0) : Sees w B (Option.map (fun x => { block := x.block, off := x.off + k }) A) (n - k) (l.drop k) := by
  have hd := h.drop hk hc
  rw [if_neg hne] at hd
  have e : (fun x : Addr => x.add k) = (fun x : Addr => { block := x.block, off := x.off + k }) := by
    funext x
    simp [Addr.add, h0]
  rw [e] at hd
  exact hd
theorem Sees.drop_end {w : World} {B n k c : Nat} {A : Option Addr} {l : List UInt8} (h : Sees w B A n l) (hk : k ≤ n) (hc : n ≤ c) (he : c = k) : Sees w B A (n - k) (l.drop k) := by
  have hd := h.drop hk hc
  rw [if_pos he] at hd
  exact hd

set_option maxHeartbeats 1000000 in
set_option maxHeartbeats 1000000 in
theorem next8 (g q n c : Nat) (A : Option Addr) (l L : List UInt8) (V : Nat) (x : Int) (w : World) (h : Rd w g A n c l 0) (hk : 1 ≤ n) (hc : w.cell? ⟨q, 0, none⟩ = some (.int .u8 x)) (hf : w.frozen? ⟨q, 0, none⟩ = false)
    (hq : q ≠ g) (hL : Hid (L = l.drop 1)) (hV : Hid (V = valB (l.take 1))) :
    Calls Try.prog 112 #[.pointer (some ⟨g, 0, none⟩), .int .i64 1, .func (.func 127) #[.pointer (some ⟨q, 0, none⟩)] #[]] w fun e w' =>
      e = .returned (.tuple #[]) ∧ Nexted w (w.setCell ⟨q, 0, none⟩ (.int .u8 V)) w' g (n - 1) L := by
  have h0 := h.rest
  have h1 := h.err
  have f0 := h.free 0
  have hcap := h.cap
  have hs := h.sees.take hk
  have h' := h
  clear h
  go_enter Try.func112, Try.ntmps112
  go_wp2_with (go_at_call 127; refine (set8_any q 1 c g A _ x _ hs (by omega) hc hf).mono ?_; rw [← hV.out]; rintro e w' ⟨rfl, rfl⟩)
  all_goals
    go_end0
    first
    | exact ⟨rfl, _, _, rfl, by rw [hL.out]; exact h'.sees.drop_far hk hcap (by assumption) (by omega), by omega⟩
    | exact ⟨rfl, _, _, rfl, by rw [hL.out]; exact h'.sees.drop_end hk hcap (by assumption), by omega⟩
set_option maxHeartbeats 1000000 in
theorem next16 (g q n c : Nat) (A : Option Addr) (l L : List UInt8) (V : Nat) (x : Int) (w : World) (h : Rd w g A n c l 0) (hk : 2 ≤ n) (hc : w.cell? ⟨q, 0, none⟩ = some (.int .u16 x)) (hf : w.frozen? ⟨q, 0, none⟩ = false)
    (hq : q ≠ g) (hL : Hid (L = l.drop 2)) (hV : Hid (V = valB (l.take 2))) :
    Calls Try.prog 112 #[.pointer (some ⟨g, 0, none⟩), .int .i64 2, .func (.func 128) #[.pointer (some ⟨q, 0, none⟩)] #[]] w fun e w' =>
      e = .returned (.tuple #[]) ∧ Nexted w (w.setCell ⟨q, 0, none⟩ (.int .u16 V)) w' g (n - 2) L := by
  have h0 := h.rest
  have h1 := h.err
  have f0 := h.free 0
  have hcap := h.cap
  have hs := h.sees.take hk
  have h' := h
  clear h
  go_enter Try.func112, Try.ntmps112
  go_wp2_with (go_at_call 128; refine (set16_any q 2 c g A _ x _ hs (by omega) hc hf).mono ?_; rw [← hV.out]; rintro e w' ⟨rfl, rfl⟩)
  all_goals
    go_end0
    first
    | exact ⟨rfl, _, _, rfl, by rw [hL.out]; exact h'.sees.drop_far hk hcap (by assumption) (by omega), by omega⟩
    | exact ⟨rfl, _, _, rfl, by rw [hL.out]; exact h'.sees.drop_end hk hcap (by assumption), by omega⟩
end Go.Proofs.Ytebiinjcegdmpaa

namespace Go.Proofs.Ytebiinjcegdmpaa
open Go.RowKit

theorem Sees.drop_map {w : World} {B n k c : Nat} {A : Option Addr} {l : List UInt8} (h : Sees w B A n l) (hk : k ≤ n) (hc : n ≤ c) (hne : ¬ c = k) : Sees w B (A.map (·.add k)) (n - k) (l.drop k) := by
  have hd := h.drop hk hc
  rw [if_neg hne] at hd
  exact hd

set_option maxHeartbeats 1000000 in
theorem nextText (g q n c k : Nat) (A : Option Addr) (l L : List UInt8) (V x : ByteArray) (w : World) (h : Rd w g A n c l 0) (hk : k ≤ n) (hc : w.cell? ⟨q, 0, none⟩ = some (.string x)) (hf : w.frozen? ⟨q, 0, none⟩ = false)
    (hq : q ≠ g) (hL : Hid (L = l.drop k)) (hV : Hid (V = ⟨(l.take k).toArray⟩)) :
    Calls Try.prog 112 #[.pointer (some ⟨g, 0, none⟩), .int .i64 k, .func (.func 114) #[.pointer (some ⟨q, 0, none⟩)] #[]] w fun e w' =>
      e = .returned (.tuple #[]) ∧ Nexted w (w.setCell ⟨q, 0, none⟩ (.string V)) w' g (n - k) L := by
  have h0 := h.rest
  have h1 := h.err
  have f0 := h.free 0
  have hcap := h.cap
  have hs := h.sees.take hk
  have h' := h
  clear h
  go_enter Try.func112, Try.ntmps112
  go_wp2_with (go_at_call 114; refine (setText_any q k c g A _ x _ hs hc hf).mono ?_; rw [← hV.out]; rintro e w' ⟨rfl, rfl⟩)
  all_goals
    go_end0
    first
    | exact ⟨rfl, _, _, rfl, by rw [hL.out]; exact h'.sees.drop_map hk hcap (by assumption), by omega⟩
    | exact ⟨rfl, _, _, rfl, by rw [hL.out]; exact h'.sees.drop_end hk hcap (by assumption), by omega⟩

theorem Rd.alloc {w : World} {g n c : Nat} {A : Option Addr} {l : List UInt8} {e : Int} (h : Rd w g A n c l e) (o : Obj) : Rd (w.alloc o) g A n c l e := h.keep ((Below.refl _ _).alloc (Nat.le_refl _) o)

/-- What a question of k bytes answers (0, where there is an error), and what is left: the bytes, the error. -/
def rdStep (k : Nat) (l : List UInt8) (e : Int) : Nat × List UInt8 × Int := if e ≠ 0 then (0, l, e) else if l.length < k then (0, l, 8) else (valB (l.take k), l.drop k, 0)
theorem rdStep_lt (k : Nat) (l : List UInt8) (e : Int) : (rdStep k l e).1 < 2 ^ (8 * k) := by
  unfold rdStep
  have h0 : 0 < 2 ^ (8 * k) := Nat.pow_pos (by omega)
  split
  · exact h0
  · split
    · exact h0
    · exact Nat.lt_of_lt_of_le (valB_lt _) (Nat.pow_le_pow_right (by omega) (by rw [List.length_take]; omega))
theorem rdStep_err {k : Nat} {l : List UInt8} {e : Int} (h : ¬ e = 0) : rdStep k l e = (0, l, e) := by unfold rdStep; rw [if_pos h]
theorem rdStep_short {k : Nat} {l : List UInt8} (h : l.length < k) : rdStep k l 0 = (0, l, 8) := by unfold rdStep; rw [if_neg (by simp), if_pos h]
theorem rdStep_yes {k : Nat} {l : List UInt8} (h : ¬ l.length < k) : rdStep k l 0 = (valB (l.take k), l.drop k, 0) := by unfold rdStep; rw [if_neg (by simp), if_neg h]

/-- What a call on the Reader in block g leaves: the Reader, and all else as it was. -/
def ReadPost (w w' : World) (g : Nat) (l : List UInt8) (e : Int) : Prop := (∃ A n c, Rd w' g A n c l e) ∧ w.grownBy w' (some g)

theorem Grow2.alloc2 (w : World) (a b : Obj) (row : Option Nat) : w.grownBy ((w.alloc a).alloc b) row := ⟨rfl, rfl, rfl, by simp; omega, fun i hi _ => (Below.heap_alloc _ b i (by simp; omega)).trans (Below.heap_alloc w a i hi)⟩
theorem rdGrown_set {w w' : World} {g : Nat} (h : w.grownBy w' (some g)) {p : Addr} (hp : p.block = g ∨ w.heap.size ≤ p.block) (u : Value) : w.grownBy (w'.setCell p u) (some g) :=
  ⟨h.os, h.tape, h.output, by simpa [World.setCell] using h.size, fun i hi hne => (Below.heap_setCell w' p u i (by
    rintro rfl
    rcases hp with hp | hp
    · exact hne (by rw [hp])
    · omega)).trans (h.block i hi hne)⟩

theorem box_err {w : World} {g : Nat} (hne : w.heap.size ≠ g) (o : Obj) (z : Value) (t : TypeId) (x : Value) : (((w.alloc (.cells #[z] t)).alloc o).setCell ⟨g, 1, none⟩ x).cell? ⟨w.heap.size, 0, none⟩ = some z := by
  rw [World.cell?_setCell_other _ _ _ _ (by intro e; injection e with e1; exact hne e1.symm), World.cell?_alloc_lt _ _ _ (by simp)]
  exact cell_of_row _ _ 0 #[z] t (0, 0) (at_new w _)
theorem box_next {w : World} {g : Nat} (hne : w.heap.size ≠ g) (o : Obj) (z V : Value) (t : TypeId) (x : Value) : ((((w.alloc (.cells #[z] t)).alloc o).setCell ⟨w.heap.size, 0, none⟩ V).setCell ⟨g, 0, none⟩ x).cell? ⟨w.heap.size, 0, none⟩ = some V := by
  rw [World.cell?_setCell_other _ _ _ _ (by intro e; injection e with e1; exact hne e1.symm)]
  refine World.cell?_setCell_same _ _ V (u := z) ?_
  rw [World.cell?_alloc_lt _ _ _ (by simp)]
  exact cell_of_row _ _ 0 #[z] t (0, 0) (at_new w _)
theorem ReadPost.same {w w2 : World} {g n c : Nat} {A : Option Addr} {l : List UInt8} {e : Int} (h : Rd w2 g A n c l e) (hg : w.grownBy w2 (some g)) : ReadPost w w2 g l e := ⟨⟨A, n, c, h⟩, hg⟩
theorem ReadPost.err {w w2 : World} {g n c : Nat} {A : Option Addr} {l : List UInt8} {e : Int} (h : Rd w2 g A n c l e) (x : Int) (hg : w.grownBy w2 (some g)) : ReadPost w (w2.setCell ⟨g, 1, none⟩ (.int .i64 x)) g l x :=
  ⟨⟨A, n, c, heap_setCell_same w2 g 1 _ _ _ h.row, h.sees.setCell (p := ⟨g, 1, none⟩) (Nat.le_refl _) _, h.cap⟩, rdGrown_set hg (.inl rfl) _⟩
theorem ReadPost.next {w w2 : World} {q g n m c c' : Nat} {A A' : Option Addr} {l L : List UInt8} {V : Value} (h : Rd w2 g A n c l 0) (hs : Sees w2 g A' m L) (hc : m ≤ c') (hg : w.grownBy w2 (some g)) (hq : q ≠ g) (hq2 : w.heap.size ≤ q) (hgq : g ≤ q) :
    ReadPost w ((w2.setCell ⟨q, 0, none⟩ V).setCell ⟨g, 0, none⟩ (.slice A' m c')) g L 0 := by
  have hrow : (w2.setCell ⟨q, 0, none⟩ V).heap[g]? = some (.cells #[.slice A n c, .int .i64 0] 117 (0, 0)) := (Below.heap_setCell w2 ⟨q, 0, none⟩ V g (fun e => hq e.symm)).trans h.row
  refine ⟨⟨A', m, c', heap_setCell_same _ g 0 _ _ _ hrow, (hs.setCell (p := ⟨q, 0, none⟩) hgq V).setCell (p := ⟨g, 0, none⟩) (Nat.le_refl _) _, hc⟩, rdGrown_set (rdGrown_set hg (.inr hq2) _) (.inl rfl) _⟩

set_option maxHeartbeats 1000000 in
set_option maxHeartbeats 1000000 in
theorem read8_any (g n c : Nat) (A : Option Addr) (l : List UInt8) (e : Int) (w : World) (h : Rd w g A n c l e) : Calls Try.prog 111 #[.pointer (some ⟨g, 0, none⟩)] w fun en w' =>
    en = .returned (.int .u8 ((rdStep 1 l e).1 : Nat)) ∧ ReadPost w w' g (rdStep 1 l e).2.1 (rdStep 1 l e).2.2 := by
  have h2 : Rd ((w.alloc (.cells #[.int .u8 0] 148)).alloc (.cells #[.int .u8 0] 148)) g A n c l e := (h.alloc _).alloc _
  have hlen := h.sees.len
  have hg := h.lt
  by_cases he : e = 0
  · subst he
    by_cases hk : n < 1
    · have hst : Hid (rdStep 1 l 0 = (0, l, 8)) := rdStep_short (by omega)
      rw [hst.out]
      clear hlen
      go_enter Try.func111, Try.ntmps111
      go_wp2_with (go_at_call 109; refine (width8 _ _).mono ?_; rintro e w' ⟨rfl, rfl⟩)
      refine (next_short g n c 1 A l _ _ h2 hk).mono ?_
      rintro e w' ⟨rfl, hx⟩
      have hne : w.heap.size ≠ g := by omega
      have hp := ReadPost.err h2 8 (Grow2.alloc2 w _ _ _)
      have hbox := box_err (w := w) (g := g) hne (.cells #[(.int .u8 0)] 148) (.int .u8 0) 148 (.int .i64 8)
      rw [← hx] at hp hbox
      clear hx
      go_wp2_with fail
      go_ret
      exact ⟨rfl, hp⟩
    · have hst : Hid (rdStep 1 l 0 = (valB (l.take 1), l.drop 1, 0)) := rdStep_yes (by omega)
      rw [hst.out]
      clear hlen
      obtain ⟨V, hV⟩ : ∃ V, V = valB (l.take 1) := ⟨_, rfl⟩
      obtain ⟨L, hL⟩ : ∃ L, L = l.drop 1 := ⟨_, rfl⟩
      rw [← hV, ← hL]
      have HV := Lib.hid hV
      have HL := Lib.hid hL
      clear hV hL
      have hk' : 1 ≤ n := by omega
      have hne : w.heap.size ≠ g := by omega
      go_enter Try.func111, Try.ntmps111
      go_wp2_with (go_at_call 109; refine (width8 _ _).mono ?_; rintro e w' ⟨rfl, rfl⟩)
      refine (next8 g w.heap.size n c A l L V 0 _ h2 hk' (by go_simp) (by go_simp) hne HL HV).mono ?_
      rintro e w' ⟨rfl, A', c', hx, hs', hc'⟩
      have hp := ReadPost.next (V := (.int .u8 V)) h2 hs' hc' (Grow2.alloc2 w _ _ _) hne (Nat.le_refl _) (by omega)
      have hbox := box_next (w := w) (g := g) hne (.cells #[(.int .u8 0)] 148) (.int .u8 0) (.int .u8 V) 148 (.slice A' (n - 1) c')
      rw [← hx] at hp hbox
      clear hx hs'
      go_wp2_with fail
      go_ret
      exact ⟨rfl, hp⟩
  · have hst : Hid (rdStep 1 l e = (0, l, e)) := rdStep_err he
    rw [hst.out]
    clear hlen
    go_enter Try.func111, Try.ntmps111
    go_wp2_with (go_at_call 109; refine (width8 _ _).mono ?_; rintro e w' ⟨rfl, rfl⟩)
    refine (next_err g n c 1 A l e _ _ h2 he).mono ?_
    rintro e w' ⟨rfl, rfl⟩
    go_wp2_with fail
    go_ret
    exact ⟨rfl, ReadPost.same h2 (Grow2.alloc2 w _ _ _)⟩

set_option maxHeartbeats 1000000 in
theorem read16_any (g n c : Nat) (A : Option Addr) (l : List UInt8) (e : Int) (w : World) (h : Rd w g A n c l e) : Calls Try.prog 113 #[.pointer (some ⟨g, 0, none⟩)] w fun en w' =>
    en = .returned (.int .u16 ((rdStep 2 l e).1 : Nat)) ∧ ReadPost w w' g (rdStep 2 l e).2.1 (rdStep 2 l e).2.2 := by
  have h2 : Rd ((w.alloc (.cells #[.int .u16 0] 113)).alloc (.cells #[.int .u16 0] 113)) g A n c l e := (h.alloc _).alloc _
  have hlen := h.sees.len
  have hg := h.lt
  by_cases he : e = 0
  · subst he
    by_cases hk : n < 2
    · have hst : Hid (rdStep 2 l 0 = (0, l, 8)) := rdStep_short (by omega)
      rw [hst.out]
      clear hlen
      go_enter Try.func113, Try.ntmps113
      go_wp2_with (go_at_call 83; refine (width16 _ _).mono ?_; rintro e w' ⟨rfl, rfl⟩)
      refine (next_short g n c 2 A l _ _ h2 hk).mono ?_
      rintro e w' ⟨rfl, hx⟩
      have hne : w.heap.size ≠ g := by omega
      have hp := ReadPost.err h2 8 (Grow2.alloc2 w _ _ _)
      have hbox := box_err (w := w) (g := g) hne (.cells #[(.int .u16 0)] 113) (.int .u16 0) 113 (.int .i64 8)
      rw [← hx] at hp hbox
      clear hx
      go_wp2_with fail
      go_ret
      exact ⟨rfl, hp⟩
    · have hst : Hid (rdStep 2 l 0 = (valB (l.take 2), l.drop 2, 0)) := rdStep_yes (by omega)
      rw [hst.out]
      clear hlen
      obtain ⟨V, hV⟩ : ∃ V, V = valB (l.take 2) := ⟨_, rfl⟩
      obtain ⟨L, hL⟩ : ∃ L, L = l.drop 2 := ⟨_, rfl⟩
      rw [← hV, ← hL]
      have HV := Lib.hid hV
      have HL := Lib.hid hL
      clear hV hL
      have hk' : 2 ≤ n := by omega
      have hne : w.heap.size ≠ g := by omega
      go_enter Try.func113, Try.ntmps113
      go_wp2_with (go_at_call 83; refine (width16 _ _).mono ?_; rintro e w' ⟨rfl, rfl⟩)
      refine (next16 g w.heap.size n c A l L V 0 _ h2 hk' (by go_simp) (by go_simp) hne HL HV).mono ?_
      rintro e w' ⟨rfl, A', c', hx, hs', hc'⟩
      have hp := ReadPost.next (V := (.int .u16 V)) h2 hs' hc' (Grow2.alloc2 w _ _ _) hne (Nat.le_refl _) (by omega)
      have hbox := box_next (w := w) (g := g) hne (.cells #[(.int .u16 0)] 113) (.int .u16 0) (.int .u16 V) 113 (.slice A' (n - 2) c')
      rw [← hx] at hp hbox
      clear hx hs'
      go_wp2_with fail
      go_ret
      exact ⟨rfl, hp⟩
  · have hst : Hid (rdStep 2 l e = (0, l, e)) := rdStep_err he
    rw [hst.out]
    clear hlen
    go_enter Try.func113, Try.ntmps113
    go_wp2_with (go_at_call 83; refine (width16 _ _).mono ?_; rintro e w' ⟨rfl, rfl⟩)
    refine (next_err g n c 2 A l e _ _ h2 he).mono ?_
    rintro e w' ⟨rfl, rfl⟩
    go_wp2_with fail
    go_ret
    exact ⟨rfl, ReadPost.same h2 (Grow2.alloc2 w _ _ _)⟩
end Go.Proofs.Ytebiinjcegdmpaa

namespace Go.Proofs.Ytebiinjcegdmpaa
open Go.RowKit

/-- A Reader in block g: l is left, its error is e. -/
def Rds (w : World) (g : Nat) (l : List UInt8) (e : Int) : Prop := ∃ A n c, Rd w g A n c l e
theorem Rds.keep {w w' : World} {g : Nat} {l : List UInt8} {e : Int} (h : Rds w g l e) (hb : Below w.heap.size w w') : Rds w' g l e := by
  obtain ⟨A, n, c, h⟩ := h
  exact ⟨A, n, c, h.keep hb⟩
theorem Rds.lt {w : World} {g : Nat} {l : List UInt8} {e : Int} (h : Rds w g l e) : g < w.heap.size := by
  obtain ⟨A, n, c, h⟩ := h
  exact h.lt

set_option maxHeartbeats 1000000 in
set_option maxHeartbeats 1000000 in
theorem byte_any (g : Nat) (l : List UInt8) (e : Int) (w : World) (h : Rds w g l e) : Calls Try.prog 84 #[.pointer (some ⟨g, 0, none⟩)] w fun en w' =>
    en = .returned (.int .i64 (((rdStep 1 l e).1 : Nat) : Int)) ∧ ReadPost w w' g (rdStep 1 l e).2.1 (rdStep 1 l e).2.2 := by
  obtain ⟨A, n, c, h⟩ := h
  have hr := read8_any g n c A l e w h
  have hlt := rdStep_lt 1 l e
  generalize rdStep 1 l e = R at hr hlt ⊢
  have hlt' : R.1 < 256 := hlt
  clear hlt
  have Hr := Lib.hid hr
  clear hr
  go_enter Try.func84, Try.ntmps84
  go_wp2_with fail
  refine Hr.out.mono ?_
  rintro en w' ⟨rfl, hp⟩
  go_wp2_with fail
  go_ret
  exact ⟨rfl, hp⟩
set_option maxHeartbeats 1000000 in
theorem end_any (g : Nat) (l : List UInt8) (e : Int) (w : World) (h : Rds w g l e) : Calls Try.prog 32 #[.pointer (some ⟨g, 0, none⟩)] w fun en w' =>
    en = .returned (.int .i64 (if e = 0 ∧ l ≠ [] then 9 else e)) ∧ w = w' := by
  obtain ⟨A, n, c, h⟩ := h
  have h0 := h.rest
  have h1 := h.err
  by_cases he : e = 0
  · subst he
    by_cases hl : l = []
    · subst hl
      obtain rfl := h.sees.len
      go_enter Try.func32, Try.ntmps32
      go_wp2_with fail
      go_ret
      exact ⟨rfl, rfl⟩
    · have hn : 0 < n := by rw [h.sees.len]; exact List.length_pos_iff.2 hl
      have Hl := Lib.hid (show (if (0 : Int) = 0 ∧ l ≠ [] then (9 : Int) else 0) = 9 from if_pos ⟨rfl, hl⟩)
      rw [Hl.out]
      clear hl
      go_enter Try.func32, Try.ntmps32
      go_wp2_with fail
      go_ret
      exact ⟨rfl, rfl⟩
  · have hb : (e == 0) = false := by simpa using he
    rw [if_neg (fun h => he h.1)]
    clear he
    go_enter Try.func32, Try.ntmps32
    go_wp2_with fail
    go_ret
    exact ⟨rfl, rfl⟩
set_option maxHeartbeats 1000000 in
theorem new_any (n c : Nat) (A : Option Addr) (l : List UInt8) (w : World) (hs : Sees w w.heap.size A n l) (hn : n ≤ 70368744177664) : Calls Try.prog 30 #[.slice A n c] w fun en w' =>
    ∃ g, en = .returned (.pointer (some ⟨g, 0, none⟩)) ∧ w.heap.size ≤ g ∧ Rds w' g l 0 ∧ Below w.heap.size w w' := by
  go_enter Try.func30, Try.ntmps30
  go_wp2_with fail
  refine (clone_any A n c l w hs hn).mono ?_
  rintro en w1 ⟨A', N, c', rfl, ho, hb⟩
  go_wp2_with fail
  go_ret
  exact ⟨w1.heap.size, rfl, hb.size, ⟨A', N, c', at_new w1 _, ho.sees.alloc (Nat.le_refl _) _, ho.cap.1⟩, hb.alloc hb.size _⟩

/-- What Text answers, and what it leaves. -/
def txNext (k : Nat) (l : List UInt8) (e : Int) : List UInt8 × List UInt8 × Int := if e ≠ 0 then ([], l, e) else if l.length < k then ([], l, 8) else (l.take k, l.drop k, 0)
def txStep (l : List UInt8) (e : Int) : List UInt8 × List UInt8 × Int := txNext (rdStep 2 l e).1 (rdStep 2 l e).2.1 (rdStep 2 l e).2.2
theorem txNext_err {k : Nat} {l : List UInt8} {e : Int} (h : ¬ e = 0) : txNext k l e = ([], l, e) := by unfold txNext; rw [if_pos h]
theorem txNext_short {k : Nat} {l : List UInt8} (h : l.length < k) : txNext k l 0 = ([], l, 8) := by unfold txNext; rw [if_neg (by simp), if_pos h]
theorem txNext_yes {k : Nat} {l : List UInt8} (h : ¬ l.length < k) : txNext k l 0 = (l.take k, l.drop k, 0) := by unfold txNext; rw [if_neg (by simp), if_neg h]

set_option maxHeartbeats 2000000 in
theorem rdText_any (g : Nat) (l : List UInt8) (e : Int) (w : World) (h : Rds w g l e) : Calls Try.prog 85 #[.pointer (some ⟨g, 0, none⟩)] w fun en w' =>
    en = .returned (.string ⟨(txStep l e).1.toArray⟩) ∧ ReadPost w w' g (txStep l e).2.1 (txStep l e).2.2 := by
  have hg := h.lt
  obtain ⟨A, n, c, h⟩ := h
  have hr := read16_any g n c A l e _ (h.alloc (.cells #[.string ⟨#[]⟩] 170))
  have hlt := rdStep_lt 2 l e
  unfold txStep
  generalize rdStep 2 l e = R at hr hlt ⊢
  obtain ⟨k, l1, e1⟩ := R
  have hlt' : k < 65536 := hlt
  simp only at hr ⊢
  have Hr := Lib.hid hr
  clear hr hlt
  have hne : w.heap.size ≠ g := by omega
  have hc0 : (w.alloc (.cells #[.string ⟨#[]⟩] 170)).cell? ⟨w.heap.size, 0, none⟩ = some (.string ⟨#[]⟩) := cell_of_row _ _ 0 #[.string ⟨#[]⟩] _ (0, 0) (at_new w _)
  have hf0 : (w.alloc (.cells #[.string ⟨#[]⟩] 170)).frozen? ⟨w.heap.size, 0, none⟩ = false := by
    simp only [World.frozen?, at_new w (.cells #[.string ⟨#[]⟩] 170)]
    rfl
  have Hc0 := Lib.hid hc0
  have Hf0 := Lib.hid hf0
  clear hc0 hf0
  have fin : ∀ (w2 : World), (w.alloc (.cells #[.string ⟨#[]⟩] 170)).grownBy w2 (some g) → w.grownBy w2 (some g) ∧ w2.cell? ⟨w.heap.size, 0, none⟩ = some (.string ⟨#[]⟩) ∧ w2.frozen? ⟨w.heap.size, 0, none⟩ = false := by
    intro w2 hw
    have hb := hw.block w.heap.size (by simp) (by intro he; injection he with he; exact hne he)
    refine ⟨⟨hw.os, hw.tape, hw.output, Nat.le_trans (by simp) hw.size, fun i hi hn => (hw.block i (by simp; omega) hn).trans (Below.heap_alloc w _ i hi)⟩, ?_, ?_⟩
    · rw [World.cell?_of_block (w := w.alloc (.cells #[.string ⟨#[]⟩] 170)) hb]; exact Hc0.out
    · rw [World.frozen?_of_block (w := w.alloc (.cells #[.string ⟨#[]⟩] 170)) hb]; exact Hf0.out
  have Fin := Lib.hid fin
  clear fin
  by_cases he : e1 = 0
  · subst he
    by_cases hk : l1.length < k
    · rw [txNext_short hk]
      go_enter Try.func85, Try.ntmps85
      go_wp2_with fail
      refine Hr.out.mono ?_
      rintro en w2 ⟨rfl, ⟨A2, n2, c2, h2⟩, hgr⟩
      obtain ⟨hgw, hcq, hfq⟩ := Fin.out w2 hgr
      clear hgr
      go_wp2_with fail
      refine (next_short g n2 c2 k A2 l1 _ _ h2 (by rw [h2.sees.len]; exact hk)).mono ?_
      rintro en w3 ⟨rfl, hx⟩
      have hp := ReadPost.err h2 8 hgw
      have hbox : (w2.setCell ⟨g, 1, none⟩ (.int .i64 8)).cell? ⟨w.heap.size, 0, none⟩ = some (.string ⟨#[]⟩) := by
        rw [World.cell?_setCell_other _ _ _ _ (by intro e; injection e with e1; exact hne e1.symm)]
        exact hcq
      rw [← hx] at hp hbox
      clear hx hcq hfq
      go_wp2_with fail
      go_ret
      exact ⟨rfl, hp⟩
    · rw [txNext_yes hk]
      obtain ⟨L, hL⟩ : ∃ L, L = l1.drop k := ⟨_, rfl⟩
      obtain ⟨V, hV⟩ : ∃ V : ByteArray, V = ⟨(l1.take k).toArray⟩ := ⟨_, rfl⟩
      have HL := Lib.hid hL
      have HV := Lib.hid hV
      rw [← hL, ← hV]
      clear hL hV
      go_enter Try.func85, Try.ntmps85
      go_wp2_with fail
      refine Hr.out.mono ?_
      rintro en w2 ⟨rfl, ⟨A2, n2, c2, h2⟩, hgr⟩
      obtain ⟨hgw, hcq, hfq⟩ := Fin.out w2 hgr
      clear hgr
      go_wp2_with fail
      have hk' : k ≤ n2 := by rw [h2.sees.len]; omega
      refine (nextText g w.heap.size n2 c2 k A2 l1 L V _ w2 h2 hk' hcq hfq hne HL HV).mono ?_
      rintro en w3 ⟨rfl, A', c', hx, hs', hc'⟩
      have hp := ReadPost.next (V := .string V) h2 hs' hc' hgw hne (Nat.le_refl _) (by omega)
      have hbox : ((w2.setCell ⟨w.heap.size, 0, none⟩ (.string V)).setCell ⟨g, 0, none⟩ (.slice A' (n2 - k) c')).cell? ⟨w.heap.size, 0, none⟩ = some (.string V) := by
        rw [World.cell?_setCell_other _ _ _ _ (by intro e; injection e with e1; exact hne e1.symm)]
        exact World.cell?_setCell_same _ _ _ hcq
      rw [← hx] at hp hbox
      clear hx hs' hcq hfq
      go_wp2_with fail
      go_ret
      exact ⟨rfl, hp⟩
  · rw [txNext_err he]
    go_enter Try.func85, Try.ntmps85
    go_wp2_with fail
    refine Hr.out.mono ?_
    rintro en w2 ⟨rfl, ⟨A2, n2, c2, h2⟩, hgr⟩
    obtain ⟨hgw, hcq, hfq⟩ := Fin.out w2 hgr
    clear hgr
    go_wp2_with fail
    refine (next_err g n2 c2 k A2 l1 e1 _ _ h2 he).mono ?_
    rintro en w3 ⟨rfl, rfl⟩
    clear hfq
    go_wp2_with fail
    go_ret
    exact ⟨rfl, ReadPost.same h2 hgw⟩

theorem Rds.far {w w' : World} {g g2 : Nat} {l : List UInt8} {e : Int} (h : Rds w g l e) (hw : w.grownBy w' (some g2)) (hg : g < g2) : Rds w' g l e := by
  have hlt := h.lt
  obtain ⟨A, n, c, h⟩ := h
  have hb : Below (g + 1) w w' := (Below.refl _ _).grown hw (by omega) (fun k hk => by injection hk with hk; omega)
  exact ⟨A, n, c, (hb.block g (by omega)).trans h.row, h.sees.below (hb.mono (by omega)), h.cap⟩
theorem ReadPost.below {w w' : World} {g B : Nat} {l : List UInt8} {e : Int} (h : ReadPost w w' g l e) (hB : B ≤ g) (hw : B ≤ w.heap.size) : Below B w w' :=
  (Below.refl _ _).grown h.2 hw (fun k hk => by injection hk with hk; omega)
theorem ReadPost.rds {w w' : World} {g : Nat} {l : List UInt8} {e : Int} (h : ReadPost w w' g l e) : Rds w' g l e := h.1

theorem fail_first (g : Nat) (l : List UInt8) (x : Int) (w : World) (h : Rds w g l 0) : Calls Try.prog 87 #[.pointer (some ⟨g, 0, none⟩), .int .i64 x] w fun en w' =>
    en = .returned (.tuple #[]) ∧ ReadPost w w' g l x := by
  obtain ⟨A, n, c, h⟩ := h
  refine (fail_zero g n c A l x w h).mono ?_
  rintro en w' ⟨rfl, rfl⟩
  exact ⟨rfl, ReadPost.err h x (World.grownBy.refl w _)⟩
theorem fail_later (g : Nat) (l : List UInt8) (x e : Int) (w : World) (h : Rds w g l e) (he : e ≠ 0) : Calls Try.prog 87 #[.pointer (some ⟨g, 0, none⟩), .int .i64 x] w fun en w' =>
    en = .returned (.tuple #[]) ∧ w = w' := by
  obtain ⟨A, n, c, h⟩ := h
  exact fail_some g n c A l x e w h he
theorem wrap_zero : wrap64 ((0 : Nat) : Int) = 0 := by unfold wrap64; omega
/-- With an error nothing is read. -/
theorem byte_err (g : Nat) (l : List UInt8) (e : Int) (w : World) (h : Rds w g l e) (he : e ≠ 0) : Calls Try.prog 84 #[.pointer (some ⟨g, 0, none⟩)] w fun en w' => en = .returned (.int .i64 0) ∧ ReadPost w w' g l e := by
  have hr := byte_any g l e w h
  rw [rdStep_err he] at hr
  exact hr
theorem text_err (g : Nat) (l : List UInt8) (e : Int) (w : World) (h : Rds w g l e) (he : e ≠ 0) : Calls Try.prog 85 #[.pointer (some ⟨g, 0, none⟩)] w fun en w' => en = .returned (.string ⟨#[]⟩) ∧ ReadPost w w' g l e := by
  have hr := rdText_any g l e w h
  unfold txStep at hr
  rw [rdStep_err he, txNext_err he] at hr
  exact hr
theorem end_some (g : Nat) (l : List UInt8) (e : Int) (w : World) (h : Rds w g l e) (he : e ≠ 0) : Calls Try.prog 32 #[.pointer (some ⟨g, 0, none⟩)] w fun en w' => en = .returned (.int .i64 e) ∧ w = w' := by
  have hr := end_any g l e w h
  rw [if_neg (fun h => he h.1)] at hr
  exact hr
theorem end_nil (g : Nat) (w : World) (h : Rds w g [] 0) : Calls Try.prog 32 #[.pointer (some ⟨g, 0, none⟩)] w fun en w' => en = .returned (.int .i64 0) ∧ w = w' := end_any g [] 0 w h
theorem end_more (g : Nat) (l : List UInt8) (w : World) (h : Rds w g l 0) (hl : l ≠ []) : Calls Try.prog 32 #[.pointer (some ⟨g, 0, none⟩)] w fun en w' => en = .returned (.int .i64 9) ∧ w = w' := by
  have hr := end_any g l 0 w h
  rw [if_pos ⟨rfl, hl⟩] at hr
  exact hr
end Go.Proofs.Ytebiinjcegdmpaa

namespace Go.Proofs.Ytebiinjcegdmpaa
open Go.RowKit

/-- The second reader in block g: its bytes are L, it stands at p, its error is e. -/
structure Rf (w : World) (g : Nat) (A : Option Addr) (n c : Nat) (L : List UInt8) (p : Nat) (e : Int) : Prop where
  row : w.heap[g]? = some (.cells #[.slice A n c, .int .i64 p, .int .i64 e] 134 (0, 0))
  sees : Sees w g A n L
  cap : n ≤ c
  top : c ≤ maxLen
  pos : p ≤ n
section
variable {w w' : World} {g n c p : Nat} {A : Option Addr} {L : List UInt8} {e : Int}
theorem Rf.c0 (h : Rf w g A n c L p e) : w.cell? ⟨g, 0, none⟩ = some (.slice A n c) := cell_of_row w g 0 _ _ _ h.row
theorem Rf.c1 (h : Rf w g A n c L p e) : w.cell? ⟨g, 1, none⟩ = some (.int .i64 p) := cell_of_row w g 1 _ _ _ h.row
theorem Rf.c2 (h : Rf w g A n c L p e) : w.cell? ⟨g, 2, none⟩ = some (.int .i64 e) := cell_of_row w g 2 _ _ _ h.row
theorem Rf.free (h : Rf w g A n c L p e) (i : Nat) : w.frozen? ⟨g, i, none⟩ = false := by simp [World.frozen?, h.row]
theorem Rf.lt (h : Rf w g A n c L p e) : g < w.heap.size := block_lt_of_cell (a := ⟨g, 1, none⟩) h.c1
theorem Rf.drewN (h : Rf w g A n c L p e) (k : Nat) : Rf (w.drewN k) g A n c L p e := ⟨h.row, h.sees.drewN k, h.cap, h.top, h.pos⟩
theorem Rf.err (h : Rf w g A n c L p e) (x : Int) : Rf (w.setCell ⟨g, 2, none⟩ (.int .i64 x)) g A n c L p x :=
  ⟨heap_setCell_same w g 2 _ _ _ h.row, h.sees.setCell (p := ⟨g, 2, none⟩) (Nat.le_refl _) _, h.cap, h.top, h.pos⟩
theorem Rf.move (h : Rf w g A n c L p e) {q : Nat} (hq : q ≤ n) : Rf (w.setCell ⟨g, 1, none⟩ (.int .i64 q)) g A n c L q e :=
  ⟨heap_setCell_same w g 1 _ _ _ h.row, h.sees.setCell (p := ⟨g, 1, none⟩) (Nat.le_refl _) _, h.cap, h.top, hq⟩
end
theorem grown_drewN {a w : World} {row : Option Nat} (h : a.grownBy w row) (n : Nat) : a.grownBy (w.drewN n) row := ⟨h.os, h.tape, h.output, h.size, h.block⟩

/-- What take leaves: the reader, and all else as it was. -/
def TakePost (w w' : World) (g : Nat) (A : Option Addr) (n c : Nat) (L : List UInt8) (p : Nat) (e : Int) : Prop := Rf w' g A n c L p e ∧ w.grownBy w' (some g)

/-- What take answers: a slice of k bytes. -/
def TakeGot (en : Ending) (w' : World) (g k : Nat) (T : List UInt8) : Prop := ∃ A2 c2, en = .returned (.slice A2 k c2) ∧ Sees w' g A2 k T

set_option maxHeartbeats 1000000 in
theorem take_err (g n c p k : Nat) (A : Option Addr) (L : List UInt8) (e : Int) (w : World) (h : Rf w g A n c L p e) (he : e ≠ 0) : Calls Try.prog 93 #[.pointer (some ⟨g, 0, none⟩), .int .i64 k] w fun en w' =>
    en = .returned (.slice none 0 0) ∧ TakePost w w' g A n c L p e := by
  have h0 := h.c0
  have h1 := h.c1
  have h2 := h.c2
  have hb1 : (e == 0) = false := by simpa using he
  have hb2 : (e != 0) = true := by simpa using he
  go_enter Try.func93, Try.ntmps93
  go_wp2_with fail
  go_quiet (fail)
  go_wp2_with fail
  go_ret
  exact ⟨rfl, h.drewN _, grown_drewN (World.grownBy.refl w _) _⟩
set_option maxHeartbeats 1000000 in
theorem take_short (g n c p k : Nat) (A : Option Addr) (L : List UInt8) (w : World) (h : Rf w g A n c L p 0) (hk : n - p < k) : Calls Try.prog 93 #[.pointer (some ⟨g, 0, none⟩), .int .i64 k] w fun en w' =>
    en = .returned (.slice none 0 0) ∧ TakePost w w' g A n c L p 8 := by
  have h0 := h.c0
  have h1 := h.c1
  have h2 := h.c2
  have f2 := h.free 2
  have hp := h.pos
  have hc := h.cap
  have ht := h.top
  unfold maxLen at ht
  have hlt : (n : Int) - (p : Int) < (k : Int) := by omega
  go_enter Try.func93, Try.ntmps93
  go_wp2_with fail
  go_quiet (fail)
  go_wp2_with fail
  go_ret
  exact ⟨rfl, (h.drewN _).err 8, rdGrown_set (grown_drewN (World.grownBy.refl w _) _) (.inl rfl) _⟩
set_option maxHeartbeats 1000000 in
theorem take_yes (g n c p k : Nat) (A : Option Addr) (L : List UInt8) (w : World) (h : Rf w g A n c L p 0) (hk : k ≤ n - p) (hk2 : k ≤ 65535) : Calls Try.prog 93 #[.pointer (some ⟨g, 0, none⟩), .int .i64 k] w fun en w' =>
    TakeGot en w' g k ((L.drop p).take k) ∧ TakePost w w' g A n c L (p + k) 0 := by
  have h0 := h.c0
  have h1 := h.c1
  have h2 := h.c2
  have f1 := h.free 1
  have hp := h.pos
  have hc := h.cap
  have ht := h.top
  unfold maxLen at ht
  have hge : ¬ (n : Int) - (p : Int) < (k : Int) := by omega
  have hgd : decide ((n : Int) - (p : Int) < (k : Int)) = false := by simpa using hge
  go_enter Try.func93, Try.ntmps93
  go_wp2_with fail
  have h' := h
  clear h
  go_quiet (fail)
  obtain ⟨nq0, hnq0⟩ : ∃ x : Nat, x = nq := ⟨_, rfl⟩
  subst hnq0
  go_wp2_with fail
  have hs1 : (0 : Int) ≤ (p : Int) := by omega
  have hs2 : (p : Int) ≤ (p : Int) + (k : Int) := by omega
  have hs3 : (p : Int) + (k : Int) ≤ (c : Int) := by omega
  have hs4 : (p : Int) + (k : Int) - (k : Int) = (p : Int) := by omega
  have hs5 : IntKind.i64.wrap ((p : Int) + (k : Int)) = (p : Int) + (k : Int) := by rw [IntKind.wrap_i64]; omega
  go_quiet (fail)
  go_wp2_with fail
  all_goals
    go_ret
    have hm := (h'.drewN nq0).move (q := p + k) (by omega)
    have hd := (h'.sees.drop hp hc).take (k := k) (by omega)
    have hd2 := ((hd.drewN nq0).setCell (p := ⟨g, 1, none⟩) (Nat.le_refl _) (.int .i64 ((p + k : Nat) : Int)))
    rw [show ((p + k : Nat) : Int) = (p : Int) + (k : Int) by omega] at hm hd2
    first
    | (rw [if_neg (by assumption)] at hd2
       exact ⟨⟨_, _, rfl, hd2.drewN _⟩, hm.drewN _, grown_drewN (rdGrown_set (grown_drewN (World.grownBy.refl w _) _) (.inl rfl) _) _⟩)
    | (rw [if_pos (by assumption)] at hd2
       have hcp : c = p := by assumption
       subst hcp
       exact ⟨⟨_, _, rfl, hd2.drewN _⟩, hm.drewN _, grown_drewN (rdGrown_set (grown_drewN (World.grownBy.refl w _) _) (.inl rfl) _) _⟩)
end Go.Proofs.Ytebiinjcegdmpaa

namespace Go.Proofs.Ytebiinjcegdmpaa
open Go.RowKit

/-- What a second reader is made of: its slice, its bytes. -/
structure Dat where
  A : Option Addr
  n : Nat
  c : Nat
  L : List UInt8
def Rfs (D : Dat) (w : World) (g : Nat) (l : List UInt8) (e : Int) : Prop := ∃ A n c L p, Rf w g A n c L p e ∧ l = L.drop p ∧ D = ⟨A, n, c, L⟩
def RfPost (D : Dat) (w w' : World) (g : Nat) (l : List UInt8) (e : Int) : Prop := Rfs D w' g l e ∧ w.grownBy w' (some g)
variable {D : Dat}

theorem rtake_err (g k : Nat) (l : List UInt8) (e : Int) (w : World) (h : Rfs D w g l e) (he : e ≠ 0) : Calls Try.prog 93 #[.pointer (some ⟨g, 0, none⟩), .int .i64 k] w fun en w' =>
    en = .returned (.slice none 0 0) ∧ RfPost D w w' g l e := by
  obtain ⟨A, n, c, L, p, h, rfl, rfl⟩ := h
  exact (take_err g n c p k A L e w h he).mono fun en w' ⟨a, b⟩ => ⟨a, ⟨A, n, c, L, p, b.1, rfl, rfl⟩, b.2⟩
theorem rtake_short (g k : Nat) (l : List UInt8) (w : World) (h : Rfs D w g l 0) (hk : l.length < k) : Calls Try.prog 93 #[.pointer (some ⟨g, 0, none⟩), .int .i64 k] w fun en w' =>
    en = .returned (.slice none 0 0) ∧ RfPost D w w' g l 8 := by
  obtain ⟨A, n, c, L, p, h, rfl, rfl⟩ := h
  have hl := h.sees.len
  rw [List.length_drop] at hk
  exact (take_short g n c p k A L w h (by omega)).mono fun en w' ⟨a, b⟩ => ⟨a, ⟨A, n, c, L, p, b.1, rfl, rfl⟩, b.2⟩
theorem rtake_yes (g k : Nat) (l : List UInt8) (w : World) (h : Rfs D w g l 0) (hk : ¬ l.length < k) (hk2 : k ≤ 65535) : Calls Try.prog 93 #[.pointer (some ⟨g, 0, none⟩), .int .i64 k] w fun en w' =>
    TakeGot en w' g k (l.take k) ∧ RfPost D w w' g (l.drop k) 0 := by
  obtain ⟨A, n, c, L, p, h, rfl, rfl⟩ := h
  have hl := h.sees.len
  have hp := h.pos
  rw [List.length_drop] at hk
  exact (take_yes g n c p k A L w h (by omega) hk2).mono fun en w' ⟨a, b⟩ => ⟨a, ⟨A, n, c, L, p + k, b.1, by rw [List.drop_drop], rfl⟩, b.2⟩

theorem valB_cons {T : List UInt8} {k : Nat} (h : k < T.length) : valB (T.drop k) = (T.getD k 0).toNat + 256 * valB (T.drop (k + 1)) := by
  rw [List.drop_eq_getElem_cons h, valB]
  simp [List.getD, List.getElem?_eq_getElem h]
theorem shl_or (x : UInt8) (V : Nat) (hV : V < 2 ^ 56) : bits .or .u64 (((V : Int) * 256)) (x.toNat : Int) = ((x.toNat + 256 * V : Nat) : Int) := by
  have hx := x.toNat_lt
  generalize x.toNat = y at *
  have e : ((V : Int) * 256) = ((V * 2 ^ 8 : Nat) : Int) := by omega
  rw [e, u64_or_nat _ _ (by omega) (by omega)]
  congr 1
  rw [← Nat.shiftLeft_eq, ← Nat.shiftLeft_add_eq_or_of_lt (by omega), Nat.shiftLeft_eq]
  omega

set_option maxHeartbeats 1000000 in
theorem rbyte_any (g : Nat) (l : List UInt8) (e : Int) (w : World) (h : Rfs D w g l e) : Calls Try.prog 68 #[.pointer (some ⟨g, 0, none⟩)] w fun en w' =>
    en = .returned (.int .i64 (((rdStep 1 l e).1 : Nat) : Int)) ∧ RfPost D w w' g (rdStep 1 l e).2.1 (rdStep 1 l e).2.2 := by
  by_cases he : e = 0
  · subst he
    by_cases hk : l.length < 1
    · rw [rdStep_short hk]
      go_enter Try.func68, Try.ntmps68
      go_wp2_with fail
      refine (rtake_short g 1 l w h hk).mono ?_
      rintro en w' ⟨rfl, hp⟩
      go_wp2_with fail
      go_ret
      exact ⟨rfl, hp⟩
    · rw [rdStep_yes hk]
      obtain ⟨x, r, rfl⟩ : ∃ x r, l = x :: r := by
        cases l with
        | nil => exact absurd (by simp) hk
        | cons x r => exact ⟨x, r, rfl⟩
      have e1 : valB ((x :: r).take 1) = x.toNat := by simp [valB]
      rw [e1]
      go_enter Try.func68, Try.ntmps68
      go_wp2_with fail
      refine (rtake_yes g 1 _ w h hk (by omega)).mono ?_
      rintro en w' ⟨⟨A2, c2, rfl, hs⟩, hp⟩
      obtain ⟨b, o, rfl, _, hc⟩ := hs.at0 (j := 0) (by omega)
      have hx : ((x :: r).take 1).getD 0 0 = x := rfl
      rw [hx, Nat.add_zero] at hc
      have hx256 := x.toNat_lt
      clear hx hs
      go_wp2_with fail
      go_ret
      exact ⟨rfl, hp⟩
  · rw [rdStep_err he]
    go_enter Try.func68, Try.ntmps68
    go_wp2_with fail
    refine (rtake_err g 1 l e w h he).mono ?_
    rintro en w' ⟨rfl, hp⟩
    go_wp2_with fail
    go_ret
    exact ⟨rfl, hp⟩

end Go.Proofs.Ytebiinjcegdmpaa

namespace Go.Proofs.Ytebiinjcegdmpaa
open Go.RowKit
variable {D : Dat}

set_option maxHeartbeats 400000 in
/-- The text behind its length. -/
theorem rfText_any (g : Nat) (l : List UInt8) (e : Int) (w : World) (h : Rfs D w g l e) : Calls Try.prog 69 #[.pointer (some ⟨g, 0, none⟩)] w fun en w' =>
    en = .returned (.string ⟨(txStep l e).1.toArray⟩) ∧ RfPost D w w' g (txStep l e).2.1 (txStep l e).2.2 := by
  unfold txStep
  by_cases he : e = 0
  · subst he
    by_cases hk : l.length < 2
    · rw [rdStep_short hk, txNext_err (e := 8) (by omega)]
      go_enter Try.func69, Try.ntmps69
      go_wp2_with fail
      refine (rtake_short g 2 l w h hk).mono ?_
      rintro en w' ⟨rfl, hp⟩
      go_wp2_with fail
      go_ret
      exact ⟨rfl, hp⟩
    · rw [rdStep_yes hk]
      obtain ⟨x, y, r, rfl⟩ : ∃ x y r, l = x :: y :: r := by
        match l, hk with
        | [], hk => exact absurd (by simp) hk
        | [x], hk => exact absurd (by simp) hk
        | x :: y :: r, _ => exact ⟨x, y, r, rfl⟩
      have e1 : valB ((x :: y :: r).take 2) = x.toNat + 256 * y.toNat := by simp [valB]
      rw [e1, show (x :: y :: r).drop 2 = r from rfl]
      have hx := x.toNat_lt
      have hy := y.toNat_lt
      have key : ∀ w, Rfs D w g r 0 → ∃ T m, T.length = m ∧ T = (txNext (x.toNat + 256 * y.toNat) r 0).1 ∧ Calls Try.prog 93 #[.pointer (some ⟨g, 0, none⟩), .int .i64 ((x.toNat + 256 * y.toNat : Nat) : Int)] w fun en w' => TakeGot en w' g m T ∧ RfPost D w w' g (txNext (x.toNat + 256 * y.toNat) r 0).2.1 (txNext (x.toNat + 256 * y.toNat) r 0).2.2 := by
        intro w hr
        by_cases hk2 : r.length < x.toNat + 256 * y.toNat
        · rw [txNext_short hk2]
          exact ⟨[], 0, rfl, rfl, (rtake_short g _ r w hr hk2).mono fun en w' ⟨a, b⟩ => ⟨⟨none, 0, a, Sees.none_ _ _ _⟩, b⟩⟩
        · rw [txNext_yes hk2]
          exact ⟨_, x.toNat + 256 * y.toNat, by rw [List.length_take]; omega, rfl, rtake_yes g _ r w hr hk2 (by omega)⟩
      rw [show ((x.toNat + 256 * y.toNat : Nat) : Int) = (x.toNat : Int) + 256 * (y.toNat : Int) by omega] at key
      generalize txNext (x.toNat + 256 * y.toNat) r 0 = R at key ⊢
      obtain ⟨S, hS⟩ : ∃ S : ByteArray, S = ⟨R.1.toArray⟩ := ⟨_, rfl⟩
      rw [← hS]
      have HS := Lib.hid hS
      have Hkey := Lib.hid key
      clear hS key
      go_enter Try.func69, Try.ntmps69
      go_wp2_with fail
      refine (rtake_yes g 2 _ w h hk (by omega)).mono ?_
      rintro en w1 ⟨⟨A2, c2, rfl, hs⟩, hp⟩
      have hs' := hs
      obtain ⟨b, o, hA, _, hc0⟩ := hs.at0 (j := 0) (by omega)
      obtain ⟨b', o', hA', _, hc1⟩ := hs'.at0 (j := 1) (by omega)
      rw [hA] at hA'
      injection hA' with hA'
      injection hA' with hb ho _
      subst hb
      subst ho
      subst hA
      rw [show ((x :: y :: r).take 2).getD 0 0 = x from rfl, Nat.add_zero] at hc0
      rw [show ((x :: y :: r).take 2).getD 1 0 = y from rfl] at hc1
      have hp' := hp.1
      rw [show (x :: y :: r).drop 2 = r from rfl] at hp'
      obtain ⟨A', n', c', L', p', hrf, hrl, hD⟩ := hp'
      obtain ⟨T, m, hTm, hT, hcall⟩ := Hkey.out w1.drew ⟨A', n', c', L', p', hrf.drewN 1, hrl, hD⟩
      have Hcall := Lib.hid hcall
      have hgw := hp.2
      rw [← hT] at HS
      clear hT hrl hrf hD hcall hTm hs hs' hp
      go_wp2_with fail
      have hw1 : IntKind.i64.wrap (x.toNat : Int) = (x.toNat : Int) := by rw [IntKind.wrap_i64]; omega
      have hw2 : IntKind.i64.wrap (y.toNat : Int) = (y.toNat : Int) := by rw [IntKind.wrap_i64]; omega
      have hw3 : IntKind.i64.wrap (256 * (y.toNat : Int)) = 256 * (y.toNat : Int) := by rw [IntKind.wrap_i64]; omega
      have hw4 : IntKind.i64.wrap ((x.toNat : Int) + 256 * (y.toNat : Int)) = (x.toNat : Int) + 256 * (y.toNat : Int) := by rw [IntKind.wrap_i64]; omega
      go_region_with (first
        | (go_at_call 93
           refine Hcall.out.mono ?_
           rintro en w3 ⟨⟨A3, c3, rfl, hs3⟩, hp3⟩
           have hcv := run_text 24 9 5 Try.underlying24 Try.underlying5 Try.underlying9 (c := c3) hs3
           rw [← HS.out] at hcv))
      all_goals
        go_wp2_with fail
        go_ret
        exact ⟨rfl, hp3.1, World.grownBy.trans hgw ⟨hp3.2.os, hp3.2.tape, hp3.2.output, hp3.2.size, hp3.2.block⟩⟩
  · rw [rdStep_err he, txNext_err he]
    go_enter Try.func69, Try.ntmps69
    go_wp2_with fail
    refine (rtake_err g 2 l e w h he).mono ?_
    rintro en w' ⟨rfl, hp⟩
    go_wp2_with fail
    go_ret
    exact ⟨rfl, hp⟩

set_option maxHeartbeats 1000000 in
theorem rfail_zero (g : Nat) (l : List UInt8) (x : Int) (w : World) (h : Rfs D w g l 0) : Calls Try.prog 70 #[.pointer (some ⟨g, 0, none⟩), .int .i64 x] w fun en w' => en = .returned (.tuple #[]) ∧ RfPost D w w' g l x := by
  obtain ⟨A, n, c, L, p, h, rfl, rfl⟩ := h
  have h2 := h.c2
  have f2 := h.free 2
  have Hp := Lib.hid (show RfPost ⟨A, n, c, L⟩ w (w.setCell ⟨g, 2, none⟩ (.int .i64 x)) g (L.drop p) x from ⟨⟨A, n, c, L, p, h.err x, rfl, rfl⟩, rdGrown_set (World.grownBy.refl w _) (.inl rfl) _⟩)
  go_enter Try.func70, Try.ntmps70
  go_wp2
  go_end0
  exact ⟨rfl, Hp.out⟩
set_option maxHeartbeats 1000000 in
theorem rfail_some (g : Nat) (l : List UInt8) (x e : Int) (w : World) (h : Rfs D w g l e) (he : e ≠ 0) : Calls Try.prog 70 #[.pointer (some ⟨g, 0, none⟩), .int .i64 x] w fun en w' => en = .returned (.tuple #[]) ∧ RfPost D w w' g l e := by
  obtain ⟨A, n, c, L, p, h, rfl, rfl⟩ := h
  have h2 := h.c2
  have hb : (e == 0) = false := by simpa using he
  have Hp := Lib.hid (show RfPost ⟨A, n, c, L⟩ w w g (L.drop p) e from ⟨⟨A, n, c, L, p, h, rfl, rfl⟩, World.grownBy.refl w _⟩)
  go_enter Try.func70, Try.ntmps70
  go_wp2
  go_end0
  exact ⟨rfl, Hp.out⟩
set_option maxHeartbeats 1000000 in
theorem rend_any (g : Nat) (l : List UInt8) (e : Int) (w : World) (h : Rfs D w g l e) : Calls Try.prog 40 #[.pointer (some ⟨g, 0, none⟩)] w fun en w' => en = .returned (.int .i64 (if e = 0 ∧ l ≠ [] then 9 else e)) ∧ RfPost D w w' g l e := by
  obtain ⟨A, n, c, L, p, h, rfl, rfl⟩ := h
  have h0 := h.c0
  have h1 := h.c1
  have h2 := h.c2
  have hp := h.pos
  have hl := h.sees.len
  have Hp := Lib.hid (show ∀ k, RfPost ⟨A, n, c, L⟩ w (w.drewN k) g (L.drop p) e from fun k => ⟨⟨A, n, c, L, p, h.drewN k, rfl, rfl⟩, grown_drewN (World.grownBy.refl w _) k⟩)
  by_cases he : e = 0
  · subst he
    by_cases hpn : p < n
    · have Hl := Lib.hid (show (if (0 : Int) = 0 ∧ L.drop p ≠ [] then (9 : Int) else 0) = 9 from if_pos ⟨rfl, by intro e; have := congrArg List.length e; rw [List.length_drop] at this; simp at this; omega⟩)
      rw [Hl.out]
      have hlt : (p : Int) < (n : Int) := by omega
      clear hl h
      go_enter Try.func40, Try.ntmps40
      go_wp2_with fail
      go_quiet (fail)
      go_wp2_with fail
      go_ret
      exact ⟨rfl, Hp.out _⟩
    · have Hl := Lib.hid (show (if (0 : Int) = 0 ∧ L.drop p ≠ [] then (9 : Int) else 0) = 0 from if_neg (by intro e; exact e.2 (List.drop_of_length_le (by omega))))
      rw [Hl.out]
      have hge : decide ((p : Int) < (n : Int)) = false := by simpa using hpn
      clear hl h
      go_enter Try.func40, Try.ntmps40
      go_wp2_with fail
      go_quiet (fail)
      go_wp2_with fail
      go_ret
      exact ⟨rfl, Hp.out _⟩
  · have hb : (e == 0) = false := by simpa using he
    rw [if_neg (fun h => he h.1)]
    clear he hl h
    go_enter Try.func40, Try.ntmps40
    go_wp2_with fail
    go_quiet (fail)
    go_wp2_with fail
    go_ret
    exact ⟨rfl, Hp.out _⟩
set_option maxHeartbeats 1000000 in
theorem rnew_any (n c : Nat) (A : Option Addr) (l : List UInt8) (w : World) (hs : Sees w w.heap.size A n l) (hnc : n ≤ c) (hcm : c ≤ maxLen) : Calls Try.prog 38 #[.slice A n c] w fun en w' =>
    ∃ g, en = .returned (.pointer (some ⟨g, 0, none⟩)) ∧ w.heap.size ≤ g ∧ Rfs ⟨A, n, c, l⟩ w' g l 0 ∧ Below w.heap.size w w' := by
  go_enter Try.func38, Try.ntmps38
  go_wp2_with fail
  go_ret
  exact ⟨w.heap.size, rfl, Nat.le_refl _, ⟨A, n, c, l, 0, ⟨at_new w _, hs.alloc (Nat.le_refl _) _, hnc, hcm, Nat.zero_le _⟩, rfl, rfl⟩, (Below.refl _ _).alloc (Nat.le_refl _) _⟩
end Go.Proofs.Ytebiinjcegdmpaa
