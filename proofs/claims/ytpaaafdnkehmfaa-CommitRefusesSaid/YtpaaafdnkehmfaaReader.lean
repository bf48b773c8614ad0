/- The Reader: Fail, End, next, read, Int, Byte, Text, New. -/
import Derived.Test.YtpaaafdnkehmfaaSet
namespace Go.Proofs.Ytpaaafdnkehmfaa
open Go.RowKit

/-- A Reader in block g: bytes l are left, its error is e. -/
structure Rd (w : World) (g : Nat) (A : Option Addr) (n c : Nat) (l : List UInt8) (e : Int) : Prop where
  row : w.heap[g]? = some (.cells #[.slice A n c, .int .i64 e] 142 (0, 0))
  sees : Sees w g A n l
  cap : n ≤ c

section
variable {w w' : World} {g n c : Nat} {A : Option Addr} {l : List UInt8} {e : Int}
theorem Rd.rest (h : Rd w g A n c l e) : w.cell? ⟨g, 0, none⟩ = some (.slice A n c) := cell_of_row w g 0 _ _ _ h.row
theorem Rd.err (h : Rd w g A n c l e) : w.cell? ⟨g, 1, none⟩ = some (.int .i64 e) := cell_of_row w g 1 _ _ _ h.row
theorem Rd.free (h : Rd w g A n c l e) (i : Nat) : w.frozen? ⟨g, i, none⟩ = false := by simp [World.frozen?, h.row]
theorem Rd.lt (h : Rd w g A n c l e) : g < w.heap.size := block_lt_of_cell (a := ⟨g, 1, none⟩) h.err
theorem Rd.keep (h : Rd w g A n c l e) (hb : Below w.heap.size w w') : Rd w' g A n c l e :=
  ⟨(hb.block g h.lt).trans h.row, h.sees.below (hb.mono (Nat.le_of_lt h.lt)), h.cap⟩
end

set_option maxHeartbeats 1000000 in
theorem fail_zero (g n c : Nat) (A : Option Addr) (l : List UInt8) (x : Int) (w : World) (h : Rd w g A n c l 0) : Calls Try.prog 111 #[.pointer (some ⟨g, 0, none⟩), .int .i64 x] w fun e w' =>
    e = .returned (.tuple #[]) ∧ w' = w.setCell ⟨g, 1, none⟩ (.int .i64 x) := by
  have h1 := h.err
  have f1 := h.free 1
  go_enter Try.func111, Try.ntmps111
  go_wp2
  go_end0
  exact ⟨rfl, rfl⟩
set_option maxHeartbeats 1000000 in
theorem fail_some (g n c : Nat) (A : Option Addr) (l : List UInt8) (x y : Int) (w : World) (h : Rd w g A n c l y) (hy : y ≠ 0) : Calls Try.prog 111 #[.pointer (some ⟨g, 0, none⟩), .int .i64 x] w fun e w' =>
    e = .returned (.tuple #[]) ∧ w = w' := by
  have h1 := h.err
  have hb : (y == 0) = false := by simpa using hy
  go_enter Try.func111, Try.ntmps111
  go_wp2
  go_end0
  exact ⟨rfl, rfl⟩

set_option maxHeartbeats 1000000 in
theorem next_err (g n c k : Nat) (A : Option Addr) (l : List UInt8) (y : Int) (fv : Value) (w : World) (h : Rd w g A n c l y) (hy : y ≠ 0) : Calls Try.prog 96 #[.pointer (some ⟨g, 0, none⟩), .int .i64 k, fv] w fun e w' =>
    e = .returned (.tuple #[]) ∧ w = w' := by
  have h0 := h.rest
  have h1 := h.err
  have hb : (y != 0) = true := by simpa using hy
  by_cases hlt : n < k
  · go_enter Try.func96, Try.ntmps96
    go_wp2_with (go_at_call 111; refine (fail_some g n c A l 8 y _ h hy).mono ?_; rintro e w' ⟨rfl, rfl⟩)
    refine bodyPost_ret (results_none rfl _ _ _) rfl ?_
    exact ⟨rfl, rfl⟩
  · go_enter Try.func96, Try.ntmps96
    go_wp2_with fail
    refine bodyPost_ret (results_none rfl _ _ _) rfl ?_
    exact ⟨rfl, rfl⟩
set_option maxHeartbeats 1000000 in
theorem next_short (g n c k : Nat) (A : Option Addr) (l : List UInt8) (fv : Value) (w : World) (h : Rd w g A n c l 0) (hk : n < k) : Calls Try.prog 96 #[.pointer (some ⟨g, 0, none⟩), .int .i64 k, fv] w fun e w' =>
    e = .returned (.tuple #[]) ∧ w' = w.setCell ⟨g, 1, none⟩ (.int .i64 8) := by
  have h0 := h.rest
  have h1 := h.err
  have f1 := h.free 1
  go_enter Try.func96, Try.ntmps96
  go_wp2_with (go_at_call 111; refine (fail_zero g n c A l 8 _ h).mono ?_; rintro e w' ⟨rfl, rfl⟩)
  refine bodyPost_ret (results_none rfl _ _ _) rfl ?_
  exact ⟨rfl, rfl⟩

/-- What next leaves behind what set has made of the world: the rest. -/
def Nexted (w W w' : World) (g m : Nat) (l : List UInt8) : Prop := ∃ A' c', w' = W.setCell ⟨g, 0, none⟩ (.slice A' m c') ∧ Sees w g A' m l ∧ m ≤ c'

theorem Sees.drop_far {w : World} {B n k c : Nat} {A : Option Addr} {l : List UInt8} (h : Sees w B A n l) (hk : k ≤ n) (hc : n ≤ c) (hne : ¬ c = k) (h0 : k ≠ 0) : Sees w B (Option.map (fun x => { block := x.block, off := x.off + k }) A) (n - k) (l.drop k) := by
  have hd := h.drop hk hc
  rw [if_neg hne] at hd
  have e : (fun x : Addr => x.add k) = (fun x : Addr => { block := x.block, off := x.off + k }) := by
    funext x
    simp [Addr.add, h0]
  rw [e] at hd
  exact hd
theorem Sees.drop_end {w : World} {B n k c : Nat} {A : Option Addr} {l : List UInt8} (h : Sees w B A n l) (hk : k ≤ n) (hc : n ≤ c) (he : c = k) : Sees w B A (n - k) (l.drop k) := by
  have hd := h.drop hk hc
  rw [if_pos he] at hd
  exact hd

set_option maxHeartbeats 1000000 in
set_option maxHeartbeats 1000000 in
theorem next8 (g q n c : Nat) (A : Option Addr) (l L : List UInt8) (V : Nat) (x : Int) (w : World) (h : Rd w g A n c l 0) (hk : 1 ≤ n) (hc : w.cell? ⟨q, 0, none⟩ = some (.int .u8 x)) (hf : w.frozen? ⟨q, 0, none⟩ = false)
    (hq : q ≠ g) (hL : Hid (L = l.drop 1)) (hV : Hid (V = valB (l.take 1))) :
    Calls Try.prog 96 #[.pointer (some ⟨g, 0, none⟩), .int .i64 1, .func (.func 110) #[.pointer (some ⟨q, 0, none⟩)] #[]] w fun e w' =>
      e = .returned (.tuple #[]) ∧ Nexted w (w.setCell ⟨q, 0, none⟩ (.int .u8 V)) w' g (n - 1) L := by
  have h0 := h.rest
  have h1 := h.err
  have f0 := h.free 0
  have hcap := h.cap
  have hs := h.sees.take hk
  have h' := h
  clear h
  go_enter Try.func96, Try.ntmps96
  go_wp2_with (go_at_call 110; refine (set8_any q 1 c g A _ x _ hs (by omega) hc hf).mono ?_; rw [← hV.out]; rintro e w' ⟨rfl, rfl⟩)
  all_goals
    go_end0
    first
    | exact ⟨rfl, _, _, rfl, by rw [hL.out]; exact h'.sees.drop_far hk hcap (by assumption) (by omega), by omega⟩
    | exact ⟨rfl, _, _, rfl, by rw [hL.out]; exact h'.sees.drop_end hk hcap (by assumption), by omega⟩
set_option maxHeartbeats 1000000 in
theorem next16 (g q n c : Nat) (A : Option Addr) (l L : List UInt8) (V : Nat) (x : Int) (w : World) (h : Rd w g A n c l 0) (hk : 2 ≤ n) (hc : w.cell? ⟨q, 0, none⟩ = some (.int .u16 x)) (hf : w.frozen? ⟨q, 0, none⟩ = false)
    (hq : q ≠ g) (hL : Hid (L = l.drop 2)) (hV : Hid (V = valB (l.take 2))) :
    Calls Try.prog 96 #[.pointer (some ⟨g, 0, none⟩), .int .i64 2, .func (.func 112) #[.pointer (some ⟨q, 0, none⟩)] #[]] w fun e w' =>
      e = .returned (.tuple #[]) ∧ Nexted w (w.setCell ⟨q, 0, none⟩ (.int .u16 V)) w' g (n - 2) L := by
  have h0 := h.rest
  have h1 := h.err
  have f0 := h.free 0
  have hcap := h.cap
  have hs := h.sees.take hk
  have h' := h
  clear h
  go_enter Try.func96, Try.ntmps96
  go_wp2_with (go_at_call 112; refine (set16_any q 2 c g A _ x _ hs (by omega) hc hf).mono ?_; rw [← hV.out]; rintro e w' ⟨rfl, rfl⟩)
  all_goals
    go_end0
    first
    | exact ⟨rfl, _, _, rfl, by rw [hL.out]; exact h'.sees.drop_far hk hcap (by assumption) (by omega), by omega⟩
    | exact ⟨rfl, _, _, rfl, by rw [hL.out]; exact h'.sees.drop_end hk hcap (by assumption), by omega⟩
end Go.Proofs.Ytpaaafdnkehmfaa
