/- slices.Clone of bytes; code.Int, Byte, Text: what they write, behind whatever slice. Conditions: what is written is below 2^45 bytes. -/
import Derived.Test.YtpaaafdnkehmfaaBytes
import Derived.Test.YtpaaafdnkehmfaaConcat
namespace Go.Proofs.Ytpaaafdnkehmfaa
open Go.RowKit

theorem Own.made (w : World) (base : Nat) (hb : base ≤ w.heap.size) : Own (w.alloc (.cells #[] 5)) base (some ⟨w.heap.size, 0, none⟩) 0 0 [] :=
  Own.lit w [] 0 hb (Nat.zero_le _) rfl

theorem isNil (w : World) (A : Option Addr) (n c : Nat) : (binOp .eql 31 (.slice A n c) (.slice none 0 0)).run Try.prog w = .ok (.bool A.isNone) w :=
  Lib.run_eql_slice_nil w 31 5 A n c 0 0 Try.underlying31

set_option maxHeartbeats 400000 in
theorem clone_any (A : Option Addr) (n c : Nat) (l : List UInt8) (w : World) (hs : Sees w w.heap.size A n l) (hn : n ≤ 70368744177664) : Calls Try.prog 94 #[.slice A n c] w fun e w' =>
    ∃ A' N c', e = .returned (.slice A' N c') ∧ Own w' w.heap.size A' N c' l ∧ Below w.heap.size w w' := by
  cases A with
  | none =>
    obtain ⟨rfl, rfl⟩ := hs.empty
    have he := fun w => isNil w none 0 c
    simp only [Option.isNone_none] at he
    go_enter Try.func94, Try.ntmps94
    go_wp2_with fail
    go_ret
    exact ⟨none, 0, 0, rfl, Own.nil _ _, Below.refl _ _⟩
  | some a =>
    have he := fun w => isNil w (some a) n c
    simp only [Option.isNone_some] at he
    have ho := Own.made w w.heap.size (Nat.le_refl _)
    have hx := From.sees (c := c) (hs.alloc (Nat.le_refl _) (.cells #[] 5))
    have hb0 : w.heap.size ≤ (w.alloc (.cells #[] 5)).heap.size := by simp
    have hn0 : 0 + n ≤ 70368744177664 := by omega
    go_enter Try.func94, Try.ntmps94
    go_wp2_with (at_builtin; refine wpList_append_from rfl _ _ _ rfl rfl rfl ho hx hn0 hb0 ?_; intro A' N c' w' ho' hg' hat')
    go_ret
    exact ⟨A', N, c', rfl, by simpa using ho', ((Below.refl _ _).alloc (Nat.le_refl _) _).grown hg' hb0 (fun q hq => (ho.lt q hq).1)⟩

/-- The block of slices that Concat is handed. -/
theorem at_new (w : World) (o : Obj) : (w.alloc o).heap[w.heap.size]? = some o := heap_alloc_new w o

set_option maxHeartbeats 400000 in
set_option maxHeartbeats 400000 in
theorem putByte_any (A : Option Addr) (n c : Nat) (l : List UInt8) (v : Int) (w : World) (hs : Sees w w.heap.size A n l) (hn : n ≤ 35184372088832) : Calls Try.prog 69 #[.slice A n c, .int .i64 v] w fun e w' =>
    ∃ A' N c', e = .returned (.slice A' N c') ∧ Own w' w.heap.size A' N c' (l ++ leB 1 (v % 256).toNat) ∧ Below w.heap.size w w' := by
  obtain ⟨u, hu⟩ : ∃ u : Nat, u = (v % 256).toNat := ⟨_, rfl⟩
  have hw : IntKind.u8.wrap v = (u : Int) := by rw [IntKind.wrap_u8', hu]; omega
  have hlt : u < 256 := by omega
  rw [← hu]
  clear hu
  go_enter Try.func69, Try.ntmps69
  go_wp2_with fail
  refine (bytes8 u hlt w).mono ?_
  rintro e w1 ⟨g, rfl, ho1, hb1⟩
  clear hw
  go_wp2_with fail
  have hp := Parts.two (at_new w1 _) ((hs.below hb1).alloc hb1.size (.cells #[.slice A n c, .slice (some ⟨g, 0, none⟩) 1 1] 31) |>.more (Nat.le_trans hb1.size (by simp))) ((ho1.sees.alloc (Nat.le_refl _) (.cells #[.slice A n c, .slice (some ⟨g, 0, none⟩) 1 1] 31)).more (by simp))
  refine (concat_any w1.heap.size 2 _ _ _ hp rfl (by omega) ?_ (by simp)).mono ?_
  · simp only [List.flatten_cons, List.flatten_nil, List.length_append, List.append_nil, ← hs.len, leB_length]
    omega
  rintro e w2 ⟨A2, N, c2, rfl, ho2, hb2⟩
  go_wp2_with fail
  go_ret
  refine ⟨A2, N, c2, rfl, by simpa using ho2.less (by simp; exact Nat.le_succ_of_le hb1.size), ?_⟩
  exact (hb1.alloc hb1.size _).trans (hb2.mono (by simp; exact Nat.le_succ_of_le hb1.size))

end Go.Proofs.Ytpaaafdnkehmfaa
