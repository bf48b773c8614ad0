/- VfsRoom and VfsStays: what both want of files by number. No conditions. -/
import Derived.Test.YtpaaafdnkehmfaaVfLem
import Derived.BigQuiet
namespace Go.Proofs.Ytpaaafdnkehmfaa.Vf
open Go.RowKit
set_option maxRecDepth 100000

/-- The sum of the four without the q-th, of the first j. -/
def sx (s : Nat → Nat) (q : Nat) : Nat → Nat
  | 0 => 0
  | j + 1 => sx s q j + if j = q then 0 else s j
def nmR (q : Nat) : ByteArray := ⟨#[(97 + q).toUInt8]⟩
theorem sx_all (s : Nat → Nat) {q : Nat} (hq : q < 4) : sx s q 4 + s q = s 0 + s 1 + s 2 + s 3 := by
  have h : q = 0 ∨ q = 1 ∨ q = 2 ∨ q = 3 := by omega
  rcases h with rfl | rfl | rfl | rfl <;> simp [sx] <;> omega
theorem sx_le (s : Nat → Nat) (q : Nat) (hs : ∀ j, s j ≤ 300) : ∀ j, sx s q j ≤ 300 * j
  | 0 => Nat.le_refl _
  | j + 1 => by
    have := sx_le s q hs j
    have := hs j
    unfold sx
    split <;> omega
def up (s : Nat → Nat) (q m : Nat) : Nat → Nat := fun j => if j = q then m else s j
theorem up_sum (s : Nat → Nat) {q : Nat} (hq : q < 4) (m : Nat) : up s q m 0 + up s q m 1 + up s q m 2 + up s q m 3 = sx s q 4 + m := by
  have h : q = 0 ∨ q = 1 ∨ q = 2 ∨ q = 3 := by omega
  rcases h with rfl | rfl | rfl | rfl <;> simp [sx, up] <;> omega
def bx4 (s : Nat → Nat) : List Value := [.int .i64 (s 0 : Int), .int .i64 (s 1 : Int), .int .i64 (s 2 : Int), .int .i64 (s 3 : Int)]
theorem bx4_up (s : Nat → Nat) {q : Nat} (hq : q < 4) (m : Nat) : (bx4 s).set q (.int .i64 (m : Int)) = bx4 (up s q m) := by
  have h : q = 0 ∨ q = 1 ∨ q = 2 ∨ q = 3 := by omega
  rcases h with rfl | rfl | rfl | rfl <;> simp [bx4, up]
theorem bx4_get (s : Nat → Nat) {j : Nat} (hj : j < 4) : (bx4 s)[j]? = some (.int .i64 (s j : Int)) := by
  have h : j = 0 ∨ j = 1 ∨ j = 2 ∨ j = 3 := by omega
  rcases h with rfl | rfl | rfl | rfl <;> rfl
theorem nmR_ne {q j : Nat} (hq : q < 4) (hj : j < 4) (h : j ≠ q) : (nmR j).data.toList ≠ (nmR q).data.toList := by
  have h1 : q = 0 ∨ q = 1 ∨ q = 2 ∨ q = 3 := by omega
  have h2 : j = 0 ∨ j = 1 ∨ j = 2 ∨ j = 3 := by omega
  rcases h1 with rfl | rfl | rfl | rfl <;> rcases h2 with rfl | rfl | rfl | rfl <;> first | exact absurd rfl h | decide
theorem asc_now {V : Vm} {N : Nat} (h : Lim V N) : Asc V.now := h.ascNow

structure RI (V : Vm) (R : Nat) (s : Nat → Nat) : Prop where
  dead : V.dead = false
  stop : V.stop = 0
  room : V.room = (R : Int)
  used : used V.now = s 0 + s 1 + s 2 + s 3
  each : ∀ j, j < 4 → olen (fnd V.now (nmR j).data.toList) = s j
  le : ∀ j, s j ≤ 300
theorem RI.size {V : Vm} {R N : Nat} {s : Nat → Nat} (h : RI V R s) (hl : Lim V N) {q : Nat} (hq : q < 4) (m : Nat) :
    Vf.used (wth (nmR q).data.toList (some (List.replicate m 0)) V.now) = sx s q 4 + m := by
  have h1 := used_wth (nmR q).data.toList (some (List.replicate m 0)) (asc_now hl)
  rw [h.each q hq, h.used] at h1
  have h2 := sx_all s hq
  simp only [olen, List.length_replicate] at h1
  omega
theorem RI.full {V : Vm} {R N : Nat} {s : Nat → Nat} (h : RI V R s) (hl : Lim V N) {q m : Nat} (hq : q < 4) (hf : R < sx s q 4 + m) :
    V.write (nmR q).data.toList (List.replicate m 0) = (14, V) := by
  unfold Vm.write
  rw [if_neg (by rw [h.dead]; simp), if_neg (by simp [nmR]), if_pos (by rw [h.size hl hq, h.room]; omega)]
theorem RI.more {V : Vm} {R N : Nat} {s : Nat → Nat} (h : RI V R s) (hl : Lim V N) {q m : Nat} (hq : q < 4) (hm : m < 150) (hf : ¬ R < sx s q 4 + m) :
    V.write (nmR q).data.toList (List.replicate m 0) = (0, V.does (nmR q).data.toList (some (List.replicate m 0))) ∧ RI (V.does (nmR q).data.toList (some (List.replicate m 0))) R (up s q m) := by
  obtain ⟨d1, d2, d3, d4⟩ := does_dead h.dead h.stop (nmR q).data.toList (some (List.replicate m 0))
  refine ⟨?_, d1, d2, by rw [d4, h.room], ?_, fun j hj => ?_, fun j => ?_⟩
  · unfold Vm.write
    rw [if_neg (by rw [h.dead]; simp), if_neg (by simp [nmR]), if_neg (by rw [h.size hl hq, h.room]; omega), d3]
  · rw [does_now, h.size hl hq, up_sum s hq]
  · rw [does_now, fnd_wth _ _ _ (asc_now hl)]
    by_cases e : j = q
    · subst e
      rw [if_pos rfl]
      simp [up, olen]
    · rw [if_neg (nmR_ne hq hj e), h.each j hj]
      simp [up, e]
  · have := h.le j
    unfold up
    split <;> omega
theorem RI.new (R : Nat) (hR : R < 300) : RI (Vm.new R) R fun _ => 0 :=
  ⟨rfl, rfl, by simp only [Vm.new]; omega, rfl, fun j hj => rfl, fun j => Nat.zero_le _⟩

theorem sum4 {a b c d : Nat} (ha : a ≤ 300) (hb : b ≤ 300) (hc : c ≤ 300) (hd : d ≤ 300) : ∃ x y z : Nat, wrap64 ((a : Int) + (b : Int)) = (x : Int) ∧ wrap64 ((x : Int) + (c : Int)) = (y : Int) ∧ wrap64 ((y : Int) + (d : Int)) = (z : Int) ∧ a + b + c + d = z :=
  ⟨a + b, a + b + c, a + b + c + d, by unfold wrap64; omega, by unfold wrap64; omega, by unfold wrap64; omega, rfl⟩
theorem new_room (n r : Int) (hr : min (max n 0) 1048576 = r) (W : World) : Calls Try.prog 14 #[.int .i64 n] W fun e w' => e = .returned (.pointer (some ⟨W.heap.size, 0, none⟩)) ∧ Below W.heap.size W w' ∧ Calls Try.prog 36 #[.pointer (some ⟨W.heap.size, 0, none⟩)] w' fun e w'' => e = .returned (.int .i64 r) ∧ w' = w'' := by
  refine (new_any n W).mono fun e w' h => ⟨h.1, h.2.2.1, ?_⟩
  have h0 := room_any (Vp.fresh (B := w'.heap.size) h.2.1 h.2.1.lt (Nat.le_refl _))
  rw [show (Vm.new n).room = r from hr] at h0
  exact h0
theorem blw2 (W : World) (X Y : Obj) : Below W.heap.size W ((W.alloc X).alloc Y).drew := by
  have h := ((Below.refl W.heap.size W).alloc (Nat.le_refl _) X).alloc (by rw [show (W.alloc X).heap.size = W.heap.size + 1 from Array.size_push ..]; omega) Y
  exact ⟨h.os, h.tape, h.output, h.size, h.block⟩
theorem zat1 (W : World) (X Y : Obj) : ((W.alloc X).alloc Y).drew.heap[W.heap.size + 1]? = some Y := by
  have h := heap_alloc_new (W.alloc X) Y
  rw [show (W.alloc X).heap.size = W.heap.size + 1 from Array.size_push ..] at h
  exact h
theorem zat2 (W : World) (X Y : Obj) : ((W.alloc Y).alloc X).drew.heap[W.heap.size]? = some Y := by
  have h1 := heap_alloc_new W Y
  have h2 := ((Below.refl (W.heap.size + 1) (W.alloc Y)).alloc (by rw [show (W.alloc Y).heap.size = W.heap.size + 1 from Array.size_push ..]; exact Nat.le_refl _) X).block W.heap.size (Nat.lt_succ_self _)
  exact h2.trans h1
theorem sees_at {W : World} {g : Nat} {l : BS} (h : W.heap[g]? = some (Obj.cells (byts l).toArray 5)) {n : Nat} (hn : n = l.length) : Sees W W.heap.size (some ⟨g, 0, none⟩) n l :=
  ⟨hn, fun j u hu => ⟨⟨g, 0, none⟩, rfl, (Array.getElem?_eq_some_iff.1 h).1, by
    rw [Addr.add_lit, cell_of_row _ _ _ _ _ _ h]
    simp [byts, hu]⟩⟩

end Go.Proofs.Ytpaaafdnkehmfaa.Vf
