/- slices.Contains of strings, names.Has: whether a name is in a set. Conditions: fewer than 2^63 names. -/
import Derived.Test.YtkponeccenehhaaNmOpen
namespace Go.Proofs.Ytkponeccenehhaa.Nm
open Go.RowKit
set_option maxRecDepth 100000

theorem encL_mem (ss : List (List UInt8)) (x : ByteArray) : x ∈ encL ss ↔ x.data.toList ∈ ss := by
  simp only [encL, List.mem_map]
  constructor
  · rintro ⟨y, hy, rfl⟩
    simpa using hy
  · intro h
    exact ⟨_, h, by simp⟩

theorem contains_any (ss : List (List UInt8)) (A : Option Addr) (n c B : Nat) (x : ByteArray) (w : World) (h : SeesV w B A n (ss.map encs)) (hn : n ≤ 9223372036854775807) :
    Calls Try.prog 28 #[.slice A n c, .string x] w fun e w' => e = .returned (.bool (decide (x.data.toList ∈ ss))) ∧ w' = w := by
  have hl := h.len
  rw [List.length_map] at hl
  rcases Nat.eq_zero_or_pos n with g | g
  · subst g
    obtain rfl : ss = [] := List.eq_nil_of_length_eq_zero hl.symm
    refine (Try.slices_Contains_string_empty A c x w).mono ?_
    rintro e w' ⟨rfl, rfl⟩
    exact ⟨by simp, rfl⟩
  · obtain ⟨b, o, rfl, _, _⟩ := h.cell 0 (encs (ss[0]'(by omega))) (by rw [List.getElem?_map, List.getElem?_eq_getElem (by omega)]; rfl)
    refine (Try.slices_Contains_string b o n c (encL ss) x w (by simp [encL]; omega) (by omega) (fun j hj => ?_)).mono ?_
    · have hj' : j < ss.length := by simpa [encL] using hj
      obtain ⟨b', o', e, _, hc⟩ := h.cell j (encs ss[j]) (by rw [List.getElem?_map, List.getElem?_eq_getElem hj']; rfl)
      injection e with e
      cases e
      rw [hc]
      simp [encL, encs, List.getD, List.getElem?_eq_getElem hj']
    · rintro e w' ⟨rfl, rfl⟩
      refine ⟨?_, rfl⟩
      rw [List.take_of_length_le (by simp [encL]; omega)]
      congr 2
      rw [Bool.eq_iff_iff, Go.Lib.containsS_iff, decide_eq_true_iff]
      exact encL_mem ss x

theorem has_name (a : St) (A : Option Addr) (n c : Nat) (x : ByteArray) (w : World) (h : In w a A n) (hn : n ≤ 9223372036854775807) :
    Calls Try.prog 12 #[.agg #[.bool a.all, .slice A n c], .string x] w fun e w' => e = .returned (.bool (a.mem x.data.toList)) ∧ Below w.heap.size w w' := by
  unfold St.mem
  have HC : Hid (∀ W, Below w.heap.size w W → Calls Try.prog 28 #[.slice A n c, .string x] W fun e w' => e = .returned (.bool (decide (x.data.toList ∈ a.l))) ∧ w' = W) :=
    Lib.hid fun W hb => contains_any a.l A n c w.heap.size x W (h.sees.keep fun p hp => hb.cell hp) hn
  obtain ⟨d, hd⟩ : ∃ d, d = decide (x.data.toList ∈ a.l) := ⟨_, rfl⟩
  obtain ⟨y, hy⟩ : ∃ y, y = a.all := ⟨_, rfl⟩
  rw [← hd] at HC ⊢
  rw [← hy]
  clear hd hy h
  obtain ⟨W1, hW1⟩ : ∃ W, W = w.alloc (Obj.cells #[Value.bool y, Value.slice A n c] 25) := ⟨_, rfl⟩
  have g0 : W1.heap[w.heap.size]? = some (Obj.cells #[Value.bool y, Value.slice A n c] 25) := by rw [hW1, heap_alloc_new]
  have hb1 : Below w.heap.size w W1 := by rw [hW1]; exact (Below.refl _ _).alloc (Nat.le_refl _) _
  obtain ⟨q0, q1, _, _⟩ := box2 g0
  have hb0 : Below w.heap.size w W1.drew := hb1.drew
  go_enter Try.func12, Try.ntmps12
  go_wp2_with fail
  rw [← hW1]
  clear hW1
  go_region_held3 (fun w' => w' = W1.drew ∧ w'.cell? ⟨w.heap.size, 0, none⟩ = some (.bool y) ∧ w'.cell? ⟨w.heap.size, 1, none⟩ = some (.slice A n c))
    (exact ⟨rfl, q0, q1⟩)
    ((go_at_call 28; (with_reducible refine (HC.out _ hb0).mono ?_); rintro e w' ⟨rfl, rfl⟩))
  all_goals
    go_wp2_with fail
    go_ret
    refine ⟨?_, hb0⟩
    cases d <;> cases y <;> rfl
end Go.Proofs.Ytkponeccenehhaa.Nm
