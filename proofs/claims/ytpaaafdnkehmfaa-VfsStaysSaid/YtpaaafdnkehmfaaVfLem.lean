/- vfs: lemmas for the laws. No conditions. -/
import Derived.Test.YtpaaafdnkehmfaaVfOld
import Derived.Test.YtpaaafdnkehmfaaShut
import Derived.Test.YtpaaafdnkehmfaaOpen
namespace Go.Proofs.Ytpaaafdnkehmfaa.Vf
open Go.RowKit
set_option maxRecDepth 100000

/-- A row of one's own that is not empty: its block, a cell. -/
theorem own_cell {w : World} {base n c k : Nat} {A : Option Addr} {l : BS} (h : w.ownsRow base 5 1 (.slice A n c) n (byts l)) (hk : k < n) : ∃ g x, A = some ⟨g, 0, none⟩ ∧ base ≤ g ∧ g < w.heap.size ∧ w.cell? ⟨g, k, none⟩ = some (.int .u8 x) ∧ w.frozen? ⟨g, k, none⟩ = false := by
  rcases h.2 with ⟨e, e2⟩ | ⟨g, cap, cur, e, hgb, hh, _⟩
  · omega
  · injection e with e1
    subst e1
    obtain ⟨a, ea, _, hc⟩ := (Sees.of_own h).at_ hk
    cases ea
    rw [Addr.add_lit, Nat.zero_add] at hc
    exact ⟨g, _, rfl, hgb, (Array.getElem?_eq_some_iff.1 hh).1, hc, by simp [World.frozen?, hh]⟩
theorem text_run {w : World} {B n c : Nat} {A : Option Addr} {l : BS} (h : Sees w B A n l) : (convert 31 9 (.slice A n c)).run Try.prog w = .ok (.string ⟨l.toArray⟩) w :=
  run_text 31 9 5 Try.underlying31 Try.underlying5 Try.underlying9 h

/-- within at 4, as one of four numbers. -/
theorem within_four (a : Int) (h1 : -9223372036854775808 ≤ a) (h2 : a ≤ 9223372036854775807) : ∃ z : Int, (z = 0 ∨ z = 1 ∨ z = 2 ∨ z = 3) ∧ ∀ w : World, Calls Try.prog 13 #[.int .i64 a, .int .i64 4] w fun e w' => e = .returned (.int .i64 z) ∧ w = w' :=
  ⟨a % 4, by omega, fun w => within15_any a 4 (by decide) (by decide) h1 h2 w⟩
theorem tdiv4 {a : Int} (h1 : -9223372036854775808 ≤ a) (h2 : a ≤ 9223372036854775807) : wrap64 (a.tdiv 4) = a.tdiv 4 ∧ -9223372036854775808 ≤ a.tdiv 4 ∧ a.tdiv 4 ≤ 9223372036854775807 := by
  have h3 := Int.tmod_add_mul_tdiv a 4
  have h4 := Int.tmod_lt_of_pos a (show (0 : Int) < 4 by decide)
  have h5 := Int.lt_tmod_of_pos a (show (0 : Int) < 4 by decide)
  refine ⟨?_, by omega, by omega⟩
  unfold wrap64
  omega
/-- A new row of numbers serves as what a crash is told. -/
theorem sti_new (w : World) (B p : Nat) (l : List Int) {n : Nat} (hn : n = l.length) (hp : p < w.heap.size) : Sti (w.alloc (Obj.cells (l.map (Value.int .i64)).toArray 3)) B p (some ⟨w.heap.size, 0, none⟩) n l :=
  ⟨hn, fun j x hx => ⟨w.heap.size, 0, rfl, by simp, by omega, .inr ⟨_, _, _, heap_alloc_new w _, by decide, by decide⟩, by
    rw [cell_of_row _ _ _ _ _ _ (heap_alloc_new w _)]
    simp [hx]⟩⟩

theorem toList_madeCells (n : Nat) : (madeCells #[.int .u8 0] n) = (byts (List.replicate n 0)).toArray := by
  apply Array.toList_inj.1
  rw [toList_madeCells_one]
  simp [byts, byt]
/-- make([]byte, n). -/
theorem zeros_run (n : Nat) (hn : n ≤ 1000) (W : World) : (Instr.makeSlice 31 (.int .i64 (n : Int)) (.int .i64 (n : Int))).run Try.prog W = .ok (.slice (some ⟨W.heap.size, 0, none⟩) n n) (W.alloc (.cells (byts (List.replicate n 0)).toArray 5)) := by
  obtain ⟨i, hi, hz, hs, hb⟩ := info_parts info_u8
  have h := run_make (P := Try.prog) W 31 5 i (.int .u8 0) Try.underlying31 hi hz .i64 .i64 n n (by omega) (by omega) (by rw [hb]; omega) (by omega)
  rw [h, hs]
  simp only [Int.toNat_natCast, Nat.mul_one]
  rw [show (Value.int IntKind.u8 0).cells = #[.int .u8 0] from rfl, toList_madeCells]

theorem does_dead {V : Vm} (hd : V.dead = false) (hs : V.stop = 0) (k : BS) (o : Option BS) : (V.does k o).dead = false ∧ (V.does k o).stop = 0 ∧ (V.does k o).says = 0 ∧ (V.does k o).room = V.room := by
  have h1 : (V.does k o).dead = false := by simp only [Vm.does, Vm.tick]; rw [if_neg (by rw [hs]; decide)]; exact hd
  refine ⟨h1, ?_, ?_, rfl⟩
  · simp only [Vm.does, Vm.tick]; rw [if_neg (by rw [hs]; decide)]; exact hs
  · unfold Vm.says; rw [if_neg (by rw [h1]; simp)]
end Go.Proofs.Ytpaaafdnkehmfaa.Vf
