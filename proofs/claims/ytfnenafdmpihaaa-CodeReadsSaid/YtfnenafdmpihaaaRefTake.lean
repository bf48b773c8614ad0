/- The second reader (by itself): its state; take. Conditions: so many bytes as a slice has. -/
import Derived.Test.YtfnenafdmpihaaaFace
import Derived.Deep.QuietTactic
import Derived.BigQuiet
namespace Go.Proofs.Ytfnenafdmpihaaa
open Go.RowKit

/-- The second reader in block g: its bytes are L, it stands at p, its error is e. -/
structure Rf (w : World) (g : Nat) (A : Option Addr) (n c : Nat) (L : List UInt8) (p : Nat) (e : Int) : Prop where
  row : w.heap[g]? = some (.cells #[.slice A n c, .int .i64 p, .int .i64 e] 62 (0, 0))
  sees : Sees w g A n L
  cap : n ≤ c
  top : c ≤ maxLen
  pos : p ≤ n
section
variable {w w' : World} {g n c p : Nat} {A : Option Addr} {L : List UInt8} {e : Int}
theorem Rf.c0 (h : Rf w g A n c L p e) : w.cell? ⟨g, 0, none⟩ = some (.slice A n c) := cell_of_row w g 0 _ _ _ h.row
theorem Rf.c1 (h : Rf w g A n c L p e) : w.cell? ⟨g, 1, none⟩ = some (.int .i64 p) := cell_of_row w g 1 _ _ _ h.row
theorem Rf.c2 (h : Rf w g A n c L p e) : w.cell? ⟨g, 2, none⟩ = some (.int .i64 e) := cell_of_row w g 2 _ _ _ h.row
theorem Rf.free (h : Rf w g A n c L p e) (i : Nat) : w.frozen? ⟨g, i, none⟩ = false := by simp [World.frozen?, h.row]
theorem Rf.lt (h : Rf w g A n c L p e) : g < w.heap.size := block_lt_of_cell (a := ⟨g, 1, none⟩) h.c1
theorem Rf.drewN (h : Rf w g A n c L p e) (k : Nat) : Rf (w.drewN k) g A n c L p e := ⟨h.row, h.sees.drewN k, h.cap, h.top, h.pos⟩
theorem Rf.err (h : Rf w g A n c L p e) (x : Int) : Rf (w.setCell ⟨g, 2, none⟩ (.int .i64 x)) g A n c L p x :=
  ⟨heap_setCell_same w g 2 _ _ _ h.row, h.sees.setCell (p := ⟨g, 2, none⟩) (Nat.le_refl _) _, h.cap, h.top, h.pos⟩
theorem Rf.move (h : Rf w g A n c L p e) {q : Nat} (hq : q ≤ n) : Rf (w.setCell ⟨g, 1, none⟩ (.int .i64 q)) g A n c L q e :=
  ⟨heap_setCell_same w g 1 _ _ _ h.row, h.sees.setCell (p := ⟨g, 1, none⟩) (Nat.le_refl _) _, h.cap, h.top, hq⟩
end
theorem grown_drewN {a w : World} {row : Option Nat} (h : a.grownBy w row) (n : Nat) : a.grownBy (w.drewN n) row := ⟨h.os, h.tape, h.output, h.size, h.block⟩

/-- What take leaves: the reader, and all else as it was. -/
def TakePost (w w' : World) (g : Nat) (A : Option Addr) (n c : Nat) (L : List UInt8) (p : Nat) (e : Int) : Prop := Rf w' g A n c L p e ∧ w.grownBy w' (some g)

/-- What take answers: a slice of k bytes. -/
def TakeGot (en : Ending) (w' : World) (g k : Nat) (T : List UInt8) : Prop := ∃ A2 c2, en = .returned (.slice A2 k c2) ∧ Sees w' g A2 k T

set_option maxHeartbeats 1000000 in
theorem take_err (g n c p k : Nat) (A : Option Addr) (L : List UInt8) (e : Int) (w : World) (h : Rf w g A n c L p e) (he : e ≠ 0) : Calls Try.prog 37 #[.pointer (some ⟨g, 0, none⟩), .int .i64 k] w fun en w' =>
    en = .returned (.slice none 0 0) ∧ TakePost w w' g A n c L p e := by
  have h0 := h.c0
  have h1 := h.c1
  have h2 := h.c2
  have hb1 : (e == 0) = false := by simpa using he
  have hb2 : (e != 0) = true := by simpa using he
  go_enter Try.func37, Try.ntmps37
  go_wp2_with fail
  go_quiet (fail)
  go_wp2_with fail
  go_ret
  exact ⟨rfl, h.drewN _, grown_drewN (World.grownBy.refl w _) _⟩
set_option maxHeartbeats 1000000 in
theorem take_short (g n c p k : Nat) (A : Option Addr) (L : List UInt8) (w : World) (h : Rf w g A n c L p 0) (hk : n - p < k) : Calls Try.prog 37 #[.pointer (some ⟨g, 0, none⟩), .int .i64 k] w fun en w' =>
    en = .returned (.slice none 0 0) ∧ TakePost w w' g A n c L p 8 := by
  have h0 := h.c0
  have h1 := h.c1
  have h2 := h.c2
  have f2 := h.free 2
  have hp := h.pos
  have hc := h.cap
  have ht := h.top
  unfold maxLen at ht
  have hlt : (n : Int) - (p : Int) < (k : Int) := by omega
  go_enter Try.func37, Try.ntmps37
  go_wp2_with fail
  go_quiet (fail)
  go_wp2_with fail
  go_ret
  exact ⟨rfl, (h.drewN _).err 8, grown_set (grown_drewN (World.grownBy.refl w _) _) (.inl rfl) _⟩
set_option maxHeartbeats 1000000 in
theorem take_yes (g n c p k : Nat) (A : Option Addr) (L : List UInt8) (w : World) (h : Rf w g A n c L p 0) (hk : k ≤ n - p) (hk2 : k ≤ 65535) : Calls Try.prog 37 #[.pointer (some ⟨g, 0, none⟩), .int .i64 k] w fun en w' =>
    TakeGot en w' g k ((L.drop p).take k) ∧ TakePost w w' g A n c L (p + k) 0 := by
  have h0 := h.c0
  have h1 := h.c1
  have h2 := h.c2
  have f1 := h.free 1
  have hp := h.pos
  have hc := h.cap
  have ht := h.top
  unfold maxLen at ht
  have hge : ¬ (n : Int) - (p : Int) < (k : Int) := by omega
  have hgd : decide ((n : Int) - (p : Int) < (k : Int)) = false := by simpa using hge
  go_enter Try.func37, Try.ntmps37
  go_wp2_with fail
  have h' := h
  clear h
  go_quiet (fail)
  obtain ⟨nq0, hnq0⟩ : ∃ x : Nat, x = nq := ⟨_, rfl⟩
  subst hnq0
  go_wp2_with fail
  have hs1 : (0 : Int) ≤ (p : Int) := by omega
  have hs2 : (p : Int) ≤ (p : Int) + (k : Int) := by omega
  have hs3 : (p : Int) + (k : Int) ≤ (c : Int) := by omega
  have hs4 : (p : Int) + (k : Int) - (k : Int) = (p : Int) := by omega
  have hs5 : IntKind.i64.wrap ((p : Int) + (k : Int)) = (p : Int) + (k : Int) := by rw [IntKind.wrap_i64]; omega
  go_quiet (fail)
  go_wp2_with fail
  all_goals
    go_ret
    have hm := (h'.drewN nq0).move (q := p + k) (by omega)
    have hd := (h'.sees.drop hp hc).take (k := k) (by omega)
    have hd2 := ((hd.drewN nq0).setCell (p := ⟨g, 1, none⟩) (Nat.le_refl _) (.int .i64 ((p + k : Nat) : Int)))
    rw [show ((p + k : Nat) : Int) = (p : Int) + (k : Int) by omega] at hm hd2
    first
    | (rw [if_neg (by assumption)] at hd2
       exact ⟨⟨_, _, rfl, hd2.drewN _⟩, hm.drewN _, grown_drewN (grown_set (grown_drewN (World.grownBy.refl w _) _) (.inl rfl) _) _⟩)
    | (rw [if_pos (by assumption)] at hd2
       have hcp : c = p := by assumption
       subst hcp
       exact ⟨⟨_, _, rfl, hd2.drewN _⟩, hm.drewN _, grown_drewN (grown_set (grown_drewN (World.grownBy.refl w _) _) (.inl rfl) _) _⟩)
end Go.Proofs.Ytfnenafdmpihaaa
