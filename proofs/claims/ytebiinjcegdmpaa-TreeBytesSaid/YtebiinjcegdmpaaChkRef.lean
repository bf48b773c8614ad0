/- The reference's checker: it goes through a tree level by level. Conditions: fewer than 2^47 edges beside one another. -/
import Derived.Test.YtebiinjcegdmpaaChkMath
import Derived.Test.YtebiinjcegdmpaaJudge
import Derived.Test.YtebiinjcegdmpaaChkP
import Derived.Test.YtebiinjcegdmpaaCount
import Derived.Deep.QuietTactic
import Derived.BigQuiet
import Derived.IntWalk
namespace Go.Proofs.Ytebiinjcegdmpaa.Jd
open Go.RowKit
set_option maxRecDepth 100000

/-- The name ahead of the k-th edge. -/
def nameAt : Tr → Nat → Option ByteArray
  | .nil, _ => none
  | .cons s _ _, 0 => some s
  | .cons _ _ r, k + 1 => nameAt r k
def prv (t : Tr) (k : Nat) : Option ByteArray := if k = 0 then none else nameAt t (k - 1)
theorem nameAt_drop : ∀ (t : Tr) (k : Nat) {s : ByteArray} {kt r : Tr}, t.dropT k = .cons s kt r → nameAt t k = some s
  | .nil, k, _, _, _, h => by cases k <;> simp [Tr.dropT] at h
  | .cons s0 k0 r0, 0, s, kt, r, h => by
    rw [dropT_zero] at h
    injection h with h _ _
    rw [← h]; rfl
  | .cons s0 k0 r0, k + 1, _, _, _, h => by
    simp only [Tr.dropT] at h
    exact nameAt_drop r0 k h

/-- The checker's box. -/
def Ckr (w : World) (g n e : Nat) : Prop := w.heap[g]? = some (.cells #[.int .i64 n, .int .i64 e] 87 (0, 0))
theorem Ckr.cells {w : World} {g n e : Nat} (h : Ckr w g n e) : w.cell? ⟨g, 0, none⟩ = some (.int .i64 n) ∧ w.cell? ⟨g, 1, none⟩ = some (.int .i64 e) ∧ (∀ o, w.frozen? ⟨g, o, none⟩ = false) ∧ g < w.heap.size := by
  unfold Ckr at h
  exact ⟨by rw [cell_of_row w g 0 _ _ _ h]; rfl, by rw [cell_of_row w g 1 _ _ _ h]; rfl, fun o => by simp [World.frozen?, h], (Array.getElem?_eq_some_iff.1 h).1⟩
theorem Ckr.set0 {w : World} {g n e : Nat} (h : Ckr w g n e) (n' : Nat) (v : Value) (hv : v = .int .i64 (n' : Int)) : Ckr (w.setCell ⟨g, 0, none⟩ v) g n' e := by
  unfold Ckr at h ⊢
  rw [heap_setCell_same w g 0 _ _ _ h, hv]; rfl
theorem Ckr.set1 {w : World} {g n e : Nat} (h : Ckr w g n e) (e' : Nat) (v : Value) (hv : v = .int .i64 (e' : Int)) : Ckr (w.setCell ⟨g, 1, none⟩ v) g n e' := by
  unfold Ckr at h ⊢
  rw [heap_setCell_same w g 1 _ _ _ h, hv]; rfl
theorem Ckr.drew {w : World} {g n e : Nat} (h : Ckr w g n e) : Ckr w.drew g n e := h
theorem Ckr.drewN {w : World} {g n e : Nat} (h : Ckr w g n e) (q : Nat) : Ckr (w.drewN q) g n e := h

/-- What walk's loop keeps: as if it began at the k-th edge; or a fault was found. -/
def WalkI (d : Nat) (t : Tr) (m0 : Nat) (k m e : Nat) : Prop :=
  (e = 0 → m ≤ 400 ∧ walkC d (t.dropT k) (prv t k) m = walkC d t none m0) ∧ (e ≠ 0 → walkC d t none m0 = (m, e))
theorem WalkI.start (d : Nat) (t : Tr) (m0 : Nat) (h : m0 ≤ 400) : WalkI d t m0 0 m0 0 := ⟨fun _ => ⟨h, by rw [dropT_zero]; rfl⟩, fun h => absurd rfl h⟩
theorem WalkI.fin {d m0 k m e : Nat} {t : Tr} (h : WalkI d t m0 k m e) (hk : t.len ≤ k) : walkC d t none m0 = (m, e) := by
  by_cases he : e = 0
  · subst he
    rw [← (h.1 rfl).2, drop_len t k hk]
    rfl
  · exact h.2 he
section
variable {d m0 k m : Nat} {t kt r : Tr} {s : ByteArray}
theorem WalkI.step (h : WalkI d t m0 k m 0) (hd : t.dropT k = .cons s kt r) (hd2 : t.dropT (k + 1) = r) :
    (400 < m + 1 → WalkI d t m0 (k + 1) (m + 1) 4) ∧
    (¬ 400 < m + 1 → 12 < d → WalkI d t m0 (k + 1) (m + 1) 11) ∧
    (¬ 400 < m + 1 → ¬ 12 < d → 80 < s.size → WalkI d t m0 (k + 1) (m + 1) 5) ∧
    (¬ 400 < m + 1 → ¬ 12 < d → ¬ 80 < s.size → notAfter (prv t k) s = true → WalkI d t m0 (k + 1) (m + 1) 12) ∧
    (¬ 400 < m + 1 → ¬ 12 < d → ¬ 80 < s.size → ¬ notAfter (prv t k) s = true → WalkI d t m0 (k + 1) (walkC (d + 1) kt none (m + 1)).1 (walkC (d + 1) kt none (m + 1)).2) := by
  obtain ⟨_, hw⟩ := h.1 rfl
  rw [hd] at hw
  simp only [walkC] at hw
  have hn : nameAt t k = some s := nameAt_drop t k hd
  refine ⟨fun h1 => ?_, fun h1 h2 => ?_, fun h1 h2 h3 => ?_, fun h1 h2 h3 h4 => ?_, fun h1 h2 h3 h4 => ?_⟩
  · rw [if_pos h1] at hw
    exact ⟨fun e => absurd e (by decide), fun _ => hw.symm⟩
  · rw [if_neg h1, if_pos h2] at hw
    exact ⟨fun e => absurd e (by decide), fun _ => hw.symm⟩
  · rw [if_neg h1, if_neg h2, if_pos h3] at hw
    exact ⟨fun e => absurd e (by decide), fun _ => hw.symm⟩
  · rw [if_neg h1, if_neg h2, if_neg h3, if_pos h4] at hw
    exact ⟨fun e => absurd e (by decide), fun _ => hw.symm⟩
  · rw [if_neg h1, if_neg h2, if_neg h3, if_neg h4] at hw
    constructor
    · intro hz
      rw [if_pos hz] at hw
      refine ⟨(walkC_le kt (d + 1) (m + 1) none (by omega)).2.2.1 hz, ?_⟩
      rw [hd2, ← hw, prv, if_neg (by omega), Nat.add_sub_cancel, hn]
    · intro hz
      rw [if_neg hz] at hw
      exact hw.symm
end

theorem nm_drop : ∀ (t : Tr) (k : Nat), Tr.Nm t → Tr.Nm (t.dropT k)
  | t, 0, h => by rw [dropT_zero]; exact h
  | .nil, _ + 1, _ => trivial
  | .cons _ _ r, k + 1, h => nm_drop r k h.2.2
theorem keep_of {w w' : World} {B g : Nat} (hg : w.grownBy w' (some g)) (hB : B ≤ g) (hl : g < w.heap.size) : ∀ p : Addr, p.block < B → w'.cell? p = w.cell? p :=
  fun p hp => World.cell?_of_block (hg.block p.block (by omega) (fun e => by injection e with e; omega))
theorem grown_trans {w w' w'' : World} {g : Nat} (h : w.grownBy w' (some g)) (k : w'.grownBy w'' (some g)) : w.grownBy w'' (some g) :=
  ⟨k.os.trans h.os, k.tape.trans h.tape, k.output.trans h.output, Nat.le_trans h.size k.size, fun i hi hn => (k.block i (Nat.lt_of_lt_of_le hi h.size) hn).trans (h.block i hi hn)⟩

theorem grown_drewN {w w' : World} {row : Option Nat} (h : w.grownBy w' row) (q : Nat) : w.grownBy (w'.drewN q) row := ⟨h.os, h.tape, h.output, h.size, h.block⟩

end Go.Proofs.Ytebiinjcegdmpaa.Jd
