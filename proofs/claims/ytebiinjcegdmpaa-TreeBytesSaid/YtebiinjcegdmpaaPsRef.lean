/- The reference's parser: its box, its frame, the plain part of a round. Conditions: none. -/
import Derived.Test.YtebiinjcegdmpaaPsMath
import Derived.Test.YtebiinjcegdmpaaEdg
import Derived.Outline
namespace Go.Proofs.Ytebiinjcegdmpaa.Ps
open Go.RowKit Go.Proofs.Ytebiinjcegdmpaa.Jd Go.Proofs.Ytebiinjcegdmpaa.Cl
set_option maxRecDepth 100000

/-- What is left counts no more than 400 edges where it has no fault. -/
theorem psK_le {sub : Nat → List UInt8 → Out} {d : Nat} (hs : ∀ m l, m ≤ 400 → (sub m l).2.2.2 = 0 → (sub m l).2.2.1 ≤ 400) : ∀ (i : Nat) (p : Option ByteArray) (m : Nat) (l : List UInt8), m ≤ 400 → (psK sub d i p m l).2.2.2 = 0 → (psK sub d i p m l).2.2.1 ≤ 400
  | 0, _, _, _, hm, _ => hm
  | i + 1, p, m, l, hm, h0 => by
    rw [psK] at h0 ⊢
    split at h0
    · rename_i h; exact absurd h0 h
    · rename_i h1
      rw [if_neg h1]
      split at h0
      · rename_i h
        exact absurd h0 (by simp only; omega)
      · rename_i h2
        rw [if_neg h2]
        have hm1 : m + 1 ≤ 400 := by
          unfold flt at h2
          split at h2
          · exact absurd (by decide) h2
          · omega
        split at h0
        · rename_i h; exact absurd h0 h
        · rename_i h3
          rw [if_neg h3]
          have h4 := hs (m + 1) (txStep l 0).2.1 hm1 (by simpa using h3)
          split at h0
          · rename_i h; exact absurd h0 h
          · rename_i h5
            rw [if_neg h5]
            exact psK_le hs i _ _ _ h4 (by simpa using h5)
theorem psT_le : ∀ (F d m : Nat) (l : List UInt8), m ≤ 400 → (psT F d m l).2.2.2 = 0 → (psT F d m l).2.2.1 ≤ 400
  | 0, _, _, _, hm, _ => hm
  | F + 1, d, m, l, hm, h0 => by
    rw [psT] at h0 ⊢
    split at h0
    · rename_i h; exact absurd h0 h
    · rename_i h1
      rw [if_neg h1]
      exact psK_le (fun m l => psT_le F (d + 1) m l) _ _ _ _ hm h0

/-- The parser's box. -/
def Prs (w : World) (g h m : Nat) (ce : Int) : Prop := w.heap[g]? = some (Obj.cells #[.pointer (some ⟨h, 0, none⟩), .int .i64 (m : Nat), .int .i64 ce] 89 (0, 0))
section
variable {w w' : World} {g h m : Nat} {ce : Int}
theorem Prs.c0 (k : Prs w g h m ce) : w.cell? ⟨g, 0, none⟩ = some (.pointer (some ⟨h, 0, none⟩)) := cell_of_row w g 0 _ _ _ k
theorem Prs.c1 (k : Prs w g h m ce) : w.cell? ⟨g, 1, none⟩ = some (.int .i64 (m : Nat)) := cell_of_row w g 1 _ _ _ k
theorem Prs.free (k : Prs w g h m ce) (i : Nat) : w.frozen? ⟨g, i, none⟩ = false := frozen_of_row w g i _ _ k
theorem Prs.lt (k : Prs w g h m ce) : g < w.heap.size := (Array.getElem?_eq_some_iff.1 k).1
theorem Prs.set (k : Prs w g h m ce) (m' : Nat) (v : Value) (hv : v = .int .i64 (m' : Int)) : Prs (w.setCell ⟨g, 1, none⟩ v) g h m' ce := by
  unfold Prs at k ⊢
  rw [heap_setCell_same w g 1 _ _ _ k, hv]; rfl
theorem Prs.same (k : Prs w g h m ce) (hs : w'.heap[g]? = w.heap[g]?) : Prs w' g h m ce := hs.trans k
end
theorem Rfs.c2 {D : Dat} {w : World} {h : Nat} {l : List UInt8} {e : Int} (k : Rfs D w h l e) : w.cell? ⟨h, 2, none⟩ = some (.int .i64 e) := by
  obtain ⟨A, n, c, L, p, k, _, _⟩ := k
  exact k.c2
theorem Rfs.lt' {D : Dat} {w : World} {h : Nat} {l : List UInt8} {e : Int} (k : Rfs D w h l e) : h < w.heap.size := by
  obtain ⟨A, n, c, L, p, k, _, _⟩ := k
  exact k.lt
theorem Rfs.to {D : Dat} {w w' : World} {h : Nat} {l : List UInt8} {e : Int} (k : Rfs D w h l e) (hs : ∀ b, b ≤ h → w'.heap[b]? = w.heap[b]?) : Rfs D w' h l e := by
  obtain ⟨A, n, c, L, p, k, e1, e2⟩ := k
  exact ⟨A, n, c, L, p, ⟨(hs h (Nat.le_refl _)).trans k.row, k.sees.keep fun q hq => World.cell?_of_block (hs q.block (Nat.le_of_lt hq)), k.cap, k.top, k.pos⟩, e1, e2⟩
/-- All blocks but two lie as they lay. -/
structure Twb (w w' : World) (g h : Nat) : Prop where
  os : w'.os = w.os
  tape : w'.tape = w.tape
  output : w'.output = w.output
  size : w.heap.size ≤ w'.heap.size
  block : ∀ b, b < w.heap.size → b ≠ g → b ≠ h → w'.heap[b]? = w.heap[b]?
section
variable {w w' w'' : World} {g h : Nat}
theorem Twb.refl (w : World) (g h : Nat) : Twb w w g h := ⟨rfl, rfl, rfl, Nat.le_refl _, fun _ _ _ _ => rfl⟩
theorem Twb.trans (a : Twb w w' g h) (b : Twb w' w'' g h) : Twb w w'' g h :=
  ⟨b.os.trans a.os, b.tape.trans a.tape, b.output.trans a.output, Nat.le_trans a.size b.size, fun k hk h1 h2 => (b.block k (Nat.lt_of_lt_of_le hk a.size) h1 h2).trans (a.block k hk h1 h2)⟩
theorem Twb.grown (a : Twb w w' g h) (b : w'.grownBy w'' (some h)) : Twb w w'' g h :=
  a.trans ⟨b.os, b.tape, b.output, b.size, fun k hk _ h2 => b.block k hk (fun e => h2 (by injection e))⟩
theorem Twb.alloc (a : Twb w w' g h) (o : Obj) : Twb w (w'.alloc o) g h :=
  a.trans ⟨rfl, rfl, rfl, by simp, fun k hk _ _ => Below.heap_alloc w' o k hk⟩
theorem Twb.setg (a : Twb w w' g h) (i : Nat) (v : Value) : Twb w (w'.setCell ⟨g, i, none⟩ v) g h :=
  a.trans ⟨by simp [World.setCell], by simp [World.setCell], by simp [World.setCell], by simp [World.setCell], fun k _ h1 _ => heap_setCell_other _ _ _ _ h1⟩
theorem Twb.own (a : Twb w w' g h) {row : Option Nat} (hr : ∀ k, row = some k → w.heap.size ≤ k) (b : w'.grownBy w'' row) : Twb w w'' g h :=
  ⟨b.os.trans a.os, b.tape.trans a.tape, b.output.trans a.output, Nat.le_trans a.size b.size, fun k hk h1 h2 => (b.block k (Nat.lt_of_lt_of_le hk a.size) (fun e => by have := hr k e.symm; omega)).trans (a.block k hk h1 h2)⟩
theorem Twb.drewN (a : Twb w w' g h) (n : Nat) : Twb w (w'.drewN n) g h := ⟨a.os, a.tape, a.output, a.size, a.block⟩
end
/-- A row of edges of one's own stays where only the two boxes turn. -/
theorem edg_twb {w w' : World} {g h base n c : Nat} {A : Option Addr} {t : Tr} {vs : List Value} (hE : Edg w base base A n c t vs) (hg : g < base) (hh : h < base) (a : Twb w w' g h) : Edg w' base base A n c t vs := by
  have hb : ∀ b, base ≤ b → b < w.heap.size → w'.heap[b]? = w.heap[b]? := fun b h1 h2 => a.block b h2 (by omega) (by omega)
  refine ⟨⟨hE.own.1, ?_⟩, ?_⟩
  · rcases hE.own.2 with hn | ⟨g', cap, cur, e, hbb, hgg, rest⟩
    · exact .inl hn
    · exact .inr ⟨g', cap, cur, e, hbb, (hb g' hbb (Array.getElem?_eq_some_iff.1 hgg).1).trans hgg, rest⟩
  · exact (hE.row.keep (w' := w') fun b o hb1 => World.cell?_of_block (a := ⟨b, o, none⟩) (hb b hb1.1 hb1.2.1)).more fun b hb1 => ⟨hb1.1, Nat.lt_of_lt_of_le hb1.2.1 a.size, hb1.2.2⟩
end Go.Proofs.Ytebiinjcegdmpaa.Ps
