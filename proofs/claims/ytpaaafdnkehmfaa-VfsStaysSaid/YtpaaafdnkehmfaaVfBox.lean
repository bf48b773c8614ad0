/- vfs: the box of the whole, its parts turned one by one. No conditions. -/
import Derived.Test.YtpaaafdnkehmfaaVfReplay
namespace Go.Proofs.Ytpaaafdnkehmfaa.Vf
open Go.RowKit
set_option maxRecDepth 100000

section
variable {P : Program} {w w' : World} {ops : Array Oper} {o : Oper} {a : Act} {Q : Exit → Act → World → Prop} {K : Act → World → Prop} {E : Prop}
/-- append, in a region that draws its order, by its run. -/
theorem step_append_run (hgd : o.guard = none) (s x : Operand) (t tx : TypeId) (hop : o.op = .call { callee := .builtin .append, args := #[s, x], argTypes := #[t, tx] }) {vs vx v : Value} (hs : a.eval s = vs) (hx : a.eval x = vx)
    (hr : (Builtin.append_ #[t, tx] o.type #[vs, vx]).run P w = .ok v w') (h : K (a.put o.dst v) w') : if Region.wanted o (yielded ops a.tmps) = true then Oper.wp P o a w K Q else E := by
  have hw : Region.wanted o (yielded ops a.tmps) = true := by simp [Region.wanted, hgd]
  rw [if_pos hw]
  unfold Oper.wp
  simp [execOp, hop, resolve, invoke, builtin, hs, hx, hr, Result.andThen]
  exact h
end
structure R4 where
  a : Value
  b : Value
  c : Value
  d : Value
abbrev Vm.r4 (V : Vm) : R4 := ⟨.int .i64 V.room, .int .i64 (V.ops : Int), .int .i64 V.stop, .bool V.dead⟩
abbrev bxG (l1 l2 : FL) (R : R4) (m1 m2 : Value) (A : Option Addr) (n c : Nat) : List Value :=
  [m1, .int .i64 (used l1 : Int), m2, .int .i64 (used l2 : Int), .slice A n c, R.a, R.b, R.c, R.d]
/-- The box, its parts by themselves: l1 now, l2 flushed, s since. -/
structure VpB (w : World) (B p : Nat) (l1 l2 : FL) (s : Sn) (R : R4) (m1 m2 : Value) (A : Option Addr) (n c : Nat) (vs : List Value) : Prop where
  box : Bx w p (bxG l1 l2 R m1 m2 A n c) 72
  f1 : Fs w B m1 l1
  f2 : Fs w B m2 l2
  far : ∀ b, m1 = .map (some b) → m2 ≠ .map (some b)
  own : w.ownsRow B 84 3 (.slice A n c) n vs
  row : RowF w B vs s
  lt : p < B
  le : B ≤ w.heap.size
section
variable {w w' : World} {B p : Nat} {l1 l2 l' : FL} {s : Sn} {R : R4} {m1 m2 : Value} {A : Option Addr} {n c : Nat} {vs : List Value}
theorem VpAt.parts {V : Vm} (h : VpAt w B p V m1 m2 A n c vs) : VpB w B p V.now V.fl V.since V.r4 m1 m2 A n c vs := ⟨h.box, h.f1, h.f2, h.far, h.own, h.row, h.lt, h.le⟩
theorem VpB.whole {V : Vm} (h : VpB w B p V.now V.fl V.since V.r4 m1 m2 A n c vs) : Vp w B p V := ⟨m1, m2, A, n, c, vs, h.box, h.f1, h.f2, h.far, h.own, h.row, h.lt, h.le⟩
theorem VpB.len (h : VpB w B p l1 l2 s R m1 m2 A n c vs) : n = s.length := by
  have h1 := h.own.1
  have h2 := h.row.length
  omega
theorem VpB.below (h : VpB w B p l1 l2 s R m1 m2 A n c vs) (hb : Below w.heap.size w w') : VpB w' B p l1 l2 s R m1 m2 A n c vs :=
  ⟨h.box.below hb h.box.lt, h.f1.keep (Ks.of hb) fun b _ hl => hb.block b hl, h.f2.keep (Ks.of hb) fun b _ hl => hb.block b hl, h.far, (Mv.of hb (fun _ => False)).row h.own fun _ _ => id, h.row.keep (Ks.of hb), h.lt, Nat.le_trans h.le hb.size⟩
theorem VpB.drew (h : VpB w B p l1 l2 s R m1 m2 A n c vs) : VpB w.drew B p l1 l2 s R m1 m2 A n c vs := h.below ⟨rfl, rfl, rfl, Nat.le_refl _, fun _ _ => rfl⟩
/-- The row of what was done is none of the maps. -/
theorem VpB.rowFar (h : VpB w B p l1 l2 s R m1 m2 A n c vs) : ∀ g, (Value.slice A n c).ownBlock = some g → B ≤ g ∧ g < w.heap.size ∧ m1 ≠ .map (some g) ∧ m2 ≠ .map (some g) := by
  intro g e
  have h1 := h.own.lt g e
  rcases h.own.2 with ⟨e1, _⟩ | ⟨g', cap, cur, e1, _, hh, _⟩
  · rw [e1] at e; cases e
  · rw [e1] at e
    have : g' = g := by injection e
    subst this
    exact ⟨h1.1, h1.2, fun q => h.f1.ne_cells q hh, fun q => h.f2.ne_cells q hh⟩
theorem VpB.notKd (h : VpB w B p l1 l2 s R m1 m2 A n c vs) : ¬ Kd w p := not_kd_bx h.box (.inl rfl)
theorem VpB.set1 (h : VpB w B p l1 l2 s R m1 m2 A n c vs) {e : Ending} (hs : SetP w B p 0 (bxG l1 l2 R m1 m2 A n c) 72 m1 l' e w') : e = .returned (.tuple #[]) ∧ Mo B p w w' ∧ (∃ mv, VpB w' B p l' l2 s R mv m2 A n c vs) ∧ ∀ g cs T, Bx w g cs T → g ≠ p → Bx w' g cs T := by
  obtain ⟨he, mv, g1, g2, g3, g4⟩ := hs
  have hlt := h.lt
  have hmo : Mo B p w w' := g3.weak fun k _ e => by
    rcases e with e | e
    · exact .inl e
    · have := h.f1.not_kd e
      exact .inr ⟨this.1, this.2.2⟩
  have hk := hmo.ks h.notKd
  refine ⟨he, hmo, ⟨mv, g1, g2, h.f2.keep hk fun b e hb => g3.block b hb fun q => ?_, fun b e e2 => ?_, g3.row h.own fun k e q => ?_, h.row.keep hk, hlt, Nat.le_trans h.le g3.size⟩, fun g cs T hg hne => hg.eq (g3.block g hg.lt fun q => q.elim hne fun q => h.f1.ne_cells q hg)⟩
  · rcases q with q | q
    · have := (h.f2.not_kd e).1; omega
    · exact h.far b q e
  · rcases g4 b e with q | q
    · exact h.far b q e2
    · have := (h.f2.not_kd e2).2.1; omega
  · have := h.rowFar k e
    rcases q with q | q
    · omega
    · exact this.2.2.1 q
theorem VpB.set2 (h : VpB w B p l1 l2 s R m1 m2 A n c vs) {e : Ending} (hs : SetP w B p 2 (bxG l1 l2 R m1 m2 A n c) 72 m2 l' e w') : e = .returned (.tuple #[]) ∧ Mo B p w w' ∧ (∃ mv, VpB w' B p l1 l' s R m1 mv A n c vs) ∧ ∀ g cs T, Bx w g cs T → g ≠ p → Bx w' g cs T := by
  obtain ⟨he, mv, g1, g2, g3, g4⟩ := hs
  have hlt := h.lt
  have hmo : Mo B p w w' := g3.weak fun k _ e => by
    rcases e with e | e
    · exact .inl e
    · have := h.f2.not_kd e
      exact .inr ⟨this.1, this.2.2⟩
  have hk := hmo.ks h.notKd
  refine ⟨he, hmo, ⟨mv, g1, h.f1.keep hk fun b e hb => g3.block b hb fun q => ?_, g2, fun b e e2 => ?_, g3.row h.own fun k e q => ?_, h.row.keep hk, hlt, Nat.le_trans h.le g3.size⟩, fun g cs T hg hne => hg.eq (g3.block g hg.lt fun q => q.elim hne fun q => h.f2.ne_cells q hg)⟩
  · rcases q with q | q
    · have := (h.f1.not_kd e).1; omega
    · exact h.far b e q
  · rcases g4 b e2 with q | q
    · exact h.far b e q
    · have := (h.f1.not_kd e).2.1; omega
  · have := h.rowFar k e
    rcases q with q | q
    · omega
    · exact this.2.2.2 q
theorem VpB.mo (h : VpB w B p l1 l2 s R m1 m2 A n c vs) (hm : Mv w w' (fun k => k = p ∨ (Value.slice A n c).ownBlock = some k)) : Mo B p w w' := hm.weak fun k hk e => by
  rcases e with e | e
  · exact .inl e
  · have h1 := h.rowFar k e
    refine .inr ⟨h1.1, ?_⟩
    rcases h.own.2 with ⟨e1, _⟩ | ⟨g', cap, cur, e1, _, hh, _⟩
    · rw [e1] at e; cases e
    · rw [e1] at e
      have : g' = k := by injection e
      subst this
      rintro ⟨cs, t, fz, q, _, q2⟩
      rw [hh] at q
      injection q with q
      injection q with _ q _
      exact q2 q.symm
/-- Cells of the box behind the maps, and the row itself. -/
theorem VpB.turn (h : VpB w B p l1 l2 s R m1 m2 A n c vs) {s' : Sn} {R' : R4} {A' : Option Addr} {n' c' : Nat} {vs' : List Value} (hm : Mv w w' (fun k => k = p ∨ (Value.slice A n c).ownBlock = some k)) (hb : Bx w' p (bxG l1 l2 R' m1 m2 A' n' c') 72)
    (ho : w'.ownsRow B 84 3 (.slice A' n' c') n' vs') (hr : RowF w' B vs' s') : VpB w' B p l1 l2 s' R' m1 m2 A' n' c' vs' ∧ Mo B p w w' := by
  have hlt := h.lt
  have hmo := h.mo hm
  have hk := hmo.ks h.notKd
  refine ⟨⟨hb, h.f1.keep hk fun b e hb => hm.block b hb fun q => ?_, h.f2.keep hk fun b e hb => hm.block b hb fun q => ?_, h.far, ho, hr, hlt, Nat.le_trans h.le hm.size⟩, hmo⟩
  · rcases q with q | q
    · have := (h.f1.not_kd e).1; omega
    · exact (h.rowFar b q).2.2.1 e
  · rcases q with q | q
    · have := (h.f2.not_kd e).1; omega
    · exact (h.rowFar b q).2.2.2 e
theorem Mo.undrew {B p : Nat} {w w1 : World} (h : Mo B p w.drew w1) : Mo B p w w1 := ⟨h.os, h.tape, h.output, h.size, h.block⟩
end
theorem elem_file : Elem Try.prog 70 84 (.agg #[.string ⟨#[]⟩, .slice none 0 0, .bool false]) 3 48 := ⟨Try.underlying70, by kernel_rfl, rfl, by omega⟩
theorem Src.laid {P : Program} {w : World} {size n c : Nat} {tx e' : TypeId} (hk : P.underlying tx = some (.slice e')) {b o : Nat} {ys : List Value} (hl : ys.length = n * size)
    (hc : ∀ j u, ys[j]? = some u → w.cell? ⟨b, o + j, none⟩ = some u) (h1 : ∀ u ∈ ys, u.oneCell' = true) : Src P size tx (.slice (some ⟨b, o, none⟩) n c) n ys w :=
  Src.ofSlice w hk ⟨b, o, none⟩ n c ys hl (fun j u hu => by rw [Addr.add_lit]; exact hc j u hu) h1
theorem src_file {V : World} {a b c : Value} {g : Nat} (hV : V.heap[g]? = some (.cells #[a, b, c] 84 (0, 0))) (ha : a.oneCell' = true) (hb : b.oneCell' = true) (hc : c.oneCell' = true) :
    Src Try.prog 3 70 (.slice (some ⟨g, 0, none⟩) 1 1) 1 [a, b, c] V :=
  Src.laid Try.underlying70 rfl (fun j u hu => by rw [cell_of_row _ _ _ _ _ _ hV, ← hu]; simp) (fun u hu => by
    simp only [List.mem_cons, List.not_mem_nil, or_false] at hu
    rcases hu with rfl | rfl | rfl
    · exact ha
    · exact hb
    · exact hc)
end Go.Proofs.Ytpaaafdnkehmfaa.Vf
