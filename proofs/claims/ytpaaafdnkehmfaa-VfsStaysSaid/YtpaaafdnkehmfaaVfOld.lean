/- vfs: files stay what they are where older memory is written to. No conditions. -/
import Derived.Test.YtpaaafdnkehmfaaVfKnown
namespace Go.Proofs.Ytpaaafdnkehmfaa.Vf
open Go.RowKit
set_option maxRecDepth 100000

def KsB (B : Nat) (w w' : World) : Prop := ∀ k, B ≤ k → k < w.heap.size → w'.heap[k]? = w.heap[k]?
section
variable {w w' : World} {B p : Nat}
theorem Bz.keepB {v : Value} {l : BS} (h : Bz w B v l) (hk : KsB B w w') : Bz w' B v l := by
  obtain ⟨A, n, c, e, e2, h1, h2, h3⟩ := h.ex
  refine ⟨A, n, c, e, e2, h1, h2, fun hl => ?_⟩
  obtain ⟨g, o, cur, fz, hB, e3, hg, hc⟩ := h3 hl
  exact ⟨g, o, cur, fz, hB, e3, (hk g hB (Array.getElem?_eq_some_iff.1 hg).1).trans hg, hc⟩
theorem FsD.keepB {l : FL} {D : DataW Value} (h : FsD w B l D) (hk : KsB B w w') : FsD w' B l D :=
  ⟨h.has, fun k b hb => by obtain ⟨v, h1, h2⟩ := h.at_ k b hb; exact ⟨v, h1, h2.keepB hk⟩⟩
theorem Fs.keepB {mv : Value} {l : FL} (h : Fs w B mv l) (hk : KsB B w w') : Fs w' B mv l := by
  rcases h with h | ⟨b, D, e, hB, ho, hF⟩
  · exact .inl h
  · exact .inr ⟨b, D, e, hB, ho.eq (hk b hB (World.ownsMap.lt ho)), hF.keepB hk⟩
theorem RowF.keepB (hk : KsB B w w') : ∀ {vs : List Value} {s : Sn}, RowF w B vs s → RowF w' B vs s
  | [], [], _ => trivial
  | .string _ :: _ :: .bool _ :: _, (_, _) :: _, ⟨h1, h2, h3, h4⟩ => ⟨h1, h2, h3.keepB hk, RowF.keepB hk h4⟩
theorem Vp.old {V : Vm} (h : Vp w B p V) (hm : Mv w w' (fun k => k < B ∧ k ≠ p)) : Vp w' B p V := by
  obtain ⟨m1, m2, A, n, c, vs, h⟩ := h
  have hk : KsB B w w' := fun k hB hk => hm.block k hk fun e => by omega
  exact ⟨m1, m2, A, n, c, vs, h.box.eq (hm.block p h.box.lt fun e => e.2 rfl), h.f1.keepB hk, h.f2.keepB hk, h.far, hm.row h.own fun k e q => by
    have := (h.own.lt k e).1
    omega, h.row.keepB hk, h.lt, Nat.le_trans h.le hm.size⟩
/-- Files of which nothing was done, another box. -/
theorem Bx.mo {q : Nat} {vs : List Value} {T : TypeId} (h : Bx w q vs T) (hm : Mo B p w w') (h1 : q ≠ p) (h2 : q < B) : Bx w' q vs T := h.eq (hm.block q h.lt fun e => by
  rcases e with e | e
  · exact h1 e
  · omega)
end
end Go.Proofs.Ytpaaafdnkehmfaa.Vf
