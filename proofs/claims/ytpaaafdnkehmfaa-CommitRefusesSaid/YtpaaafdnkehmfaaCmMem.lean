/- commit: rows of files in memory, the box of what is to be done; a step. No conditions but that there is no more than 2^40 of anything. -/
import Derived.Test.YtpaaafdnkehmfaaVfFlush
import Derived.Test.YtpaaafdnkehmfaaCmMath
namespace Go.Proofs.Ytpaaafdnkehmfaa.Vf
open Go.RowKit
set_option maxRecDepth 100000

/-- Bytes in blocks that P picks. -/
structure SeesP (w : World) (P : Nat → Prop) (A : Option Addr) (n : Nat) (b : BS) : Prop where
  len : n = b.length
  at_ : ∀ (j : Nat) (u : UInt8), b[j]? = some u → ∃ g o, A = some ⟨g, o, none⟩ ∧ P g ∧ w.cell? ⟨g, o + j, none⟩ = some (byt u)
/-- Files in blocks that P picks. -/
structure Fr (w : World) (P : Nat → Prop) (A : Option Addr) (n : Nat) (l : FL) : Prop where
  len : n = l.length
  at_ : ∀ (k : Nat) (x : BS × BS), l[k]? = some x → ∃ g o Af nf cf, A = some ⟨g, o, none⟩ ∧ P g ∧ w.cell? ⟨g, o + k * 2, none⟩ = some (.string ⟨x.1.toArray⟩) ∧ w.cell? ⟨g, o + k * 2 + 1, none⟩ = some (.slice Af nf cf) ∧ SeesP w P Af nf x.2 ∧ nf ≤ cf ∧ cf ≤ maxLen
section
variable {w w' : World} {P P' : Nat → Prop} {A : Option Addr} {n : Nat} {b : BS} {l : FL}
theorem SeesP.keep (h : SeesP w P A n b) (hk : ∀ g, P g → w'.heap[g]? = w.heap[g]?) : SeesP w' P A n b :=
  ⟨h.len, fun j u hu => by
    obtain ⟨g, o, e, hp, hc⟩ := h.at_ j u hu
    exact ⟨g, o, e, hp, (World.cell?_of_block (a := ⟨g, o + j, none⟩) (hk g hp)).trans hc⟩⟩
theorem SeesP.more (h : SeesP w P A n b) (hk : ∀ g, P g → P' g) : SeesP w P' A n b :=
  ⟨h.len, fun j u hu => by
    obtain ⟨g, o, e, hp, hc⟩ := h.at_ j u hu
    exact ⟨g, o, e, hk g hp, hc⟩⟩
theorem SeesP.sees {B : Nat} (h : SeesP w P A n b) (hk : ∀ g, P g → g < B) : Sees w B A n b :=
  ⟨h.len, fun j u hu => by
    obtain ⟨g, o, e, hp, hc⟩ := h.at_ j u hu
    exact ⟨_, e, hk g hp, by rw [Addr.add_lit]; exact hc⟩⟩
theorem SeesP.of {B : Nat} (h : Sees w B A n b) : SeesP w (fun g => g < B) A n b :=
  ⟨h.len, fun j u hu => by
    obtain ⟨a, e, hb, hc⟩ := h.2 j u hu
    have hlen : 0 < b.length := by have := (List.getElem?_eq_some_iff.1 hu).1; omega
    obtain ⟨a', e', _, hc'⟩ := h.2 0 _ (List.getElem?_eq_getElem hlen)
    rw [e] at e'
    cases e'
    obtain ⟨g, o, sp⟩ := a
    have hp : sp = none := plain_addr hc'
    subst hp
    rw [Addr.add_lit] at hc
    exact ⟨g, o, e, hb, hc⟩⟩
theorem SeesP.nil (A : Option Addr) : SeesP w P A 0 [] := ⟨rfl, fun j u hu => by simp at hu⟩
theorem SeesP.take {k : Nat} (h : SeesP w P A n b) (hk : k ≤ n) : SeesP w P A k (b.take k) :=
  ⟨by rw [List.length_take, ← h.len]; omega, fun j u hu => by
    rw [List.getElem?_take] at hu
    split at hu
    · exact h.at_ j u hu
    · cases hu⟩
theorem Fr.keep (h : Fr w P A n l) (hk : ∀ g, P g → w'.heap[g]? = w.heap[g]?) : Fr w' P A n l :=
  ⟨h.len, fun k x hx => by
    obtain ⟨g, o, Af, nf, cf, e, hp, h1, h2, h3, h4⟩ := h.at_ k x hx
    exact ⟨g, o, Af, nf, cf, e, hp, (World.cell?_of_block (a := ⟨g, o + k * 2, none⟩) (hk g hp)).trans h1, (World.cell?_of_block (a := ⟨g, o + k * 2 + 1, none⟩) (hk g hp)).trans h2, h3.keep hk, h4⟩⟩
theorem Fr.more (h : Fr w P A n l) (hk : ∀ g, P g → P' g) : Fr w P' A n l :=
  ⟨h.len, fun k x hx => by
    obtain ⟨g, o, Af, nf, cf, e, hp, h1, h2, h3, h4⟩ := h.at_ k x hx
    exact ⟨g, o, Af, nf, cf, e, hk g hp, h1, h2, h3.more hk, h4⟩⟩
theorem Fr.take {k : Nat} (h : Fr w P A n l) (hk : k ≤ n) : Fr w P A k (l.take k) :=
  ⟨by rw [List.length_take, ← h.len]; omega, fun j u hu => by
    rw [List.getElem?_take] at hu
    split at hu
    · exact h.at_ j u hu
    · cases hu⟩
theorem Fr.below {B : Nat} (h : Fr w (fun g => g < B) A n l) (hb : Below B w w') : Fr w' (fun g => g < B) A n l := h.keep fun g hg => hb.block g hg
theorem SeesP.below {B : Nat} (h : SeesP w (fun g => g < B) A n b) (hb : Below B w w') : SeesP w' (fun g => g < B) A n b := h.keep fun g hg => hb.block g hg
end

/-- The box of what is to be done. -/
abbrev bxW (p : Nat) (L J : Value) (e : Int) : List Value := [.pointer (some ⟨p, 0, none⟩), L, J, .int .i64 e]
/-- Of what lay in memory only the boxes at p and q may be other, and, from B on, maps and rows of what was done. -/
abbrev Mq (B p q : Nat) (w w' : World) : Prop := Mv w w' fun k => k = p ∨ k = q ∨ (B ≤ k ∧ ¬ Kd w k)
theorem Mq.refl (B p q : Nat) (w : World) : Mq B p q w w := Mv.refl w _
theorem Mq.of {B p q : Nat} {w w1 : World} (h : Mo B p w w1) : Mq B p q w w1 := h.weak fun _ _ e => e.elim .inl fun e => .inr (.inr e)
theorem Mq.trans {B p q : Nat} {w w1 w2 : World} (h : Mq B p q w w1) (h2 : Mq B p q w1 w2) : Mq B p q w w2 :=
  ⟨h2.os.trans h.os, h2.tape.trans h.tape, h2.output.trans h.output, Nat.le_trans h.size h2.size, fun k hk hn => by
    have e := h.block k hk hn
    refine (h2.block k (Nat.lt_of_lt_of_le hk h.size) fun g => hn ?_).trans e
    rcases g with g | g | ⟨g1, g2⟩
    · exact .inl g
    · exact .inr (.inl g)
    · exact .inr (.inr ⟨g1, fun q => g2 (q.eq e)⟩)⟩
/-- A block that is none of them. -/
def Pf (w : World) (B p q : Nat) (P : Nat → Prop) : Prop := ∀ g, P g → g < w.heap.size ∧ g ≠ p ∧ g ≠ q ∧ (g < B ∨ Kd w g)
theorem Pf.block {w w' : World} {B p q : Nat} {P : Nat → Prop} (h : Pf w B p q P) (hm : Mq B p q w w') : ∀ g, P g → w'.heap[g]? = w.heap[g]? := fun g hg => by
  obtain ⟨h1, h2, h3, h4⟩ := h g hg
  refine hm.block g h1 fun e => ?_
  rcases e with e | e | ⟨e1, e2⟩
  · exact h2 e
  · exact h3 e
  · rcases h4 with h4 | h4
    · omega
    · exact e2 h4
theorem Pf.keep {w w' : World} {B p q : Nat} {P : Nat → Prop} (h : Pf w B p q P) (hm : Mq B p q w w') : Pf w' B p q P := fun g hg => by
  obtain ⟨h1, h2, h3, h4⟩ := h g hg
  exact ⟨Nat.lt_of_lt_of_le h1 hm.size, h2, h3, h4.imp id fun k => k.eq (h.block hm g hg)⟩
theorem Bx.kd {w : World} {g : Nat} {vs : List Value} {T : TypeId} (h : Bx w g vs T) (h1 : T ≠ 72) (h2 : T ≠ 84) : Kd w g := ⟨_, _, _, h, h1, h2⟩
theorem Vp.drew {w : World} {B p : Nat} {V : Vm} (h : Vp w B p V) : Vp w.drew B p V := h.below ⟨rfl, rfl, rfl, Nat.le_refl _, fun _ _ => rfl⟩
/-- Memory that is another's changes nothing of the files. -/
def KsQ (q : Nat) (w w' : World) : Prop := ∀ k, k ≠ q → k < w.heap.size → w'.heap[k]? = w.heap[k]?
section
variable {w w' : World} {B p q : Nat} {vs0 : List Value} {T : TypeId}
theorem Bz.keepQ {v : Value} {l : BS} (h : Bz w B v l) (hq : Bx w q vs0 T) (hT : T ≠ 5) (hk : KsQ q w w') : Bz w' B v l := by
  obtain ⟨A, n, c, e, e2, h1, h2, h3⟩ := h.ex
  refine ⟨A, n, c, e, e2, h1, h2, fun hl => ?_⟩
  obtain ⟨g, o, cur, fz, hB, e3, hg, hc⟩ := h3 hl
  refine ⟨g, o, cur, fz, hB, e3, (hk g ?_ (Array.getElem?_eq_some_iff.1 hg).1).trans hg, hc⟩
  rintro rfl
  unfold Bx at hq
  rw [hg] at hq
  injection hq with hq
  injection hq with _ e _
  exact hT e.symm
theorem FsD.keepQ {l : FL} {D : DataW Value} (h : FsD w B l D) (hq : Bx w q vs0 T) (hT : T ≠ 5) (hk : KsQ q w w') : FsD w' B l D :=
  ⟨h.has, fun k b hb => by obtain ⟨v, h1, h2⟩ := h.at_ k b hb; exact ⟨v, h1, h2.keepQ hq hT hk⟩⟩
theorem Fs.keepQ {mv : Value} {l : FL} (h : Fs w B mv l) (hq : Bx w q vs0 T) (hT : T ≠ 5) (hk : KsQ q w w') : Fs w' B mv l := by
  rcases h with h | ⟨b, D, e, hB, ho, hF⟩
  · exact .inl h
  · refine .inr ⟨b, D, e, hB, ho.eq (hk b ?_ (World.ownsMap.lt ho)), hF.keepQ hq hT hk⟩
    rintro rfl
    obtain ⟨es, clock, hb, _⟩ := ho
    unfold Bx at hq
    rw [hb] at hq
    cases hq
theorem RowF.keepQ (hq : Bx w q vs0 T) (hT : T ≠ 5) (hk : KsQ q w w') : ∀ {vs : List Value} {s : Sn}, RowF w B vs s → RowF w' B vs s
  | [], [], _ => trivial
  | .string _ :: _ :: .bool _ :: _, (_, _) :: _, ⟨h1, h2, h3, h4⟩ => ⟨h1, h2, h3.keepQ hq hT hk, RowF.keepQ hq hT hk h4⟩
theorem Vp.far {V : Vm} (h : Vp w B p V) (hm : Mv w w' (· = q)) (hq : Bx w q vs0 T) (h1 : T ≠ 5) (h2 : T ≠ 72) (h3 : T ≠ 84) : Vp w' B p V := by
  have hne : q ≠ p := by rintro rfl; exact h.not_kd (hq.kd h2 h3)
  have hk : KsQ q w w' := fun k e hk => hm.block k hk e
  obtain ⟨m1, m2, A, n, c, vs, h⟩ := h
  refine ⟨m1, m2, A, n, c, vs, h.box.eq (hk p (Ne.symm hne) h.box.lt), h.f1.keepQ hq h1 hk, h.f2.keepQ hq h1 hk, h.far, hm.row h.own fun k e q' => ?_, h.row.keepQ hq h1 hk, h.lt, Nat.le_trans h.le hm.size⟩
  subst q'
  rcases h.own.2 with ⟨e1, _⟩ | ⟨g', cap, cur, e1, _, hh, _⟩
  · rw [e1] at e; cases e
  · rw [e1] at e
    have : g' = k := by injection e
    subst this
    unfold Bx at hq
    rw [hh] at hq
    injection hq with hq
    injection hq with _ e _
    exact h3 e.symm
end
end Go.Proofs.Ytpaaafdnkehmfaa.Vf
