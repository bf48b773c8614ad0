/- Trees and paths: what is below a path, with something put there, without it. No conditions. A row of edges of one's own, cell by cell: with an edge more, with one less. No conditions. A place within a tree of one's own: what lies there, and the whole again, whatever is put there. No conditions. tree.Put: the whole anew, with something put at a path. Conditions: edges in order at each level, fewer than 2^39 of them. tree.Get: what is below a path, anew. Conditions: edges in order at each level, fewer than 2^38 of them. tree.Drop: the whole anew, without what is at a path. Conditions: edges in order at each level, fewer than 2^38 of them. Kid of the reference, with what is below; Path: a path by numbers. Conditions: fewer than 2^30 edges beside one another; names of at most 30 bytes. Trees and paths as a law's walk hands them on. Conditions: fewer than 2^20 edges. -/
import Derived.Test.YtkhjpmefekonhaaFind
import Derived.Test.YtkhjpmefekonhaaEdg
import Derived.Test.YtkhjpmefekonhaaMgCl
import Derived.Test.YtkhjpmefekonhaaMgIns
import Derived.Deep.RegionHeld3
import Derived.Test.YtkhjpmefekonhaaLaw2
import Derived.Test.YtkhjpmefekonhaaLists
import Derived.Test.YtkhjpmefekonhaaSame
import Derived.Test.YtkhjpmefekonhaaRaws
import Derived.Test.YtkhjpmefekonhaaMake
import Derived.Test.YtkhjpmefekonhaaTCW
namespace Go.Proofs.Ytkhjpmefekonhaa.Pt
open Go.RowKit Go.Proofs.Ytkhjpmefekonhaa.Jd Go.Proofs.Ytkhjpmefekonhaa.Cl
set_option maxRecDepth 100000

/-- Below a name: what is there, or nothing. -/
def kidT : Tr → ByteArray → Tr
  | .nil, _ => .nil
  | .cons s k r, name => if Op.bytesLess s.toList name.toList = true then kidT r name else if (s.toList == name.toList) = true then k else .nil
def putT : Tr → List ByteArray → Tr → Tr
  | _, [], x => x
  | t, p :: ps, x => t.withT p (putT (kidT t p) ps x)
def withoutT : Tr → ByteArray → Tr
  | .nil, _ => .nil
  | .cons s k r, name => if Op.bytesLess s.toList name.toList = true then .cons s k (withoutT r name) else if (s.toList == name.toList) = true then r else .cons s k r
def dropP : Tr → List ByteArray → Tr
  | _, [] => .nil
  | t, [p] => if t.atIs p = true then withoutT t p else t
  | t, p :: q :: ps => if t.atIs p = true then t.withT p (dropP (kidT t p) (q :: ps)) else t
def getT : Tr → List ByteArray → Tr × Bool
  | t, [] => (t, true)
  | t, p :: ps => if t.atIs p = true then getT (kidT t p) ps else (.nil, false)
/-- In order at each level. -/
def AscD : Tr → Prop
  | .nil => True
  | .cons s k r => (Tr.cons s k r).Asc ∧ AscD k ∧ AscD r
theorem AscD.asc : ∀ {t : Tr}, AscD t → t.Asc
  | .nil, _ => nil_asc
  | .cons _ _ _, h => h.1

section
variable {s name : ByteArray} {k r x y : Tr}
theorem kidT_lt (h : Op.bytesLess s.toList name.toList = true) : kidT (.cons s k r) name = kidT r name := by simp [kidT, h]
theorem kidT_eq (h : Op.bytesLess s.toList name.toList = false) (h2 : (s.toList == name.toList) = true) : kidT (.cons s k r) name = k := by simp only [kidT, h, h2]; simp
theorem kidT_gt (h : Op.bytesLess s.toList name.toList = false) (h2 : (s.toList == name.toList) = false) : kidT (.cons s k r) name = .nil := by simp only [kidT, h, h2]; simp
theorem withT_lt (h : Op.bytesLess s.toList name.toList = true) : (Tr.cons s k r).withT name x = .cons s k (r.withT name x) := by simp [Tr.withT, h]
theorem withT_eq (h : Op.bytesLess s.toList name.toList = false) (h2 : (s.toList == name.toList) = true) : (Tr.cons s k r).withT name x = .cons name x r := by simp only [Tr.withT, h, h2]; simp
theorem withT_gt (h : Op.bytesLess s.toList name.toList = false) (h2 : (s.toList == name.toList) = false) : (Tr.cons s k r).withT name x = .cons name x (.cons s k r) := by simp only [Tr.withT, h, h2]; simp
theorem atN_lt (h : Op.bytesLess s.toList name.toList = true) : (Tr.cons s k r).atN name = r.atN name + 1 := by simp [Tr.atN, h]
theorem atN_ge (h : Op.bytesLess s.toList name.toList = false) : (Tr.cons s k r).atN name = 0 := by simp [Tr.atN, h]
theorem atIs_lt (h : Op.bytesLess s.toList name.toList = true) : (Tr.cons s k r).atIs name = r.atIs name := by unfold Tr.atIs; rw [atN_lt h]; rfl
theorem atIs_ge (h : Op.bytesLess s.toList name.toList = false) : (Tr.cons s k r).atIs name = (s.toList == name.toList) := by unfold Tr.atIs; rw [atN_ge h]; rfl
theorem withoutT_lt (h : Op.bytesLess s.toList name.toList = true) : withoutT (.cons s k r) name = .cons s k (withoutT r name) := by simp [withoutT, h]
theorem withoutT_eq (h : Op.bytesLess s.toList name.toList = false) (h2 : (s.toList == name.toList) = true) : withoutT (.cons s k r) name = r := by simp only [withoutT, h, h2]; simp
theorem withoutT_gt (h : Op.bytesLess s.toList name.toList = false) (h2 : (s.toList == name.toList) = false) : withoutT (.cons s k r) name = .cons s k r := by simp only [withoutT, h, h2]; simp
end
/-- Names held against each other. -/
theorem cases3 (s name : ByteArray) : Op.bytesLess s.toList name.toList = true ∨ (Op.bytesLess s.toList name.toList = false ∧ (s.toList == name.toList) = true) ∨ (Op.bytesLess s.toList name.toList = false ∧ (s.toList == name.toList) = false ∧ Op.bytesLess name.toList s.toList = true) := by
  cases h : Op.bytesLess s.toList name.toList with
  | true => exact .inl rfl
  | false =>
    right
    cases h2 : (s.toList == name.toList) with
    | true => exact .inl ⟨rfl, rfl⟩
    | false =>
      refine .inr ⟨rfl, rfl, ?_⟩
      rcases not_lt h with h3 | ⟨_, h3⟩
      · exact h3
      · have := beq_iff_eq.1 h3
        rw [this, beq_self_eq_true] at h2
        cases h2
theorem names_of_eq {s name : ByteArray} (h : (s.toList == name.toList) = true) : s = name := bytes_eq (beq_iff_eq.1 h)
theorem self_not_lt (s : ByteArray) : Op.bytesLess s.toList s.toList = false := by
  cases h : Op.bytesLess s.toList s.toList with
  | false => rfl
  | true => exact absurd ((less_iff _ _).1 h) (List.lt_irrefl _)
theorem self_eq (s : ByteArray) : (s.toList == s.toList) = true := beq_self_eq_true _

theorem kidT_not : ∀ {t : Tr} {name : ByteArray}, t.atIs name = false → kidT t name = .nil
  | .nil, _, _ => rfl
  | .cons s k r, name, h => by
    rcases cases3 s name with h1 | ⟨h1, h2⟩ | ⟨h1, h2, _⟩
    · rw [kidT_lt h1]; exact kidT_not (by rw [← h, atIs_lt h1])
    · rw [atIs_ge h1, h2] at h; cases h
    · exact kidT_gt h1 h2
theorem kidT_size : ∀ (t : Tr) (name : ByteArray), (kidT t name).size ≤ t.size
  | .nil, _ => Nat.le_refl _
  | .cons s k r, name => by
    simp only [Tr.size]
    rcases cases3 s name with h1 | ⟨h1, h2⟩ | ⟨h1, h2, _⟩
    · rw [kidT_lt h1]; have := kidT_size r name; omega
    · rw [kidT_eq h1 h2]; omega
    · rw [kidT_gt h1 h2]; simp [Tr.size]
theorem kidT_asc : ∀ {t : Tr} {name : ByteArray}, AscD t → AscD (kidT t name)
  | .nil, _, _ => trivial
  | .cons s k r, name, ⟨_, h2, h3⟩ => by
    rcases cases3 s name with h1 | ⟨h1, h2'⟩ | ⟨h1, h2', _⟩
    · rw [kidT_lt h1]; exact kidT_asc h3
    · rw [kidT_eq h1 h2']; exact h2
    · rw [kidT_gt h1 h2']; trivial
theorem withT_ascD {name : ByteArray} {x : Tr} (hx : AscD x) : ∀ {t : Tr}, AscD t → AscD (t.withT name x)
  | .nil, _ => ⟨by have := withT_asc (name := name) (x := x) nil_asc; exact this, hx, trivial⟩
  | .cons s k r, ⟨h1, h2, h3⟩ => by
    have ha := withT_asc (name := name) (x := x) h1
    rcases cases3 s name with c1 | ⟨c1, c2⟩ | ⟨c1, c2, _⟩
    · rw [withT_lt c1] at ha ⊢; exact ⟨ha, h2, withT_ascD hx h3⟩
    · rw [withT_eq c1 c2] at ha ⊢; exact ⟨ha, hx, h3⟩
    · rw [withT_gt c1 c2] at ha ⊢; exact ⟨ha, hx, h1, h2, h3⟩
theorem putT_ascD {x : Tr} (hx : AscD x) : ∀ {ps : List ByteArray} {t : Tr}, AscD t → AscD (putT t ps x)
  | [], _, _ => hx
  | _ :: _, _, h => withT_ascD (putT_ascD hx (kidT_asc h)) h
theorem withoutT_mem {name : ByteArray} {y : List UInt8} : ∀ {t : Tr}, y ∈ (withoutT t name).bn → y ∈ t.bn
  | .nil, h => h
  | .cons s k r, h => by
    rcases cases3 s name with c1 | ⟨c1, c2⟩ | ⟨c1, c2, _⟩
    · rw [withoutT_lt c1, bn_cons, List.mem_cons] at h
      rw [bn_cons, List.mem_cons]
      exact h.imp id withoutT_mem
    · rw [withoutT_eq c1 c2] at h
      rw [bn_cons, List.mem_cons]
      exact .inr h
    · rw [withoutT_gt c1 c2] at h; exact h
theorem withoutT_ascD {name : ByteArray} : ∀ {t : Tr}, AscD t → AscD (withoutT t name)
  | .nil, _ => trivial
  | .cons s k r, ⟨h1, h2, h3⟩ => by
    rcases cases3 s name with c1 | ⟨c1, c2⟩ | ⟨c1, c2, _⟩
    · rw [withoutT_lt c1]
      refine ⟨?_, h2, withoutT_ascD h3⟩
      unfold Tr.Asc at h1 ⊢
      rw [bn_cons, List.pairwise_cons] at h1 ⊢
      exact ⟨fun y hy => h1.1 y (withoutT_mem hy), (withoutT_ascD h3).asc⟩
    · rw [withoutT_eq c1 c2]; exact h3
    · rw [withoutT_gt c1 c2]; exact ⟨h1, h2, h3⟩
theorem dropP_ascD : ∀ {ps : List ByteArray} {t : Tr}, AscD t → AscD (dropP t ps)
  | [], _, _ => trivial
  | [p], t, h => by
    unfold dropP
    split
    · exact withoutT_ascD h
    · exact h
  | p :: q :: ps, t, h => by
    unfold dropP
    split
    · exact withT_ascD (dropP_ascD (kidT_asc h)) h
    · exact h

/-! What is put at a name is found there; nothing else is another one. -/
theorem with_is {name : ByteArray} {x : Tr} : ∀ {t : Tr}, (t.withT name x).atIs name = true ∧ kidT (t.withT name x) name = x
  | .nil => by
    show (Tr.cons name x .nil).atIs name = true ∧ kidT (.cons name x .nil) name = x
    rw [atIs_ge (self_not_lt name), kidT_eq (self_not_lt name) (self_eq name)]
    exact ⟨self_eq name, rfl⟩
  | .cons s k r => by
    rcases cases3 s name with c1 | ⟨c1, c2⟩ | ⟨c1, c2, _⟩
    · rw [withT_lt c1, atIs_lt c1, kidT_lt c1]; exact with_is
    · rw [withT_eq c1 c2, atIs_ge (self_not_lt name), kidT_eq (self_not_lt name) (self_eq name)]; exact ⟨self_eq name, rfl⟩
    · rw [withT_gt c1 c2, atIs_ge (self_not_lt name), kidT_eq (self_not_lt name) (self_eq name)]; exact ⟨self_eq name, rfl⟩
theorem lt_trans' {a b c : ByteArray} (h : Op.bytesLess a.toList b.toList = true) (k : Op.bytesLess b.toList c.toList = true) : Op.bytesLess a.toList c.toList = true :=
  (less_iff _ _).2 (List.lt_trans ((less_iff _ _).1 h) ((less_iff _ _).1 k))
theorem with_other {name q : ByteArray} {x : Tr} (hne : (name.toList == q.toList) = false) : ∀ {t : Tr}, t.Asc → (t.withT name x).atIs q = t.atIs q ∧ kidT (t.withT name x) q = kidT t q
  | .nil, _ => by
    show (Tr.cons name x .nil).atIs q = _ ∧ kidT (.cons name x .nil) q = _
    rcases cases3 name q with c1 | ⟨c1, c2⟩ | ⟨c1, c2, _⟩
    · rw [atIs_lt c1, kidT_lt c1]; exact ⟨rfl, rfl⟩
    · rw [c2] at hne; cases hne
    · rw [atIs_ge c1, kidT_gt c1 c2, c2]; exact ⟨rfl, rfl⟩
  | .cons s k r, ha => by
    have ha' := ha
    unfold Tr.Asc at ha'
    rw [bn_cons, List.pairwise_cons] at ha'
    rcases cases3 s name with c1 | ⟨c1, c2⟩ | ⟨c1, c2, c3⟩
    · rw [withT_lt c1]
      rcases cases3 s q with d1 | ⟨d1, d2⟩ | ⟨d1, d2, _⟩
      · rw [atIs_lt d1, atIs_lt d1, kidT_lt d1, kidT_lt d1]; exact with_other hne (t := r) ha'.2
      · rw [atIs_ge d1, atIs_ge d1, kidT_eq d1 d2, kidT_eq d1 d2]; exact ⟨rfl, rfl⟩
      · rw [atIs_ge d1, atIs_ge d1, kidT_gt d1 d2, kidT_gt d1 d2]; exact ⟨rfl, rfl⟩
    · have e := names_of_eq c2
      subst e
      rw [withT_eq c1 c2]
      rcases cases3 s q with d1 | ⟨d1, d2⟩ | ⟨d1, d2, _⟩
      · rw [atIs_lt d1, atIs_lt d1, kidT_lt d1, kidT_lt d1]; exact ⟨rfl, rfl⟩
      · rw [d2] at hne; cases hne
      · rw [atIs_ge d1, atIs_ge d1, kidT_gt d1 d2, kidT_gt d1 d2]; exact ⟨rfl, rfl⟩
    · rw [withT_gt c1 c2]
      rcases cases3 name q with d1 | ⟨d1, d2⟩ | ⟨d1, d2, d3⟩
      · rw [atIs_lt d1, kidT_lt d1]; exact ⟨rfl, rfl⟩
      · rw [d2] at hne; cases hne
      · have d4 := lt_trans' d3 c3
        obtain ⟨d5, d6⟩ := lt_not d4
        rw [atIs_ge d1, kidT_gt d1 d2, d2, atIs_ge d5, d6, kidT_gt d5 d6]; exact ⟨rfl, rfl⟩
theorem get_put {x : Tr} : ∀ (ps : List ByteArray) (t : Tr), getT (putT t ps x) ps = (x, true)
  | [], _ => rfl
  | p :: ps, t => by
    rw [putT, getT, if_pos with_is.1, with_is.2]
    exact get_put ps _
theorem get_apart {x : Tr} {p q : ByteArray} {ps qs : List ByteArray} {t : Tr} (ha : t.Asc) (hne : (p.toList == q.toList) = false) : getT (putT t (p :: ps) x) (q :: qs) = getT t (q :: qs) := by
  obtain ⟨h1, h2⟩ := with_other (x := putT (kidT t p) ps x) hne ha
  rw [putT, getT, getT, h1, h2]
theorem with_with {name : ByteArray} {x y : Tr} : ∀ {t : Tr}, (t.withT name x).withT name y = t.withT name y
  | .nil => by
    show (Tr.cons name x .nil).withT name y = Tr.cons name y .nil
    rw [withT_eq (self_not_lt name) (self_eq name)]
  | .cons s k r => by
    rcases cases3 s name with c1 | ⟨c1, c2⟩ | ⟨c1, c2, _⟩
    · rw [withT_lt c1, withT_lt c1, withT_lt c1, with_with]
    · rw [withT_eq c1 c2, withT_eq c1 c2, withT_eq (self_not_lt name) (self_eq name)]
    · rw [withT_gt c1 c2, withT_gt c1 c2, withT_eq (self_not_lt name) (self_eq name)]
/-- Without what was just put. -/
theorem without_with {name : ByteArray} {x : Tr} : ∀ {t : Tr}, t.Asc → (withoutT (t.withT name x) name).atIs name = false ∧ (withoutT (t.withT name x) name).withT name x = t.withT name x
  | .nil, _ => by
    show (withoutT (Tr.cons name x .nil) name).atIs name = false ∧ (withoutT (Tr.cons name x .nil) name).withT name x = Tr.cons name x .nil
    rw [withoutT_eq (self_not_lt name) (self_eq name)]
    exact ⟨rfl, rfl⟩
  | .cons s k r, ha => by
    have ha' := ha
    unfold Tr.Asc at ha'
    rw [bn_cons, List.pairwise_cons] at ha'
    -- what stands behind is behind the name
    have hb : ∀ (r : Tr), (∀ y ∈ r.bn, name.data.toList < y) → r.atIs name = false ∧ r.withT name x = .cons name x r := by
      intro r hr
      cases r with
      | nil => exact ⟨rfl, rfl⟩
      | cons s2 k2 r2 =>
        have h1 := (less_iff name s2).2 (hr s2.data.toList (by rw [bn_cons]; exact List.mem_cons_self))
        obtain ⟨h2, h3⟩ := lt_not h1
        rw [atIs_ge h2, h3, withT_gt h2 h3]
        exact ⟨rfl, rfl⟩
    rcases cases3 s name with c1 | ⟨c1, c2⟩ | ⟨c1, c2, c3⟩
    · obtain ⟨h1, h2⟩ := without_with (name := name) (x := x) (t := r) ha'.2
      rw [withT_lt c1, withoutT_lt c1, atIs_lt c1, withT_lt c1, h2]
      exact ⟨h1, rfl⟩
    · have e := names_of_eq c2
      subst e
      rw [withT_eq c1 c2, withoutT_eq c1 c2]
      exact hb r ha'.1
    · rw [withT_gt c1 c2, withoutT_eq (self_not_lt name) (self_eq name)]
      refine hb _ fun y hy => ?_
      rw [bn_cons, List.mem_cons] at hy
      rcases hy with rfl | hy
      · exact (less_iff _ _).1 c3
      · exact List.lt_trans ((less_iff _ _).1 c3) (ha'.1 y hy)
theorem drop_put {x : Tr} : ∀ (ps : List ByteArray) (t : Tr), ps ≠ [] → AscD t → (getT (dropP (putT t ps x) ps) ps).2 = false ∧ putT (dropP (putT t ps x) ps) ps x = putT t ps x ∧ dropP (dropP (putT t ps x) ps) ps = dropP (putT t ps x) ps
  | [], _, h, _ => absurd rfl h
  | [p], t, _, ha => by
    obtain ⟨h1, h2⟩ := without_with (name := p) (x := x) ha.asc
    have e : dropP (putT t [p] x) [p] = withoutT (t.withT p x) p := by
      rw [show putT t [p] x = t.withT p x from rfl, dropP, if_pos with_is.1]
    rw [e]
    refine ⟨?_, ?_, ?_⟩
    · rw [getT, if_neg (by rw [h1]; simp)]
    · rw [show putT (withoutT (t.withT p x) p) [p] x = (withoutT (t.withT p x) p).withT p x from rfl, h2]
      rfl
    · rw [dropP, if_neg (by rw [h1]; simp)]
  | p :: q :: ps, t, _, ha => by
    obtain ⟨h1, h2, h3⟩ := drop_put (x := x) (q :: ps) (kidT t p) (by simp) (kidT_asc ha)
    have e : dropP (putT t (p :: q :: ps) x) (p :: q :: ps) = t.withT p (dropP (putT (kidT t p) (q :: ps) x) (q :: ps)) := by
      rw [putT, dropP, if_pos with_is.1, with_is.2, with_with]
    rw [e]
    refine ⟨?_, ?_, ?_⟩
    · rw [getT, if_pos with_is.1, with_is.2]; exact h1
    · rw [putT, with_is.2, with_with, h2, ← putT]
    · rw [dropP, if_pos with_is.1, with_is.2, with_with, h3]
end Go.Proofs.Ytkhjpmefekonhaa.Pt

namespace Go.Proofs.Ytkhjpmefekonhaa.Pt
open Go.RowKit Go.Proofs.Ytkhjpmefekonhaa.Jd Go.Proofs.Ytkhjpmefekonhaa.Cl
set_option maxRecDepth 100000

def insAt : Tr → Nat → ByteArray → Tr
  | t, 0, name => .cons name .nil t
  | .nil, _ + 1, name => .cons name .nil .nil
  | .cons s k r, i + 1, name => .cons s k (insAt r i name)
def delAt : Tr → Nat → Tr
  | .nil, _ => .nil
  | .cons _ _ r, 0 => r
  | .cons s k r, i + 1 => .cons s k (delAt r i)
theorem insAt_zero (t : Tr) (name : ByteArray) : insAt t 0 name = .cons name .nil t := by cases t <;> rfl
theorem ins_with {name : ByteArray} {y : Tr} : ∀ {t : Tr}, t.atIs name = false → t.withT name y = setT (insAt t (t.atN name) name) (t.atN name) y ∧ (insAt t (t.atN name) name).dropT (t.atN name) = .cons name .nil (t.dropT (t.atN name)) ∧ kidT t name = .nil
  | .nil, _ => ⟨rfl, rfl, rfl⟩
  | .cons s k r, h => by
    rcases cases3 s name with c1 | ⟨c1, c2⟩ | ⟨c1, c2, _⟩
    · rw [atIs_lt c1] at h
      obtain ⟨h1, h2, h3⟩ := ins_with (y := y) h
      rw [withT_lt c1, atN_lt c1, h1, kidT_lt c1]
      exact ⟨rfl, h2, h3⟩
    · rw [atIs_ge c1, c2] at h; cases h
    · rw [withT_gt c1 c2, atN_ge c1, kidT_gt c1 c2, insAt_zero, dropT_zero, dropT_zero]
      exact ⟨rfl, rfl, rfl⟩
theorem set_with {name : ByteArray} {y : Tr} : ∀ {t : Tr}, t.atIs name = true → t.withT name y = setT t (t.atN name) y ∧ (∃ r, t.dropT (t.atN name) = .cons name (kidT t name) r) ∧ withoutT t name = delAt t (t.atN name)
  | .nil, h => by simp [Tr.atIs, Tr.atN, dropT_zero, Tr.headIs] at h
  | .cons s k r, h => by
    rcases cases3 s name with c1 | ⟨c1, c2⟩ | ⟨c1, c2, _⟩
    · rw [atIs_lt c1] at h
      obtain ⟨h1, ⟨r', h2⟩, h3⟩ := set_with (y := y) h
      rw [withT_lt c1, atN_lt c1, h1, kidT_lt c1, withoutT_lt c1, h3]
      exact ⟨rfl, ⟨r', h2⟩, rfl⟩
    · have e := names_of_eq c2
      subst e
      rw [withT_eq c1 c2, atN_ge c1, kidT_eq c1 c2, withoutT_eq c1 c2]
      exact ⟨rfl, ⟨r, by rw [dropT_zero]⟩, rfl⟩
    · rw [atIs_ge c1, c2] at h; cases h
theorem insAt_len : ∀ (t : Tr) (i : Nat) (name : ByteArray), (insAt t i name).len = t.len + 1
  | t, 0, name => by rw [insAt_zero]; rfl
  | .nil, i + 1, name => rfl
  | .cons s k r, i + 1, name => by simp only [insAt, Tr.len, insAt_len r i name]
theorem delAt_len : ∀ (t : Tr) (i : Nat), i < t.len → (delAt t i).len + 1 = t.len
  | .nil, _, h => by simp [Tr.len] at h
  | .cons _ _ r, 0, _ => rfl
  | .cons s k r, i + 1, h => by
    simp only [Tr.len] at h
    have := delAt_len r i (by omega)
    simp only [delAt, Tr.len]; omega

theorem RowC.less {w : World} {base base' d c : Nat} (h : RowC w base d c) (hb : base' ≤ base) : RowC w base' d c := ⟨Nat.le_trans hb h.1, h.2⟩
theorem OwnR.less {w : World} {base base' : Nat} (hb : base' ≤ base) : ∀ {t : Tr} {b o : Nat} {bs : List Nat}, OwnR w base b o t bs → OwnR w base' b o t bs
  | .nil, _, _, _, h => h
  | .cons s k r, b, o, _, ⟨A', n', c', b1, b2, e, hs, hc, hn, hm, hl, h1, h2⟩ => by
    refine ⟨A', n', c', b1, b2, e, hs, hc, hn, hm, hl, ?_, OwnR.less hb h2⟩
    rcases h1 with h1 | ⟨d', b3, e1, e, h3, h4⟩
    · exact .inl h1
    · exact .inr ⟨d', b3, e1, e, RowC.less h3 hb, OwnR.less hb h4⟩
theorem OwnL.less {w : World} {base base' n c : Nat} {A : Option Addr} {t : Tr} {bs : List Nat} (h : OwnL w base A n c t bs) (hb : base' ≤ base) : OwnL w base' A n c t bs := by
  refine ⟨h.1, ?_⟩
  rcases h.2 with h1 | ⟨d', b3, e1, e, h3, h4⟩
  · exact .inl h1
  · exact .inr ⟨d', b3, e1, e, RowC.less h3 hb, OwnR.less hb h4⟩
theorem OwnR.holdsP {w : World} {base : Nat} {P : Nat → Prop} : ∀ {t : Tr} {b o : Nat} {bs : List Nat}, OwnR w base b o t bs → P b → (∀ d ∈ bs, P d) → HoldsP w P (some ⟨b, o, none⟩) t.len t
  | .nil, _, _, _, _, _, _ => rfl
  | .cons s k r, b, o, _, ⟨A', n', c', b1, b2, e, hs, hc, hn, hm, hl, h1, h2⟩, hb, hB => by
    subst e
    refine ⟨b, o, rfl, hb, hs, ⟨A', n', c', hc, hn, hm, ?_⟩, r.len, rfl, OwnR.holdsP h2 hb (fun d hd => hB d (List.mem_append.2 (.inr hd)))⟩
    rcases h1 with ⟨_, _, _, e⟩ | ⟨d', b3, e1, e, h3, h4⟩
    · subst e
      exact hl
    · subst e; subst e1
      rw [hl]
      exact OwnR.holdsP h4 (hB d' (by simp)) (fun d hd => hB d (by simp [hd]))
theorem OwnL.holdsP {w : World} {base n c : Nat} {P : Nat → Prop} {A : Option Addr} {t : Tr} {bs : List Nat} (h : OwnL w base A n c t bs) (hB : ∀ d ∈ bs, P d) : HoldsP w P A n t := by
  obtain ⟨hl, h1⟩ := h
  rcases h1 with ⟨_, _, _, e⟩ | ⟨d', b3, e1, e, h3, h4⟩
  · subst e
    exact hl
  · subst e; subst e1
    rw [hl]
    exact OwnR.holdsP h4 (hB d' (by simp)) (fun d hd => hB d (by simp [hd]))

/-- The cells of such a row. -/
def OwnC (w : World) (base : Nat) : List Value → Tr → List Nat → Prop
  | [], .nil, bs => bs = []
  | .string s :: .slice A n c :: vs, .cons s' k r, bs => s = s' ∧ ∃ b1 b2, bs = b1 ++ b2 ∧ n ≤ c ∧ c ≤ maxLen ∧ OwnL w base A n c k b1 ∧ OwnC w base vs r b2
  | _, _, _ => False
section
variable {w w' : World} {base : Nat}
theorem OwnC.keep : ∀ {vs : List Value} {t : Tr} {bs : List Nat}, OwnC w base vs t bs → (∀ d ∈ bs, w'.heap[d]? = w.heap[d]?) → OwnC w' base vs t bs
  | [], .nil, _, h, _ => h
  | .string _ :: .slice _ _ _ :: _, .cons _ _ _, _, ⟨h1, b1, b2, e, h2, h3, h4, h5⟩, hk => by
    subst e
    exact ⟨h1, b1, b2, rfl, h2, h3, h4.keep (fun d hd => hk d (List.mem_append.2 (.inl hd))), OwnC.keep h5 (fun d hd => hk d (List.mem_append.2 (.inr hd)))⟩
theorem OwnC.length : ∀ {vs : List Value} {t : Tr} {bs : List Nat}, OwnC w base vs t bs → vs.length = t.len * 2
  | [], .nil, _, _ => rfl
  | .string _ :: .slice _ _ _ :: _, .cons _ _ _, _, ⟨_, _, _, _, _, _, _, h5⟩ => by
    have := OwnC.length h5
    simp only [List.length_cons, Tr.len]
    omega
theorem OwnC.one : ∀ {vs : List Value} {t : Tr} {bs : List Nat}, OwnC w base vs t bs → ∀ v ∈ vs, v.oneCell' = true
  | [], .nil, _, _, v, hv => by cases hv
  | .string _ :: .slice _ _ _ :: _, .cons _ _ _, _, ⟨_, _, _, _, _, _, _, h5⟩, v, hv => by
    simp only [List.mem_cons] at hv
    rcases hv with rfl | rfl | hv
    · rfl
    · rfl
    · exact OwnC.one h5 v hv
theorem OwnR.cells : ∀ {t : Tr} {b o : Nat} {bs : List Nat}, OwnR w base b o t bs → ∃ vs, (∀ j u, vs[j]? = some u → w.cell? ⟨b, o + j, none⟩ = some u) ∧ OwnC w base vs t bs
  | .nil, _, _, _, h => ⟨[], fun j u hu => by simp at hu, h⟩
  | .cons s k r, b, o, _, ⟨A', n', c', b1, b2, e, hs, hc, hn, hm, hl, h1, h2⟩ => by
    obtain ⟨vs, hv, ho⟩ := OwnR.cells h2
    refine ⟨.string s :: .slice A' n' c' :: vs, fun j u hu => ?_, rfl, b1, b2, e, hn, hm, ⟨hl, h1⟩, ho⟩
    match j, hu with
    | 0, hu => simp at hu; subst hu; exact hs
    | 1, hu => simp at hu; subst hu; exact hc
    | j + 2, hu =>
      have := hv j u (by simpa using hu)
      rw [show o + (j + 2) = o + 2 + j by omega]
      exact this
theorem OwnC.row : ∀ {vs : List Value} {t : Tr} {bs : List Nat} {b o : Nat}, OwnC w base vs t bs → (∀ j u, vs[j]? = some u → w.cell? ⟨b, o + j, none⟩ = some u) → OwnR w base b o t bs
  | [], .nil, _, _, _, h, _ => h
  | .string s :: .slice A n c :: vs, .cons s' k r, _, b, o, ⟨h1, b1, b2, e, h2, h3, h4, h5⟩, hc => by
    subst h1
    refine ⟨A, n, c, b1, b2, e, by have := hc 0 _ rfl; simpa using this, hc 1 _ rfl, h2, h3, h4.1, h4.2, OwnC.row h5 fun j u hu => ?_⟩
    have := hc (j + 2) u (by simpa using hu)
    rw [show o + 2 + j = o + (j + 2) by omega]
    exact this
theorem OwnC.ins {name : ByteArray} : ∀ {vs : List Value} {t : Tr} {bs : List Nat} (i : Nat), OwnC w base vs t bs → i ≤ t.len → OwnC w base (vs.take (i * 2) ++ ([.string name, .slice none 0 0] ++ vs.drop (i * 2))) (insAt t i name) bs
  | vs, t, bs, 0, h, _ => by
    rw [insAt_zero]
    simp only [Nat.zero_mul, List.take_zero, List.drop_zero, List.nil_append]
    exact ⟨rfl, [], bs, rfl, Nat.le_refl _, Nat.zero_le _, ⟨rfl, .inl ⟨rfl, rfl, rfl, rfl⟩⟩, h⟩
  | [], .nil, _, i + 1, _, hi => by simp [Tr.len] at hi
  | .string s :: .slice A n c :: vs, .cons s' k r, _, i + 1, ⟨h1, b1, b2, e, h2, h3, h4, h5⟩, hi => by
    have := OwnC.ins (name := name) i h5 (by simp only [Tr.len] at hi; omega)
    rw [show (i + 1) * 2 = i * 2 + 1 + 1 by omega]
    exact ⟨h1, b1, b2, e, h2, h3, h4, this⟩
theorem OwnC.del : ∀ {vs : List Value} {t : Tr} {bs : List Nat} (i : Nat), OwnC w base vs t bs → i < t.len → ∃ x b1 y, bs = x ++ (b1 ++ y) ∧ OwnC w base (vs.take (i * 2) ++ vs.drop ((i + 1) * 2)) (delAt t i) (x ++ y)
  | [], .nil, _, _, _, hi => by simp [Tr.len] at hi
  | .string s :: .slice A n c :: vs, .cons s' k r, _, 0, ⟨_, b1, b2, e, _, _, _, h5⟩, _ => ⟨[], b1, b2, by simpa using e, by simpa [delAt] using h5⟩
  | .string s :: .slice A n c :: vs, .cons s' k r, _, i + 1, ⟨h1, b1, b2, e, h2, h3, h4, h5⟩, hi => by
    obtain ⟨x, b3, y, e2, h6⟩ := OwnC.del i h5 (by simp only [Tr.len] at hi; omega)
    subst e2
    refine ⟨b1 ++ x, b3, y, by rw [e]; simp, ?_⟩
    rw [show (i + 1) * 2 = i * 2 + 1 + 1 by omega, show (i + 1 + 1) * 2 = (i + 1) * 2 + 1 + 1 by omega]
    exact ⟨h1, b1, x ++ y, by simp, h2, h3, h4, h6⟩
end
/-- As what Insert and Delete ask. -/
theorem OwnL.slice {w : World} {base n c : Nat} {A : Option Addr} {t : Tr} {bs : List Nat} (h : OwnL w base A n c t bs) (hn : n ≤ c) (hm : c ≤ maxLen) :
    ∃ vs rest, w.ownsRow base 32 2 (.slice A n c) n vs ∧ OwnC w base vs t rest ∧ ((A = none ∧ bs = [] ∧ rest = []) ∨ ∃ d, A = some ⟨d, 0, none⟩ ∧ bs = d :: rest) := by
  obtain ⟨hl, h1⟩ := h
  rcases h1 with ⟨e1, e2, e3, e4⟩ | ⟨d, b3, e1, e2, ⟨h0, cur, h3, h4⟩, h5⟩
  · subst e1; subst e2; subst e3; subst e4
    have e : n = 0 := hl
    subst e
    exact ⟨[], [], World.ownsRow_nil w base _ _, rfl, .inl ⟨rfl, rfl, rfl⟩⟩
  · subst e1; subst e2
    obtain ⟨vs, hc, ho⟩ := OwnR.cells h5
    have hvl := ho.length
    refine ⟨vs, b3, ⟨by rw [hvl, hl], .inr ⟨d, c, cur, rfl, h0, h3, hn, hm, h4, ?_⟩⟩, ho, .inr ⟨d, rfl, rfl⟩⟩
    have hle : n * 2 ≤ c * 2 := Nat.mul_le_mul_right _ hn
    apply List.ext_getElem?
    intro j
    by_cases hj : j < n * 2
    · rw [List.getElem?_take_of_lt hj, Array.getElem?_toList]
      have hj2 : j < vs.length := by rw [hvl, ← hl]; exact hj
      rw [List.getElem?_eq_getElem hj2]
      have := hc j _ (List.getElem?_eq_getElem hj2)
      rw [Nat.zero_add, cell_of_row w d j cur _ _ h3] at this
      exact this
    · rw [List.getElem?_eq_none (by rw [List.length_take]; omega), List.getElem?_eq_none (by rw [hvl, ← hl]; omega)]
/-- And back. -/
theorem OwnL.of_slice {w : World} {base n c : Nat} {A : Option Addr} {t : Tr} {vs : List Value} {rest : List Nat} (ho : w.ownsRow base 32 2 (.slice A n c) n vs) (hc : OwnC w base vs t rest) :
    ∃ bs, OwnL w base A n c t bs ∧ ((A = none ∧ bs = [] ∧ rest = []) ∨ ∃ d, A = some ⟨d, 0, none⟩ ∧ bs = d :: rest) := by
  have hvl := hc.length
  have h1 := ho.1
  have hn : n = t.len := by omega
  rcases ho.2 with ⟨e1, e2⟩ | ⟨g, cap, cur, e1, hg, hh, hcap, hmx, hsz, htk⟩
  · injection e1 with a1 a2 a3
    subst a1; subst a3
    cases t with
    | nil =>
      cases vs with
      | nil =>
        have e : rest = [] := hc
        exact ⟨[], ⟨hn, .inl ⟨rfl, rfl, rfl, rfl⟩⟩, .inl ⟨rfl, rfl, e⟩⟩
      | cons v vs => simp [Tr.len] at hvl
    | cons s k r => simp [Tr.len] at hn; omega
  · injection e1 with a1 a2 a3
    subst a1; subst a3
    refine ⟨g :: rest, ⟨hn, .inr ⟨g, rest, rfl, rfl, ⟨hg, cur, hh, hsz⟩, hc.row fun j u hu => ?_⟩⟩, .inr ⟨g, rfl, rfl⟩⟩
    have := rowCells ho j u hu
    rw [Addr.add_lit] at this
    exact this
end Go.Proofs.Ytkhjpmefekonhaa.Pt

namespace Go.Proofs.Ytkhjpmefekonhaa.Pt
open Go.RowKit Go.Proofs.Ytkhjpmefekonhaa.Jd Go.Proofs.Ytkhjpmefekonhaa.Cl
set_option maxRecDepth 100000

/-- Block pb lies as it lay but for its cell po. -/
def Same1 (W w' : World) (pb po : Nat) : Prop :=
  ∀ cur E, W.heap[pb]? = some (.cells cur E (0, 0)) → ∃ cur', w'.heap[pb]? = some (.cells cur' E (0, 0)) ∧ cur'.size = cur.size ∧ ∀ q, q ≠ po → cur'[q]? = cur[q]?
theorem Same1.of_eq {W w' : World} {pb po : Nat} (h : w'.heap[pb]? = W.heap[pb]?) : Same1 W w' pb po := fun cur _ hc => ⟨cur, h.trans hc, rfl, fun _ _ => rfl⟩
theorem Same1.trans {W w' w'' : World} {pb po : Nat} (h : Same1 W w' pb po) (k : Same1 w' w'' pb po) : Same1 W w'' pb po := fun cur E hc => by
  obtain ⟨c1, h1, h2, h3⟩ := h cur E hc
  obtain ⟨c2, k1, k2, k3⟩ := k c1 E h1
  exact ⟨c2, k1, k2.trans h2, fun q hq => (k3 q hq).trans (h3 q hq)⟩
theorem Same1.set (W : World) (pb po : Nat) (v : Value) : Same1 W (W.setCell ⟨pb, po, none⟩ v) pb po := fun cur E hc =>
  ⟨_, heap_setCell_same W pb po cur E v hc, by simp, fun q hq => Array.getElem?_setIfInBounds_ne (fun e => hq e.symm)⟩
theorem Same1.cell {W w' : World} {pb po : Nat} (h : Same1 W w' pb po) {cur : Array Value} {E : TypeId} (hc : W.heap[pb]? = some (.cells cur E (0, 0))) {q : Nat} (hq : q ≠ po) : w'.cell? ⟨pb, q, none⟩ = W.cell? ⟨pb, q, none⟩ := by
  obtain ⟨c1, h1, _, h3⟩ := h cur E hc
  rw [cell_of_row _ _ _ _ _ _ h1, cell_of_row _ _ _ _ _ _ hc, h3 q hq]

structure Hole (W : World) (base g pb po : Nat) (A : Option Addr) (n c : Nat) (u : Tr) (b1 S : List Nat) (whole : Tr → Tr) : Prop where
  blk : ∃ cur E, W.heap[pb]? = some (.cells cur E (0, 0))
  at_ : W.cell? ⟨pb, po, none⟩ = some (.slice A n c)
  cap : n ≤ c ∧ c ≤ maxLen
  own : OwnL W base A n c u b1
  nodup : (pb :: (b1 ++ S)).Nodup
  le : base ≤ pb ∧ (∀ d ∈ S, d < W.heap.size) ∧ base ≤ W.heap.size
  back : ∀ (w' : World) (A2 : Option Addr) (n2 c2 : Nat) (u2 : Tr) (b2 : List Nat), Same1 W w' pb po → w'.cell? ⟨pb, po, none⟩ = some (.slice A2 n2 c2) → n2 ≤ c2 → c2 ≤ maxLen → OwnL w' base A2 n2 c2 u2 b2 → (∀ d ∈ S, w'.heap[d]? = W.heap[d]?) →
    ∃ A3 n3 c3 b3, w'.cell? ⟨g, 0, none⟩ = some (.slice A3 n3 c3) ∧ n3 ≤ c3 ∧ c3 ≤ maxLen ∧ OwnL w' base A3 n3 c3 (whole u2) b3

section
variable {W w' w1 : World} {base g pb po n c : Nat} {A : Option Addr} {u : Tr} {b1 S : List Nat} {whole : Tr → Tr}
theorem Hole.lt (h : Hole W base g pb po A n c u b1 S whole) : pb < W.heap.size := by
  obtain ⟨cur, E, hc⟩ := h.blk
  exact (Array.getElem?_eq_some_iff.1 hc).1
theorem Hole.rows (h : Hole W base g pb po A n c u b1 S whole) : ∀ d ∈ b1, d < W.heap.size := fun d hd => (h.own.rows d hd).lt
theorem Hole.fro (h : Hole W base g pb po A n c u b1 S whole) : W.frozen? ⟨pb, po, none⟩ = false := by
  obtain ⟨cur, E, hc⟩ := h.blk
  simp [World.frozen?, hc]
theorem Hole.holds (h : Hole W base g pb po A n c u b1 S whole) : Holds W W.heap.size A n u := h.own.holds h.rows
theorem Hole.same (h : Hole W base g pb po A n c u b1 S whole) (hk : ∀ d, d < W.heap.size → w'.heap[d]? = W.heap[d]?) (hsz : W.heap.size ≤ w'.heap.size) : Hole w' base g pb po A n c u b1 S whole := by
  have hpb := hk pb h.lt
  obtain ⟨cur, E, hc⟩ := h.blk
  refine ⟨⟨cur, E, hpb.trans hc⟩, (World.cell?_of_block hpb).trans h.at_, h.cap, h.own.keep fun d hd => hk d (h.rows d hd), h.nodup, ⟨h.le.1, fun d hd => Nat.lt_of_lt_of_le (h.le.2.1 d hd) hsz, Nat.le_trans h.le.2.2 hsz⟩, ?_⟩
  intro w2 A2 n2 c2 u2 b2 h1 h2 h3 h4 h5 h6
  exact h.back w2 A2 n2 c2 u2 b2 ((Same1.of_eq hpb).trans h1) h2 h3 h4 h5 (fun d hd => (h6 d hd).trans (hk d (h.le.2.1 d hd)))
theorem Hole.below (h : Hole W base g pb po A n c u b1 S whole) (hb : Below W.heap.size W w') : Hole w' base g pb po A n c u b1 S whole := h.same (fun d hd => hb.block d hd) hb.size
theorem Hole.drewN (h : Hole W base g pb po A n c u b1 S whole) (q : Nat) : Hole (W.drewN q) base g pb po A n c u b1 S whole := h.same (fun _ _ => rfl) (Nat.le_refl _)

/-- The row that lies there gives way to another one. -/
theorem Hole.repl (h : Hole W base g pb po A n c u b1 S whole) {ws : List Value} {rest rest' : List Nat} {m c2 : Nat} {A2 : Option Addr} {u2 : Tr} (hb1 : (A = none ∧ b1 = [] ∧ rest = []) ∨ ∃ d, A = some ⟨d, 0, none⟩ ∧ b1 = d :: rest)
    (hsub : ∀ d ∈ rest', d ∈ rest) (hnd : rest'.Nodup) (ho : w1.ownsRow base 32 2 (.slice A2 m c2) m ws) (hc : OwnC W base ws u2 rest') (hg : W.grownBy w1 (Value.slice A n c).ownBlock)
    (hat : ∀ a, A2 = some a → W.heap.size ≤ a.block ∨ some a.block = (Value.slice A n c).ownBlock) :
    w1.cell? ⟨pb, po, none⟩ = some (.slice A n c) ∧ w1.frozen? ⟨pb, po, none⟩ = false ∧ ∃ b2, Hole (w1.setCell ⟨pb, po, none⟩ (.slice A2 m c2)) base g pb po A2 m c2 u2 b2 S whole := by
  obtain ⟨cur, E, hpb⟩ := h.blk
  have hnd0 := h.nodup
  rw [List.nodup_cons, List.nodup_append] at hnd0
  obtain ⟨hn1, hn2, hn3, hn4⟩ := hnd0
  have hpb1 : pb ∉ b1 := fun e => hn1 (List.mem_append.2 (.inl e))
  have hpbS : pb ∉ S := fun e => hn1 (List.mem_append.2 (.inr e))
  have hrest : ∀ d ∈ rest, d ∈ b1 ∧ some d ≠ (Value.slice A n c).ownBlock := by
    intro d hd
    rcases hb1 with ⟨_, _, e⟩ | ⟨d0, e1, e2⟩
    · rw [e] at hd; cases hd
    · subst e1
      rw [e2, List.nodup_cons] at hn2
      exact ⟨by rw [e2]; exact List.mem_cons_of_mem _ hd, fun e => by injection e with e; subst e; exact hn2.1 hd⟩
  have hownA : ∀ q, (Value.slice A n c).ownBlock = some q → q ∈ b1 := by
    intro q hq
    rcases hb1 with ⟨e1, _, _⟩ | ⟨d0, e1, e2⟩
    · rw [e1] at hq; cases hq
    · rw [e1] at hq
      injection hq with hq
      simp only at hq
      rw [e2, ← hq]
      exact List.mem_cons_self
  have hpbo : some pb ≠ (Value.slice A n c).ownBlock := fun e => hpb1 (hownA pb e.symm)
  have hpbw : w1.heap[pb]? = W.heap[pb]? := hg.block pb h.lt hpbo
  have hA2 : (Value.slice A2 m c2).ownBlock ≠ some pb := by
    intro e
    cases A2 with
    | none => cases e
    | some a =>
      have e : some a.block = some pb := e
      rcases hat a rfl with h1 | h1
      · injection e with e
        have := h.lt
        omega
      · rw [e] at h1
        exact hpbo h1
  have hkeep : ∀ d, d < W.heap.size → d ≠ pb → some d ≠ (Value.slice A n c).ownBlock → (w1.setCell ⟨pb, po, none⟩ (.slice A2 m c2)).heap[d]? = W.heap[d]? := fun d h1 h2 h3 =>
    (Below.heap_setCell w1 ⟨pb, po, none⟩ _ d h2).trans (hg.block d h1 h3)
  have hcw : OwnC (w1.setCell ⟨pb, po, none⟩ (.slice A2 m c2)) base ws u2 rest' := hc.keep fun d hd => hkeep d (h.rows d (hrest d (hsub d hd)).1) (fun e => hpb1 (e ▸ (hrest d (hsub d hd)).1)) (hrest d (hsub d hd)).2
  have how := ownsRow_setCell_other ho (a := ⟨pb, po, none⟩) hA2 (.slice A2 m c2)
  obtain ⟨b2, hown, hb2⟩ := OwnL.of_slice how hcw
  have hcap := own_cap how
  have hSk : ∀ d ∈ S, (w1.setCell ⟨pb, po, none⟩ (.slice A2 m c2)).heap[d]? = W.heap[d]? := fun d hd =>
    hkeep d (h.le.2.1 d hd) (fun e => hpbS (e ▸ hd)) (fun e => hn4 d (hownA d e.symm) d hd rfl)
  have hsz : W.heap.size ≤ (w1.setCell ⟨pb, po, none⟩ (.slice A2 m c2)).heap.size := by simp [World.setCell]; exact hg.size
  have hs1 : Same1 W (w1.setCell ⟨pb, po, none⟩ (.slice A2 m c2)) pb po := (Same1.of_eq hpbw).trans (Same1.set w1 pb po _)
  have hnew : ∀ d0, A2 = some ⟨d0, 0, none⟩ → d0 ∉ rest' ∧ d0 ∉ S ∧ d0 ≠ pb := by
    intro d0 e
    rcases hat _ e with h1 | h1
    · simp only at h1
      refine ⟨fun hd => ?_, fun hd => ?_, fun hd => ?_⟩
      · have := h.rows d0 (hrest d0 (hsub d0 hd)).1; omega
      · have := h.le.2.1 d0 hd; omega
      · have := h.lt; omega
    · simp only at h1
      exact ⟨fun hd => (hrest d0 (hsub d0 hd)).2 h1, fun hd => hn4 d0 (hownA d0 h1.symm) d0 hd rfl, fun hd => by subst hd; exact hpbo h1⟩
  refine ⟨(World.cell?_of_block hpbw).trans h.at_, by simp [World.frozen?, hpbw, hpb], b2, ⟨⟨_, E, heap_setCell_same w1 pb po cur E _ (hpbw.trans hpb)⟩, ?_, hcap, hown, ?_, ⟨h.le.1, fun d hd => Nat.lt_of_lt_of_le (h.le.2.1 d hd) hsz, Nat.le_trans h.le.2.2 hsz⟩, ?_⟩⟩
  · rw [cell_of_row _ _ _ _ _ _ (heap_setCell_same w1 pb po cur E _ (hpbw.trans hpb))]
    have := h.at_
    rw [cell_of_row _ _ _ _ _ _ hpb] at this
    have hl : po < cur.size := (Array.getElem?_eq_some_iff.1 this).1
    simp [hl]
  · rw [List.nodup_cons, List.nodup_append]
    have hr1 : ∀ d ∈ rest', d ≠ pb := fun d hd e => hpb1 (e ▸ (hrest d (hsub d hd)).1)
    have hr2 : ∀ d ∈ rest', d ∉ S := fun d hd e => hn4 d (hrest d (hsub d hd)).1 d e rfl
    rcases hb2 with ⟨_, e, e2⟩ | ⟨d0, e1, e2⟩
    · rw [e]
      exact ⟨fun hd => hpbS (by simpa using hd), List.nodup_nil, hn3, fun _ hd => by cases hd⟩
    · obtain ⟨x1, x2, x3⟩ := hnew d0 e1
      rw [e2]
      refine ⟨fun hd => ?_, List.nodup_cons.2 ⟨x1, hnd⟩, hn3, fun a ha b hb e => ?_⟩
      · rcases List.mem_append.1 hd with hd | hd
        · rcases List.mem_cons.1 hd with hd | hd
          · exact x3 hd.symm
          · exact hr1 pb hd rfl
        · exact hpbS hd
      · subst e
        rcases List.mem_cons.1 ha with hd | hd
        · subst hd; exact x2 hb
        · exact hr2 a hd hb
  · intro w2 A3 n3 c3 u3 b3 h1 h2 h3 h4 h5 h6
    exact h.back w2 A3 n3 c3 u3 b3 (hs1.trans h1) h2 h3 h4 h5 (fun d hd => (h6 d hd).trans (hSk d hd))

/-- One level down. -/
theorem Hole.down (h : Hole W base g pb po A n c u b1 S whole) {i : Nat} {s : ByteArray} {k r : Tr} (hd : u.dropT i = .cons s k r) :
    ∃ d A' n' c' b2 S', A = some ⟨d, 0, none⟩ ∧ Hole W base g d (i * 2 + 1) A' n' c' k b2 S' (fun k2 => whole (setT u i k2)) := by
  rcases h.own.2 with ⟨_, _, _, e⟩ | ⟨d, b3, e1, e2, hrc, hr⟩
  · subst e
    cases i <;> simp [Tr.dropT] at hd
  · subst e1; subst e2
    obtain ⟨A', n', c', x, b2, y, e, _, hc, hn, hm, ho, hrec⟩ := hr.at_ hd
    subst e
    rw [Nat.zero_add] at hc hrec
    have hrc0 := hrc
    obtain ⟨hbd, cur, hcur, hcs⟩ := hrc
    have hnd := h.nodup
    have hperm : (pb :: ((d :: (x ++ b2 ++ y)) ++ S)).Perm (d :: (b2 ++ (pb :: (x ++ y ++ S)))) := by
      apply List.perm_iff_count.2
      intro a
      simp only [List.count_cons, List.count_append]
      omega
    have hnd2 := hperm.nodup_iff.1 hnd
    have hlt : ∀ q ∈ x ++ y, q < W.heap.size := fun q hq => h.rows q (by
      rcases List.mem_append.1 hq with hq | hq
      · simp [hq]
      · simp [hq])
    refine ⟨d, A', n', c', b2, pb :: (x ++ y ++ S), rfl, ⟨⟨cur, _, hcur⟩, hc, ⟨hn, hm⟩, ho, hnd2, ⟨hbd, fun q hq => ?_, h.le.2.2⟩, ?_⟩⟩
    · rcases List.mem_cons.1 hq with rfl | hq
      · exact h.lt
      · rcases List.mem_append.1 hq with hq | hq
        · exact hlt q hq
        · exact h.le.2.1 q hq
    · intro w2 A3 n3 c3 u3 b3 h1 h2 h3 h4 h5 h6
      have hpbw := h6 pb (by simp)
      have hR : OwnR w2 base d 0 (setT u i u3) (x ++ b3 ++ y) := hrec w2 A3 n3 c3 u3 b3 h2 h3 h4 h5 (fun q hq => h1.cell hcur hq) (fun q hq => h6 q (by
        rcases List.mem_append.1 hq with hq | hq
        · simp [hq]
        · simp [hq]))
      obtain ⟨cur', hcur', hcs', _⟩ := h1 cur _ hcur
      have hL : OwnL w2 base (some ⟨d, 0, none⟩) n c (setT u i u3) (d :: (x ++ b3 ++ y)) := ⟨by rw [setT_len]; exact h.own.1, .inr ⟨d, _, rfl, rfl, ⟨hbd, cur', hcur', by rw [hcs', hcs]⟩, hR⟩⟩
      exact h.back w2 _ n c _ _ (Same1.of_eq hpbw) ((World.cell?_of_block hpbw).trans h.at_) h.cap.1 h.cap.2 hL (fun q hq => h6 q (by simp [hq]))

/-- Another tree, in rows of its own, put there. -/
theorem Hole.fin (h : Hole W base g pb po A n c u b1 S whole) {nx cx : Nat} {Ax : Option Addr} {x : Tr} {bx : List Nat} (hb : Below W.heap.size W w1) (hx : OwnL w1 W.heap.size Ax nx cx x bx) (hn : nx ≤ cx) (hm : cx ≤ maxLen) :
    ∃ A3 n3 c3 b3, (w1.setCell ⟨pb, po, none⟩ (.slice Ax nx cx)).cell? ⟨g, 0, none⟩ = some (.slice A3 n3 c3) ∧ n3 ≤ c3 ∧ c3 ≤ maxLen ∧ OwnL (w1.setCell ⟨pb, po, none⟩ (.slice Ax nx cx)) base A3 n3 c3 (whole x) b3 := by
  obtain ⟨cur, E, hpb⟩ := h.blk
  have hpbw : w1.heap[pb]? = W.heap[pb]? := hb.block pb h.lt
  have hpbS : pb ∉ S := fun e => (List.nodup_cons.1 h.nodup).1 (List.mem_append.2 (.inr e))
  refine h.back _ Ax nx cx x bx ((Same1.of_eq hpbw).trans (Same1.set w1 pb po _)) ?_ hn hm ?_ (fun d hd => ?_)
  · rw [cell_of_row _ _ _ _ _ _ (heap_setCell_same w1 pb po cur E _ (hpbw.trans hpb))]
    have := h.at_
    rw [cell_of_row _ _ _ _ _ _ hpb] at this
    have hl : po < cur.size := (Array.getElem?_eq_some_iff.1 this).1
    simp [hl]
  · refine Cl.OwnL.keep (OwnL.less hx h.le.2.2) fun d hd => Below.heap_setCell w1 ⟨pb, po, none⟩ _ d (fun e => ?_)
    have h1 : W.heap.size ≤ d := (hx.rows d hd).1
    have h2 := h.lt
    simp only at e
    omega
  · exact (Below.heap_setCell w1 ⟨pb, po, none⟩ _ d (fun e => hpbS (by simp only at e; exact e ▸ hd))).trans (hb.block d (h.le.2.1 d hd))
/-- The whole as it stands. -/
theorem Hole.all (h : Hole W base g pb po A n c u b1 S whole) : ∃ A3 n3 c3 b3, W.cell? ⟨g, 0, none⟩ = some (.slice A3 n3 c3) ∧ n3 ≤ c3 ∧ c3 ≤ maxLen ∧ OwnL W base A3 n3 c3 (whole u) b3 :=
  h.back W A n c u b1 (Same1.of_eq rfl) h.at_ h.cap.1 h.cap.2 h.own (fun _ _ => rfl)
end
/-- At its root. -/
theorem Hole.start {w : World} {base n c : Nat} {A : Option Addr} {t : Tr} {bs : List Nat} (h : OwnL w base A n c t bs) (hn : n ≤ c) (hm : c ≤ maxLen) (hnd : bs.Nodup) (hb : base ≤ w.heap.size) (E : TypeId) :
    Hole (w.alloc (.cells #[.slice A n c] E)) base w.heap.size w.heap.size 0 A n c t bs [] id := by
  have hlt : ∀ d ∈ bs, d < w.heap.size := fun d hd => (h.rows d hd).lt
  refine ⟨⟨_, _, heap_alloc_new w _⟩, by rw [cell_of_row _ _ _ _ _ _ (heap_alloc_new w _)]; rfl, ⟨hn, hm⟩, h.keep fun d hd => Below.heap_alloc w _ d (hlt d hd), ?_, ⟨hb, fun _ hd => (by cases hd), by simp; omega⟩, ?_⟩
  · rw [List.append_nil, List.nodup_cons]
    exact ⟨fun hd => by have := hlt _ hd; omega, hnd⟩
  · intro w' A2 n2 c2 u2 b2 _ h2 h3 h4 h5 _
    exact ⟨A2, n2, c2, b2, h2, h3, h4, h5⟩
end Go.Proofs.Ytkhjpmefekonhaa.Pt

namespace Go.Proofs.Ytkhjpmefekonhaa.Pt
open Go.RowKit Go.Proofs.Ytkhjpmefekonhaa.Jd Go.Proofs.Ytkhjpmefekonhaa.Cl
set_option maxRecDepth 100000

theorem below_undrew {w w' : World} {B : Nat} (h : Below B w.drew w') : Below B w w' := ⟨h.os, h.tape, h.output, h.size, h.block⟩

/-- A tree in memory that was not there before. -/
def NewP (w : World) (t : Tr) (e : Ending) (w' : World) : Prop :=
  ∃ A' n' c', e = .returned (.slice A' n' c') ∧ n' ≤ c' ∧ c' ≤ maxLen ∧ HoldsP w' (fun b => w.heap.size ≤ b ∧ b < w'.heap.size) A' n' t ∧ Below w.heap.size w w'
theorem own_new {w : World} {base n c : Nat} {A : Option Addr} {t : Tr} {bs : List Nat} (h : OwnL w base A n c t bs) : HoldsP w (fun b => base ≤ b ∧ b < w.heap.size) A n t :=
  OwnL.holdsP h fun d hd => ⟨(h.rows d hd).1, (h.rows d hd).lt⟩

structure PutI (w wr : World) (g pb po : Nat) (A : Option Addr) (n c : Nat) (t u x : Tr) (b1 S : List Nat) (whole : Tr → Tr) (ps rest : List ByteArray) : Prop where
  hole : Hole wr w.heap.size g pb po A n c u b1 S whole
  asc : AscD u
  size : u.size ≤ t.size
  eq : ∀ y, whole (putT u rest y) = putT t ps y
theorem PutI.len {w wr : World} {g pb po : Nat} {A : Option Addr} {n c : Nat} {t u x : Tr} {b1 S : List Nat} {whole : Tr → Tr} {ps rest : List ByteArray} (h : PutI w wr g pb po A n c t u x b1 S whole ps rest) : n ≤ t.size := by
  have := h.hole.own.1
  have := u.len_size
  have := h.size
  omega

theorem drop_lt {t : Tr} {i : Nat} {s : ByteArray} {k r : Tr} (h : t.dropT i = .cons s k r) : i < t.len := by
  rcases Nat.lt_or_ge i t.len with g | g
  · exact g
  · rw [drop_len t i g] at h; cases h
theorem PutI.down {w wr w2 : World} {g pb po : Nat} {A : Option Addr} {n c : Nat} {t u u2 x : Tr} {b1 S : List Nat} {whole : Tr → Tr} {ps : List ByteArray} {k i : Nat} {name : ByteArray} (h : PutI w wr g pb po A n c t u x b1 S whole ps (ps.drop k)) (hd : ps.drop k = name :: ps.drop (k + 1)) {A2 : Option Addr} {n2 c2 : Nat} {b2 : List Nat} (hH : Hole w2 w.heap.size g pb po A2 n2 c2 u2 b2 S whole)
    {r : Tr} (hu : u2.dropT i = .cons name (kidT u name) r) (hw : ∀ y, u.withT name y = setT u2 i y) :
    ∃ d A' n' c' b3 S', A2 = some ⟨d, 0, none⟩ ∧ PutI w w2 g d (i * 2 + 1) A' n' c' t (kidT u name) x b3 S' (fun k2 => whole (setT u2 i k2)) ps (ps.drop (k + 1)) := by
  obtain ⟨d, A', n', c', b3, S', e, h3⟩ := hH.down hu
  refine ⟨d, A', n', c', b3, S', e, h3, kidT_asc h.asc, Nat.le_trans (kidT_size u name) h.size, fun y => ?_⟩
  have := h.eq y
  rw [hd, putT, hw] at this
  exact this

set_option maxHeartbeats 2000000 in
theorem put_any (t x : Tr) (ps : List ByteArray) (A Ax Ap : Option Addr) (n c nx cx np cp : Nat) (w : World) (ht : Holds w w.heap.size A n t) (hx : Holds w w.heap.size Ax nx x) (hp : SeesV w w.heap.size Ap np (ps.map Value.string)) (ha : AscD t) (hz : t.size ≤ 274877906944) (hzx : x.size ≤ 549755813888) (hps : ps.length ≤ 1000000) :
    Calls Try.prog 22 #[.slice A n c, .slice Ap np cp, .slice Ax nx cx] w (NewP w (putT t ps x)) := by
  have HC := Lib.hid (clone_rows t A n c w ht (by omega))
  have hnp : np ≤ 1000000 := by have := hp.len; rw [List.length_map] at this; omega
  have Hnp := Lib.hid (show np = ps.length by have := hp.len; rwa [List.length_map] at this)
  obtain ⟨T, hT⟩ : ∃ T, T = putT t ps x := ⟨_, rfl⟩
  rw [← hT]
  have HT := Lib.hid hT
  clear ht hT
  go_enter Try.func22, Try.ntmps22
  go_wp2_with fail
  (with_reducible refine HC.out.mono ?_)
  rintro e w1 ⟨A1, c1, bs, rfl, hn1, hm1, ho1, hnd1, hb1⟩
  have hH0 := Hole.start ho1 hn1 hm1 hnd1 hb1.size 27
  have HI0 := Lib.hid (show PutI w (w1.alloc (.cells #[.slice A1 n c1] 27)) w1.heap.size w1.heap.size 0 A1 n c1 t t x bs [] id ps ps from ⟨hH0, ha, Nat.le_refl _, fun y => rfl⟩)
  have hbg : Below w.heap.size w (w1.alloc (.cells #[.slice A1 n c1] 27)) := hb1.alloc hb1.size _
  clear hH0 ho1 hnd1
  go_wp2_with fail
  obtain ⟨g, hg⟩ : ∃ g, g = w1.heap.size := ⟨_, rfl⟩
  rw [← hg] at HI0 ⊢
  clear hg
  go_loopw [8, 17] (fun a i wr => ∃ (k pb po : Nat) (Au : Option Addr) (nu cu : Nat) (u : Tr) (b1 S : List Nat) (whole : Tr → Tr), k ≤ np ∧ a = .pointer (some ⟨pb, po, none⟩) ∧ i = .int .i64 k ∧ Hid (PutI w wr g pb po Au nu cu t u x b1 S whole ps (ps.drop k)) ∧ Below w.heap.size w wr) (fun _ i _ => np - (intOf i).toNat)
  case atStart => exact ⟨0, _, _, A1, n, c1, t, bs, [], id, Nat.zero_le _, rfl, rfl, by rw [List.drop_zero]; exact HI0, hbg⟩
  case round =>
    obtain ⟨k, pb, po, Au, nu, cu, u, b1, S, whole, hk, rfl, rfl, HI, hbw⟩ := hrel
    have hat := HI.out.hole.at_
    have hsz := hbw.size
    by_cases hlt : k < np
    · obtain ⟨bp, op, rfl, hbp, hcp⟩ := hp.str hlt
      obtain ⟨name, hname⟩ : ∃ s, s = ps.getD k ⟨#[]⟩ := ⟨_, rfl⟩
      rw [← hname] at hcp
      have hdrop : ps.drop k = name :: ps.drop (k + 1) := by
        have hl : k < ps.length := by rw [← Hnp.out]; exact hlt
        rw [List.drop_eq_getElem_cons hl, hname, List.getD_eq_getElem?_getD, List.getElem?_eq_getElem hl]
        rfl
      have hcpw := (hbw.cell (p := ⟨bp, op + k, none⟩) hbp).trans hcp
      have hkn : (k : Int) < (np : Int) := by omega
      have hk0 : (0 : Int) ≤ (k : Int) := by omega
      have hnu : nu ≤ 274877906944 := by have := HI.out.len; omega
      have HF := Lib.hid (find_any u HI.out.asc.asc Au nu cu wr.heap.size name wr HI.out.hole.holds (Nat.le_refl _) (by omega))
      have hle := atN_le name u
      have hul := HI.out.hole.own.1
      obtain ⟨i, hi⟩ : ∃ i, i = u.atN name := ⟨_, rfl⟩
      obtain ⟨v, hv⟩ : ∃ v, v = u.atIs name := ⟨_, rfl⟩
      rw [← hi] at HF hle
      rw [← hv] at HF
      have hin : i ≤ nu := by omega
      have Hi := Lib.hid hi
      have Hdrop := Lib.hid hdrop
      have Hlt := Lib.hid hlt
      clear hname hdrop hcp hi hlt hle hul
      cases v with
      | true =>
        obtain ⟨_, ⟨r, hdr⟩, _⟩ := set_with (y := .nil) hv.symm
        have hw := fun y => (set_with (y := y) hv.symm).1
        rw [← Hi.out] at hdr hw
        have hilt := drop_lt hdr
        have hul := HI.out.hole.own.1
        have hin2 : (i : Int) < (nu : Int) := by omega
        have hi0 : (0 : Int) ≤ (i : Int) := by omega
        have Hw := Lib.hid hw
        have Hdr := Lib.hid hdr
        clear hv hw hdr hilt hul
        go_wp2_with fail
        refine HF.out.mono ?_
        rintro e w2 ⟨rfl, hb2⟩
        have hH2 := HI.out.hole.below hb2
        obtain ⟨d, A', n', c', b3, S', e, hI3⟩ := HI.out.down Hdrop.out hH2 Hdr.out Hw.out
        subst e
        have hat2 := hH2.at_
        have HI3 := Lib.hid hI3
        clear hH2 hI3
        go_wp2_with fail
        go_roundw
        case rel => exact ⟨k + 1, d, i * 2 + 1, A', n', c', _, b3, S', _, Hlt.out, rfl, by go_num, HI3, hbw.trans (hb2.mono hsz)⟩
        case measure => have := Hlt.out; simp [intOf]; omega
      | false =>
        obtain ⟨_, hdr, hkn⟩ := ins_with (y := .nil) hv.symm
        have hw := fun y => (ins_with (y := y) hv.symm).1
        rw [← Hi.out] at hdr hw
        rw [← hkn] at hdr
        have hil := insAt_len u i name
        have hul := HI.out.hole.own.1
        have Hw := Lib.hid hw
        have Hdr := Lib.hid hdr
        have Hil := Lib.hid hil
        have Hul := Lib.hid hul
        clear hv hw hdr hkn hil hul
        go_wp2_with fail
        refine HF.out.mono ?_
        rintro e w2 ⟨rfl, hb2⟩
        have hH2 := HI.out.hole.below hb2
        have hat2 := hH2.at_
        have hba : Below w2.heap.size w2 (w2.alloc (Obj.cells #[Value.string name, Value.slice none 0 0] 32)) := (Below.refl _ _).alloc (Nat.le_refl _) _
        have hHa := hH2.below hba
        obtain ⟨vs, rest, hown, hoc, hb1⟩ := OwnL.slice hHa.own hHa.cap.1 hHa.cap.2
        have hnd1 := hHa.nodup
        have hvb : (Value.slice Au nu cu).ownBlock ≠ some w2.heap.size := fun e => by
          have := (hown.lt _ e).2
          rcases hb1 with ⟨e1, _⟩ | ⟨d, e1, e2⟩
          · subst e1; cases e
          · subst e1
            injection e with e
            simp only at e
            have := hH2.rows d (by rw [e2]; exact List.mem_cons_self)
            omega
        have hIns := insert_any (w2.alloc (Obj.cells #[Value.string name, Value.slice none 0 0] 32)) w.heap.size nu cu i w2.heap.size Au vs (.string name) (.slice none 0 0) hown (heap_alloc_new w2 _) rfl rfl hvb hin (by omega) hHa.le.2.2 hoc.one
        have HIns := Lib.hid hIns
        have HHa := Lib.hid hHa
        have Hoc := Lib.hid hoc
        have Hb1 := Lib.hid hb1
        have Hnd1 := Lib.hid hnd1
        clear hH2 hHa hIns hown hoc hb1 hvb hnd1
        go_wp2_with fail
        (with_reducible refine HIns.out.mono ?_)
        rintro e w3 ⟨A3, c3, rfl, ho3, hg3, hat3⟩
        have hocI := OwnC.ins (name := name) i Hoc.out (by rw [← Hul.out]; exact hin)
        have hndr : rest.Nodup := by
          have h1 := (List.nodup_append.1 (List.nodup_cons.1 Hnd1.out).2).1
          rcases Hb1.out with ⟨_, _, e⟩ | ⟨d, _, e⟩
          · rw [e]; exact List.nodup_nil
          · rw [e, List.nodup_cons] at h1; exact h1.2
        obtain ⟨hq3, hf3, b2, hH4⟩ := HHa.out.repl Hb1.out (fun d hd => hd) hndr ho3 hocI hg3 hat3
        obtain ⟨d, A', n', c', b3, S', e, hI5⟩ := HI.out.down Hdrop.out hH4 Hdr.out Hw.out
        subst e
        have hat4 := hH4.at_
        have hpb4 := hH4.le.1
        have hilt := drop_lt Hdr.out
        have hin2 : (i : Int) < (nu : Int) + 1 := by have := Hil.out; have := Hul.out; omega
        have hi0 : (0 : Int) ≤ (i : Int) := by omega
        have hb3w : Below w.heap.size w w3 := (((hbw.trans (hb2.mono hsz))).trans (hba.mono (Nat.le_trans hsz hb2.size))).grown hg3 HHa.out.le.2.2 (fun q hq => by
          rcases Hb1.out with ⟨e1, _⟩ | ⟨d0, e1, e2⟩
          · subst e1; cases hq
          · subst e1
            injection hq with hq
            simp only at hq
            have := (HHa.out.own.rows d0 (by rw [e2]; exact List.mem_cons_self)).1
            omega)
        have hb4w : Below w.heap.size w (w3.setCell ⟨pb, po, none⟩ (.slice (some ⟨d, 0, none⟩) (nu + 1) c3)) := hb3w.setCell hpb4 _
        have HI5 := Lib.hid hI5
        clear hH4 hI5 hocI hndr ho3 hg3 hat3 hb3w hilt
        go_wp2_with fail
        go_roundw
        case rel => exact ⟨k + 1, d, i * 2 + 1, A', n', c', _, b3, S', _, Hlt.out, rfl, by go_num, HI5, hb4w⟩
        case measure => have := Hlt.out; simp [intOf]; omega
    · obtain rfl : k = np := by omega
      have hnil : ps.drop k = [] := List.drop_eq_nil_of_le (by rw [Hnp.out]; exact Nat.le_refl _)
      have HX := Lib.hid (clone_rows x Ax nx cx wr ((hx.below hbw).more hbw.size) hzx)
      have Hnil := Lib.hid hnil
      clear hnil hlt hp hx
      go_wp2_with fail
      (with_reducible refine HX.out.mono ?_)
      rintro e w5 ⟨A5, c5, b5, rfl, hn5, hm5, ho5, hnd5, hb5⟩
      obtain ⟨A3, n3, c3, b3, hc3, hn3, hm3, hL⟩ := HI.out.hole.fin hb5 ho5 hn5 hm5
      have hat5 := (HI.out.hole.below hb5).at_
      have hfr5 := (HI.out.hole.below hb5).fro
      have HL := Lib.hid hL
      have hpb := HI.out.hole.le.1
      clear hL ho5 hnd5
      go_wp2_with fail
      go_ret
      have heq := HI.out.eq x
      rw [Hnil.out] at heq
      have hb6 : Below w.heap.size w (w5.setCell ⟨pb, po, none⟩ (.slice A5 nx c5)) := (hbw.trans (hb5.mono hbw.size)).setCell hpb _
      exact ⟨A3, n3, c3, rfl, hn3, hm3, by rw [HT.out, ← heq]; exact own_new HL.out, hb6⟩
end Go.Proofs.Ytkhjpmefekonhaa.Pt

namespace Go.Proofs.Ytkhjpmefekonhaa.Pt
open Go.RowKit Go.Proofs.Ytkhjpmefekonhaa.Jd Go.Proofs.Ytkhjpmefekonhaa.Cl
set_option maxRecDepth 100000

def GetP (w : World) (r : Tr × Bool) (e : Ending) (w' : World) : Prop :=
  ∃ A' n' c', e = .returned (.tuple #[.slice A' n' c', .bool r.2]) ∧ n' ≤ c' ∧ c' ≤ maxLen ∧ HoldsP w' (fun b => w.heap.size ≤ b ∧ b < w'.heap.size) A' n' r.1 ∧ Below w.heap.size w w'

set_option maxHeartbeats 2000000 in
theorem get_any (t : Tr) (ps : List ByteArray) (A Ap : Option Addr) (n c np cp : Nat) (w : World) (ht : Holds w w.heap.size A n t) (hp : SeesV w w.heap.size Ap np (ps.map Value.string)) (ha : AscD t) (hz : t.size ≤ 274877906944) (hps : ps.length ≤ 1000000) :
    Calls Try.prog 19 #[.slice A n c, .slice Ap np cp] w (GetP w (getT t ps)) := by
  have hnp : np ≤ 1000000 := by have := hp.len; rw [List.length_map] at this; omega
  have Hnp := Lib.hid (show np = ps.length by have := hp.len; rwa [List.length_map] at this)
  obtain ⟨T, hT⟩ : ∃ T, T = getT t ps := ⟨_, rfl⟩
  rw [← hT]
  have HI0 := Lib.hid (show Holds w w.heap.size A n t ∧ AscD t ∧ t.size ≤ 274877906944 ∧ getT t ps = T from ⟨ht, ha, hz, hT.symm⟩)
  clear ht hT ha hz
  go_enter Try.func19, Try.ntmps19
  go_wp2_with fail
  go_loopw [0, 12] (fun a i wr => ∃ (k : Nat) (Au : Option Addr) (nu cu : Nat) (u : Tr), k ≤ np ∧ a = .slice Au nu cu ∧ i = .int .i64 k ∧ Hid (Holds wr w.heap.size Au nu u ∧ AscD u ∧ u.size ≤ 274877906944 ∧ getT u (ps.drop k) = T) ∧ Below w.heap.size w wr) (fun _ i _ => np - (intOf i).toNat)
  case atStart => exact ⟨0, A, n, c, t, Nat.zero_le _, rfl, rfl, by rw [List.drop_zero]; exact HI0, Below.refl _ _⟩
  case round =>
    obtain ⟨k, Au, nu, cu, u, hk, rfl, rfl, HI, hbw⟩ := hrel
    have hsz := hbw.size
    by_cases hlt : k < np
    · obtain ⟨bp, op, rfl, hbp, hcp⟩ := hp.str hlt
      obtain ⟨name, hname⟩ : ∃ s, s = ps.getD k ⟨#[]⟩ := ⟨_, rfl⟩
      rw [← hname] at hcp
      have hdrop : ps.drop k = name :: ps.drop (k + 1) := by
        have hl : k < ps.length := by rw [← Hnp.out]; exact hlt
        rw [List.drop_eq_getElem_cons hl, hname, List.getD_eq_getElem?_getD, List.getElem?_eq_getElem hl]
        rfl
      have hcpw := (hbw.cell (p := ⟨bp, op + k, none⟩) hbp).trans hcp
      have hkn : (k : Int) < (np : Int) := by omega
      have hk0 : (0 : Int) ≤ (k : Int) := by omega
      have hul := HI.out.1.len
      have hus := u.len_size
      have hus2 := HI.out.2.2.1
      have hnu : nu ≤ 274877906944 := by omega
      have HF := Lib.hid (find_any u HI.out.2.1.asc Au nu cu w.heap.size name wr HI.out.1 hsz (by omega))
      have hle := atN_le name u
      obtain ⟨i, hi⟩ : ∃ i, i = u.atN name := ⟨_, rfl⟩
      obtain ⟨v, hv⟩ : ∃ v, v = u.atIs name := ⟨_, rfl⟩
      rw [← hi] at HF hle
      rw [← hv] at HF
      have hin : i ≤ nu := by omega
      have Hi := Lib.hid hi
      have Hdrop := Lib.hid hdrop
      have Hlt := Lib.hid hlt
      clear hname hdrop hcp hi hlt hle
      cases v with
      | true =>
        obtain ⟨_, ⟨r, hdr⟩, _⟩ := set_with (y := .nil) hv.symm
        rw [← Hi.out] at hdr
        have hilt := drop_lt hdr
        have hin2 : (i : Int) < (nu : Int) := by omega
        have hi0 : (0 : Int) ≤ (i : Int) := by omega
        have hin3 : i < nu := by omega
        have heq : getT (kidT u name) (ps.drop (k + 1)) = T := by
          have := HI.out.2.2.2
          rw [Hdrop.out, getT, if_pos hv.symm] at this
          exact this
        have Heq := Lib.hid heq
        have Hdr := Lib.hid hdr
        clear hv hdr hilt hul hus hus2 heq
        go_wp2_with fail
        refine HF.out.mono ?_
        rintro e w2 ⟨rfl, hb2⟩
        obtain ⟨b, o, s, kt, r', A', n', c', e, hb, hs, hcl, hn', hc', hk', hr, hd, hd2⟩ := (HI.out.1.below hb2).split i hin3
        subst e
        have hd := hd
        rw [Hdr.out] at hd
        injection hd with hd1 hd2 hd3
        subst hd1; subst hd2
        have hkid := Lib.hid (show Holds w2 w.heap.size A' n' (kidT u name) ∧ AscD (kidT u name) ∧ (kidT u name).size ≤ 274877906944 ∧ getT (kidT u name) (ps.drop (k + 1)) = T from ⟨hk', kidT_asc HI.out.2.1, Nat.le_trans (kidT_size u name) HI.out.2.2.1, Heq.out⟩)
        clear hk' hr hd3 hs
        go_wp2_with fail
        go_roundw
        case rel => exact ⟨k + 1, A', n', c', _, Hlt.out, rfl, by go_num, hkid, hbw.trans hb2⟩
        case measure => have := Hlt.out; simp [intOf]; omega
      | false =>
        have heq : (Tr.nil, false) = T := by
          have := HI.out.2.2.2
          rw [Hdrop.out, getT, if_neg (by rw [← hv]; simp)] at this
          exact this
        have Heq := Lib.hid heq
        clear hv hul hus hus2 heq
        go_wp2_with fail
        refine HF.out.mono ?_
        rintro e w2 ⟨rfl, hb2⟩
        go_wp2_with fail
        go_ret2
        exact ⟨none, 0, 0, by rw [← Heq.out]; rfl, Nat.le_refl _, Nat.zero_le _, by rw [← Heq.out]; rfl, hbw.trans hb2⟩
    · obtain rfl : k = np := by omega
      have hnil : ps.drop k = [] := List.drop_eq_nil_of_le (by rw [Hnp.out]; exact Nat.le_refl _)
      have heq : (u, true) = T := by
        have := HI.out.2.2.2
        rw [hnil, getT] at this
        exact this
      have HX := Lib.hid (clone_rows u Au nu cu wr (HI.out.1.more hsz) (by have := HI.out.2.2.1; omega))
      have Heq := Lib.hid heq
      clear hnil hlt hp heq
      go_wp2_with fail
      (with_reducible refine HX.out.mono ?_)
      rintro e w5 ⟨A5, c5, b5, rfl, hn5, hm5, ho5, hnd5, hb5⟩
      go_wp2_with fail
      go_ret2
      exact ⟨A5, nu, c5, by rw [← Heq.out]; rfl, hn5, hm5, by rw [← Heq.out]; exact (own_new ho5).more (fun b hb => ⟨Nat.le_trans hsz hb.1, hb.2⟩), hbw.trans (hb5.mono hsz)⟩
end Go.Proofs.Ytkhjpmefekonhaa.Pt

namespace Go.Proofs.Ytkhjpmefekonhaa.Pt
open Go.RowKit Go.Proofs.Ytkhjpmefekonhaa.Jd Go.Proofs.Ytkhjpmefekonhaa.Cl
set_option maxRecDepth 100000

structure DropI (w wr : World) (g pb po : Nat) (A : Option Addr) (n c : Nat) (t u : Tr) (b1 S : List Nat) (whole : Tr → Tr) (T : Tr) (rest : List ByteArray) : Prop where
  hole : Hole wr w.heap.size g pb po A n c u b1 S whole
  asc : AscD u
  size : u.size ≤ t.size
  eq : whole (dropP u rest) = T
theorem DropI.len {w wr : World} {g pb po : Nat} {A : Option Addr} {n c : Nat} {t u : Tr} {b1 S : List Nat} {whole : Tr → Tr} {T : Tr} {rest : List ByteArray} (h : DropI w wr g pb po A n c t u b1 S whole T rest) : n ≤ t.size := by
  have := h.hole.own.1
  have := u.len_size
  have := h.size
  omega

set_option maxHeartbeats 2000000 in
theorem drop_any (t : Tr) (ps : List ByteArray) (A Ap : Option Addr) (n c np cp : Nat) (w : World) (ht : Holds w w.heap.size A n t) (hp : SeesV w w.heap.size Ap np (ps.map Value.string)) (hcp : np ≤ cp) (ha : AscD t) (hz : t.size ≤ 274877906944) (hps : ps.length ≤ 1000000) :
    Calls Try.prog 24 #[.slice A n c, .slice Ap np cp] w (NewP w (dropP t ps)) := by
  have hnp : np ≤ 1000000 := by have := hp.len; rw [List.length_map] at this; omega
  have Hnp := Lib.hid (show np = ps.length by have := hp.len; rwa [List.length_map] at this)
  by_cases h0 : np = 0
  · subst h0
    have hnil : ps = [] := List.eq_nil_of_length_eq_zero Hnp.out.symm
    subst hnil
    clear ht hp hz ha
    go_enter Try.func24, Try.ntmps24
    go_wp2_with fail
    go_ret
    exact ⟨none, 0, 0, rfl, Nat.le_refl _, Nat.zero_le _, rfl, Below.refl _ _⟩
  obtain ⟨l, rfl⟩ : ∃ l, np = l + 1 := ⟨np - 1, by omega⟩
  obtain ⟨bp, op, rfl, hbp, hcl⟩ := hp.str (Nat.lt_succ_self l)
  obtain ⟨lname, hlname⟩ : ∃ s, s = ps.getD l ⟨#[]⟩ := ⟨_, rfl⟩
  rw [← hlname] at hcl
  have hlast : ps.drop l = [lname] := by
    have hl : l < ps.length := by rw [← Hnp.out]; omega
    rw [List.drop_eq_getElem_cons hl, List.drop_eq_nil_of_le (by rw [← Hnp.out]; exact Nat.le_refl _), hlname, List.getD_eq_getElem?_getD, List.getElem?_eq_getElem hl]
    rfl
  have Hlast := Lib.hid hlast
  have HC := Lib.hid (clone_rows t A n c w ht (by omega))
  obtain ⟨T, hT⟩ : ∃ T, T = dropP t ps := ⟨_, rfl⟩
  rw [← hT]
  have HT := Lib.hid hT
  have hl0 : ¬ ((l : Int) + 1 = 0) := by omega
  have hl1 : (0 : Int) ≤ (l : Int) := by omega
  have hl2 : (l : Int) ≤ (l : Int) + 1 := by omega
  have hl3 : (l : Int) < (l : Int) + 1 := by omega
  have hl4 : l ≤ cp := by omega
  have hl5 : l ≤ 1000000 := by omega
  clear ht hT hlname hlast h0 hnp
  go_enter Try.func24, Try.ntmps24
  go_wp2_with fail
  (with_reducible refine HC.out.mono ?_)
  rintro e w1 ⟨A1, c1, bs, rfl, hn1, hm1, ho1, hnd1, hb1⟩
  have hH0 := Hole.start ho1 hn1 hm1 hnd1 hb1.size 27
  have HI0 := Lib.hid (show DropI w (w1.alloc (.cells #[.slice A1 n c1] 27)) w1.heap.size w1.heap.size 0 A1 n c1 t t bs [] id T ps from ⟨hH0, ha, Nat.le_refl _, HT.out.symm⟩)
  have hbg : Below w.heap.size w (w1.alloc (.cells #[.slice A1 n c1] 27)) := hb1.alloc hb1.size _
  clear hH0 ho1 hnd1
  go_wp2_with fail
  obtain ⟨g, hg⟩ : ∃ g, g = w1.heap.size := ⟨_, rfl⟩
  rw [← hg] at HI0 ⊢
  clear hg
  go_loopw [6, 26] (fun a i wr => ∃ (k pb po : Nat) (Au : Option Addr) (nu cu : Nat) (u : Tr) (b1 S : List Nat) (whole : Tr → Tr), k ≤ l ∧ a = .pointer (some ⟨pb, po, none⟩) ∧ i = .int .i64 k ∧ Hid (DropI w wr g pb po Au nu cu t u b1 S whole T (ps.drop k)) ∧ Below w.heap.size w wr) (fun _ i _ => l - (intOf i).toNat)
  case atStart => exact ⟨0, _, _, A1, n, c1, t, bs, [], id, Nat.zero_le _, rfl, rfl, by rw [List.drop_zero]; exact HI0, hbg⟩
  case round =>
    obtain ⟨k, pb, po, Au, nu, cu, u, b1, S, whole, hk, rfl, rfl, HI, hbw⟩ := hrel
    have hat := HI.out.hole.at_
    have hsz := hbw.size
    have hnu : nu ≤ 274877906944 := by have := HI.out.len; omega
    by_cases hlt : k < l
    · obtain ⟨_, _, e, _, hcp2⟩ := hp.str (show k < l + 1 by omega)
      cases e
      obtain ⟨name, hname⟩ : ∃ s, s = ps.getD k ⟨#[]⟩ := ⟨_, rfl⟩
      rw [← hname] at hcp2
      have hdrop : ∃ q qs, ps.drop k = name :: q :: qs ∧ ps.drop (k + 1) = q :: qs := by
        have hl : k < ps.length := by rw [← Hnp.out]; omega
        have hl2 : k + 1 < ps.length := by rw [← Hnp.out]; omega
        refine ⟨ps[k + 1], ps.drop (k + 2), ?_, List.drop_eq_getElem_cons hl2⟩
        rw [List.drop_eq_getElem_cons hl, List.drop_eq_getElem_cons hl2, hname, List.getD_eq_getElem?_getD, List.getElem?_eq_getElem hl]
        rfl
      obtain ⟨q, qs, hdrop, hdrop2⟩ := hdrop
      have hcpw := (hbw.cell (p := ⟨bp, op + k, none⟩) hbp).trans hcp2
      have hkn : (k : Int) < (l : Int) := by omega
      have hk0 : (0 : Int) ≤ (k : Int) := by omega
      have HF := Lib.hid (find_any u HI.out.asc.asc Au nu cu wr.heap.size name wr HI.out.hole.holds (Nat.le_refl _) (by omega))
      have hle := atN_le name u
      have hul := HI.out.hole.own.1
      obtain ⟨i, hi⟩ : ∃ i, i = u.atN name := ⟨_, rfl⟩
      obtain ⟨v, hv⟩ : ∃ v, v = u.atIs name := ⟨_, rfl⟩
      rw [← hi] at HF hle
      rw [← hv] at HF
      have hin : i ≤ nu := by omega
      have Hi := Lib.hid hi
      have Hdrop := Lib.hid hdrop
      have Hdrop2 := Lib.hid hdrop2
      have Hlt := Lib.hid hlt
      clear hname hdrop hdrop2 hcp2 hi hlt hle hul
      cases v with
      | true =>
        obtain ⟨_, ⟨r, hdr⟩, _⟩ := set_with (y := .nil) hv.symm
        have hw := (set_with (y := dropP (kidT u name) (q :: qs)) hv.symm).1
        rw [← Hi.out] at hdr hw
        have hilt := drop_lt hdr
        have hul := HI.out.hole.own.1
        have hin2 : (i : Int) < (nu : Int) := by omega
        have hi0 : (0 : Int) ≤ (i : Int) := by omega
        have heq : whole (setT u i (dropP (kidT u name) (ps.drop (k + 1)))) = T := by
          have := HI.out.eq
          rw [Hdrop.out, dropP, if_pos hv.symm, hw] at this
          rw [Hdrop2.out]
          exact this
        have Heq := Lib.hid heq
        have Hdr := Lib.hid hdr
        clear hv hw hdr hilt hul heq
        go_wp2_with fail
        refine HF.out.mono ?_
        rintro e w2 ⟨rfl, hb2⟩
        have hH2 := HI.out.hole.below hb2
        have hat2 := hH2.at_
        obtain ⟨d, A', n', c', b3, S', e, h3⟩ := hH2.down Hdr.out
        subst e
        have HI3 := Lib.hid (show DropI w w2 g d (i * 2 + 1) A' n' c' t (kidT u name) b3 S' (fun k2 => whole (setT u i k2)) T (ps.drop (k + 1)) from ⟨h3, kidT_asc HI.out.asc, Nat.le_trans (kidT_size u name) HI.out.size, Heq.out⟩)
        clear hH2 h3
        go_wp2_with fail
        go_roundw
        case rel => exact ⟨k + 1, d, i * 2 + 1, A', n', c', _, b3, S', _, Hlt.out, rfl, by go_num, HI3, hbw.trans (hb2.mono hsz)⟩
        case measure => have := Hlt.out; simp [intOf]; omega
      | false =>
        have heq : whole u = T := by
          have := HI.out.eq
          rw [Hdrop.out, dropP, if_neg (by rw [← hv]; simp)] at this
          exact this
        have Heq := Lib.hid heq
        clear hv heq
        go_wp2_with fail
        refine HF.out.mono ?_
        rintro e w2 ⟨rfl, hb2⟩
        obtain ⟨A3, n3, c3, b3, hc3, hn3, hm3, hL⟩ := (HI.out.hole.below hb2).all
        have HL := Lib.hid hL
        clear hL
        go_wp2_with fail
        go_ret
        exact ⟨A3, n3, c3, rfl, hn3, hm3, by rw [← Heq.out]; exact own_new HL.out, hbw.trans (hb2.mono hsz)⟩
    · obtain rfl : k = l := by omega
      have hcpw := (hbw.cell (p := ⟨bp, op + k, none⟩) hbp).trans hcl
      have HF := Lib.hid (find_any u HI.out.asc.asc Au nu cu wr.heap.size lname wr.drew HI.out.hole.holds.drew (Nat.le_refl _) (by omega))
      have hul := HI.out.hole.own.1
      obtain ⟨i, hi⟩ : ∃ i, i = u.atN lname := ⟨_, rfl⟩
      obtain ⟨v, hv⟩ : ∃ v, v = u.atIs lname := ⟨_, rfl⟩
      rw [← hi] at HF
      rw [← hv] at HF
      have Hi := Lib.hid hi
      have hbpw : bp < wr.heap.size := by omega
      have hpbw := HI.out.hole.lt
      clear hi hlt hk
      cases v with
      | true =>
        obtain ⟨_, ⟨r, hdr⟩, hwo⟩ := set_with (y := .nil) hv.symm
        rw [← Hi.out] at hdr hwo
        have hilt := drop_lt hdr
        have heq : whole (delAt u i) = T := by
          have := HI.out.eq
          rw [Hlast.out, dropP, if_pos hv.symm, hwo] at this
          exact this
        have Heq := Lib.hid heq
        have Hilt := Lib.hid hilt
        have hinu : i < nu := by omega
        have hib : i ≤ 274877906944 := by omega
        obtain ⟨d, rfl⟩ : ∃ d, Au = some ⟨d, 0, none⟩ := by
          rcases HI.out.hole.own.2 with ⟨_, _, _, e⟩ | ⟨d, _, e, _⟩
          · rw [e] at hilt; simp [Tr.len] at hilt
          · exact ⟨d, e⟩
        obtain ⟨K, rfl⟩ : ∃ K, nu = K + 1 := ⟨nu - 1, by omega⟩
        have hiK : i ≤ K := by omega
        clear hv hwo hdr hilt hul heq
        go_wp2_with fail
        go_region_held3 (fun w' => w'.cell? ⟨pb, po, none⟩ = some (.slice (some ⟨d, 0, none⟩) (K + 1) cu) ∧ w'.cell? ⟨bp, op + k, none⟩ = some (.string lname)) (first | exact ⟨hat, hcpw⟩ | exact ⟨hat2, hcp2⟩)
          ((go_at_call 52; refine HF.out.mono ?_; rintro e w2 ⟨rfl, hb2⟩; have hat2 := (hb2.cell (p := ⟨pb, po, none⟩) hpbw).trans hat; have hcp2 := (hb2.cell (p := ⟨bp, op + k, none⟩) hbpw).trans hcpw))
        all_goals
          have hb2' : Below wr.heap.size wr w2 := below_undrew hb2
          have hH2 := HI.out.hole.below hb2'
          obtain ⟨vs, rest, hown, hoc, hb1⟩ := OwnL.slice hH2.own hH2.cap.1 hH2.cap.2
          have hDel := delete_any w2 w.heap.size K cu i d vs hown hiK (by omega) hoc.one
          have HDel := Lib.hid hDel
          have HH2 := Lib.hid hH2
          have Hoc := Lib.hid hoc
          have Hb1 := Lib.hid hb1
          clear hDel hH2 hoc hb1 hown
          go_wp2_with fail
          (with_reducible refine HDel.out.mono ?_)
          rintro e w3 ⟨rfl, ho3, hg3⟩
          obtain ⟨x, b4, y, erest, hoc2⟩ := OwnC.del i Hoc.out Hilt.out
          have hndr : rest.Nodup := by
            have h1 := (List.nodup_append.1 (List.nodup_cons.1 HH2.out.nodup).2).1
            rcases Hb1.out with ⟨_, _, e⟩ | ⟨d, _, e⟩
            · rw [e]; exact List.nodup_nil
            · rw [e, List.nodup_cons] at h1; exact h1.2
          have hsubl : (x ++ y).Sublist rest := by
            rw [erest]
            exact List.Sublist.append (List.Sublist.refl x) (List.sublist_append_right b4 y)
          obtain ⟨hq3, hf3, b5, hH4⟩ := HH2.out.repl Hb1.out (fun q hq => hsubl.subset hq) (hndr.sublist hsubl) ho3 hoc2 hg3 (fun a ha => .inr (by injection ha with ha; rw [← ha]; rfl))
          obtain ⟨A3, n3, c3, b3, hc3, hn3, hm3, hL⟩ := hH4.all
          have hpb4 := hH4.le.1
          have hdb : w.heap.size ≤ d := by
            rcases HH2.out.own.2 with ⟨e, _⟩ | ⟨d', _, e, _, hr, _⟩
            · cases e
            · cases e; exact hr.1
          have hb3w : Below w.heap.size w w3 := (hbw.trans (hb2'.mono hsz)).grown hg3 HH2.out.le.2.2 (fun q hq => by injection hq with hq; omega)
          have HL := Lib.hid hL
          clear hL hH4 hoc2 hndr hsubl ho3 hg3
          go_wp2_with fail
          go_ret
          exact ⟨A3, n3, c3, rfl, hn3, hm3, by rw [← Heq.out]; exact own_new HL.out, hb3w.setCell hpb4 _⟩
      | false =>
        have heq : whole u = T := by
          have := HI.out.eq
          rw [Hlast.out, dropP, if_neg (by rw [← hv]; simp)] at this
          exact this
        have Heq := Lib.hid heq
        clear hv heq hul
        go_wp2_with fail
        go_region_held3 (fun w' => w'.cell? ⟨pb, po, none⟩ = some (.slice Au nu cu) ∧ w'.cell? ⟨bp, op + k, none⟩ = some (.string lname)) (first | exact ⟨hat, hcpw⟩ | exact ⟨hat2, hcp2⟩)
          ((go_at_call 52; refine HF.out.mono ?_; rintro e w2 ⟨rfl, hb2⟩; have hat2 := (hb2.cell (p := ⟨pb, po, none⟩) hpbw).trans hat; have hcp2 := (hb2.cell (p := ⟨bp, op + k, none⟩) hbpw).trans hcpw))
        all_goals
          have hb2' : Below wr.heap.size wr w2 := below_undrew hb2
          obtain ⟨A3, n3, c3, b3, hc3, hn3, hm3, hL⟩ := (HI.out.hole.below hb2').all
          have HL := Lib.hid hL
          clear hL
          go_wp2_with fail
          go_ret
          exact ⟨A3, n3, c3, rfl, hn3, hm3, by rw [← Heq.out]; exact own_new HL.out, hbw.trans (hb2'.mono hsz)⟩
end Go.Proofs.Ytkhjpmefekonhaa.Pt

namespace Go.Proofs.Ytkhjpmefekonhaa.Pt
open Go.RowKit Go.Proofs.Ytkhjpmefekonhaa.Jd Go.Proofs.Ytkhjpmefekonhaa.Cl
set_option maxRecDepth 100000

def K2P (w : World) (B : Nat) (k : Tr) (v : Bool) (e : Ending) (w' : World) : Prop :=
  ∃ A' n' c', e = .returned (.tuple #[.slice A' n' c', .bool v]) ∧ Holds w B A' n' k ∧ n' ≤ c' ∧ c' ≤ maxLen ∧ ∃ q, w' = w.drewN q

set_option maxHeartbeats 1000000 in
theorem kid2_any (t : Tr) (A : Option Addr) (n c B : Nat) (name : ByteArray) (w : World) (h : Holds w B A n t) (hB : B ≤ w.heap.size) (hn : n ≤ 140737488351232) :
    Calls Try.prog 50 #[.slice A n c, .string name] w (K2P w B (kidT t name) (t.atIs name)) := by
  have HA := Lib.hid (at_any t A n c B name w h hB hn)
  have hl := h.len
  by_cases hi : t.atIs name = true
  · obtain ⟨_, ⟨r, hdr⟩, _⟩ := set_with (y := .nil) hi
    have hlt := drop_lt hdr
    rw [hi] at HA ⊢
    obtain ⟨k, hk⟩ : ∃ k, k = t.atN name := ⟨_, rfl⟩
    rw [← hk] at HA hlt hdr
    obtain ⟨b, o, s, kt, r', A', n', c', rfl, hb, hs, hc, hn', hc', hk', hr, hd, hd2⟩ := h.split k (by omega)
    have hkn : (k : Int) < (n : Int) := by omega
    have hk0 : (0 : Int) ≤ (k : Int) := by omega
    have e : kt = kidT t name := by
      rw [hdr] at hd
      injection hd with _ h2 _
      exact h2.symm
    rw [e] at hk'
    clear hk hd hd2 hi hl hdr e
    go_enter Try.func50, Try.ntmps50
    go_wp2_with fail
    refine HA.out.mono ?_
    rintro e _ ⟨rfl, q, rfl⟩
    go_wp2_with fail
    go_ret2
    exact ⟨A', n', c', rfl, hk', hn', hc', q, rfl⟩
  · have hi2 : t.atIs name = false := by simpa using hi
    have hkn := kidT_not hi2
    rw [hi2] at HA ⊢
    rw [hkn]
    obtain ⟨k, hk⟩ : ∃ k, k = t.atN name := ⟨_, rfl⟩
    rw [← hk] at HA
    clear hi hi2 hk h hl hn hkn
    go_enter Try.func50, Try.ntmps50
    go_wp2_with fail
    refine HA.out.mono ?_
    rintro e _ ⟨rfl, q, rfl⟩
    go_wp2_with fail
    go_ret2
    exact ⟨none, 0, 0, rfl, rfl, Nat.le_refl _, Nat.zero_le _, q, rfl⟩

/-- Names of at most 30 bytes. -/
def Short : Tr → Prop
  | .nil => True
  | .cons s k r => s.size ≤ 30 ∧ Short k ∧ Short r
theorem short_kid : ∀ {t : Tr} {name : ByteArray}, Short t → Short (kidT t name)
  | .nil, _, _ => trivial
  | .cons s k r, name, ⟨_, h2, h3⟩ => by
    rcases cases3 s name with c1 | ⟨c1, c2⟩ | ⟨c1, c2, _⟩
    · rw [kidT_lt c1]; exact short_kid h3
    · rw [kidT_eq c1 c2]; exact h2
    · rw [kidT_gt c1 c2]; trivial
theorem short_drop : ∀ {t : Tr} (i : Nat), Short t → Short (t.dropT i)
  | t, 0, h => by rw [dropT_zero]; exact h
  | .nil, _ + 1, _ => trivial
  | .cons _ _ _, i + 1, h => short_drop i h.2.2
theorem src_str (W : World) (s : ByteArray) (g : Nat) (hg : g = W.heap.size) : Src Try.prog 1 40 (.slice (some ⟨g, 0, none⟩) 1 1) 1 (Jd.strs [s]) (W.alloc (Obj.cells #[Value.string s] 9)) :=
  hg ▸ Src.laid Try.underlying40 rfl (fun j u hu => by rw [cell_of_row _ _ _ _ _ _ (heap_alloc_new W _), ← hu]; simp [Jd.strs]) (Jd.strs_one _)
theorem tdiv7_wf {x : Int} (h1 : -9223372036854775808 ≤ x) (h2 : x ≤ 9223372036854775807) : (Lit.int .i64 (x.tdiv 7)).wf = true := by
  refine WalkArith.wf_i64 ?_
  rcases Int.le_total 0 x with h | h
  · rw [Int.tdiv_eq_ediv_of_nonneg h]; omega
  · have e : x.tdiv 7 = -((-x) / 7) := by
      rw [← Int.tdiv_eq_ediv_of_nonneg (by omega), Int.neg_tdiv, Int.neg_neg]
    rw [e]; omega
/-- A path: at most six names. -/
def PathP (w : World) (e : Ending) (w' : World) : Prop :=
  ∃ (A' : Option Addr) (n' c' : Nat) (ps : List ByteArray), e = .returned (.slice A' n' c') ∧ ps.length ≤ 6 ∧ n' ≤ c' ∧ SeesV w' w'.heap.size A' n' (ps.map Value.string) ∧ (∀ s ∈ ps, s.size ≤ 30) ∧ Below w.heap.size w w'
structure PathI (w wr : World) (Au Ap : Option Addr) (nu cu k cp : Nat) (u : Tr) (ps : List ByteArray) : Prop where
  holds : Holds wr w.heap.size Au nu u
  short : Short u
  size : u.size ≤ 1000
  row : wr.ownsRow w.heap.size 9 1 (.slice Ap k cp) k (Jd.strs ps)
  small : ∀ s ∈ ps, s.size ≤ 30
  below : Below w.heap.size w wr
theorem PathI.len {w wr : World} {Au Ap : Option Addr} {nu cu k cp : Nat} {u : Tr} {ps : List ByteArray} (h : PathI w wr Au Ap nu cu k cp u ps) : nu ≤ 1000 := by
  have := h.holds.len
  have := u.len_size
  have := h.size
  omega
theorem PathI.drew {w wr : World} {Au Ap : Option Addr} {nu cu k cp : Nat} {u : Tr} {ps : List ByteArray} (h : PathI w wr Au Ap nu cu k cp u ps) (q : Nat) : PathI w (wr.drewN q) Au Ap nu cu k cp u ps :=
  ⟨h.holds.drewN q, h.short, h.size, by exact h.row, h.small, below_drewN h.below q⟩

theorem PathI.push {w wr W w4 : World} {Au Ap A4 : Option Addr} {nu cu k cp c4 : Nat} {u : Tr} {ps : List ByteArray} {s : ByteArray} (h : PathI w wr Au Ap nu cu k cp u ps) (hW : Below wr.heap.size wr W) (ho : w4.ownsRow w.heap.size 9 1 (.slice A4 (k + 1) c4) (k + 1) (Jd.strs ps ++ Jd.strs [s])) (hg : W.grownBy w4 (Value.slice Ap k cp).ownBlock) (hs : s.size ≤ 30) :
    PathI w w4 Au A4 nu cu (k + 1) c4 u (ps ++ [s]) ∧ ∃ g4, A4 = some ⟨g4, 0, none⟩ ∧ g4 < w4.heap.size ∧ w4.cell? ⟨g4, k, none⟩ = some (.string s) := by
  have hp := h.row.1
  rw [Jd.strs, List.length_map, Nat.mul_one] at hp
  have hb : Below w.heap.size w w4 := (h.below.trans (hW.mono h.below.size)).grown hg (Nat.le_trans h.below.size hW.size) (fun q hq => (h.row.lt q hq).1)
  have hbr : Below w.heap.size wr w4 := (hW.mono h.below.size).grown hg (Nat.le_trans h.below.size hW.size) (fun q hq => (h.row.lt q hq).1)
  have hst : Jd.strs ps ++ Jd.strs [s] = Jd.strs (ps ++ [s]) := by simp [Jd.strs]
  refine ⟨⟨h.holds.below hbr, h.short, h.size, by rw [← hst]; exact ho, fun x hx => ?_, hb⟩, ?_⟩
  · rcases List.mem_append.1 hx with hx | hx
    · exact h.small x hx
    · simp only [List.mem_cons, List.not_mem_nil, or_false] at hx
      rw [hx]; exact hs
  · rcases ho.2 with ⟨e1, e2⟩ | ⟨g, cap, cur, e1, hg1, hh, hcap, hmx, hsz, htk⟩
    · omega
    · injection e1 with a1 a2 a3
      subst a1
      refine ⟨g, rfl, (Array.getElem?_eq_some_iff.1 hh).1, ?_⟩
      have := rowCells ho k (.string s) (by rw [hst, Jd.strs, List.getElem?_map, List.getElem?_append_right (by omega)]; simp [hp])
      rw [Addr.add_lit, Nat.zero_add] at this
      exact this
theorem PathI.kid {w wr : World} {Au Ap A5 : Option Addr} {nu cu k cp n5 c5 : Nat} {u v : Tr} {ps : List ByteArray} (h : PathI w wr Au Ap nu cu k cp u ps) (q : Nat) (hv : Holds wr w.heap.size A5 n5 v) (hs : Short v) (hz : v.size ≤ 1000) : PathI w (wr.drewN q) A5 Ap n5 c5 k cp v ps :=
  ⟨hv.drewN q, hs, hz, by exact h.row, h.small, below_drewN h.below q⟩

set_option maxHeartbeats 2000000 in
theorem path_any (t : Tr) (A An : Option Addr) (n c nn cn : Nat) (ns : List Int) (w : World) (ht : Holds w w.heap.size A n t) (hn : SeesV w w.heap.size An nn (ns.map (Value.int .i64))) (hb : ∀ x ∈ ns, -9223372036854775808 ≤ x ∧ x ≤ 9223372036854775807) (hs : Short t) (hz : t.size ≤ 1000) :
    Calls Try.prog 17 #[.slice A n c, .slice An nn cn] w (PathP w) := by
  have HI0 := Lib.hid (show PathI w w A none n c 0 0 t [] from ⟨ht, hs, hz, World.ownsRow_nil _ _ _ _, fun _ h => (by cases h), Below.refl _ _⟩)
  have Hb := Lib.hid hb
  clear ht hs hz hb
  go_enter Try.func17, Try.ntmps17
  go_wp2_with fail
  go_loopw [0, 5, 6] (fun a p i wr => ∃ (k nu cu cp : Nat) (Au Ap : Option Addr) (u : Tr) (ps : List ByteArray), k ≤ 6 ∧ k ≤ nn ∧ a = .slice Au nu cu ∧ p = .slice Ap k cp ∧ i = .int .i64 k ∧ Hid (PathI w wr Au Ap nu cu k cp u ps)) (fun _ _ i _ => 6 - (intOf i).toNat)
  case atStart => exact ⟨0, n, c, 0, A, none, t, [], by omega, Nat.zero_le _, rfl, rfl, rfl, HI0⟩
  case round =>
    obtain ⟨k, nu, cu, cp, Au, Ap, u, ps, hk6, hkn, rfl, rfl, rfl, HI⟩ := hrel
    by_cases hlt : k < nn ∧ k < 6
    · obtain ⟨hl1, hl2⟩ := hlt
      obtain ⟨bn, on, rfl, hbn, hcn⟩ := hn.int hl1
      obtain ⟨x, hx⟩ : ∃ x, x = ns.getD k 0 := ⟨_, rfl⟩
      rw [← hx] at hcn
      have hxb : -9223372036854775808 ≤ x ∧ x ≤ 9223372036854775807 := by
        have hl : k < ns.length := by have := hn.len; rw [List.length_map] at this; omega
        rw [hx, List.getD_eq_getElem?_getD, List.getElem?_eq_getElem hl]
        exact Hb.out _ (List.getElem_mem hl)
      have hcw := (HI.out.below.cell (p := ⟨bn, on + k, none⟩) hbn).trans hcn
      have hbnw : bn < wr.heap.size := by have := HI.out.below.size; omega
      have hnu := HI.out.len
      have hk1 : (k : Int) < (nn : Int) := by omega
      have hk2 : (k : Int) < 6 := by omega
      have hk0 : (0 : Int) ≤ (k : Int) := by omega
      have HW1 := Lib.hid (fun W => within_any x ((nu : Int) + 1) (by omega) (by omega) (WalkArith.wf_i64 (by omega)) W)
      obtain ⟨m, hm⟩ : ∃ m : Nat, x % ((nu : Int) + 1) = (m : Int) := ⟨(x % ((nu : Int) + 1)).toNat, by have := Int.emod_nonneg x (show (nu : Int) + 1 ≠ 0 by omega); omega⟩
      have hm2 : m ≤ nu := by have := Int.emod_lt_of_pos x (show (0 : Int) < (nu : Int) + 1 by omega); omega
      rw [hm] at HW1
      have Hl1 := Lib.hid hl1
      have Hl2 := Lib.hid hl2
      have hk15 : k + 1 ≤ 1099511627776 := by omega
      clear hx hcn hm hkn hk6 hl1 hl2
      by_cases hme : m = nu
      · subst hme
        have HW2 := Lib.hid (fun W => within_any (x.tdiv 7) 3 (by omega) (by omega) (tdiv7_wf hxb.1 hxb.2) W)
        have hE : x.tdiv 7 % 3 = 0 ∨ x.tdiv 7 % 3 = 1 ∨ x.tdiv 7 % 3 = 2 := by omega
        generalize x.tdiv 7 % 3 = E at hE HW2
        go_wp2_with fail
        refine (HW1.out _).mono ?_
        rintro e _ ⟨rfl, rfl⟩
        go_wp2_with fail
        refine (HW2.out _).mono ?_
        rintro e _ ⟨rfl, rfl⟩
        rcases hE with rfl | rfl | rfl
        · go_wp2_with (at_builtin; refine wpList_append_row rfl (.tmp 32) (.tmp 42) _ _ rfl Jd.elem_str rfl rfl ((HI.out.row.alloc _).alloc _) (src_str _ ⟨#[]⟩ _ (by simp)) hk15 (by have := HI.out.below.size; simp; omega) ?_; intro A4 c4 w4 ho4 hg4 hat4; have hst := PathI.push HI.out (((Below.refl _ _).alloc (Nat.le_refl _) _).alloc (by simp) _) ho4 hg4 (by decide); obtain ⟨hst1, g4, e4, hg4l, hc4⟩ := hst; subst e4; have HS := Lib.hid hst1; clear hst1 ho4 hg4 hat4)
          refine (kid2_any u Au m cu w.heap.size ⟨#[]⟩ _ HS.out.holds HS.out.below.size (by omega)).mono ?_
          rintro e w5 ⟨A5, n5, c5, rfl, hh5, hn5, hm5, q5, rfl⟩
          have HP5 := Lib.hid (HS.out.kid (c5 := c5) q5 hh5 (short_kid HS.out.short) (Nat.le_trans (kidT_size u ⟨#[]⟩) HS.out.size))
          clear hh5
          go_wp2_with fail
          go_roundw
          case rel => exact ⟨k + 1, n5, c5, c4, A5, _, _, _, Hl2.out, Hl1.out, rfl, rfl, by go_num, HP5⟩
          case measure => have := Hl2.out; simp [intOf]; omega
        · go_wp2_with (at_builtin; refine wpList_append_row rfl (.tmp 32) (.tmp 42) _ _ rfl Jd.elem_str rfl rfl ((HI.out.row.alloc _).alloc _) (src_str _ ⟨#[97]⟩ _ (by simp)) hk15 (by have := HI.out.below.size; simp; omega) ?_; intro A4 c4 w4 ho4 hg4 hat4; have hst := PathI.push HI.out (((Below.refl _ _).alloc (Nat.le_refl _) _).alloc (by simp) _) ho4 hg4 (by decide); obtain ⟨hst1, g4, e4, hg4l, hc4⟩ := hst; subst e4; have HS := Lib.hid hst1; clear hst1 ho4 hg4 hat4)
          refine (kid2_any u Au m cu w.heap.size ⟨#[97]⟩ _ HS.out.holds HS.out.below.size (by omega)).mono ?_
          rintro e w5 ⟨A5, n5, c5, rfl, hh5, hn5, hm5, q5, rfl⟩
          have HP5 := Lib.hid (HS.out.kid (c5 := c5) q5 hh5 (short_kid HS.out.short) (Nat.le_trans (kidT_size u ⟨#[97]⟩) HS.out.size))
          clear hh5
          go_wp2_with fail
          go_roundw
          case rel => exact ⟨k + 1, n5, c5, c4, A5, _, _, _, Hl2.out, Hl1.out, rfl, rfl, by go_num, HP5⟩
          case measure => have := Hl2.out; simp [intOf]; omega
        · go_wp2_with (at_builtin; refine wpList_append_row rfl (.tmp 32) (.tmp 42) _ _ rfl Jd.elem_str rfl rfl ((HI.out.row.alloc _).alloc _) (src_str _ ⟨#[122, 122]⟩ _ (by simp)) hk15 (by have := HI.out.below.size; simp; omega) ?_; intro A4 c4 w4 ho4 hg4 hat4; have hst := PathI.push HI.out (((Below.refl _ _).alloc (Nat.le_refl _) _).alloc (by simp) _) ho4 hg4 (by decide); obtain ⟨hst1, g4, e4, hg4l, hc4⟩ := hst; subst e4; have HS := Lib.hid hst1; clear hst1 ho4 hg4 hat4)
          refine (kid2_any u Au m cu w.heap.size ⟨#[122, 122]⟩ _ HS.out.holds HS.out.below.size (by omega)).mono ?_
          rintro e w5 ⟨A5, n5, c5, rfl, hh5, hn5, hm5, q5, rfl⟩
          have HP5 := Lib.hid (HS.out.kid (c5 := c5) q5 hh5 (short_kid HS.out.short) (Nat.le_trans (kidT_size u ⟨#[122, 122]⟩) HS.out.size))
          clear hh5
          go_wp2_with fail
          go_roundw
          case rel => exact ⟨k + 1, n5, c5, c4, A5, _, _, _, Hl2.out, Hl1.out, rfl, rfl, by go_num, HP5⟩
          case measure => have := Hl2.out; simp [intOf]; omega
      · have hml : m < nu := by omega
        obtain ⟨b, o, s, kt, r, A', n', c', e, hbu, hsu, hclu, hn', hc', hk', hr, hd, hd2⟩ := HI.out.holds.split m hml
        subst e
        have hme2 : ¬ ((m : Int) = (nu : Int)) := by omega
        have hmi : (m : Int) < (nu : Int) := by omega
        have hm0 : (0 : Int) ≤ (m : Int) := by omega
        have hsd := short_drop m HI.out.short
        have hszd := size_drop u m
        rw [hd] at hsd hszd
        obtain ⟨hs30, hsk, _⟩ := hsd
        simp only [Tr.size] at hszd
        have hus := HI.out.size
        have hktz : kt.size ≤ 1000 := by omega
        have Hk' := Lib.hid hk'
        have hbuw : b < wr.heap.size := by have := HI.out.below.size; omega
        clear hd hd2 hszd hus hr hk' hme
        go_wp2_with fail
        refine (HW1.out _).mono ?_
        rintro e _ ⟨rfl, rfl⟩
        go_wp2_with (at_builtin; refine wpList_append_row rfl (.tmp 54) (.tmp 60) _ _ rfl Jd.elem_str rfl rfl (HI.out.row.alloc _) (src_str _ s _ rfl) hk15 (by have := HI.out.below.size; simp; omega) ?_; intro A4 c4 w4 ho4 hg4 hat4; have hst := PathI.push HI.out ((Below.refl _ _).alloc (Nat.le_refl _) _) ho4 hg4 hs30; have hb4 : Below w.heap.size wr w4 := (((Below.refl _ _).alloc HI.out.below.size _).grown hg4 (by have := HI.out.below.size; simp; omega) (fun q hq => (HI.out.row.lt q hq).1)); have hcl4 := (hb4.cell (p := ⟨b, o + m * 2 + 1, none⟩) hbu).trans hclu; have HP5 := Lib.hid (PathI.kid hst.1 (c5 := c') 0 (Hk'.out.below hb4) hsk hktz); clear hst ho4 hg4 hat4)
        go_roundw
        case rel => exact ⟨k + 1, n', c', c4, A', A4, kt, _, Hl2.out, Hl1.out, rfl, rfl, by go_num, HP5⟩
        case measure => have := Hl2.out; simp [intOf]; omega
    · have hP : PathP w (.returned (.slice Ap k cp)) wr := by
        have hp := HI.out.row.1
        rw [Jd.strs, List.length_map, Nat.mul_one] at hp
        refine ⟨Ap, k, cp, ps, rfl, by omega, (own_cap HI.out.row).1, ⟨by rw [List.length_map, hp], fun j v hv => ?_⟩, HI.out.small, HI.out.below⟩
        rcases HI.out.row.2 with ⟨e1, e2⟩ | ⟨g, cap, cur, e1, hg, hh, hcap, hmx, hsz, htk⟩
        · subst e2
          have : ps = [] := List.eq_nil_of_length_eq_zero hp
          subst this
          simp at hv
        · injection e1 with a1 a2 a3
          subst a1
          refine ⟨g, 0, rfl, (Array.getElem?_eq_some_iff.1 hh).1, ?_⟩
          have := rowCells HI.out.row j v hv
          rw [Addr.add_lit] at this
          exact this
      have HP := Lib.hid hP
      have hcase : (¬ k < nn) ∨ (k < nn ∧ ¬ k < 6) := by omega
      clear hP
      rcases hcase with h1 | ⟨h1, h2⟩
      · have h1' : ¬ ((k : Int) < (nn : Int)) := by omega
        clear hlt
        go_wp2_with fail
        go_ret
        exact HP.out
      · have h1' : (k : Int) < (nn : Int) := by omega
        have h2' : ¬ ((k : Int) < 6) := by omega
        clear hlt
        go_wp2_with fail
        go_ret
        exact HP.out
end Go.Proofs.Ytkhjpmefekonhaa.Pt

namespace Go.Proofs.Ytkhjpmefekonhaa.Pt
open Go.RowKit Go.Proofs.Ytkhjpmefekonhaa.Jd Go.Proofs.Ytkhjpmefekonhaa.Cl
set_option maxRecDepth 100000

structure OkT (W : World) (A : Option Addr) (n c : Nat) (t : Tr) : Prop where
  holds : Holds W W.heap.size A n t
  cap : n ≤ c ∧ c ≤ maxLen
theorem OkT.below {w w' : World} {A : Option Addr} {n c : Nat} {t : Tr} (h : OkT w A n c t) (hb : Below w.heap.size w w') : OkT w' A n c t := ⟨(h.holds.below hb).more hb.size, h.cap⟩
structure Pth (W : World) (A : Option Addr) (n c : Nat) (ps : List ByteArray) : Prop where
  sees : SeesV W W.heap.size A n (ps.map Value.string)
  cap : n ≤ c
  few : ps.length ≤ 6
theorem seesV_more {w : World} {B B' n : Nat} {A : Option Addr} {vs : List Value} (h : SeesV w B A n vs) (hB : B ≤ B') : SeesV w B' A n vs :=
  ⟨h.len, fun j u hu => by
    obtain ⟨b, o, e, hb, hc⟩ := h.cell j u hu
    exact ⟨b, o, e, Nat.lt_of_lt_of_le hb hB, hc⟩⟩
theorem Pth.below {w w' : World} {A : Option Addr} {n c : Nat} {ps : List ByteArray} (h : Pth w A n c ps) (hb : Below w.heap.size w w') : Pth w' A n c ps := ⟨seesV_more (h.sees.below hb) hb.size, h.cap, h.few⟩
theorem Pth.len {w : World} {A : Option Addr} {n c : Nat} {ps : List ByteArray} (h : Pth w A n c ps) : n = ps.length := by have := h.sees.len; rwa [List.length_map] at this

theorem withT_size {name : ByteArray} {x : Tr} : ∀ {t : Tr}, (t.withT name x).size ≤ t.size + x.size + 1
  | .nil => by simp [Tr.withT, Tr.size]
  | .cons s k r => by
    have := withT_size (name := name) (x := x) (t := r)
    unfold Tr.withT
    split
    · simp only [Tr.size]; omega
    · split
      · simp only [Tr.size]; omega
      · simp only [Tr.size]; omega
theorem putT_size {x : Tr} : ∀ (ps : List ByteArray) (t : Tr) (N : Nat), t.size ≤ N → (putT t ps x).size ≤ ps.length * (N + 1) + x.size
  | [], _, _, _ => by simp [putT]
  | p :: ps, t, N, h => by
    have h1 := putT_size (x := x) ps (kidT t p) N (Nat.le_trans (kidT_size t p) h)
    have h2 := withT_size (name := p) (x := putT (kidT t p) ps x) (t := t)
    rw [putT]
    simp only [List.length_cons, Nat.add_mul, Nat.one_mul] at h1 ⊢
    omega
theorem withoutT_size {name : ByteArray} : ∀ {t : Tr}, (withoutT t name).size ≤ t.size
  | .nil => Nat.le_refl _
  | .cons s k r => by
    have := withoutT_size (name := name) (t := r)
    rcases cases3 s name with c1 | ⟨c1, c2⟩ | ⟨c1, c2, _⟩
    · rw [withoutT_lt c1]; simp only [Tr.size]; omega
    · rw [withoutT_eq c1 c2]; simp only [Tr.size]; omega
    · rw [withoutT_gt c1 c2]; exact Nat.le_refl _
theorem dropP_size : ∀ (ps : List ByteArray) (t : Tr) (N : Nat), t.size ≤ N → (dropP t ps).size ≤ ps.length * (N + 1)
  | [], _, _, _ => by simp [dropP, Tr.size]
  | [p], t, N, h => by
    have := withoutT_size (name := p) (t := t)
    unfold dropP
    simp only [List.length_cons, List.length_nil, Nat.zero_add, Nat.one_mul]
    split <;> omega
  | p :: q :: ps, t, N, h => by
    have h1 := dropP_size (q :: ps) (kidT t p) N (Nat.le_trans (kidT_size t p) h)
    have h2 := withT_size (name := p) (x := dropP (kidT t p) (q :: ps)) (t := t)
    unfold dropP
    simp only [List.length_cons, Nat.add_mul, Nat.one_mul] at h1 ⊢
    split <;> omega
theorem mul_few {a b N : Nat} (h : a ≤ 6) (hb : b ≤ N) : a * (b + 1) ≤ 6 * (N + 1) := Nat.mul_le_mul h (by omega)
theorem makeT_ascD (W : Nat) : ∀ (t : Tr) (l d : Nat) (acc : Tr), AscD acc → AscD (t.makeT W l d acc)
  | .nil, _, _, _, h => by simpa [Tr.makeT] using h
  | .cons s k r, l, d, acc, h => by
    unfold Tr.makeT
    split
    · exact h
    · exact makeT_ascD W r _ _ _ (withT_ascD (makeT_ascD W k _ _ .nil trivial) h)
theorem withT_short {s : ByteArray} {x : Tr} (hs : s.size ≤ 30) (hx : Short x) : ∀ {t : Tr}, Short t → Short (t.withT s x)
  | .nil, _ => ⟨hs, hx, trivial⟩
  | .cons s0 k r, ⟨h1, h2, h3⟩ => by
    unfold Tr.withT
    split
    · exact ⟨h1, h2, withT_short hs hx h3⟩
    · split
      · exact ⟨hs, hx, h3⟩
      · exact ⟨hs, hx, h1, h2, h3⟩
theorem cut30_short (s : ByteArray) : (cut30 s).size ≤ 30 := by
  unfold cut30
  rw [ByteArray.size_extract]
  omega
theorem makeT_short (W : Nat) : ∀ (t : Tr) (l d : Nat) (acc : Tr), Short acc → Short (t.makeT W l d acc)
  | .nil, _, _, _, h => by simpa [Tr.makeT] using h
  | .cons s k r, l, d, acc, h => by
    unfold Tr.makeT
    split
    · exact h
    · exact makeT_short W r _ _ _ (withT_short (cut30_short s) (makeT_short W k _ _ .nil trivial) h)

/-! The contracts in these words. -/
section
variable {W : World} {A A2 Ap An : Option Addr} {n c n2 c2 np cp nn cn : Nat} {t u : Tr} {ps : List ByteArray} {ns : List Int}
def OkP (W : World) (t : Tr) (e : Ending) (w' : World) : Prop := ∃ A' n' c', e = .returned (.slice A' n' c') ∧ OkT w' A' n' c' t ∧ Below W.heap.size W w'
theorem put_ok (h : OkT W A n c t) (h2 : OkT W A2 n2 c2 u) (hp : Pth W Ap np cp ps) (ha : AscD t) (hz : t.size ≤ 1000000) (hz2 : u.size ≤ 1000000) : Calls Try.prog 22 #[.slice A n c, .slice Ap np cp, .slice A2 n2 c2] W (OkP W (putT t ps u)) :=
  (put_any t u ps A A2 Ap n c n2 c2 np cp W h.holds h2.holds hp.sees ha (by omega) (by omega) (by have := hp.few; omega)).mono fun _ _ ⟨A', n', c', e, h1, h2, h3, h4⟩ => ⟨A', n', c', e, ⟨h3.to fun _ hb => hb.2, h1, h2⟩, h4⟩
theorem drop_ok (h : OkT W A n c t) (hp : Pth W Ap np cp ps) (ha : AscD t) (hz : t.size ≤ 1000000) : Calls Try.prog 24 #[.slice A n c, .slice Ap np cp] W (OkP W (dropP t ps)) :=
  (drop_any t ps A Ap n c np cp W h.holds hp.sees hp.cap ha (by omega) (by have := hp.few; omega)).mono fun _ _ ⟨A', n', c', e, h1, h2, h3, h4⟩ => ⟨A', n', c', e, ⟨h3.to fun _ hb => hb.2, h1, h2⟩, h4⟩
def OkG (W : World) (t : Tr) (v : Bool) (e : Ending) (w' : World) : Prop := ∃ A' n' c', e = .returned (.tuple #[.slice A' n' c', .bool v]) ∧ OkT w' A' n' c' t ∧ Below W.heap.size W w'
theorem get_ok (h : OkT W A n c t) (hp : Pth W Ap np cp ps) (ha : AscD t) (hz : t.size ≤ 1000000) {v : Bool} {u : Tr} (he : getT t ps = (u, v)) : Calls Try.prog 19 #[.slice A n c, .slice Ap np cp] W (OkG W u v) := by
  have := get_any t ps A Ap n c np cp W h.holds hp.sees ha (by omega) (by have := hp.few; omega)
  rw [he] at this
  exact this.mono fun _ _ ⟨A', n', c', e, h1, h2, h3, h4⟩ => ⟨A', n', c', e, ⟨h3.to fun _ hb => hb.2, h1, h2⟩, h4⟩
theorem same_ok (h : OkT W A n c t) (h2 : OkT W A2 n2 c2 u) (hz : t.size ≤ 1000000) (hz2 : u.size ≤ 1000000) {v : Bool} (hv : t.same u = v) : Calls Try.prog 21 #[.slice A n c, .slice A2 n2 c2] W fun e w' => e = .returned (.bool v) ∧ Below W.heap.size W w' := by
  have h1 := h.holds.len
  have h3 := h2.holds.len
  have := t.len_size
  have := u.len_size
  have := rsame_any t.size t u A A2 n n2 c c2 W.heap.size W (Nat.le_refl _) h.holds h2.holds (Nat.le_refl _) (by omega) (by omega) (low_size t (by omega)) (low_size u (by omega))
  rw [hv] at this
  exact this.mono fun _ _ ⟨e, q, hq⟩ => ⟨e, hq ▸ below_drewN (Below.refl _ _) q⟩
def OkN (W : World) (e : Ending) (w' : World) : Prop := ∃ (A' : Option Addr) (n' c' : Nat) (ps : List ByteArray), e = .returned (.slice A' n' c') ∧ Pth w' A' n' c' ps ∧ (∀ s ∈ ps, s.size ≤ 30) ∧ Below W.heap.size W w'
theorem path_ok (h : OkT W A n c t) (hn : SeesV W W.heap.size An nn (ns.map (Value.int .i64))) (hb : ∀ x ∈ ns, -9223372036854775808 ≤ x ∧ x ≤ 9223372036854775807) (hs : Short t) (hz : t.size ≤ 1000) : Calls Try.prog 17 #[.slice A n c, .slice An nn cn] W (OkN W) :=
  (path_any t A An n c nn cn ns W h.holds hn hb hs hz).mono fun _ _ ⟨A', n', c', ps, e, h1, h2, h3, h4, h5⟩ => ⟨A', n', c', ps, e, ⟨h3, h2, h1⟩, h4, h5⟩
theorem make_ok (r : Tr) (D E : Int) (B : Nat) (h : Holds W B A n r) (hB : B ≤ W.heap.size) (hc : n ≤ c ∧ c ≤ maxLen) (hz : r.size < 200) (h1 : 0 ≤ D) (h2 : D ≤ 100) (h3 : 0 ≤ E) (h4 : E ≤ 100) {u : Tr} (hu : u = r.makeT D.toNat D.toNat E.toNat .nil) : Calls Try.prog 14 #[.slice A n c, .int .i64 D, .int .i64 E] W (OkP W u) := by
  subst hu
  exact (make_any r.size r A n c B D E W (Nat.le_refl _) h hB hc.1 hc.2 (by omega) h1 h2 h3 h4).mono fun _ _ ⟨A', n', c', e, h1, h2, h3, h4⟩ => ⟨A', n', c', e, ⟨h1, h2, h3⟩, h4⟩
end
end Go.Proofs.Ytkhjpmefekonhaa.Pt
