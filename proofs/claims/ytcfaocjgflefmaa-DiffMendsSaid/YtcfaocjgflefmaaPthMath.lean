/- Trees and paths: what is below a path, with something put there, without it. No conditions. -/
import Derived.Test.YtcfaocjgflefmaaNamesMath
namespace Go.Proofs.Ytcfaocjgflefmaa.Pt
open Go.RowKit
set_option maxRecDepth 100000

theorem lt_iff (x y : ByteArray) : Op.bytesLess x.toList y.toList = true ↔ x.data.toList < y.data.toList := by
  rw [Go.Proofs.bytesLess_eq, ByteArray.toList_eq, ByteArray.toList_eq, decide_eq_true_iff]
theorem not_lt {x y : ByteArray} (h : Op.bytesLess x.toList y.toList = false) : Op.bytesLess y.toList x.toList = true ∨ (Op.bytesLess y.toList x.toList = false ∧ (y.toList == x.toList) = true) := by
  cases hc : Op.bytesLess y.toList x.toList with
  | true => exact .inl rfl
  | false =>
    right
    have h1 : ¬ x.data.toList < y.data.toList := fun e => by rw [(lt_iff x y).2 e] at h; cases h
    have h2 : ¬ y.data.toList < x.data.toList := fun e => by rw [(lt_iff y x).2 e] at hc; cases hc
    have := List.le_antisymm (Classical.not_not.1 (fun e => h2 (by simpa using e)) : x.data.toList ≤ y.data.toList) (Classical.not_not.1 (fun e => h1 (by simpa using e)))
    rw [ByteArray.toList_eq, ByteArray.toList_eq, this]
    exact ⟨rfl, beq_self_eq_true _⟩
theorem lt_not {x y : ByteArray} (h : Op.bytesLess x.toList y.toList = true) : Op.bytesLess y.toList x.toList = false ∧ (y.toList == x.toList) = false := by
  have h1 := (lt_iff x y).1 h
  constructor
  · cases hc : Op.bytesLess y.toList x.toList with
    | false => rfl
    | true => exact absurd (List.lt_trans h1 ((lt_iff y x).1 hc)) (List.lt_irrefl _)
  · cases hc : (y.toList == x.toList) with
    | false => rfl
    | true =>
      have := beq_iff_eq.1 hc
      rw [ByteArray.toList_eq, ByteArray.toList_eq] at this
      rw [this] at h1
      exact absurd h1 (List.lt_irrefl _)

/-- Below a name: what is there, or nothing. -/
def kidT : Tr → ByteArray → Tr
  | .nil, _ => .nil
  | .cons s k r, name => if Op.bytesLess s.toList name.toList = true then kidT r name else if (s.toList == name.toList) = true then k else .nil
def putT : Tr → List ByteArray → Tr → Tr
  | _, [], x => x
  | t, p :: ps, x => t.withT p (putT (kidT t p) ps x)
def withoutT : Tr → ByteArray → Tr
  | .nil, _ => .nil
  | .cons s k r, name => if Op.bytesLess s.toList name.toList = true then .cons s k (withoutT r name) else if (s.toList == name.toList) = true then r else .cons s k r
def dropP : Tr → List ByteArray → Tr
  | _, [] => .nil
  | t, [p] => if t.atIs p = true then withoutT t p else t
  | t, p :: q :: ps => if t.atIs p = true then t.withT p (dropP (kidT t p) (q :: ps)) else t
def getT : Tr → List ByteArray → Tr × Bool
  | t, [] => (t, true)
  | t, p :: ps => if t.atIs p = true then getT (kidT t p) ps else (.nil, false)
/-- In order at each level. -/
def AscD : Tr → Prop
  | .nil => True
  | .cons s k r => (Tr.cons s k r).Asc ∧ AscD k ∧ AscD r
theorem AscD.asc : ∀ {t : Tr}, AscD t → t.Asc
  | .nil, _ => nil_asc
  | .cons _ _ _, h => h.1

section
variable {s name : ByteArray} {k r x y : Tr}
theorem kidT_lt (h : Op.bytesLess s.toList name.toList = true) : kidT (.cons s k r) name = kidT r name := by simp [kidT, h]
theorem kidT_eq (h : Op.bytesLess s.toList name.toList = false) (h2 : (s.toList == name.toList) = true) : kidT (.cons s k r) name = k := by simp only [kidT, h, h2]; simp
theorem kidT_gt (h : Op.bytesLess s.toList name.toList = false) (h2 : (s.toList == name.toList) = false) : kidT (.cons s k r) name = .nil := by simp only [kidT, h, h2]; simp
theorem withT_lt (h : Op.bytesLess s.toList name.toList = true) : (Tr.cons s k r).withT name x = .cons s k (r.withT name x) := by simp [Tr.withT, h]
theorem withT_eq (h : Op.bytesLess s.toList name.toList = false) (h2 : (s.toList == name.toList) = true) : (Tr.cons s k r).withT name x = .cons name x r := by simp only [Tr.withT, h, h2]; simp
theorem withT_gt (h : Op.bytesLess s.toList name.toList = false) (h2 : (s.toList == name.toList) = false) : (Tr.cons s k r).withT name x = .cons name x (.cons s k r) := by simp only [Tr.withT, h, h2]; simp
theorem atN_lt (h : Op.bytesLess s.toList name.toList = true) : (Tr.cons s k r).atN name = r.atN name + 1 := by simp [Tr.atN, h]
theorem atN_ge (h : Op.bytesLess s.toList name.toList = false) : (Tr.cons s k r).atN name = 0 := by simp [Tr.atN, h]
theorem atIs_lt (h : Op.bytesLess s.toList name.toList = true) : (Tr.cons s k r).atIs name = r.atIs name := by unfold Tr.atIs; rw [atN_lt h]; rfl
theorem atIs_ge (h : Op.bytesLess s.toList name.toList = false) : (Tr.cons s k r).atIs name = (s.toList == name.toList) := by unfold Tr.atIs; rw [atN_ge h]; rfl
theorem withoutT_lt (h : Op.bytesLess s.toList name.toList = true) : withoutT (.cons s k r) name = .cons s k (withoutT r name) := by simp [withoutT, h]
theorem withoutT_eq (h : Op.bytesLess s.toList name.toList = false) (h2 : (s.toList == name.toList) = true) : withoutT (.cons s k r) name = r := by simp only [withoutT, h, h2]; simp
theorem withoutT_gt (h : Op.bytesLess s.toList name.toList = false) (h2 : (s.toList == name.toList) = false) : withoutT (.cons s k r) name = .cons s k r := by simp only [withoutT, h, h2]; simp
end
/-- Names held against each other. -/
theorem cases3 (s name : ByteArray) : Op.bytesLess s.toList name.toList = true ∨ (Op.bytesLess s.toList name.toList = false ∧ (s.toList == name.toList) = true) ∨ (Op.bytesLess s.toList name.toList = false ∧ (s.toList == name.toList) = false ∧ Op.bytesLess name.toList s.toList = true) := by
  cases h : Op.bytesLess s.toList name.toList with
  | true => exact .inl rfl
  | false =>
    right
    cases h2 : (s.toList == name.toList) with
    | true => exact .inl ⟨rfl, rfl⟩
    | false =>
      refine .inr ⟨rfl, rfl, ?_⟩
      rcases not_lt h with h3 | ⟨_, h3⟩
      · exact h3
      · have := beq_iff_eq.1 h3
        rw [this, beq_self_eq_true] at h2
        cases h2
theorem names_of_eq {s name : ByteArray} (h : (s.toList == name.toList) = true) : s = name := bytes_eq (beq_iff_eq.1 h)
theorem self_not_lt (s : ByteArray) : Op.bytesLess s.toList s.toList = false := by
  cases h : Op.bytesLess s.toList s.toList with
  | false => rfl
  | true => exact absurd ((less_iff _ _).1 h) (List.lt_irrefl _)
theorem self_eq (s : ByteArray) : (s.toList == s.toList) = true := beq_self_eq_true _

theorem kidT_not : ∀ {t : Tr} {name : ByteArray}, t.atIs name = false → kidT t name = .nil
  | .nil, _, _ => rfl
  | .cons s k r, name, h => by
    rcases cases3 s name with h1 | ⟨h1, h2⟩ | ⟨h1, h2, _⟩
    · rw [kidT_lt h1]; exact kidT_not (by rw [← h, atIs_lt h1])
    · rw [atIs_ge h1, h2] at h; cases h
    · exact kidT_gt h1 h2
theorem kidT_size : ∀ (t : Tr) (name : ByteArray), (kidT t name).size ≤ t.size
  | .nil, _ => Nat.le_refl _
  | .cons s k r, name => by
    simp only [Tr.size]
    rcases cases3 s name with h1 | ⟨h1, h2⟩ | ⟨h1, h2, _⟩
    · rw [kidT_lt h1]; have := kidT_size r name; omega
    · rw [kidT_eq h1 h2]; omega
    · rw [kidT_gt h1 h2]; simp [Tr.size]
theorem kidT_asc : ∀ {t : Tr} {name : ByteArray}, AscD t → AscD (kidT t name)
  | .nil, _, _ => trivial
  | .cons s k r, name, ⟨_, h2, h3⟩ => by
    rcases cases3 s name with h1 | ⟨h1, h2'⟩ | ⟨h1, h2', _⟩
    · rw [kidT_lt h1]; exact kidT_asc h3
    · rw [kidT_eq h1 h2']; exact h2
    · rw [kidT_gt h1 h2']; trivial
theorem withT_ascD {name : ByteArray} {x : Tr} (hx : AscD x) : ∀ {t : Tr}, AscD t → AscD (t.withT name x)
  | .nil, _ => ⟨by have := withT_asc (name := name) (x := x) nil_asc; exact this, hx, trivial⟩
  | .cons s k r, ⟨h1, h2, h3⟩ => by
    have ha := withT_asc (name := name) (x := x) h1
    rcases cases3 s name with c1 | ⟨c1, c2⟩ | ⟨c1, c2, _⟩
    · rw [withT_lt c1] at ha ⊢; exact ⟨ha, h2, withT_ascD hx h3⟩
    · rw [withT_eq c1 c2] at ha ⊢; exact ⟨ha, hx, h3⟩
    · rw [withT_gt c1 c2] at ha ⊢; exact ⟨ha, hx, h1, h2, h3⟩
theorem putT_ascD {x : Tr} (hx : AscD x) : ∀ {ps : List ByteArray} {t : Tr}, AscD t → AscD (putT t ps x)
  | [], _, _ => hx
  | _ :: _, _, h => withT_ascD (putT_ascD hx (kidT_asc h)) h
theorem withoutT_mem {name : ByteArray} {y : List UInt8} : ∀ {t : Tr}, y ∈ (withoutT t name).bn → y ∈ t.bn
  | .nil, h => h
  | .cons s k r, h => by
    rcases cases3 s name with c1 | ⟨c1, c2⟩ | ⟨c1, c2, _⟩
    · rw [withoutT_lt c1, bn_cons, List.mem_cons] at h
      rw [bn_cons, List.mem_cons]
      exact h.imp id withoutT_mem
    · rw [withoutT_eq c1 c2] at h
      rw [bn_cons, List.mem_cons]
      exact .inr h
    · rw [withoutT_gt c1 c2] at h; exact h
theorem withoutT_ascD {name : ByteArray} : ∀ {t : Tr}, AscD t → AscD (withoutT t name)
  | .nil, _ => trivial
  | .cons s k r, ⟨h1, h2, h3⟩ => by
    rcases cases3 s name with c1 | ⟨c1, c2⟩ | ⟨c1, c2, _⟩
    · rw [withoutT_lt c1]
      refine ⟨?_, h2, withoutT_ascD h3⟩
      unfold Tr.Asc at h1 ⊢
      rw [bn_cons, List.pairwise_cons] at h1 ⊢
      exact ⟨fun y hy => h1.1 y (withoutT_mem hy), (withoutT_ascD h3).asc⟩
    · rw [withoutT_eq c1 c2]; exact h3
    · rw [withoutT_gt c1 c2]; exact ⟨h1, h2, h3⟩
theorem dropP_ascD : ∀ {ps : List ByteArray} {t : Tr}, AscD t → AscD (dropP t ps)
  | [], _, _ => trivial
  | [p], t, h => by
    unfold dropP
    split
    · exact withoutT_ascD h
    · exact h
  | p :: q :: ps, t, h => by
    unfold dropP
    split
    · exact withT_ascD (dropP_ascD (kidT_asc h)) h
    · exact h

/-! What is put at a name is found there; nothing else is another one. -/
theorem with_is {name : ByteArray} {x : Tr} : ∀ {t : Tr}, (t.withT name x).atIs name = true ∧ kidT (t.withT name x) name = x
  | .nil => by
    show (Tr.cons name x .nil).atIs name = true ∧ kidT (.cons name x .nil) name = x
    rw [atIs_ge (self_not_lt name), kidT_eq (self_not_lt name) (self_eq name)]
    exact ⟨self_eq name, rfl⟩
  | .cons s k r => by
    rcases cases3 s name with c1 | ⟨c1, c2⟩ | ⟨c1, c2, _⟩
    · rw [withT_lt c1, atIs_lt c1, kidT_lt c1]; exact with_is
    · rw [withT_eq c1 c2, atIs_ge (self_not_lt name), kidT_eq (self_not_lt name) (self_eq name)]; exact ⟨self_eq name, rfl⟩
    · rw [withT_gt c1 c2, atIs_ge (self_not_lt name), kidT_eq (self_not_lt name) (self_eq name)]; exact ⟨self_eq name, rfl⟩
theorem lt_trans' {a b c : ByteArray} (h : Op.bytesLess a.toList b.toList = true) (k : Op.bytesLess b.toList c.toList = true) : Op.bytesLess a.toList c.toList = true :=
  (less_iff _ _).2 (List.lt_trans ((less_iff _ _).1 h) ((less_iff _ _).1 k))
theorem with_other {name q : ByteArray} {x : Tr} (hne : (name.toList == q.toList) = false) : ∀ {t : Tr}, t.Asc → (t.withT name x).atIs q = t.atIs q ∧ kidT (t.withT name x) q = kidT t q
  | .nil, _ => by
    show (Tr.cons name x .nil).atIs q = _ ∧ kidT (.cons name x .nil) q = _
    rcases cases3 name q with c1 | ⟨c1, c2⟩ | ⟨c1, c2, _⟩
    · rw [atIs_lt c1, kidT_lt c1]; exact ⟨rfl, rfl⟩
    · rw [c2] at hne; cases hne
    · rw [atIs_ge c1, kidT_gt c1 c2, c2]; exact ⟨rfl, rfl⟩
  | .cons s k r, ha => by
    have ha' := ha
    unfold Tr.Asc at ha'
    rw [bn_cons, List.pairwise_cons] at ha'
    rcases cases3 s name with c1 | ⟨c1, c2⟩ | ⟨c1, c2, c3⟩
    · rw [withT_lt c1]
      rcases cases3 s q with d1 | ⟨d1, d2⟩ | ⟨d1, d2, _⟩
      · rw [atIs_lt d1, atIs_lt d1, kidT_lt d1, kidT_lt d1]; exact with_other hne (t := r) ha'.2
      · rw [atIs_ge d1, atIs_ge d1, kidT_eq d1 d2, kidT_eq d1 d2]; exact ⟨rfl, rfl⟩
      · rw [atIs_ge d1, atIs_ge d1, kidT_gt d1 d2, kidT_gt d1 d2]; exact ⟨rfl, rfl⟩
    · have e := names_of_eq c2
      subst e
      rw [withT_eq c1 c2]
      rcases cases3 s q with d1 | ⟨d1, d2⟩ | ⟨d1, d2, _⟩
      · rw [atIs_lt d1, atIs_lt d1, kidT_lt d1, kidT_lt d1]; exact ⟨rfl, rfl⟩
      · rw [d2] at hne; cases hne
      · rw [atIs_ge d1, atIs_ge d1, kidT_gt d1 d2, kidT_gt d1 d2]; exact ⟨rfl, rfl⟩
    · rw [withT_gt c1 c2]
      rcases cases3 name q with d1 | ⟨d1, d2⟩ | ⟨d1, d2, d3⟩
      · rw [atIs_lt d1, kidT_lt d1]; exact ⟨rfl, rfl⟩
      · rw [d2] at hne; cases hne
      · have d4 := lt_trans' d3 c3
        obtain ⟨d5, d6⟩ := lt_not d4
        rw [atIs_ge d1, kidT_gt d1 d2, d2, atIs_ge d5, d6, kidT_gt d5 d6]; exact ⟨rfl, rfl⟩
theorem get_put {x : Tr} : ∀ (ps : List ByteArray) (t : Tr), getT (putT t ps x) ps = (x, true)
  | [], _ => rfl
  | p :: ps, t => by
    rw [putT, getT, if_pos with_is.1, with_is.2]
    exact get_put ps _
theorem get_apart {x : Tr} {p q : ByteArray} {ps qs : List ByteArray} {t : Tr} (ha : t.Asc) (hne : (p.toList == q.toList) = false) : getT (putT t (p :: ps) x) (q :: qs) = getT t (q :: qs) := by
  obtain ⟨h1, h2⟩ := with_other (x := putT (kidT t p) ps x) hne ha
  rw [putT, getT, getT, h1, h2]
theorem with_with {name : ByteArray} {x y : Tr} : ∀ {t : Tr}, (t.withT name x).withT name y = t.withT name y
  | .nil => by
    show (Tr.cons name x .nil).withT name y = Tr.cons name y .nil
    rw [withT_eq (self_not_lt name) (self_eq name)]
  | .cons s k r => by
    rcases cases3 s name with c1 | ⟨c1, c2⟩ | ⟨c1, c2, _⟩
    · rw [withT_lt c1, withT_lt c1, withT_lt c1, with_with]
    · rw [withT_eq c1 c2, withT_eq c1 c2, withT_eq (self_not_lt name) (self_eq name)]
    · rw [withT_gt c1 c2, withT_gt c1 c2, withT_eq (self_not_lt name) (self_eq name)]
/-- Without what was just put. -/
theorem without_with {name : ByteArray} {x : Tr} : ∀ {t : Tr}, t.Asc → (withoutT (t.withT name x) name).atIs name = false ∧ (withoutT (t.withT name x) name).withT name x = t.withT name x
  | .nil, _ => by
    show (withoutT (Tr.cons name x .nil) name).atIs name = false ∧ (withoutT (Tr.cons name x .nil) name).withT name x = Tr.cons name x .nil
    rw [withoutT_eq (self_not_lt name) (self_eq name)]
    exact ⟨rfl, rfl⟩
  | .cons s k r, ha => by
    have ha' := ha
    unfold Tr.Asc at ha'
    rw [bn_cons, List.pairwise_cons] at ha'
    -- what stands behind is behind the name
    have hb : ∀ (r : Tr), (∀ y ∈ r.bn, name.data.toList < y) → r.atIs name = false ∧ r.withT name x = .cons name x r := by
      intro r hr
      cases r with
      | nil => exact ⟨rfl, rfl⟩
      | cons s2 k2 r2 =>
        have h1 := (less_iff name s2).2 (hr s2.data.toList (by rw [bn_cons]; exact List.mem_cons_self))
        obtain ⟨h2, h3⟩ := lt_not h1
        rw [atIs_ge h2, h3, withT_gt h2 h3]
        exact ⟨rfl, rfl⟩
    rcases cases3 s name with c1 | ⟨c1, c2⟩ | ⟨c1, c2, c3⟩
    · obtain ⟨h1, h2⟩ := without_with (name := name) (x := x) (t := r) ha'.2
      rw [withT_lt c1, withoutT_lt c1, atIs_lt c1, withT_lt c1, h2]
      exact ⟨h1, rfl⟩
    · have e := names_of_eq c2
      subst e
      rw [withT_eq c1 c2, withoutT_eq c1 c2]
      exact hb r ha'.1
    · rw [withT_gt c1 c2, withoutT_eq (self_not_lt name) (self_eq name)]
      refine hb _ fun y hy => ?_
      rw [bn_cons, List.mem_cons] at hy
      rcases hy with rfl | hy
      · exact (less_iff _ _).1 c3
      · exact List.lt_trans ((less_iff _ _).1 c3) (ha'.1 y hy)
theorem drop_put {x : Tr} : ∀ (ps : List ByteArray) (t : Tr), ps ≠ [] → AscD t → (getT (dropP (putT t ps x) ps) ps).2 = false ∧ putT (dropP (putT t ps x) ps) ps x = putT t ps x ∧ dropP (dropP (putT t ps x) ps) ps = dropP (putT t ps x) ps
  | [], _, h, _ => absurd rfl h
  | [p], t, _, ha => by
    obtain ⟨h1, h2⟩ := without_with (name := p) (x := x) ha.asc
    have e : dropP (putT t [p] x) [p] = withoutT (t.withT p x) p := by
      rw [show putT t [p] x = t.withT p x from rfl, dropP, if_pos with_is.1]
    rw [e]
    refine ⟨?_, ?_, ?_⟩
    · rw [getT, if_neg (by rw [h1]; simp)]
    · rw [show putT (withoutT (t.withT p x) p) [p] x = (withoutT (t.withT p x) p).withT p x from rfl, h2]
      rfl
    · rw [dropP, if_neg (by rw [h1]; simp)]
  | p :: q :: ps, t, _, ha => by
    obtain ⟨h1, h2, h3⟩ := drop_put (x := x) (q :: ps) (kidT t p) (by simp) (kidT_asc ha)
    have e : dropP (putT t (p :: q :: ps) x) (p :: q :: ps) = t.withT p (dropP (putT (kidT t p) (q :: ps) x) (q :: ps)) := by
      rw [putT, dropP, if_pos with_is.1, with_is.2, with_with]
    rw [e]
    refine ⟨?_, ?_, ?_⟩
    · rw [getT, if_pos with_is.1, with_is.2]; exact h1
    · rw [putT, with_is.2, with_with, h2, ← putT]
    · rw [dropP, if_pos with_is.1, with_is.2, with_with, h3]
end Go.Proofs.Ytcfaocjgflefmaa.Pt
