/- Trees in memory, told with the blocks they lie in: kept, copied, one of their cells replaced by another slice that reads the same. No conditions. -/
import Derived.Test.YtlcbhooiinaalaaGreatDoorMwWords
import Derived.Test.YtlcbhooiinaalaaGreatDoorMwGrow
import Derived.Test.YtlcbhooiinaalaaGreatDoorStack
namespace Go.Proofs.YtlcbhooiinaalaaGreatDoor.Cl
open Go.RowKit
set_option maxRecDepth 100000

/-- As Holds, in blocks of which P holds. -/
def HoldsP (w : World) (P : Nat → Prop) : Option Addr → Nat → Tr → Prop
  | _, n, .nil => n = 0
  | A, n, .cons s k r => ∃ b o, A = some ⟨b, o, none⟩ ∧ P b ∧ w.cell? ⟨b, o, none⟩ = some (.string s) ∧
      (∃ A' n' c', w.cell? ⟨b, o + 1, none⟩ = some (.slice A' n' c') ∧ n' ≤ c' ∧ c' ≤ maxLen ∧ HoldsP w P A' n' k) ∧ ∃ m, n = m + 1 ∧ HoldsP w P (some ⟨b, o + 2, none⟩) m r
section
variable {w w' : World} {P P' : Nat → Prop}
theorem HoldsP.keep (hk : ∀ b o, P b → w'.cell? ⟨b, o, none⟩ = w.cell? ⟨b, o, none⟩) : ∀ {A : Option Addr} {n : Nat} {t : Tr}, HoldsP w P A n t → HoldsP w' P A n t
  | _, _, .nil, h => h
  | _, _, .cons _ _ _, ⟨b, o, e, hb, hs, ⟨A', n', c', hc, hn, hm, hk1⟩, m, hm1, hr⟩ =>
    ⟨b, o, e, hb, (hk b o hb).trans hs, ⟨A', n', c', (hk b _ hb).trans hc, hn, hm, HoldsP.keep hk hk1⟩, m, hm1, HoldsP.keep hk hr⟩
theorem HoldsP.more (hP : ∀ b, P b → P' b) : ∀ {A : Option Addr} {n : Nat} {t : Tr}, HoldsP w P A n t → HoldsP w P' A n t
  | _, _, .nil, h => h
  | _, _, .cons _ _ _, ⟨b, o, e, hb, hs, ⟨A', n', c', hc, hn, hm, hk1⟩, m, hm1, hr⟩ =>
    ⟨b, o, e, hP b hb, hs, ⟨A', n', c', hc, hn, hm, HoldsP.more hP hk1⟩, m, hm1, HoldsP.more hP hr⟩
theorem HoldsP.of {B : Nat} : ∀ {A : Option Addr} {n : Nat} {t : Tr}, Holds w B A n t → HoldsP w (· < B) A n t
  | _, _, .nil, h => h
  | _, _, .cons _ _ _, ⟨b, o, e, hb, hs, ⟨A', n', c', hc, hn, hm, hk1⟩, m, hm1, hr⟩ => ⟨b, o, e, hb, hs, ⟨A', n', c', hc, hn, hm, HoldsP.of hk1⟩, m, hm1, HoldsP.of hr⟩
theorem HoldsP.to {B : Nat} (hP : ∀ b, P b → b < B) : ∀ {A : Option Addr} {n : Nat} {t : Tr}, HoldsP w P A n t → Holds w B A n t
  | _, _, .nil, h => h
  | _, _, .cons _ _ _, ⟨b, o, e, hb, hs, ⟨A', n', c', hc, hn, hm, hk1⟩, m, hm1, hr⟩ => ⟨b, o, e, hP b hb, hs, ⟨A', n', c', hc, hn, hm, HoldsP.to hP hk1⟩, m, hm1, HoldsP.to hP hr⟩
theorem HoldsP.len : ∀ {A : Option Addr} {n : Nat} {t : Tr}, HoldsP w P A n t → n = t.len
  | _, _, .nil, h => h
  | _, _, .cons _ _ _, ⟨_, _, _, _, _, _, m, hm1, hr⟩ => by rw [hm1, HoldsP.len hr]; rfl
/-- What a slice reads as is one tree. -/
theorem HoldsP.uniq : ∀ {t u : Tr} {A : Option Addr} {n : Nat}, HoldsP w P A n t → HoldsP w P' A n u → t = u
  | .nil, .nil, _, _, _, _ => rfl
  | .nil, .cons _ _ _, _, _, h, ⟨_, _, _, _, _, _, m, hm, _⟩ => by have h : _ = 0 := h; omega
  | .cons _ _ _, .nil, _, _, ⟨_, _, _, _, _, _, m, hm, _⟩, h => by have h : _ = 0 := h; omega
  | .cons s k r, .cons s' k' r', _, _, ⟨b, o, e, _, hs, ⟨A1, n1, c1, hc, _, _, hk⟩, m, hm, hr⟩, ⟨b', o', e', _, hs', ⟨A2, n2, c2, hc', _, _, hk'⟩, m', hm', hr'⟩ => by
    rw [e] at e'
    injection e' with e'
    injection e' with e1 e2
    subst e1; subst e2
    rw [hs] at hs'
    injection hs' with hs'
    injection hs' with hs'
    subst hs'
    rw [hc] at hc'
    injection hc' with hc'
    injection hc' with a1 a2 a3
    subst a1; subst a2
    obtain rfl : m = m' := by omega
    rw [HoldsP.uniq hk hk', HoldsP.uniq hr hr']
/-- One cell holds another slice that reads the same. -/
theorem HoldsP.repl {p q n1 c1 n2 c2 : Nat} {X Y : Option Addr} {u : Tr} {cur : Array Value} {E : TypeId} (hh : w.heap[p]? = some (.cells cur E (0, 0))) (hq : w.cell? ⟨p, q, none⟩ = some (.slice X n1 c1)) (_ : HoldsP w P X n1 u) (h2 : HoldsP w P Y n2 u) (hn : n2 ≤ c2) (hm : c2 ≤ maxLen) (h1 : HoldsP w P X n1 u) :
    ∀ {A : Option Addr} {n : Nat} {t : Tr}, HoldsP w P A n t → HoldsP (w.setCell ⟨p, q, none⟩ (.slice Y n2 c2)) P A n t := by
  have hat : (w.setCell ⟨p, q, none⟩ (.slice Y n2 c2)).cell? ⟨p, q, none⟩ = some (.slice Y n2 c2) := by
    rw [cell_of_row _ _ _ _ _ _ (heap_setCell_same w p q cur E _ hh)]
    have : q < cur.size := by
      rw [cell_of_row _ _ _ _ _ _ hh] at hq
      exact (Array.getElem?_eq_some_iff.1 hq).1
    simp [this]
  have hfar : ∀ b o, ¬ (b = p ∧ o = q) → (w.setCell ⟨p, q, none⟩ (.slice Y n2 c2)).cell? ⟨b, o, none⟩ = w.cell? ⟨b, o, none⟩ := fun b o hne =>
    World.cell?_setCell_other _ _ _ _ (fun e => hne ⟨(congrArg Addr.block e).symm, (congrArg Addr.off e).symm⟩)
  intro A n t
  induction t generalizing A n with
  | nil => exact fun h => h
  | cons s k r ihk ihr =>
    rintro ⟨b, o, e, hb, hs, ⟨A', n', c', hc, hn', hm', hk⟩, m, hm1, hr⟩
    refine ⟨b, o, e, hb, ?_, ?_, m, hm1, ihr hr⟩
    · rw [hfar b o (fun ⟨e1, e2⟩ => by subst e1; subst e2; rw [hs] at hq; cases hq)]
      exact hs
    · by_cases hpq : b = p ∧ o + 1 = q
      · obtain ⟨rfl, rfl⟩ := hpq
        rw [hc] at hq
        injection hq with hq
        injection hq with a1 a2 a3
        subst a1; subst a2; subst a3
        have e := hk.uniq h1
        subst e
        exact ⟨Y, n2, c2, hat, hn, hm, ihk h2⟩
      · exact ⟨A', n', c', by rw [hfar b (o + 1) hpq]; exact hc, hn', hm', ihk hk⟩
/-- Its cells laid elsewhere. -/
theorem HoldsP.copy (hk : ∀ b o, P b → w'.cell? ⟨b, o, none⟩ = w.cell? ⟨b, o, none⟩) (hP : ∀ b, P b → P' b) : ∀ {n : Nat} {t : Tr} {b o g q : Nat}, HoldsP w P (some ⟨b, o, none⟩) n t → P' g → (∀ j, j < n * 2 → w'.cell? ⟨g, q + j, none⟩ = w.cell? ⟨b, o + j, none⟩) → HoldsP w' P' (some ⟨g, q, none⟩) n t
  | _, .nil, _, _, _, _, h, _, _ => h
  | _, .cons _ _ _, b, o, g, q, ⟨b', o', e, hb, hs, ⟨A', n', c', hc, hn, hm, hk1⟩, m, hm1, hr⟩, hg, hcp => by
    injection e with e
    injection e with e1 e2
    subst e1; subst e2
    subst hm1
    refine ⟨g, q, rfl, hg, ?_, ⟨A', n', c', ?_, hn, hm, (HoldsP.keep hk hk1).more hP⟩, m, rfl, HoldsP.copy hk hP hr hg (fun j hj => ?_)⟩
    · have := hcp 0 (by omega)
      simp only [Nat.add_zero] at this
      rw [this]; exact hs
    · rw [hcp 1 (by omega)]; exact hc
    · have := hcp (j + 2) (by omega)
      rw [show q + 2 + j = q + (j + 2) by omega, show o + 2 + j = o + (j + 2) by omega]
      exact this
/-- Its cells in a row. -/
theorem HoldsP.row : ∀ {t : Tr} {A : Option Addr} {n : Nat}, HoldsP w P A n t → ∃ vs : List Value, vs.length = n * 2 ∧ (∀ u ∈ vs, u.oneCell' = true) ∧ (∀ b o, A = some ⟨b, o, none⟩ → ∀ j u, vs[j]? = some u → w.cell? ⟨b, o + j, none⟩ = some u) ∧ (0 < n → ∃ b o, A = some ⟨b, o, none⟩ ∧ P b)
  | .nil, _, n, h => by
    have h : n = 0 := h
    subst h
    exact ⟨[], rfl, fun u hu => (by cases hu), fun _ _ _ j u hu => (by simp at hu), fun h => (by omega)⟩
  | .cons s k r, _, _, ⟨b, o, e, hb, hs, ⟨A', n', c', hc, _, _, _⟩, m, hm1, hr⟩ => by
    obtain ⟨vs, h1, h2, h3, _⟩ := HoldsP.row hr
    subst hm1
    refine ⟨.string s :: .slice A' n' c' :: vs, by simp only [List.length_cons, h1]; omega, ?_, ?_, fun _ => ⟨b, o, e, hb⟩⟩
    · intro u hu
      simp only [List.mem_cons] at hu
      rcases hu with rfl | rfl | hu
      · rfl
      · rfl
      · exact h2 u hu
    · intro b' o' e' j u hu
      rw [e] at e'
      injection e' with e'
      injection e' with e1 e2
      subst e1; subst e2
      match j, hu with
      | 0, hu => simp at hu; subst hu; exact hs
      | 1, hu => simp at hu; subst hu; exact hc
      | j + 2, hu =>
        have := h3 b (o + 2) rfl j u (by simpa using hu)
        rw [show o + (j + 2) = o + 2 + j by omega]
        exact this
end
/-- The edges of a tree, one by one: the cell of the i-th one's slice, and what it reads as. -/
def subs : Tr → List Tr
  | .nil => []
  | .cons _ k r => k :: subs r
theorem subs_len : ∀ t : Tr, (subs t).length = t.len
  | .nil => rfl
  | .cons _ _ r => by simp only [subs, List.length_cons, Tr.len, subs_len r]
theorem HoldsP.sub {w : World} {P : Nat → Prop} : ∀ {t : Tr} {b o n i : Nat} {u : Tr}, HoldsP w P (some ⟨b, o, none⟩) n t → (subs t)[i]? = some u → ∃ A' n' c', w.cell? ⟨b, o + i * 2 + 1, none⟩ = some (.slice A' n' c') ∧ n' ≤ c' ∧ c' ≤ maxLen ∧ HoldsP w P A' n' u
  | .nil, _, _, _, i, _, _, h => by simp [subs] at h
  | .cons s k r, b, o, n, 0, u, ⟨b', o', e, _, _, ⟨A', n', c', hc, hn, hm, hk⟩, _⟩, h => by
    injection e with e
    injection e with e1 e2
    subst e1; subst e2
    simp only [subs, List.getElem?_cons_zero, Option.some.injEq] at h
    subst h
    exact ⟨A', n', c', by simpa using hc, hn, hm, hk⟩
  | .cons s k r, b, o, n, i + 1, u, ⟨b', o', e, _, _, _, m, _, hr⟩, h => by
    injection e with e
    injection e with e1 e2
    subst e1; subst e2
    simp only [subs, List.getElem?_cons_succ] at h
    obtain ⟨A', n', c', hc, h2⟩ := HoldsP.sub hr h
    exact ⟨A', n', c', by rw [show o + (i + 1) * 2 + 1 = o + 2 + i * 2 + 1 by omega]; exact hc, h2⟩
/-- What the trees on the stack still have to be gone through. -/
def load : List Tr → Nat
  | [] => 0
  | t :: r => t.size + 1 + load r
theorem load_append (a b : List Tr) : load (a ++ b) = load a + load b := by
  induction a with
  | nil => simp [load]
  | cons x r ih => simp only [List.cons_append, load, ih]; omega
theorem load_subs : ∀ t : Tr, load (subs t) = t.size
  | .nil => rfl
  | .cons _ k r => by simp only [subs, load, Tr.size, load_subs r]; omega
theorem load_len (l : List Tr) : l.length ≤ load l := by
  induction l with
  | nil => exact Nat.le_refl _
  | cons x r ih => simp only [List.length_cons, load]; omega
end Go.Proofs.YtlcbhooiinaalaaGreatDoor.Cl
