/- Trees in memory, told with the blocks they lie in: kept, copied, one of their cells replaced by another slice that reads the same. No conditions. · The reference's checker: it goes through a tree level by level. Conditions: fewer than 2^47 edges beside one another. · A row of edges of one's own, being grown: what stands below its edges lies in other rows. No conditions. -/
import Derived.Test.YtecnilcfhicfmaaGreatDoorMw0
import Derived.Test.YtecnilcfhicfmaaGreatDoorMw2
import Derived.Test.YtecnilcfhicfmaaGreatDoorStack
import Derived.Test.YtecnilcfhicfmaaGreatDoorMw8
import Derived.Test.YtecnilcfhicfmaaGreatDoorChkP
import Derived.Deep.QuietTactic
import Derived.BigQuiet
import Derived.IntWalk
import Derived.Test.YtecnilcfhicfmaaGreatDoorMw3
namespace Go.Proofs.YtecnilcfhicfmaaGreatDoor.Cl
open Go.RowKit
set_option maxRecDepth 100000

/-- As Holds, in blocks of which P holds. -/
def HoldsP (w : World) (P : Nat → Prop) : Option Addr → Nat → Tr → Prop
  | _, n, .nil => n = 0
  | A, n, .cons s k r => ∃ b o, A = some ⟨b, o, none⟩ ∧ P b ∧ w.cell? ⟨b, o, none⟩ = some (.string s) ∧
      (∃ A' n' c', w.cell? ⟨b, o + 1, none⟩ = some (.slice A' n' c') ∧ n' ≤ c' ∧ c' ≤ maxLen ∧ HoldsP w P A' n' k) ∧ ∃ m, n = m + 1 ∧ HoldsP w P (some ⟨b, o + 2, none⟩) m r
section
variable {w w' : World} {P P' : Nat → Prop}
theorem HoldsP.keep (hk : ∀ b o, P b → w'.cell? ⟨b, o, none⟩ = w.cell? ⟨b, o, none⟩) : ∀ {A : Option Addr} {n : Nat} {t : Tr}, HoldsP w P A n t → HoldsP w' P A n t
  | _, _, .nil, h => h
  | _, _, .cons _ _ _, ⟨b, o, e, hb, hs, ⟨A', n', c', hc, hn, hm, hk1⟩, m, hm1, hr⟩ =>
    ⟨b, o, e, hb, (hk b o hb).trans hs, ⟨A', n', c', (hk b _ hb).trans hc, hn, hm, HoldsP.keep hk hk1⟩, m, hm1, HoldsP.keep hk hr⟩
theorem HoldsP.more (hP : ∀ b, P b → P' b) : ∀ {A : Option Addr} {n : Nat} {t : Tr}, HoldsP w P A n t → HoldsP w P' A n t
  | _, _, .nil, h => h
  | _, _, .cons _ _ _, ⟨b, o, e, hb, hs, ⟨A', n', c', hc, hn, hm, hk1⟩, m, hm1, hr⟩ =>
    ⟨b, o, e, hP b hb, hs, ⟨A', n', c', hc, hn, hm, HoldsP.more hP hk1⟩, m, hm1, HoldsP.more hP hr⟩
theorem HoldsP.of {B : Nat} : ∀ {A : Option Addr} {n : Nat} {t : Tr}, Holds w B A n t → HoldsP w (· < B) A n t
  | _, _, .nil, h => h
  | _, _, .cons _ _ _, ⟨b, o, e, hb, hs, ⟨A', n', c', hc, hn, hm, hk1⟩, m, hm1, hr⟩ => ⟨b, o, e, hb, hs, ⟨A', n', c', hc, hn, hm, HoldsP.of hk1⟩, m, hm1, HoldsP.of hr⟩
theorem HoldsP.to {B : Nat} (hP : ∀ b, P b → b < B) : ∀ {A : Option Addr} {n : Nat} {t : Tr}, HoldsP w P A n t → Holds w B A n t
  | _, _, .nil, h => h
  | _, _, .cons _ _ _, ⟨b, o, e, hb, hs, ⟨A', n', c', hc, hn, hm, hk1⟩, m, hm1, hr⟩ => ⟨b, o, e, hP b hb, hs, ⟨A', n', c', hc, hn, hm, HoldsP.to hP hk1⟩, m, hm1, HoldsP.to hP hr⟩
theorem HoldsP.len : ∀ {A : Option Addr} {n : Nat} {t : Tr}, HoldsP w P A n t → n = t.len
  | _, _, .nil, h => h
  | _, _, .cons _ _ _, ⟨_, _, _, _, _, _, m, hm1, hr⟩ => by rw [hm1, HoldsP.len hr]; rfl
/-- What a slice reads as is one tree. -/
theorem HoldsP.uniq : ∀ {t u : Tr} {A : Option Addr} {n : Nat}, HoldsP w P A n t → HoldsP w P' A n u → t = u
  | .nil, .nil, _, _, _, _ => rfl
  | .nil, .cons _ _ _, _, _, h, ⟨_, _, _, _, _, _, m, hm, _⟩ => by have h : _ = 0 := h; omega
  | .cons _ _ _, .nil, _, _, ⟨_, _, _, _, _, _, m, hm, _⟩, h => by have h : _ = 0 := h; omega
  | .cons s k r, .cons s' k' r', _, _, ⟨b, o, e, _, hs, ⟨A1, n1, c1, hc, _, _, hk⟩, m, hm, hr⟩, ⟨b', o', e', _, hs', ⟨A2, n2, c2, hc', _, _, hk'⟩, m', hm', hr'⟩ => by
    rw [e] at e'
    injection e' with e'
    injection e' with e1 e2
    subst e1; subst e2
    rw [hs] at hs'
    injection hs' with hs'
    injection hs' with hs'
    subst hs'
    rw [hc] at hc'
    injection hc' with hc'
    injection hc' with a1 a2 a3
    subst a1; subst a2
    obtain rfl : m = m' := by omega
    rw [HoldsP.uniq hk hk', HoldsP.uniq hr hr']
/-- One cell holds another slice that reads the same. -/
theorem HoldsP.repl {p q n1 c1 n2 c2 : Nat} {X Y : Option Addr} {u : Tr} {cur : Array Value} {E : TypeId} (hh : w.heap[p]? = some (.cells cur E (0, 0))) (hq : w.cell? ⟨p, q, none⟩ = some (.slice X n1 c1)) (_ : HoldsP w P X n1 u) (h2 : HoldsP w P Y n2 u) (hn : n2 ≤ c2) (hm : c2 ≤ maxLen) (h1 : HoldsP w P X n1 u) :
    ∀ {A : Option Addr} {n : Nat} {t : Tr}, HoldsP w P A n t → HoldsP (w.setCell ⟨p, q, none⟩ (.slice Y n2 c2)) P A n t := by
  have hat : (w.setCell ⟨p, q, none⟩ (.slice Y n2 c2)).cell? ⟨p, q, none⟩ = some (.slice Y n2 c2) := by
    rw [cell_of_row _ _ _ _ _ _ (heap_setCell_same w p q cur E _ hh)]
    have : q < cur.size := by
      rw [cell_of_row _ _ _ _ _ _ hh] at hq
      exact (Array.getElem?_eq_some_iff.1 hq).1
    simp [this]
  have hfar : ∀ b o, ¬ (b = p ∧ o = q) → (w.setCell ⟨p, q, none⟩ (.slice Y n2 c2)).cell? ⟨b, o, none⟩ = w.cell? ⟨b, o, none⟩ := fun b o hne =>
    World.cell?_setCell_other _ _ _ _ (fun e => hne ⟨(congrArg Addr.block e).symm, (congrArg Addr.off e).symm⟩)
  intro A n t
  induction t generalizing A n with
  | nil => exact fun h => h
  | cons s k r ihk ihr =>
    rintro ⟨b, o, e, hb, hs, ⟨A', n', c', hc, hn', hm', hk⟩, m, hm1, hr⟩
    refine ⟨b, o, e, hb, ?_, ?_, m, hm1, ihr hr⟩
    · rw [hfar b o (fun ⟨e1, e2⟩ => by subst e1; subst e2; rw [hs] at hq; cases hq)]
      exact hs
    · by_cases hpq : b = p ∧ o + 1 = q
      · obtain ⟨rfl, rfl⟩ := hpq
        rw [hc] at hq
        injection hq with hq
        injection hq with a1 a2 a3
        subst a1; subst a2; subst a3
        have e := hk.uniq h1
        subst e
        exact ⟨Y, n2, c2, hat, hn, hm, ihk h2⟩
      · exact ⟨A', n', c', by rw [hfar b (o + 1) hpq]; exact hc, hn', hm', ihk hk⟩
/-- Its cells laid elsewhere. -/
theorem HoldsP.copy (hk : ∀ b o, P b → w'.cell? ⟨b, o, none⟩ = w.cell? ⟨b, o, none⟩) (hP : ∀ b, P b → P' b) : ∀ {n : Nat} {t : Tr} {b o g q : Nat}, HoldsP w P (some ⟨b, o, none⟩) n t → P' g → (∀ j, j < n * 2 → w'.cell? ⟨g, q + j, none⟩ = w.cell? ⟨b, o + j, none⟩) → HoldsP w' P' (some ⟨g, q, none⟩) n t
  | _, .nil, _, _, _, _, h, _, _ => h
  | _, .cons _ _ _, b, o, g, q, ⟨b', o', e, hb, hs, ⟨A', n', c', hc, hn, hm, hk1⟩, m, hm1, hr⟩, hg, hcp => by
    injection e with e
    injection e with e1 e2
    subst e1; subst e2
    subst hm1
    refine ⟨g, q, rfl, hg, ?_, ⟨A', n', c', ?_, hn, hm, (HoldsP.keep hk hk1).more hP⟩, m, rfl, HoldsP.copy hk hP hr hg (fun j hj => ?_)⟩
    · have := hcp 0 (by omega)
      simp only [Nat.add_zero] at this
      rw [this]; exact hs
    · rw [hcp 1 (by omega)]; exact hc
    · have := hcp (j + 2) (by omega)
      rw [show q + 2 + j = q + (j + 2) by omega, show o + 2 + j = o + (j + 2) by omega]
      exact this
/-- Its cells in a row. -/
theorem HoldsP.row : ∀ {t : Tr} {A : Option Addr} {n : Nat}, HoldsP w P A n t → ∃ vs : List Value, vs.length = n * 2 ∧ (∀ u ∈ vs, u.oneCell' = true) ∧ (∀ b o, A = some ⟨b, o, none⟩ → ∀ j u, vs[j]? = some u → w.cell? ⟨b, o + j, none⟩ = some u) ∧ (0 < n → ∃ b o, A = some ⟨b, o, none⟩ ∧ P b)
  | .nil, _, n, h => by
    have h : n = 0 := h
    subst h
    exact ⟨[], rfl, fun u hu => (by cases hu), fun _ _ _ j u hu => (by simp at hu), fun h => (by omega)⟩
  | .cons s k r, _, _, ⟨b, o, e, hb, hs, ⟨A', n', c', hc, _, _, _⟩, m, hm1, hr⟩ => by
    obtain ⟨vs, h1, h2, h3, _⟩ := HoldsP.row hr
    subst hm1
    refine ⟨.string s :: .slice A' n' c' :: vs, by simp only [List.length_cons, h1]; omega, ?_, ?_, fun _ => ⟨b, o, e, hb⟩⟩
    · intro u hu
      simp only [List.mem_cons] at hu
      rcases hu with rfl | rfl | hu
      · rfl
      · rfl
      · exact h2 u hu
    · intro b' o' e' j u hu
      rw [e] at e'
      injection e' with e'
      injection e' with e1 e2
      subst e1; subst e2
      match j, hu with
      | 0, hu => simp at hu; subst hu; exact hs
      | 1, hu => simp at hu; subst hu; exact hc
      | j + 2, hu =>
        have := h3 b (o + 2) rfl j u (by simpa using hu)
        rw [show o + (j + 2) = o + 2 + j by omega]
        exact this
end
/-- The edges of a tree, one by one: the cell of the i-th one's slice, and what it reads as. -/
def subs : Tr → List Tr
  | .nil => []
  | .cons _ k r => k :: subs r
theorem subs_len : ∀ t : Tr, (subs t).length = t.len
  | .nil => rfl
  | .cons _ _ r => by simp only [subs, List.length_cons, Tr.len, subs_len r]
theorem HoldsP.sub {w : World} {P : Nat → Prop} : ∀ {t : Tr} {b o n i : Nat} {u : Tr}, HoldsP w P (some ⟨b, o, none⟩) n t → (subs t)[i]? = some u → ∃ A' n' c', w.cell? ⟨b, o + i * 2 + 1, none⟩ = some (.slice A' n' c') ∧ n' ≤ c' ∧ c' ≤ maxLen ∧ HoldsP w P A' n' u
  | .nil, _, _, _, i, _, _, h => by simp [subs] at h
  | .cons s k r, b, o, n, 0, u, ⟨b', o', e, _, _, ⟨A', n', c', hc, hn, hm, hk⟩, _⟩, h => by
    injection e with e
    injection e with e1 e2
    subst e1; subst e2
    simp only [subs, List.getElem?_cons_zero, Option.some.injEq] at h
    subst h
    exact ⟨A', n', c', by simpa using hc, hn, hm, hk⟩
  | .cons s k r, b, o, n, i + 1, u, ⟨b', o', e, _, _, _, m, _, hr⟩, h => by
    injection e with e
    injection e with e1 e2
    subst e1; subst e2
    simp only [subs, List.getElem?_cons_succ] at h
    obtain ⟨A', n', c', hc, h2⟩ := HoldsP.sub hr h
    exact ⟨A', n', c', by rw [show o + (i + 1) * 2 + 1 = o + 2 + i * 2 + 1 by omega]; exact hc, h2⟩
/-- What the trees on the stack still have to be gone through. -/
def load : List Tr → Nat
  | [] => 0
  | t :: r => t.size + 1 + load r
theorem load_append (a b : List Tr) : load (a ++ b) = load a + load b := by
  induction a with
  | nil => simp [load]
  | cons x r ih => simp only [List.cons_append, load, ih]; omega
theorem load_subs : ∀ t : Tr, load (subs t) = t.size
  | .nil => rfl
  | .cons _ k r => by simp only [subs, load, Tr.size, load_subs r]; omega
theorem load_len (l : List Tr) : l.length ≤ load l := by
  induction l with
  | nil => exact Nat.le_refl _
  | cons x r ih => simp only [List.length_cons, load]; omega
end Go.Proofs.YtecnilcfhicfmaaGreatDoor.Cl
namespace Go.Proofs.YtecnilcfhicfmaaGreatDoor.Jd
open Go.RowKit
set_option maxRecDepth 100000

/-- The name ahead of the k-th edge. -/
def nameAt : Tr → Nat → Option ByteArray
  | .nil, _ => none
  | .cons s _ _, 0 => some s
  | .cons _ _ r, k + 1 => nameAt r k
def prv (t : Tr) (k : Nat) : Option ByteArray := if k = 0 then none else nameAt t (k - 1)
theorem nameAt_drop : ∀ (t : Tr) (k : Nat) {s : ByteArray} {kt r : Tr}, t.dropT k = .cons s kt r → nameAt t k = some s
  | .nil, k, _, _, _, h => by cases k <;> simp [Tr.dropT] at h
  | .cons s0 k0 r0, 0, s, kt, r, h => by
    rw [dropT_zero] at h
    injection h with h _ _
    rw [← h]; rfl
  | .cons s0 k0 r0, k + 1, _, _, _, h => by
    simp only [Tr.dropT] at h
    exact nameAt_drop r0 k h

/-- What walk's loop keeps: as if it began at the k-th edge; or a fault was found. -/
def WalkI (d : Nat) (t : Tr) (m0 : Nat) (k m e : Nat) : Prop :=
  (e = 0 → m ≤ 400 ∧ walkC d (t.dropT k) (prv t k) m = walkC d t none m0) ∧ (e ≠ 0 → walkC d t none m0 = (m, e))
theorem WalkI.start (d : Nat) (t : Tr) (m0 : Nat) (h : m0 ≤ 400) : WalkI d t m0 0 m0 0 := ⟨fun _ => ⟨h, by rw [dropT_zero]; rfl⟩, fun h => absurd rfl h⟩
theorem WalkI.fin {d m0 k m e : Nat} {t : Tr} (h : WalkI d t m0 k m e) (hk : t.len ≤ k) : walkC d t none m0 = (m, e) := by
  by_cases he : e = 0
  · subst he
    rw [← (h.1 rfl).2, drop_len t k hk]
    rfl
  · exact h.2 he
section
variable {d m0 k m : Nat} {t kt r : Tr} {s : ByteArray}
theorem WalkI.step (h : WalkI d t m0 k m 0) (hd : t.dropT k = .cons s kt r) (hd2 : t.dropT (k + 1) = r) :
    (400 < m + 1 → WalkI d t m0 (k + 1) (m + 1) 4) ∧
    (¬ 400 < m + 1 → 12 < d → WalkI d t m0 (k + 1) (m + 1) 11) ∧
    (¬ 400 < m + 1 → ¬ 12 < d → 80 < s.size → WalkI d t m0 (k + 1) (m + 1) 5) ∧
    (¬ 400 < m + 1 → ¬ 12 < d → ¬ 80 < s.size → notAfter (prv t k) s = true → WalkI d t m0 (k + 1) (m + 1) 12) ∧
    (¬ 400 < m + 1 → ¬ 12 < d → ¬ 80 < s.size → ¬ notAfter (prv t k) s = true → WalkI d t m0 (k + 1) (walkC (d + 1) kt none (m + 1)).1 (walkC (d + 1) kt none (m + 1)).2) := by
  obtain ⟨_, hw⟩ := h.1 rfl
  rw [hd] at hw
  simp only [walkC] at hw
  have hn : nameAt t k = some s := nameAt_drop t k hd
  refine ⟨fun h1 => ?_, fun h1 h2 => ?_, fun h1 h2 h3 => ?_, fun h1 h2 h3 h4 => ?_, fun h1 h2 h3 h4 => ?_⟩
  · rw [if_pos h1] at hw
    exact ⟨fun e => absurd e (by decide), fun _ => hw.symm⟩
  · rw [if_neg h1, if_pos h2] at hw
    exact ⟨fun e => absurd e (by decide), fun _ => hw.symm⟩
  · rw [if_neg h1, if_neg h2, if_pos h3] at hw
    exact ⟨fun e => absurd e (by decide), fun _ => hw.symm⟩
  · rw [if_neg h1, if_neg h2, if_neg h3, if_pos h4] at hw
    exact ⟨fun e => absurd e (by decide), fun _ => hw.symm⟩
  · rw [if_neg h1, if_neg h2, if_neg h3, if_neg h4] at hw
    constructor
    · intro hz
      rw [if_pos hz] at hw
      refine ⟨(walkC_le kt (d + 1) (m + 1) none (by omega)).2.2.1 hz, ?_⟩
      rw [hd2, ← hw, prv, if_neg (by omega), Nat.add_sub_cancel, hn]
    · intro hz
      rw [if_neg hz] at hw
      exact hw.symm
end

theorem nm_drop : ∀ (t : Tr) (k : Nat), Tr.Nm t → Tr.Nm (t.dropT k)
  | t, 0, h => by rw [dropT_zero]; exact h
  | .nil, _ + 1, _ => trivial
  | .cons _ _ r, k + 1, h => nm_drop r k h.2.2
theorem keep_of {w w' : World} {B g : Nat} (hg : w.grownBy w' (some g)) (hB : B ≤ g) (hl : g < w.heap.size) : ∀ p : Addr, p.block < B → w'.cell? p = w.cell? p :=
  fun p hp => World.cell?_of_block (hg.block p.block (by omega) (fun e => by injection e with e; omega))
theorem grown_trans {w w' w'' : World} {g : Nat} (h : w.grownBy w' (some g)) (k : w'.grownBy w'' (some g)) : w.grownBy w'' (some g) :=
  ⟨k.os.trans h.os, k.tape.trans h.tape, k.output.trans h.output, Nat.le_trans h.size k.size, fun i hi hn => (k.block i (Nat.lt_of_lt_of_le hi h.size) hn).trans (h.block i hi hn)⟩

theorem grown_drewN {w w' : World} {row : Option Nat} (h : w.grownBy w' row) (q : Nat) : w.grownBy (w'.drewN q) row := ⟨h.os, h.tape, h.output, h.size, h.block⟩

end Go.Proofs.YtecnilcfhicfmaaGreatDoor.Jd
namespace Go.Proofs.YtecnilcfhicfmaaGreatDoor.Jd
open Go.RowKit Go.Proofs.YtecnilcfhicfmaaGreatDoor.Cl
set_option maxRecDepth 100000

def appT : Tr → Tr → Tr
  | .nil, u => u
  | .cons s k r, u => .cons s k (appT r u)
theorem appT_nil : ∀ t : Tr, appT t .nil = t
  | .nil => rfl
  | .cons s k r => by rw [appT, appT_nil r]
theorem appT_cons (s : ByteArray) (k u : Tr) : ∀ t : Tr, appT (appT t (.cons s k .nil)) u = appT t (.cons s k u)
  | .nil => rfl
  | .cons _ _ r => by rw [appT, appT, appT, appT_cons s k u r]
theorem appT_len (u : Tr) : ∀ t : Tr, (appT t u).len = t.len + u.len
  | .nil => by simp [appT, Tr.len]
  | .cons _ _ r => by rw [appT, Tr.len, Tr.len, appT_len u r]; omega
theorem appT_size (u : Tr) : ∀ t : Tr, (appT t u).size = t.size + u.size
  | .nil => by simp [appT, Tr.size]
  | .cons _ k r => by rw [appT, Tr.size, Tr.size, appT_size u r]; omega
theorem appT_nm (u : Tr) (hu : Tr.Nm u) : ∀ t : Tr, Tr.Nm t → Tr.Nm (appT t u)
  | .nil, _ => hu
  | .cons _ _ r, ⟨h1, h2, h3⟩ => ⟨h1, h2, appT_nm u hu r h3⟩
theorem low_size : ∀ t : Tr, t.size ≤ 140737488351232 → t.Low
  | .nil, _ => trivial
  | .cons _ k r, h => by
    simp only [Tr.size] at h
    have := k.len_size
    exact ⟨by omega, low_size k (by omega), low_size r (by omega)⟩

/-- Cells of edges in a row; what is below them, in blocks that P picks. -/
def RowP (w : World) (P : Nat → Prop) : List Value → Tr → Prop
  | [], .nil => True
  | .string s :: .slice A n c :: vs, .cons s' k r => s = s' ∧ n ≤ c ∧ c ≤ maxLen ∧ HoldsP w P A n k ∧ RowP w P vs r
  | _, _ => False
section
variable {w w' : World} {P P' : Nat → Prop}
theorem RowP.keep (hk : ∀ b o, P b → w'.cell? ⟨b, o, none⟩ = w.cell? ⟨b, o, none⟩) : ∀ {vs : List Value} {t : Tr}, RowP w P vs t → RowP w' P vs t
  | [], .nil, _ => trivial
  | .string _ :: .slice _ _ _ :: _, .cons _ _ _, ⟨h1, h2, h3, h4, h5⟩ => ⟨h1, h2, h3, h4.keep hk, RowP.keep hk h5⟩
theorem RowP.more (hP : ∀ b, P b → P' b) : ∀ {vs : List Value} {t : Tr}, RowP w P vs t → RowP w P' vs t
  | [], .nil, _ => trivial
  | .string _ :: .slice _ _ _ :: _, .cons _ _ _, ⟨h1, h2, h3, h4, h5⟩ => ⟨h1, h2, h3, h4.more hP, RowP.more hP h5⟩
theorem RowP.app : ∀ {vs us : List Value} {t u : Tr}, RowP w P vs t → RowP w P us u → RowP w P (vs ++ us) (appT t u)
  | [], _, .nil, _, _, h2 => h2
  | .string _ :: .slice _ _ _ :: _, _, .cons _ _ _, _, ⟨h1, h2, h3, h4, h5⟩, h6 => ⟨h1, h2, h3, h4, RowP.app h5 h6⟩
theorem RowP.length : ∀ {vs : List Value} {t : Tr}, RowP w P vs t → vs.length = t.len * 2
  | [], .nil, _ => rfl
  | .string _ :: .slice _ _ _ :: _, .cons _ _ _, ⟨_, _, _, _, h5⟩ => by
    have := RowP.length h5
    simp only [List.length_cons, Tr.len]
    omega
theorem RowP.one {n c : Nat} {s : ByteArray} {A : Option Addr} {k : Tr} (h : HoldsP w P A n k) (h1 : n ≤ c) (h2 : c ≤ maxLen) : RowP w P [.string s, .slice A n c] (.cons s k .nil) := ⟨rfl, h1, h2, h, trivial⟩
/-- Read where they lie. -/
theorem RowP.holds {g : Nat} (hg : P g) : ∀ {vs : List Value} {t : Tr} {o : Nat}, RowP w P vs t → (∀ j u, vs[j]? = some u → w.cell? ⟨g, o + j, none⟩ = some u) → HoldsP w P (some ⟨g, o, none⟩) t.len t
  | [], .nil, _, _, _ => rfl
  | .string s :: .slice A n c :: vs, .cons s' k r, o, ⟨h1, h2, h3, h4, h5⟩, hc => by
    subst h1
    have e0 := hc 0 _ rfl
    have e1 := hc 1 _ rfl
    rw [Nat.add_zero] at e0
    exact ⟨g, o, rfl, hg, e0, ⟨A, n, c, e1, h2, h3, h4⟩, r.len, rfl, RowP.holds hg h5 (fun j u hu => by
      have := hc (j + 2) u (by simpa using hu)
      rw [show o + 2 + j = o + (j + 2) by omega]
      exact this)⟩
end

/-- The slice is a row of one's own, and reads as t; what is below its edges lies in other blocks, from lo on. -/
structure Edg (w : World) (base lo : Nat) (A : Option Addr) (n c : Nat) (t : Tr) (vs : List Value) : Prop where
  own : w.ownsRow base 27 2 (.slice A n c) n vs
  row : RowP w (fun b => lo ≤ b ∧ b < w.heap.size ∧ some b ≠ (Value.slice A n c).ownBlock) vs t
section
variable {w w' : World} {base lo n c : Nat} {A : Option Addr} {t : Tr} {vs : List Value}
theorem Edg.nil (w : World) (base lo : Nat) : Edg w base lo none 0 0 .nil [] := ⟨World.ownsRow_nil w base _ _, trivial⟩
theorem Edg.len (h : Edg w base lo A n c t vs) : n = t.len := by
  have h1 := h.own.1
  have h2 := h.row.length
  omega
theorem Edg.cap (h : Edg w base lo A n c t vs) : n ≤ c ∧ c ≤ maxLen := own_cap h.own
theorem Edg.below (h : Edg w base lo A n c t vs) (hb : Below w.heap.size w w') : Edg w' base lo A n c t vs := by
  refine ⟨h.own.kept (row := none) ⟨hb.os, hb.tape, hb.output, hb.size, fun i hi _ => hb.block i hi⟩ (by cases hv : (Value.slice A n c).ownBlock <;> simp), ?_⟩
  refine (h.row.keep (w' := w') fun b o hb1 => hb.cell (p := ⟨b, o, none⟩) hb1.2.1).more fun b hb1 => ⟨hb1.1, Nat.lt_of_lt_of_le hb1.2.1 hb.size, hb1.2.2⟩
theorem Edg.holdsP (h : Edg w base lo A n c t vs) (hl : lo ≤ base) : HoldsP w (fun b => lo ≤ b ∧ b < w.heap.size) A n t := by
  have hn := h.len
  rcases h.own.2 with ⟨e1, e2⟩ | ⟨g, cap, cur, e1, hg, hh, hcap, hmx, hsz, htk⟩
  · subst e2
    cases t with
    | nil => rfl
    | cons _ _ _ => simp [Tr.len] at hn
  · injection e1 with a1 a2 a3
    subst a1
    have hc : ∀ j u, vs[j]? = some u → w.cell? ⟨g, 0 + j, none⟩ = some u := fun j u hu => by
      have := rowCells h.own j u hu
      rw [Addr.add_lit] at this
      exact this
    have hrow := (h.row.more (P' := fun b => lo ≤ b ∧ b < w.heap.size) fun b hb => ⟨hb.1, hb.2.1⟩).holds (g := g) ⟨by omega, (Array.getElem?_eq_some_iff.1 hh).1⟩ hc
    rw [hn]
    exact hrow
theorem Edg.holds (h : Edg w base lo A n c t vs) (hl : lo ≤ base) : Holds w w.heap.size A n t := (h.holdsP hl).to (fun _ hb => hb.2)
/-- Grown by edges whose kids lie elsewhere. -/
theorem Edg.push {m c2 : Nat} {A2 : Option Addr} {u : Tr} {us : List Value} (h : Edg w base lo A n c t vs) (hu : RowP w (fun b => lo ≤ b ∧ b < w.heap.size ∧ some b ≠ (Value.slice A n c).ownBlock) us u)
    (ho : w'.ownsRow base 27 2 (.slice A2 m c2) m (vs ++ us)) (hg : w.grownBy w' (Value.slice A n c).ownBlock) (hat : ∀ a, A2 = some a → w.heap.size ≤ a.block ∨ some a.block = (Value.slice A n c).ownBlock) :
    Edg w' base lo A2 m c2 (appT t u) (vs ++ us) := by
  refine ⟨ho, ?_⟩
  refine ((h.row.app hu).keep (w' := w') fun b o hb => World.cell?_of_block (hg.block b hb.2.1 hb.2.2)).more fun b hb => ⟨hb.1, Nat.lt_of_lt_of_le hb.2.1 hg.size, fun e => ?_⟩
  cases A2 with
  | none => cases e
  | some a =>
    have e : b = a.block := by injection e
    rcases hat a rfl with h1 | h1
    · have := hb.2.1; omega
    · exact hb.2.2 (by rw [e]; exact h1)
end
/-- One edge, laid beside it. -/
theorem src_edge (W : World) (s : ByteArray) (A : Option Addr) (n c g : Nat) (hg : g = W.heap.size) : Src Tryz.prog 2 24 (.slice (some ⟨g, 0, none⟩) 1 1) 1 [.string s, .slice A n c] (W.alloc (Obj.cells #[Value.string s, Value.slice A n c] 27)) := by
  subst hg
  exact src_edges rfl (fun j u hu => by
    rw [cell_of_row _ _ _ _ _ _ (heap_alloc_new W _), Nat.zero_add, ← hu]
    match j, hu with
    | 0, _ => rfl
    | 1, _ => rfl
    | j + 2, hu => simp at hu) (fun u hu => by simp only [List.mem_cons, List.not_mem_nil, or_false] at hu; rcases hu with rfl | rfl <;> rfl)
end Go.Proofs.YtecnilcfhicfmaaGreatDoor.Jd
