/- Trees in memory, told with the blocks they lie in: kept, copied, one of their cells replaced by another slice that reads the same. No conditions. · What a judge says of edges that are told one by one, and what a check says of a tree that is gone through level by level: the same. No conditions. · tree's judge: what it says of the next edge, and what it keeps of it. Conditions: at most 400 edges told ahead, at most twelve names kept. · The iterator over a tree's edges: each ahead of what is below it, in order. Conditions: fewer than 2^39 edges. · quote: a name, quoted, behind bytes of the call's own. Conditions: lengths below 2^40. -/
import Derived.Test.YtapgaglkkgbgkaaGreatDoorMwWords
import Derived.Test.YtapgaglkkgbgkaaGreatDoorStack
import Derived.Deep.QuietTactic
import Derived.BigQuiet
import Derived.Outline
import Derived.Sort.Walk0
import Derived.LoopNIn
import Derived.Sort.LoopGhostIn
import Derived.Stop.RegionWithIn
import Derived.Sort.CutIn
import Derived.LoopIn
import Derived.TacticsInMore
import Derived.Shelf.RegionOpen
import Derived.StillTailTactics
import Derived.Deep.RegionLaw
namespace Go.Proofs.YtapgaglkkgbgkaaGreatDoor.Cl
open Go.RowKit
set_option maxRecDepth 100000

def HoldsP (w : World) (P : Nat → Prop) : Option Addr → Nat → Tr → Prop
  | _, n, .nil => n = 0
  | A, n, .cons s k r => ∃ b o, A = some ⟨b, o, none⟩ ∧ P b ∧ w.cell? ⟨b, o, none⟩ = some (.string s) ∧
      (∃ A' n' c', w.cell? ⟨b, o + 1, none⟩ = some (.slice A' n' c') ∧ n' ≤ c' ∧ c' ≤ maxLen ∧ HoldsP w P A' n' k) ∧ ∃ m, n = m + 1 ∧ HoldsP w P (some ⟨b, o + 2, none⟩) m r
section
variable {w w' : World} {P P' : Nat → Prop}
theorem HoldsP.keep (hk : ∀ b o, P b → w'.cell? ⟨b, o, none⟩ = w.cell? ⟨b, o, none⟩) : ∀ {A : Option Addr} {n : Nat} {t : Tr}, HoldsP w P A n t → HoldsP w' P A n t
  | _, _, .nil, h => h
  | _, _, .cons _ _ _, ⟨b, o, e, hb, hs, ⟨A', n', c', hc, hn, hm, hk1⟩, m, hm1, hr⟩ =>
    ⟨b, o, e, hb, (hk b o hb).trans hs, ⟨A', n', c', (hk b _ hb).trans hc, hn, hm, HoldsP.keep hk hk1⟩, m, hm1, HoldsP.keep hk hr⟩
theorem HoldsP.more (hP : ∀ b, P b → P' b) : ∀ {A : Option Addr} {n : Nat} {t : Tr}, HoldsP w P A n t → HoldsP w P' A n t
  | _, _, .nil, h => h
  | _, _, .cons _ _ _, ⟨b, o, e, hb, hs, ⟨A', n', c', hc, hn, hm, hk1⟩, m, hm1, hr⟩ =>
    ⟨b, o, e, hP b hb, hs, ⟨A', n', c', hc, hn, hm, HoldsP.more hP hk1⟩, m, hm1, HoldsP.more hP hr⟩
theorem HoldsP.of {B : Nat} : ∀ {A : Option Addr} {n : Nat} {t : Tr}, Holds w B A n t → HoldsP w (· < B) A n t
  | _, _, .nil, h => h
  | _, _, .cons _ _ _, ⟨b, o, e, hb, hs, ⟨A', n', c', hc, hn, hm, hk1⟩, m, hm1, hr⟩ => ⟨b, o, e, hb, hs, ⟨A', n', c', hc, hn, hm, HoldsP.of hk1⟩, m, hm1, HoldsP.of hr⟩
theorem HoldsP.to {B : Nat} (hP : ∀ b, P b → b < B) : ∀ {A : Option Addr} {n : Nat} {t : Tr}, HoldsP w P A n t → Holds w B A n t
  | _, _, .nil, h => h
  | _, _, .cons _ _ _, ⟨b, o, e, hb, hs, ⟨A', n', c', hc, hn, hm, hk1⟩, m, hm1, hr⟩ => ⟨b, o, e, hP b hb, hs, ⟨A', n', c', hc, hn, hm, HoldsP.to hP hk1⟩, m, hm1, HoldsP.to hP hr⟩
theorem HoldsP.len : ∀ {A : Option Addr} {n : Nat} {t : Tr}, HoldsP w P A n t → n = t.len
  | _, _, .nil, h => h
  | _, _, .cons _ _ _, ⟨_, _, _, _, _, _, m, hm1, hr⟩ => by rw [hm1, HoldsP.len hr]; rfl
theorem HoldsP.uniq : ∀ {t u : Tr} {A : Option Addr} {n : Nat}, HoldsP w P A n t → HoldsP w P' A n u → t = u
  | .nil, .nil, _, _, _, _ => rfl
  | .nil, .cons _ _ _, _, _, h, ⟨_, _, _, _, _, _, m, hm, _⟩ => by have h : _ = 0 := h; omega
  | .cons _ _ _, .nil, _, _, ⟨_, _, _, _, _, _, m, hm, _⟩, h => by have h : _ = 0 := h; omega
  | .cons s k r, .cons s' k' r', _, _, ⟨b, o, e, _, hs, ⟨A1, n1, c1, hc, _, _, hk⟩, m, hm, hr⟩, ⟨b', o', e', _, hs', ⟨A2, n2, c2, hc', _, _, hk'⟩, m', hm', hr'⟩ => by
    rw [e] at e'
    injection e' with e'
    injection e' with e1 e2
    subst e1; subst e2
    rw [hs] at hs'
    injection hs' with hs'
    injection hs' with hs'
    subst hs'
    rw [hc] at hc'
    injection hc' with hc'
    injection hc' with a1 a2 a3
    subst a1; subst a2
    obtain rfl : m = m' := by omega
    rw [HoldsP.uniq hk hk', HoldsP.uniq hr hr']
theorem HoldsP.repl {p q n1 c1 n2 c2 : Nat} {X Y : Option Addr} {u : Tr} {cur : Array Value} {E : TypeId} (hh : w.heap[p]? = some (.cells cur E (0, 0))) (hq : w.cell? ⟨p, q, none⟩ = some (.slice X n1 c1)) (_ : HoldsP w P X n1 u) (h2 : HoldsP w P Y n2 u) (hn : n2 ≤ c2) (hm : c2 ≤ maxLen) (h1 : HoldsP w P X n1 u) :
    ∀ {A : Option Addr} {n : Nat} {t : Tr}, HoldsP w P A n t → HoldsP (w.setCell ⟨p, q, none⟩ (.slice Y n2 c2)) P A n t := by
  have hat : (w.setCell ⟨p, q, none⟩ (.slice Y n2 c2)).cell? ⟨p, q, none⟩ = some (.slice Y n2 c2) := by
    rw [cell_of_row _ _ _ _ _ _ (heap_setCell_same w p q cur E _ hh)]
    have : q < cur.size := by
      rw [cell_of_row _ _ _ _ _ _ hh] at hq
      exact (Array.getElem?_eq_some_iff.1 hq).1
    simp [this]
  have hfar : ∀ b o, ¬ (b = p ∧ o = q) → (w.setCell ⟨p, q, none⟩ (.slice Y n2 c2)).cell? ⟨b, o, none⟩ = w.cell? ⟨b, o, none⟩ := fun b o hne =>
    World.cell?_setCell_other _ _ _ _ (fun e => hne ⟨(congrArg Addr.block e).symm, (congrArg Addr.off e).symm⟩)
  intro A n t
  induction t generalizing A n with
  | nil => exact fun h => h
  | cons s k r ihk ihr =>
    rintro ⟨b, o, e, hb, hs, ⟨A', n', c', hc, hn', hm', hk⟩, m, hm1, hr⟩
    refine ⟨b, o, e, hb, ?_, ?_, m, hm1, ihr hr⟩
    · rw [hfar b o (fun ⟨e1, e2⟩ => by subst e1; subst e2; rw [hs] at hq; cases hq)]
      exact hs
    · by_cases hpq : b = p ∧ o + 1 = q
      · obtain ⟨rfl, rfl⟩ := hpq
        rw [hc] at hq
        injection hq with hq
        injection hq with a1 a2 a3
        subst a1; subst a2; subst a3
        have e := hk.uniq h1
        subst e
        exact ⟨Y, n2, c2, hat, hn, hm, ihk h2⟩
      · exact ⟨A', n', c', by rw [hfar b (o + 1) hpq]; exact hc, hn', hm', ihk hk⟩
theorem HoldsP.copy (hk : ∀ b o, P b → w'.cell? ⟨b, o, none⟩ = w.cell? ⟨b, o, none⟩) (hP : ∀ b, P b → P' b) : ∀ {n : Nat} {t : Tr} {b o g q : Nat}, HoldsP w P (some ⟨b, o, none⟩) n t → P' g → (∀ j, j < n * 2 → w'.cell? ⟨g, q + j, none⟩ = w.cell? ⟨b, o + j, none⟩) → HoldsP w' P' (some ⟨g, q, none⟩) n t
  | _, .nil, _, _, _, _, h, _, _ => h
  | _, .cons _ _ _, b, o, g, q, ⟨b', o', e, hb, hs, ⟨A', n', c', hc, hn, hm, hk1⟩, m, hm1, hr⟩, hg, hcp => by
    injection e with e
    injection e with e1 e2
    subst e1; subst e2
    subst hm1
    refine ⟨g, q, rfl, hg, ?_, ⟨A', n', c', ?_, hn, hm, (HoldsP.keep hk hk1).more hP⟩, m, rfl, HoldsP.copy hk hP hr hg (fun j hj => ?_)⟩
    · have := hcp 0 (by omega)
      simp only [Nat.add_zero] at this
      rw [this]; exact hs
    · rw [hcp 1 (by omega)]; exact hc
    · have := hcp (j + 2) (by omega)
      rw [show q + 2 + j = q + (j + 2) by omega, show o + 2 + j = o + (j + 2) by omega]
      exact this
theorem HoldsP.row : ∀ {t : Tr} {A : Option Addr} {n : Nat}, HoldsP w P A n t → ∃ vs : List Value, vs.length = n * 2 ∧ (∀ u ∈ vs, u.oneCell' = true) ∧ (∀ b o, A = some ⟨b, o, none⟩ → ∀ j u, vs[j]? = some u → w.cell? ⟨b, o + j, none⟩ = some u) ∧ (0 < n → ∃ b o, A = some ⟨b, o, none⟩ ∧ P b)
  | .nil, _, n, h => by
    have h : n = 0 := h
    subst h
    exact ⟨[], rfl, fun u hu => (by cases hu), fun _ _ _ j u hu => (by simp at hu), fun h => (by omega)⟩
  | .cons s k r, _, _, ⟨b, o, e, hb, hs, ⟨A', n', c', hc, _, _, _⟩, m, hm1, hr⟩ => by
    obtain ⟨vs, h1, h2, h3, _⟩ := HoldsP.row hr
    subst hm1
    refine ⟨.string s :: .slice A' n' c' :: vs, by simp only [List.length_cons, h1]; omega, ?_, ?_, fun _ => ⟨b, o, e, hb⟩⟩
    · intro u hu
      simp only [List.mem_cons] at hu
      rcases hu with rfl | rfl | hu
      · rfl
      · rfl
      · exact h2 u hu
    · intro b' o' e' j u hu
      rw [e] at e'
      injection e' with e'
      injection e' with e1 e2
      subst e1; subst e2
      match j, hu with
      | 0, hu => simp at hu; subst hu; exact hs
      | 1, hu => simp at hu; subst hu; exact hc
      | j + 2, hu =>
        have := h3 b (o + 2) rfl j u (by simpa using hu)
        rw [show o + (j + 2) = o + 2 + j by omega]
        exact this
end
def subs : Tr → List Tr
  | .nil => []
  | .cons _ k r => k :: subs r
theorem subs_len : ∀ t : Tr, (subs t).length = t.len
  | .nil => rfl
  | .cons _ _ r => by simp only [subs, List.length_cons, Tr.len, subs_len r]
theorem HoldsP.sub {w : World} {P : Nat → Prop} : ∀ {t : Tr} {b o n i : Nat} {u : Tr}, HoldsP w P (some ⟨b, o, none⟩) n t → (subs t)[i]? = some u → ∃ A' n' c', w.cell? ⟨b, o + i * 2 + 1, none⟩ = some (.slice A' n' c') ∧ n' ≤ c' ∧ c' ≤ maxLen ∧ HoldsP w P A' n' u
  | .nil, _, _, _, i, _, _, h => by simp [subs] at h
  | .cons s k r, b, o, n, 0, u, ⟨b', o', e, _, _, ⟨A', n', c', hc, hn, hm, hk⟩, _⟩, h => by
    injection e with e
    injection e with e1 e2
    subst e1; subst e2
    simp only [subs, List.getElem?_cons_zero, Option.some.injEq] at h
    subst h
    exact ⟨A', n', c', by simpa using hc, hn, hm, hk⟩
  | .cons s k r, b, o, n, i + 1, u, ⟨b', o', e, _, _, _, m, _, hr⟩, h => by
    injection e with e
    injection e with e1 e2
    subst e1; subst e2
    simp only [subs, List.getElem?_cons_succ] at h
    obtain ⟨A', n', c', hc, h2⟩ := HoldsP.sub hr h
    exact ⟨A', n', c', by rw [show o + (i + 1) * 2 + 1 = o + 2 + i * 2 + 1 by omega]; exact hc, h2⟩
def load : List Tr → Nat
  | [] => 0
  | t :: r => t.size + 1 + load r
theorem load_append (a b : List Tr) : load (a ++ b) = load a + load b := by
  induction a with
  | nil => simp [load]
  | cons x r ih => simp only [List.cons_append, load, ih]; omega
theorem load_subs : ∀ t : Tr, load (subs t) = t.size
  | .nil => rfl
  | .cons _ k r => by simp only [subs, load, Tr.size, load_subs r]; omega
theorem load_len (l : List Tr) : l.length ≤ load l := by
  induction l with
  | nil => exact Nat.le_refl _
  | cons x r ih => simp only [List.length_cons, load]; omega
end Go.Proofs.YtapgaglkkgbgkaaGreatDoor.Cl
namespace Go.Proofs.YtapgaglkkgbgkaaGreatDoor
open Go.RowKit

def judgeE (n : Nat) (L : List ByteArray) (d : Nat) (s : ByteArray) : Nat :=
  if 400 < n + 1 then 4 else if 12 < d then 11 else if 80 < s.size then 5 else
  if d ≤ L.length ∧ Op.bytesLess (L.getD (d - 1) ⟨#[]⟩).toList s.toList = false then 12 else 0
def judgeL (L : List ByteArray) (d : Nat) (s : ByteArray) : List ByteArray := L.take (d - 1) ++ [s]
def judgeRun : Nat → List ByteArray → List (Nat × ByteArray × Nat) → Nat
  | _, _, [] => 0
  | n, L, x :: r => if judgeE n L x.1 x.2.1 = 0 then judgeRun (n + 1) (judgeL L x.1 x.2.1) r else judgeE n L x.1 x.2.1
def Smooth : Nat → List (Nat × ByteArray × Nat) → Prop
  | _, [] => True
  | k, x :: r => 1 ≤ x.1 ∧ x.1 ≤ k + 1 ∧ Smooth x.1 r
theorem smooth_flat (t : Tr) : ∀ (d k : Nat) (ys : List (Nat × ByteArray × Nat)), 1 ≤ d → d ≤ k + 1 → (∀ j, d ≤ j + 1 → Smooth j ys) → Smooth k (t.flat d ++ ys) := by
  induction t with
  | nil => intro d k ys _ h2 h3; exact h3 k h2
  | cons s k0 r ih1 ih2 =>
    intro d k ys h1 h2 h3
    simp only [Tr.flat, List.cons_append, List.append_assoc, Smooth]
    exact ⟨h1, h2, ih1 (d + 1) d _ (by omega) (by omega) (fun j hj => ih2 d j ys h1 (by omega) h3)⟩
theorem smooth_all (t : Tr) : Smooth 0 (t.flat 1) := by
  have := smooth_flat t 1 0 [] (by omega) (by omega) (fun _ _ => trivial)
  simpa using this
theorem judgeL_length {L : List ByteArray} {d : Nat} {s : ByteArray} (h1 : 1 ≤ d) (h2 : d ≤ L.length + 1) : (judgeL L d s).length = d := by
  simp only [judgeL, List.length_append, List.length_take, List.length_cons, List.length_nil]; omega
theorem judgeE_zero {n d : Nat} {L : List ByteArray} {s : ByteArray} (h : judgeE n L d s = 0) : n + 1 ≤ 400 ∧ d ≤ 12 ∧ s.size ≤ 80 ∧ ¬ (d ≤ L.length ∧ Op.bytesLess (L.getD (d - 1) ⟨#[]⟩).toList s.toList = false) := by
  unfold judgeE at h
  split at h
  · cases h
  split at h
  · cases h
  split at h
  · cases h
  split at h
  · cases h
  · rename_i h1 h2 h3 h4; exact ⟨by omega, by omega, by omega, h4⟩

def notAfter (p : Option ByteArray) (s : ByteArray) : Bool :=
  match p with
  | some q => !Op.bytesLess q.toList s.toList
  | none => false
def walkC : Nat → Tr → Option ByteArray → Nat → Nat × Nat
  | _, .nil, _, n => (n, 0)
  | d, .cons s k r, p, n =>
    if 400 < n + 1 then (n + 1, 4) else if 12 < d then (n + 1, 11) else if 80 < s.size then (n + 1, 5) else if notAfter p s = true then (n + 1, 12) else
    if (walkC (d + 1) k none (n + 1)).2 = 0 then walkC d r (some s) (walkC (d + 1) k none (n + 1)).1 else walkC (d + 1) k none (n + 1)
theorem judge_walk (t : Tr) : ∀ (d n : Nat) (P J : List ByteArray) (p : Option ByteArray) (ys : List (Nat × ByteArray × Nat)), 1 ≤ d → P.length = d - 1 → p = J.head? →
    ((walkC d t p n).2 = 0 → ∃ J', judgeRun n (P ++ J) (t.flat d ++ ys) = judgeRun (walkC d t p n).1 (P ++ J') ys) ∧
    ((walkC d t p n).2 ≠ 0 → judgeRun n (P ++ J) (t.flat d ++ ys) = (walkC d t p n).2) := by
  induction t with
  | nil => intro d n P J p ys _ _ _; exact ⟨fun _ => ⟨J, rfl⟩, fun h => absurd rfl h⟩
  | cons s k r ih1 ih2 =>
    intro d n P J p ys h1 hP hp
    have hj : judgeE n (P ++ J) d s = if 400 < n + 1 then 4 else if 12 < d then 11 else if 80 < s.size then 5 else if notAfter p s = true then 12 else 0 := by
      unfold judgeE
      have he : (d ≤ (P ++ J).length ∧ Op.bytesLess ((P ++ J).getD (d - 1) ⟨#[]⟩).toList s.toList = false) ↔ notAfter p s = true := by
        subst hp
        cases J with
        | nil => simp [notAfter]; omega
        | cons q J =>
          have : (P ++ q :: J).getD (d - 1) ⟨#[]⟩ = q := by
            rw [List.getD_eq_getElem?_getD, List.getElem?_append_right (by omega), hP, Nat.sub_self]; rfl
          rw [this]
          simp [notAfter]; omega
      by_cases hn : notAfter p s = true
      · rw [if_pos (he.2 hn), if_pos hn]
      · rw [if_neg (fun h => hn (he.1 h)), if_neg hn]
    have hL : judgeL (P ++ J) d s = P ++ [s] := by
      unfold judgeL
      rw [← hP, List.take_left]
    simp only [Tr.flat, List.cons_append, List.append_assoc, judgeRun, walkC]
    rw [hj, hL]
    by_cases c1 : 400 < n + 1
    · simp [c1]
    by_cases c2 : 12 < d
    · simp [c1, c2]
    by_cases c3 : 80 < s.size
    · simp [c1, c2, c3]
    by_cases c4 : notAfter p s = true
    · simp [c1, c2, c3, c4]
    rw [if_neg c1, if_neg c2, if_neg c3, if_neg c4, if_neg c1, if_neg c2, if_neg c3, if_neg c4, if_pos rfl]
    obtain ⟨a1, a2⟩ := ih1 (d + 1) (n + 1) (P ++ [s]) [] none (r.flat d ++ ys) (by omega) (by simp; omega) rfl
    rw [List.append_nil] at a1 a2
    split
    · rename_i hz
      obtain ⟨J', hJ'⟩ := a1 hz
      rw [hJ', List.append_assoc]
      exact ih2 d _ P ([s] ++ J') (some s) ys h1 hP rfl
    · rename_i hz
      rw [a2 hz]
      exact ⟨fun h => absurd h hz, fun _ => rfl⟩
def Tr.fault (t : Tr) : Nat := (walkC 1 t none 0).2
theorem judge_all (t : Tr) : judgeRun 0 [] (t.flat 1) = t.fault := by
  have := judge_walk t 1 0 [] [] none [] (by omega) rfl rfl
  rw [List.append_nil, List.append_nil] at this
  unfold Tr.fault
  by_cases hz : (walkC 1 t none 0).2 = 0
  · obtain ⟨J', h⟩ := this.1 hz
    rw [h, hz]
    rfl
  · exact this.2 hz
theorem walkC_le : ∀ (t : Tr) (d n : Nat) (p : Option ByteArray), n ≤ 400 → n ≤ (walkC d t p n).1 ∧ (walkC d t p n).1 ≤ 401 ∧ ((walkC d t p n).2 = 0 → (walkC d t p n).1 ≤ 400) ∧ (walkC d t p n).2 ≤ 12
  | .nil, d, n, p, h => by simp [walkC]; omega
  | .cons s k r, d, n, p, h => by
    unfold walkC
    by_cases c1 : 400 < n + 1
    · simp [c1]; omega
    by_cases c2 : 12 < d
    · simp [c1, c2]; omega
    by_cases c3 : 80 < s.size
    · simp [c1, c2, c3]; omega
    by_cases c4 : notAfter p s = true
    · simp [c1, c2, c3, c4]; omega
    rw [if_neg c1, if_neg c2, if_neg c3, if_neg c4]
    obtain ⟨a1, a2, a3, a4⟩ := walkC_le k (d + 1) (n + 1) none (by omega)
    split
    · rename_i hz
      obtain ⟨b1, b2, b3, b4⟩ := walkC_le r d _ (some s) (a3 hz)
      exact ⟨by omega, b2, b3, b4⟩
    · exact ⟨by omega, a2, a3, a4⟩
end Go.Proofs.YtapgaglkkgbgkaaGreatDoor
namespace Go.Proofs.YtapgaglkkgbgkaaGreatDoor.Jd
open Go.RowKit
set_option maxRecDepth 100000

def strs (l : List ByteArray) : List Value := l.map Value.string
theorem elem_str : Elem Tryz.prog 28 9 (.string ⟨#[]⟩) 1 16 := ⟨Tryz.underlying28, by kernel_rfl, rfl, by omega⟩
theorem strs_one (l : List ByteArray) : ∀ u ∈ strs l, u.oneCell' = true := by
  intro u hu
  simp only [strs, List.mem_map] at hu
  obtain ⟨x, _, rfl⟩ := hu
  rfl

structure Jdg (w : World) (base b o : Nat) (E : TypeId) (cur : Array Value) (n : Nat) (L : List ByteArray) (A : Option Addr) (c : Nat) : Prop where
  heap : w.heap[b]? = some (.cells cur E (0, 0))
  told : cur[o]? = some (.int .i64 n)
  names : cur[o + 1]? = some (.slice A L.length c)
  row : w.ownsRow base 9 1 (.slice A L.length c) L.length (strs L)
  far : (Value.slice A L.length c).ownBlock ≠ some b
  le : base ≤ w.heap.size

theorem row_take {w : World} {base n m c : Nat} {e : TypeId} {A : Option Addr} {L : List Value} (h : w.ownsRow base e 1 (.slice A n c) n L) (hm : m ≤ n) : w.ownsRow base e 1 (.slice A m c) m (L.take m) := by
  obtain ⟨h1, h2⟩ := h
  refine ⟨by rw [List.length_take]; omega, ?_⟩
  rcases h2 with ⟨e1, e2⟩ | ⟨g, cap, cur, e1, hg, hh, hcap, hmx, hsz, htk⟩
  · injection e1 with a1 a2 a3
    subst a1; subst a3
    obtain rfl : m = 0 := by omega
    exact .inl ⟨rfl, rfl⟩
  · injection e1 with a1 a2 a3
    subst a1; subst a3
    refine .inr ⟨g, c, cur, rfl, hg, hh, by omega, hmx, hsz, ?_⟩
    rw [← htk, List.take_take]
    congr 1
    omega
theorem own_of (A : Option Addr) (n m c : Nat) : (Value.slice A n c).ownBlock = (Value.slice A m c).ownBlock := by cases A <;> rfl

structure Chg (b : Nat) (row : Option Nat) (w w' : World) : Prop where
  os : w'.os = w.os
  tape : w'.tape = w.tape
  output : w'.output = w.output
  size : w.heap.size ≤ w'.heap.size
  block : ∀ k, k < w.heap.size → k ≠ b → some k ≠ row → w'.heap[k]? = w.heap[k]?
theorem Chg.set {b o : Nat} {row : Option Nat} (w : World) (v : Value) : Chg b row w (w.setCell ⟨b, o, none⟩ v) :=
  ⟨rfl, rfl, rfl, by simp [World.setCell], fun k _ hk _ => Below.heap_setCell w ⟨b, o, none⟩ v k hk⟩
theorem Chg.trans {b : Nat} {row : Option Nat} {w w' w'' : World} (h : Chg b row w w') (k : Chg b row w' w'') : Chg b row w w'' :=
  ⟨k.os.trans h.os, k.tape.trans h.tape, k.output.trans h.output, Nat.le_trans h.size k.size, fun i hi h1 h2 => (k.block i (Nat.lt_of_lt_of_le hi h.size) h1 h2).trans (h.block i hi h1 h2)⟩
theorem Chg.grown {b : Nat} {row : Option Nat} {w w' : World} (h : w.grownBy w' row) : Chg b row w w' :=
  ⟨h.os, h.tape, h.output, h.size, fun k hk _ h2 => h.block k hk h2⟩

section
variable {w : World} {base b o n c : Nat} {E : TypeId} {cur : Array Value} {L : List ByteArray} {A : Option Addr}
theorem Jdg.told_ (h : Jdg w base b o E cur n L A c) (v : Value) (hv : v = .int .i64 ((n + 1 : Nat) : Int)) : Jdg (w.setCell ⟨b, o, none⟩ v) base b o E (cur.setIfInBounds o v) (n + 1) L A c := by
  have hl : o < cur.size := (Array.getElem?_eq_some_iff.1 h.told).1
  refine ⟨heap_setCell_same w b o cur E v h.heap, by rw [Array.getElem?_setIfInBounds_self_of_lt hl, hv], ?_, ownsRow_setCell_other h.row h.far v, h.far, by simp [World.setCell]; exact h.le⟩
  rw [Array.getElem?_setIfInBounds_ne (by omega)]
  exact h.names
theorem Jdg.cells (h : Jdg w base b o E cur n L A c) : w.cell? ⟨b, o, none⟩ = some (.int .i64 n) ∧ w.cell? ⟨b, o + 1, none⟩ = some (.slice A L.length c) ∧ (∀ q, w.frozen? ⟨b, q, none⟩ = false) ∧ b < w.heap.size :=
  ⟨by rw [cell_of_row w b o _ _ _ h.heap]; exact h.told, by rw [cell_of_row w b (o + 1) _ _ _ h.heap]; exact h.names, fun q => by simp [World.frozen?, h.heap], (Array.getElem?_eq_some_iff.1 h.heap).1⟩
theorem Jdg.at_ (h : Jdg w base b o E cur n L A c) {j : Nat} (hj : j < L.length) : ∃ g, A = some ⟨g, 0, none⟩ ∧ g ≠ b ∧ g < w.heap.size ∧ w.cell? ⟨g, j, none⟩ = some (.string (L.getD j ⟨#[]⟩)) := by
  obtain ⟨h1, h2⟩ := h.row
  rcases h2 with ⟨e1, e2⟩ | ⟨g, cap, cu, e1, hg, hh, hcap, hmx, hsz, htk⟩
  · omega
  · injection e1 with a1 a2 a3
    subst a1; subst a3
    refine ⟨g, rfl, fun e => h.far (by rw [e]; rfl), (Array.getElem?_eq_some_iff.1 hh).1, ?_⟩
    rw [cell_of_row w g j cu _ _ hh]
    have : (cu.toList.take (L.length * 1))[j]? = some (Value.string (L.getD j ⟨#[]⟩)) := by
      rw [htk, strs, List.getElem?_map, List.getElem?_eq_getElem hj, List.getD_eq_getElem?_getD, List.getElem?_eq_getElem hj]; rfl
    rw [List.getElem?_take] at this
    split at this
    · rw [← Array.getElem?_toList]; exact this
    · cases this
end

theorem lt_iff (x y : ByteArray) : Op.bytesLess x.toList y.toList = true ↔ x.data.toList < y.data.toList := by
  rw [Go.Proofs.bytesLess_eq, ByteArray.toList_eq, ByteArray.toList_eq, decide_eq_true_iff]
theorem not_lt {x y : ByteArray} (h : Op.bytesLess x.toList y.toList = false) : Op.bytesLess y.toList x.toList = true ∨ (Op.bytesLess y.toList x.toList = false ∧ (y.toList == x.toList) = true) := by
  cases hc : Op.bytesLess y.toList x.toList with
  | true => exact .inl rfl
  | false =>
    right
    have h1 : ¬ x.data.toList < y.data.toList := fun e => by rw [(lt_iff x y).2 e] at h; cases h
    have h2 : ¬ y.data.toList < x.data.toList := fun e => by rw [(lt_iff y x).2 e] at hc; cases hc
    have := List.le_antisymm (Classical.not_not.1 (fun e => h2 (by simpa using e)) : x.data.toList ≤ y.data.toList) (Classical.not_not.1 (fun e => h1 (by simpa using e)))
    rw [ByteArray.toList_eq, ByteArray.toList_eq, this]
    exact ⟨rfl, beq_self_eq_true _⟩
theorem lt_not {x y : ByteArray} (h : Op.bytesLess x.toList y.toList = true) : Op.bytesLess y.toList x.toList = false ∧ (y.toList == x.toList) = false := by
  have h1 := (lt_iff x y).1 h
  constructor
  · cases hc : Op.bytesLess y.toList x.toList with
    | false => rfl
    | true => exact absurd (List.lt_trans h1 ((lt_iff y x).1 hc)) (List.lt_irrefl _)
  · cases hc : (y.toList == x.toList) with
    | false => rfl
    | true =>
      have := beq_iff_eq.1 hc
      rw [ByteArray.toList_eq, ByteArray.toList_eq] at this
      rw [this] at h1
      exact absurd h1 (List.lt_irrefl _)

def Told (w : World) (base b o : Nat) (E : TypeId) (cur : Array Value) (n : Nat) (L : List ByteArray) (d : Nat) (s : ByteArray) (row : Option Nat) (w' : World) : Prop :=
  ∃ cur' L' A' c', Jdg w' base b o E cur' (n + 1) L' A' c' ∧ (judgeE n L d s = 0 → L' = judgeL L d s) ∧ (∀ i, i ≠ o → i ≠ o + 1 → cur'[i]? = cur[i]?) ∧ cur'.size = cur.size ∧ Chg b row w w'

theorem told_no {w : World} {base b o n c d : Nat} {E : TypeId} {cur : Array Value} {L : List ByteArray} {A : Option Addr} {s : ByteArray} (h : Jdg w base b o E cur n L A c) (v : Value) (hv : v = .int .i64 ((n + 1 : Nat) : Int)) (he : judgeE n L d s ≠ 0) (row : Option Nat) : Told w base b o E cur n L d s row (w.setCell ⟨b, o, none⟩ v) :=
  ⟨_, L, A, c, h.told_ v hv, fun e => absurd e he, fun i h1 _ => by rw [Array.getElem?_setIfInBounds_ne (by omega)], by simp, Chg.set w v⟩

theorem told_yes {w w2 : World} {base b o n c j c2 d : Nat} {E : TypeId} {cur : Array Value} {L : List ByteArray} {A A2 : Option Addr} {s : ByteArray} {v : Value} {ob : Obj} (hJ : Jdg w base b o E cur n L A c) (hv : v = .int .i64 ((n + 1 : Nat) : Int)) (hd : d = j + 1) (hj : j ≤ L.length)
    (ho : w2.ownsRow base 9 1 (.slice A2 (j + 1) c2) (j + 1) ((strs L).take j ++ strs [s])) (hg : ((w.setCell ⟨b, o, none⟩ v).alloc ob).grownBy w2 (Value.slice A j c).ownBlock)
    (hat : ∀ a, A2 = some a → a.block = ((w.setCell ⟨b, o, none⟩ v).alloc ob).heap.size ∨ some a.block = (Value.slice A j c).ownBlock) :
    Told w base b o E cur n L d s (Value.slice A L.length c).ownBlock (w2.setCell ⟨b, o + 1, none⟩ (.slice A2 (j + 1) c2)) := by
  have hJ1 := hJ.told_ v hv
  have hfar : (Value.slice A j c).ownBlock ≠ some b := by rw [own_of A j L.length c]; exact hJ.far
  have hbl := (Array.getElem?_eq_some_iff.1 hJ1.heap).1
  have hblk : w2.heap[b]? = some (.cells (cur.setIfInBounds o v) E (0, 0)) := (hg.block b (by simp at hbl ⊢; omega) (fun e => hfar e.symm)).trans (heap_keep hJ1.heap _)
  have hL' : (judgeL L d s).length = j + 1 := by rw [judgeL_length (by omega) (by omega), hd]
  have hl1 : o + 1 < (cur.setIfInBounds o v).size := (Array.getElem?_eq_some_iff.1 hJ1.names).1
  have hfar2 : (Value.slice A2 (j + 1) c2).ownBlock ≠ some b := by
    intro e
    cases A2 with
    | none => cases e
    | some a =>
      have e : some a.block = some b := e
      rcases hat a rfl with h | h
      · injection e with e
        simp at h hbl
        omega
      · rw [e] at h
        exact hfar h.symm
  refine ⟨_, judgeL L d s, A2, c2, ⟨heap_setCell_same w2 b (o + 1) _ E _ hblk, ?_, ?_, ?_, ?_, ?_⟩, fun _ => rfl, fun i h1 h2 => ?_, by simp, ?_⟩
  · rw [Array.getElem?_setIfInBounds_ne (by omega)]
    exact hJ1.told
  · rw [Array.getElem?_setIfInBounds_self_of_lt hl1, hL']
  · rw [hL']
    refine ownsRow_setCell_other ?_ hfar2 _
    have : strs (judgeL L d s) = (strs L).take j ++ strs [s] := by rw [judgeL, hd]; simp [strs, List.map_take]
    rw [this]
    exact ho
  · rw [hL']
    exact hfar2
  · exact Nat.le_trans (Nat.le_trans hJ1.le (by simp)) (Nat.le_trans hg.size (by simp [World.setCell]))
  · rw [Array.getElem?_setIfInBounds_ne (by omega), Array.getElem?_setIfInBounds_ne (by omega)]
  · rw [own_of A L.length j c]
    exact ((((Chg.set w v).trans (Chg.grown (grown_new (World.grownBy.refl _ _) _))).trans (Chg.grown hg)).trans (Chg.set w2 _))

set_option maxHeartbeats 2000000 in
theorem edge_any (w : World) (base b o n c d : Nat) (E : TypeId) (cur : Array Value) (L : List ByteArray) (A : Option Addr) (s : ByteArray) (hJ : Jdg w base b o E cur n L A c) (hn : n ≤ 400) (hd1 : 1 ≤ d) (hd2 : d ≤ L.length + 1) (hs : s.size ≤ 140737488351232) :
    Calls Tryz.prog 56 #[.pointer (some ⟨b, o, none⟩), .int .i64 d, .string s] w fun e w' => e = .returned (.int .i64 (judgeE n L d s : Nat)) ∧ Told w base b o E cur n L d s (Value.slice A L.length c).ownBlock w' := by
  have hJ1 := hJ.told_ (.int .i64 ((n : Int) + 1)) rfl
  have HJ := Lib.hid hJ
  obtain ⟨hc0, hc1, hf, hbl⟩ := hJ.cells
  have hf0 := hf o
  obtain ⟨_, hc1', hf', hbl'⟩ := hJ1.cells
  have hf1' := hf' (o + 1)
  obtain ⟨_, hc0', _⟩ : True ∧ (w.setCell ⟨b, o, none⟩ (.int .i64 ((n : Int) + 1))).cell? ⟨b, o, none⟩ = some (.int .i64 ((n : Int) + 1)) ∧ True := ⟨trivial, by
    rw [cell_of_row _ b o _ _ _ hJ1.heap]; exact hJ1.told, trivial⟩
  obtain ⟨r, hr⟩ : ∃ r, r = judgeE n L d s := ⟨_, rfl⟩
  have HT := Lib.hid (fun (he : r ≠ 0) => told_no (d := d) (s := s) hJ (.int .i64 ((n : Int) + 1)) rfl (hr ▸ he) (Value.slice A L.length c).ownBlock)
  have hr2 := hr
  unfold judgeE at hr2
  rw [← hr]
  have Hr := Lib.hid hr
  clear hr hf hf'
  obtain ⟨k, hk⟩ : ∃ k, k = L.length := ⟨_, rfl⟩
  rw [← hk] at hc1 hc1' hd2
  have Hk := Lib.hid hk
  by_cases h1 : 400 < n + 1
  · rw [if_pos h1] at hr2
    subst hr2
    have h1' : (400 : Int) < (n : Int) + 1 := by omega
    clear hk hJ hJ1 Hr HJ h1
    go_enter Tryz.func56, Tryz.ntmps56
    go_wp2_with fail
    go_ret
    exact ⟨rfl, HT.out (by omega)⟩
  rw [if_neg h1] at hr2
  have h1' : ¬ (400 : Int) < (n : Int) + 1 := by omega
  by_cases h2 : 12 < d
  · rw [if_pos h2] at hr2
    subst hr2
    have h2' : (12 : Int) < (d : Int) := by omega
    clear hk hJ hJ1 Hr HJ h1 h2
    go_enter Tryz.func56, Tryz.ntmps56
    go_wp2_with fail
    go_ret
    exact ⟨rfl, HT.out (by omega)⟩
  rw [if_neg h2] at hr2
  have h2' : ¬ (12 : Int) < (d : Int) := by omega
  by_cases h3 : 80 < s.size
  · rw [if_pos h3] at hr2
    subst hr2
    have h3' : (80 : Int) < (s.size : Int) := by omega
    clear hk hJ hJ1 Hr HJ h1 h2 h3
    go_enter Tryz.func56, Tryz.ntmps56
    go_wp2_with fail
    go_ret
    exact ⟨rfl, HT.out (by omega)⟩
  rw [if_neg h3] at hr2
  have h3' : ¬ (80 : Int) < (s.size : Int) := by omega
  obtain ⟨j, hj⟩ : ∃ j, d = j + 1 := ⟨d - 1, by omega⟩
  have hdj : (d : Int) - 1 = (j : Int) := by omega
  have hj0 : (0 : Int) ≤ (j : Int) := by omega
  have hjk : j ≤ k := by omega
  by_cases h4 : d ≤ L.length ∧ Op.bytesLess (L.getD (d - 1) ⟨#[]⟩).toList s.toList = false
  · rw [if_pos h4] at hr2
    subst hr2
    obtain ⟨g, rfl, hgb, hgl, hcg⟩ := hJ1.at_ (j := j) (by have := h4.1; omega)
    have h4' := h4.2
    rw [show d - 1 = j by omega] at h4'
    obtain ⟨p, hp⟩ : ∃ p, p = L.getD j ⟨#[]⟩ := ⟨_, rfl⟩
    rw [← hp] at hcg h4'
    have hdk : d ≤ k := by rw [hk]; exact h4.1
    have hdk' : decide (d ≤ k) = true := by simpa using hdk
    have hjk2 : j < k := by omega
    have hjk3 : (j : Int) < (k : Int) := by omega
    clear hk hJ hJ1 Hr HJ h1 h2 h3 h4 hp hj
    rcases not_lt h4' with h5 | ⟨h5, h6⟩
    all_goals
      clear h4'
      go_enter Tryz.func56, Tryz.ntmps56
      go_wp2_with fail
      go_ret
      exact ⟨rfl, HT.out (by omega)⟩
  rw [if_neg h4] at hr2
  subst hr2
  have hrow := row_take hJ1.row (m := j) (by omega)
  have hfar1 : (Value.slice A j c).ownBlock ≠ some b := by rw [own_of A j L.length c]; exact hJ.far
  have hb1 : base ≤ (w.setCell ⟨b, o, none⟩ (.int .i64 ((n : Int) + 1))).heap.size := hJ1.le
  have hsrc : ∀ (W : World) (g : Nat), g = W.heap.size → Src Tryz.prog 1 28 (.slice (some ⟨g, 0, none⟩) 1 1) 1 (strs [s]) (W.alloc (Obj.cells #[Value.string s] 9)) := fun W g hg =>
    hg ▸ Src.laid Tryz.underlying28 rfl (fun j u hu => by rw [cell_of_row _ _ _ _ _ _ (heap_alloc_new W _), ← hu]; simp [strs]) (strs_one _)
  have hj12 : j + 1 ≤ 1099511627776 := by omega
  have HK2 : Hid (strs (L.take j) = (strs L).take j) := Lib.hid (by simp [strs, List.map_take])
  have hcap : (A = none ∧ j = 0 ∧ c = 0) ∨ ∃ g, A = some ⟨g, 0, none⟩ ∧ j ≤ c ∧ c ≤ maxLen := by
    rcases hrow.2 with ⟨e1, e2⟩ | ⟨g, cap, cu, e1, hg, hh, hcap, hmx, hsz, htk⟩
    · injection e1 with a1 a2 a3
      exact .inl ⟨a1, a2, a3⟩
    · injection e1 with a1 a2 a3
      exact .inr ⟨g, a1, a3 ▸ hcap, a3 ▸ hmx⟩
  have hguard : (decide (d ≤ k) = false) ∨ (decide (d ≤ k) = true ∧ ∃ g p, A = some ⟨g, 0, none⟩ ∧ g ≠ b ∧ g < (w.setCell ⟨b, o, none⟩ (.int .i64 ((n : Int) + 1))).heap.size ∧ (w.setCell ⟨b, o, none⟩ (.int .i64 ((n : Int) + 1))).cell? ⟨g, j, none⟩ = some (.string p) ∧ Op.bytesLess s.toList p.toList = false ∧ (s.toList == p.toList) = false) := by
    by_cases hdk : d ≤ k
    · right
      obtain ⟨g, hA, hgb, hgl, hcg⟩ := hJ1.at_ (j := j) (by omega)
      refine ⟨by simpa using hdk, g, _, hA, hgb, hgl, hcg, ?_⟩
      have : Op.bytesLess (L.getD (d - 1) ⟨#[]⟩).toList s.toList = true := by
        cases hx : Op.bytesLess (L.getD (d - 1) ⟨#[]⟩).toList s.toList with
        | true => rfl
        | false => exact absurd ⟨by omega, hx⟩ h4
      rw [show d - 1 = j by omega] at this
      exact lt_not this
    · left
      simpa using hdk
  have HJ1 := Lib.hid hJ1
  have Hfar := Lib.hid hfar1
  have Hj := Lib.hid hj
  clear hk hJ hJ1 h1 h2 h3 h4 hfar1 hj
  rcases hguard with hg1 | ⟨hg1, g, p, rfl, hgb, hgl, hcg, hs2, hs3⟩
  · rcases hcap with ⟨rfl, rfl, rfl⟩ | ⟨g, rfl, hjc, hcm⟩
    · go_enter Tryz.func56, Tryz.ntmps56
      go_wp2_with (at_builtin; refine wpList_append_row rfl (.tmp 54) (.tmp 56) _ _ rfl elem_str rfl rfl (hrow.alloc _) (hsrc _ _ (by simp)) hj12 (Nat.le_trans hb1 (by simp)) ?_; intro A2 c2 w2 ho2 hg2 hat2; have hblk := (hg2.block b (by simp at hbl' ⊢; omega) (fun e => Hfar.out e.symm)).trans (heap_keep HJ1.out.heap _); have hcw := (cell_of_row w2 b (o + 1) _ _ _ hblk).trans HJ1.out.names; have hfw : w2.frozen? ⟨b, o + 1, none⟩ = false := (by simp [World.frozen?, hblk]); clear hblk)
      go_ret
      exact ⟨rfl, told_yes HJ.out rfl Hj.out (by rw [← Hk.out]; exact hjk) ho2 hg2 hat2⟩
    · go_enter Tryz.func56, Tryz.ntmps56
      go_wp2_with (at_builtin; refine wpList_append_row rfl (.tmp 54) (.tmp 56) _ _ rfl elem_str rfl rfl (hrow.alloc _) (hsrc _ _ (by simp)) hj12 (Nat.le_trans hb1 (by simp)) ?_; intro A2 c2 w2 ho2 hg2 hat2; have hblk := (hg2.block b (by simp at hbl' ⊢; omega) (fun e => Hfar.out e.symm)).trans (heap_keep HJ1.out.heap _); have hcw := (cell_of_row w2 b (o + 1) _ _ _ hblk).trans HJ1.out.names; have hfw : w2.frozen? ⟨b, o + 1, none⟩ = false := (by simp [World.frozen?, hblk]); clear hblk)
      go_ret
      exact ⟨rfl, told_yes HJ.out rfl Hj.out (by rw [← Hk.out]; exact hjk) ho2 hg2 hat2⟩
  · obtain ⟨g', e, hjc, hcm⟩ := hcap.resolve_left (fun e => by cases e.1)
    cases e
    have hjk2 : j < k := by have := of_decide_eq_true hg1; have := Hj.out; omega
    have hjk3 : (j : Int) < (k : Int) := by omega
    go_enter Tryz.func56, Tryz.ntmps56
    go_wp2_with (at_builtin; refine wpList_append_row rfl (.tmp 54) (.tmp 56) _ _ rfl elem_str rfl rfl (hrow.alloc _) (hsrc _ _ (by simp)) hj12 (Nat.le_trans hb1 (by simp)) ?_; intro A2 c2 w2 ho2 hg2 hat2; have hblk := (hg2.block b (by simp at hbl' ⊢; omega) (fun e => Hfar.out e.symm)).trans (heap_keep HJ1.out.heap _); have hcw := (cell_of_row w2 b (o + 1) _ _ _ hblk).trans HJ1.out.names; have hfw : w2.frozen? ⟨b, o + 1, none⟩ = false := (by simp [World.frozen?, hblk]); clear hblk)
    go_ret
    exact ⟨rfl, told_yes HJ.out rfl Hj.out (by rw [← Hk.out]; exact hjk) ho2 hg2 hat2⟩
end Go.Proofs.YtapgaglkkgbgkaaGreatDoor.Jd
namespace Go.Proofs.YtapgaglkkgbgkaaGreatDoor
open Go.RowKit Go.Shelf
set_option maxRecDepth 100000
attribute [local go_sem] Oper.semAt_some

inductive Todo (w : World) (B D : Nat) : List Job → Nat → List Handed → Prop where
  | nil : Todo w B D [] 0 []
  | cons {L : List Job} {x : Job} {t : Tr} {ys zs : List Handed} {m : Nat} (hw : Walks w B x.at_ x.n x.deep t ys) (hc : x.n ≤ x.c) (hm : x.c ≤ maxLen) (hd : x.deep + t.size ≤ D) (hl : Todo w B D L m zs) : Todo w B D (L ++ [x]) (m + 2 * t.size + 1) (ys ++ zs)
theorem Todo.keep {w w' : World} {B D : Nat} (hk : ∀ p : Addr, p.block < B → w'.cell? p = w.cell? p) {L : List Job} {m : Nat} {xs : List Handed} (h : Todo w B D L m xs) : Todo w' B D L m xs := by
  induction h with
  | nil => exact .nil
  | cons hw hc hm hd _ ih => exact .cons (hw.keep hk) hc hm hd ih
theorem Todo.len {w : World} {B D : Nat} {L : List Job} {m : Nat} {xs : List Handed} (h : Todo w B D L m xs) : L.length ≤ m := by
  induction h with
  | nil => exact Nat.le_refl _
  | cons hw hc hm _ _ ih => simp; omega

theorem edges_any (A : Option Addr) (n c : Nat) (w : World) : Calls Tryz.prog 55 #[.slice A n c] w fun e w' =>
    e = .returned (.func (.func 74) #[] #[.pointer (some ⟨w.heap.size, 0, none⟩)]) ∧ w' = w.alloc (.cells #[.slice A n c] 30) := by
  go_enter Tryz.func55, Tryz.ntmps55
  go_wp2
  go_ret
  exact ⟨rfl, rfl⟩

set_option maxHeartbeats 2000000 in
theorem edges_in (n l gb B c0 : Nat) (A0 : Option Addr) (t0 : Tr) (xs : List Handed) (J Jx : List Handed → World → Prop) (W0 : World)
    (hJ : ∀ s A C, J s A → Keeps (pA kinds) B A C → J s C) 
    (hY : ∀ pre x W1, J pre W1 → (pre ++ [x]) <+: xs → YieldAt Fence.wide (n - 1) Tryz.prog l x.args W1 fun e W' =>
      (e = .returned (.bool true) ∧ J (pre ++ [x]) W' ∧ Keeps (pT kinds) B W1 W') ∨ (e = .returned (.bool false) ∧ Jx (pre ++ [x]) W'))
    (hB : B ≤ W0.heap.size) (hbox : W0.cell? ⟨gb, 0, none⟩ = some (.slice A0 t0.len c0)) (hw : Walks W0 B A0 t0.len 1 t0 xs) (hc0 : t0.len ≤ c0) (hm0 : c0 ≤ maxLen) (hsz : t0.size ≤ 549755813888) (h0 : J [] W0) :
    CallsIn Fence.wide n Tryz.prog 74 #[.func (.yield l) #[] #[], .pointer (some ⟨gb, 0, none⟩)] W0 fun e W' => (∃ v, e = .returned v) ∧ (J xs W' ∨ (∃ pre, pre <+: xs ∧ Jx pre W')) := by
  refine callsIn_of_wp Tryz.func74 rfl trivial ?_ rfl
  simp only [Tryz.ntmps74, List.size_toArray, List.length_cons, List.length_nil, Nat.reduceAdd, Nat.reduceSub, Array.replicate_succ, Array.replicate_zero, List.push_toArray, List.append_toArray, List.nil_append, List.cons_append]
  have hgl : gb < W0.heap.size := World.block_lt_of_cell? _ _ hbox
  gi_wp2
  gi_loopg [] (2 * t0.size + 1) (fun k wr => ∃ L pre zs, k ≤ 2 * t0.size + 1 ∧ Todo wr B (t0.size + 1) L k zs ∧ Stk wr W0.heap.size (W0.heap.size + 1) L ∧ J pre wr ∧ xs = pre ++ zs ∧ W0.heap.size ≤ wr.heap.size)
  case atStart =>
    refine ⟨[⟨A0, t0.len, c0, 1⟩], [], xs, Nat.le_refl _, ?_, ⟨by omega, some ⟨W0.heap.size, 0, none⟩, 1, ?_, ?_⟩, ?_, by simp, by simp; omega⟩
    · have := Todo.cons (L := []) (x := ⟨A0, t0.len, c0, 1⟩) hw hc0 hm0 (D := t0.size + 1) (by simp; omega) .nil
      have := this.keep (w' := (W0.alloc (Obj.cells #[Value.slice A0 t0.len c0, Value.int IntKind.i64 1] 124)).alloc (Obj.cells #[Value.slice (some { block := W0.heap.size, off := 0 }) 1 1] 126)) (fun p hp => by
        rw [World.cell?_alloc_lt _ _ _ (by simp; omega), World.cell?_alloc_lt _ _ _ (by omega)])
      simpa using this
    · have := heap_alloc_new (W0.alloc (Obj.cells #[Value.slice A0 t0.len c0, Value.int IntKind.i64 1] 124)) (Obj.cells #[Value.slice (some { block := W0.heap.size, off := 0 }) 1 1] 126)
      simpa using this
    · exact (World.ownsRow_lit (base := W0.heap.size) (e := 124) (size := 2) W0 #[Value.slice A0 t0.len c0, Value.int IntKind.i64 1] 1 (Nat.le_refl _) (by simp [maxLen]) rfl).alloc _
    · exact hJ _ _ _ h0 ((Keeps.alloc _ W0 _ hB).trans (Keeps.alloc _ _ _ (by simp; omega)))
  case round =>
    obtain ⟨L, pre, zs, hk, hT, hS, hJr, hx, hle⟩ := hrel
    cases hT with
    | nil =>
      obtain ⟨A, c, hb, _⟩ := hS.row
      have hbx : wr.cell? ⟨W0.heap.size + 1, 0, none⟩ = some (.slice A 0 c) := by rw [cell_of_row wr _ 0 _ _ _ hb]; rfl
      have Hx := Lib.hid hx
      clear hx hb
      gi_wp2
      go_end0
      exact ⟨⟨_, rfl⟩, .inl (by rw [Hx.out, List.append_nil]; exact hJr)⟩
    | @cons L x t ys zs m hw1 hc1 hm1 hd1 hT =>
      obtain ⟨A, c, hb, _⟩ := hS.row
      have hbx : wr.cell? ⟨W0.heap.size + 1, 0, none⟩ = some (.slice A (L.length + 1) c) := by rw [cell_of_row wr _ 0 _ _ _ hb]; simp
      have hgw : W0.heap.size + 1 < wr.heap.size := (Array.getElem?_eq_some_iff.1 hb).1
      have hLl : L.length ≤ 1099511627776 := by have := hT.len; omega
      have Hx := Lib.hid hx
      have Hb := Lib.hid hb
      clear hx hb
      cases t with
      | nil =>
        obtain ⟨hys, hn⟩ := hw1
        obtain ⟨xa, xn, xc, xd⟩ := x
        simp only at hn hc1 hm1
        subst hn
        have Hys := Lib.hid hys
        clear hys
        gi_wp2_with (refine ⟨trivial, fun h => (by cases h), ?_⟩; gi_at_call 75; refine (callsIn_wide.2 (pop_any _ _ L _ _ hS hLl)).mono ?_; rintro e w1 ⟨rfl, hS1, hg1⟩; have hle1 := hg1.size)
        have hb1 : Below B wr w1 := (Below.refl _ _).grown hg1 (by omega) (fun q hq => by injection hq with hq; omega)
        go_roundg m
        case measure => omega
        case rel =>
          refine ⟨L, pre, zs, by omega, (hT.keep fun p hp => (hb1.cell hp).trans rfl).keep fun p hp => World.cell?_alloc_lt _ _ _ (by omega), ?_, ?_, by rw [Hx.out, Hys.out, List.nil_append], by simp; omega⟩
          · exact hS1.keep (Keeps.alloc _ _ _ (Nat.le_trans hB (Nat.le_trans hle hle1)))
          · refine hJ _ _ _ hJr ((Keeps.grown hg1 (by omega) (fun q hq => ?_)).trans (Keeps.alloc _ _ _ (by omega)))
            injection hq with hq
            subst hq
            exact ⟨by omega, fun o ho => by rw [Hb.out] at ho; cases ho; rfl⟩
      | cons s k r =>
        obtain ⟨b, o, A', n', c', ys1, zs1, e, hbB, hs, hc2, hn2, hm2, hyw, hl2, hn3, hz, hys⟩ := hw1
        obtain ⟨xa, xn, xc, xd⟩ := x
        simp only at e hn3 hc1 hm1 hd1 hyw hz
        subst e; subst hn3
        have Hys := Lib.hid hys
        have Hl2 := Lib.hid hl2
        clear hys hl2
        have hpre : (pre ++ [⟨xd, s, A', n', c'⟩]) <+: xs := ⟨ys1 ++ zs1 ++ zs, by rw [Hx.out, Hys.out]; simp⟩
        gi_wp2_with (refine ⟨trivial, fun h => (by cases h), ?_⟩; gi_at_call 75; refine (callsIn_wide.2 (pop_any _ _ L _ _ hS hLl)).mono ?_; rintro e w1 ⟨rfl, hS1, hg1⟩; have hle1 := hg1.size; have hb1 : Below B wr w1 := (Below.refl _ _).grown hg1 (by omega) (fun q hq => by injection hq with hq; omega); have hs1 := (hb1.cell (p := ⟨b, o, none⟩) hbB).trans hs; have hc1' := (hb1.cell (p := ⟨b, o + 1, none⟩) hbB).trans hc2; have hbl : b < w1.heap.size := (by omega); have hJ1 := hJ _ _ _ hJr (((Keeps.grown hg1 (by omega) (fun q hq => (by injection hq with hq; subst hq; exact ⟨by omega, fun o' ho => by rw [Hb.out] at ho; cases ho; rfl⟩))).trans (Keeps.alloc _ w1 (Obj.cells #[Value.slice (some ⟨b, o, none⟩) (r.len + 1) xc, Value.int IntKind.i64 xd] 124) (by omega))).trans (Keeps.alloc _ _ (Obj.cells #[Value.string s, Value.slice A' n' c'] 56) (by simp; omega))); obtain ⟨fn, tmps, assign, body, hy, hR⟩ := hY pre ⟨xd, s, A', n', c'⟩ _ hJ1 hpre; simp only [Handed.args] at hy)
        refine ⟨fun h => (by cases h), hR.mono ?_⟩
        obtain ⟨W1, hW1⟩ : ∃ W, W = (w1.alloc (Obj.cells #[Value.slice (some ⟨b, o, none⟩) (r.len + 1) xc, Value.int IntKind.i64 xd] 124)).alloc (Obj.cells #[Value.string s, Value.slice A' n' c'] 56) := ⟨_, rfl⟩
        have hg4 : W1.heap[w1.heap.size]? = some (Obj.cells #[Value.slice (some ⟨b, o, none⟩) (r.len + 1) xc, Value.int IntKind.i64 xd] 124 (0, 0)) := by rw [hW1]; exact heap_keep (heap_alloc_new w1 _) _
        have hg5 : W1.heap[w1.heap.size + 1]? = some (Obj.cells #[Value.string s, Value.slice A' n' c'] 56 (0, 0)) := by
          rw [hW1]
          have := heap_alloc_new (w1.alloc (Obj.cells #[Value.slice (some ⟨b, o, none⟩) (r.len + 1) xc, Value.int IntKind.i64 xd] 124)) (Obj.cells #[Value.string s, Value.slice A' n' c'] 56)
          simpa using this
        have hSy : Stk W1 W0.heap.size (W0.heap.size + 1) L := by
          rw [hW1]
          exact hS1.keep ((Keeps.alloc _ w1 _ (by omega)).trans (Keeps.alloc (B := B) _ _ _ (by simp; omega)))
        have hbW : Below B wr W1 := by rw [hW1]; exact (hb1.alloc (by omega) _).alloc (by simp; omega) _
        have hsz1 : W1.heap.size = w1.heap.size + 2 := by rw [hW1]; simp
        rw [← hW1]
        clear hW1 hJ1 hy hR
        have Hsz1 := Lib.hid hsz1
        clear hsz1
        rintro e W3 (⟨rfl, hJ3, hk3⟩ | ⟨rfl, hJx3⟩)
        · have hS3 := hSy.keep hk3
          have hle3 : w1.heap.size + 1 < W3.heap.size := by have := Hsz1.out; have := hk3.size; omega
          have h40 : W3.cell? ⟨w1.heap.size, 0, none⟩ = some (Value.slice (some ⟨b, o, none⟩) (r.len + 1) xc) := by rw [cell_of_row W3 _ 0 _ _ _ (hk3.same _ _ hg4 rfl)]; rfl
          have h41 : W3.cell? ⟨w1.heap.size, 1, none⟩ = some (Value.int IntKind.i64 xd) := by rw [cell_of_row W3 _ 1 _ _ _ (hk3.same _ _ hg4 rfl)]; rfl
          have h51 : W3.cell? ⟨w1.heap.size + 1, 1, none⟩ = some (Value.slice A' n' c') := by rw [cell_of_row W3 _ 1 _ _ _ (hk3.same _ _ hg5 rfl)]; rfl
          have hT3 := (hT.keep fun p hp => hbW.cell hp).keep fun p hp => hk3.below.cell hp
          have hy3 := (hyw.keep fun p hp => hbW.cell hp).keep fun p hp => hk3.below.cell hp
          have hz3 := (hz.keep fun p hp => hbW.cell hp).keep fun p hp => hk3.below.cell hp
          clear hg4 hg5 hSy hbW hS1 hg1 hb1 hs1 hc1' hbl hs hc2 hT hyw hz hS hbx hJr
          have hxd : xd ≤ 549755813889 := by simp only [Tr.size] at hd1; omega
          have h1r : (1 : Int) ≤ (r.len : Int) + 1 := by omega
          have hzx : Walks W3 B (if xc = 1 then some ⟨b, o, none⟩ else some ⟨b, o + 2, none⟩) r.len xd r zs1 := by
            by_cases h1 : xc = 1
            · have h0 : r.len = 0 := by omega
              cases r with
              | nil => exact hz3
              | cons _ _ _ => simp [Tr.len] at h0
            · rw [if_neg h1]; exact hz3
          clear hz3
          gi_wp2
          refine wpIn_wide.2 ?_
          go_still_tail 12, (by kernel_rfl)
          change wpList _ _ _ _ _ W3.drew
          generalize (if xc = 1 then some (⟨b, o, none⟩ : Addr) else some ⟨b, o + 2, none⟩) = Ax at hzx ⊢
          go_wp2_with fail
          have hLm : L.length ≤ m := hT3.len
          have hn3 : r.len ≤ xc - 1 := by omega
          have hsize : (Tr.cons s k r).size = k.size + r.size + 1 := rfl
          have hL2 : L.length + 2 ≤ 1099511627776 := by omega
          have Hsize := Lib.hid hsize
          clear hsize
          refine (push_any W0.heap.size (W0.heap.size + 1) W3.heap.size 0 2 2 L [⟨Ax, r.len, xc - 1, xd⟩, ⟨A', n', c', xd + 1⟩] _ (hS3.keep (B := B) ((Keeps.alloc _ W3 _ (by omega)).drew)) rfl ?_ (by omega) (by simp; omega)).mono ?_
          · intro j u hu
            rw [World.cell?_drew, cell_of_row _ _ _ _ _ _ (heap_alloc_new W3 _)]
            rw [← hu]
            simp [jobs, Job.cells]
          rintro e W4 ⟨⟨v, rfl⟩, hS4, hk4⟩
          have hk34 : Keeps (pA kinds) B W3 W4 := ((Keeps.alloc _ W3 _ (by omega)).drew).trans (hk4.less hB)
          have hle4 : W3.heap.size ≤ W4.heap.size := hk34.size
          go_wp2_with fail
          go_roundg (m + 2 * r.size + 1 + 2 * k.size + 1)
          case measure => rw [Hsize.out]; omega
          case rel =>
            refine ⟨_, _, ys1 ++ (zs1 ++ zs), by rw [Hsize.out] at hk; omega, ?_, hS4, hJ _ _ _ hJ3 hk34, by rw [Hx.out, Hys.out]; simp, by omega⟩
            rw [Hsize.out] at hd1
            have hlow : ∀ p : Addr, p.block < B → W4.cell? p = W3.cell? p := fun p hp => hk34.below.cell hp
            have h1 := Todo.cons (x := ⟨Ax, r.len, xc - 1, xd⟩) (hzx.keep hlow) hn3 (by simp only; omega) (by simp only; omega) (hT3.keep hlow)
            have h2 := Todo.cons (x := ⟨A', n', c', xd + 1⟩) (hy3.keep hlow) hn2 hm2 (by simp only; omega) h1
            simpa using h2
        · gi_wp2
          refine bodyPost_ret (results_none rfl _ _ _) rfl ?_
          exact ⟨⟨_, rfl⟩, .inr ⟨_, hpre, hJx3⟩⟩

theorem edges_seq (n : Nat) (A : Option Addr) (c : Nat) (t : Tr) (w : World) (h : Holds w w.heap.size A t.len t) (hc : t.len ≤ c) (hm : c ≤ maxLen) (hsz : t.size ≤ 549755813888) :
    ∃ xs : List Handed, xs.map Handed.word = t.flat 1 ∧ ∀ w1, Below w.heap.size w w1 → ∀ gb, w1.cell? ⟨gb, 0, none⟩ = some (.slice A t.len c) → 
      SeqT kinds w.heap.size Fence.wide n Tryz.prog 74 #[.pointer (some ⟨gb, 0, none⟩)] Handed.args xs w1 := by
  obtain ⟨xs, hx⟩ := h.walks 1
  refine ⟨xs, hx.words, fun w1 hb gb hg l J Jx W hW hJ _ hY h0 => ?_⟩
  have hgl := World.block_lt_of_cell? _ _ hg
  have hbW : Below w.heap.size w W := hb.trans (hW.mono hb.size)
  exact edges_in n l gb w.heap.size c A t xs J Jx W hJ hY hbW.size ((hW.cell (p := ⟨gb, 0, none⟩) hgl).trans hg) (hx.keep fun p hp => hbW.cell hp) hc hm hsz h0
end Go.Proofs.YtapgaglkkgbgkaaGreatDoor
namespace Go.Proofs.YtapgaglkkgbgkaaGreatDoor
open Go.RowKit
set_option maxRecDepth 100000

def dig16 (n : Nat) : UInt8 := (UInt8.ofNat (if n < 10 then 48 + n else 87 + n))
def quoB (c : UInt8) : List UInt8 :=
  if c.toNat = 34 ∨ c.toNat = 92 then [92, c] else if c.toNat < 32 ∨ 126 < c.toNat then [92, 120, dig16 (c.toNat / 16), dig16 (c.toNat % 16)] else [c]
def quoL (l : List UInt8) : List UInt8 := l.flatMap quoB
def quo (l : List UInt8) : List UInt8 := [34] ++ quoL l ++ [34]
structure Grew (w0 w : World) (row : Option Nat) (A : Option Addr) : Prop where
  by_ : w0.grownBy w row
  at_ : ∀ a, A = some a → w0.heap.size ≤ a.block ∨ some a.block = row
theorem Grew.refl (w : World) (A : Option Addr) (n c : Nat) : Grew w w (Value.slice A n c).ownBlock A :=
  ⟨World.grownBy.refl w _, fun a ha => .inr (by subst ha; rfl)⟩
theorem Grew.alloc {w0 w : World} {row : Option Nat} {A : Option Addr} (h : Grew w0 w row A) (o : Obj) : Grew w0 (w.alloc o) row A :=
  ⟨⟨h.by_.os, h.by_.tape, h.by_.output, by simp; exact Nat.le_succ_of_le h.by_.size, fun k hk hn => (Below.heap_alloc w o k (by have := h.by_.size; omega)).trans (h.by_.block k hk hn)⟩, h.at_⟩
theorem Grew.drew {w0 w : World} {row : Option Nat} {A : Option Addr} (h : Grew w0 w row A) : Grew w0 w.drew row A := ⟨⟨h.by_.os, h.by_.tape, h.by_.output, h.by_.size, h.by_.block⟩, h.at_⟩
theorem Grew.step {w0 w w' : World} {row : Option Nat} {A A' : Option Addr} {n c : Nat} (h : Grew w0 w row A) (hg : w.grownBy w' (Value.slice A n c).ownBlock) (hat : ∀ a, A' = some a → a.block = w.heap.size ∨ some a.block = (Value.slice A n c).ownBlock) : Grew w0 w' row A' := by
  have hs := h.by_.size
  refine ⟨⟨hg.os.trans h.by_.os, hg.tape.trans h.by_.tape, hg.output.trans h.by_.output, Nat.le_trans hs hg.size, fun k hk hn => (hg.block k (by omega) (fun e => ?_)).trans (h.by_.block k hk hn)⟩, fun a ha => ?_⟩
  · cases A with
    | none => simp [Value.ownBlock] at e
    | some a =>
      simp only [Value.ownBlock, Option.some.injEq] at e
      rcases h.at_ a rfl with h1 | h1
      · omega
      · exact hn (by rw [e]; exact h1)
  · rcases hat a ha with e | e
    · exact .inl (by omega)
    · cases A with
      | none => simp [Value.ownBlock] at e
      | some a1 =>
        simp only [Value.ownBlock, Option.some.injEq] at e
        rcases h.at_ a1 rfl with h1 | h1
        · exact .inl (by omega)
        · exact .inr (by rw [e]; exact h1)

end Go.Proofs.YtapgaglkkgbgkaaGreatDoor
