/- csv: a row of rows of one's own, being grown: the rows' fields lie in other blocks. No conditions. · csv's rows of lines. Conditions: texts of ASCII bytes, of 4000 at most; MaxLen's cell. · Trees in memory, told with the blocks they lie in: kept, copied, one of their cells replaced by another slice that reads the same. No conditions. · The reference's checker: it goes through a tree level by level. Conditions: fewer than 2^47 edges beside one another. · A row of edges of one's own, being grown: what stands below its edges lies in other rows. No conditions. · csv: what a record has below it. Conditions: that inOrder sorts a row of edges of one's own. · csv: the edge of a record. Conditions: that inOrder sorts a row of edges of one's own. · csv: the edges of records. Conditions: that inOrder sorts a row of edges of one's own. · csv: the tree of records; a file's columns. Conditions: that inOrder sorts a row of edges of one's own. · csv: a file's columns. No conditions but that the head has a field. · slices.SortFunc at edges, whole: the shelf pays for what lies below it -/
import Derived.Test.YtgefoehpdiiomaaGreatDoorMwCvFlds
import Derived.Test.YtgefoehpdiiomaaGreatDoorMwWords
import Derived.Outline
import Derived.Test.YtgefoehpdiiomaaGreatDoorCvRec
import Derived.Deep.CutRange
import Derived.Test.YtgefoehpdiiomaaGreatDoorStack
import Derived.Test.YtgefoehpdiiomaaGreatDoorMwChkMath
import Derived.Test.YtgefoehpdiiomaaGreatDoorMwJudge
import Derived.Test.YtgefoehpdiiomaaGreatDoorMwChkP
import Derived.Deep.QuietTactic
import Derived.BigQuiet
import Derived.IntWalk
import Derived.Test.YtgefoehpdiiomaaGreatDoorWithW
import Derived.Deep.RegionHeld3
import Derived.Test.YtgefoehpdiiomaaGreatDoorSortLay
namespace Go.Proofs.YtgefoehpdiiomaaGreatDoor.Cv
open Go.RowKit Go.Proofs.YtgefoehpdiiomaaGreatDoor.Jd Go.Proofs.YtgefoehpdiiomaaGreatDoor.Li
set_option maxRecDepth 100000

theorem own_cap' {w : World} {base n c size k : Nat} {e : TypeId} {A : Option Addr} {xs : List Value} (h : w.ownsRow base e size (.slice A n c) k xs) (hk : k = n) : n ≤ c ∧ c ≤ maxLen := by
  subst hk
  rcases h.2 with ⟨e, _⟩ | ⟨g, cap, cur, e, _, _, hn, hm, _⟩
  · injection e with _ h1 h2
    subst h1; subst h2
    exact ⟨Nat.le_refl _, Nat.zero_le _⟩
  · injection e with _ _ h2
    subst h2
    exact ⟨hn, hm⟩
/-- As SeesL, in blocks of which P holds. -/
structure SeesLP (w : World) (P : Nat → Prop) (A : Option Addr) (n : Nat) (ls : List Ln) : Prop where
  len : n = ls.length
  cell : ∀ (j : Nat) (u : Value), (lcells ls)[j]? = some u → ∃ b o, A = some ⟨b, o, none⟩ ∧ P b ∧ w.cell? ⟨b, o + j, none⟩ = some u
section
variable {w w' : World} {P P' : Nat → Prop} {n : Nat} {A : Option Addr} {ls : List Ln}
theorem SeesLP.keep (h : SeesLP w P A n ls) (hk : ∀ b o, P b → w'.cell? ⟨b, o, none⟩ = w.cell? ⟨b, o, none⟩) : SeesLP w' P A n ls :=
  ⟨h.len, fun j u hu => by
    obtain ⟨b, o, e, hb, hc⟩ := h.cell j u hu
    exact ⟨b, o, e, hb, (hk b _ hb).trans hc⟩⟩
theorem SeesLP.more (h : SeesLP w P A n ls) (hP : ∀ b, P b → P' b) : SeesLP w P' A n ls :=
  ⟨h.len, fun j u hu => by
    obtain ⟨b, o, e, hb, hc⟩ := h.cell j u hu
    exact ⟨b, o, e, hP b hb, hc⟩⟩
theorem SeesLP.sees {B : Nat} (h : SeesLP w P A n ls) (hP : ∀ b, P b → b < B) : SeesL w B A n ls :=
  ⟨h.len, fun j u hu => by
    obtain ⟨b, o, e, hb, hc⟩ := h.cell j u hu
    exact ⟨b, o, e, hP b hb, hc⟩⟩
end
/-- Cells of rows; their fields lie in blocks that P picks. -/
def RwV (w : World) (P : Nat → Prop) : List Value → List Rw → Prop
  | [], [] => True
  | .slice A n c :: .string e :: vs, r :: rs => e = r.en ∧ n ≤ c ∧ c ≤ maxLen ∧ SeesLP w P A n r.fs ∧ RwV w P vs rs
  | _, _ => False
section
variable {w w' : World} {P P' : Nat → Prop}
theorem RwV.keep (hk : ∀ b o, P b → w'.cell? ⟨b, o, none⟩ = w.cell? ⟨b, o, none⟩) : ∀ {vs : List Value} {rs : List Rw}, RwV w P vs rs → RwV w' P vs rs
  | [], [], _ => trivial
  | .slice _ _ _ :: .string _ :: _, _ :: _, ⟨h1, h2, h3, h4, h5⟩ => ⟨h1, h2, h3, h4.keep hk, RwV.keep hk h5⟩
theorem RwV.more (hP : ∀ b, P b → P' b) : ∀ {vs : List Value} {rs : List Rw}, RwV w P vs rs → RwV w P' vs rs
  | [], [], _ => trivial
  | .slice _ _ _ :: .string _ :: _, _ :: _, ⟨h1, h2, h3, h4, h5⟩ => ⟨h1, h2, h3, h4.more hP, RwV.more hP h5⟩
theorem RwV.app : ∀ {vs us : List Value} {rs qs : List Rw}, RwV w P vs rs → RwV w P us qs → RwV w P (vs ++ us) (rs ++ qs)
  | [], _, [], _, _, h2 => h2
  | .slice _ _ _ :: .string _ :: _, _, _ :: _, _, ⟨h1, h2, h3, h4, h5⟩, h6 => ⟨h1, h2, h3, h4, RwV.app h5 h6⟩
theorem RwV.length : ∀ {vs : List Value} {rs : List Rw}, RwV w P vs rs → vs.length = rs.length * 2
  | [], [], _ => rfl
  | .slice _ _ _ :: .string _ :: _, _ :: _, ⟨_, _, _, _, h5⟩ => by
    have := RwV.length h5
    simp only [List.length_cons]
    omega
theorem RwV.at_ : ∀ {vs : List Value} {rs : List Rw} {k : Nat} {r : Rw}, RwV w P vs rs → rs[k]? = some r → ∃ A n c, vs[k * 2]? = some (.slice A n c) ∧ vs[k * 2 + 1]? = some (.string r.en) ∧ n ≤ c ∧ c ≤ maxLen ∧ SeesLP w P A n r.fs
  | [], [], _, _, _, h => by simp at h
  | .slice A n c :: .string e :: vs, r :: rs, 0, r', ⟨h1, h2, h3, h4, h5⟩, h => by
    simp only [List.getElem?_cons_zero, Option.some.injEq] at h
    subst h
    exact ⟨A, n, c, rfl, by rw [h1]; rfl, h2, h3, h4⟩
  | .slice A n c :: .string e :: vs, r :: rs, k + 1, r', ⟨h1, h2, h3, h4, h5⟩, h => by
    simp only [List.getElem?_cons_succ] at h
    rw [show (k + 1) * 2 = k * 2 + 1 + 1 by omega]
    exact RwV.at_ h5 h
end
section
variable {w w' : World} {base n c : Nat} {A : Option Addr} {rs : List Rw} {vs : List Value}
end
end Go.Proofs.YtgefoehpdiiomaaGreatDoor.Cv
namespace Go.Proofs.YtgefoehpdiiomaaGreatDoor.Cv
open Go.RowKit Go.Proofs.YtgefoehpdiiomaaGreatDoor.Jd Go.Proofs.YtgefoehpdiiomaaGreatDoor.Li
set_option maxRecDepth 100000

/-- The row of a line. -/
def rowF (x : Ln) : Rw := ⟨fldsL x.1, ⟨x.2.toArray⟩⟩
/-- The rows of lines behind these, or the line that has a fault, and the fault. -/
def rowsF : List Rw → Nat → List Ln → List Rw × Nat × Int
  | ahead, _, [] => (ahead, 0, 0)
  | ahead, i, x :: r => if faultF ahead (rowF x) ≠ 0 then ([], i + 1, faultF ahead (rowF x)) else rowsF (ahead ++ [rowF x]) (i + 1) r
theorem fault_fs {ahead : List Rw} {r : Rw} (h : ¬ faultF ahead r ≠ 0) : r.fs ≠ [] := fun e => h (by unfold faultF; rw [if_pos e]; decide)
theorem flds_len : ∀ (F : Nat) (l : Bs) (r : List Ln), flds F l = some r → r.length ≤ F
  | 0, _, _, h => by simp [flds] at h
  | F + 1, l, r, h => by
    rw [flds] at h
    split at h
    · cases h
    · split at h
      · injection h with h; subst h; simp
      · cases hf : flds F (l.drop (wid false l + 1)) with
        | none => rw [hf] at h; cases h
        | some q =>
          rw [hf] at h
          injection h with h
          subst h
          have := flds_len F _ q hf
          simp only [List.length_cons]
          omega
theorem fldsL_len (l : Bs) : (fldsL l).length ≤ l.length + 1 := by
  unfold fldsL
  cases h : flds (l.length + 1) l with
  | none => simp
  | some r => exact flds_len _ _ _ h
/-- What the region leaves: the row just read. -/
theorem own_base {w : World} {base base' n size : Nat} {e : TypeId} {v : Value} {xs : List Value} (h : w.ownsRow base' e size v n xs) (hb : base ≤ base') : w.ownsRow base e size v n xs :=
  ⟨h.1, by
    rcases h.2 with hn | ⟨g, cap, cur, e1, hg, rest⟩
    · exact .inl hn
    · exact .inr ⟨g, cap, cur, e1, Nat.le_trans hb hg, rest⟩⟩
end Go.Proofs.YtgefoehpdiiomaaGreatDoor.Cv
namespace Go.Proofs.YtgefoehpdiiomaaGreatDoor.Cl
open Go.RowKit
set_option maxRecDepth 100000

/-- As Holds, in blocks of which P holds. -/
def HoldsP (w : World) (P : Nat → Prop) : Option Addr → Nat → Tr → Prop
  | _, n, .nil => n = 0
  | A, n, .cons s k r => ∃ b o, A = some ⟨b, o, none⟩ ∧ P b ∧ w.cell? ⟨b, o, none⟩ = some (.string s) ∧
      (∃ A' n' c', w.cell? ⟨b, o + 1, none⟩ = some (.slice A' n' c') ∧ n' ≤ c' ∧ c' ≤ maxLen ∧ HoldsP w P A' n' k) ∧ ∃ m, n = m + 1 ∧ HoldsP w P (some ⟨b, o + 2, none⟩) m r
section
variable {w w' : World} {P P' : Nat → Prop}
theorem HoldsP.keep (hk : ∀ b o, P b → w'.cell? ⟨b, o, none⟩ = w.cell? ⟨b, o, none⟩) : ∀ {A : Option Addr} {n : Nat} {t : Tr}, HoldsP w P A n t → HoldsP w' P A n t
  | _, _, .nil, h => h
  | _, _, .cons _ _ _, ⟨b, o, e, hb, hs, ⟨A', n', c', hc, hn, hm, hk1⟩, m, hm1, hr⟩ =>
    ⟨b, o, e, hb, (hk b o hb).trans hs, ⟨A', n', c', (hk b _ hb).trans hc, hn, hm, HoldsP.keep hk hk1⟩, m, hm1, HoldsP.keep hk hr⟩
theorem HoldsP.more (hP : ∀ b, P b → P' b) : ∀ {A : Option Addr} {n : Nat} {t : Tr}, HoldsP w P A n t → HoldsP w P' A n t
  | _, _, .nil, h => h
  | _, _, .cons _ _ _, ⟨b, o, e, hb, hs, ⟨A', n', c', hc, hn, hm, hk1⟩, m, hm1, hr⟩ =>
    ⟨b, o, e, hP b hb, hs, ⟨A', n', c', hc, hn, hm, HoldsP.more hP hk1⟩, m, hm1, HoldsP.more hP hr⟩
theorem HoldsP.of {B : Nat} : ∀ {A : Option Addr} {n : Nat} {t : Tr}, Holds w B A n t → HoldsP w (· < B) A n t
  | _, _, .nil, h => h
  | _, _, .cons _ _ _, ⟨b, o, e, hb, hs, ⟨A', n', c', hc, hn, hm, hk1⟩, m, hm1, hr⟩ => ⟨b, o, e, hb, hs, ⟨A', n', c', hc, hn, hm, HoldsP.of hk1⟩, m, hm1, HoldsP.of hr⟩
theorem HoldsP.to {B : Nat} (hP : ∀ b, P b → b < B) : ∀ {A : Option Addr} {n : Nat} {t : Tr}, HoldsP w P A n t → Holds w B A n t
  | _, _, .nil, h => h
  | _, _, .cons _ _ _, ⟨b, o, e, hb, hs, ⟨A', n', c', hc, hn, hm, hk1⟩, m, hm1, hr⟩ => ⟨b, o, e, hP b hb, hs, ⟨A', n', c', hc, hn, hm, HoldsP.to hP hk1⟩, m, hm1, HoldsP.to hP hr⟩
theorem HoldsP.len : ∀ {A : Option Addr} {n : Nat} {t : Tr}, HoldsP w P A n t → n = t.len
  | _, _, .nil, h => h
  | _, _, .cons _ _ _, ⟨_, _, _, _, _, _, m, hm1, hr⟩ => by rw [hm1, HoldsP.len hr]; rfl
/-- What a slice reads as is one tree. -/
theorem HoldsP.uniq : ∀ {t u : Tr} {A : Option Addr} {n : Nat}, HoldsP w P A n t → HoldsP w P' A n u → t = u
  | .nil, .nil, _, _, _, _ => rfl
  | .nil, .cons _ _ _, _, _, h, ⟨_, _, _, _, _, _, m, hm, _⟩ => by have h : _ = 0 := h; omega
  | .cons _ _ _, .nil, _, _, ⟨_, _, _, _, _, _, m, hm, _⟩, h => by have h : _ = 0 := h; omega
  | .cons s k r, .cons s' k' r', _, _, ⟨b, o, e, _, hs, ⟨A1, n1, c1, hc, _, _, hk⟩, m, hm, hr⟩, ⟨b', o', e', _, hs', ⟨A2, n2, c2, hc', _, _, hk'⟩, m', hm', hr'⟩ => by
    rw [e] at e'
    injection e' with e'
    injection e' with e1 e2
    subst e1; subst e2
    rw [hs] at hs'
    injection hs' with hs'
    injection hs' with hs'
    subst hs'
    rw [hc] at hc'
    injection hc' with hc'
    injection hc' with a1 a2 a3
    subst a1; subst a2
    obtain rfl : m = m' := by omega
    rw [HoldsP.uniq hk hk', HoldsP.uniq hr hr']
/-- One cell holds another slice that reads the same. -/
theorem HoldsP.repl {p q n1 c1 n2 c2 : Nat} {X Y : Option Addr} {u : Tr} {cur : Array Value} {E : TypeId} (hh : w.heap[p]? = some (.cells cur E (0, 0))) (hq : w.cell? ⟨p, q, none⟩ = some (.slice X n1 c1)) (_ : HoldsP w P X n1 u) (h2 : HoldsP w P Y n2 u) (hn : n2 ≤ c2) (hm : c2 ≤ maxLen) (h1 : HoldsP w P X n1 u) :
    ∀ {A : Option Addr} {n : Nat} {t : Tr}, HoldsP w P A n t → HoldsP (w.setCell ⟨p, q, none⟩ (.slice Y n2 c2)) P A n t := by
  have hat : (w.setCell ⟨p, q, none⟩ (.slice Y n2 c2)).cell? ⟨p, q, none⟩ = some (.slice Y n2 c2) := by
    rw [cell_of_row _ _ _ _ _ _ (heap_setCell_same w p q cur E _ hh)]
    have : q < cur.size := by
      rw [cell_of_row _ _ _ _ _ _ hh] at hq
      exact (Array.getElem?_eq_some_iff.1 hq).1
    simp [this]
  have hfar : ∀ b o, ¬ (b = p ∧ o = q) → (w.setCell ⟨p, q, none⟩ (.slice Y n2 c2)).cell? ⟨b, o, none⟩ = w.cell? ⟨b, o, none⟩ := fun b o hne =>
    World.cell?_setCell_other _ _ _ _ (fun e => hne ⟨(congrArg Addr.block e).symm, (congrArg Addr.off e).symm⟩)
  intro A n t
  induction t generalizing A n with
  | nil => exact fun h => h
  | cons s k r ihk ihr =>
    rintro ⟨b, o, e, hb, hs, ⟨A', n', c', hc, hn', hm', hk⟩, m, hm1, hr⟩
    refine ⟨b, o, e, hb, ?_, ?_, m, hm1, ihr hr⟩
    · rw [hfar b o (fun ⟨e1, e2⟩ => by subst e1; subst e2; rw [hs] at hq; cases hq)]
      exact hs
    · by_cases hpq : b = p ∧ o + 1 = q
      · obtain ⟨rfl, rfl⟩ := hpq
        rw [hc] at hq
        injection hq with hq
        injection hq with a1 a2 a3
        subst a1; subst a2; subst a3
        have e := hk.uniq h1
        subst e
        exact ⟨Y, n2, c2, hat, hn, hm, ihk h2⟩
      · exact ⟨A', n', c', by rw [hfar b (o + 1) hpq]; exact hc, hn', hm', ihk hk⟩
/-- Its cells laid elsewhere. -/
theorem HoldsP.copy (hk : ∀ b o, P b → w'.cell? ⟨b, o, none⟩ = w.cell? ⟨b, o, none⟩) (hP : ∀ b, P b → P' b) : ∀ {n : Nat} {t : Tr} {b o g q : Nat}, HoldsP w P (some ⟨b, o, none⟩) n t → P' g → (∀ j, j < n * 2 → w'.cell? ⟨g, q + j, none⟩ = w.cell? ⟨b, o + j, none⟩) → HoldsP w' P' (some ⟨g, q, none⟩) n t
  | _, .nil, _, _, _, _, h, _, _ => h
  | _, .cons _ _ _, b, o, g, q, ⟨b', o', e, hb, hs, ⟨A', n', c', hc, hn, hm, hk1⟩, m, hm1, hr⟩, hg, hcp => by
    injection e with e
    injection e with e1 e2
    subst e1; subst e2
    subst hm1
    refine ⟨g, q, rfl, hg, ?_, ⟨A', n', c', ?_, hn, hm, (HoldsP.keep hk hk1).more hP⟩, m, rfl, HoldsP.copy hk hP hr hg (fun j hj => ?_)⟩
    · have := hcp 0 (by omega)
      simp only [Nat.add_zero] at this
      rw [this]; exact hs
    · rw [hcp 1 (by omega)]; exact hc
    · have := hcp (j + 2) (by omega)
      rw [show q + 2 + j = q + (j + 2) by omega, show o + 2 + j = o + (j + 2) by omega]
      exact this
/-- Its cells in a row. -/
theorem HoldsP.row : ∀ {t : Tr} {A : Option Addr} {n : Nat}, HoldsP w P A n t → ∃ vs : List Value, vs.length = n * 2 ∧ (∀ u ∈ vs, u.oneCell' = true) ∧ (∀ b o, A = some ⟨b, o, none⟩ → ∀ j u, vs[j]? = some u → w.cell? ⟨b, o + j, none⟩ = some u) ∧ (0 < n → ∃ b o, A = some ⟨b, o, none⟩ ∧ P b)
  | .nil, _, n, h => by
    have h : n = 0 := h
    subst h
    exact ⟨[], rfl, fun u hu => (by cases hu), fun _ _ _ j u hu => (by simp at hu), fun h => (by omega)⟩
  | .cons s k r, _, _, ⟨b, o, e, hb, hs, ⟨A', n', c', hc, _, _, _⟩, m, hm1, hr⟩ => by
    obtain ⟨vs, h1, h2, h3, _⟩ := HoldsP.row hr
    subst hm1
    refine ⟨.string s :: .slice A' n' c' :: vs, by simp only [List.length_cons, h1]; omega, ?_, ?_, fun _ => ⟨b, o, e, hb⟩⟩
    · intro u hu
      simp only [List.mem_cons] at hu
      rcases hu with rfl | rfl | hu
      · rfl
      · rfl
      · exact h2 u hu
    · intro b' o' e' j u hu
      rw [e] at e'
      injection e' with e'
      injection e' with e1 e2
      subst e1; subst e2
      match j, hu with
      | 0, hu => simp at hu; subst hu; exact hs
      | 1, hu => simp at hu; subst hu; exact hc
      | j + 2, hu =>
        have := h3 b (o + 2) rfl j u (by simpa using hu)
        rw [show o + (j + 2) = o + 2 + j by omega]
        exact this
end
/-- The edges of a tree, one by one: the cell of the i-th one's slice, and what it reads as. -/
def subs : Tr → List Tr
  | .nil => []
  | .cons _ k r => k :: subs r
theorem subs_len : ∀ t : Tr, (subs t).length = t.len
  | .nil => rfl
  | .cons _ _ r => by simp only [subs, List.length_cons, Tr.len, subs_len r]
theorem HoldsP.sub {w : World} {P : Nat → Prop} : ∀ {t : Tr} {b o n i : Nat} {u : Tr}, HoldsP w P (some ⟨b, o, none⟩) n t → (subs t)[i]? = some u → ∃ A' n' c', w.cell? ⟨b, o + i * 2 + 1, none⟩ = some (.slice A' n' c') ∧ n' ≤ c' ∧ c' ≤ maxLen ∧ HoldsP w P A' n' u
  | .nil, _, _, _, i, _, _, h => by simp [subs] at h
  | .cons s k r, b, o, n, 0, u, ⟨b', o', e, _, _, ⟨A', n', c', hc, hn, hm, hk⟩, _⟩, h => by
    injection e with e
    injection e with e1 e2
    subst e1; subst e2
    simp only [subs, List.getElem?_cons_zero, Option.some.injEq] at h
    subst h
    exact ⟨A', n', c', by simpa using hc, hn, hm, hk⟩
  | .cons s k r, b, o, n, i + 1, u, ⟨b', o', e, _, _, _, m, _, hr⟩, h => by
    injection e with e
    injection e with e1 e2
    subst e1; subst e2
    simp only [subs, List.getElem?_cons_succ] at h
    obtain ⟨A', n', c', hc, h2⟩ := HoldsP.sub hr h
    exact ⟨A', n', c', by rw [show o + (i + 1) * 2 + 1 = o + 2 + i * 2 + 1 by omega]; exact hc, h2⟩
/-- What the trees on the stack still have to be gone through. -/
def load : List Tr → Nat
  | [] => 0
  | t :: r => t.size + 1 + load r
theorem load_append (a b : List Tr) : load (a ++ b) = load a + load b := by
  induction a with
  | nil => simp [load]
  | cons x r ih => simp only [List.cons_append, load, ih]; omega
theorem load_subs : ∀ t : Tr, load (subs t) = t.size
  | .nil => rfl
  | .cons _ k r => by simp only [subs, load, Tr.size, load_subs r]; omega
theorem load_len (l : List Tr) : l.length ≤ load l := by
  induction l with
  | nil => exact Nat.le_refl _
  | cons x r ih => simp only [List.length_cons, load]; omega
end Go.Proofs.YtgefoehpdiiomaaGreatDoor.Cl
namespace Go.Proofs.YtgefoehpdiiomaaGreatDoor.Jd
open Go.RowKit
set_option maxRecDepth 100000

/-- The name ahead of the k-th edge. -/
def nameAt : Tr → Nat → Option ByteArray
  | .nil, _ => none
  | .cons s _ _, 0 => some s
  | .cons _ _ r, k + 1 => nameAt r k
def prv (t : Tr) (k : Nat) : Option ByteArray := if k = 0 then none else nameAt t (k - 1)
theorem nameAt_drop : ∀ (t : Tr) (k : Nat) {s : ByteArray} {kt r : Tr}, t.dropT k = .cons s kt r → nameAt t k = some s
  | .nil, k, _, _, _, h => by cases k <;> simp [Tr.dropT] at h
  | .cons s0 k0 r0, 0, s, kt, r, h => by
    rw [dropT_zero] at h
    injection h with h _ _
    rw [← h]; rfl
  | .cons s0 k0 r0, k + 1, _, _, _, h => by
    simp only [Tr.dropT] at h
    exact nameAt_drop r0 k h

/-- The checker's box. -/
def Ckr (w : World) (g n e : Nat) : Prop := w.heap[g]? = some (.cells #[.int .i64 n, .int .i64 e] 99 (0, 0))
theorem Ckr.cells {w : World} {g n e : Nat} (h : Ckr w g n e) : w.cell? ⟨g, 0, none⟩ = some (.int .i64 n) ∧ w.cell? ⟨g, 1, none⟩ = some (.int .i64 e) ∧ (∀ o, w.frozen? ⟨g, o, none⟩ = false) ∧ g < w.heap.size := by
  unfold Ckr at h
  exact ⟨by rw [cell_of_row w g 0 _ _ _ h]; rfl, by rw [cell_of_row w g 1 _ _ _ h]; rfl, fun o => by simp [World.frozen?, h], (Array.getElem?_eq_some_iff.1 h).1⟩
theorem Ckr.set0 {w : World} {g n e : Nat} (h : Ckr w g n e) (n' : Nat) (v : Value) (hv : v = .int .i64 (n' : Int)) : Ckr (w.setCell ⟨g, 0, none⟩ v) g n' e := by
  unfold Ckr at h ⊢
  rw [heap_setCell_same w g 0 _ _ _ h, hv]; rfl
theorem Ckr.set1 {w : World} {g n e : Nat} (h : Ckr w g n e) (e' : Nat) (v : Value) (hv : v = .int .i64 (e' : Int)) : Ckr (w.setCell ⟨g, 1, none⟩ v) g n e' := by
  unfold Ckr at h ⊢
  rw [heap_setCell_same w g 1 _ _ _ h, hv]; rfl
theorem Ckr.drew {w : World} {g n e : Nat} (h : Ckr w g n e) : Ckr w.drew g n e := h
theorem Ckr.drewN {w : World} {g n e : Nat} (h : Ckr w g n e) (q : Nat) : Ckr (w.drewN q) g n e := h

/-- What walk's loop keeps: as if it began at the k-th edge; or a fault was found. -/
def WalkI (d : Nat) (t : Tr) (m0 : Nat) (k m e : Nat) : Prop :=
  (e = 0 → m ≤ 400 ∧ walkC d (t.dropT k) (prv t k) m = walkC d t none m0) ∧ (e ≠ 0 → walkC d t none m0 = (m, e))
theorem WalkI.start (d : Nat) (t : Tr) (m0 : Nat) (h : m0 ≤ 400) : WalkI d t m0 0 m0 0 := ⟨fun _ => ⟨h, by rw [dropT_zero]; rfl⟩, fun h => absurd rfl h⟩
theorem WalkI.fin {d m0 k m e : Nat} {t : Tr} (h : WalkI d t m0 k m e) (hk : t.len ≤ k) : walkC d t none m0 = (m, e) := by
  by_cases he : e = 0
  · subst he
    rw [← (h.1 rfl).2, drop_len t k hk]
    rfl
  · exact h.2 he
section
variable {d m0 k m : Nat} {t kt r : Tr} {s : ByteArray}
theorem WalkI.step (h : WalkI d t m0 k m 0) (hd : t.dropT k = .cons s kt r) (hd2 : t.dropT (k + 1) = r) :
    (400 < m + 1 → WalkI d t m0 (k + 1) (m + 1) 4) ∧
    (¬ 400 < m + 1 → 12 < d → WalkI d t m0 (k + 1) (m + 1) 11) ∧
    (¬ 400 < m + 1 → ¬ 12 < d → 80 < s.size → WalkI d t m0 (k + 1) (m + 1) 5) ∧
    (¬ 400 < m + 1 → ¬ 12 < d → ¬ 80 < s.size → notAfter (prv t k) s = true → WalkI d t m0 (k + 1) (m + 1) 12) ∧
    (¬ 400 < m + 1 → ¬ 12 < d → ¬ 80 < s.size → ¬ notAfter (prv t k) s = true → WalkI d t m0 (k + 1) (walkC (d + 1) kt none (m + 1)).1 (walkC (d + 1) kt none (m + 1)).2) := by
  obtain ⟨_, hw⟩ := h.1 rfl
  rw [hd] at hw
  simp only [walkC] at hw
  have hn : nameAt t k = some s := nameAt_drop t k hd
  refine ⟨fun h1 => ?_, fun h1 h2 => ?_, fun h1 h2 h3 => ?_, fun h1 h2 h3 h4 => ?_, fun h1 h2 h3 h4 => ?_⟩
  · rw [if_pos h1] at hw
    exact ⟨fun e => absurd e (by decide), fun _ => hw.symm⟩
  · rw [if_neg h1, if_pos h2] at hw
    exact ⟨fun e => absurd e (by decide), fun _ => hw.symm⟩
  · rw [if_neg h1, if_neg h2, if_pos h3] at hw
    exact ⟨fun e => absurd e (by decide), fun _ => hw.symm⟩
  · rw [if_neg h1, if_neg h2, if_neg h3, if_pos h4] at hw
    exact ⟨fun e => absurd e (by decide), fun _ => hw.symm⟩
  · rw [if_neg h1, if_neg h2, if_neg h3, if_neg h4] at hw
    constructor
    · intro hz
      rw [if_pos hz] at hw
      refine ⟨(walkC_le kt (d + 1) (m + 1) none (by omega)).2.2.1 hz, ?_⟩
      rw [hd2, ← hw, prv, if_neg (by omega), Nat.add_sub_cancel, hn]
    · intro hz
      rw [if_neg hz] at hw
      exact hw.symm
end

theorem nm_drop : ∀ (t : Tr) (k : Nat), Tr.Nm t → Tr.Nm (t.dropT k)
  | t, 0, h => by rw [dropT_zero]; exact h
  | .nil, _ + 1, _ => trivial
  | .cons _ _ r, k + 1, h => nm_drop r k h.2.2
theorem keep_of {w w' : World} {B g : Nat} (hg : w.grownBy w' (some g)) (hB : B ≤ g) (hl : g < w.heap.size) : ∀ p : Addr, p.block < B → w'.cell? p = w.cell? p :=
  fun p hp => World.cell?_of_block (hg.block p.block (by omega) (fun e => by injection e with e; omega))
theorem grown_trans {w w' w'' : World} {g : Nat} (h : w.grownBy w' (some g)) (k : w'.grownBy w'' (some g)) : w.grownBy w'' (some g) :=
  ⟨k.os.trans h.os, k.tape.trans h.tape, k.output.trans h.output, Nat.le_trans h.size k.size, fun i hi hn => (k.block i (Nat.lt_of_lt_of_le hi h.size) hn).trans (h.block i hi hn)⟩

theorem grown_drewN {w w' : World} {row : Option Nat} (h : w.grownBy w' row) (q : Nat) : w.grownBy (w'.drewN q) row := ⟨h.os, h.tape, h.output, h.size, h.block⟩

set_option maxHeartbeats 4000000 in
theorem rwalk_any (N : Nat) : ∀ (t : Tr) (A : Option Addr) (n c B d m g : Nat) (w : World), t.size ≤ N → Holds w B A n t → B ≤ g → Ckr w g m 0 → m ≤ 400 → n ≤ 140737488351232 → t.Low → Tr.Nm t → d ≤ 13 →
    Calls Tryz.prog 58 #[.pointer (some ⟨g, 0, none⟩), .slice A n c, .int .i64 d] w fun e w' => (∃ v, e = .returned v) ∧ Ckr w' g (walkC d t none m).1 (walkC d t none m).2 ∧ w.grownBy w' (some g) := by
  induction N with
  | zero =>
    intro t A n c B d m g w hN h hB hC hm hn hl hnm hd
    cases t with
    | nil =>
      obtain rfl : n = 0 := h
      have HC := Lib.hid hC
      obtain ⟨hc0, hc1, hf, hgl⟩ := hC.cells
      clear hC hf
      go_enter Tryz.func58, Tryz.ntmps58
      go_wp2_with fail
      go_loop [6] (fun i => i = .int .i64 0) (fun _ => 0)
      case atStart => exact rfl
      case round =>
        subst hrel
        go_wp2_with fail
        go_end0
        exact ⟨⟨_, rfl⟩, HC.out, World.grownBy.refl _ _⟩
    | cons s k r => simp [Tr.size] at hN
  | succ N ih =>
    intro t A n c B d m g w hN h hB hC hm hn hl hnm hd
    have Hn := Lib.hid h.len
    have HC0 := Lib.hid hC
    have HI0 := Lib.hid (WalkI.start d t m hm)
    have hgl := hC.cells.2.2.2
    clear hC
    go_enter Tryz.func58, Tryz.ntmps58
    go_wp2_with fail
    go_loopw [6] (fun i wr => ∃ k m' e' : Nat, k ≤ n ∧ i = .int .i64 k ∧ Hid (Ckr wr g m' e') ∧ w.grownBy wr (some g) ∧ Hid (WalkI d t m k m' e')) (fun i _ => n - (intOf i).toNat)
    case atStart => exact ⟨0, m, 0, Nat.zero_le _, rfl, HC0, World.grownBy.refl _ _, HI0⟩
    case round =>
      obtain ⟨k, m', e', hk, rfl, HC, hgr, HI⟩ := hrel
      obtain ⟨hc0, hc1, hf, hgl2⟩ := HC.out.cells
      by_cases hlt : k < n
      · by_cases he : e' = 0
        · subst he
          obtain ⟨b, o, s, kt, r, A', n', c', rfl, hb, hs, hcl, hn', hc', hk', hr, hd1, hd2⟩ := (h.keep (keep_of hgr hB hgl)).split k hlt
          have hbg : b ≠ g := by omega
          have hS := HI.out.step hd1 hd2
          have hm4 := (HI.out.1 rfl).1
          have HC1 := Lib.hid (HC.out.set0 (m' + 1) (.int .i64 ((m' : Int) + 1)) rfl)
          have hgr1 : w.grownBy (wr.setCell ⟨g, 0, none⟩ (.int .i64 ((m' : Int) + 1))) (some g) := grown_trans hgr (grown_set wr ⟨g, 0, none⟩ _)
          have hc10 : (wr.setCell ⟨g, 0, none⟩ (.int .i64 ((m' : Int) + 1))).cell? ⟨g, 0, none⟩ = some (.int .i64 ((m' : Int) + 1)) := HC1.out.cells.1
          have hf0 := hf 0
          have hf1 : (wr.setCell ⟨g, 0, none⟩ (.int .i64 ((m' : Int) + 1))).frozen? ⟨g, 1, none⟩ = false := HC1.out.cells.2.2.1 1
          have hc11 : (wr.setCell ⟨g, 0, none⟩ (.int .i64 ((m' : Int) + 1))).cell? ⟨g, 1, none⟩ = some (.int .i64 0) := HC1.out.cells.2.1
          have hs1 : (wr.setCell ⟨g, 0, none⟩ (.int .i64 ((m' : Int) + 1))).cell? ⟨b, o + k * 2, none⟩ = some (.string s) := (World.cell?_setCell_other _ _ _ _ (fun e => hbg (congrArg Addr.block e).symm)).trans hs
          have hcl1 : (wr.setCell ⟨g, 0, none⟩ (.int .i64 ((m' : Int) + 1))).cell? ⟨b, o + k * 2 + 1, none⟩ = some (.slice A' n' c') := (World.cell?_setCell_other _ _ _ _ (fun e => hbg (congrArg Addr.block e).symm)).trans hcl
          have hkn : (k : Int) < (n : Int) := by omega
          have hk0 : (0 : Int) ≤ (k : Int) := by omega
          have hnms : s.size ≤ 140737488351232 := by
            have := nm_drop t k hnm
            rw [hd1] at this
            exact this.1
          have Hlt := Lib.hid hlt
          obtain ⟨hS1, hS2, hS3, hS4, hS5⟩ := hS
          by_cases h1 : 400 < m' + 1
          · have h1' : (400 : Int) < (m' : Int) + 1 := by omega
            have HS := Lib.hid (hS1 h1)
            clear hd1 hd2 hS1 hS2 hS3 hS4 hS5 h1 hf hlt
            go_wp2_with fail
            go_roundw
            case rel => exact ⟨k + 1, _, _, Hlt.out, by go_num, Lib.hid (HC1.out.set1 4 _ rfl), grown_trans hgr1 (grown_set _ ⟨g, 1, none⟩ _), HS⟩
            case measure => simp [intOf]; omega
          have h1' : ¬ (400 : Int) < (m' : Int) + 1 := by omega
          by_cases h2 : 12 < d
          · have h2' : (12 : Int) < (d : Int) := by omega
            have HS := Lib.hid (hS2 h1 h2)
            clear hd1 hd2 hS1 hS2 hS3 hS4 hS5 h1 h2 hf hlt
            go_wp2_with fail
            go_roundw
            case rel => exact ⟨k + 1, _, _, Hlt.out, by go_num, Lib.hid (HC1.out.set1 11 _ rfl), grown_trans hgr1 (grown_set _ ⟨g, 1, none⟩ _), HS⟩
            case measure => simp [intOf]; omega
          have h2' : ¬ (12 : Int) < (d : Int) := by omega
          by_cases h3 : 80 < s.size
          · have h3' : (80 : Int) < (s.size : Int) := by omega
            have HS := Lib.hid (hS3 h1 h2 h3)
            clear hd1 hd2 hS1 hS2 hS3 hS4 hS5 h1 h2 h3 hf hlt
            go_wp2_with fail
            go_roundw
            case rel => exact ⟨k + 1, _, _, Hlt.out, by go_num, Lib.hid (HC1.out.set1 5 _ rfl), grown_trans hgr1 (grown_set _ ⟨g, 1, none⟩ _), HS⟩
            case measure => simp [intOf]; omega
          have h3' : ¬ (80 : Int) < (s.size : Int) := by omega
          have hbl : b < wr.heap.size := World.block_lt_of_cell? _ _ hs
          by_cases h4 : notAfter (prv t k) s = true
          · have HS := Lib.hid (hS4 h1 h2 h3 h4)
            have hk1 : 0 < k := by
              rcases Nat.eq_zero_or_pos k with e | e
              · subst e; simp [prv, notAfter] at h4
              · exact e
            obtain ⟨j, hj⟩ : ∃ j, k = j + 1 := ⟨k - 1, by omega⟩
            obtain ⟨b', o', p, kt', r', A3, n3, c3, e, _, hsp, _, _, _, _, _, hdp, _⟩ := (h.keep (keep_of hgr hB hgl)).split j (by omega)
            cases e
            have hp : prv t k = some p := by rw [prv, if_neg (by omega), hj, Nat.add_sub_cancel]; exact nameAt_drop t j hdp
            rw [hp] at h4
            have h4' : Op.bytesLess p.toList s.toList = false := by simpa [notAfter] using h4
            have hj1 : (k : Int) - 1 = (j : Int) := by omega
            have hj0 : (0 : Int) ≤ (j : Int) := by omega
            have hjn : (j : Int) < (n : Int) := by omega
            have hjb : j ≤ 140737488351232 := by omega
            have hkb : k ≤ 140737488351232 := by omega
            have hg : (0 : Int) < (k : Int) := by omega
            have hs3 : (wr.setCell ⟨g, 0, none⟩ (.int .i64 ((m' : Int) + 1))).cell? ⟨b, o + j * 2, none⟩ = some (.string p) := (World.cell?_setCell_other _ _ _ _ (fun e => hbg (congrArg Addr.block e).symm)).trans hsp
            clear hd1 hd2 hS1 hS2 hS3 hS4 hS5 h1 h2 h3 h4 hf hlt hj hp hdp hsp
            rcases not_lt h4' with h5 | ⟨h5, h6⟩
            all_goals
              clear h4'
              go_wp2_with fail
              go_quiet (fail)
              have HC2 := HC1.out.drewN nq
              have hf2 : ((wr.setCell ⟨g, 0, none⟩ (.int .i64 ((m' : Int) + 1))).drewN nq).frozen? ⟨g, 1, none⟩ = false := HC2.cells.2.2.1 1
              have hc21 : ((wr.setCell ⟨g, 0, none⟩ (.int .i64 ((m' : Int) + 1))).drewN nq).cell? ⟨g, 1, none⟩ = some (.int .i64 0) := HC2.cells.2.1
              go_wp2_with fail
              go_roundw
              case rel => exact ⟨k + 1, _, _, Hlt.out, by go_num, Lib.hid (HC2.set1 12 _ rfl), grown_trans (grown_drewN hgr1 _) (grown_set _ ⟨g, 1, none⟩ _), HS⟩
              case measure => simp [intOf]; omega
          · have HS := Lib.hid (hS5 h1 h2 h3 h4)
            have hld := hl.drop k
            rw [hd1] at hld
            obtain ⟨hl1, hll, _⟩ := hld
            have hnb : n' ≤ 140737488351232 := by rw [hk'.len]; exact hl1
            have hlnm : Tr.Nm kt := by
              have := nm_drop t k hnm
              rw [hd1] at this
              exact this.2.1
            have hszk := size_drop t k
            rw [hd1] at hszk
            simp only [Tr.size] at hszk
            have hktN : kt.size ≤ N := by omega
            have hm5 : m' + 1 ≤ 400 := by omega
            have hkp : ∀ p : Addr, p.block < B → (wr.setCell ⟨g, 0, none⟩ (.int .i64 ((m' : Int) + 1))).cell? p = wr.cell? p := fun p hp => World.cell?_setCell_other _ _ _ _ (fun e => by have := congrArg Addr.block e; simp only at this; omega)
            have hd12 : d ≤ 12 := by omega
            have Hkp := Lib.hid hkp
            clear hN hszk hl1 hkp
            rcases Nat.eq_zero_or_pos k with hk1 | hk1
            · have hg : ¬ ((0 : Int) < (k : Int)) := by omega
              have hg2 : ¬ (0 < k) := by omega
              clear hd1 hd2 hS1 hS2 hS3 hS4 hS5 h1 h2 h3 h4 hf hlt hk1
              go_wp2_with fail
              go_quiet (fail)
              have hcall := ih kt A' n' c' B (d + 1) (m' + 1) g ((wr.setCell ⟨g, 0, none⟩ (.int .i64 ((m' : Int) + 1))).drewN nq) (by omega) (hk'.keep (w' := (wr.setCell ⟨g, 0, none⟩ (.int .i64 ((m' : Int) + 1))).drewN nq) (fun p hp => Hkp.out p hp)) hB (HC1.out.drewN nq) (by omega) hnb hll hlnm (by omega)
              rw [show (((d + 1 : Nat)) : Int) = (d : Int) + 1 from rfl] at hcall
              have HCall := Lib.hid hcall
              clear hcall
              have hcl2 : ((wr.setCell ⟨g, 0, none⟩ (.int .i64 ((m' : Int) + 1))).drewN nq).cell? ⟨b, o + k * 2 + 1, none⟩ = some (.slice A' n' c') := hcl1
              go_wp2_with fail
              refine HCall.out.mono ?_
              rintro e w3 ⟨⟨v, rfl⟩, hC3, hg3⟩
              go_wp2_with fail
              go_roundw
              case rel => exact ⟨k + 1, _, _, Hlt.out, by go_num, Lib.hid hC3, grown_trans (grown_drewN hgr1 _) hg3, HS⟩
              case measure => simp [intOf]; omega
            · obtain ⟨j, hj⟩ : ∃ j, k = j + 1 := ⟨k - 1, by omega⟩
              obtain ⟨b', o', p, kt', r', A3, n3, c3, e, _, hsp, _, _, _, _, _, hdp, _⟩ := (h.keep (keep_of hgr hB hgl)).split j (by omega)
              cases e
              have hp : prv t k = some p := by rw [prv, if_neg (by omega), hj, Nat.add_sub_cancel]; exact nameAt_drop t j hdp
              rw [hp] at h4
              have h4' : Op.bytesLess p.toList s.toList = true := by simpa [notAfter] using h4
              have hj1 : (k : Int) - 1 = (j : Int) := by omega
              have hj0 : (0 : Int) ≤ (j : Int) := by omega
              have hjn : (j : Int) < (n : Int) := by omega
              have hjb : j ≤ 140737488351232 := by omega
              have hkb : k ≤ 140737488351232 := by omega
              have hg : (0 : Int) < (k : Int) := by omega
              have hk2 : 0 < k := hk1
              have hwj : IntKind.i64.wrap (j : Int) = (j : Int) := IntWalk.i64_in _ (by omega)
              have hs3 : (wr.setCell ⟨g, 0, none⟩ (.int .i64 ((m' : Int) + 1))).cell? ⟨b, o + j * 2, none⟩ = some (.string p) := (World.cell?_setCell_other _ _ _ _ (fun e => hbg (congrArg Addr.block e).symm)).trans hsp
              clear hd1 hd2 hS1 hS2 hS3 hS4 hS5 h1 h2 h3 h4 hf hlt hj hp hdp hsp
              obtain ⟨h5, h6⟩ := lt_not h4'
              clear h4'
              go_wp2_with fail
              go_quiet (fail)
              have hcall := ih kt A' n' c' B (d + 1) (m' + 1) g ((wr.setCell ⟨g, 0, none⟩ (.int .i64 ((m' : Int) + 1))).drewN nq) (by omega) (hk'.keep (w' := (wr.setCell ⟨g, 0, none⟩ (.int .i64 ((m' : Int) + 1))).drewN nq) (fun p hp => Hkp.out p hp)) hB (HC1.out.drewN nq) (by omega) hnb hll hlnm (by omega)
              rw [show (((d + 1 : Nat)) : Int) = (d : Int) + 1 from rfl] at hcall
              have HCall := Lib.hid hcall
              clear hcall
              have hcl2 : ((wr.setCell ⟨g, 0, none⟩ (.int .i64 ((m' : Int) + 1))).drewN nq).cell? ⟨b, o + k * 2 + 1, none⟩ = some (.slice A' n' c') := hcl1
              go_wp2_with fail
              refine HCall.out.mono ?_
              rintro e w3 ⟨⟨v, rfl⟩, hC3, hg3⟩
              go_wp2_with fail
              go_roundw
              case rel => exact ⟨k + 1, _, _, Hlt.out, by go_num, Lib.hid hC3, grown_trans (grown_drewN hgr1 _) hg3, HS⟩
              case measure => simp [intOf]; omega
        · have he2 : ((e' : Int) == 0) = false := by simpa using he
          have he3 : ¬ (e' : Int) = 0 := by omega
          have hfin : walkC d t none m = (m', e') := HI.out.2 he
          have Hfin := Lib.hid hfin
          have hkn : (k : Int) < (n : Int) := by omega
          clear hfin he hf hlt
          go_wp2_with fail
          go_end0
          exact ⟨⟨_, rfl⟩, by rw [Hfin.out]; exact HC.out, hgr⟩
      · obtain rfl : k = n := by omega
        have hfin : walkC d t none m = (m', e') := HI.out.fin (by rw [← Hn.out]; exact Nat.le_refl _)
        have Hfin := Lib.hid hfin
        clear hfin hf hlt
        go_wp2_with fail
        go_end0
        exact ⟨⟨_, rfl⟩, by rw [Hfin.out]; exact HC.out, hgr⟩

/-- Check of the reference: the same fault. -/
theorem rcheck_any (t : Tr) (A : Option Addr) (n c B : Nat) (w : World) (h : Holds w B A n t) (hB : B ≤ w.heap.size) (hn : n ≤ 140737488351232) (hl : t.Low) (hnm : Tr.Nm t) :
    Calls Tryz.prog 33 #[.slice A n c] w fun e w' => e = .returned (.int .i64 (t.fault : Nat)) ∧ Below w.heap.size w w' := by
  have hC : Ckr (w.alloc (.cells #[.int .i64 0, .int .i64 0] 99)) w.heap.size 0 0 := heap_alloc_new w _
  have hcall := rwalk_any t.size t A n c B 1 0 w.heap.size (w.alloc (.cells #[.int .i64 0, .int .i64 0] 99)) (Nat.le_refl _) (h.keep fun p hp => World.cell?_alloc_lt _ _ _ (Nat.lt_of_lt_of_le hp hB)) hB hC (by omega) hn hl hnm (by omega)
  obtain ⟨q, hq⟩ : ∃ q, q = t.fault := ⟨_, rfl⟩
  rw [← hq]
  have Hq := Lib.hid hq
  have HCall := Lib.hid hcall
  clear hcall hC hq
  go_enter Tryz.func33, Tryz.ntmps33
  go_wp2_with fail
  refine HCall.out.mono ?_
  rintro e w3 ⟨⟨v, rfl⟩, hC3, hg3⟩
  have hc3 := hC3.cells.2.1
  have he : (walkC 1 t none 0).2 = q := by rw [Hq.out]; rfl
  rw [he] at hc3
  clear he hC3
  go_wp2_with fail
  go_ret
  exact ⟨rfl, ((Below.refl _ w).alloc (Nat.le_refl _) _).grown hg3 (by simp) (fun k e => by injection e with e; omega)⟩
end Go.Proofs.YtgefoehpdiiomaaGreatDoor.Jd
namespace Go.Proofs.YtgefoehpdiiomaaGreatDoor.Jd
open Go.RowKit Go.Proofs.YtgefoehpdiiomaaGreatDoor.Cl
set_option maxRecDepth 100000

def appT : Tr → Tr → Tr
  | .nil, u => u
  | .cons s k r, u => .cons s k (appT r u)
theorem appT_nil : ∀ t : Tr, appT t .nil = t
  | .nil => rfl
  | .cons s k r => by rw [appT, appT_nil r]
theorem appT_cons (s : ByteArray) (k u : Tr) : ∀ t : Tr, appT (appT t (.cons s k .nil)) u = appT t (.cons s k u)
  | .nil => rfl
  | .cons _ _ r => by rw [appT, appT, appT, appT_cons s k u r]
theorem appT_len (u : Tr) : ∀ t : Tr, (appT t u).len = t.len + u.len
  | .nil => by simp [appT, Tr.len]
  | .cons _ _ r => by rw [appT, Tr.len, Tr.len, appT_len u r]; omega
theorem appT_size (u : Tr) : ∀ t : Tr, (appT t u).size = t.size + u.size
  | .nil => by simp [appT, Tr.size]
  | .cons _ k r => by rw [appT, Tr.size, Tr.size, appT_size u r]; omega
theorem appT_nm (u : Tr) (hu : Tr.Nm u) : ∀ t : Tr, Tr.Nm t → Tr.Nm (appT t u)
  | .nil, _ => hu
  | .cons _ _ r, ⟨h1, h2, h3⟩ => ⟨h1, h2, appT_nm u hu r h3⟩
theorem low_size : ∀ t : Tr, t.size ≤ 140737488351232 → t.Low
  | .nil, _ => trivial
  | .cons _ k r, h => by
    simp only [Tr.size] at h
    have := k.len_size
    exact ⟨by omega, low_size k (by omega), low_size r (by omega)⟩

/-- Cells of edges in a row; what is below them, in blocks that P picks. -/
def RowP (w : World) (P : Nat → Prop) : List Value → Tr → Prop
  | [], .nil => True
  | .string s :: .slice A n c :: vs, .cons s' k r => s = s' ∧ n ≤ c ∧ c ≤ maxLen ∧ HoldsP w P A n k ∧ RowP w P vs r
  | _, _ => False
section
variable {w w' : World} {P P' : Nat → Prop}
theorem RowP.keep (hk : ∀ b o, P b → w'.cell? ⟨b, o, none⟩ = w.cell? ⟨b, o, none⟩) : ∀ {vs : List Value} {t : Tr}, RowP w P vs t → RowP w' P vs t
  | [], .nil, _ => trivial
  | .string _ :: .slice _ _ _ :: _, .cons _ _ _, ⟨h1, h2, h3, h4, h5⟩ => ⟨h1, h2, h3, h4.keep hk, RowP.keep hk h5⟩
theorem RowP.more (hP : ∀ b, P b → P' b) : ∀ {vs : List Value} {t : Tr}, RowP w P vs t → RowP w P' vs t
  | [], .nil, _ => trivial
  | .string _ :: .slice _ _ _ :: _, .cons _ _ _, ⟨h1, h2, h3, h4, h5⟩ => ⟨h1, h2, h3, h4.more hP, RowP.more hP h5⟩
theorem RowP.app : ∀ {vs us : List Value} {t u : Tr}, RowP w P vs t → RowP w P us u → RowP w P (vs ++ us) (appT t u)
  | [], _, .nil, _, _, h2 => h2
  | .string _ :: .slice _ _ _ :: _, _, .cons _ _ _, _, ⟨h1, h2, h3, h4, h5⟩, h6 => ⟨h1, h2, h3, h4, RowP.app h5 h6⟩
theorem RowP.length : ∀ {vs : List Value} {t : Tr}, RowP w P vs t → vs.length = t.len * 2
  | [], .nil, _ => rfl
  | .string _ :: .slice _ _ _ :: _, .cons _ _ _, ⟨_, _, _, _, h5⟩ => by
    have := RowP.length h5
    simp only [List.length_cons, Tr.len]
    omega
theorem RowP.one {n c : Nat} {s : ByteArray} {A : Option Addr} {k : Tr} (h : HoldsP w P A n k) (h1 : n ≤ c) (h2 : c ≤ maxLen) : RowP w P [.string s, .slice A n c] (.cons s k .nil) := ⟨rfl, h1, h2, h, trivial⟩
/-- Read where they lie. -/
theorem RowP.holds {g : Nat} (hg : P g) : ∀ {vs : List Value} {t : Tr} {o : Nat}, RowP w P vs t → (∀ j u, vs[j]? = some u → w.cell? ⟨g, o + j, none⟩ = some u) → HoldsP w P (some ⟨g, o, none⟩) t.len t
  | [], .nil, _, _, _ => rfl
  | .string s :: .slice A n c :: vs, .cons s' k r, o, ⟨h1, h2, h3, h4, h5⟩, hc => by
    subst h1
    have e0 := hc 0 _ rfl
    have e1 := hc 1 _ rfl
    rw [Nat.add_zero] at e0
    exact ⟨g, o, rfl, hg, e0, ⟨A, n, c, e1, h2, h3, h4⟩, r.len, rfl, RowP.holds hg h5 (fun j u hu => by
      have := hc (j + 2) u (by simpa using hu)
      rw [show o + 2 + j = o + (j + 2) by omega]
      exact this)⟩
end

/-- The slice is a row of one's own, and reads as t; what is below its edges lies in other blocks, from lo on. -/
structure Edg (w : World) (base lo : Nat) (A : Option Addr) (n c : Nat) (t : Tr) (vs : List Value) : Prop where
  own : w.ownsRow base 59 2 (.slice A n c) n vs
  row : RowP w (fun b => lo ≤ b ∧ b < w.heap.size ∧ some b ≠ (Value.slice A n c).ownBlock) vs t
section
variable {w w' : World} {base lo n c : Nat} {A : Option Addr} {t : Tr} {vs : List Value}
theorem Edg.nil (w : World) (base lo : Nat) : Edg w base lo none 0 0 .nil [] := ⟨World.ownsRow_nil w base _ _, trivial⟩
theorem Edg.len (h : Edg w base lo A n c t vs) : n = t.len := by
  have h1 := h.own.1
  have h2 := h.row.length
  omega
theorem Edg.cap (h : Edg w base lo A n c t vs) : n ≤ c ∧ c ≤ maxLen := own_cap h.own
theorem Edg.below (h : Edg w base lo A n c t vs) (hb : Below w.heap.size w w') : Edg w' base lo A n c t vs := by
  refine ⟨h.own.kept (row := none) ⟨hb.os, hb.tape, hb.output, hb.size, fun i hi _ => hb.block i hi⟩ (by cases hv : (Value.slice A n c).ownBlock <;> simp), ?_⟩
  refine (h.row.keep (w' := w') fun b o hb1 => hb.cell (p := ⟨b, o, none⟩) hb1.2.1).more fun b hb1 => ⟨hb1.1, Nat.lt_of_lt_of_le hb1.2.1 hb.size, hb1.2.2⟩
theorem Edg.holdsP (h : Edg w base lo A n c t vs) (hl : lo ≤ base) : HoldsP w (fun b => lo ≤ b ∧ b < w.heap.size) A n t := by
  have hn := h.len
  rcases h.own.2 with ⟨e1, e2⟩ | ⟨g, cap, cur, e1, hg, hh, hcap, hmx, hsz, htk⟩
  · subst e2
    cases t with
    | nil => rfl
    | cons _ _ _ => simp [Tr.len] at hn
  · injection e1 with a1 a2 a3
    subst a1
    have hc : ∀ j u, vs[j]? = some u → w.cell? ⟨g, 0 + j, none⟩ = some u := fun j u hu => by
      have := rowCells h.own j u hu
      rw [Addr.add_lit] at this
      exact this
    have hrow := (h.row.more (P' := fun b => lo ≤ b ∧ b < w.heap.size) fun b hb => ⟨hb.1, hb.2.1⟩).holds (g := g) ⟨by omega, (Array.getElem?_eq_some_iff.1 hh).1⟩ hc
    rw [hn]
    exact hrow
theorem Edg.holds (h : Edg w base lo A n c t vs) (hl : lo ≤ base) : Holds w w.heap.size A n t := (h.holdsP hl).to (fun _ hb => hb.2)
/-- Grown by edges whose kids lie elsewhere. -/
theorem Edg.push {m c2 : Nat} {A2 : Option Addr} {u : Tr} {us : List Value} (h : Edg w base lo A n c t vs) (hu : RowP w (fun b => lo ≤ b ∧ b < w.heap.size ∧ some b ≠ (Value.slice A n c).ownBlock) us u)
    (ho : w'.ownsRow base 59 2 (.slice A2 m c2) m (vs ++ us)) (hg : w.grownBy w' (Value.slice A n c).ownBlock) (hat : ∀ a, A2 = some a → w.heap.size ≤ a.block ∨ some a.block = (Value.slice A n c).ownBlock) :
    Edg w' base lo A2 m c2 (appT t u) (vs ++ us) := by
  refine ⟨ho, ?_⟩
  refine ((h.row.app hu).keep (w' := w') fun b o hb => World.cell?_of_block (hg.block b hb.2.1 hb.2.2)).more fun b hb => ⟨hb.1, Nat.lt_of_lt_of_le hb.2.1 hg.size, fun e => ?_⟩
  cases A2 with
  | none => cases e
  | some a =>
    have e : b = a.block := by injection e
    rcases hat a rfl with h1 | h1
    · have := hb.2.1; omega
    · exact hb.2.2 (by rw [e]; exact h1)
end
/-- One edge, laid beside it. -/
theorem src_edge (W : World) (s : ByteArray) (A : Option Addr) (n c g : Nat) (hg : g = W.heap.size) : Src Tryz.prog 2 30 (.slice (some ⟨g, 0, none⟩) 1 1) 1 [.string s, .slice A n c] (W.alloc (Obj.cells #[Value.string s, Value.slice A n c] 59)) := by
  subst hg
  exact src_edges rfl (fun j u hu => by
    rw [cell_of_row _ _ _ _ _ _ (heap_alloc_new W _), Nat.zero_add, ← hu]
    match j, hu with
    | 0, _ => rfl
    | 1, _ => rfl
    | j + 2, hu => simp at hu) (fun u hu => by simp only [List.mem_cons, List.not_mem_nil, or_false] at hu; rcases hu with rfl | rfl <;> rfl)
end Go.Proofs.YtgefoehpdiiomaaGreatDoor.Jd
namespace Go.Proofs.YtgefoehpdiiomaaGreatDoor.Cv
open Go.RowKit Go.Proofs.YtgefoehpdiiomaaGreatDoor.Jd Go.Proofs.YtgefoehpdiiomaaGreatDoor.Li Go.Proofs.YtgefoehpdiiomaaGreatDoor.Cl
set_option maxRecDepth 100000

/-- The columns with something in them, as they come. -/
def rawB : List ByteArray → List ByteArray → Tr
  | c :: cs, v :: vs => if v.size = 0 then rawB cs vs else .cons c (.cons v .nil .nil) (rawB cs vs)
  | _, _ => .nil
/-- A record's tree. -/
def BlP (srt : Tr → Tr) (w : World) (t : Tr) (en : Ending) (w' : World) : Prop := ∃ A n c vs, en = .returned (.slice A n c) ∧ Edg w' w.heap.size w.heap.size A n c (srt t) vs ∧ Below w.heap.size w w'

end Go.Proofs.YtgefoehpdiiomaaGreatDoor.Cv
namespace Go.Proofs.YtgefoehpdiiomaaGreatDoor.Cv
open Go.RowKit Go.Proofs.YtgefoehpdiiomaaGreatDoor.Jd Go.Proofs.YtgefoehpdiiomaaGreatDoor.Li Go.Proofs.YtgefoehpdiiomaaGreatDoor.Cl
set_option maxRecDepth 100000

theorem seesV_moreT {w : World} {B B' n : Nat} {A : Option Addr} {vs : List Value} (h : SeesV w B A n vs) (hB : B ≤ B') : SeesV w B' A n vs :=
  ⟨h.len, fun j u hu => by
    obtain ⟨b, o, e, hb, hc⟩ := h.cell j u hu
    exact ⟨b, o, e, Nat.lt_of_lt_of_le hb hB, hc⟩⟩
/-- An edge answered. -/
def TfP (w : World) (s : ByteArray) (k : Tr) (en : Ending) (w' : World) : Prop := ∃ A n c, en = .returned (.agg #[.string s, .slice A n c]) ∧ HoldsP w' (fun b => w.heap.size ≤ b ∧ b < w'.heap.size) A n k ∧ n ≤ c ∧ c ≤ maxLen ∧ Below w.heap.size w w'

end Go.Proofs.YtgefoehpdiiomaaGreatDoor.Cv
namespace Go.Proofs.YtgefoehpdiiomaaGreatDoor.Cv
open Go.RowKit Go.Proofs.YtgefoehpdiiomaaGreatDoor.Jd Go.Proofs.YtgefoehpdiiomaaGreatDoor.Li Go.Proofs.YtgefoehpdiiomaaGreatDoor.Cl
set_option maxRecDepth 100000

/-- So many edges are made, the others are none yet. -/
def zerosE : Nat → List Value
  | 0 => []
  | k + 1 => Value.string ⟨#[]⟩ :: Value.slice none 0 0 :: zerosE k
theorem zerosE_len : ∀ k, (zerosE k).length = k * 2
  | 0 => rfl
  | k + 1 => by simp only [zerosE, List.length_cons, zerosE_len k]; omega
theorem zerosE_get : ∀ (k i : Nat), i < k * 2 → (zerosE k)[i]? = some (if i % 2 = 0 then Value.string ⟨#[]⟩ else Value.slice none 0 0)
  | 0, i, h => by omega
  | k + 1, 0, _ => rfl
  | k + 1, 1, _ => rfl
  | k + 1, i + 2, h => by
    simp only [zerosE, List.getElem?_cons_succ]
    rw [zerosE_get k i (by omega), show (i + 2) % 2 = i % 2 by omega]
theorem made_zeros (n : Nat) : madeCells #[Value.string ⟨#[]⟩, Value.slice none 0 0] (n * 2) = (zerosE n).toArray := by
  apply Array.ext
  · simp [madeCells, zerosE_len]
  · intro i h1 h2
    have hi : i < n * 2 := by simpa [madeCells] using h1
    have h := zerosE_get n i hi
    rw [List.getElem?_eq_getElem (by rw [zerosE_len]; exact hi)] at h
    injection h with h
    have h3 : (zerosE n).toArray[i] = if i % 2 = 0 then Value.string ⟨#[]⟩ else Value.slice none 0 0 := by rw [List.getElem_toArray]; exact h
    rw [h3]
    have hm : i % 2 = 0 ∨ i % 2 = 1 := by omega
    rcases hm with hm | hm
    · simp [madeCells, hm]
    · simp [madeCells, hm]
def partE (vs : List Value) (j : Nat) : Array Value := (vs ++ zerosE j).toArray
theorem partE_set {vs : List Value} {j k : Nat} (x y : Value) (hv : vs.length = k * 2) : ((partE vs (j + 1)).setIfInBounds (k * 2) x).setIfInBounds (k * 2 + 1) y = partE (vs ++ [x, y]) j := by
  unfold partE
  rw [List.setIfInBounds_toArray, List.setIfInBounds_toArray]
  congr 1
  rw [List.set_append_right _ _ (by omega), hv, Nat.sub_self, zerosE, List.set_cons_zero, List.set_append_right _ _ (by omega), hv, show k * 2 + 1 - k * 2 = 1 by omega]
  simp
theorem info_edge : (Tryz.prog.info? 59).map (fun i => (i.zero, i.size, i.bytes)) = some (some (.agg #[.string ⟨#[]⟩, .slice none 0 0]), 2, 40) := by kernel_rfl
theorem make_edges (n : Nat) (hn : n ≤ 100000) (w : World) : (Instr.makeSlice 29 (.int .i64 (n : Int)) (.int .i64 (n : Int))).run Tryz.prog w = .ok (.slice (some ⟨w.heap.size, 0, none⟩) n n) (w.alloc (.cells (partE [] n) 59)) := by
  obtain ⟨i, hi, hz, hs, hb⟩ := info_parts info_edge
  have h := run_make (P := Tryz.prog) w 29 59 i (.agg #[.string ⟨#[]⟩, .slice none 0 0]) Tryz.underlying29 hi hz .i64 .i64 n n (by omega) (Int.le_refl _) (by rw [hb]; omega) (by omega)
  rw [hs] at h
  simp only [Int.toNat_natCast] at h
  rw [h]
  have e : (Value.agg #[Value.string ⟨#[]⟩, Value.slice none 0 0]).cells = #[Value.string ⟨#[]⟩, Value.slice none 0 0] := by rfl
  rw [e, made_zeros]
  rfl
/-- The records' edges, as they come. -/
def recsT (srt : Tr → Tr) (cols : List ByteArray) : List Rw → Tr
  | [] => .nil
  | r :: rs => .cons (nm r) (srt (rawB cols (mns r.fs.tail))) (recsT srt cols rs)
theorem recs_take {srt : Tr → Tr} {cols : List ByteArray} : ∀ (rs : List Rw) (k : Nat) {r : Rw}, rs[k]? = some r → appT (recsT srt cols (rs.take k)) (.cons (nm r) (srt (rawB cols (mns r.fs.tail))) .nil) = recsT srt cols (rs.take (k + 1))
  | [], k, r, h => by simp at h
  | x :: rs, 0, r, h => by
    simp only [List.getElem?_cons_zero, Option.some.injEq] at h
    subst h
    rfl
  | x :: rs, k + 1, r, h => by
    simp only [List.getElem?_cons_succ] at h
    rw [List.take_succ_cons, List.take_succ_cons, recsT, appT, recs_take rs k h]
    rfl
/-- A row of edges, all made. -/
theorem edg_of {w : World} {base g n : Nat} {t : Tr} {vs : List Value} (hg : w.heap[g]? = some (.cells (partE vs 0) 59 (0, 0))) (hb : base ≤ g) (hv : vs.length = n * 2) (hn : n ≤ 100000) (hr : RowP w (fun b => base ≤ b ∧ b < w.heap.size ∧ b ≠ g) vs t) : Edg w base base (some ⟨g, 0, none⟩) n n t vs := by
  refine ⟨⟨hv, .inr ⟨g, n, partE vs 0, rfl, hb, hg, Nat.le_refl _, Nat.le_trans hn (by decide), ?_, ?_⟩⟩, hr.more fun b hb1 => ⟨hb1.1, hb1.2.1, fun e => hb1.2.2 (by injection e)⟩⟩
  · simp [partE, zerosE, hv]
  · simp [partE, zerosE, ← hv]

end Go.Proofs.YtgefoehpdiiomaaGreatDoor.Cv
namespace Go.Proofs.YtgefoehpdiiomaaGreatDoor.Cv
open Go.RowKit Go.Proofs.YtgefoehpdiiomaaGreatDoor.Jd Go.Proofs.YtgefoehpdiiomaaGreatDoor.Li Go.Proofs.YtgefoehpdiiomaaGreatDoor.Cl
set_option maxRecDepth 100000

end Go.Proofs.YtgefoehpdiiomaaGreatDoor.Cv
namespace Go.Proofs.YtgefoehpdiiomaaGreatDoor.Cv
open Go.RowKit Go.Proofs.YtgefoehpdiiomaaGreatDoor.Jd Go.Proofs.YtgefoehpdiiomaaGreatDoor.Li Go.Proofs.YtgefoehpdiiomaaGreatDoor.Cl
set_option maxRecDepth 100000

/-- The columns answered. -/
def CoP (w : World) (cols : List ByteArray) (en : Ending) (w' : World) : Prop := ∃ A c, en = .returned (.slice A cols.length c) ∧ SeesV w' w'.heap.size A cols.length (cols.map Value.string) ∧ Below w.heap.size w w'
end Go.Proofs.YtgefoehpdiiomaaGreatDoor.Cv
namespace Go.Proofs
open Go.Shelf Go.RowKit Go.Lib Go.Sort
set_option maxHeartbeats 2000000 in
set_option maxRecDepth 100000 in
theorem sortEdge_eq {α : Type} [Inhabited α] (enc : α → List Value) (hk : ∀ x, (enc x).length = 2) (h1 : ∀ x, ∀ v ∈ enc x, v.oneCell' = true) (cf : α → α → Int) (hO : SWO (ltOf cf)) (g : Nat) (cb : Array Value) (blk off cap : Nat) (d : Array α) (w : World)
    (eg : ∀ args w, (callFunc g args).run Tryz.prog w = .ok (.enter g args) w) (hcmp : CmpLays Tryz.prog g cb enc 2 cf blk off d.size w) (hH : HoldsK enc 2 w blk off d) (hblk : blk < w.heap.size) (hsz : d.size < 4611686018427387904) :
    Calls Tryz.prog 101 #[.slice (some ⟨blk, off, none⟩) d.size cap, .func (.func g) #[] cb] w fun e w' =>
      e = .returned (.tuple #[]) ∧ ∃ n os, w' = sortWorldK enc 2 w blk off n (pdq (ltOf cf) d 0 d.size (Lib.bitLen d.size) true true) os := by
  have hlim : Lib.bitLen d.size < 4611686018427387904 := Nat.lt_of_le_of_lt (Lib.bitLen_le d.size 62 (by omega) (by omega)) (by omega)
  have hp := AnyQ.pdqsortCmpFunc_all Tryz.sortEdge 2 (fun w => rfl) (fun w => rfl) enc cf g cb hO blk off cap d w eg hcmp ⟨hk, h1, hH, hblk⟩ (d.size + 1) 0 d.size (Lib.bitLen d.size) d w (by omega) rfl (SWK.start hH) (Nat.zero_le _) (Nat.le_refl _) hsz hlim (Or.inl rfl)
  have hl : Calls Tryz.prog 120 #[.int .u64 (d.size : Int)] w fun e w' => e = .returned (.int .i64 (Lib.bitLen d.size : Nat)) ∧ w' = w := by
    have h := Tryz.bits_Len (d.size : Int) w (by omega) (by omega)
    rwa [Int.toNat_natCast] at h
  have wr : IntKind.u64.wrap (d.size : Int) = d.size := by simp [IntKind.wrap, IntKind.bits, IntKind.signed]; omega
  change Calls Tryz.prog 119 #[.slice (some ⟨blk, off, none⟩) d.size cap, .int .i64 0, .int .i64 (d.size : Int), .int .i64 (Lib.bitLen d.size : Nat), .func (.func g) #[] cb] w _ at hp
  generalize pdq (ltOf cf) d 0 d.size (Lib.bitLen d.size) true true = D at hp ⊢
  have HL := Lib.hid hl
  have HP := Lib.hid hp
  clear hH hcmp hk h1 hl hp
  go_enter Tryz.func101, Tryz.ntmps101
  go_wp2_with fail
  (with_reducible refine HL.out.mono ?_)
  rintro e w' ⟨rfl, rfl⟩
  go_wp2_with fail
  (with_reducible refine HP.out.mono ?_)
  rintro e w' ⟨rfl, n, os, rfl⟩
  go_wp2_with fail
  go_end0
  exact ⟨rfl, n, os, rfl⟩
end Go.Proofs
