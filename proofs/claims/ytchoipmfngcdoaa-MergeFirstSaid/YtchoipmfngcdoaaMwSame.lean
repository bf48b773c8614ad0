/- Two trees: whether all is the same; Same of the reference. Conditions: fewer edges than 2^47. · Trees in memory, told with the blocks they lie in: kept, copied, one of their cells replaced by another slice that reads the same. No conditions. · tree.level and the stack of trees that clone keeps: pop and push. Conditions: fewer than 2^40 edges; what is popped is there. · tree.clone: the answer reads as what was handed in; what lay there before lies as it did. Conditions: fewer than 2^39 edges. · What clone makes: each of its rows is named by one place alone. No conditions. · What clone's loops keep of the rows that it makes. No conditions. · The rows of a tree that clone made: none met twice. No conditions. -/
import Derived.Test.YtchoipmfngcdoaaMwWords
import Derived.Test.YtchoipmfngcdoaaWith
import Derived.Deep.QuietTactic
import Derived.BigQuiet
import Derived.Test.YtchoipmfngcdoaaStack
import Derived.Outline
namespace Go.Proofs.Ytchoipmfngcdoaa
open Go.RowKit
set_option maxRecDepth 100000

def Tr.same : Tr → Tr → Bool
  | .nil, .nil => true
  | .cons s k r, .cons s' k' r' => (s.toList == s'.toList) && k.same k' && r.same r'
  | _, _ => false
theorem same_len : ∀ {t u : Tr}, t.same u = true → t.len = u.len
  | .nil, .nil, _ => rfl
  | .cons s k r, .cons s' k' r', h => by
    simp only [Tr.same, Bool.and_eq_true] at h
    simp only [Tr.len, same_len h.2]
  | .nil, .cons _ _ _, h => by simp [Tr.same] at h
  | .cons _ _ _, .nil, h => by simp [Tr.same] at h
theorem same_refl (t : Tr) : t.same t = true := by
  induction t with
  | nil => rfl
  | cons s k r ihk ihr => simp [Tr.same, ihk, ihr]

set_option maxHeartbeats 1000000 in
theorem rsame_any (N : Nat) : ∀ (t u : Tr) (A A2 : Option Addr) (n n2 c c2 B : Nat) (w : World), t.size ≤ N → Holds w B A n t → Holds w B A2 n2 u → B ≤ w.heap.size → n ≤ 140737488351232 → n2 ≤ 140737488351232 → t.Low → u.Low →
    Calls Try.prog 19 #[.slice A n c, .slice A2 n2 c2] w fun e w' => e = .returned (.bool (t.same u)) ∧ ∃ q, w' = w.drewN q := by
  induction N with
  | zero =>
    intro t u A A2 n n2 c c2 B w hN h h2 hB hn hn2 hl hl2
    cases t with
    | cons s k r => simp [Tr.size] at hN
    | nil =>
      obtain rfl : n = 0 := h
      have Hl2 := Lib.hid h2.len
      by_cases h0 : n2 = 0
      · subst h0
        have hu : u = .nil := by
          cases u with
          | nil => rfl
          | cons _ _ _ => have := Hl2.out; simp [Tr.len] at this
        subst hu
        go_enter Try.func19, Try.ntmps19
        go_wp2_with fail
        go_loop [5] (fun i => i = .int .i64 0) (fun _ => 0)
        case atStart => rfl
        case round =>
          subst hrel
          go_wp2_with fail
          go_ret
          exact ⟨rfl, 0, rfl⟩
      · have hne : ((0 : Int) != (n2 : Int)) = true := by rw [bne_iff_ne]; omega
        have hs : Tr.nil.same u = false := by
          cases u with
          | nil => exact absurd Hl2.out (by simpa [Tr.len] using h0)
          | cons _ _ _ => rfl
        have Hs := Lib.hid hs
        clear hs
        go_enter Try.func19, Try.ntmps19
        go_wp2_with fail
        go_ret
        exact ⟨by rw [Hs.out]; rfl, 0, rfl⟩
  | succ N ih =>
    intro t u A A2 n n2 c c2 B w hN h h2 hB hn hn2 hl hl2
    have Hl := Lib.hid h.len
    have Hl2 := Lib.hid h2.len
    by_cases h0 : n = n2
    · subst h0
      have hne : ((n : Int) != (n : Int)) = false := by simp
      go_enter Try.func19, Try.ntmps19
      go_wp2_with fail
      go_loopw [5] (fun i wr => ∃ (k : Nat), k ≤ n ∧ i = .int .i64 k ∧ Holds wr B A n t ∧ Holds wr B A2 n u ∧ B ≤ wr.heap.size ∧ Hid (∃ q, wr = w.drewN q) ∧ Hid ((t.dropT k).same (u.dropT k) = t.same u)) (fun i _ => n - (intOf i).toNat)
      case atStart => exact ⟨0, by omega, rfl, h, h2, hB, Lib.hid ⟨0, rfl⟩, by rw [dropT_zero, dropT_zero]; exact Lib.hid rfl⟩
      case round =>
        obtain ⟨k, hk, rfl, hw1, hw2, hBr, Hq, He⟩ := hrel
        by_cases hlt : k < n
        · obtain ⟨b, o, s, kt, r, A', n', c', rfl, hb, hs, hc, hn', hc', hk', hr, hd, hd2⟩ := hw1.split k hlt
          obtain ⟨b2, o2, s2, kt2, r2, A2', n2', c2', rfl, hb2, hs2, hc2, hn2', hc2', hk2', hr2, hd3, hd4⟩ := hw2.split k hlt
          have hkn : (k : Int) < (n : Int) := by omega
          have hk0 : (0 : Int) ≤ (k : Int) := by omega
          by_cases hss : s.toList = s2.toList
          · have hq1 : (s.toList != s2.toList) = false := by rw [hss]; simp
            have hsz := size_drop t k
            rw [hd] at hsz
            simp only [Tr.size] at hsz
            have hlk := hl.drop k
            rw [hd] at hlk
            have hlk2 := hl2.drop k
            rw [hd3] at hlk2
            have hkl := hk'.len
            have hkl2 := hk2'.len
            have HC := Lib.hid (fun (W : World) (h1 : Holds W B A' n' kt) (h2 : Holds W B A2' n2' kt2) (hW : B ≤ W.heap.size) => ih kt kt2 A' A2' n' n2' c' c2' B W (by omega) h1 h2 hW (by have := hlk.1; omega) (by have := hlk2.1; omega) hlk.2.1 hlk2.2.1)
            have He2 : Hid (t.same u = (kt.same kt2 && (t.dropT (k + 1)).same (u.dropT (k + 1)))) := by
              have := He.out
              rw [hd, hd3] at this
              simp only [Tr.same] at this
              rw [hd2, hd4, ← this, hss]
              exact Lib.hid (by simp)
            obtain ⟨v, hv⟩ : ∃ v, v = kt.same kt2 := ⟨_, rfl⟩
            rw [← hv] at HC He2
            clear hv hq1 hd hd2 hd3 hd4 He hsz hlk hlk2 hkl hkl2 hN
            cases v with
            | true =>
              go_wp2_with fail
              go_quiet ((go_at_call 19; exact Calls.quiet_of (HC.out _ (hk'.drewN _) (hk2'.drewN _) hBr)))
              go_wp2_with fail
              go_roundw
              case rel => exact ⟨k + 1, by omega, by go_num, hw1.drewN _, hw2.drewN _, hBr, Lib.hid (by obtain ⟨q, hq⟩ := Hq.out; rw [hq]; exact ⟨_, World.drewN_drewN _ _ _⟩), by have := He2.out; rw [Bool.true_and] at this; exact Lib.hid this.symm⟩
              case measure => simp [intOf]; omega
            | false =>
              go_wp2_with fail
              go_quiet ((go_at_call 19; exact Calls.quiet_of (HC.out _ (hk'.drewN _) (hk2'.drewN _) hBr)))
              go_wp2_with fail
              go_ret
              exact ⟨by rw [He2.out]; rfl, by obtain ⟨q, hq⟩ := Hq.out; rw [hq]; exact ⟨_, World.drewN_drewN _ _ _⟩⟩
          · have hq1 : (s.toList != s2.toList) = true := by simp [hss]
            have He2 : Hid (t.same u = false) := by
              have := He.out
              rw [hd, hd3] at this
              simp only [Tr.same] at this
              rw [← this]
              exact Lib.hid (by simp [hss])
            clear hd hd2 hd3 hd4 He hN
            go_wp2_with fail
            go_quiet (fail)
            go_wp2_with fail
            go_ret
            exact ⟨by rw [He2.out]; rfl, by obtain ⟨q, hq⟩ := Hq.out; rw [hq]; exact ⟨_, World.drewN_drewN _ _ _⟩⟩
        · obtain rfl : k = n := by omega
          have He2 : Hid (t.same u = true) := by
            have := He.out
            rw [drop_len t k (by rw [← Hl.out]; exact Nat.le_refl _), drop_len u k (by rw [← Hl2.out]; exact Nat.le_refl _)] at this
            exact this.symm
          clear He hlt hN
          go_wp2_with fail
          go_ret
          exact ⟨by rw [He2.out]; rfl, Hq.out⟩
    · have hne : ((n : Int) != (n2 : Int)) = true := by rw [bne_iff_ne]; omega
      have hs : t.same u = false := by
        cases hv : t.same u with
        | false => rfl
        | true => exact absurd (same_len hv) (by rw [← Hl.out, ← Hl2.out]; exact h0)
      have Hs := Lib.hid hs
      clear hs h0
      go_enter Try.func19, Try.ntmps19
      go_wp2_with fail
      go_ret
      exact ⟨by rw [Hs.out]; rfl, 0, rfl⟩
end Go.Proofs.Ytchoipmfngcdoaa
namespace Go.Proofs.Ytchoipmfngcdoaa.Cl
open Go.RowKit
set_option maxRecDepth 100000

/-- As Holds, in blocks of which P holds. -/
def HoldsP (w : World) (P : Nat → Prop) : Option Addr → Nat → Tr → Prop
  | _, n, .nil => n = 0
  | A, n, .cons s k r => ∃ b o, A = some ⟨b, o, none⟩ ∧ P b ∧ w.cell? ⟨b, o, none⟩ = some (.string s) ∧
      (∃ A' n' c', w.cell? ⟨b, o + 1, none⟩ = some (.slice A' n' c') ∧ n' ≤ c' ∧ c' ≤ maxLen ∧ HoldsP w P A' n' k) ∧ ∃ m, n = m + 1 ∧ HoldsP w P (some ⟨b, o + 2, none⟩) m r
section
variable {w w' : World} {P P' : Nat → Prop}
theorem HoldsP.keep (hk : ∀ b o, P b → w'.cell? ⟨b, o, none⟩ = w.cell? ⟨b, o, none⟩) : ∀ {A : Option Addr} {n : Nat} {t : Tr}, HoldsP w P A n t → HoldsP w' P A n t
  | _, _, .nil, h => h
  | _, _, .cons _ _ _, ⟨b, o, e, hb, hs, ⟨A', n', c', hc, hn, hm, hk1⟩, m, hm1, hr⟩ =>
    ⟨b, o, e, hb, (hk b o hb).trans hs, ⟨A', n', c', (hk b _ hb).trans hc, hn, hm, HoldsP.keep hk hk1⟩, m, hm1, HoldsP.keep hk hr⟩
theorem HoldsP.more (hP : ∀ b, P b → P' b) : ∀ {A : Option Addr} {n : Nat} {t : Tr}, HoldsP w P A n t → HoldsP w P' A n t
  | _, _, .nil, h => h
  | _, _, .cons _ _ _, ⟨b, o, e, hb, hs, ⟨A', n', c', hc, hn, hm, hk1⟩, m, hm1, hr⟩ =>
    ⟨b, o, e, hP b hb, hs, ⟨A', n', c', hc, hn, hm, HoldsP.more hP hk1⟩, m, hm1, HoldsP.more hP hr⟩
theorem HoldsP.of {B : Nat} : ∀ {A : Option Addr} {n : Nat} {t : Tr}, Holds w B A n t → HoldsP w (· < B) A n t
  | _, _, .nil, h => h
  | _, _, .cons _ _ _, ⟨b, o, e, hb, hs, ⟨A', n', c', hc, hn, hm, hk1⟩, m, hm1, hr⟩ => ⟨b, o, e, hb, hs, ⟨A', n', c', hc, hn, hm, HoldsP.of hk1⟩, m, hm1, HoldsP.of hr⟩
theorem HoldsP.to {B : Nat} (hP : ∀ b, P b → b < B) : ∀ {A : Option Addr} {n : Nat} {t : Tr}, HoldsP w P A n t → Holds w B A n t
  | _, _, .nil, h => h
  | _, _, .cons _ _ _, ⟨b, o, e, hb, hs, ⟨A', n', c', hc, hn, hm, hk1⟩, m, hm1, hr⟩ => ⟨b, o, e, hP b hb, hs, ⟨A', n', c', hc, hn, hm, HoldsP.to hP hk1⟩, m, hm1, HoldsP.to hP hr⟩
theorem HoldsP.len : ∀ {A : Option Addr} {n : Nat} {t : Tr}, HoldsP w P A n t → n = t.len
  | _, _, .nil, h => h
  | _, _, .cons _ _ _, ⟨_, _, _, _, _, _, m, hm1, hr⟩ => by rw [hm1, HoldsP.len hr]; rfl
/-- What a slice reads as is one tree. -/
theorem HoldsP.uniq : ∀ {t u : Tr} {A : Option Addr} {n : Nat}, HoldsP w P A n t → HoldsP w P' A n u → t = u
  | .nil, .nil, _, _, _, _ => rfl
  | .nil, .cons _ _ _, _, _, h, ⟨_, _, _, _, _, _, m, hm, _⟩ => by have h : _ = 0 := h; omega
  | .cons _ _ _, .nil, _, _, ⟨_, _, _, _, _, _, m, hm, _⟩, h => by have h : _ = 0 := h; omega
  | .cons s k r, .cons s' k' r', _, _, ⟨b, o, e, _, hs, ⟨A1, n1, c1, hc, _, _, hk⟩, m, hm, hr⟩, ⟨b', o', e', _, hs', ⟨A2, n2, c2, hc', _, _, hk'⟩, m', hm', hr'⟩ => by
    rw [e] at e'
    injection e' with e'
    injection e' with e1 e2
    subst e1; subst e2
    rw [hs] at hs'
    injection hs' with hs'
    injection hs' with hs'
    subst hs'
    rw [hc] at hc'
    injection hc' with hc'
    injection hc' with a1 a2 a3
    subst a1; subst a2
    obtain rfl : m = m' := by omega
    rw [HoldsP.uniq hk hk', HoldsP.uniq hr hr']
/-- One cell holds another slice that reads the same. -/
theorem HoldsP.repl {p q n1 c1 n2 c2 : Nat} {X Y : Option Addr} {u : Tr} {cur : Array Value} {E : TypeId} (hh : w.heap[p]? = some (.cells cur E (0, 0))) (hq : w.cell? ⟨p, q, none⟩ = some (.slice X n1 c1)) (_ : HoldsP w P X n1 u) (h2 : HoldsP w P Y n2 u) (hn : n2 ≤ c2) (hm : c2 ≤ maxLen) (h1 : HoldsP w P X n1 u) :
    ∀ {A : Option Addr} {n : Nat} {t : Tr}, HoldsP w P A n t → HoldsP (w.setCell ⟨p, q, none⟩ (.slice Y n2 c2)) P A n t := by
  have hat : (w.setCell ⟨p, q, none⟩ (.slice Y n2 c2)).cell? ⟨p, q, none⟩ = some (.slice Y n2 c2) := by
    rw [cell_of_row _ _ _ _ _ _ (heap_setCell_same w p q cur E _ hh)]
    have : q < cur.size := by
      rw [cell_of_row _ _ _ _ _ _ hh] at hq
      exact (Array.getElem?_eq_some_iff.1 hq).1
    simp [this]
  have hfar : ∀ b o, ¬ (b = p ∧ o = q) → (w.setCell ⟨p, q, none⟩ (.slice Y n2 c2)).cell? ⟨b, o, none⟩ = w.cell? ⟨b, o, none⟩ := fun b o hne =>
    World.cell?_setCell_other _ _ _ _ (fun e => hne ⟨(congrArg Addr.block e).symm, (congrArg Addr.off e).symm⟩)
  intro A n t
  induction t generalizing A n with
  | nil => exact fun h => h
  | cons s k r ihk ihr =>
    rintro ⟨b, o, e, hb, hs, ⟨A', n', c', hc, hn', hm', hk⟩, m, hm1, hr⟩
    refine ⟨b, o, e, hb, ?_, ?_, m, hm1, ihr hr⟩
    · rw [hfar b o (fun ⟨e1, e2⟩ => by subst e1; subst e2; rw [hs] at hq; cases hq)]
      exact hs
    · by_cases hpq : b = p ∧ o + 1 = q
      · obtain ⟨rfl, rfl⟩ := hpq
        rw [hc] at hq
        injection hq with hq
        injection hq with a1 a2 a3
        subst a1; subst a2; subst a3
        have e := hk.uniq h1
        subst e
        exact ⟨Y, n2, c2, hat, hn, hm, ihk h2⟩
      · exact ⟨A', n', c', by rw [hfar b (o + 1) hpq]; exact hc, hn', hm', ihk hk⟩
/-- Its cells laid elsewhere. -/
theorem HoldsP.copy (hk : ∀ b o, P b → w'.cell? ⟨b, o, none⟩ = w.cell? ⟨b, o, none⟩) (hP : ∀ b, P b → P' b) : ∀ {n : Nat} {t : Tr} {b o g q : Nat}, HoldsP w P (some ⟨b, o, none⟩) n t → P' g → (∀ j, j < n * 2 → w'.cell? ⟨g, q + j, none⟩ = w.cell? ⟨b, o + j, none⟩) → HoldsP w' P' (some ⟨g, q, none⟩) n t
  | _, .nil, _, _, _, _, h, _, _ => h
  | _, .cons _ _ _, b, o, g, q, ⟨b', o', e, hb, hs, ⟨A', n', c', hc, hn, hm, hk1⟩, m, hm1, hr⟩, hg, hcp => by
    injection e with e
    injection e with e1 e2
    subst e1; subst e2
    subst hm1
    refine ⟨g, q, rfl, hg, ?_, ⟨A', n', c', ?_, hn, hm, (HoldsP.keep hk hk1).more hP⟩, m, rfl, HoldsP.copy hk hP hr hg (fun j hj => ?_)⟩
    · have := hcp 0 (by omega)
      simp only [Nat.add_zero] at this
      rw [this]; exact hs
    · rw [hcp 1 (by omega)]; exact hc
    · have := hcp (j + 2) (by omega)
      rw [show q + 2 + j = q + (j + 2) by omega, show o + 2 + j = o + (j + 2) by omega]
      exact this
/-- Its cells in a row. -/
theorem HoldsP.row : ∀ {t : Tr} {A : Option Addr} {n : Nat}, HoldsP w P A n t → ∃ vs : List Value, vs.length = n * 2 ∧ (∀ u ∈ vs, u.oneCell' = true) ∧ (∀ b o, A = some ⟨b, o, none⟩ → ∀ j u, vs[j]? = some u → w.cell? ⟨b, o + j, none⟩ = some u) ∧ (0 < n → ∃ b o, A = some ⟨b, o, none⟩ ∧ P b)
  | .nil, _, n, h => by
    have h : n = 0 := h
    subst h
    exact ⟨[], rfl, fun u hu => (by cases hu), fun _ _ _ j u hu => (by simp at hu), fun h => (by omega)⟩
  | .cons s k r, _, _, ⟨b, o, e, hb, hs, ⟨A', n', c', hc, _, _, _⟩, m, hm1, hr⟩ => by
    obtain ⟨vs, h1, h2, h3, _⟩ := HoldsP.row hr
    subst hm1
    refine ⟨.string s :: .slice A' n' c' :: vs, by simp only [List.length_cons, h1]; omega, ?_, ?_, fun _ => ⟨b, o, e, hb⟩⟩
    · intro u hu
      simp only [List.mem_cons] at hu
      rcases hu with rfl | rfl | hu
      · rfl
      · rfl
      · exact h2 u hu
    · intro b' o' e' j u hu
      rw [e] at e'
      injection e' with e'
      injection e' with e1 e2
      subst e1; subst e2
      match j, hu with
      | 0, hu => simp at hu; subst hu; exact hs
      | 1, hu => simp at hu; subst hu; exact hc
      | j + 2, hu =>
        have := h3 b (o + 2) rfl j u (by simpa using hu)
        rw [show o + (j + 2) = o + 2 + j by omega]
        exact this
end
/-- The edges of a tree, one by one: the cell of the i-th one's slice, and what it reads as. -/
def subs : Tr → List Tr
  | .nil => []
  | .cons _ k r => k :: subs r
theorem subs_len : ∀ t : Tr, (subs t).length = t.len
  | .nil => rfl
  | .cons _ _ r => by simp only [subs, List.length_cons, Tr.len, subs_len r]
theorem HoldsP.sub {w : World} {P : Nat → Prop} : ∀ {t : Tr} {b o n i : Nat} {u : Tr}, HoldsP w P (some ⟨b, o, none⟩) n t → (subs t)[i]? = some u → ∃ A' n' c', w.cell? ⟨b, o + i * 2 + 1, none⟩ = some (.slice A' n' c') ∧ n' ≤ c' ∧ c' ≤ maxLen ∧ HoldsP w P A' n' u
  | .nil, _, _, _, i, _, _, h => by simp [subs] at h
  | .cons s k r, b, o, n, 0, u, ⟨b', o', e, _, _, ⟨A', n', c', hc, hn, hm, hk⟩, _⟩, h => by
    injection e with e
    injection e with e1 e2
    subst e1; subst e2
    simp only [subs, List.getElem?_cons_zero, Option.some.injEq] at h
    subst h
    exact ⟨A', n', c', by simpa using hc, hn, hm, hk⟩
  | .cons s k r, b, o, n, i + 1, u, ⟨b', o', e, _, _, _, m, _, hr⟩, h => by
    injection e with e
    injection e with e1 e2
    subst e1; subst e2
    simp only [subs, List.getElem?_cons_succ] at h
    obtain ⟨A', n', c', hc, h2⟩ := HoldsP.sub hr h
    exact ⟨A', n', c', by rw [show o + (i + 1) * 2 + 1 = o + 2 + i * 2 + 1 by omega]; exact hc, h2⟩
/-- What the trees on the stack still have to be gone through. -/
def load : List Tr → Nat
  | [] => 0
  | t :: r => t.size + 1 + load r
theorem load_append (a b : List Tr) : load (a ++ b) = load a + load b := by
  induction a with
  | nil => simp [load]
  | cons x r ih => simp only [List.cons_append, load, ih]; omega
theorem load_subs : ∀ t : Tr, load (subs t) = t.size
  | .nil => rfl
  | .cons _ k r => by simp only [subs, load, Tr.size, load_subs r]; omega
theorem load_len (l : List Tr) : l.length ≤ load l := by
  induction l with
  | nil => exact Nat.le_refl _
  | cons x r ih => simp only [List.length_cons, load]; omega
end Go.Proofs.Ytchoipmfngcdoaa.Cl
namespace Go.Proofs.Ytchoipmfngcdoaa.Cl
open Go.RowKit
set_option maxRecDepth 100000

theorem elem_edge : Elem Try.prog 24 51 (.agg #[.string ⟨#[]⟩, .slice none 0 0]) 2 40 := ⟨Try.underlying24, by kernel_rfl, rfl, by omega⟩
theorem src_edges {w : World} {b o n c : Nat} {vs : List Value} (hl : vs.length = n * 2) (hc : ∀ j u, vs[j]? = some u → w.cell? ⟨b, o + j, none⟩ = some u) (h1 : ∀ u ∈ vs, u.oneCell' = true) : Src Try.prog 2 24 (.slice (some ⟨b, o, none⟩) n c) n vs w :=
  Src.ofSlice w Try.underlying24 ⟨b, o, none⟩ n c vs hl (fun j u hu => by rw [Addr.add_lit]; exact hc j u hu) h1
theorem src_none (w : World) (A : Option Addr) (c : Nat) : Src Try.prog 2 24 (.slice A 0 c) 0 [] w := by
  cases A with
  | none => exact Src.ofNil w Try.underlying24 c
  | some a => exact Src.ofSlice w Try.underlying24 a 0 c [] rfl (fun j u hu => by simp at hu) (fun u hu => by cases hu)

/-- The answer's row lies in the new block, and reads as what was handed. -/
theorem level_hp (t : Tr) (A : Option Addr) (n c : Nat) (P : Nat → Prop) (w : World) (h : HoldsP w P A n t) (hP : ∀ b, P b → b < w.heap.size) (hn : n ≤ 1099511627776) :
    Calls Try.prog 92 #[.slice A n c] w fun e w' => ∃ A' c', e = .returned (.slice A' n c') ∧ w.grownBy w' none ∧ n ≤ c' ∧ c' ≤ maxLen ∧ HoldsP w' (fun b => P b ∨ b = w.heap.size) A' n t ∧
      (∀ a, A' = some a → a = ⟨w.heap.size, 0, none⟩ ∧ ∃ cur, w'.heap[w.heap.size]? = some (.cells cur 51 (0, 0))) := by
  obtain ⟨vs, hl, h1, hc, hA⟩ := h.row
  have hsrc : Src Try.prog 2 24 (.slice A n c) n vs w := by
    rcases Nat.eq_zero_or_pos n with g | g
    · subst g
      have : vs = [] := List.eq_nil_of_length_eq_zero (by rw [hl])
      subst this
      exact src_none w A c
    · obtain ⟨b, o, rfl, _⟩ := hA g
      exact src_edges hl (hc b o rfl) h1
  have hn2 : 0 + n ≤ 1099511627776 := by omega
  have H := Lib.hid h
  have HP := Lib.hid hP
  have Hc := Lib.hid hc
  have HA := Lib.hid hA
  have Hl := Lib.hid hl
  clear h hP hc hA hl
  go_enter Try.func92, Try.ntmps92
  go_wp2_with (at_builtin; refine wpList_append_row rfl (.const (.slice none 0 0)) (.tmp 3) _ _ rfl elem_edge rfl rfl (World.ownsRow_nil w w.heap.size _ _) hsrc hn2 (Nat.le_refl _) ?_; intro A2 c2 w2 ho2 hg2 hat2; simp only [Nat.zero_add, List.nil_append] at ho2; rw [Nat.zero_add])
  go_ret
  have hkeep : ∀ b o, P b → w2.cell? ⟨b, o, none⟩ = w.cell? ⟨b, o, none⟩ := fun b o hb => World.cell?_of_block (hg2.block b (HP.out b hb) (fun e => by cases e))
  rcases ho2.2 with ⟨e1, e2⟩ | ⟨g, cap, cur, e1, hg, hh, hcap, hmx, hsz, htk⟩
  · injection e1 with a1 a2 a3
    subst a1; subst a2; subst a3
    have ht := H.out.len
    have hH := H.out
    cases t with
    | nil => exact ⟨none, 0, rfl, hg2, Nat.le_refl _, by simp [maxLen], rfl, fun a ha => by cases ha⟩
    | cons s k r => simp [Tr.len] at ht
  · injection e1 with a1 a2 a3
    subst a1; subst a3
    have hgw : g = w.heap.size := by
      rcases hat2 _ rfl with e | e
      · exact e
      · simp [Value.ownBlock] at e
    subst hgw
    refine ⟨_, c2, rfl, hg2, hcap, hmx, ?_, fun a ha => ⟨by injection ha with ha; exact ha.symm, cur, hh⟩⟩
    have hcp : ∀ j u, vs[j]? = some u → w2.cell? ⟨w.heap.size, 0 + j, none⟩ = some u := by
      intro j u hu
      rw [cell_of_row w2 _ _ cur _ _ hh, Nat.zero_add]
      rw [← htk, List.getElem?_take] at hu
      split at hu
      · simpa using hu
      · cases hu
    rcases Nat.eq_zero_or_pos n with g0 | g0
    · subst g0
      have ht := H.out.len
      cases t with
      | nil => exact rfl
      | cons s k r => simp [Tr.len] at ht
    · obtain ⟨b, o, rfl, hb⟩ := HA.out g0
      refine HoldsP.copy hkeep (fun b hb => .inl hb) H.out (.inr rfl) (fun j hj => ?_)
      have hlt : j < vs.length := by rw [Hl.out]; exact hj
      rw [hcp j _ (List.getElem?_eq_getElem hlt), Hc.out b o rfl j _ (List.getElem?_eq_getElem hlt)]

/-- A slice of edges still to be gone through. -/
structure CJob where
  a1 : Option Addr
  n1 : Nat
  c1 : Nat
def CJob.cells (x : CJob) : List Value := [.slice x.a1 x.n1 x.c1]
def cjobs (L : List CJob) : List Value := L.flatMap CJob.cells
theorem cjobs_length (L : List CJob) : (cjobs L).length = L.length * 1 := by
  induction L with
  | nil => rfl
  | cons x l ih => simp only [cjobs, List.flatMap_cons, List.length_append, List.length_cons] at ih ⊢; rw [ih]; simp [CJob.cells]; omega
theorem cjobs_append (L M : List CJob) : cjobs (L ++ M) = cjobs L ++ cjobs M := by simp [cjobs]

structure CStk (w : World) (base g : Nat) (L : List CJob) : Prop where
  le : base ≤ g
  row : ∃ A c, w.heap[g]? = some (.cells #[.slice A L.length c] 153 (0, 0)) ∧ w.ownsRow base 24 1 (.slice A L.length c) L.length (cjobs L)

theorem CStk.grow {w w' : World} {base g : Nat} {L : List CJob} (h : CStk w base g L) (hk : ∀ k, k < w.heap.size → w'.heap[k]? = w.heap[k]?) : CStk w' base g L := by
  obtain ⟨A, c, hb, hr1, hr⟩ := h.row
  have hs : ∀ (k : Nat) (o : Obj), w.heap[k]? = some o → w'.heap[k]? = some o := fun k o ho => (hk k (Array.getElem?_eq_some_iff.1 ho).1).trans ho
  refine ⟨h.le, A, c, hs _ _ hb, hr1, ?_⟩
  rcases hr with e | ⟨g1, cap, cur, e, hg, hh, rest⟩
  · exact .inl e
  · exact .inr ⟨g1, cap, cur, e, hg, hs _ _ hh, rest⟩
theorem CStk.alloc {w : World} {base g : Nat} {L : List CJob} (h : CStk w base g L) (o : Obj) : CStk (w.alloc o) base g L := h.grow fun k hk => Below.heap_alloc w o k hk
theorem CStk.drewN {w : World} {base g : Nat} {L : List CJob} (h : CStk w base g L) (q : Nat) : CStk (w.drewN q) base g L := h.grow fun _ _ => rfl

/-- Block k is none of the stack's: not its box, not its row. -/
def CFar (w : World) (g k : Nat) : Prop := k ≠ g ∧ ∀ A n c, w.heap[g]? = some (.cells #[.slice A n c] 153 (0, 0)) → (Value.slice A n c).ownBlock ≠ some k
theorem CStk.lt {w : World} {base g : Nat} {L : List CJob} (h : CStk w base g L) : g < w.heap.size := by
  obtain ⟨A, c, hb, _⟩ := h.row
  exact (Array.getElem?_eq_some_iff.1 hb).1
theorem CStk.far {w : World} {base g k : Nat} {L : List CJob} (h : CStk w base g L) (hk : w.heap.size ≤ k) : CFar w g k := by
  have hl := h.lt
  obtain ⟨A, c, hb, hrow⟩ := h.row
  refine ⟨by omega, fun A' n' c' he e => ?_⟩
  rw [hb] at he
  injection he with he
  injection he with he _ _
  have he := congrArg Array.toList he
  simp only [List.cons.injEq, Value.slice.injEq, and_true] at he
  obtain ⟨rfl, rfl, rfl⟩ := he
  have := (hrow.lt k e).2
  omega
theorem CFar.grow {w w' : World} {g k : Nat} (h : CFar w g k) (hg : g < w.heap.size) (hk : ∀ k, k < w.heap.size → w'.heap[k]? = w.heap[k]?) : CFar w' g k :=
  ⟨h.1, fun A n c he => h.2 A n c ((hk g hg).symm.trans he)⟩

set_option maxHeartbeats 1000000 in
theorem cpop_any (base g : Nat) (L : List CJob) (x : CJob) (w : World) (h : CStk w base g (L ++ [x])) (hL : L.length ≤ 1099511627776) :
    Calls Try.prog 93 #[.pointer (some ⟨g, 0, none⟩)] w fun e w' =>
      e = .returned (.slice x.a1 x.n1 x.c1) ∧ CStk w' base g L ∧ w.grownBy w' (some g) := by
  obtain ⟨A, c, hb, hrow⟩ := h.row
  have hrow2 := hrow
  obtain ⟨hr1, hr⟩ := hrow
  rcases hr with ⟨e, e2⟩ | ⟨g1, cap, cur, e, hg, hh, hcap, hmx, hsz, htk⟩
  · simp at e2
  injection e with e1 e2 e3
  subst e1; subst e3
  have hlen : (L ++ [x]).length = L.length + 1 := by simp
  rw [hlen] at hb hcap htk
  have hcell : ∀ j v, (cjobs (L ++ [x]))[j]? = some v → w.cell? ⟨g1, j, none⟩ = some v := by
    intro j v hv
    rw [cell_of_row w g1 j cur _ _ hh]
    rw [← htk, List.getElem?_take] at hv
    split at hv
    · simpa using hv
    · cases hv
  have hc0 : w.cell? ⟨g1, L.length, none⟩ = some (.slice x.a1 x.n1 x.c1) := hcell _ _ (by rw [cjobs_append, List.getElem?_append_right (by rw [cjobs_length, Nat.mul_one]; exact Nat.le_refl _), cjobs_length, Nat.mul_one, Nat.sub_self]; rfl)
  have hbox : w.cell? ⟨g, 0, none⟩ = some (.slice (some ⟨g1, 0, none⟩) (L.length + 1) c) := by rw [cell_of_row w g 0 _ _ _ hb]; rfl
  have hfr : w.frozen? ⟨g, 0, none⟩ = false := by simp [World.frozen?, hb]
  obtain ⟨k, hk⟩ : ∃ k, k = L.length := ⟨_, rfl⟩
  rw [← hk] at hc0 hbox hL hcap
  have hgl : g < w.heap.size := (Array.getElem?_eq_some_iff.1 hb).1
  have hg1l : g1 < w.heap.size := (Array.getElem?_eq_some_iff.1 hh).1
  have hne : g1 ≠ g := by rintro rfl; rw [hh] at hb; simp at hb
  have Hk := Lib.hid hk
  have Hb := Lib.hid hb
  have Hh := Lib.hid hh
  have Hsz := Lib.hid hsz
  have Htk := Lib.hid htk
  clear hcell htk hr1 hrow2 hb hlen hh hsz hk e2
  go_enter Try.func93, Try.ntmps93
  go_wp2_with fail
  refine bodyPost_ret (v := .slice x.a1 x.n1 x.c1) (by simp [results, Try.results93, go_sem]) rfl ⟨rfl, ⟨h.le, some ⟨g1, 0, none⟩, c, ?_, ?_⟩, grown_set _ _ _⟩
  · rw [← Hk.out]
    exact box_set Hb.out
  · rw [← Hk.out]
    refine ⟨by rw [cjobs_length, Hk.out], .inr ⟨g1, c, cur, rfl, hg, heap_far Hh.out hne _, by omega, hmx, Hsz.out, ?_⟩⟩
    have hk := Hk.out
    have e3 : (cjobs L).take (k * 1) = cjobs L := List.take_of_length_le (by rw [cjobs_length, hk]; exact Nat.le_refl _)
    have := congrArg (List.take (k * 1)) Htk.out
    rw [List.take_take, cjobs_append, List.take_append_of_le_length (by rw [cjobs_length, hk]; exact Nat.le_refl _), e3, Nat.min_eq_left (by omega)] at this
    exact this

theorem cjobs_one (L : List CJob) : ∀ u ∈ cjobs L, u.oneCell' = true := by
  intro u hu
  simp only [cjobs, List.mem_flatMap] at hu
  obtain ⟨x, _, hx⟩ := hu
  simp only [CJob.cells, List.mem_cons, List.not_mem_nil, or_false] at hx
  subst hx; rfl

theorem elem_tree : Elem Try.prog 153 24 (.slice none 0 0) 1 24 := ⟨Try.underlying153, by kernel_rfl, rfl, by omega⟩

set_option maxHeartbeats 1000000 in
theorem cpush_any (base g b o m c : Nat) (L M : List CJob) (w : World) (h : CStk w base g L) (hm : m = M.length) (hc : ∀ j u, (cjobs M)[j]? = some u → w.cell? ⟨b, o + j, none⟩ = some u) (hL : L.length + m ≤ 1099511627776) (hb : base ≤ w.heap.size) :
    Calls Try.prog 94 #[.pointer (some ⟨g, 0, none⟩), .slice (some ⟨b, o, none⟩) m c] w fun e w' =>
      (∃ v, e = .returned v) ∧ CStk w' base g (L ++ M) ∧ Below base w w' ∧ ∀ k, k < w.heap.size → CFar w g k → w'.heap[k]? = w.heap[k]? ∧ CFar w' g k := by
  obtain ⟨A, c1, hbx, hrow⟩ := h.row
  have hbox : w.cell? ⟨g, 0, none⟩ = some (.slice A L.length c1) := by rw [cell_of_row w g 0 _ _ _ hbx]; rfl
  have hfr : w.frozen? ⟨g, 0, none⟩ = false := by simp [World.frozen?, hbx]
  have hgl : g < w.heap.size := (Array.getElem?_eq_some_iff.1 hbx).1
  have hsrc : Src Try.prog 1 110 (.slice (some ⟨b, o, none⟩) m c) m (cjobs M) w := Src.laid Try.underlying110 (by rw [cjobs_length, hm]) hc (cjobs_one M)
  have hlt := hrow.lt
  have hne : ∀ k, (Value.slice A L.length c1).ownBlock = some k → k ≠ g := by
    rintro k hk rfl
    rcases hrow.2 with ⟨e, _⟩ | ⟨g1, cap, cur, e, _, hh, _⟩
    · rw [e] at hk; cases hk
    · rw [e] at hk
      injection hk with hk
      simp only at hk
      rw [hk] at hh
      rw [hh] at hbx
      simp at hbx
  obtain ⟨k, hk⟩ : ∃ k, k = L.length := ⟨_, rfl⟩
  rw [← hk] at hbox hL hrow hlt hne
  have Hbx := Lib.hid hbx
  have Hm := Lib.hid hm
  have Hk := Lib.hid hk
  have Hlt := Lib.hid hlt
  have Hne := Lib.hid hne
  clear hc hk hm hlt hne hbx
  go_enter Try.func94, Try.ntmps94
  go_wp2_with (at_builtin; refine wpList_append_row rfl (.tmp 7) (.tmp 8) _ _ rfl elem_tree rfl rfl hrow hsrc hL hb ?_; intro A' c' w' ho' hg' hat'; have hbox' := (hg'.cell hbox (fun e => Hne.out _ e.symm rfl)); have hfr' : w'.frozen? ⟨g, 0, none⟩ = false := (World.frozen?_of_block (hg'.block g hgl (fun e => Hne.out _ e.symm rfl))).trans hfr)
  go_end0
  have hnb : (Value.slice A' (k + m) c').ownBlock ≠ some g := by
    cases A' with
    | none => simp [Value.ownBlock]
    | some a =>
      rcases hat' a rfl with e | e
      · simp only [Value.ownBlock, ne_eq, Option.some.injEq]; omega
      · intro e'
        simp only [Value.ownBlock] at e'
        exact Hne.out g (by rw [← e, ← e']) rfl
  have hlen : (L ++ M).length = k + m := by rw [List.length_append, ← Hk.out, ← Hm.out]
  refine ⟨⟨_, rfl⟩, ⟨h.le, A', c', ?_, ?_⟩, ?_, fun q hq hf => ?_⟩
  · rw [hlen]
    exact box_set ((hg'.block g hgl (fun e => Hne.out _ e.symm rfl)).trans Hbx.out)
  · rw [hlen, cjobs_append]
    exact ho'.kept (grown_set w' ⟨g, 0, none⟩ _) (.inr hnb)
  · refine ((Below.refl base w).grown hg' hb (fun q hq => (Hlt.out q hq).1)).trans ?_
    exact (Below.refl base w').setCell h.le _
  · have hq2 := hf.2 _ _ _ Hbx.out
    rw [← Hk.out] at hq2
    refine ⟨(Below.heap_setCell w' ⟨g, 0, none⟩ _ q hf.1).trans (hg'.block q hq (fun e => hq2 e.symm)), hf.1, fun A2 n2 c2 he => ?_⟩
    rw [box_set ((hg'.block g hgl (fun e => Hne.out _ e.symm rfl)).trans Hbx.out)] at he
    injection he with he
    injection he with he _ _
    have he := congrArg Array.toList he
    simp only [List.cons.injEq, Value.slice.injEq, and_true] at he
    obtain ⟨rfl, rfl, rfl⟩ := he
    cases A' with
    | none => simp [Value.ownBlock]
    | some a =>
      rcases hat' a rfl with e | e
      · simp only [Value.ownBlock, ne_eq, Option.some.injEq]; omega
      · simp only [Value.ownBlock]
        rw [e]
        exact hq2
/-- A block of edges is none of the stack's. -/
theorem CStk.kind {w : World} {base g k : Nat} {L : List CJob} (h : CStk w base g L) {cur : Array Value} (hk : w.heap[k]? = some (.cells cur 51 (0, 0))) : CFar w g k := by
  obtain ⟨A, c, hb, hrow⟩ := h.row
  refine ⟨fun e => ?_, fun A' n' c' he e => ?_⟩
  · subst e
    rw [hk] at hb
    injection hb with hb
    injection hb with _ hb _
    exact absurd hb (by decide)
  · rw [hb] at he
    injection he with he
    injection he with he _ _
    have he := congrArg Array.toList he
    simp only [List.cons.injEq, Value.slice.injEq, and_true] at he
    obtain ⟨rfl, rfl, rfl⟩ := he
    rcases hrow.2 with ⟨e1, _⟩ | ⟨g1, cap, cur1, e1, _, hh, _⟩
    · rw [e1] at e; cases e
    · rw [e1] at e
      simp only [Value.ownBlock, Option.some.injEq] at e
      subst e
      rw [hk] at hh
      injection hh with hh
      injection hh with _ hh _
      exact absurd hh (by decide)
/-- A store into a block that is none of the stack's. -/
theorem CStk.set {w : World} {base g : Nat} {L : List CJob} (h : CStk w base g L) {a : Addr} (hf : CFar w g a.block) (v : Value) : CStk (w.setCell a v) base g L := by
  obtain ⟨A, c, hb, hrow⟩ := h.row
  refine ⟨h.le, A, c, heap_far hb (fun e => hf.1 e.symm) v, hrow.kept (grown_set w a v) (.inr ?_)⟩
  exact hf.2 _ _ _ hb
theorem CStk.grownNone {w w' : World} {base g : Nat} {L : List CJob} (h : CStk w base g L) (hg : w.grownBy w' none) : CStk w' base g L := h.grow fun k hk => hg.block k hk (by simp)
end Go.Proofs.Ytchoipmfngcdoaa.Cl
namespace Go.Proofs.Ytchoipmfngcdoaa.Cl
open Go.RowKit
set_option maxRecDepth 100000

/-- Where trees may lie that clone goes through: ahead of its own memory, or in rows of edges of its own. -/
def Pw (w : World) (base : Nat) (b : Nat) : Prop := b < base ∨ (base ≤ b ∧ ∃ cur, w.heap[b]? = some (.cells cur 51 (0, 0)))
theorem Pw.keep {w w' : World} {base b : Nat} (hk : Pw w base b → w'.heap[b]? = w.heap[b]?) (h : Pw w base b) : Pw w' base b := by
  have e := hk h
  rcases h with h | ⟨h, cur, hc⟩
  · exact .inl h
  · exact .inr ⟨h, cur, e.trans hc⟩
theorem Pw.lt {w : World} {base b : Nat} (hb : base ≤ w.heap.size) (h : Pw w base b) : b < w.heap.size := by
  rcases h with h | ⟨_, cur, hc⟩
  · omega
  · exact (Array.getElem?_eq_some_iff.1 hc).1
theorem HoldsP.step {w w' : World} {base : Nat} (hk : ∀ b, Pw w base b → w'.heap[b]? = w.heap[b]?) {A : Option Addr} {n : Nat} {t : Tr} (h : HoldsP w (Pw w base) A n t) : HoldsP w' (Pw w' base) A n t :=
  (h.keep fun b _ hb => World.cell?_of_block (hk b hb)).more fun b hb => hb.keep (hk b)

def Row (w : World) (base : Nat) (A : Option Addr) : Prop := ∀ a, A = some a → ∃ d, a = ⟨d, 0, none⟩ ∧ base ≤ d ∧ ∃ cur, w.heap[d]? = some (.cells cur 51 (0, 0))
theorem Row.step {w w' : World} {base : Nat} (hk : ∀ b, Pw w base b → w'.heap[b]? = w.heap[b]?) {A : Option Addr} (h : Row w base A) : Row w' base A := fun a ha => by
  obtain ⟨d, e, hd, cur, hc⟩ := h a ha
  exact ⟨d, e, hd, cur, (hk d (.inr ⟨hd, cur, hc⟩)).trans hc⟩
structure JobOK (w : World) (base : Nat) (p : CJob × Tr) : Prop where
  holds : HoldsP w (Pw w base) p.1.a1 p.1.n1 p.2
  row : Row w base p.1.a1
theorem JobOK.step {w w' : World} {base : Nat} (hk : ∀ b, Pw w base b → w'.heap[b]? = w.heap[b]?) {p : CJob × Tr} (h : JobOK w base p) : JobOK w' base p := ⟨h.holds.step hk, h.row.step hk⟩

/-- What level's contract leaves. -/
theorem level_ok {w w' : World} {base n c' : Nat} {A' : Option Addr} {t : Tr} (hb : base ≤ w.heap.size) (hg : w.grownBy w' none) (h : HoldsP w' (fun b => Pw w base b ∨ b = w.heap.size) A' n t)
    (ha : ∀ a, A' = some a → a = ⟨w.heap.size, 0, none⟩ ∧ ∃ cur, w'.heap[w.heap.size]? = some (.cells cur 51 (0, 0))) : JobOK w' base (⟨A', n, c'⟩, t) := by
  have hk : ∀ b, Pw w base b → Pw w' base b := fun b h => h.keep fun h => hg.block b (h.lt hb) (fun e => by cases e)
  refine ⟨?_, fun a e => ?_⟩
  · cases t with
    | nil => exact h
    | cons s k r =>
      cases A' with
      | none => obtain ⟨b, o, e, _⟩ := h; cases e
      | some a =>
        obtain ⟨_, cur, hc⟩ := ha a rfl
        exact h.more fun b h => h.elim (hk b) (fun e => by rw [e]; exact .inr ⟨hb, cur, hc⟩)
  · obtain ⟨e1, cur, hc⟩ := ha a e
    exact ⟨_, e1, hb, cur, hc⟩

/-- Behind the store of a slice that reads the same. -/
theorem Pw.set {w : World} {base p q : Nat} {cur : Array Value} {v : Value} (hh : w.heap[p]? = some (.cells cur 51 (0, 0))) {b : Nat} (h : Pw w base b) : Pw (w.setCell ⟨p, q, none⟩ v) base b := by
  rcases h with h | ⟨h, c2, hc⟩
  · exact .inl h
  · by_cases e : b = p
    · subst e
      exact .inr ⟨h, _, heap_setCell_same w b q cur _ _ hh⟩
    · exact .inr ⟨h, c2, (Below.heap_setCell w _ _ b e).trans hc⟩
theorem JobOK.set {w : World} {base p q n1 c1 n2 c2 : Nat} {X Y : Option Addr} {u : Tr} {cur : Array Value} (hh : w.heap[p]? = some (.cells cur 51 (0, 0))) (hq : w.cell? ⟨p, q, none⟩ = some (.slice X n1 c1)) (h1 : HoldsP w (Pw w base) X n1 u) (h2 : HoldsP w (Pw w base) Y n2 u) (hn : n2 ≤ c2) (hm : c2 ≤ maxLen)
    {A : Option Addr} {n : Nat} {t : Tr} (h : HoldsP w (Pw w base) A n t) : HoldsP (w.setCell ⟨p, q, none⟩ (.slice Y n2 c2)) (Pw (w.setCell ⟨p, q, none⟩ (.slice Y n2 c2)) base) A n t :=
  (HoldsP.repl hh hq h1 h2 hn hm h1 h).more fun _ hb => hb.set hh
theorem Row.set {w : World} {base p q : Nat} {cur : Array Value} {v : Value} (hh : w.heap[p]? = some (.cells cur 51 (0, 0))) {A : Option Addr} (h : Row w base A) : Row (w.setCell ⟨p, q, none⟩ v) base A := fun a ha => by
  obtain ⟨d, e, hd, c2, hc⟩ := h a ha
  rcases Pw.set (base := base) (q := q) (v := v) hh (.inr ⟨hd, c2, hc⟩) with h | ⟨_, h⟩
  · omega
  · exact ⟨d, e, hd, h⟩

structure ClSt (w : World) (base g : Nat) (A : Option Addr) (n : Nat) (t : Tr) (X : List (CJob × Tr)) : Prop where
  stk : CStk w base g (X.map Prod.fst)
  whole : HoldsP w (Pw w base) A n t
  jobs : ∀ p ∈ X, JobOK w base p
  size : base ≤ w.heap.size

section
variable {w w' : World} {base g n : Nat} {A : Option Addr} {t : Tr} {X : List (CJob × Tr)}
theorem ClSt.grow (h : ClSt w base g A n t X) (hg : w.grownBy w' none) : ClSt w' base g A n t X :=
  have hk : ∀ b, Pw w base b → w'.heap[b]? = w.heap[b]? := fun b hb => hg.block b (hb.lt h.size) (fun e => by cases e)
  ⟨h.stk.grownNone hg, h.whole.step hk, fun p hp => (h.jobs p hp).step hk, Nat.le_trans h.size hg.size⟩
theorem ClSt.alloc (h : ClSt w base g A n t X) (o : Obj) : ClSt (w.alloc o) base g A n t X :=
  have hk : ∀ b, Pw w base b → (w.alloc o).heap[b]? = w.heap[b]? := fun b hb => Below.heap_alloc w o b (hb.lt h.size)
  ⟨h.stk.alloc o, h.whole.step hk, fun p hp => (h.jobs p hp).step hk, by simp; exact Nat.le_succ_of_le h.size⟩
/-- Popped. -/
theorem ClSt.pop {x : CJob × Tr} (h : ClSt w base g A n t (X ++ [x])) (hs : CStk w' base g (X.map Prod.fst)) (hg : w.grownBy w' (some g)) : ClSt w' base g A n t X ∧ JobOK w' base x := by
  have hk : ∀ b, Pw w base b → w'.heap[b]? = w.heap[b]? := fun b hb => hg.block b (hb.lt h.size) (fun e => by
    injection e with e
    subst e
    rcases hb with hb | ⟨_, cur, hc⟩
    · have := h.stk.le; omega
    · exact (h.stk.kind hc).1 rfl)
  exact ⟨⟨hs, h.whole.step hk, fun p hp => (h.jobs p (List.mem_append.2 (.inl hp))).step hk, Nat.le_trans h.size hg.size⟩, (h.jobs x (by simp)).step hk⟩
/-- Pushed. -/
theorem ClSt.push {x y : CJob × Tr} (h : ClSt w base g A n t X) (hx : JobOK w base x) (hy : JobOK w base y) (hs : CStk w' base g (X.map Prod.fst ++ [x.1])) (hb : Below base w w') (hg : ∀ k, k < w.heap.size → CFar w g k → w'.heap[k]? = w.heap[k]?) : ClSt w' base g A n t (X ++ [x]) ∧ JobOK w' base y := by
  have hk : ∀ b, Pw w base b → w'.heap[b]? = w.heap[b]? := fun b h1 => by
    rcases h1 with h1 | ⟨h0, cur, hc⟩
    · exact hb.block b h1
    · exact hg b (Array.getElem?_eq_some_iff.1 hc).1 (h.stk.kind hc)
  refine ⟨⟨by simpa using hs, h.whole.step hk, fun p hp => ?_, Nat.le_trans h.size hb.size⟩, hy.step hk⟩
  rcases List.mem_append.1 hp with hp | hp
  · exact (h.jobs p hp).step hk
  · simp only [List.mem_cons, List.not_mem_nil, or_false] at hp
    subst hp
    exact hx.step hk
/-- Stored. -/
theorem ClSt.set {p q n1 c1 n2 c2 : Nat} {Z Y : Option Addr} {u : Tr} {cur : Array Value} (h : ClSt w base g A n t X) (hh : w.heap[p]? = some (.cells cur 51 (0, 0))) (hq : w.cell? ⟨p, q, none⟩ = some (.slice Z n1 c1)) (h1 : HoldsP w (Pw w base) Z n1 u) (h2 : HoldsP w (Pw w base) Y n2 u) (hn : n2 ≤ c2) (hm : c2 ≤ maxLen) :
    ClSt (w.setCell ⟨p, q, none⟩ (.slice Y n2 c2)) base g A n t X :=
  ⟨h.stk.set (h.stk.kind hh) _, JobOK.set hh hq h1 h2 hn hm h.whole, fun x hx => ⟨JobOK.set hh hq h1 h2 hn hm (h.jobs x hx).holds, (h.jobs x hx).row.set hh⟩, by simp [World.setCell]; exact h.size⟩
end
end Go.Proofs.Ytchoipmfngcdoaa.Cl
namespace Go.Proofs.Ytchoipmfngcdoaa.Cl
open Go.RowKit
set_option maxRecDepth 100000

/-- Of each row of clone's own: the row and place that names it, how deep it lies, how many of its places are done, its length, its room. -/
structure Gh where
  par : Nat → Option (Nat × Nat)
  dep : Nat → Nat
  J : Nat → Nat
  Ln : Nat → Nat
  Cp : Nat → Nat
def IsRow (w : World) (base d : Nat) : Prop := base ≤ d ∧ ∃ cur, w.heap[d]? = some (.cells cur 51 (0, 0))
/-- A row with room for so many edges. -/
def RowC (w : World) (base d c : Nat) : Prop := base ≤ d ∧ ∃ cur, w.heap[d]? = some (.cells cur 51 (0, 0)) ∧ cur.size = c * 2
theorem RowC.row {w : World} {base d c : Nat} (h : RowC w base d c) : IsRow w base d := ⟨h.1, h.2.choose, h.2.choose_spec.1⟩
theorem RowC.step {w w' : World} {base d c : Nat} (h : RowC w base d c) (hk : w'.heap[d]? = w.heap[d]?) : RowC w' base d c := by
  obtain ⟨h0, cur, h1, h2⟩ := h
  exact ⟨h0, cur, hk.trans h1, h2⟩
theorem RowC.set {w : World} {base p q d c : Nat} {cur : Array Value} {v : Value} (hh : w.heap[p]? = some (.cells cur 51 (0, 0))) (h : RowC w base d c) : RowC (w.setCell ⟨p, q, none⟩ v) base d c := by
  obtain ⟨h0, cu, h1, h2⟩ := h
  by_cases e : d = p
  · subst e
    rw [hh] at h1
    cases h1
    exact ⟨h0, _, heap_setCell_same w d q cur _ _ hh, by simpa using h2⟩
  · exact ⟨h0, cu, (Below.heap_setCell w _ _ d e).trans h1, h2⟩
theorem IsRow.lt {w : World} {base d : Nat} (h : IsRow w base d) : d < w.heap.size := by
  obtain ⟨_, cur, hc⟩ := h
  exact (Array.getElem?_eq_some_iff.1 hc).1
def Tre (G : Gh) (R : Option Nat) (p : Nat) : Prop := G.par p ≠ none ∨ R = some p
structure Fam (w : World) (base : Nat) (R : Option Nat) (G : Gh) : Prop where
  caps : ∀ p, Tre G R p → RowC w base p (G.Cp p)
  root : ∀ p, R = some p → G.par p = none
  done : ∀ p i A n c, Tre G R p → i < G.J p → w.cell? ⟨p, i * 2 + 1, none⟩ = some (.slice A n c) → (A = none ∧ n = 0 ∧ c = 0) ∨ ∃ d, A = some ⟨d, 0, none⟩ ∧ n = G.Ln d ∧ c = G.Cp d ∧ G.par d = some (p, i) ∧ G.dep d = G.dep p + 1
theorem Fam.rows {w : World} {base : Nat} {R : Option Nat} {G : Gh} (h : Fam w base R G) : ∀ p, Tre G R p → IsRow w base p := fun p hp => (h.caps p hp).row
theorem Fam.step {w w' : World} {base : Nat} {R : Option Nat} {G : Gh} (h : Fam w base R G) (hk : ∀ b, IsRow w base b → w'.heap[b]? = w.heap[b]?) : Fam w' base R G := by
  refine ⟨fun p hp => ?_, h.root, fun p i A n c hp hi hc => h.done p i A n c hp hi ?_⟩
  · exact (h.caps p hp).step (hk p (h.rows p hp))
  · rw [← hc]
    exact (World.cell?_of_block (hk p (h.rows p hp))).symm
/-- A place is done, and names no row. -/
def Gh.mark (G : Gh) (p j : Nat) : Gh := { G with J := fun x => if x = p then max (G.J p) (j + 1) else G.J x }
/-- A place is done, and names the row d of length n. -/
def Gh.put (G : Gh) (p j d n c : Nat) : Gh :=
  { par := fun x => if x = d then some (p, j) else G.par x
    dep := fun x => if x = d then G.dep p + 1 else G.dep x
    J := fun x => if x = d then 0 else if x = p then max (G.J p) (j + 1) else G.J x
    Ln := fun x => if x = d then n else G.Ln x
    Cp := fun x => if x = d then c else G.Cp x }
theorem IsRow.set {w : World} {base p q : Nat} {cur : Array Value} {v : Value} (hh : w.heap[p]? = some (.cells cur 51 (0, 0))) {b : Nat} (h : IsRow w base b) : IsRow (w.setCell ⟨p, q, none⟩ v) base b := by
  obtain ⟨h0, c2, hc⟩ := h
  rcases Pw.set (base := base) (q := q) (v := v) hh (.inr ⟨h0, c2, hc⟩) with h | h
  · omega
  · exact h
theorem cell_set {w : World} {p j : Nat} {v : Value} {x i : Nat} (h : ¬ (x = p ∧ i = j)) : (w.setCell ⟨p, j * 2 + 1, none⟩ v).cell? ⟨x, i * 2 + 1, none⟩ = w.cell? ⟨x, i * 2 + 1, none⟩ :=
  World.cell?_setCell_other _ _ _ _ (fun e => h ⟨(congrArg Addr.block e).symm, by have := congrArg Addr.off e; simp only at this; omega⟩)
theorem cell_own {w : World} {p j : Nat} {cur : Array Value} {v : Value} {o : Value} (hh : w.heap[p]? = some (.cells cur 51 (0, 0))) (hq : w.cell? ⟨p, j * 2 + 1, none⟩ = some o) : (w.setCell ⟨p, j * 2 + 1, none⟩ v).cell? ⟨p, j * 2 + 1, none⟩ = some v := by
  rw [cell_of_row _ _ _ _ _ _ (heap_setCell_same w p (j * 2 + 1) cur _ _ hh)]
  have : j * 2 + 1 < cur.size := by
    rw [cell_of_row _ _ _ _ _ _ hh] at hq
    exact (Array.getElem?_eq_some_iff.1 hq).1
  simp [this]
theorem Fam.mark {w : World} {base p j : Nat} {R : Option Nat} {G : Gh} {cur : Array Value} {o : Value} (h : Fam w base R G) (hh : w.heap[p]? = some (.cells cur 51 (0, 0))) (hq : w.cell? ⟨p, j * 2 + 1, none⟩ = some o) (hj : j ≤ G.J p) :
    Fam (w.setCell ⟨p, j * 2 + 1, none⟩ (.slice none 0 0)) base R (G.mark p j) := by
  refine ⟨fun x hx => (h.caps x hx).set hh, h.root, fun x i A n c hx hi hc => ?_⟩
  by_cases e : x = p ∧ i = j
  · obtain ⟨rfl, rfl⟩ := e
    rw [cell_own hh hq] at hc
    injection hc with hc
    injection hc with a1 a2 a3
    exact .inl ⟨a1.symm, a2.symm, a3.symm⟩
  · rw [cell_set e] at hc
    refine h.done x i A n c hx ?_ hc
    simp only [Gh.mark] at hi
    split at hi
    · rename_i e1
      subst e1
      have : i ≠ j := fun e2 => e ⟨rfl, e2⟩
      omega
    · exact hi
theorem Fam.put {w : World} {base p j d n0 c0 : Nat} {R : Option Nat} {G : Gh} {cur : Array Value} {o : Value} (h : Fam w base R G) (hp : Tre G R p) (hh : w.heap[p]? = some (.cells cur 51 (0, 0))) (hq : w.cell? ⟨p, j * 2 + 1, none⟩ = some o) (hj : j ≤ G.J p)
    (hd : RowC w base d c0) (hnew : ¬ Tre G R d) : Fam (w.setCell ⟨p, j * 2 + 1, none⟩ (.slice (some ⟨d, 0, none⟩) n0 c0)) base R (G.put p j d n0 c0) := by
  have hpd : p ≠ d := fun e => hnew (e ▸ hp)
  have hold : ∀ x, Tre (G.put p j d n0 c0) R x → x ≠ d → Tre G R x := by
    intro x hx hne
    rcases hx with hx | hx
    · simp only [Gh.put, if_neg hne] at hx
      exact .inl hx
    · exact .inr hx
  refine ⟨fun x hx => ?_, fun x hx => ?_, fun x i A n c hx hi hc => ?_⟩
  · by_cases e : x = d
    · subst e
      have := hd.set (q := j * 2 + 1) (v := .slice (some ⟨x, 0, none⟩) n0 c0) hh
      simpa [Gh.put] using this
    · have := (h.caps x (hold x hx e)).set (q := j * 2 + 1) (v := .slice (some ⟨d, 0, none⟩) n0 c0) hh
      simpa only [Gh.put, if_neg e] using this
  · have : x ≠ d := fun e => hnew (e ▸ .inr hx)
    simp only [Gh.put, if_neg this]
    exact h.root x hx
  · have hxd : x ≠ d := by
      rintro rfl
      simp only [Gh.put, if_true] at hi
      omega
    by_cases e : x = p ∧ i = j
    · obtain ⟨rfl, rfl⟩ := e
      rw [cell_own hh hq] at hc
      injection hc with hc
      injection hc with a1 a2 a3
      subst a1; subst a2; subst a3
      exact .inr ⟨d, rfl, by simp [Gh.put], by simp [Gh.put], by simp [Gh.put], by simp [Gh.put, hxd]⟩
    · rw [cell_set e] at hc
      have hi2 : i < G.J x := by
        simp only [Gh.put, if_neg hxd] at hi
        split at hi
        · rename_i e1
          subst e1
          have : i ≠ j := fun e2 => e ⟨rfl, e2⟩
          omega
        · exact hi
      rcases h.done x i A n c (hold x hx hxd) hi2 hc with h1 | ⟨d', h1, h2, h5, h3, h4⟩
      · exact .inl h1
      · have hne : d' ≠ d := fun e => hnew (e ▸ .inl (by rw [h3]; simp))
        exact .inr ⟨d', h1, by simp only [Gh.put, if_neg hne]; exact h2, by simp only [Gh.put, if_neg hne]; exact h5, by simp only [Gh.put, if_neg hne]; exact h3, by simp only [Gh.put, if_neg hne, if_neg hxd]; exact h4⟩
end Go.Proofs.Ytchoipmfngcdoaa.Cl
namespace Go.Proofs.Ytchoipmfngcdoaa.Cl
open Go.RowKit
set_option maxRecDepth 100000

structure FamSt (w : World) (base : Nat) (R : Option Nat) (n c : Nat) (X : List (CJob × Tr)) (G : Gh) : Prop where
  fam : Fam w base R G
  jobs : ∀ p ∈ X, ∀ d, p.1.a1 = some ⟨d, 0, none⟩ → Tre G R d ∧ G.Ln d = p.1.n1
  comp : ∀ d, Tre G R d → (∃ p ∈ X, p.1.a1 = some ⟨d, 0, none⟩) ∨ G.Ln d ≤ G.J d
  ln : ∀ d, R = some d → G.Ln d = n
  cp : ∀ d, R = some d → G.Cp d = c
structure FamIn (w : World) (base : Nat) (R : Option Nat) (n c : Nat) (X : List (CJob × Tr)) (x : CJob) (j : Nat) (G : Gh) : Prop where
  fam : Fam w base R G
  jobs : ∀ p ∈ X, ∀ d, p.1.a1 = some ⟨d, 0, none⟩ → Tre G R d ∧ G.Ln d = p.1.n1
  comp : ∀ d, Tre G R d → (∃ p ∈ X, p.1.a1 = some ⟨d, 0, none⟩) ∨ x.a1 = some ⟨d, 0, none⟩ ∨ G.Ln d ≤ G.J d
  ln : ∀ d, R = some d → G.Ln d = n
  cp : ∀ d, R = some d → G.Cp d = c
  cur : ∀ d, x.a1 = some ⟨d, 0, none⟩ → Tre G R d ∧ G.Ln d = x.n1 ∧ j ≤ G.J d
section
variable {w w' : World} {base n c : Nat} {R : Option Nat} {X : List (CJob × Tr)} {G : Gh} {x : CJob × Tr} {j : Nat}
theorem FamSt.step (h : FamSt w base R n c X G) (hk : ∀ b, IsRow w base b → w'.heap[b]? = w.heap[b]?) : FamSt w' base R n c X G := ⟨h.fam.step hk, h.jobs, h.comp, h.ln, h.cp⟩
theorem FamIn.step {x : CJob} (h : FamIn w base R n c X x j G) (hk : ∀ b, IsRow w base b → w'.heap[b]? = w.heap[b]?) : FamIn w' base R n c X x j G := ⟨h.fam.step hk, h.jobs, h.comp, h.ln, h.cp, h.cur⟩
theorem FamSt.pop (h : FamSt w base R n c (X ++ [x]) G) : FamIn w base R n c X x.1 0 G := by
  refine ⟨h.fam, fun p hp => h.jobs p (List.mem_append.2 (.inl hp)), fun d hd => ?_, h.ln, h.cp, fun d hd => ?_⟩
  · rcases h.comp d hd with ⟨p, hp, e⟩ | h1
    · rcases List.mem_append.1 hp with hp | hp
      · exact .inl ⟨p, hp, e⟩
      · simp only [List.mem_cons, List.not_mem_nil, or_false] at hp
        subst hp
        exact .inr (.inl e)
    · exact .inr (.inr h1)
  · obtain ⟨h1, h2⟩ := h.jobs x (by simp) d hd
    exact ⟨h1, h2, Nat.zero_le _⟩
theorem FamIn.end_ {x : CJob} (h : FamIn w base R n c X x x.n1 G) : FamSt w base R n c X G := by
  refine ⟨h.fam, h.jobs, fun d hd => ?_, h.ln, h.cp⟩
  rcases h.comp d hd with h1 | h1 | h1
  · exact .inl h1
  · obtain ⟨_, h2, h3⟩ := h.cur d h1
    exact .inr (by omega)
  · exact .inr h1
theorem FamIn.mark {x : CJob} {p : Nat} {cur : Array Value} {o : Value} {y : CJob × Tr} (h : FamIn w base R n c X x j G) (hx : x.a1 = some ⟨p, 0, none⟩) (hh : w.heap[p]? = some (.cells cur 51 (0, 0))) (hq : w.cell? ⟨p, j * 2 + 1, none⟩ = some o) (hy : y.1.a1 = none) :
    FamIn (w.setCell ⟨p, j * 2 + 1, none⟩ (.slice none 0 0)) base R n c (X ++ [y]) x (j + 1) (G.mark p j) := by
  have hJ : ∀ d, G.J d ≤ (G.mark p j).J d := by
    intro d
    simp only [Gh.mark]
    split
    · rename_i e; subst e; omega
    · exact Nat.le_refl _
  refine ⟨h.fam.mark hh hq (h.cur p hx).2.2, fun q hq d hd => ?_, fun d hd => ?_, h.ln, h.cp, fun d hd => ?_⟩
  · rcases List.mem_append.1 hq with hq | hq
    · exact h.jobs q hq d hd
    · simp only [List.mem_cons, List.not_mem_nil, or_false] at hq
      subst hq
      rw [hy] at hd; cases hd
  · rcases h.comp d hd with ⟨q, hq, e⟩ | h1 | h1
    · exact .inl ⟨q, List.mem_append.2 (.inl hq), e⟩
    · exact .inr (.inl h1)
    · exact .inr (.inr (Nat.le_trans h1 (hJ d)))
  · rw [hx] at hd
    injection hd with hd
    injection hd with hd _
    subst hd
    exact ⟨(h.cur p hx).1, (h.cur p hx).2.1, by simp only [Gh.mark, if_true]; omega⟩
theorem FamIn.put {x : CJob} {p d0 n0 c0 : Nat} {cur : Array Value} {o : Value} {y : CJob × Tr} (h : FamIn w base R n c X x j G) (hx : x.a1 = some ⟨p, 0, none⟩) (hh : w.heap[p]? = some (.cells cur 51 (0, 0))) (hq : w.cell? ⟨p, j * 2 + 1, none⟩ = some o)
    (hd0 : RowC w base d0 c0) (hnew : ¬ Tre G R d0) (hy : y.1.a1 = some ⟨d0, 0, none⟩) (hn : y.1.n1 = n0) :
    FamIn (w.setCell ⟨p, j * 2 + 1, none⟩ (.slice (some ⟨d0, 0, none⟩) n0 c0)) base R n c (X ++ [y]) x (j + 1) (G.put p j d0 n0 c0) := by
  have hp := h.cur p hx
  have hpd : p ≠ d0 := fun e => hnew (e ▸ hp.1)
  have hne : ∀ d, Tre G R d → d ≠ d0 := fun d hd e => hnew (e ▸ hd)
  have hup : ∀ d, Tre G R d → Tre (G.put p j d0 n0 c0) R d := by
    intro d hd
    have e := hne d hd
    rcases hd with hd | hd
    · exact .inl (by simp only [Gh.put, if_neg e]; exact hd)
    · exact .inr hd
  have hdn : ∀ d, Tre (G.put p j d0 n0 c0) R d → d ≠ d0 → Tre G R d := by
    intro d hd e
    rcases hd with hd | hd
    · simp only [Gh.put, if_neg e] at hd
      exact .inl hd
    · exact .inr hd
  have hJ : ∀ d, d ≠ d0 → G.J d ≤ (G.put p j d0 n0 c0).J d := by
    intro d e
    simp only [Gh.put, if_neg e]
    split
    · rename_i e; subst e; omega
    · exact Nat.le_refl _
  have hL : ∀ d, d ≠ d0 → (G.put p j d0 n0 c0).Ln d = G.Ln d := fun d e => by simp only [Gh.put, if_neg e]
  refine ⟨h.fam.put hp.1 hh hq hp.2.2 hd0 hnew, fun q hq d hd => ?_, fun d hd => ?_, fun d hd => ?_, fun d hd => ?_, fun d hd => ?_⟩
  · rcases List.mem_append.1 hq with hq | hq
    · obtain ⟨h1, h2⟩ := h.jobs q hq d hd
      exact ⟨hup d h1, (hL d (hne d h1)).trans h2⟩
    · simp only [List.mem_cons, List.not_mem_nil, or_false] at hq
      subst hq
      rw [hy] at hd
      injection hd with hd
      injection hd with hd _
      subst hd
      exact ⟨.inl (by simp [Gh.put]), by simp [Gh.put, hn]⟩
  · by_cases e : d = d0
    · subst e
      exact .inl ⟨y, by simp, hy⟩
    · rcases h.comp d (hdn d hd e) with ⟨q, hq, e⟩ | h1 | h1
      · exact .inl ⟨q, List.mem_append.2 (.inl hq), e⟩
      · exact .inr (.inl h1)
      · exact .inr (.inr (by rw [hL d e]; exact Nat.le_trans h1 (hJ d e)))
  · rw [hL d (hne d (.inr hd))]
    exact h.ln d hd
  · simp only [Gh.put, if_neg (hne d (.inr hd))]
    exact h.cp d hd
  · rw [hx] at hd
    injection hd with hd
    injection hd with hd _
    subst hd
    exact ⟨hup p hp.1, (hL p hpd).trans hp.2.1, by simp only [Gh.put, if_neg hpd, if_true]; omega⟩
end
end Go.Proofs.Ytchoipmfngcdoaa.Cl
namespace Go.Proofs.Ytchoipmfngcdoaa.Cl
open Go.RowKit
set_option maxRecDepth 100000

/-- Row b lies below row p, behind a place from i on. -/
inductive Desc (G : Gh) (p i : Nat) : Nat → Prop
  | one {b k : Nat} : G.par b = some (p, k) → i ≤ k → G.dep b = G.dep p + 1 → Desc G p i b
  | more {b q k : Nat} : G.par b = some (q, k) → G.dep b = G.dep q + 1 → Desc G p i q → Desc G p i b
theorem Desc.dep {G : Gh} {p i b : Nat} (h : Desc G p i b) : G.dep p < G.dep b := by
  induction h with
  | one _ _ h => omega
  | more _ h _ ih => omega
theorem Desc.less {G : Gh} {p i j b : Nat} (h : Desc G p j b) (hij : i ≤ j) : Desc G p i b := by
  induction h with
  | one h1 h2 h3 => exact .one h1 (by omega) h3
  | more h1 h2 _ ih => exact .more h1 h2 ih
/-- A row's own place is behind no later place. -/
theorem Desc.not_kid {G : Gh} {p i d : Nat} (hd : G.par d = some (p, i)) : ¬ Desc G p (i + 1) d := by
  intro h
  cases h with
  | one h1 h2 _ => rw [hd] at h1; injection h1 with h1; injection h1 with _ h1; omega
  | more h1 _ h3 =>
    rw [hd] at h1
    injection h1 with h1
    injection h1 with h1 _
    subst h1
    have := h3.dep
    omega
theorem Desc.apart {G : Gh} {p i d b : Nat} (hd : G.par d = some (p, i)) (hdep : G.dep d = G.dep p + 1) (h : Desc G d 0 b) : ¬ Desc G p (i + 1) b := by
  induction h with
  | one h1 _ _ =>
    intro h
    cases h with
    | one h2 _ _ => rw [h1] at h2; injection h2 with h2; injection h2 with h2 _; subst h2; omega
    | more h2 _ h3 => rw [h1] at h2; injection h2 with h2; injection h2 with h2 _; subst h2; exact Desc.not_kid hd h3
  | @more b q k h1 _ h0 ih =>
    intro h
    cases h with
    | one h2 _ _ =>
      rw [h1] at h2; injection h2 with h2; injection h2 with h2 _; subst h2
      have := h0.dep; omega
    | more h2 _ h3 => rw [h1] at h2; injection h2 with h2; injection h2 with h2 _; subst h2; exact ih h3

/-- A tree in rows of edges of one's own, each level at the head of its row: the rows met, in order. -/
def OwnR (w : World) (base : Nat) (b o : Nat) : Tr → List Nat → Prop
  | .nil, bs => bs = []
  | .cons s k r, bs => ∃ A' n' c' b1 b2, bs = b1 ++ b2 ∧ w.cell? ⟨b, o, none⟩ = some (.string s) ∧ w.cell? ⟨b, o + 1, none⟩ = some (.slice A' n' c') ∧ n' ≤ c' ∧ c' ≤ maxLen ∧ n' = k.len ∧
      ((A' = none ∧ c' = 0 ∧ b1 = [] ∧ k = .nil) ∨ ∃ d b3, A' = some ⟨d, 0, none⟩ ∧ b1 = d :: b3 ∧ RowC w base d c' ∧ OwnR w base d 0 k b3) ∧ OwnR w base b (o + 2) r b2
def OwnL (w : World) (base : Nat) (A : Option Addr) (n c : Nat) (t : Tr) (bs : List Nat) : Prop :=
  n = t.len ∧ ((A = none ∧ c = 0 ∧ bs = [] ∧ t = .nil) ∨ ∃ d b3, A = some ⟨d, 0, none⟩ ∧ bs = d :: b3 ∧ RowC w base d c ∧ OwnR w base d 0 t b3)

theorem Fam.own {w : World} {base : Nat} {R : Option Nat} {G : Gh} (h : Fam w base R G) (hc : ∀ d, Tre G R d → G.Ln d ≤ G.J d) {P : Nat → Prop} : ∀ {t : Tr} {p i m : Nat}, Tre G R p → HoldsP w P (some ⟨p, i * 2, none⟩) m t → i + m = G.Ln p →
    ∃ bs, OwnR w base p (i * 2) t bs ∧ bs.Nodup ∧ ∀ b ∈ bs, Desc G p i b
  | .nil, _, _, _, _, _, _ => ⟨[], rfl, List.nodup_nil, fun _ hb => by cases hb⟩
  | .cons s k r, p, i, m, hp, ⟨b0, o0, e, _, hs, ⟨A', n', c', hcl, hn, hm, hk⟩, m', hm', hr⟩, hl => by
    injection e with e
    injection e with e1 e2
    subst e1; subst e2
    have hi : i < G.J p := by have := hc p hp; omega
    obtain ⟨b2, ho2, hn2, hd2⟩ := Fam.own h hc (t := r) (p := p) (i := i + 1) (m := m') hp (by rw [show (i + 1) * 2 = i * 2 + 2 by omega]; exact hr) (by omega)
    rw [show (i + 1) * 2 = i * 2 + 2 by omega] at ho2
    rcases h.done p i A' n' c' hp hi hcl with ⟨e1, e2, e5⟩ | ⟨d, e1, e2, e5, e3, e4⟩
    · subst e1; subst e2; subst e5
      have hkn : k = .nil := by
        cases k with
        | nil => rfl
        | cons _ _ _ => obtain ⟨_, _, e, _⟩ := hk; cases e
      subst hkn
      exact ⟨b2, ⟨none, 0, 0, [], b2, rfl, hs, hcl, hn, hm, rfl, .inl ⟨rfl, rfl, rfl, rfl⟩, ho2⟩, hn2, fun b hb => (hd2 b hb).less (by omega)⟩
    · subst e1; subst e2; subst e5
      have htd : Tre G R d := .inl (by rw [e3]; simp)
      obtain ⟨b3, ho3, hn3, hd3⟩ := Fam.own h hc (t := k) (p := d) (i := 0) (m := G.Ln d) htd (by simpa using hk) (by omega)
      refine ⟨(d :: b3) ++ b2, ⟨some ⟨d, 0, none⟩, G.Ln d, G.Cp d, d :: b3, b2, rfl, hs, hcl, hn, hm, hk.len, .inr ⟨d, b3, rfl, rfl, h.caps d htd, by simpa using ho3⟩, ho2⟩, ?_, ?_⟩
      · rw [List.cons_append, List.nodup_cons, List.nodup_append]
        refine ⟨fun hb => ?_, hn3, hn2, fun a ha c hc e => ?_⟩
        · rcases List.mem_append.1 hb with hb | hb
          · have := (hd3 d hb).dep; omega
          · exact Desc.not_kid e3 (hd2 d hb)
        · subst e
          exact Desc.apart e3 e4 (hd3 a ha) (hd2 a hc)
      · intro b hb
        rcases List.mem_append.1 hb with hb | hb
        · rcases List.mem_cons.1 hb with rfl | hb
          · exact .one e3 (Nat.le_refl _) e4
          · have : ∀ b, Desc G d 0 b → Desc G p i b := by
              intro b hb
              induction hb with
              | one h1 _ h3 => exact .more h1 h3 (.one e3 (Nat.le_refl _) e4)
              | more h1 h2 _ ih => exact .more h1 h2 ih
            exact this b (hd3 b hb)
        · exact (hd2 b hb).less (by omega)
end Go.Proofs.Ytchoipmfngcdoaa.Cl
