/- Names in order, each once: what sorting and leaving out makes; trees whose edges stand in order. No conditions. -/
import Derived.Test.YtcfaocjgflefmaaNames
namespace Go.Proofs.Ytcfaocjgflefmaa
open Go.RowKit

/-- The names as bytes. -/
def Tr.bn (t : Tr) : List (List UInt8) := t.names.map (·.data.toList)
theorem bn_cons (s : ByteArray) (k r : Tr) : (Tr.cons s k r).bn = s.data.toList :: r.bn := rfl
theorem bn_length (t : Tr) : t.bn.length = t.len := by rw [Tr.bn, List.length_map, names_length]
def Tr.Asc (t : Tr) : Prop := t.bn.Pairwise (· < ·)
theorem bytes_eq {s t : ByteArray} (h : s.toList = t.toList) : s = t := by
  rw [ByteArray.toList_eq, ByteArray.toList_eq] at h
  exact ByteArray.ext (Array.toList_inj.1 h)
theorem less_iff (x y : ByteArray) : Op.bytesLess x.toList y.toList = true ↔ x.data.toList < y.data.toList := by
  rw [Go.Proofs.bytesLess_eq, ByteArray.toList_eq, ByteArray.toList_eq, decide_eq_true_iff]

theorem withT_mem {name : ByteArray} {x : Tr} {y : List UInt8} : ∀ {t : Tr}, y ∈ (t.withT name x).bn → y = name.data.toList ∨ y ∈ t.bn
  | .nil, h => by simp only [Tr.withT, bn_cons, List.mem_cons] at h; exact h
  | .cons s k r, h => by
    unfold Tr.withT at h
    split at h
    · rw [bn_cons, List.mem_cons] at h
      rcases h with rfl | h
      · right; rw [bn_cons]; exact List.mem_cons_self
      · rcases withT_mem h with e | e
        · exact .inl e
        · right; rw [bn_cons]; exact List.mem_cons_of_mem _ e
    · split at h
      · rw [bn_cons, List.mem_cons] at h
        rcases h with e | h
        · exact .inl e
        · right; rw [bn_cons]; exact List.mem_cons_of_mem _ h
      · rw [bn_cons, List.mem_cons] at h
        exact h
theorem withT_asc {name : ByteArray} {x : Tr} : ∀ {t : Tr}, t.Asc → (t.withT name x).Asc
  | .nil, _ => by unfold Tr.Asc; simp [Tr.withT, Tr.bn, Tr.names]
  | .cons s k r, h => by
    unfold Tr.Asc at h
    rw [bn_cons, List.pairwise_cons] at h
    unfold Tr.withT
    split
    · rename_i hl
      unfold Tr.Asc
      rw [bn_cons, List.pairwise_cons]
      refine ⟨fun y hy => ?_, withT_asc (t := r) h.2⟩
      rcases withT_mem hy with rfl | e
      · exact (less_iff _ _).1 hl
      · exact h.1 y e
    · rename_i hl
      split
      · rename_i he
        have he := bytes_eq (beq_iff_eq.1 he)
        subst he
        unfold Tr.Asc
        rw [bn_cons, List.pairwise_cons]
        exact h
      · rename_i he
        have h1 : name.data.toList < s.data.toList := by
          rcases List.le_total s.data.toList name.data.toList with h2 | h2
          · by_cases h3 : name.data.toList ≤ s.data.toList
            · have := List.le_antisymm h2 h3
              rw [← ByteArray.toList_eq, ← ByteArray.toList_eq] at this
              exact absurd (beq_iff_eq.2 this) he
            · exact absurd ((less_iff _ _).2 (by simpa using h3)) hl
          · by_cases h3 : s.data.toList ≤ name.data.toList
            · have := List.le_antisymm h3 h2
              rw [← ByteArray.toList_eq, ← ByteArray.toList_eq] at this
              exact absurd (beq_iff_eq.2 this) he
            · simpa using h3
        unfold Tr.Asc
        rw [bn_cons, bn_cons, List.pairwise_cons, List.pairwise_cons]
        refine ⟨fun y hy => ?_, h⟩
        rcases List.mem_cons.1 hy with rfl | e
        · exact h1
        · exact List.lt_trans h1 (h.1 y e)
theorem makeT_asc (W : Nat) : ∀ (t : Tr) (l d : Nat) (acc : Tr), acc.Asc → (t.makeT W l d acc).Asc
  | .nil, _, _, _, h => by simpa [Tr.makeT] using h
  | .cons s k r, l, d, acc, h => by
    unfold Tr.makeT
    split
    · exact h
    · exact makeT_asc W r _ _ _ (withT_asc h)
theorem nil_asc : Tr.nil.Asc := List.Pairwise.nil
theorem withT_len_le {name : ByteArray} {x t : Tr} : (t.withT name x).len ≤ t.len + 1 := by
  have := withT_len name x t
  omega

theorem atIs_mem {name : ByteArray} : ∀ {t : Tr}, t.Asc → name.data.toList ∈ t.bn → t.atIs name = true
  | .nil, _, h => by simp [Tr.bn, Tr.names] at h
  | .cons s k r, ha, h => by
    unfold Tr.Asc at ha
    rw [bn_cons, List.pairwise_cons] at ha
    rw [bn_cons, List.mem_cons] at h
    unfold Tr.atIs
    by_cases hl : Op.bytesLess s.toList name.toList = true
    · have hlt := (less_iff _ _).1 hl
      simp only [Tr.atN]
      rw [if_pos hl]
      rcases h with e | h
      · rw [e] at hlt
        exact absurd hlt (List.lt_irrefl _)
      · exact atIs_mem (t := r) ha.2 h
    · simp only [Tr.atN]
      rw [if_neg hl]
      rcases h with e | h
      · have e2 : s = name := ByteArray.ext (Array.toList_inj.1 e.symm)
        subst e2
        rw [dropT_zero]
        simp [Tr.headIs]
      · exact absurd ((less_iff _ _).2 (ha.1 _ h)) hl

/-- Of a list in order: what compactUpTo keeps. -/
theorem upTo_facts (zs : List (List UInt8)) (h : zs.Pairwise (· ≤ ·)) : ∀ m, m ≤ zs.length →
    (Go.Lib.compactUpTo zs.toArray m).Pairwise (· < ·) ∧ (∀ x ∈ Go.Lib.compactUpTo zs.toArray m, ∃ j, j < m ∧ x = zs.toArray[j]!) ∧ ∀ j, j < m → zs.toArray[j]! ∈ Go.Lib.compactUpTo zs.toArray m := by
  have hle : ∀ i j, i ≤ j → j < zs.length → zs.toArray[i]! ≤ zs.toArray[j]! := by
    intro i j hij hj
    rw [getElem!_pos _ i (by simp; omega), getElem!_pos _ j (by simpa using hj)]
    simp only [List.getElem_toArray]
    rcases Nat.lt_or_ge i j with g | g
    · exact List.pairwise_iff_getElem.1 h i j (by omega) hj g
    · obtain rfl : i = j := by omega
      exact List.le_refl _
  intro m
  induction m with
  | zero => intro _; exact ⟨by simp [Go.Lib.compactUpTo], by simp [Go.Lib.compactUpTo], by intro j hj; omega⟩
  | succ m ih =>
    intro hm
    obtain ⟨h1, h2, h3⟩ := ih (by omega)
    rw [Go.Lib.compactUpTo_succ]
    by_cases hk : Go.Lib.keeps zs.toArray m = true
    · rw [if_pos hk]
      have hk' := of_decide_eq_true hk
      refine ⟨?_, ?_, ?_⟩
      · rw [List.pairwise_append]
        refine ⟨h1, List.pairwise_singleton _ _, fun x hx y hy => ?_⟩
        obtain ⟨j, hj, rfl⟩ := h2 x hx
        rw [List.mem_singleton] at hy
        subst hy
        rcases hk' with e | e
        · omega
        · have a1 := hle j (m - 1) (by omega) (by omega)
          have a2 := hle (m - 1) m (by omega) (by omega)
          refine List.lt_of_le_of_lt a1 ?_
          by_cases h4 : zs.toArray[m]! ≤ zs.toArray[m - 1]!
          · exact absurd (List.le_antisymm h4 a2) e
          · simpa using h4
      · intro x hx
        rw [List.mem_append, List.mem_singleton] at hx
        rcases hx with hx | rfl
        · obtain ⟨j, hj, e⟩ := h2 x hx
          exact ⟨j, by omega, e⟩
        · exact ⟨m, by omega, rfl⟩
      · intro j hj
        rw [List.mem_append, List.mem_singleton]
        by_cases e : j = m
        · right; rw [e]
        · left; exact h3 j (by omega)
    · rw [if_neg hk, List.append_nil]
      have hk' : ¬ (m = 0 ∨ zs.toArray[m]! ≠ zs.toArray[m - 1]!) := fun e => hk (decide_eq_true e)
      refine ⟨h1, fun x hx => ?_, fun j hj => ?_⟩
      · obtain ⟨j, hj, e⟩ := h2 x hx
        exact ⟨j, by omega, e⟩
      · by_cases e : j = m
        · subst e
          have e1 : zs.toArray[j]! = zs.toArray[j - 1]! := Classical.byContradiction fun h => hk' (.inr h)
          rw [e1]
          exact h3 (j - 1) (by omega)
        · exact h3 j (by omega)
theorem sorted_pair (ss : List (List UInt8)) : (sorted ss).Pairwise (· ≤ ·) :=
  (List.pairwise_mergeSort (le := fun x y => decide (x ≤ y)) (fun a b c h1 h2 => by simp only [decide_eq_true_eq] at *; exact List.le_trans h1 h2) (fun a b => by simp only [Bool.or_eq_true, decide_eq_true_eq]; exact List.le_total a b) ss).imp (fun h => of_decide_eq_true h)
theorem namesOf_pair (L : List ByteArray) : (namesOf L).Pairwise (· < ·) :=
  (upTo_facts _ (sorted_pair _) _ (Nat.le_refl _)).1
theorem namesOf_mem (L : List ByteArray) (x : List UInt8) : x ∈ namesOf L ↔ x ∈ L.map (·.data.toList) := by
  obtain ⟨_, h2, h3⟩ := upTo_facts _ (sorted_pair (L.map (·.data.toList))) _ (Nat.le_refl _)
  have hp : ∀ y, y ∈ sorted (L.map (·.data.toList)) ↔ y ∈ L.map (·.data.toList) := fun y => List.mem_mergeSort
  rw [← hp]
  constructor
  · intro hx
    obtain ⟨j, hj, rfl⟩ := h2 x hx
    rw [getElem!_pos _ j (by simpa using hj)]
    simp
  · intro hx
    obtain ⟨j, hj, rfl⟩ := List.getElem_of_mem hx
    have := h3 j hj
    rw [getElem!_pos _ j (by simpa using hj), List.getElem_toArray] at this
    exact this
theorem len_le {α : Type} [DecidableEq α] : ∀ (l m : List α), l.Nodup → (∀ x ∈ l, x ∈ m) → l.length ≤ m.length
  | [], m, _, _ => Nat.zero_le _
  | a :: l, m, hd, hs => by
    rw [List.nodup_cons] at hd
    have ha := hs a List.mem_cons_self
    have := len_le l (m.erase a) hd.2 (fun x hx => (List.mem_erase_of_ne (fun e => hd.1 (by rw [← e]; exact hx))).2 (hs x (List.mem_cons_of_mem _ hx)))
    rw [List.length_erase_of_mem ha] at this
    have : 0 < m.length := List.length_pos_of_mem ha
    simp only [List.length_cons]
    omega
theorem asc_nodup {l : List (List UInt8)} (h : l.Pairwise (· < ·)) : l.Nodup :=
  h.imp (fun h e => by rw [e] at h; exact List.lt_irrefl _ h)
/-- Two lists in order with the same members are one. -/
theorem asc_eq : ∀ {l m : List (List UInt8)}, l.Pairwise (· < ·) → m.Pairwise (· < ·) → (∀ x, x ∈ l ↔ x ∈ m) → l = m
  | [], [], _, _, _ => rfl
  | [], b :: m, _, _, h => by have := (h b).2 List.mem_cons_self; simp at this
  | a :: l, [], _, _, h => by have := (h a).1 List.mem_cons_self; simp at this
  | a :: l, b :: m, hl, hm, h => by
    rw [List.pairwise_cons] at hl hm
    have e : a = b := by
      have h1 := (h a).1 List.mem_cons_self
      have h2 := (h b).2 List.mem_cons_self
      rw [List.mem_cons] at h1 h2
      rcases h1 with e | h1
      · exact e
      · rcases h2 with e | h2
        · exact e.symm
        · exact absurd (List.lt_trans (hl.1 b h2) (hm.1 a h1)) (List.lt_irrefl _)
    subst e
    rw [asc_eq hl.2 hm.2 (fun x => ?_)]
    have := h x
    rw [List.mem_cons, List.mem_cons] at this
    constructor
    · intro hx
      rcases this.1 (.inr hx) with e | e
      · subst e; exact absurd (hl.1 _ hx) (List.lt_irrefl _)
      · exact e
    · intro hx
      rcases this.2 (.inr hx) with e | e
      · subst e; exact absurd (hm.1 _ hx) (List.lt_irrefl _)
      · exact e
theorem namesOf_asc {t : Tr} (h : t.Asc) : namesOf t.names = t.bn := asc_eq (namesOf_pair _) h (fun x => namesOf_mem _ x)
theorem namesOf_ge (L : List ByteArray) {t : Tr} (h : t.Asc) (hs : ∀ x ∈ t.bn, x ∈ L.map (·.data.toList)) : t.len ≤ (namesOf L).length := by
  rw [← bn_length]
  exact len_le _ _ (asc_nodup h) (fun x hx => (namesOf_mem L x).2 (hs x hx))
theorem namesOf_le (L : List ByteArray) : (namesOf L).length ≤ L.length := by
  have := once_le (sorted (L.map (·.data.toList)))
  rw [sorted_length, List.length_map] at this
  exact this
end Go.Proofs.Ytcfaocjgflefmaa
