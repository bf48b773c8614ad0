/- Paths as texts, and what a text may be read as. No conditions. -/
import Derived.Test.YtclgemkdlgpekaaQuote
namespace Go.Proofs.Ytclgemkdlgpekaa.Re
open Go.RowKit
set_option maxRecDepth 100000

abbrev Bs := List UInt8
/-- The names one behind the other; a path's text. -/
def pathT (p : List ByteArray) : Bs := p.flatMap (fun s => 47 :: quo s.data.toList)
def pathL : List ByteArray → Bs
  | [] => [47]
  | s :: p => pathT (s :: p)
theorem pathT_nil : pathT [] = [] := rfl
theorem pathT_cons (s : ByteArray) (p : List ByteArray) : pathT (s :: p) = 47 :: 34 :: (quoL s.data.toList ++ 34 :: pathT p) := by
  simp [pathT, quo]
theorem pathT_snoc (p : List ByteArray) (s : ByteArray) : pathT (p ++ [s]) = pathT p ++ 47 :: quo s.data.toList := by
  simp [pathT]
theorem pathL_ne {p : List ByteArray} (h : p ≠ []) : pathL p = pathT p := by
  cases p with
  | nil => exact absurd rfl h
  | cons s p => rfl
theorem pathL_snoc (p : List ByteArray) (s : ByteArray) : pathL (p ++ [s]) = pathT p ++ 47 :: quo s.data.toList := by
  rw [pathL_ne (by simp), pathT_snoc]
theorem quo_len (s : ByteArray) : (quo s.data.toList).length ≤ 4 * s.size + 2 := by
  have h := quoL_le s.data.toList
  have e : s.data.toList.length = s.size := by rw [Array.length_toList]; rfl
  rw [e] at h
  simp only [quo, List.length_append, List.length_cons, List.length_nil]
  omega
/-- What the names of a path hold together. -/
def bulk (p : List ByteArray) : Nat := (p.map (fun s => s.size + 1)).sum
theorem bulk_nil : bulk [] = 0 := rfl
theorem bulk_cons (s : ByteArray) (p : List ByteArray) : bulk (s :: p) = s.size + 1 + bulk p := by simp [bulk]
theorem bulk_snoc (s : ByteArray) (p : List ByteArray) : bulk (p ++ [s]) = bulk p + (s.size + 1) := by simp [bulk]
theorem bulk_take {p : List ByteArray} {k : Nat} (h : k < p.length) : bulk (p.take (k + 1)) = bulk (p.take k) + (p[k].size + 1) := by
  rw [List.take_succ_eq_append_getElem h, bulk_snoc]
theorem bulk_take_le (p : List ByteArray) (k : Nat) : bulk (p.take k) ≤ bulk p := by
  have : bulk p = bulk (p.take k) + bulk (p.drop k) := by
    simp only [bulk]
    rw [← List.sum_append, ← List.map_append, List.take_append_drop]
  omega
theorem len_bulk (p : List ByteArray) : p.length ≤ bulk p := by
  induction p with
  | nil => exact Nat.le_refl _
  | cons s p ih => rw [bulk_cons, List.length_cons]; omega
theorem mem_bulk {p : List ByteArray} {s : ByteArray} (h : s ∈ p) : s.size + 1 ≤ bulk p := by
  induction p with
  | nil => cases h
  | cons x p ih =>
    rw [bulk_cons]
    rcases List.mem_cons.1 h with rfl | h
    · omega
    · have := ih h; omega
theorem pathT_len (p : List ByteArray) : (pathT p).length ≤ 4 * bulk p := by
  induction p with
  | nil => simp [pathT]
  | cons s p ih =>
    have h := quo_len s
    rw [bulk_cons]
    simp only [pathT, List.flatMap_cons, List.length_append, List.length_cons] at ih ⊢
    omega
theorem pathL_len (p : List ByteArray) : (pathL p).length ≤ 4 * bulk p + 1 := by
  cases p with
  | nil => simp [pathL]
  | cons s p => have := pathT_len (s :: p); exact Nat.le_succ_of_le this

/-- How a byte is quoted. -/
theorem quoB_sorts (c : UInt8) : (quoB c = [92, c] ∧ (c = 34 ∨ c = 92)) ∨ (∃ a b : Nat, a < 16 ∧ b < 16 ∧ c.toNat = 16 * a + b ∧ quoB c = [92, 120, dig16 a, dig16 b]) ∨ (quoB c = [c] ∧ c ≠ 34 ∧ c ≠ 92 ∧ 32 ≤ c.toNat ∧ c.toNat ≤ 126) := by
  have hc := c.toNat_lt
  unfold quoB
  by_cases h1 : c.toNat = 34 ∨ c.toNat = 92
  · rw [if_pos h1]
    refine .inl ⟨rfl, ?_⟩
    rcases h1 with h1 | h1
    · exact .inl (UInt8.toNat_inj.1 h1)
    · exact .inr (UInt8.toNat_inj.1 h1)
  · rw [if_neg h1]
    by_cases h2 : c.toNat < 32 ∨ 126 < c.toNat
    · rw [if_pos h2]
      exact .inr (.inl ⟨c.toNat / 16, c.toNat % 16, by omega, by omega, by omega, rfl⟩)
    · rw [if_neg h2]
      refine .inr (.inr ⟨rfl, fun e => h1 (.inl (by rw [e]; rfl)), fun e => h1 (.inr (by rw [e]; rfl)), by omega, by omega⟩)
theorem dig16_lt : ∀ d, d < 16 → (dig16 d).toNat < 128 := by decide
theorem quoB_ascii (c : UInt8) : ∀ u ∈ quoB c, u.toNat < 128 := by
  intro u hu
  rcases quoB_sorts c with ⟨e, h⟩ | ⟨a, b, ha, hb, _, e⟩ | ⟨e, _, _, _, h⟩
  · rw [e] at hu
    simp only [List.mem_cons, List.not_mem_nil, or_false] at hu
    rcases hu with rfl | rfl
    · decide
    · rcases h with rfl | rfl <;> decide
  · rw [e] at hu
    simp only [List.mem_cons, List.not_mem_nil, or_false] at hu
    rcases hu with rfl | rfl | rfl | rfl
    · decide
    · decide
    · exact dig16_lt a ha
    · exact dig16_lt b hb
  · rw [e] at hu
    simp only [List.mem_cons, List.not_mem_nil, or_false] at hu
    subst hu
    omega
theorem quoL_ascii (l : Bs) : ∀ u ∈ quoL l, u.toNat < 128 := by
  intro u hu
  obtain ⟨c, _, hc⟩ := List.mem_flatMap.1 hu
  exact quoB_ascii c u hc
theorem pathT_ascii (p : List ByteArray) : ∀ u ∈ pathT p, u.toNat < 128 := by
  induction p with
  | nil => intro u hu; cases hu
  | cons s p ih =>
    intro u hu
    rw [pathT_cons] at hu
    simp only [List.mem_cons, List.mem_append] at hu
    rcases hu with rfl | rfl | hu | rfl | hu
    · decide
    · decide
    · exact quoL_ascii _ u hu
    · decide
    · exact ih u hu
theorem pathL_ascii (p : List ByteArray) : ∀ u ∈ pathL p, u.toNat < 128 := by
  cases p with
  | nil => intro u hu; simp only [pathL, List.mem_cons, List.not_mem_nil, or_false] at hu; subst hu; decide
  | cons s p => exact pathT_ascii (s :: p)

/-- A text's bytes as runes. -/
def nats (l : Bs) : List Nat := l.map UInt8.toNat
theorem nats_append (a b : Bs) : nats (a ++ b) = nats a ++ nats b := by simp [nats]
theorem nats_cons (a : UInt8) (b : Bs) : nats (a :: b) = a.toNat :: nats b := rfl

/-- The first sign of a quoted byte is no quote. -/
theorem quoB_head (c : UInt8) : ∃ h t, quoB c = h :: t ∧ h ≠ 34 := by
  rcases quoB_sorts c with ⟨e, _⟩ | ⟨a, b, _, _, _, e⟩ | ⟨e, h, _⟩
  · exact ⟨_, _, e, by decide⟩
  · exact ⟨_, _, e, by decide⟩
  · exact ⟨_, _, e, h⟩
/-- Two quoted names are alike just where the names are: what is behind, too. -/
theorem dig16_inj : ∀ a, a < 16 → ∀ b, b < 16 → dig16 a = dig16 b → a = b := by decide
theorem quoB_inj {c d : UInt8} {x y : Bs} (h : quoB c ++ x = quoB d ++ y) : c = d ∧ x = y := by
  rcases quoB_sorts c with ⟨e, h1⟩ | ⟨a, b, ha, hb, hab, e⟩ | ⟨e, h1, h2, _⟩ <;> rcases quoB_sorts d with ⟨e', h1'⟩ | ⟨a', b', ha', hb', hab', e'⟩ | ⟨e', h1', h2', _⟩
  all_goals
    rw [e, e'] at h
    simp only [List.cons_append, List.nil_append, List.cons.injEq] at h
  · exact ⟨h.2.1, h.2.2⟩
  · exfalso; rcases h1 with rfl | rfl <;> exact absurd h.2.1 (by decide)
  · exact absurd h.1.symm h2'
  · exfalso; rcases h1' with rfl | rfl <;> exact absurd h.2.1 (by decide)
  · have h3 := dig16_inj a ha a' ha' h.2.2.1
    have h4 := dig16_inj b hb b' hb' h.2.2.2.1
    exact ⟨UInt8.toNat_inj.1 (by omega), h.2.2.2.2⟩
  · exact absurd h.1.symm h2'
  · exact absurd h.1 h2
  · exact absurd h.1 h2
  · exact ⟨h.1, h.2⟩
theorem quoL_inj : ∀ {l m x y : Bs}, quoL l ++ 34 :: x = quoL m ++ 34 :: y → l = m ∧ x = y
  | [], [], x, y, h => by simpa [quoL] using h
  | [], d :: m, x, y, h => by
    obtain ⟨g, t, e, hg⟩ := quoB_head d
    simp only [quoL, List.flatMap_nil, List.flatMap_cons, e, List.nil_append, List.cons_append, List.cons.injEq] at h
    exact absurd h.1.symm hg
  | c :: l, [], x, y, h => by
    obtain ⟨g, t, e, hg⟩ := quoB_head c
    simp only [quoL, List.flatMap_nil, List.flatMap_cons, e, List.nil_append, List.cons_append, List.cons.injEq] at h
    exact absurd h.1 hg
  | c :: l, d :: m, x, y, h => by
    simp only [quoL, List.flatMap_cons, List.append_assoc] at h
    obtain ⟨rfl, h2⟩ := quoB_inj h
    obtain ⟨rfl, h3⟩ := quoL_inj (l := l) (m := m) h2
    exact ⟨rfl, h3⟩
theorem ba_eq {a b : ByteArray} (h : a.data.toList = b.data.toList) : a = b := by
  cases a; cases b
  simp only at h
  congr
  exact Array.toList_inj.1 h
theorem pathT_inj : ∀ {p q : List ByteArray}, pathT p = pathT q → p = q
  | [], [], _ => rfl
  | [], s :: q, h => by rw [pathT_cons, pathT_nil] at h; cases h
  | s :: p, [], h => by rw [pathT_cons, pathT_nil] at h; cases h
  | s :: p, r :: q, h => by
    rw [pathT_cons, pathT_cons] at h
    simp only [List.cons.injEq, true_and] at h
    obtain ⟨h1, h2⟩ := quoL_inj h
    rw [ba_eq h1, pathT_inj h2]
theorem pathL_inj {p q : List ByteArray} (h : pathL p = pathL q) : p = q := by
  cases p with
  | nil =>
    cases q with
    | nil => rfl
    | cons s q => rw [pathL_ne (p := s :: q) (by simp), pathT_cons, pathL] at h; simp at h
  | cons r p =>
    cases q with
    | nil => rw [pathL_ne (p := r :: p) (by simp), pathT_cons, pathL] at h; simp at h
    | cons s q => exact pathT_inj h

/-- What a text is read as: too long; a path's; none. -/
def Ans (s : Bs) (q : List ByteArray) (e : Int) : Prop :=
  (4000 < s.length ∧ q = [] ∧ e = 5) ∨ (s.length ≤ 4000 ∧ ((pathL q = s ∧ e = 0) ∨ (q = [] ∧ e = 10 ∧ ∀ p, pathL p ≠ s)))
theorem Ans.same {s : Bs} {q r : List ByteArray} {e f : Int} (h : Ans s q e) (k : Ans s r f) : q = r ∧ e = f := by
  rcases h with ⟨h1, h2, h3⟩ | ⟨h1, ⟨h2, h3⟩ | ⟨h2, h3, h4⟩⟩ <;> rcases k with ⟨k1, k2, k3⟩ | ⟨k1, ⟨k2, k3⟩ | ⟨k2, k3, k4⟩⟩
  · exact ⟨h2.trans k2.symm, h3.trans k3.symm⟩
  · omega
  · omega
  · omega
  · exact ⟨pathL_inj (h2.trans k2.symm), h3.trans k3.symm⟩
  · exact absurd h2 (k4 _)
  · omega
  · exact absurd k2 (h4 _)
  · exact ⟨h2.trans k2.symm, h3.trans k3.symm⟩
theorem Ans.back {p q : List ByteArray} {e : Int} (h : Ans (pathL p) q e) (hl : (pathL p).length ≤ 4000) : q = p ∧ e = 0 :=
  h.same (.inr ⟨hl, .inl ⟨rfl, rfl⟩⟩)
/-- Few names: a short text. -/
theorem bulk_few {p : List ByteArray} (hl : p.length ≤ 12) (h : ∀ s ∈ p, s.size ≤ 60) : bulk p ≤ 732 := by
  have main : ∀ (p : List ByteArray), (∀ s ∈ p, s.size ≤ 60) → bulk p ≤ 61 * p.length := by
    intro p
    induction p with
    | nil => intro _; exact Nat.le_refl _
    | cons s p ih =>
      intro h
      have h1 := h s (List.mem_cons_self ..)
      have h2 := ih fun x hx => h x (List.mem_cons_of_mem _ hx)
      rw [bulk_cons, List.length_cons]
      omega
  have := main p h
  omega
end Go.Proofs.Ytclgemkdlgpekaa.Re
