/- csv: the fields of a line, read from the left, one behind the other: as parted by widths. No conditions. -/
import Derived.Test.YtlcbhooiinaalaaGreatDoorMwLiRow
import Derived.Lib.Replace
import Derived.Lib.CountLaws
namespace Go.Proofs.YtlcbhooiinaalaaGreatDoor.Cv
open Go.RowKit Go.Proofs.YtlcbhooiinaalaaGreatDoor.Jd Go.Proofs.YtlcbhooiinaalaaGreatDoor.Li
set_option maxRecDepth 100000

/-- Pairs of quotes written over by this, from the left. -/
def rp (x : List UInt8) : List UInt8 → List UInt8
  | [] => []
  | [c] => [c]
  | c :: d :: r => if c = 34 ∧ d = 34 then x ++ rp x r else c :: rp x (d :: r)
theorem rp_pair (x r : List UInt8) : rp x (34 :: 34 :: r) = x ++ rp x r := by rw [rp, if_pos ⟨rfl, rfl⟩]
theorem rp_other (x r : List UInt8) {c : UInt8} (h : c ≠ 34) : rp x (c :: r) = c :: rp x r := by
  cases r with
  | nil => rfl
  | cons d r => rw [rp, if_neg (fun e => h e.1)]
theorem rp_lone (x r : List UInt8) {c : UInt8} (h : c ≠ 34) : rp x (34 :: c :: r) = 34 :: rp x (c :: r) := by rw [rp, if_neg (fun e => h e.2)]
theorem rp_miss (x : List UInt8) : ∀ s : List UInt8, Lib.index s [34, 34] = -1 → rp x s = s
  | [], _ => rfl
  | [c], _ => rfl
  | c :: d :: r, h => by
    rw [Lib.index] at h
    split at h
    · exact absurd h (by decide)
    · rename_i hp
      have h2 : Lib.index (d :: r) [34, 34] = -1 := by
        split at h
        · rename_i e; exact beq_iff_eq.1 e
        · rename_i e
          have := Lib.index_ge (d :: r) [34, 34]
          have : Lib.index (d :: r) [34, 34] ≠ -1 := fun e2 => e (beq_iff_eq.2 e2)
          omega
      rw [rp, if_neg (fun e => hp (by rw [e.1, e.2]; rfl)), rp_miss x (d :: r) h2]
theorem rp_hit (x : List UInt8) : ∀ (s : List UInt8) (i : Nat), Lib.index s [34, 34] = i → rp x s = s.take i ++ x ++ rp x (s.drop (i + 2))
  | [], i, h => by simp [Lib.index] at h
  | [c], i, h => by
    simp [Lib.index] at h
  | c :: d :: r, i, h => by
    rw [Lib.index] at h
    split at h
    · rename_i hp
      have hp' : c = 34 ∧ d = 34 := by
        have h1 : ((34 == c) && ((34 == d) && true)) = true := by simpa [List.isPrefixOf] using hp
        rw [Bool.and_eq_true, Bool.and_eq_true] at h1
        exact ⟨(beq_iff_eq.1 h1.1).symm, (beq_iff_eq.1 h1.2.1).symm⟩
      obtain rfl : i = 0 := by omega
      rw [rp, if_pos hp']
      rfl
    · rename_i hp
      split at h
      · omega
      · rename_i e
        obtain ⟨j, rfl⟩ : ∃ j, i = j + 1 := by
          cases i with
          | zero => exact absurd h (by have := Lib.index_ge (d :: r) [34, 34]; have : Lib.index (d :: r) [34, 34] ≠ -1 := fun e2 => e (beq_iff_eq.2 e2); omega)
          | succ j => exact ⟨j, rfl⟩
        rw [rp, if_neg (fun e => hp (by rw [e.1, e.2]; rfl)), rp_hit x (d :: r) j (by omega)]
        rfl
theorem replaceK_rp (x : List UInt8) : ∀ (n : Nat) (s : List UInt8), s.length ≤ n → Lib.replaceK [34, 34] x (Lib.count s [34, 34]) s = rp x s := by
  intro n
  induction n with
  | zero =>
    intro s h
    obtain rfl : s = [] := List.eq_nil_of_length_eq_zero (by omega)
    rw [Lib.count_miss (by rfl)]
    rfl
  | succ n ih =>
    intro s h
    by_cases hm : Lib.index s [34, 34] = -1
    · rw [Lib.count_miss hm, rp_miss x s hm]
      rfl
    · obtain ⟨i, hi⟩ : ∃ i : Nat, Lib.index s [34, 34] = i := ⟨(Lib.index s [34, 34]).toNat, by have := Lib.index_ge s [34, 34]; omega⟩
      have hc := Lib.count_hit (sub := [34, 34]) (by simp) hi
      rw [hc, Nat.add_comm, Lib.replaceK_hit _ _ _ _ _ hi, rp_hit x s i hi]
      simp only [List.length_cons, List.length_nil, Nat.zero_add, Nat.reduceAdd]
      have hs : s ≠ [] := fun e => hm (by rw [e]; rfl)
      have hl : 0 < s.length := List.length_pos_iff.2 hs
      rw [ih (s.drop (i + 2)) (by rw [List.length_drop]; omega)]
theorem replaceAll_rp (x s : List UInt8) (hx : ([34, 34] == x) = false) : Lib.replaceAll s [34, 34] x = rp x s := by
  unfold Lib.replaceAll Lib.replace
  rw [hx, if_neg (by decide), Lib.replaceNum, if_pos (.inl (by decide)), replaceK_rp x _ s (Nat.le_refl _)]
theorem indexByte_mem (c : UInt8) : ∀ l : List UInt8, decide (0 ≤ Lib.indexByte l c) = l.contains c
  | [] => rfl
  | b :: l => by
    have ih := indexByte_mem c l
    have hg := Lib.indexByte_ge l c
    rw [Lib.indexByte, List.contains_cons]
    by_cases hb : b = c
    · subst hb; simp
    · have e1 : (b == c) = false := beq_eq_false_iff_ne.2 hb
      have e2 : (c == b) = false := beq_eq_false_iff_ne.2 (fun e => hb e.symm)
      rw [if_neg (by rw [e1]; decide), e2, Bool.false_or, ← ih]
      by_cases hm : Lib.indexByte l c = -1
      · rw [if_pos (beq_iff_eq.2 hm), hm]
      · rw [if_neg (fun e => hm (beq_iff_eq.1 e))]
        rw [decide_eq_true (by omega), decide_eq_true (by omega)]
/-- Behind an opening quote: what it means, and how many bytes to behind the closing one. -/
def qin : Bs → Option (Bs × Nat)
  | [] => none
  | [c] => if c = 34 then some ([], 1) else none
  | c :: d :: r => if c = 34 then (if d = 34 then (qin r).map (fun p => (34 :: p.1, p.2 + 2)) else if d = 44 then some ([], 1) else none) else (qin (d :: r)).map (fun p => (c :: p.1, p.2 + 1))
/-- A field without quotes. -/
def pln : Bs → Option Nat
  | [] => some 0
  | c :: r => if c = 44 then some 0 else if c = 34 then none else (pln r).map (· + 1)
/-- The first field: what it means, its width. -/
def oneF : Bs → Option (Bs × Nat)
  | [] => some ([], 0)
  | c :: r => if c = 34 then (qin r).map (fun p => (p.1, p.2 + 1)) else (pln (c :: r)).map (fun n => ((c :: r).take n, n))
theorem qin_other {c : UInt8} (h : c ≠ 34) (r : Bs) : qin (c :: r) = (qin r).map (fun p => (c :: p.1, p.2 + 1)) := by
  cases r with
  | nil => show qin [c] = none; rw [qin, if_neg h]
  | cons d r => rw [qin, if_neg h]
theorem wid_other {c : UInt8} (h : c ≠ 34) (r : Bs) : wid true (c :: r) = wid true r + 1 := by rw [wid, if_neg h, if_neg (by simp)]
theorem qin_some : ∀ (r v : Bs) (n : Nat), qin r = some (v, n) → n = wid true r ∧ ∃ Q, r.take n = Q ++ [34] ∧ (rp [] Q).contains 34 = false ∧ rp [34] Q = v
  | [], _, _, h => by simp [qin] at h
  | [c], v, n, h => by
    rw [qin] at h
    split at h
    · rename_i hc
      injection h with h
      injection h with h1 h2
      subst h1; subst h2; subst hc
      exact ⟨by simp [wid], [], rfl, rfl, rfl⟩
    · cases h
  | c :: d :: r, v, n, h => by
    rw [qin] at h
    split at h
    · rename_i hc
      subst hc
      split at h
      · rename_i hd
        subst hd
        cases hq : qin r with
        | none => rw [hq] at h; cases h
        | some p =>
          rw [hq] at h
          injection h with h
          injection h with h1 h2
          obtain ⟨a, Q, b1, b2, b3⟩ := qin_some r p.1 p.2 hq
          subst h1; subst h2
          refine ⟨by rw [wid, if_pos rfl, wid, if_pos rfl, a]; rfl, 34 :: 34 :: Q, ?_, ?_, ?_⟩
          · rw [List.take_succ_cons, List.take_succ_cons, b1]; rfl
          · rw [rp_pair]; exact b2
          · rw [rp_pair, b3]; rfl
      · rename_i hd
        split at h
        · rename_i hd2
          subst hd2
          injection h with h
          injection h with h1 h2
          subst h1; subst h2
          exact ⟨by simp [wid], [], rfl, rfl, rfl⟩
        · cases h
    · rename_i hc
      cases hq : qin (d :: r) with
      | none => rw [hq] at h; cases h
      | some p =>
        rw [hq] at h
        injection h with h
        injection h with h1 h2
        obtain ⟨a, Q, b1, b2, b3⟩ := qin_some (d :: r) p.1 p.2 hq
        subst h1; subst h2
        refine ⟨by rw [wid_other hc, a], c :: Q, ?_, ?_, ?_⟩
        · rw [List.take_succ_cons, b1]; rfl
        · rw [rp_other _ _ hc, List.contains_cons, b2, beq_eq_false_iff_ne.2 (fun e => hc e.symm)]; rfl
        · rw [rp_other _ _ hc, b3]
theorem tail_end {c : UInt8} {P Q : Bs} (hc : c ≠ 34) (h : c :: P = Q ++ [34]) : ∃ Q', Q = c :: Q' ∧ P = Q' ++ [34] := by
  cases Q with
  | nil => simp at h; exact absurd h.1 hc
  | cons q Q =>
    injection h with h1 h2
    exact ⟨Q, by rw [h1], h2⟩
theorem qin_none : ∀ (r : Bs), qin r = none → ∀ Q, r.take (wid true r) = Q ++ [34] → (rp [] Q).contains 34 = true
  | [], _, Q, h => by simp at h
  | [c], hn, Q, h => by
    rw [qin] at hn
    split at hn
    · cases hn
    · rename_i hc
      rw [wid_other hc] at h
      obtain ⟨Q', _, h2⟩ := tail_end hc (P := []) (by simpa [wid] using h)
      simp at h2
  | c :: d :: r, hn, Q, h => by
    rw [qin] at hn
    split at hn
    · rename_i hc
      subst hc
      split at hn
      · rename_i hd
        subst hd
        have hq : qin r = none := by simpa using hn
        rw [wid, if_pos rfl, wid, if_pos rfl, List.take_succ_cons, List.take_succ_cons] at h
        cases Q with
        | nil => simp at h
        | cons q Q =>
          injection h with h1 h2
          subst h1
          cases Q with
          | nil => rfl
          | cons q Q =>
            injection h2 with h2 h3
            subst h2
            rw [rp_pair]
            exact qin_none r hq Q h3
      · rename_i hd
        split at hn
        · cases hn
        · rename_i hd2
          rw [wid, if_pos rfl, wid, if_neg hd, if_neg (fun e => hd2 e.1), List.take_succ_cons, List.take_succ_cons] at h
          cases Q with
          | nil => simp at h
          | cons q Q =>
            injection h with h1 h2
            subst h1
            obtain ⟨Q', e, _⟩ := tail_end hd h2
            subst e
            rw [rp_lone _ _ hd, List.contains_cons]
            simp
    · rename_i hc
      have hq : qin (d :: r) = none := by simpa using hn
      rw [wid_other hc, List.take_succ_cons] at h
      obtain ⟨Q', e, h2⟩ := tail_end hc h
      subst e
      rw [rp_other _ _ hc, List.contains_cons, qin_none (d :: r) hq Q' h2]
      simp
theorem pln_some : ∀ (l : Bs) (n : Nat), pln l = some n → n = wid false l ∧ (l.take n).contains 34 = false
  | [], n, h => by injection h with h; subst h; exact ⟨rfl, rfl⟩
  | c :: r, n, h => by
    rw [pln] at h
    split at h
    · rename_i hc
      injection h with h
      subst h; subst hc
      exact ⟨by simp [wid], rfl⟩
    · rename_i hc
      split at h
      · cases h
      · rename_i hd
        cases hq : pln r with
        | none => rw [hq] at h; cases h
        | some p =>
          rw [hq] at h
          injection h with h
          obtain ⟨a, b⟩ := pln_some r p hq
          subst h
          exact ⟨by rw [wid, if_neg hd, if_neg (fun e => hc e.1), a], by rw [List.take_succ_cons, List.contains_cons, b, beq_eq_false_iff_ne.2 (fun e => hd e.symm)]; rfl⟩
theorem pln_none : ∀ (l : Bs), pln l = none → (l.take (wid false l)).contains 34 = true
  | [], h => by cases h
  | c :: r, h => by
    rw [pln] at h
    split at h
    · cases h
    · rename_i hc
      split at h
      · rename_i hd
        subst hd
        rw [wid, if_pos rfl, List.take_succ_cons, List.contains_cons]
        rfl
      · rename_i hd
        have hq : pln r = none := by simpa using h
        rw [wid, if_neg hd, if_neg (fun e => hc e.1), List.take_succ_cons, List.contains_cons, pln_none r hq]
        simp
theorem unq_nil : unq [] = ([], true) := rfl
theorem unq_plain {c : UInt8} (h : c ≠ 34) (P : Bs) : unq (c :: P) = (c :: P, !((c :: P).contains 34)) := by
  unfold unq
  rw [if_pos (by simpa [Lib.hasPrefix, List.isPrefixOf] using fun e : (34 : UInt8) = c => h e.symm), indexByte_mem]
theorem hasSuffix_end (Q : Bs) : Lib.hasSuffix (Q ++ [34]) [34] = true := by
  rw [Lib.hasSuffix, List.isSuffixOf_iff_suffix]
  exact ⟨Q, rfl⟩
theorem unq_quoted (Q : Bs) : unq (34 :: (Q ++ [34])) = if (rp [] Q).contains 34 = true then ([], false) else (rp [34] Q, true) := by
  have e1 : Lib.trimPrefix (34 :: (Q ++ [34])) [34] = Q ++ [34] := by
    unfold Lib.trimPrefix
    rw [if_pos (by simp [Lib.hasPrefix, List.isPrefixOf])]
    rfl
  have e2 : Lib.trimSuffix (Q ++ [34]) [34] = Q := by
    unfold Lib.trimSuffix
    rw [if_pos (hasSuffix_end Q)]
    simp
  unfold unq
  rw [if_neg (by simp [Lib.hasPrefix, List.isPrefixOf]), e1, if_neg (by rw [hasSuffix_end]; decide), e2, indexByte_mem, replaceAll_rp _ _ (by decide), replaceAll_rp _ _ (by decide)]
theorem unq_open {P : Bs} (h : ∀ Q, P = Q ++ [34] → (rp [] Q).contains 34 = true) : (unq (34 :: P)).2 = false := by
  by_cases hs : Lib.hasSuffix P [34] = true
  · rw [Lib.hasSuffix, List.isSuffixOf_iff_suffix] at hs
    obtain ⟨Q, hQ⟩ := hs
    subst hQ
    rw [unq_quoted, if_pos (h Q rfl)]
  · have e1 : Lib.trimPrefix (34 :: P) [34] = P := by
      unfold Lib.trimPrefix
      rw [if_pos (by simp [Lib.hasPrefix, List.isPrefixOf])]
      rfl
    unfold unq
    rw [if_neg (by simp [Lib.hasPrefix, List.isPrefixOf]), e1, if_pos (by simpa using hs)]
theorem one_some {l v : Bs} {n : Nat} (h : oneF l = some (v, n)) : n = wid false l ∧ unq (l.take n) = (v, true) := by
  cases l with
  | nil =>
    injection h with h
    injection h with h1 h2
    subst h1; subst h2
    exact ⟨rfl, rfl⟩
  | cons c r =>
    rw [oneF] at h
    split at h
    · rename_i hc
      subst hc
      cases hq : qin r with
      | none => rw [hq] at h; cases h
      | some p =>
        rw [hq] at h
        injection h with h
        injection h with h1 h2
        obtain ⟨a, Q, b1, b2, b3⟩ := qin_some r p.1 p.2 hq
        subst h1; subst h2
        refine ⟨by rw [wid, if_pos rfl, a]; rfl, ?_⟩
        rw [List.take_succ_cons, b1, unq_quoted, if_neg (by rw [b2]; decide), b3]
    · rename_i hc
      cases hq : pln (c :: r) with
      | none => rw [hq] at h; cases h
      | some p =>
        rw [hq] at h
        injection h with h
        injection h with h1 h2
        obtain ⟨a, b⟩ := pln_some _ _ hq
        subst h1; subst h2
        refine ⟨a, ?_⟩
        cases p with
        | zero => rfl
        | succ p =>
          rw [List.take_succ_cons] at b ⊢
          rw [unq_plain hc, b]; rfl
theorem one_none {l : Bs} (h : oneF l = none) : (unq (l.take (wid false l))).2 = false := by
  cases l with
  | nil => cases h
  | cons c r =>
    rw [oneF] at h
    split at h
    · rename_i hc
      subst hc
      have hq : qin r = none := by simpa using h
      rw [wid, if_pos rfl, List.take_succ_cons]
      exact unq_open (qin_none r hq)
    · rename_i hc
      have hq : pln (c :: r) = none := by simpa using h
      have hn := pln_none _ hq
      cases hw : wid false (c :: r) with
      | zero => rw [hw] at hn; simp at hn
      | succ k =>
        rw [hw] at hn
        rw [List.take_succ_cons] at hn ⊢
        rw [unq_plain hc, hn]; rfl
/-- A line's fields, one behind the other. -/
def fldsR : Nat → Bs → Option (List Ln)
  | 0, _ => none
  | F + 1, l => match oneF l with
    | none => none
    | some (v, n) => if l.length ≤ n then some [(l.take n, v)] else (fldsR F (l.drop (n + 1))).map (fun r => (l.take n, v) :: r)
theorem fldsR_eq : ∀ (F : Nat) (l : Bs), fldsR F l = flds F l
  | 0, _ => rfl
  | F + 1, l => by
    rw [fldsR, flds]
    cases h : oneF l with
    | none => rw [if_pos (one_none h)]
    | some p =>
      obtain ⟨a, b⟩ := one_some h
      have hw := wid_le l false
      rw [a] at b
      rw [b]
      simp only [Bool.true_eq_false, if_false]
      rw [a]
      by_cases hl : wid false l = l.length
      · rw [if_pos (by omega), if_pos hl]
      · rw [if_neg (by omega), if_neg hl, fldsR_eq F]

theorem pln_sep : ∀ (l : Bs) (n : Nat), pln l = some n → n < l.length → l[n]? = some 44
  | [], n, _, hl => by simp at hl
  | c :: r, n, h, hl => by
    rw [pln] at h
    split at h
    · rename_i hc
      injection h with h
      subst h; subst hc; rfl
    · split at h
      · cases h
      · cases hq : pln r with
        | none => rw [hq] at h; cases h
        | some p =>
          rw [hq] at h
          injection h with h
          subst h
          exact pln_sep r p hq (by simpa using hl)
theorem qin_sep : ∀ (r v : Bs) (n : Nat), qin r = some (v, n) → n < r.length → r[n]? = some 44
  | [], _, _, h, _ => by simp [qin] at h
  | [c], v, n, h, hl => by
    rw [qin] at h
    split at h
    · injection h with h
      injection h with h1 h2
      subst h2
      simp at hl
    · cases h
  | c :: d :: r, v, n, h, hl => by
    rw [qin] at h
    split at h
    · split at h
      · cases hq : qin r with
        | none => rw [hq] at h; cases h
        | some p =>
          rw [hq] at h
          injection h with h
          injection h with h1 h2
          subst h2
          simp only [List.length_cons] at hl
          exact qin_sep r p.1 p.2 hq (by omega)
      · split at h
        · rename_i hd2
          subst hd2
          injection h with h
          injection h with h1 h2
          subst h2
          rfl
        · cases h
    · cases hq : qin (d :: r) with
      | none => rw [hq] at h; cases h
      | some p =>
        rw [hq] at h
        injection h with h
        injection h with h1 h2
        subst h2
        simp only [List.length_cons] at hl
        exact qin_sep (d :: r) p.1 p.2 hq (by simp only [List.length_cons]; omega)
theorem one_sep {l v : Bs} {n : Nat} (h : oneF l = some (v, n)) (hl : n < l.length) : l[n]? = some 44 := by
  cases l with
  | nil => simp at hl
  | cons c r =>
    rw [oneF] at h
    split at h
    · cases hq : qin r with
      | none => rw [hq] at h; cases h
      | some p =>
        rw [hq] at h
        injection h with h
        injection h with h1 h2
        subst h2
        simp only [List.length_cons] at hl
        exact qin_sep r p.1 p.2 hq (by omega)
    · cases hq : pln (c :: r) with
      | none => rw [hq] at h; cases h
      | some p =>
        rw [hq] at h
        injection h with h
        injection h with h1 h2
        subst h2
        exact pln_sep _ _ hq hl
theorem qin_13 : ∀ (r v : Bs) (n : Nat), qin r = some (v, n) → (13 : UInt8) ∈ r.take n → (13 : UInt8) ∈ v
  | [], _, _, h, _ => by simp [qin] at h
  | [c], v, n, h, hl => by
    rw [qin] at h
    split at h
    · rename_i hc
      injection h with h
      injection h with h1 h2
      subst h2; subst hc
      simp at hl
    · cases h
  | c :: d :: r, v, n, h, hl => by
    rw [qin] at h
    split at h
    · rename_i hc
      subst hc
      split at h
      · rename_i hd
        subst hd
        cases hq : qin r with
        | none => rw [hq] at h; cases h
        | some p =>
          rw [hq] at h
          injection h with h
          injection h with h1 h2
          subst h1; subst h2
          rw [List.take_succ_cons, List.take_succ_cons] at hl
          refine List.mem_cons_of_mem _ (qin_13 r p.1 p.2 hq ?_)
          simpa using hl
      · split at h
        · injection h with h
          injection h with h1 h2
          subst h2
          simp at hl
        · cases h
    · cases hq : qin (d :: r) with
      | none => rw [hq] at h; cases h
      | some p =>
        rw [hq] at h
        injection h with h
        injection h with h1 h2
        subst h1; subst h2
        rw [List.take_succ_cons] at hl
        rcases List.mem_cons.1 hl with e | e
        · rw [e]; exact List.mem_cons_self ..
        · exact List.mem_cons_of_mem _ (qin_13 (d :: r) p.1 p.2 hq e)
theorem one_13 {l v : Bs} {n : Nat} (h : oneF l = some (v, n)) (h13 : (13 : UInt8) ∈ l.take n) : (13 : UInt8) ∈ v := by
  cases l with
  | nil => simp at h13
  | cons c r =>
    rw [oneF] at h
    split at h
    · rename_i hc
      subst hc
      cases hq : qin r with
      | none => rw [hq] at h; cases h
      | some p =>
        rw [hq] at h
        injection h with h
        injection h with h1 h2
        subst h1; subst h2
        rw [List.take_succ_cons] at h13
        exact qin_13 r p.1 p.2 hq (by simpa using h13)
    · cases hq : pln (c :: r) with
      | none => rw [hq] at h; cases h
      | some p =>
        rw [hq] at h
        injection h with h
        injection h with h1 h2
        subst h1; subst h2
        exact h13
theorem flds_13 : ∀ (F : Nat) (l : Bs) (fs : List Ln), fldsR F l = some fs → (13 : UInt8) ∈ l → ∃ x ∈ fs, (13 : UInt8) ∈ x.2
  | 0, _, _, h, _ => by cases h
  | F + 1, l, fs, h, h13 => by
    rw [fldsR] at h
    cases ho : oneF l with
    | none => rw [ho] at h; cases h
    | some p =>
      obtain ⟨v, n⟩ := p
      rw [ho] at h
      simp only at h
      split at h
      · rename_i hl
        injection h with h
        subst h
        exact ⟨_, List.mem_cons_self .., one_13 ho (by rw [List.take_of_length_le hl]; exact h13)⟩
      · rename_i hl
        cases hq : fldsR F (l.drop (n + 1)) with
        | none => rw [hq] at h; cases h
        | some q =>
          rw [hq] at h
          injection h with h
          subst h
          have hs := one_sep ho (by omega)
          have hc : l = l.take n ++ 44 :: l.drop (n + 1) := by
            have e := List.take_append_drop n l
            have hlt : n < l.length := by omega
            rw [List.drop_eq_getElem_cons hlt] at e
            rw [List.getElem?_eq_getElem hlt] at hs
            injection hs with hs
            rw [hs] at e
            exact e.symm
          rw [hc] at h13
          rcases List.mem_append.1 h13 with e | e
          · exact ⟨_, List.mem_cons_self .., one_13 ho e⟩
          · rcases List.mem_cons.1 e with e | e
            · cases e
            · obtain ⟨x, hx, hx2⟩ := flds_13 F _ q hq e
              exact ⟨x, List.mem_cons_of_mem _ hx, hx2⟩
end Go.Proofs.YtlcbhooiinaalaaGreatDoor.Cv
