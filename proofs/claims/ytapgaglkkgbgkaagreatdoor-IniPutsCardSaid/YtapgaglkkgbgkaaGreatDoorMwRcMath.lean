/- csv: the fields of a line, read from the left, one behind the other: as parted by widths. No conditions. · strings.IndexRune in the text of a quote and a comma at a rune from 128 on: there is none. · strings.IndexAny of a quote or a comma in a text of any bytes, eight at most: where the first one stands, or there is none. · csv: a field written anew; all of a row's. Conditions: texts of ASCII bytes; MaxLen's cell. · csv.each: a new list of what is made of each one. Conditions: a function that answers so at each one; fewer than 100000 of them. · csv.textOf: a line's text that means these. Conditions: texts of ASCII bytes, of at most 4000; MaxLen's cell. · tree.level and the stack of trees that clone keeps: pop and push. Conditions: fewer than 2^40 edges; what is popped is there. -/
import Derived.Test.YtapgaglkkgbgkaaGreatDoorMwCvFlds
import Derived.Lib.Replace
import Derived.Lib.CountLaws
import Derived.Test.YtapgaglkkgbgkaaGreatDoorMwEdg
import Derived.Outline
import Derived.Laws.RangeAny
import Derived.Laws.Runes
import Derived.WalkMore
import Derived.BigQuiet
import Derived.Shelf.Small.Utf8
import Derived.Lib.OthersKept
import Derived.Lib.IndexAny
import Derived.Shelf.Strings.IndexAnyAll
import Derived.Deep.RegionWith
import Derived.Test.YtapgaglkkgbgkaaGreatDoorMwClHold
namespace Go.Proofs.YtapgaglkkgbgkaaGreatDoor.Cv
open Go.RowKit Go.Proofs.YtapgaglkkgbgkaaGreatDoor.Jd Go.Proofs.YtapgaglkkgbgkaaGreatDoor.Li
set_option maxRecDepth 100000

def rp (x : List UInt8) : List UInt8 → List UInt8
  | [] => []
  | [c] => [c]
  | c :: d :: r => if c = 34 ∧ d = 34 then x ++ rp x r else c :: rp x (d :: r)
theorem rp_pair (x r : List UInt8) : rp x (34 :: 34 :: r) = x ++ rp x r := by rw [rp, if_pos ⟨rfl, rfl⟩]
theorem rp_other (x r : List UInt8) {c : UInt8} (h : c ≠ 34) : rp x (c :: r) = c :: rp x r := by
  cases r with
  | nil => rfl
  | cons d r => rw [rp, if_neg (fun e => h e.1)]
theorem rp_lone (x r : List UInt8) {c : UInt8} (h : c ≠ 34) : rp x (34 :: c :: r) = 34 :: rp x (c :: r) := by rw [rp, if_neg (fun e => h e.2)]
theorem rp_miss (x : List UInt8) : ∀ s : List UInt8, Lib.index s [34, 34] = -1 → rp x s = s
  | [], _ => rfl
  | [c], _ => rfl
  | c :: d :: r, h => by
    rw [Lib.index] at h
    split at h
    · exact absurd h (by decide)
    · rename_i hp
      have h2 : Lib.index (d :: r) [34, 34] = -1 := by
        split at h
        · rename_i e; exact beq_iff_eq.1 e
        · rename_i e
          have := Lib.index_ge (d :: r) [34, 34]
          have : Lib.index (d :: r) [34, 34] ≠ -1 := fun e2 => e (beq_iff_eq.2 e2)
          omega
      rw [rp, if_neg (fun e => hp (by rw [e.1, e.2]; rfl)), rp_miss x (d :: r) h2]
theorem rp_hit (x : List UInt8) : ∀ (s : List UInt8) (i : Nat), Lib.index s [34, 34] = i → rp x s = s.take i ++ x ++ rp x (s.drop (i + 2))
  | [], i, h => by simp [Lib.index] at h
  | [c], i, h => by
    simp [Lib.index] at h
  | c :: d :: r, i, h => by
    rw [Lib.index] at h
    split at h
    · rename_i hp
      have hp' : c = 34 ∧ d = 34 := by
        have h1 : ((34 == c) && ((34 == d) && true)) = true := by simpa [List.isPrefixOf] using hp
        rw [Bool.and_eq_true, Bool.and_eq_true] at h1
        exact ⟨(beq_iff_eq.1 h1.1).symm, (beq_iff_eq.1 h1.2.1).symm⟩
      obtain rfl : i = 0 := by omega
      rw [rp, if_pos hp']
      rfl
    · rename_i hp
      split at h
      · omega
      · rename_i e
        obtain ⟨j, rfl⟩ : ∃ j, i = j + 1 := by
          cases i with
          | zero => exact absurd h (by have := Lib.index_ge (d :: r) [34, 34]; have : Lib.index (d :: r) [34, 34] ≠ -1 := fun e2 => e (beq_iff_eq.2 e2); omega)
          | succ j => exact ⟨j, rfl⟩
        rw [rp, if_neg (fun e => hp (by rw [e.1, e.2]; rfl)), rp_hit x (d :: r) j (by omega)]
        rfl
theorem replaceK_rp (x : List UInt8) : ∀ (n : Nat) (s : List UInt8), s.length ≤ n → Lib.replaceK [34, 34] x (Lib.count s [34, 34]) s = rp x s := by
  intro n
  induction n with
  | zero =>
    intro s h
    obtain rfl : s = [] := List.eq_nil_of_length_eq_zero (by omega)
    rw [Lib.count_miss (by rfl)]
    rfl
  | succ n ih =>
    intro s h
    by_cases hm : Lib.index s [34, 34] = -1
    · rw [Lib.count_miss hm, rp_miss x s hm]
      rfl
    · obtain ⟨i, hi⟩ : ∃ i : Nat, Lib.index s [34, 34] = i := ⟨(Lib.index s [34, 34]).toNat, by have := Lib.index_ge s [34, 34]; omega⟩
      have hc := Lib.count_hit (sub := [34, 34]) (by simp) hi
      rw [hc, Nat.add_comm, Lib.replaceK_hit _ _ _ _ _ hi, rp_hit x s i hi]
      simp only [List.length_cons, List.length_nil, Nat.zero_add, Nat.reduceAdd]
      have hs : s ≠ [] := fun e => hm (by rw [e]; rfl)
      have hl : 0 < s.length := List.length_pos_iff.2 hs
      rw [ih (s.drop (i + 2)) (by rw [List.length_drop]; omega)]
theorem replaceAll_rp (x s : List UInt8) (hx : ([34, 34] == x) = false) : Lib.replaceAll s [34, 34] x = rp x s := by
  unfold Lib.replaceAll Lib.replace
  rw [hx, if_neg (by decide), Lib.replaceNum, if_pos (.inl (by decide)), replaceK_rp x _ s (Nat.le_refl _)]
theorem indexByte_mem (c : UInt8) : ∀ l : List UInt8, decide (0 ≤ Lib.indexByte l c) = l.contains c
  | [] => rfl
  | b :: l => by
    have ih := indexByte_mem c l
    have hg := Lib.indexByte_ge l c
    rw [Lib.indexByte, List.contains_cons]
    by_cases hb : b = c
    · subst hb; simp
    · have e1 : (b == c) = false := beq_eq_false_iff_ne.2 hb
      have e2 : (c == b) = false := beq_eq_false_iff_ne.2 (fun e => hb e.symm)
      rw [if_neg (by rw [e1]; decide), e2, Bool.false_or, ← ih]
      by_cases hm : Lib.indexByte l c = -1
      · rw [if_pos (beq_iff_eq.2 hm), hm]
      · rw [if_neg (fun e => hm (beq_iff_eq.1 e))]
        rw [decide_eq_true (by omega), decide_eq_true (by omega)]
def qin : Bs → Option (Bs × Nat)
  | [] => none
  | [c] => if c = 34 then some ([], 1) else none
  | c :: d :: r => if c = 34 then (if d = 34 then (qin r).map (fun p => (34 :: p.1, p.2 + 2)) else if d = 44 then some ([], 1) else none) else (qin (d :: r)).map (fun p => (c :: p.1, p.2 + 1))
def pln : Bs → Option Nat
  | [] => some 0
  | c :: r => if c = 44 then some 0 else if c = 34 then none else (pln r).map (· + 1)
def oneF : Bs → Option (Bs × Nat)
  | [] => some ([], 0)
  | c :: r => if c = 34 then (qin r).map (fun p => (p.1, p.2 + 1)) else (pln (c :: r)).map (fun n => ((c :: r).take n, n))
theorem qin_other {c : UInt8} (h : c ≠ 34) (r : Bs) : qin (c :: r) = (qin r).map (fun p => (c :: p.1, p.2 + 1)) := by
  cases r with
  | nil => show qin [c] = none; rw [qin, if_neg h]
  | cons d r => rw [qin, if_neg h]
theorem wid_other {c : UInt8} (h : c ≠ 34) (r : Bs) : wid true (c :: r) = wid true r + 1 := by rw [wid, if_neg h, if_neg (by simp)]
theorem qin_some : ∀ (r v : Bs) (n : Nat), qin r = some (v, n) → n = wid true r ∧ ∃ Q, r.take n = Q ++ [34] ∧ (rp [] Q).contains 34 = false ∧ rp [34] Q = v
  | [], _, _, h => by simp [qin] at h
  | [c], v, n, h => by
    rw [qin] at h
    split at h
    · rename_i hc
      injection h with h
      injection h with h1 h2
      subst h1; subst h2; subst hc
      exact ⟨by simp [wid], [], rfl, rfl, rfl⟩
    · cases h
  | c :: d :: r, v, n, h => by
    rw [qin] at h
    split at h
    · rename_i hc
      subst hc
      split at h
      · rename_i hd
        subst hd
        cases hq : qin r with
        | none => rw [hq] at h; cases h
        | some p =>
          rw [hq] at h
          injection h with h
          injection h with h1 h2
          obtain ⟨a, Q, b1, b2, b3⟩ := qin_some r p.1 p.2 hq
          subst h1; subst h2
          refine ⟨by rw [wid, if_pos rfl, wid, if_pos rfl, a]; rfl, 34 :: 34 :: Q, ?_, ?_, ?_⟩
          · rw [List.take_succ_cons, List.take_succ_cons, b1]; rfl
          · rw [rp_pair]; exact b2
          · rw [rp_pair, b3]; rfl
      · rename_i hd
        split at h
        · rename_i hd2
          subst hd2
          injection h with h
          injection h with h1 h2
          subst h1; subst h2
          exact ⟨by simp [wid], [], rfl, rfl, rfl⟩
        · cases h
    · rename_i hc
      cases hq : qin (d :: r) with
      | none => rw [hq] at h; cases h
      | some p =>
        rw [hq] at h
        injection h with h
        injection h with h1 h2
        obtain ⟨a, Q, b1, b2, b3⟩ := qin_some (d :: r) p.1 p.2 hq
        subst h1; subst h2
        refine ⟨by rw [wid_other hc, a], c :: Q, ?_, ?_, ?_⟩
        · rw [List.take_succ_cons, b1]; rfl
        · rw [rp_other _ _ hc, List.contains_cons, b2, beq_eq_false_iff_ne.2 (fun e => hc e.symm)]; rfl
        · rw [rp_other _ _ hc, b3]
theorem tail_end {c : UInt8} {P Q : Bs} (hc : c ≠ 34) (h : c :: P = Q ++ [34]) : ∃ Q', Q = c :: Q' ∧ P = Q' ++ [34] := by
  cases Q with
  | nil => simp at h; exact absurd h.1 hc
  | cons q Q =>
    injection h with h1 h2
    exact ⟨Q, by rw [h1], h2⟩
theorem qin_none : ∀ (r : Bs), qin r = none → ∀ Q, r.take (wid true r) = Q ++ [34] → (rp [] Q).contains 34 = true
  | [], _, Q, h => by simp at h
  | [c], hn, Q, h => by
    rw [qin] at hn
    split at hn
    · cases hn
    · rename_i hc
      rw [wid_other hc] at h
      obtain ⟨Q', _, h2⟩ := tail_end hc (P := []) (by simpa [wid] using h)
      simp at h2
  | c :: d :: r, hn, Q, h => by
    rw [qin] at hn
    split at hn
    · rename_i hc
      subst hc
      split at hn
      · rename_i hd
        subst hd
        have hq : qin r = none := by simpa using hn
        rw [wid, if_pos rfl, wid, if_pos rfl, List.take_succ_cons, List.take_succ_cons] at h
        cases Q with
        | nil => simp at h
        | cons q Q =>
          injection h with h1 h2
          subst h1
          cases Q with
          | nil => rfl
          | cons q Q =>
            injection h2 with h2 h3
            subst h2
            rw [rp_pair]
            exact qin_none r hq Q h3
      · rename_i hd
        split at hn
        · cases hn
        · rename_i hd2
          rw [wid, if_pos rfl, wid, if_neg hd, if_neg (fun e => hd2 e.1), List.take_succ_cons, List.take_succ_cons] at h
          cases Q with
          | nil => simp at h
          | cons q Q =>
            injection h with h1 h2
            subst h1
            obtain ⟨Q', e, _⟩ := tail_end hd h2
            subst e
            rw [rp_lone _ _ hd, List.contains_cons]
            simp
    · rename_i hc
      have hq : qin (d :: r) = none := by simpa using hn
      rw [wid_other hc, List.take_succ_cons] at h
      obtain ⟨Q', e, h2⟩ := tail_end hc h
      subst e
      rw [rp_other _ _ hc, List.contains_cons, qin_none (d :: r) hq Q' h2]
      simp
theorem pln_some : ∀ (l : Bs) (n : Nat), pln l = some n → n = wid false l ∧ (l.take n).contains 34 = false
  | [], n, h => by injection h with h; subst h; exact ⟨rfl, rfl⟩
  | c :: r, n, h => by
    rw [pln] at h
    split at h
    · rename_i hc
      injection h with h
      subst h; subst hc
      exact ⟨by simp [wid], rfl⟩
    · rename_i hc
      split at h
      · cases h
      · rename_i hd
        cases hq : pln r with
        | none => rw [hq] at h; cases h
        | some p =>
          rw [hq] at h
          injection h with h
          obtain ⟨a, b⟩ := pln_some r p hq
          subst h
          exact ⟨by rw [wid, if_neg hd, if_neg (fun e => hc e.1), a], by rw [List.take_succ_cons, List.contains_cons, b, beq_eq_false_iff_ne.2 (fun e => hd e.symm)]; rfl⟩
theorem pln_none : ∀ (l : Bs), pln l = none → (l.take (wid false l)).contains 34 = true
  | [], h => by cases h
  | c :: r, h => by
    rw [pln] at h
    split at h
    · cases h
    · rename_i hc
      split at h
      · rename_i hd
        subst hd
        rw [wid, if_pos rfl, List.take_succ_cons, List.contains_cons]
        rfl
      · rename_i hd
        have hq : pln r = none := by simpa using h
        rw [wid, if_neg hd, if_neg (fun e => hc e.1), List.take_succ_cons, List.contains_cons, pln_none r hq]
        simp
theorem unq_plain {c : UInt8} (h : c ≠ 34) (P : Bs) : unq (c :: P) = (c :: P, !((c :: P).contains 34)) := by
  unfold unq
  rw [if_pos (by simpa [Lib.hasPrefix, List.isPrefixOf] using fun e : (34 : UInt8) = c => h e.symm), indexByte_mem]
theorem hasSuffix_end (Q : Bs) : Lib.hasSuffix (Q ++ [34]) [34] = true := by
  rw [Lib.hasSuffix, List.isSuffixOf_iff_suffix]
  exact ⟨Q, rfl⟩
theorem unq_quoted (Q : Bs) : unq (34 :: (Q ++ [34])) = if (rp [] Q).contains 34 = true then ([], false) else (rp [34] Q, true) := by
  have e1 : Lib.trimPrefix (34 :: (Q ++ [34])) [34] = Q ++ [34] := by
    unfold Lib.trimPrefix
    rw [if_pos (by simp [Lib.hasPrefix, List.isPrefixOf])]
    rfl
  have e2 : Lib.trimSuffix (Q ++ [34]) [34] = Q := by
    unfold Lib.trimSuffix
    rw [if_pos (hasSuffix_end Q)]
    simp
  unfold unq
  rw [if_neg (by simp [Lib.hasPrefix, List.isPrefixOf]), e1, if_neg (by rw [hasSuffix_end]; decide), e2, indexByte_mem, replaceAll_rp _ _ (by decide), replaceAll_rp _ _ (by decide)]
theorem unq_open {P : Bs} (h : ∀ Q, P = Q ++ [34] → (rp [] Q).contains 34 = true) : (unq (34 :: P)).2 = false := by
  by_cases hs : Lib.hasSuffix P [34] = true
  · rw [Lib.hasSuffix, List.isSuffixOf_iff_suffix] at hs
    obtain ⟨Q, hQ⟩ := hs
    subst hQ
    rw [unq_quoted, if_pos (h Q rfl)]
  · have e1 : Lib.trimPrefix (34 :: P) [34] = P := by
      unfold Lib.trimPrefix
      rw [if_pos (by simp [Lib.hasPrefix, List.isPrefixOf])]
      rfl
    unfold unq
    rw [if_neg (by simp [Lib.hasPrefix, List.isPrefixOf]), e1, if_pos (by simpa using hs)]
theorem one_some {l v : Bs} {n : Nat} (h : oneF l = some (v, n)) : n = wid false l ∧ unq (l.take n) = (v, true) := by
  cases l with
  | nil =>
    injection h with h
    injection h with h1 h2
    subst h1; subst h2
    exact ⟨rfl, rfl⟩
  | cons c r =>
    rw [oneF] at h
    split at h
    · rename_i hc
      subst hc
      cases hq : qin r with
      | none => rw [hq] at h; cases h
      | some p =>
        rw [hq] at h
        injection h with h
        injection h with h1 h2
        obtain ⟨a, Q, b1, b2, b3⟩ := qin_some r p.1 p.2 hq
        subst h1; subst h2
        refine ⟨by rw [wid, if_pos rfl, a]; rfl, ?_⟩
        rw [List.take_succ_cons, b1, unq_quoted, if_neg (by rw [b2]; decide), b3]
    · rename_i hc
      cases hq : pln (c :: r) with
      | none => rw [hq] at h; cases h
      | some p =>
        rw [hq] at h
        injection h with h
        injection h with h1 h2
        obtain ⟨a, b⟩ := pln_some _ _ hq
        subst h1; subst h2
        refine ⟨a, ?_⟩
        cases p with
        | zero => rfl
        | succ p =>
          rw [List.take_succ_cons] at b ⊢
          rw [unq_plain hc, b]; rfl
theorem one_none {l : Bs} (h : oneF l = none) : (unq (l.take (wid false l))).2 = false := by
  cases l with
  | nil => cases h
  | cons c r =>
    rw [oneF] at h
    split at h
    · rename_i hc
      subst hc
      have hq : qin r = none := by simpa using h
      rw [wid, if_pos rfl, List.take_succ_cons]
      exact unq_open (qin_none r hq)
    · rename_i hc
      have hq : pln (c :: r) = none := by simpa using h
      have hn := pln_none _ hq
      cases hw : wid false (c :: r) with
      | zero => rw [hw] at hn; simp at hn
      | succ k =>
        rw [hw] at hn
        rw [List.take_succ_cons] at hn ⊢
        rw [unq_plain hc, hn]; rfl
def fldsR : Nat → Bs → Option (List Ln)
  | 0, _ => none
  | F + 1, l => match oneF l with
    | none => none
    | some (v, n) => if l.length ≤ n then some [(l.take n, v)] else (fldsR F (l.drop (n + 1))).map (fun r => (l.take n, v) :: r)
theorem fldsR_eq : ∀ (F : Nat) (l : Bs), fldsR F l = flds F l
  | 0, _ => rfl
  | F + 1, l => by
    rw [fldsR, flds]
    cases h : oneF l with
    | none => rw [if_pos (one_none h)]
    | some p =>
      obtain ⟨a, b⟩ := one_some h
      have hw := wid_le l false
      rw [a] at b
      rw [b]
      simp only [Bool.true_eq_false, if_false]
      rw [a]
      by_cases hl : wid false l = l.length
      · rw [if_pos (by omega), if_pos hl]
      · rw [if_neg (by omega), if_neg hl, fldsR_eq F]

theorem pln_sep : ∀ (l : Bs) (n : Nat), pln l = some n → n < l.length → l[n]? = some 44
  | [], n, _, hl => by simp at hl
  | c :: r, n, h, hl => by
    rw [pln] at h
    split at h
    · rename_i hc
      injection h with h
      subst h; subst hc; rfl
    · split at h
      · cases h
      · cases hq : pln r with
        | none => rw [hq] at h; cases h
        | some p =>
          rw [hq] at h
          injection h with h
          subst h
          exact pln_sep r p hq (by simpa using hl)
theorem qin_sep : ∀ (r v : Bs) (n : Nat), qin r = some (v, n) → n < r.length → r[n]? = some 44
  | [], _, _, h, _ => by simp [qin] at h
  | [c], v, n, h, hl => by
    rw [qin] at h
    split at h
    · injection h with h
      injection h with h1 h2
      subst h2
      simp at hl
    · cases h
  | c :: d :: r, v, n, h, hl => by
    rw [qin] at h
    split at h
    · split at h
      · cases hq : qin r with
        | none => rw [hq] at h; cases h
        | some p =>
          rw [hq] at h
          injection h with h
          injection h with h1 h2
          subst h2
          simp only [List.length_cons] at hl
          exact qin_sep r p.1 p.2 hq (by omega)
      · split at h
        · rename_i hd2
          subst hd2
          injection h with h
          injection h with h1 h2
          subst h2
          rfl
        · cases h
    · cases hq : qin (d :: r) with
      | none => rw [hq] at h; cases h
      | some p =>
        rw [hq] at h
        injection h with h
        injection h with h1 h2
        subst h2
        simp only [List.length_cons] at hl
        exact qin_sep (d :: r) p.1 p.2 hq (by simp only [List.length_cons]; omega)
theorem one_sep {l v : Bs} {n : Nat} (h : oneF l = some (v, n)) (hl : n < l.length) : l[n]? = some 44 := by
  cases l with
  | nil => simp at hl
  | cons c r =>
    rw [oneF] at h
    split at h
    · cases hq : qin r with
      | none => rw [hq] at h; cases h
      | some p =>
        rw [hq] at h
        injection h with h
        injection h with h1 h2
        subst h2
        simp only [List.length_cons] at hl
        exact qin_sep r p.1 p.2 hq (by omega)
    · cases hq : pln (c :: r) with
      | none => rw [hq] at h; cases h
      | some p =>
        rw [hq] at h
        injection h with h
        injection h with h1 h2
        subst h2
        exact pln_sep _ _ hq hl
theorem qin_13 : ∀ (r v : Bs) (n : Nat), qin r = some (v, n) → (13 : UInt8) ∈ r.take n → (13 : UInt8) ∈ v
  | [], _, _, h, _ => by simp [qin] at h
  | [c], v, n, h, hl => by
    rw [qin] at h
    split at h
    · rename_i hc
      injection h with h
      injection h with h1 h2
      subst h2; subst hc
      simp at hl
    · cases h
  | c :: d :: r, v, n, h, hl => by
    rw [qin] at h
    split at h
    · rename_i hc
      subst hc
      split at h
      · rename_i hd
        subst hd
        cases hq : qin r with
        | none => rw [hq] at h; cases h
        | some p =>
          rw [hq] at h
          injection h with h
          injection h with h1 h2
          subst h1; subst h2
          rw [List.take_succ_cons, List.take_succ_cons] at hl
          refine List.mem_cons_of_mem _ (qin_13 r p.1 p.2 hq ?_)
          simpa using hl
      · split at h
        · injection h with h
          injection h with h1 h2
          subst h2
          simp at hl
        · cases h
    · cases hq : qin (d :: r) with
      | none => rw [hq] at h; cases h
      | some p =>
        rw [hq] at h
        injection h with h
        injection h with h1 h2
        subst h1; subst h2
        rw [List.take_succ_cons] at hl
        rcases List.mem_cons.1 hl with e | e
        · rw [e]; exact List.mem_cons_self ..
        · exact List.mem_cons_of_mem _ (qin_13 (d :: r) p.1 p.2 hq e)
theorem one_13 {l v : Bs} {n : Nat} (h : oneF l = some (v, n)) (h13 : (13 : UInt8) ∈ l.take n) : (13 : UInt8) ∈ v := by
  cases l with
  | nil => simp at h13
  | cons c r =>
    rw [oneF] at h
    split at h
    · rename_i hc
      subst hc
      cases hq : qin r with
      | none => rw [hq] at h; cases h
      | some p =>
        rw [hq] at h
        injection h with h
        injection h with h1 h2
        subst h1; subst h2
        rw [List.take_succ_cons] at h13
        exact qin_13 r p.1 p.2 hq (by simpa using h13)
    · cases hq : pln (c :: r) with
      | none => rw [hq] at h; cases h
      | some p =>
        rw [hq] at h
        injection h with h
        injection h with h1 h2
        subst h1; subst h2
        exact h13
theorem flds_13 : ∀ (F : Nat) (l : Bs) (fs : List Ln), fldsR F l = some fs → (13 : UInt8) ∈ l → ∃ x ∈ fs, (13 : UInt8) ∈ x.2
  | 0, _, _, h, _ => by cases h
  | F + 1, l, fs, h, h13 => by
    rw [fldsR] at h
    cases ho : oneF l with
    | none => rw [ho] at h; cases h
    | some p =>
      obtain ⟨v, n⟩ := p
      rw [ho] at h
      simp only at h
      split at h
      · rename_i hl
        injection h with h
        subst h
        exact ⟨_, List.mem_cons_self .., one_13 ho (by rw [List.take_of_length_le hl]; exact h13)⟩
      · rename_i hl
        cases hq : fldsR F (l.drop (n + 1)) with
        | none => rw [hq] at h; cases h
        | some q =>
          rw [hq] at h
          injection h with h
          subst h
          have hs := one_sep ho (by omega)
          have hc : l = l.take n ++ 44 :: l.drop (n + 1) := by
            have e := List.take_append_drop n l
            have hlt : n < l.length := by omega
            rw [List.drop_eq_getElem_cons hlt] at e
            rw [List.getElem?_eq_getElem hlt] at hs
            injection hs with hs
            rw [hs] at e
            exact e.symm
          rw [hc] at h13
          rcases List.mem_append.1 h13 with e | e
          · exact ⟨_, List.mem_cons_self .., one_13 ho e⟩
          · rcases List.mem_cons.1 e with e | e
            · cases e
            · obtain ⟨x, hx, hx2⟩ := flds_13 F _ q hq e
              exact ⟨x, List.mem_cons_of_mem _ hx, hx2⟩
end Go.Proofs.YtapgaglkkgbgkaaGreatDoor.Cv
namespace Go.Proofs.YtapgaglkkgbgkaaGreatDoor.Cv
open Go.RowKit
set_option maxRecDepth 100000

end Go.Proofs.YtapgaglkkgbgkaaGreatDoor.Cv
namespace Go.Proofs.YtapgaglkkgbgkaaGreatDoor.Cv
open Go.RowKit Go.Lib
set_option maxRecDepth 100000

end Go.Proofs.YtapgaglkkgbgkaaGreatDoor.Cv
namespace Go.Proofs.YtapgaglkkgbgkaaGreatDoor.Cv
open Go.RowKit Go.Proofs.YtapgaglkkgbgkaaGreatDoor.Jd Go.Proofs.YtapgaglkkgbgkaaGreatDoor.Li
set_option maxRecDepth 100000

def qF (l : Bs) : Bs := if Lib.containsAny l [34, 44] = true then [34] ++ Lib.replaceAll l [34] [34, 34] ++ [34] else l
end Go.Proofs.YtapgaglkkgbgkaaGreatDoor.Cv
namespace Go.Proofs.YtapgaglkkgbgkaaGreatDoor.Cv
open Go.RowKit Go.Proofs.YtapgaglkkgbgkaaGreatDoor.Jd Go.Proofs.YtapgaglkkgbgkaaGreatDoor.Li
set_option maxRecDepth 100000

end Go.Proofs.YtapgaglkkgbgkaaGreatDoor.Cv
namespace Go.Proofs.YtapgaglkkgbgkaaGreatDoor.Cv
open Go.RowKit Go.Proofs.YtapgaglkkgbgkaaGreatDoor.Jd Go.Proofs.YtapgaglkkgbgkaaGreatDoor.Li
set_option maxRecDepth 100000

def fieldF : List ByteArray → List Ln → List Bs
  | [], _ => []
  | m :: ms, [] => qF m.data.toList :: fieldF ms []
  | m :: ms, x :: xs => (if ((ByteArray.mk x.2.toArray).toList == m.toList) = true then x.1 else qF m.data.toList) :: fieldF ms xs
end Go.Proofs.YtapgaglkkgbgkaaGreatDoor.Cv
namespace Go.Proofs.YtapgaglkkgbgkaaGreatDoor.Cl
open Go.RowKit
set_option maxRecDepth 100000

theorem elem_edge : Elem Tryz.prog 30 56 (.agg #[.string ⟨#[]⟩, .slice none 0 0]) 2 40 := ⟨Tryz.underlying30, by kernel_rfl, rfl, by omega⟩
theorem src_edges {w : World} {b o n c : Nat} {vs : List Value} (hl : vs.length = n * 2) (hc : ∀ j u, vs[j]? = some u → w.cell? ⟨b, o + j, none⟩ = some u) (h1 : ∀ u ∈ vs, u.oneCell' = true) : Src Tryz.prog 2 30 (.slice (some ⟨b, o, none⟩) n c) n vs w :=
  Src.ofSlice w Tryz.underlying30 ⟨b, o, none⟩ n c vs hl (fun j u hu => by rw [Addr.add_lit]; exact hc j u hu) h1
theorem src_none (w : World) (A : Option Addr) (c : Nat) : Src Tryz.prog 2 30 (.slice A 0 c) 0 [] w := by
  cases A with
  | none => exact Src.ofNil w Tryz.underlying30 c
  | some a => exact Src.ofSlice w Tryz.underlying30 a 0 c [] rfl (fun j u hu => by simp at hu) (fun u hu => by cases hu)

theorem level_hp (t : Tr) (A : Option Addr) (n c : Nat) (P : Nat → Prop) (w : World) (h : HoldsP w P A n t) (hP : ∀ b, P b → b < w.heap.size) (hn : n ≤ 1099511627776) :
    Calls Tryz.prog 120 #[.slice A n c] w fun e w' => ∃ A' c', e = .returned (.slice A' n c') ∧ w.grownBy w' none ∧ n ≤ c' ∧ c' ≤ maxLen ∧ HoldsP w' (fun b => P b ∨ b = w.heap.size) A' n t ∧
      (∀ a, A' = some a → a = ⟨w.heap.size, 0, none⟩ ∧ ∃ cur, w'.heap[w.heap.size]? = some (.cells cur 56 (0, 0))) := by
  obtain ⟨vs, hl, h1, hc, hA⟩ := h.row
  have hsrc : Src Tryz.prog 2 30 (.slice A n c) n vs w := by
    rcases Nat.eq_zero_or_pos n with g | g
    · subst g
      have : vs = [] := List.eq_nil_of_length_eq_zero (by rw [hl])
      subst this
      exact src_none w A c
    · obtain ⟨b, o, rfl, _⟩ := hA g
      exact src_edges hl (hc b o rfl) h1
  have hn2 : 0 + n ≤ 1099511627776 := by omega
  have H := Lib.hid h
  have HP := Lib.hid hP
  have Hc := Lib.hid hc
  have HA := Lib.hid hA
  have Hl := Lib.hid hl
  clear h hP hc hA hl
  go_enter Tryz.func120, Tryz.ntmps120
  go_wp2_with (at_builtin; refine wpList_append_row rfl (.const (.slice none 0 0)) (.tmp 3) _ _ rfl elem_edge rfl rfl (World.ownsRow_nil w w.heap.size _ _) hsrc hn2 (Nat.le_refl _) ?_; intro A2 c2 w2 ho2 hg2 hat2; simp only [Nat.zero_add, List.nil_append] at ho2; rw [Nat.zero_add])
  go_ret
  have hkeep : ∀ b o, P b → w2.cell? ⟨b, o, none⟩ = w.cell? ⟨b, o, none⟩ := fun b o hb => World.cell?_of_block (hg2.block b (HP.out b hb) (fun e => by cases e))
  rcases ho2.2 with ⟨e1, e2⟩ | ⟨g, cap, cur, e1, hg, hh, hcap, hmx, hsz, htk⟩
  · injection e1 with a1 a2 a3
    subst a1; subst a2; subst a3
    have ht := H.out.len
    have hH := H.out
    cases t with
    | nil => exact ⟨none, 0, rfl, hg2, Nat.le_refl _, by simp [maxLen], rfl, fun a ha => by cases ha⟩
    | cons s k r => simp [Tr.len] at ht
  · injection e1 with a1 a2 a3
    subst a1; subst a3
    have hgw : g = w.heap.size := by
      rcases hat2 _ rfl with e | e
      · exact e
      · simp [Value.ownBlock] at e
    subst hgw
    refine ⟨_, c2, rfl, hg2, hcap, hmx, ?_, fun a ha => ⟨by injection ha with ha; exact ha.symm, cur, hh⟩⟩
    have hcp : ∀ j u, vs[j]? = some u → w2.cell? ⟨w.heap.size, 0 + j, none⟩ = some u := by
      intro j u hu
      rw [cell_of_row w2 _ _ cur _ _ hh, Nat.zero_add]
      rw [← htk, List.getElem?_take] at hu
      split at hu
      · simpa using hu
      · cases hu
    rcases Nat.eq_zero_or_pos n with g0 | g0
    · subst g0
      have ht := H.out.len
      cases t with
      | nil => exact rfl
      | cons s k r => simp [Tr.len] at ht
    · obtain ⟨b, o, rfl, hb⟩ := HA.out g0
      refine HoldsP.copy hkeep (fun b hb => .inl hb) H.out (.inr rfl) (fun j hj => ?_)
      have hlt : j < vs.length := by rw [Hl.out]; exact hj
      rw [hcp j _ (List.getElem?_eq_getElem hlt), Hc.out b o rfl j _ (List.getElem?_eq_getElem hlt)]

structure CJob where
  a1 : Option Addr
  n1 : Nat
  c1 : Nat
def CJob.cells (x : CJob) : List Value := [.slice x.a1 x.n1 x.c1]
def cjobs (L : List CJob) : List Value := L.flatMap CJob.cells
theorem cjobs_length (L : List CJob) : (cjobs L).length = L.length * 1 := by
  induction L with
  | nil => rfl
  | cons x l ih => simp only [cjobs, List.flatMap_cons, List.length_append, List.length_cons] at ih ⊢; rw [ih]; simp [CJob.cells]; omega
theorem cjobs_append (L M : List CJob) : cjobs (L ++ M) = cjobs L ++ cjobs M := by simp [cjobs]

structure CStk (w : World) (base g : Nat) (L : List CJob) : Prop where
  le : base ≤ g
  row : ∃ A c, w.heap[g]? = some (.cells #[.slice A L.length c] 175 (0, 0)) ∧ w.ownsRow base 30 1 (.slice A L.length c) L.length (cjobs L)

theorem CStk.grow {w w' : World} {base g : Nat} {L : List CJob} (h : CStk w base g L) (hk : ∀ k, k < w.heap.size → w'.heap[k]? = w.heap[k]?) : CStk w' base g L := by
  obtain ⟨A, c, hb, hr1, hr⟩ := h.row
  have hs : ∀ (k : Nat) (o : Obj), w.heap[k]? = some o → w'.heap[k]? = some o := fun k o ho => (hk k (Array.getElem?_eq_some_iff.1 ho).1).trans ho
  refine ⟨h.le, A, c, hs _ _ hb, hr1, ?_⟩
  rcases hr with e | ⟨g1, cap, cur, e, hg, hh, rest⟩
  · exact .inl e
  · exact .inr ⟨g1, cap, cur, e, hg, hs _ _ hh, rest⟩
theorem CStk.alloc {w : World} {base g : Nat} {L : List CJob} (h : CStk w base g L) (o : Obj) : CStk (w.alloc o) base g L := h.grow fun k hk => Below.heap_alloc w o k hk
theorem CStk.drewN {w : World} {base g : Nat} {L : List CJob} (h : CStk w base g L) (q : Nat) : CStk (w.drewN q) base g L := h.grow fun _ _ => rfl

def CFar (w : World) (g k : Nat) : Prop := k ≠ g ∧ ∀ A n c, w.heap[g]? = some (.cells #[.slice A n c] 175 (0, 0)) → (Value.slice A n c).ownBlock ≠ some k
theorem CStk.lt {w : World} {base g : Nat} {L : List CJob} (h : CStk w base g L) : g < w.heap.size := by
  obtain ⟨A, c, hb, _⟩ := h.row
  exact (Array.getElem?_eq_some_iff.1 hb).1
theorem CStk.far {w : World} {base g k : Nat} {L : List CJob} (h : CStk w base g L) (hk : w.heap.size ≤ k) : CFar w g k := by
  have hl := h.lt
  obtain ⟨A, c, hb, hrow⟩ := h.row
  refine ⟨by omega, fun A' n' c' he e => ?_⟩
  rw [hb] at he
  injection he with he
  injection he with he _ _
  have he := congrArg Array.toList he
  simp only [List.cons.injEq, Value.slice.injEq, and_true] at he
  obtain ⟨rfl, rfl, rfl⟩ := he
  have := (hrow.lt k e).2
  omega
theorem CFar.grow {w w' : World} {g k : Nat} (h : CFar w g k) (hg : g < w.heap.size) (hk : ∀ k, k < w.heap.size → w'.heap[k]? = w.heap[k]?) : CFar w' g k :=
  ⟨h.1, fun A n c he => h.2 A n c ((hk g hg).symm.trans he)⟩

set_option maxHeartbeats 1000000 in
theorem cpop_any (base g : Nat) (L : List CJob) (x : CJob) (w : World) (h : CStk w base g (L ++ [x])) (hL : L.length ≤ 1099511627776) :
    Calls Tryz.prog 121 #[.pointer (some ⟨g, 0, none⟩)] w fun e w' =>
      e = .returned (.slice x.a1 x.n1 x.c1) ∧ CStk w' base g L ∧ w.grownBy w' (some g) := by
  obtain ⟨A, c, hb, hrow⟩ := h.row
  have hrow2 := hrow
  obtain ⟨hr1, hr⟩ := hrow
  rcases hr with ⟨e, e2⟩ | ⟨g1, cap, cur, e, hg, hh, hcap, hmx, hsz, htk⟩
  · simp at e2
  injection e with e1 e2 e3
  subst e1; subst e3
  have hlen : (L ++ [x]).length = L.length + 1 := by simp
  rw [hlen] at hb hcap htk
  have hcell : ∀ j v, (cjobs (L ++ [x]))[j]? = some v → w.cell? ⟨g1, j, none⟩ = some v := by
    intro j v hv
    rw [cell_of_row w g1 j cur _ _ hh]
    rw [← htk, List.getElem?_take] at hv
    split at hv
    · simpa using hv
    · cases hv
  have hc0 : w.cell? ⟨g1, L.length, none⟩ = some (.slice x.a1 x.n1 x.c1) := hcell _ _ (by rw [cjobs_append, List.getElem?_append_right (by rw [cjobs_length, Nat.mul_one]; exact Nat.le_refl _), cjobs_length, Nat.mul_one, Nat.sub_self]; rfl)
  have hbox : w.cell? ⟨g, 0, none⟩ = some (.slice (some ⟨g1, 0, none⟩) (L.length + 1) c) := by rw [cell_of_row w g 0 _ _ _ hb]; rfl
  have hfr : w.frozen? ⟨g, 0, none⟩ = false := by simp [World.frozen?, hb]
  obtain ⟨k, hk⟩ : ∃ k, k = L.length := ⟨_, rfl⟩
  rw [← hk] at hc0 hbox hL hcap
  have hgl : g < w.heap.size := (Array.getElem?_eq_some_iff.1 hb).1
  have hg1l : g1 < w.heap.size := (Array.getElem?_eq_some_iff.1 hh).1
  have hne : g1 ≠ g := by rintro rfl; rw [hh] at hb; simp at hb
  have Hk := Lib.hid hk
  have Hb := Lib.hid hb
  have Hh := Lib.hid hh
  have Hsz := Lib.hid hsz
  have Htk := Lib.hid htk
  clear hcell htk hr1 hrow2 hb hlen hh hsz hk e2
  go_enter Tryz.func121, Tryz.ntmps121
  go_wp2_with fail
  refine bodyPost_ret (v := .slice x.a1 x.n1 x.c1) (by simp [results, Tryz.results121, go_sem]) rfl ⟨rfl, ⟨h.le, some ⟨g1, 0, none⟩, c, ?_, ?_⟩, grown_set _ _ _⟩
  · rw [← Hk.out]
    exact box_set Hb.out
  · rw [← Hk.out]
    refine ⟨by rw [cjobs_length, Hk.out], .inr ⟨g1, c, cur, rfl, hg, heap_far Hh.out hne _, by omega, hmx, Hsz.out, ?_⟩⟩
    have hk := Hk.out
    have e3 : (cjobs L).take (k * 1) = cjobs L := List.take_of_length_le (by rw [cjobs_length, hk]; exact Nat.le_refl _)
    have := congrArg (List.take (k * 1)) Htk.out
    rw [List.take_take, cjobs_append, List.take_append_of_le_length (by rw [cjobs_length, hk]; exact Nat.le_refl _), e3, Nat.min_eq_left (by omega)] at this
    exact this

theorem cjobs_one (L : List CJob) : ∀ u ∈ cjobs L, u.oneCell' = true := by
  intro u hu
  simp only [cjobs, List.mem_flatMap] at hu
  obtain ⟨x, _, hx⟩ := hu
  simp only [CJob.cells, List.mem_cons, List.not_mem_nil, or_false] at hx
  subst hx; rfl

theorem elem_tree : Elem Tryz.prog 175 30 (.slice none 0 0) 1 24 := ⟨Tryz.underlying175, by kernel_rfl, rfl, by omega⟩

set_option maxHeartbeats 1000000 in
theorem cpush_any (base g b o m c : Nat) (L M : List CJob) (w : World) (h : CStk w base g L) (hm : m = M.length) (hc : ∀ j u, (cjobs M)[j]? = some u → w.cell? ⟨b, o + j, none⟩ = some u) (hL : L.length + m ≤ 1099511627776) (hb : base ≤ w.heap.size) :
    Calls Tryz.prog 122 #[.pointer (some ⟨g, 0, none⟩), .slice (some ⟨b, o, none⟩) m c] w fun e w' =>
      (∃ v, e = .returned v) ∧ CStk w' base g (L ++ M) ∧ Below base w w' ∧ ∀ k, k < w.heap.size → CFar w g k → w'.heap[k]? = w.heap[k]? ∧ CFar w' g k := by
  obtain ⟨A, c1, hbx, hrow⟩ := h.row
  have hbox : w.cell? ⟨g, 0, none⟩ = some (.slice A L.length c1) := by rw [cell_of_row w g 0 _ _ _ hbx]; rfl
  have hfr : w.frozen? ⟨g, 0, none⟩ = false := by simp [World.frozen?, hbx]
  have hgl : g < w.heap.size := (Array.getElem?_eq_some_iff.1 hbx).1
  have hsrc : Src Tryz.prog 1 42 (.slice (some ⟨b, o, none⟩) m c) m (cjobs M) w := Src.laid Tryz.underlying42 (by rw [cjobs_length, hm]) hc (cjobs_one M)
  have hlt := hrow.lt
  have hne : ∀ k, (Value.slice A L.length c1).ownBlock = some k → k ≠ g := by
    rintro k hk rfl
    rcases hrow.2 with ⟨e, _⟩ | ⟨g1, cap, cur, e, _, hh, _⟩
    · rw [e] at hk; cases hk
    · rw [e] at hk
      injection hk with hk
      simp only at hk
      rw [hk] at hh
      rw [hh] at hbx
      simp at hbx
  obtain ⟨k, hk⟩ : ∃ k, k = L.length := ⟨_, rfl⟩
  rw [← hk] at hbox hL hrow hlt hne
  have Hbx := Lib.hid hbx
  have Hm := Lib.hid hm
  have Hk := Lib.hid hk
  have Hlt := Lib.hid hlt
  have Hne := Lib.hid hne
  clear hc hk hm hlt hne hbx
  go_enter Tryz.func122, Tryz.ntmps122
  go_wp2_with (at_builtin; refine wpList_append_row rfl (.tmp 7) (.tmp 8) _ _ rfl elem_tree rfl rfl hrow hsrc hL hb ?_; intro A' c' w' ho' hg' hat'; have hbox' := (hg'.cell hbox (fun e => Hne.out _ e.symm rfl)); have hfr' : w'.frozen? ⟨g, 0, none⟩ = false := (World.frozen?_of_block (hg'.block g hgl (fun e => Hne.out _ e.symm rfl))).trans hfr)
  go_end0
  have hnb : (Value.slice A' (k + m) c').ownBlock ≠ some g := by
    cases A' with
    | none => simp [Value.ownBlock]
    | some a =>
      rcases hat' a rfl with e | e
      · simp only [Value.ownBlock, ne_eq, Option.some.injEq]; omega
      · intro e'
        simp only [Value.ownBlock] at e'
        exact Hne.out g (by rw [← e, ← e']) rfl
  have hlen : (L ++ M).length = k + m := by rw [List.length_append, ← Hk.out, ← Hm.out]
  refine ⟨⟨_, rfl⟩, ⟨h.le, A', c', ?_, ?_⟩, ?_, fun q hq hf => ?_⟩
  · rw [hlen]
    exact box_set ((hg'.block g hgl (fun e => Hne.out _ e.symm rfl)).trans Hbx.out)
  · rw [hlen, cjobs_append]
    exact ho'.kept (grown_set w' ⟨g, 0, none⟩ _) (.inr hnb)
  · refine ((Below.refl base w).grown hg' hb (fun q hq => (Hlt.out q hq).1)).trans ?_
    exact (Below.refl base w').setCell h.le _
  · have hq2 := hf.2 _ _ _ Hbx.out
    rw [← Hk.out] at hq2
    refine ⟨(Below.heap_setCell w' ⟨g, 0, none⟩ _ q hf.1).trans (hg'.block q hq (fun e => hq2 e.symm)), hf.1, fun A2 n2 c2 he => ?_⟩
    rw [box_set ((hg'.block g hgl (fun e => Hne.out _ e.symm rfl)).trans Hbx.out)] at he
    injection he with he
    injection he with he _ _
    have he := congrArg Array.toList he
    simp only [List.cons.injEq, Value.slice.injEq, and_true] at he
    obtain ⟨rfl, rfl, rfl⟩ := he
    cases A' with
    | none => simp [Value.ownBlock]
    | some a =>
      rcases hat' a rfl with e | e
      · simp only [Value.ownBlock, ne_eq, Option.some.injEq]; omega
      · simp only [Value.ownBlock]
        rw [e]
        exact hq2
theorem CStk.kind {w : World} {base g k : Nat} {L : List CJob} (h : CStk w base g L) {cur : Array Value} (hk : w.heap[k]? = some (.cells cur 56 (0, 0))) : CFar w g k := by
  obtain ⟨A, c, hb, hrow⟩ := h.row
  refine ⟨fun e => ?_, fun A' n' c' he e => ?_⟩
  · subst e
    rw [hk] at hb
    injection hb with hb
    injection hb with _ hb _
    exact absurd hb (by decide)
  · rw [hb] at he
    injection he with he
    injection he with he _ _
    have he := congrArg Array.toList he
    simp only [List.cons.injEq, Value.slice.injEq, and_true] at he
    obtain ⟨rfl, rfl, rfl⟩ := he
    rcases hrow.2 with ⟨e1, _⟩ | ⟨g1, cap, cur1, e1, _, hh, _⟩
    · rw [e1] at e; cases e
    · rw [e1] at e
      simp only [Value.ownBlock, Option.some.injEq] at e
      subst e
      rw [hk] at hh
      injection hh with hh
      injection hh with _ hh _
      exact absurd hh (by decide)
theorem CStk.set {w : World} {base g : Nat} {L : List CJob} (h : CStk w base g L) {a : Addr} (hf : CFar w g a.block) (v : Value) : CStk (w.setCell a v) base g L := by
  obtain ⟨A, c, hb, hrow⟩ := h.row
  refine ⟨h.le, A, c, heap_far hb (fun e => hf.1 e.symm) v, hrow.kept (grown_set w a v) (.inr ?_)⟩
  exact hf.2 _ _ _ hb
theorem CStk.grownNone {w w' : World} {base g : Nat} {L : List CJob} (h : CStk w base g L) (hg : w.grownBy w' none) : CStk w' base g L := h.grow fun k hk => hg.block k hk (by simp)
end Go.Proofs.YtapgaglkkgbgkaaGreatDoor.Cl
