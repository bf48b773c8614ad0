/- A tree that takes the other one's at each path where they differ is the other one; a tree with something put at one place differs from itself there. No conditions. · Sets of names: lists in order, each once; what is combined of two sets. No conditions. · names.ordered: what is in a row of strings, in order, each once, in memory of its own; slices.BinarySearch of strings in order. Conditions: fewer than 2^40 strings. · slices.BinarySearch of strings in order, names.set's has: whether a name is in a set. Conditions: the set's list is in order, fewer than 2^40 strings. · slices.Grow of nil, slices.Concat of rows of strings. Conditions: what is joined is fewer than 2^40 strings. · names.combine with and: what is combined of two sets. Conditions: lists in order, fewer than 2^38 strings. · names.from, Both, Either, Not, Same, None, Has: what they tell of sets. Conditions: fewer than 2^37 names in each. · An argument that is a set of names, opened; names' faces at a world behind another one; the laws' known and Few. No conditions but small sets. · slices.Contains of strings, names.Has: whether a name is in a set. Conditions: fewer than 2^63 names. · cadenceref3's in, Has, None, Exact. Conditions: fewer than 2^62 names. -/
import Derived.Test.YtchoipmfngcdoaaMwNamesMath
import Derived.Test.YtchoipmfngcdoaaSorted
import Derived.LoopTactic
import Derived.Deep.QuietTactic
import Derived.Deep.RegionHeld3
import Derived.Outline
import Derived.Lib.SmallJoins
import Derived.BigQuiet
namespace Go.Proofs.Ytchoipmfngcdoaa.Df
open Go.RowKit Go.Proofs.Ytchoipmfngcdoaa.Pt
set_option maxRecDepth 100000

theorem without_at {name : ByteArray} : ∀ {t : Tr}, t.Asc → (withoutT t name).atIs name = false
  | .nil, _ => nil_is name
  | .cons s k r, h => by
    rcases cases3 s name with c1 | ⟨c1, c2⟩ | ⟨c1, c2, _⟩
    · rw [withoutT_lt c1, Pt.atIs_lt c1]; exact without_at (asc_tail h)
    · rw [withoutT_eq c1 c2]; exact behind h c1
    · rw [withoutT_gt c1 c2, atIs_ge c1, c2]
theorem without_other {name q : ByteArray} (hne : name ≠ q) : ∀ {t : Tr}, t.Asc → (withoutT t name).atIs q = t.atIs q ∧ kidT (withoutT t name) q = kidT t q
  | .nil, _ => ⟨rfl, rfl⟩
  | .cons s k r, h => by
    rcases cases3 s name with c1 | ⟨c1, c2⟩ | ⟨c1, c2, _⟩
    · rw [withoutT_lt c1]
      rcases cases3 s q with d1 | ⟨d1, d2⟩ | ⟨d1, d2, _⟩
      · rw [Pt.atIs_lt d1, Pt.atIs_lt d1, kidT_lt d1, kidT_lt d1]; exact without_other hne (asc_tail h)
      · rw [atIs_ge d1, atIs_ge d1, kidT_eq d1 d2, kidT_eq d1 d2]; exact ⟨rfl, rfl⟩
      · rw [atIs_ge d1, atIs_ge d1, kidT_gt d1 d2, kidT_gt d1 d2]; exact ⟨rfl, rfl⟩
    · have e := names_of_eq c2
      subst e
      rw [withoutT_eq c1 c2]
      rcases cases3 s q with d1 | ⟨d1, d2⟩ | ⟨d1, d2, _⟩
      · rw [Pt.atIs_lt d1, kidT_lt d1]; exact ⟨rfl, rfl⟩
      · exact absurd (names_of_eq d2) hne
      · rw [atIs_ge d1, d2, kidT_gt d1 d2, behind h d1, kidT_not (behind h d1)]; exact ⟨rfl, rfl⟩
    · rw [withoutT_gt c1 c2]; exact ⟨rfl, rfl⟩
theorem ne_beq {p q : ByteArray} (h : p ≠ q) : (p.toList == q.toList) = false := by
  cases e : (p.toList == q.toList) with
  | false => rfl
  | true => exact absurd (names_of_eq e) h
theorem with_self {s : ByteArray} : ∀ {t : Tr}, t.atIs s = true → t.withT s (kidT t s) = t
  | .nil, h => by rw [nil_is] at h; cases h
  | .cons s0 k r, h => by
    rcases cases3 s0 s with c1 | ⟨c1, c2⟩ | ⟨c1, c2, _⟩
    · rw [Pt.atIs_lt c1] at h
      rw [kidT_lt c1, withT_lt c1, with_self h]
    · rw [kidT_eq c1 c2, withT_eq c1 c2, names_of_eq c2]
    · rw [atIs_ge c1, c2] at h; cases h

/-- a with what b has at a path. -/
def mend (b a : Tr) (p : List ByteArray) : Tr := if (getT b p).2 = true then putT a p (getT b p).1 else dropP a p
theorem mend_ascD {b a : Tr} {p : List ByteArray} (ha : AscD a) (hb : AscD b) : AscD (mend b a p) := by
  unfold mend
  split
  · refine putT_ascD ?_ ha
    have : ∀ (p : List ByteArray) {b : Tr}, AscD b → AscD (getT b p).1 := by
      intro p
      induction p with
      | nil => intro b hb; exact hb
      | cons s ps ih =>
        intro b hb
        rw [getT]
        split
        · exact ih (kidT_asc hb)
        · trivial
    exact this p hb
  · exact dropP_ascD ha
theorem mend_in {b c : Tr} {s : ByteArray} {p : List ByteArray} (hb : b.atIs s = true) (hc : c.atIs s = true) (hp : p ≠ []) : mend b c (s :: p) = c.withT s (mend (kidT b s) (kidT c s) p) := by
  unfold mend
  rw [getT, if_pos hb]
  split
  · rfl
  · cases p with
    | nil => exact absurd rfl hp
    | cons q ps => rw [dropP, if_pos hc]
theorem mends_in {b : Tr} {s : ByteArray} (hb : b.atIs s = true) : ∀ (P : List (List ByteArray)) (c : Tr), c.atIs s = true → (∀ p ∈ P, p ≠ []) → (P.map (s :: ·)).foldl (mend b) c = c.withT s (P.foldl (mend (kidT b s)) (kidT c s))
  | [], c, hc, _ => (with_self hc).symm
  | p :: P, c, hc, hP => by
    rw [List.map_cons, List.foldl_cons, List.foldl_cons, mend_in hb hc (hP p List.mem_cons_self), mends_in hb P _ with_is.1 (fun q hq => hP q (List.mem_cons_of_mem _ hq)), with_is.2, with_with]
theorem mends : ∀ (N : Nat) {a b : Tr}, a.size + b.size ≤ N → AscD a → AscD b → (dP N a b).foldl (mend b) a = b
  | 0, a, b, hz, _, _ => by rw [size_zero (by omega : a.size = 0), size_zero (by omega : b.size = 0)]; rfl
  | N + 1, a, b, hz, ha, hb => by
    have key : ∀ (L : List ByteArray) (c : Tr), L.Nodup → AscD c → (∀ s ∈ L, c.atIs s = a.atIs s ∧ kidT c s = kidT a s) →
        AscD ((L.flatMap (dS N a b)).foldl (mend b) c) ∧ ∀ q, (q ∈ L → ((L.flatMap (dS N a b)).foldl (mend b) c).atIs q = b.atIs q ∧ kidT ((L.flatMap (dS N a b)).foldl (mend b) c) q = kidT b q) ∧ (q ∉ L → ((L.flatMap (dS N a b)).foldl (mend b) c).atIs q = c.atIs q ∧ kidT ((L.flatMap (dS N a b)).foldl (mend b) c) q = kidT c q) := by
      intro L
      induction L with
      | nil => intro c _ hc _; exact ⟨hc, fun q => ⟨fun h => by simp at h, fun _ => ⟨rfl, rfl⟩⟩⟩
      | cons s L ih =>
        intro c hd hc hsame
        rw [List.nodup_cons] at hd
        have head : AscD ((dS N a b s).foldl (mend b) c) ∧ (((dS N a b s).foldl (mend b) c).atIs s = b.atIs s ∧ kidT ((dS N a b s).foldl (mend b) c) s = kidT b s) ∧ ∀ q, s ≠ q → ((dS N a b s).foldl (mend b) c).atIs q = c.atIs q ∧ kidT ((dS N a b s).foldl (mend b) c) q = kidT c q := by
          obtain ⟨h1, h2⟩ := hsame s List.mem_cons_self
          cases hab : (a.atIs s && b.atIs s) with
          | true =>
            rw [Bool.and_eq_true] at hab
            have z1 := kid_lt hab.1
            have z2 := kid_lt hab.2
            have e : (dS N a b s).foldl (mend b) c = c.withT s (kidT b s) := by
              rw [dS_both hab.1 hab.2, mends_in hab.2 _ _ (by rw [h1]; exact hab.1) (fun p hp => (dP_diff N (kidT_asc ha) (kidT_asc hb) p hp).1), h2, mends N (by omega) (kidT_asc ha) (kidT_asc hb)]
            rw [e]
            exact ⟨withT_ascD (kidT_asc hb) hc, ⟨by rw [with_is.1, hab.2], with_is.2⟩, fun q hq => with_other (ne_beq hq) hc.asc⟩
          | false =>
            have e : (dS N a b s).foldl (mend b) c = mend b c [s] := by rw [dS_one hab]; rfl
            rw [e]
            cases hbs : b.atIs s with
            | true =>
              have e2 : mend b c [s] = c.withT s (kidT b s) := by
                unfold mend
                rw [getT, if_pos hbs]
                rfl
              rw [e2]
              exact ⟨withT_ascD (kidT_asc hb) hc, ⟨with_is.1, with_is.2⟩, fun q hq => with_other (ne_beq hq) hc.asc⟩
            | false =>
              have e2 : mend b c [s] = if c.atIs s = true then withoutT c s else c := by
                unfold mend
                rw [getT, if_neg (by rw [hbs]; simp)]
                exact dropP.eq_2 c s
              rw [e2, kidT_not hbs]
              cases hcs : c.atIs s with
              | true =>
                rw [if_pos rfl]
                exact ⟨withoutT_ascD hc, ⟨without_at hc.asc, kidT_not (without_at hc.asc)⟩, fun q hq => without_other hq hc.asc⟩
              | false =>
                rw [if_neg (by simp)]
                exact ⟨hc, ⟨hcs, kidT_not hcs⟩, fun q _ => ⟨rfl, rfl⟩⟩
        rw [List.flatMap_cons, List.foldl_append]
        obtain ⟨i1, i2⟩ := ih ((dS N a b s).foldl (mend b) c) hd.2 head.1 (fun q hq => by
          obtain ⟨j1, j2⟩ := head.2.2 q (fun e => hd.1 (by rw [e]; exact hq))
          obtain ⟨j3, j4⟩ := hsame q (List.mem_cons_of_mem _ hq)
          exact ⟨j1.trans j3, j2.trans j4⟩)
        refine ⟨i1, fun q => ⟨fun hq => ?_, fun hq => ?_⟩⟩
        · rw [List.mem_cons] at hq
          by_cases hqL : q ∈ L
          · exact (i2 q).1 hqL
          · have e : q = s := hq.resolve_right hqL
            subst e
            obtain ⟨j1, j2⟩ := (i2 q).2 hqL
            exact ⟨j1.trans head.2.1.1, j2.trans head.2.1.2⟩
        · rw [List.mem_cons, not_or] at hq
          obtain ⟨j1, j2⟩ := (i2 q).2 hq.2
          obtain ⟨j3, j4⟩ := head.2.2 q (fun e => hq.1 e.symm)
          exact ⟨j1.trans j3, j2.trans j4⟩
    obtain ⟨k1, k2⟩ := key (nsT a b) a (ns_nodup a b) ha (fun _ _ => ⟨rfl, rfl⟩)
    rw [dP_succ]
    have hall : ∀ q, (((nsT a b).flatMap (dS N a b)).foldl (mend b) a).atIs q = b.atIs q ∧ kidT (((nsT a b).flatMap (dS N a b)).foldl (mend b) a) q = kidT b q := by
      intro q
      by_cases hq : q ∈ nsT a b
      · exact (k2 q).1 hq
      · obtain ⟨j1, j2⟩ := (k2 q).2 hq
        have hno : ¬ (a.atIs q = true ∨ b.atIs q = true) := fun e => hq ((mem_ns ha.asc hb.asc).2 e)
        rw [not_or] at hno
        have ea : a.atIs q = false := by simpa using hno.1
        have eb : b.atIs q = false := by simpa using hno.2
        rw [j1, j2, ea, eb, kidT_not ea, kidT_not eb]
        exact ⟨rfl, rfl⟩
    exact ext_at k1.asc hb.asc (fun q => (hall q).1) (fun q _ => (hall q).2)

theorem flatMap_one {α β : Type} {f : α → List β} {s : α} : ∀ {l : List α}, l.Nodup → s ∈ l → (∀ q ∈ l, q ≠ s → f q = []) → l.flatMap f = f s
  | [], _, h, _ => by simp at h
  | a :: l, hd, hs, h => by
    rw [List.nodup_cons] at hd
    rw [List.flatMap_cons]
    rw [List.mem_cons] at hs
    rcases hs with rfl | hs
    · have : l.flatMap f = [] := by
        rw [List.flatMap_eq_nil_iff]
        exact fun q hq => h q (List.mem_cons_of_mem _ hq) (fun e => hd.1 (by rw [← e]; exact hq))
      rw [this, List.append_nil]
    · rw [h a List.mem_cons_self (fun e => hd.1 (by rw [e]; exact hs)), List.nil_append, flatMap_one hd.2 hs (fun q hq => h q (List.mem_cons_of_mem _ hq))]
/-- A tree with something put at one place differs from itself there alone, or below. -/
theorem put_diff {x : Tr} (hx : AscD x) : ∀ (ps : List ByteArray) {t : Tr} (N : Nat), t.size + (putT t ps x).size ≤ N → AscD t →
    ((getT t ps).2 = false → ∃ p, dP N t (putT t ps x) = [p] ∧ p <+: ps) ∧
    ((getT t ps).2 = true → ∃ M, dP N t (putT t ps x) = (dP M (getT t ps).1 x).map (ps ++ ·) ∧ (getT t ps).1.size + x.size ≤ M)
  | [], t, N, hz, ht => by
    refine ⟨fun h => (by cases h), fun _ => ⟨N, ?_, hz⟩⟩
    rw [show putT t [] x = x by cases t <;> rfl, show (fun p : List ByteArray => [] ++ p) = id from rfl, List.map_id]
    rfl
  | s :: ps, t, 0, hz, ht => by
    have := kid_lt (with_is (t := t) (name := s) (x := putT (kidT t s) ps x)).1
    rw [putT] at hz
    omega
  | s :: ps, t, N + 1, hz, ht => by
    obtain ⟨y, hy⟩ : ∃ y, y = putT (kidT t s) ps x := ⟨_, rfl⟩
    have hya : AscD y := by rw [hy]; exact putT_ascD hx (kidT_asc ht)
    obtain ⟨w1, w2⟩ := with_is (t := t) (name := s) (x := y)
    have hwa : AscD (t.withT s y) := withT_ascD hya ht
    have e : dP (N + 1) t (putT t (s :: ps) x) = dS N t (t.withT s y) s := by
      rw [putT, ← hy, dP_succ]
      refine flatMap_one (ns_nodup _ _) ((mem_ns ht.asc hwa.asc).2 (.inr w1)) fun q hq hne => ?_
      obtain ⟨o1, o2⟩ := with_other (x := y) (ne_beq (fun e => hne e.symm)) ht.asc
      have h1 : t.atIs q = true := by
        rcases (mem_ns ht.asc hwa.asc).1 hq with h | h
        · exact h
        · rw [← o1]; exact h
      rw [dS_both h1 (by rw [o1]; exact h1), o2, dP_self N (kidT_asc ht)]
      rfl
    rw [putT, ← hy] at hz
    have z2 := kid_lt w1
    rw [w2] at z2
    rw [e, getT]
    cases hts : t.atIs s with
    | true =>
      have z1 := kid_lt hts
      rw [if_pos rfl, dS_both hts w1, w2]
      obtain ⟨i1, i2⟩ := put_diff hx ps (t := kidT t s) N (by rw [← hy]; omega) (kidT_asc ht)
      rw [← hy] at i1 i2
      refine ⟨fun h => ?_, fun h => ?_⟩
      · obtain ⟨p, hp, hpp⟩ := i1 h
        rw [hp]
        exact ⟨s :: p, rfl, (List.prefix_cons_inj _).2 hpp⟩
      · obtain ⟨M, hM, hzM⟩ := i2 h
        refine ⟨M, ?_, hzM⟩
        rw [hM, List.map_map]
        rfl
    | false =>
      rw [if_neg (by simp), dS_one (by rw [hts, Bool.false_and])]
      exact ⟨fun _ => ⟨[s], rfl, (List.prefix_cons_inj _).2 (List.nil_prefix)⟩, fun h => (by cases h)⟩
end Go.Proofs.Ytchoipmfngcdoaa.Df
namespace Go.Proofs.Ytchoipmfngcdoaa.Nm
open Go.RowKit
set_option maxRecDepth 100000

theorem less_iff (x y : ByteArray) : Op.bytesLess x.toList y.toList = true ↔ x.data.toList < y.data.toList := by
  rw [Go.Proofs.bytesLess_eq, ByteArray.toList_eq, ByteArray.toList_eq, decide_eq_true_iff]
/-- Of a list in order: what compactUpTo keeps. -/
theorem upTo_facts (zs : List (List UInt8)) (h : zs.Pairwise (· ≤ ·)) : ∀ m, m ≤ zs.length →
    (Go.Lib.compactUpTo zs.toArray m).Pairwise (· < ·) ∧ (∀ x ∈ Go.Lib.compactUpTo zs.toArray m, ∃ j, j < m ∧ x = zs.toArray[j]!) ∧ ∀ j, j < m → zs.toArray[j]! ∈ Go.Lib.compactUpTo zs.toArray m := by
  have hle : ∀ i j, i ≤ j → j < zs.length → zs.toArray[i]! ≤ zs.toArray[j]! := by
    intro i j hij hj
    rw [getElem!_pos _ i (by simp; omega), getElem!_pos _ j (by simpa using hj)]
    simp only [List.getElem_toArray]
    rcases Nat.lt_or_ge i j with g | g
    · exact List.pairwise_iff_getElem.1 h i j (by omega) hj g
    · obtain rfl : i = j := by omega
      exact List.le_refl _
  intro m
  induction m with
  | zero => intro _; exact ⟨by simp [Go.Lib.compactUpTo], by simp [Go.Lib.compactUpTo], by intro j hj; omega⟩
  | succ m ih =>
    intro hm
    obtain ⟨h1, h2, h3⟩ := ih (by omega)
    rw [Go.Lib.compactUpTo_succ]
    by_cases hk : Go.Lib.keeps zs.toArray m = true
    · rw [if_pos hk]
      have hk' := of_decide_eq_true hk
      refine ⟨?_, ?_, ?_⟩
      · rw [List.pairwise_append]
        refine ⟨h1, List.pairwise_singleton _ _, fun x hx y hy => ?_⟩
        obtain ⟨j, hj, rfl⟩ := h2 x hx
        rw [List.mem_singleton] at hy
        subst hy
        rcases hk' with e | e
        · omega
        · have a1 := hle j (m - 1) (by omega) (by omega)
          have a2 := hle (m - 1) m (by omega) (by omega)
          refine List.lt_of_le_of_lt a1 ?_
          by_cases h4 : zs.toArray[m]! ≤ zs.toArray[m - 1]!
          · exact absurd (List.le_antisymm h4 a2) e
          · simpa using h4
      · intro x hx
        rw [List.mem_append, List.mem_singleton] at hx
        rcases hx with hx | rfl
        · obtain ⟨j, hj, e⟩ := h2 x hx
          exact ⟨j, by omega, e⟩
        · exact ⟨m, by omega, rfl⟩
      · intro j hj
        rw [List.mem_append, List.mem_singleton]
        by_cases e : j = m
        · right; rw [e]
        · left; exact h3 j (by omega)
    · rw [if_neg hk, List.append_nil]
      have hk' : ¬ (m = 0 ∨ zs.toArray[m]! ≠ zs.toArray[m - 1]!) := fun e => hk (decide_eq_true e)
      refine ⟨h1, fun x hx => ?_, fun j hj => ?_⟩
      · obtain ⟨j, hj, e⟩ := h2 x hx
        exact ⟨j, by omega, e⟩
      · by_cases e : j = m
        · subst e
          have e1 : zs.toArray[j]! = zs.toArray[j - 1]! := Classical.byContradiction fun h => hk' (.inr h)
          rw [e1]
          exact h3 (j - 1) (by omega)
        · exact h3 j (by omega)
theorem sorted_pair (ss : List (List UInt8)) : (sorted ss).Pairwise (· ≤ ·) :=
  (List.pairwise_mergeSort (le := fun x y => decide (x ≤ y)) (fun a b c h1 h2 => by simp only [decide_eq_true_eq] at *; exact List.le_trans h1 h2) (fun a b => by simp only [Bool.or_eq_true, decide_eq_true_eq]; exact List.le_total a b) ss).imp (fun h => of_decide_eq_true h)
/-- In order, each once. -/
def ord (ss : List (List UInt8)) : List (List UInt8) := once (sorted ss)
theorem ord_pair (ss : List (List UInt8)) : (ord ss).Pairwise (· < ·) :=
  (upTo_facts _ (sorted_pair _) _ (Nat.le_refl _)).1
theorem ord_mem (ss : List (List UInt8)) (x : List UInt8) : x ∈ ord ss ↔ x ∈ ss := by
  obtain ⟨_, h2, h3⟩ := upTo_facts _ (sorted_pair ss) _ (Nat.le_refl _)
  have hp : ∀ y, y ∈ sorted ss ↔ y ∈ ss := fun y => List.mem_mergeSort
  rw [← hp]
  constructor
  · intro hx
    obtain ⟨j, hj, rfl⟩ := h2 x hx
    rw [getElem!_pos _ j (by simpa using hj)]
    simp
  · intro hx
    obtain ⟨j, hj, rfl⟩ := List.getElem_of_mem hx
    have := h3 j hj
    rw [getElem!_pos _ j (by simpa using hj), List.getElem_toArray] at this
    exact this
theorem ord_le (ss : List (List UInt8)) : (ord ss).length ≤ ss.length := by
  have := once_le (sorted ss)
  rw [sorted_length] at this
  exact this
theorem len_le {α : Type} [DecidableEq α] : ∀ (l m : List α), l.Nodup → (∀ x ∈ l, x ∈ m) → l.length ≤ m.length
  | [], m, _, _ => Nat.zero_le _
  | a :: l, m, hd, hs => by
    rw [List.nodup_cons] at hd
    have ha := hs a List.mem_cons_self
    have := len_le l (m.erase a) hd.2 (fun x hx => (List.mem_erase_of_ne (fun e => hd.1 (by rw [← e]; exact hx))).2 (hs x (List.mem_cons_of_mem _ hx)))
    rw [List.length_erase_of_mem ha] at this
    have : 0 < m.length := List.length_pos_of_mem ha
    simp only [List.length_cons]
    omega
theorem asc_nodup {l : List (List UInt8)} (h : l.Pairwise (· < ·)) : l.Nodup :=
  h.imp (fun h e => by rw [e] at h; exact List.lt_irrefl _ h)
/-- Two lists in order with the same members are one. -/
theorem asc_eq : ∀ {l m : List (List UInt8)}, l.Pairwise (· < ·) → m.Pairwise (· < ·) → (∀ x, x ∈ l ↔ x ∈ m) → l = m
  | [], [], _, _, _ => rfl
  | [], b :: m, _, _, h => by have := (h b).2 List.mem_cons_self; simp at this
  | a :: l, [], _, _, h => by have := (h a).1 List.mem_cons_self; simp at this
  | a :: l, b :: m, hl, hm, h => by
    rw [List.pairwise_cons] at hl hm
    have e : a = b := by
      have h1 := (h a).1 List.mem_cons_self
      have h2 := (h b).2 List.mem_cons_self
      rw [List.mem_cons] at h1 h2
      rcases h1 with e | h1
      · exact e
      · rcases h2 with e | h2
        · exact e.symm
        · exact absurd (List.lt_trans (hl.1 b h2) (hm.1 a h1)) (List.lt_irrefl _)
    subst e
    rw [asc_eq hl.2 hm.2 (fun x => ?_)]
    have := h x
    rw [List.mem_cons, List.mem_cons] at this
    constructor
    · intro hx
      rcases this.1 (.inr hx) with e | e
      · subst e; exact absurd (hl.1 _ hx) (List.lt_irrefl _)
      · exact e
    · intro hx
      rcases this.2 (.inr hx) with e | e
      · subst e; exact absurd (hm.1 _ hx) (List.lt_irrefl _)
      · exact e

/-- Of a list in order: where a name stands, or would. -/
theorem cut : ∀ (ss : List (List UInt8)) (x : List UInt8), ss.Pairwise (· < ·) → ∃ p, p ≤ ss.length ∧ (∀ t y, ss[t]? = some y → (y < x ↔ t < p)) ∧ (x ∈ ss ↔ ss[p]? = some x)
  | [], x, _ => ⟨0, Nat.le_refl _, fun t y h => by simp at h, by simp⟩
  | a :: r, x, h => by
    rw [List.pairwise_cons] at h
    by_cases hl : a < x
    · obtain ⟨p, h1, h2, h3⟩ := cut r x h.2
      refine ⟨p + 1, by simpa using h1, fun t y ht => ?_, ?_⟩
      · cases t with
        | zero =>
          simp only [List.getElem?_cons_zero, Option.some.injEq] at ht
          subst ht
          simp [hl]
        | succ t =>
          simp only [List.getElem?_cons_succ] at ht
          rw [h2 t y ht]
          omega
      · rw [List.getElem?_cons_succ, ← h3, List.mem_cons]
        constructor
        · rintro (e | e)
          · rw [e] at hl; exact absurd hl (List.lt_irrefl _)
          · exact e
        · exact Or.inr
    · refine ⟨0, Nat.zero_le _, fun t y ht => ?_, ?_⟩
      · cases t with
        | zero =>
          simp only [List.getElem?_cons_zero, Option.some.injEq] at ht
          subst ht
          simp [hl]
        | succ t =>
          simp only [List.getElem?_cons_succ] at ht
          have := h.1 y (List.mem_of_getElem? ht)
          constructor
          · intro g; exact absurd (List.lt_trans this g) hl
          · intro g; omega
      · rw [List.getElem?_cons_zero, List.mem_cons]
        constructor
        · rintro (e | e)
          · rw [e]
          · exact absurd (h.1 x e) hl
        · intro e
          injection e with e
          exact .inl e.symm

/-- A set: all names but some, or some. -/
structure St where
  all : Bool
  l : List (List UInt8)
def St.mem (s : St) (x : List UInt8) : Bool := decide (x ∈ s.l) != s.all
def comb (op : Bool → Bool → Bool) (a b : St) : St :=
  ⟨op a.all b.all, (ord (a.l ++ b.l)).filter fun x => op (a.mem x) (b.mem x) != op a.all b.all⟩
def fr (a : St) : St := ⟨a.all, ord a.l⟩
def nott (a : St) : St := ⟨!a.all, ord a.l⟩
def St.none (s : St) : Bool := !s.all && decide (s.l.length = 0)
def both (a b : St) : St := comb (· && ·) (fr a) (fr b)
def either (a b : St) : St := comb (· || ·) (fr a) (fr b)
def same (a b : St) : Bool := (comb (· != ·) (fr a) (fr b)).none

theorem fr_mem (a : St) (x : List UInt8) : (fr a).mem x = a.mem x := by
  simp only [St.mem, fr]
  congr 1
  exact decide_eq_decide.2 (ord_mem _ _)
theorem nott_mem (a : St) (x : List UInt8) : (nott a).mem x = !a.mem x := by
  have : decide (x ∈ ord a.l) = decide (x ∈ a.l) := decide_eq_decide.2 (ord_mem _ _)
  show (decide (x ∈ ord a.l) != !a.all) = !(decide (x ∈ a.l) != a.all)
  rw [this]
  cases decide (x ∈ a.l) <;> cases a.all <;> rfl
theorem comb_mem (op : Bool → Bool → Bool) (a b : St) (x : List UInt8) : (comb op a b).mem x = op (a.mem x) (b.mem x) := by
  by_cases h : x ∈ a.l ++ b.l
  · have : decide (x ∈ (comb op a b).l) = (op (a.mem x) (b.mem x) != op a.all b.all) := by
      rw [Bool.eq_iff_iff, decide_eq_true_iff]
      simp only [comb, List.mem_filter, ord_mem, h, true_and]
    show (decide (x ∈ (comb op a b).l) != op a.all b.all) = _
    rw [this]
    cases op (a.mem x) (b.mem x) <;> cases op a.all b.all <;> rfl
  · have h0 : decide (x ∈ (comb op a b).l) = false := by
      rw [decide_eq_false_iff_not]
      simp only [comb, List.mem_filter, ord_mem, h, false_and, not_false_eq_true]
    rw [List.mem_append, not_or] at h
    show (decide (x ∈ (comb op a b).l) != op a.all b.all) = _
    rw [h0]
    simp [St.mem, h.1, h.2]
theorem comb_pair (op : Bool → Bool → Bool) (a b : St) : (comb op a b).l.Pairwise (· < ·) := (ord_pair _).filter _
theorem comb_le (op : Bool → Bool → Bool) (a b : St) : (comb op a b).l.length ≤ a.l.length + b.l.length := by
  refine Nat.le_trans (List.length_filter_le ..) (Nat.le_trans (ord_le _) ?_)
  rw [List.length_append]
  exact Nat.le_refl _
theorem fr_le (a : St) : (fr a).l.length ≤ a.l.length := ord_le _
theorem both_mem (a b : St) (x : List UInt8) : (both a b).mem x = (a.mem x && b.mem x) := by rw [both, comb_mem, fr_mem, fr_mem]
theorem either_mem (a b : St) (x : List UInt8) : (either a b).mem x = (a.mem x || b.mem x) := by rw [either, comb_mem, fr_mem, fr_mem]
theorem both_pair (a b : St) : (both a b).l.Pairwise (· < ·) := comb_pair ..
theorem either_pair (a b : St) : (either a b).l.Pairwise (· < ·) := comb_pair ..
theorem nott_pair (a : St) : (nott a).l.Pairwise (· < ·) := ord_pair _
theorem both_le (a b : St) : (both a b).l.length ≤ a.l.length + b.l.length := by
  have := comb_le (· && ·) (fr a) (fr b); have := fr_le a; have := fr_le b
  unfold both; omega
theorem either_le (a b : St) : (either a b).l.length ≤ a.l.length + b.l.length := by
  have := comb_le (· || ·) (fr a) (fr b); have := fr_le a; have := fr_le b
  unfold either; omega
theorem nott_le (a : St) : (nott a).l.length ≤ a.l.length := ord_le _
/-- No name is in it, and it is not All: it is none. -/
theorem none_of {s : St} (h0 : s.all = false) (h : ∀ x, s.mem x = false) : s.none = true := by
  have : s.l = [] := by
    rw [List.eq_nil_iff_forall_not_mem]
    intro x hx
    have := h x
    rw [St.mem, h0, decide_eq_true hx] at this
    cases this
  rw [St.none, h0, this]
  rfl
theorem same_of {a b : St} (h0 : a.all = b.all) (h : ∀ x, a.mem x = b.mem x) : same a b = true := by
  refine none_of ?_ fun x => ?_
  · simp [comb, fr, h0]
  · rw [comb_mem, fr_mem, fr_mem, h x]
    cases b.mem x <;> rfl
theorem same_iff (a b : St) : same a b = true ↔ a.all = b.all ∧ ∀ x, x ∈ a.l ↔ x ∈ b.l := by
  constructor
  · intro h
    unfold same St.none at h
    rw [Bool.and_eq_true, decide_eq_true_iff, Bool.not_eq_true'] at h
    have h0 : a.all = b.all := by
      have := h.1
      simp only [comb, fr] at this
      cases ha : a.all <;> cases hb : b.all <;> simp_all
    refine ⟨h0, fun x => ?_⟩
    have hm := comb_mem (· != ·) (fr a) (fr b) x
    rw [fr_mem, fr_mem] at hm
    have e : (comb (· != ·) (fr a) (fr b)).mem x = false := by
      rw [St.mem, h.1, List.eq_nil_of_length_eq_zero h.2]; rfl
    rw [e] at hm
    have hm' : false = ((decide (x ∈ a.l) != b.all) != (decide (x ∈ b.l) != b.all)) := by unfold St.mem at hm; rw [h0] at hm; exact hm
    have hd : decide (x ∈ a.l) = decide (x ∈ b.l) := by
      revert hm'
      cases decide (x ∈ a.l) <;> cases decide (x ∈ b.l) <;> cases b.all <;> intro e <;> first | rfl | cases e
    exact decide_eq_decide.1 hd
  · rintro ⟨h0, h⟩
    refine same_of h0 fun x => ?_
    have : decide (x ∈ a.l) = decide (x ∈ b.l) := decide_eq_decide.2 (h x)
    rw [St.mem, St.mem, this, h0]
end Go.Proofs.Ytchoipmfngcdoaa.Nm
namespace Go.Proofs.Ytchoipmfngcdoaa.Nm
open Go.RowKit
set_option maxRecDepth 100000

def encL (ss : List (List UInt8)) : List ByteArray := ss.map fun x => ⟨x.toArray⟩
theorem encL_string (ss : List (List UInt8)) : (encL ss).map Value.string = ss.map encs := by
  simp only [encL, List.map_map]; rfl
theorem encL_back (ss : List (List UInt8)) : (encL ss).map (·.data.toList) = ss := by
  simp [encL, Function.comp_def]

theorem Row1.ofv {w : World} {base N : Nat} {v : Value} {L : List ByteArray} (h : w.ownsRow base 9 1 v N (L.map Value.string)) : ∃ A c, v = .slice A N c ∧ Row1 w base A N c (L.map (·.data.toList)) := by
  have h' := h
  obtain ⟨hr1, hr⟩ := h
  rcases hr with ⟨e1, e⟩ | ⟨g, cap, cur, e, _⟩
  · subst e1; subst e
    exact ⟨none, 0, rfl, Row1.of h'⟩
  · subst e
    exact ⟨_, _, rfl, Row1.of h'⟩

def Ordered (ss : List (List UInt8)) (w : World) (e : Ending) (w' : World) : Prop :=
  ∃ A' c', e = .returned (.slice A' (ord ss).length c') ∧ SeesV w' w'.heap.size A' (ord ss).length ((ord ss).map encs) ∧ Below w.heap.size w w'

set_option maxHeartbeats 1000000 in
theorem isNaN_cmp (x : ByteArray) (w : World) : Calls Try.prog 100 #[.string x] w fun e w' => e = .returned (.bool false) ∧ w = w' := by
  go_enter Try.func100, Try.ntmps100
  go_wp2
  go_ret
  exact ⟨by simp, rfl⟩
theorem less_any (x y : ByteArray) (w : World) : Calls Try.prog 84 #[.string x, .string y] w fun e w' => e = .returned (.bool (Op.bytesLess x.toList y.toList)) ∧ w = w' := by
  go_enter Try.func84, Try.ntmps84
  go_wp2_with (go_at_call 100; refine (isNaN_cmp _ _).mono ?_; rintro e w' ⟨rfl, rfl⟩)
  go_ret
  exact ⟨rfl, rfl⟩
end Go.Proofs.Ytchoipmfngcdoaa.Nm
namespace Go.Proofs.Ytchoipmfngcdoaa.Nm
open Go.RowKit
set_option maxRecDepth 100000

def Found (d : Bool) (w : World) (e : Ending) (w' : World) : Prop := ∃ i : Int, e = .returned (.tuple #[.int .i64 i, .bool d]) ∧ w = w'

theorem tl_eq (s : ByteArray) : s.toList = s.data.toList := ByteArray.toList_eq _

end Go.Proofs.Ytchoipmfngcdoaa.Nm
namespace Go.Proofs.Ytchoipmfngcdoaa.Nm
open Go.RowKit
set_option maxRecDepth 100000

theorem info_str : (Try.prog.info? 9).map (fun i => (i.zero, i.size, i.bytes)) = some (some (.string ⟨#[]⟩), 1, 16) := by kernel_rfl
theorem elem_s : Elem Try.prog 35 9 (.string ⟨#[]⟩) 1 16 := ⟨Try.underlying35, info_str, rfl, by omega⟩
theorem encs_one (ss : List (List UInt8)) : ∀ u ∈ ss.map encs, u.oneCell' = true := by
  intro u hu
  simp only [List.mem_map] at hu
  obtain ⟨x, _, rfl⟩ := hu
  rfl
/-- What append takes: a row of strings, nil too. -/
theorem src_strs {w : World} {B n c : Nat} {A : Option Addr} {ss : List (List UInt8)} (h : SeesV w B A n (ss.map encs)) : Src Try.prog 1 35 (.slice A n c) n (ss.map encs) w := by
  have hl := h.len
  cases A with
  | none =>
    cases ss with
    | nil =>
      have : n = 0 := by simpa using hl
      subst this
      exact Src.ofNil w Try.underlying35 c
    | cons y r =>
      obtain ⟨b, o, e, _⟩ := h.cell 0 (encs y) rfl
      cases e
  | some a => exact Src.ofSlice w Try.underlying35 a n c (ss.map encs) (by rw [hl, Nat.mul_one]) (fun j u hu => by
      obtain ⟨b, o, e, _, hc⟩ := h.cell j u hu
      injection e with e
      subst e
      rw [Addr.add_lit]
      exact hc) (encs_one ss)
/-- A row of the call's own, seen. -/
theorem sees_own {w : World} {base n c : Nat} {A : Option Addr} {ss : List (List UInt8)} (h : w.ownsRow base 9 1 (.slice A n c) n (ss.map encs)) : SeesV w w.heap.size A n (ss.map encs) := by
  obtain ⟨h1, hr⟩ := h
  refine ⟨by omega, fun j u hu => ?_⟩
  rcases hr with ⟨_, e⟩ | ⟨g, cap, cur, e, hg, hh, hcap, hmx, hsz, htk⟩
  · have : (ss.map encs) = [] := List.eq_nil_of_length_eq_zero (by omega)
    rw [this] at hu
    simp at hu
  · injection e with e1 e2 e3
    subst e1
    refine ⟨g, 0, rfl, (Array.getElem?_eq_some_iff.1 hh).1, ?_⟩
    rw [cell_of_row w g _ cur _ _ hh, Nat.zero_add]
    have hj : (cur.toList.take (n * 1))[j]? = some u := by rw [htk]; exact hu
    rw [List.getElem?_take] at hj
    split at hj
    · rw [← Array.getElem?_toList]; exact hj
    · cases hj

def Grown (w : World) (e : Ending) (w' : World) : Prop := ∃ A c, e = .returned (.slice A 0 c) ∧ w'.ownsRow w.heap.size 9 1 (.slice A 0 c) 0 [] ∧ Below w.heap.size w w'

set_option maxHeartbeats 400000 in
theorem grow_any (n : Nat) (hn : n ≤ 1099511627776) (w : World) : Calls Try.prog 66 #[.slice none 0 0, .int .i64 n] w (Grown w) := by
  by_cases h0 : n = 0
  · subst h0
    go_enter Try.func66, Try.ntmps66
    go_wp2
    go_ret
    exact ⟨none, 0, rfl, World.ownsRow_nil _ _ _ _, Below.refl _ _⟩
  · obtain ⟨i0, hi0, hz0, hs0, hb0⟩ := info_parts info_str
    have hr : ∀ ty, (Builtin.append_ #[35, 3] ty #[.slice none 0 0, .int .i64 n]).run Try.prog w = .ok (.slice (some ⟨w.heap.size, 0, none⟩) n (grownCap w n 0 9)) (w.drew.alloc (.cells (Builtin.zeroCells (Value.string ⟨#[]⟩).cells n ++ Builtin.zeroCells (Value.string ⟨#[]⟩).cells (grownCap w n 0 9 - n)) 9)) := by
      intro ty
      have h := Lib.run_append_grow_zeros (P := Try.prog) w 35 3 ty 9 i0 (.string ⟨#[]⟩) .i64 .i64 Try.underlying35 Try.underlying3 hi0 hz0 none 0 0 [] (run_firstCells_none w.drew i0.size 0 0 0) n (by omega) (by omega) (by omega) (by omega) (by rw [hb0]; omega) (by
        have := growslice_fits (need := 0 + n) (old := 0) (bytes := i0.bytes) (by omega) (by rw [hb0]; omega)
        exact this)
      simpa using h
    have hge := grownCap_ge w n 0 9
    have hcm := grownCap_le_maxLen w n 0 9 (by simp only [maxLen]; omega)
    obtain ⟨G, hG⟩ : ∃ G, G = grownCap w n 0 9 := ⟨_, rfl⟩
    rw [← hG] at hr hge hcm
    have hzc : (Builtin.zeroCells (Value.string ⟨#[]⟩).cells n ++ Builtin.zeroCells (Value.string ⟨#[]⟩).cells (G - n)).size = G * 1 := by
      simp only [Array.size_append, size_zeroCells]
      rw [show (Value.string ⟨#[]⟩).cells.size = 1 from rfl]
      omega
    have hown := World.ownsRow_made (base := w.heap.size) (e := 9) (size := 1) w.drew (Builtin.zeroCells (Value.string ⟨#[]⟩).cells n ++ Builtin.zeroCells (Value.string ⟨#[]⟩).cells (G - n)) G (by simp) hcm hzc
    generalize (Builtin.zeroCells (Value.string ⟨#[]⟩).cells n ++ Builtin.zeroCells (Value.string ⟨#[]⟩).cells (G - n)) = Z at *
    have hG2 : G ≤ 9223372036854775807 := by simp only [maxLen] at hcm; omega
    have Hown := Lib.hid hown
    clear hown hG hzc hi0 hz0 hs0 hb0 hcm
    go_enter Try.func66, Try.ntmps66
    go_wp2_with (at_builtin; refine Lib.wpList_append_run _ rfl _ _ _ _ rfl _ _ rfl rfl _ _ (hr _) ?_)
    go_ret
    exact ⟨_, _, rfl, Hown.out, (Below.refl _ _).drew.alloc (Nat.le_refl _) _⟩

/-- What is joined: the slices at the cells of a slice of slices. -/
structure Parts (w : World) (g : Nat) (vs : List Value) (ls : List (List (List UInt8))) : Prop where
  len : vs.length = ls.length
  cell : ∀ (i : Nat) v, vs[i]? = some v → w.cell? ⟨g, i, none⟩ = some v
  sees : ∀ (i : Nat) l, ls[i]? = some l → ∃ A n c, vs[i]? = some (.slice A n c) ∧ SeesV w w.heap.size A n (l.map encs)

theorem Parts.two {w : World} {g : Nat} {A B : Option Addr} {n m c d : Nat} {l k : List (List UInt8)} (hg : w.heap[g]? = some (.cells #[.slice A n c, .slice B m d] 35 (0, 0))) (h1 : SeesV w w.heap.size A n (l.map encs)) (h2 : SeesV w w.heap.size B m (k.map encs)) :
    Parts w g [.slice A n c, .slice B m d] [l, k] := by
  refine ⟨rfl, fun i v hv => ?_, fun i l' hl => ?_⟩
  · rw [cell_of_row w g i _ _ _ hg]
    simpa using hv
  · match i, hl with
    | 0, hl => simp at hl; subst hl; exact ⟨A, n, c, rfl, h1⟩
    | 1, hl => simp at hl; subst hl; exact ⟨B, m, d, rfl, h2⟩

theorem flat_succ {ls : List (List (List UInt8))} {k : Nat} {l : List (List UInt8)} (h : ls[k]? = some l) : (ls.take (k + 1)).flatten = (ls.take k).flatten ++ l := by
  rw [List.take_add_one, h]
  simp
theorem flat_le (ls : List (List (List UInt8))) (k : Nat) : (ls.take k).flatten.length ≤ ls.flatten.length := by
  conv => rhs; rw [← List.take_append_drop k ls, List.flatten_append, List.length_append]
  exact Nat.le_add_right _ _

def Joined (l : List (List UInt8)) (w : World) (e : Ending) (w' : World) : Prop := ∃ A c, e = .returned (.slice A l.length c) ∧ SeesV w' w'.heap.size A l.length (l.map encs) ∧ Below w.heap.size w w'

set_option maxHeartbeats 1000000 in
theorem concat_any (g K : Nat) (vs : List Value) (ls : List (List (List UInt8))) (w : World) (hp : Parts w g vs ls) (hK : K = ls.length) (hK2 : K ≤ 65536) (hT : ls.flatten.length ≤ 1099511627776) (hg : g < w.heap.size) :
    Calls Try.prog 56 #[.slice (some ⟨g, 0, none⟩) K K] w (Joined ls.flatten w) := by
  have HK := Lib.hid hK
  clear hK
  obtain ⟨T, hTd⟩ : ∃ T : Nat → Nat, T = fun k => (ls.take k).flatten.length := ⟨_, rfl⟩
  have HT : Hid (∀ k, T k = (ls.take k).flatten.length) := by intro k; rw [hTd]
  have HTb : Hid (∀ k, T k ≤ 1099511627776) := by
    intro k
    rw [hTd]
    exact Nat.le_trans (flat_le ls k) hT
  have HT0 : Hid (T 0 = 0) := by rw [HT.out]; rfl
  clear hTd
  go_enter Try.func56, Try.ntmps56
  go_wp2
  go_loop [3, 11] (fun v i => ∃ k : Nat, k ≤ K ∧ i = .int .i64 k ∧ v = .int .i64 (T k)) (fun _ i => K - (intOf i).toNat)
  case atStart => exact ⟨0, Nat.zero_le _, rfl, by rw [HT0.out]; rfl⟩
  case round =>
    obtain ⟨k, hk, rfl, rfl⟩ := hrel
    have hTk := HTb.out k
    by_cases hlt : k < K
    · obtain ⟨l, hl⟩ : ∃ l, ls[k]? = some l := ⟨ls[k]'(by rw [← HK.out]; exact hlt), List.getElem?_eq_getElem _⟩
      obtain ⟨A, n, c, hv, hs⟩ := hp.sees k l hl
      have hc := hp.cell k _ hv
      have hnl := hs.len
      rw [List.length_map] at hnl
      have HT1 := Lib.hid (show T (k + 1) = T k + n by rw [HT.out, HT.out, flat_succ hl, List.length_append, hnl])
      have hb1 : T k + n ≤ 1099511627776 := by have := HTb.out (k + 1); rw [HT1.out] at this; exact this
      clear hl hv hnl
      go_wp2
      go_round
      case rel => exact ⟨k + 1, by omega, by go_num, by rw [HT1.out]; go_num⟩
      case measure => simp [intOf]; omega
    · obtain rfl : k = K := by omega
      go_wp2_with (go_at_call 66; refine (grow_any _ hTk _).mono ?_; rintro e w1 ⟨A1, c1, rfl, ho1, hb1⟩)
      go_loopw [6, 27] (fun v i wr => ∃ (j : Nat) (A : Option Addr) (n c : Nat), j ≤ k ∧ i = .int .i64 j ∧ v = .slice A n c ∧ wr.ownsRow w.heap.size 9 1 (.slice A n c) n ((ls.take j).flatten.map encs) ∧ Below w.heap.size w wr) (fun _ i _ => k - (intOf i).toNat)
      case atStart => exact ⟨0, A1, 0, c1, Nat.zero_le _, rfl, rfl, ho1, hb1⟩
      case round =>
        obtain ⟨j, A, n, c, hj, rfl, rfl, ho, hb⟩ := hrel
        have hn := ho.1
        rw [List.length_map] at hn
        by_cases hlt2 : j < k
        · obtain ⟨l, hl⟩ : ∃ l, ls[j]? = some l := ⟨ls[j]'(by rw [← HK.out]; exact hlt2), List.getElem?_eq_getElem _⟩
          obtain ⟨A2, m, c2, hv, hs⟩ := hp.sees j l hl
          have hc := (hb.cell (p := ⟨g, j, none⟩) hg).trans (hp.cell j _ hv)
          have hnl := hs.len
          rw [List.length_map] at hnl
          have hlen : n + m ≤ 1099511627776 := by
            have h1 := HTb.out (j + 1)
            rw [HT.out, flat_succ hl, List.length_append, ← hnl] at h1
            omega
          have hs2 := src_strs (hs.below hb) (c := c2)
          have Hfl := Lib.hid (flat_succ hl)
          clear hl hv hnl hn
          go_wp2_with (at_builtin; refine wpList_append_row rfl _ _ _ _ rfl elem_s rfl rfl ho hs2 hlen hb.size ?_; intro A' c' w' ho' hg' hat')
          go_roundw
          case rel => exact ⟨j + 1, A', n + m, c', by omega, by go_num, rfl, by rw [Hfl.out, List.map_append]; exact ho', hb.grown hg' hb.size (fun q hq => (ho.lt q hq).1)⟩
          case measure => simp [intOf]; omega
        · obtain rfl : j = k := by omega
          have hall : ls.take j = ls := List.take_of_length_le (by rw [HK.out]; exact Nat.le_refl _)
          rw [hall] at ho hn
          obtain rfl : n = ls.flatten.length := by omega
          have Ho := Lib.hid ho
          clear ho hn hall
          go_wp2
          go_ret
          exact ⟨A, c, rfl, sees_own Ho.out, hb⟩
end Go.Proofs.Ytchoipmfngcdoaa.Nm
namespace Go.Proofs.Ytchoipmfngcdoaa.Nm
open Go.RowKit
set_option maxRecDepth 100000

def Told (s : St) (w : World) (e : Ending) (w' : World) : Prop :=
  ∃ A c, e = .returned (.agg #[.bool s.all, .slice A s.l.length c]) ∧ SeesV w' w'.heap.size A s.l.length (s.l.map encs) ∧ Below w.heap.size w w'

/-- Within combine's loop: boxes, the row, all that lay there ahead. -/
structure Cst (T : TypeId) (G W5 : Nat) (w5 : World) (c0 : Bool) (R : Option Addr) (N cR : Nat) (ys : List (List UInt8)) (wr : World) : Prop where
  keep : ∀ k, k < W5 → k ≠ G → wr.heap[k]? = w5.heap[k]?
  size : W5 ≤ wr.heap.size
  os : wr.os = w5.os
  tape : wr.tape = w5.tape
  output : wr.output = w5.output
  boxc : wr.heap[G]? = some (.cells #[.bool c0, .slice R N cR] T (0, 0))
  row : wr.ownsRow W5 9 1 (.slice R N cR) N (ys.map encs)

/-- Five blocks laid one behind the other. -/
theorem five (w : World) (o0 o1 o2 o3 o4 : Obj) : ∃ W, W = ((((w.alloc o0).alloc o1).alloc o2).alloc o3).alloc o4 ∧ W.heap[w.heap.size]? = some o0 ∧ W.heap[w.heap.size + 1]? = some o1 ∧ W.heap[w.heap.size + 1 + 1]? = some o2 ∧ W.heap[w.heap.size + 1 + 1 + 1]? = some o3 ∧ W.heap[w.heap.size + 1 + 1 + 1 + 1]? = some o4 ∧ W.heap.size = w.heap.size + 5 ∧ Below w.heap.size w W := by
  have new : ∀ (W : World) (o : Obj) (k : Nat), k = W.heap.size → (W.alloc o).heap[k]? = some o := fun W o k h => h ▸ heap_alloc_new W o
  have old : ∀ (W : World) (o : Obj) (k : Nat), k < W.heap.size → (W.alloc o).heap[k]? = W.heap[k]? := fun W o k h => Below.heap_alloc W o k h
  refine ⟨_, rfl, ?_, ?_, ?_, ?_, ?_, by simp, (((((Below.refl _ _).alloc (Nat.le_refl _) _).alloc (by simp) _).alloc (by simp; omega) _).alloc (by simp; omega) _).alloc (by simp; omega) _⟩
  · rw [old _ _ _ (by simp; omega), old _ _ _ (by simp <;> omega), old _ _ _ (by simp <;> omega), old _ _ _ (by simp <;> omega), new _ _ _ rfl]
  · rw [old _ _ _ (by simp <;> omega), old _ _ _ (by simp <;> omega), old _ _ _ (by simp <;> omega), new _ _ _ (by simp)]
  · rw [old _ _ _ (by simp <;> omega), old _ _ _ (by simp <;> omega), new _ _ _ (by simp)]
  · rw [old _ _ _ (by simp), new _ _ _ (by simp)]
  · rw [new _ _ _ (by simp)]

theorem box2 {w : World} {g : Nat} {u v : Value} {T : TypeId} (h : w.heap[g]? = some (.cells #[u, v] T (0, 0))) : w.cell? ⟨g, 0, none⟩ = some u ∧ w.cell? ⟨g, 1, none⟩ = some v ∧ w.frozen? ⟨g, 0, none⟩ = false ∧ w.frozen? ⟨g, 1, none⟩ = false :=
  ⟨by rw [cell_of_row w g 0 _ _ _ h]; rfl, by rw [cell_of_row w g 1 _ _ _ h]; rfl, by simp [World.frozen?, h], by simp [World.frozen?, h]⟩
theorem box2_str {w : World} {g : Nat} {u v : Value} {T : TypeId} {x : ByteArray} (h : w.heap[g]? = some (.cells #[u, v] T (0, 0))) (hu : ∀ x, u ≠ .string x) (hv : ∀ x, v ≠ .string x) (q : Nat) : w.cell? ⟨g, q, none⟩ ≠ some (.string x) := by
  rw [cell_of_row w g q _ _ _ h]
  match q with
  | 0 => simpa using hu x
  | 1 => simpa using hv x
  | q + 2 => simp
theorem take_filter {l : List (List UInt8)} {k : Nat} {x : List UInt8} (h : l[k]? = some x) (f : List UInt8 → Bool) : (l.take (k + 1)).filter f = (l.take k).filter f ++ if f x then [x] else [] := by
  rw [List.take_add_one, h, List.filter_append]
  cases hf : f x <;> simp [hf]

theorem Cst.filter_skip {T : TypeId} {G W5 : Nat} {w5 wr wr' : World} {c0 : Bool} {R : Option Addr} {N cR : Nat} {ys : List (List UInt8)} (h : Cst T G W5 w5 c0 R N cR ys wr) (hG : G < wr.heap.size) (hb : Below wr.heap.size wr wr') : Cst T G W5 w5 c0 R N cR ys wr' where
  keep := fun k hk hg => (hb.block k (Nat.lt_of_lt_of_le hk h.size)).trans (h.keep k hk hg)
  size := Nat.le_trans h.size hb.size
  os := hb.os.trans h.os
  tape := hb.tape.trans h.tape
  output := hb.output.trans h.output
  boxc := (hb.block G hG).trans h.boxc
  row := h.row.kept (row := none) ⟨hb.os, hb.tape, hb.output, hb.size, fun i hi _ => hb.block i hi⟩ (by cases hv : (Value.slice R N cR).ownBlock <;> simp)

theorem set_box2 {w : World} {g : Nat} {u v v' : Value} {T : TypeId} (h : w.heap[g]? = some (.cells #[u, v] T (0, 0))) : (w.setCell ⟨g, 1, none⟩ v').heap[g]? = some (.cells #[u, v'] T (0, 0)) := by
  rw [heap_setCell_same w g 1 _ _ _ h]
  rfl
theorem grown_set (w : World) (a : Addr) (v : Value) : w.grownBy (w.setCell a v) (some a.block) :=
  ⟨rfl, rfl, rfl, by simp [World.setCell], fun k _ hk => Below.heap_setCell w a v k (fun e => hk (by rw [e]))⟩
theorem Cst.push {T : TypeId} {G W5 : Nat} {w5 w w4 : World} {c0 : Bool} {R A4 : Option Addr} {N cR c4 : Nat} {ys zs : List (List UInt8)} {o : Obj} (h : Cst T G W5 w5 c0 R N cR ys w) (hG : G < W5) (hg : (w.alloc o).grownBy w4 (Value.slice R N cR).ownBlock)
    (ho4 : w4.ownsRow W5 9 1 (.slice A4 (N + 1) c4) (N + 1) (zs.map encs)) (hat : ∀ a, A4 = some a → a.block = (w.alloc o).heap.size ∨ some a.block = (Value.slice R N cR).ownBlock) :
    w4.heap[G]? = some (.cells #[.bool c0, .slice R N cR] T (0, 0)) ∧ Cst T G W5 w5 c0 A4 (N + 1) c4 zs (w4.setCell ⟨G, 1, none⟩ (.slice A4 (N + 1) c4)) := by
  have hlt := h.row.lt
  have hsz := h.size
  have far : ∀ k, k < W5 → some k ≠ (Value.slice R N cR).ownBlock := fun k hk e => by have := (hlt k e.symm).1; omega
  have old : ∀ k, k < W5 → w4.heap[k]? = w.heap[k]? := fun k hk => (hg.block k (by simp; omega) (far k hk)).trans (Below.heap_alloc w o k (by omega))
  have hb4 := (old G hG).trans h.boxc
  have hsz4 := hg.size
  simp at hsz4
  refine ⟨hb4, ⟨fun k hk hk2 => ?_, ?_, ?_, ?_, ?_, set_box2 hb4, ?_⟩⟩
  · rw [Below.heap_setCell w4 ⟨G, 1, none⟩ _ k hk2, old k hk, h.keep k hk hk2]
  · simp [World.setCell]; omega
  · exact hg.os.trans h.os
  · exact hg.tape.trans h.tape
  · exact hg.output.trans h.output
  · refine ho4.kept (grown_set w4 ⟨G, 1, none⟩ _) (.inr ?_)
    cases A4 with
    | none => simp [Value.ownBlock]
    | some a =>
      simp only [Value.ownBlock, ne_eq, Option.some.injEq]
      rcases hat a rfl with e | e
      · simp at e; omega
      · intro e2
        exact far G hG (by rw [← e, e2])
theorem src_lit (W : World) (g : Nat) (x : ByteArray) (hg : g = W.heap.size) : Src Try.prog 1 35 (.slice (some ⟨g, 0, none⟩) 1 1) 1 ([x.data.toList].map encs) (W.alloc (Obj.cells #[Value.string x] 9)) := by
  subst hg
  refine src_strs (B := W.heap.size + 1) ⟨rfl, fun j u hu => ⟨W.heap.size, 0, rfl, by omega, ?_⟩⟩
  rw [cell_of_row _ _ _ _ _ _ (heap_alloc_new W _), ← hu]
  simp [encs]
theorem Cst.less {T : TypeId} {G W5 B : Nat} {w5 w : World} {c0 : Bool} {R : Option Addr} {N cR : Nat} {ys : List (List UInt8)} (h : Cst T G W5 w5 c0 R N cR ys w) (h1 : B ≤ W5) (h2 : B ≤ G) (h3 : w5.heap.size = W5) : Below B w5 w :=
  ⟨h.os, h.tape, h.output, by rw [h3]; exact h.size, fun k hk => h.keep k (by omega) (by omega)⟩
theorem Cst.seen {T : TypeId} {G W5 : Nat} {w5 w : World} {c0 : Bool} {R : Option Addr} {N cR : Nat} {ys : List (List UInt8)} (h : Cst T G W5 w5 c0 R N cR ys w) : N = ys.length ∧ SeesV w w.heap.size R N (ys.map encs) := by
  have := h.row.1
  rw [List.length_map, Nat.mul_one] at this
  exact ⟨this.symm, sees_own h.row⟩

end Go.Proofs.Ytchoipmfngcdoaa.Nm
namespace Go.Proofs.Ytchoipmfngcdoaa.Nm
open Go.RowKit
set_option maxRecDepth 100000

/-- A set as it is handed in: its names seen. -/
structure In (w : World) (a : St) (A : Option Addr) (n : Nat) : Prop where
  sees : SeesV w w.heap.size A n (a.l.map encs)
theorem In.below {w w' : World} {a : St} {A : Option Addr} {n : Nat} (h : In w a A n) (hb : Below w.heap.size w w') : In w' a A n := by
  refine ⟨⟨h.sees.len, fun j u hu => ?_⟩⟩
  obtain ⟨b, o, e, hb', hc⟩ := h.sees.cell j u hu
  exact ⟨b, o, e, Nat.lt_of_lt_of_le hb' hb.size, (hb.cell (p := ⟨b, o + j, none⟩) hb').trans hc⟩
theorem In.len {w : World} {a : St} {A : Option Addr} {n : Nat} (h : In w a A n) : n = a.l.length := by
  have := h.sees.len
  rwa [List.length_map] at this

theorem two (w : World) (o0 o1 : Obj) : ∃ W, W = (w.alloc o0).alloc o1 ∧ W.heap[w.heap.size]? = some o0 ∧ W.heap[w.heap.size + 1]? = some o1 ∧ W.heap.size = w.heap.size + 2 ∧ Below w.heap.size w W := by
  refine ⟨_, rfl, ?_, ?_, by simp, ((Below.refl _ _).alloc (Nat.le_refl _) _).alloc (by simp) _⟩
  · rw [Below.heap_alloc _ _ _ (by simp), heap_alloc_new]
  · rw [show w.heap.size + 1 = (w.alloc o0).heap.size by simp, heap_alloc_new]
theorem three (w : World) (o0 o1 o2 : Obj) : ∃ W, W = ((w.alloc o0).alloc o1).alloc o2 ∧ W.heap[w.heap.size]? = some o0 ∧ W.heap[w.heap.size + 1]? = some o1 ∧ W.heap[w.heap.size + 1 + 1]? = some o2 ∧ W.heap.size = w.heap.size + 3 ∧ Below w.heap.size w W := by
  obtain ⟨W, hW, g0, g1, gs, gb⟩ := two w o0 o1
  refine ⟨_, rfl, ?_, ?_, ?_, by simp, (((Below.refl _ _).alloc (Nat.le_refl _) _).alloc (by simp) _).alloc (by simp; omega) _⟩
  · rw [← hW, Below.heap_alloc _ _ _ (by omega), g0]
  · rw [← hW, Below.heap_alloc _ _ _ (by omega), g1]
  · rw [← hW, show w.heap.size + 1 + 1 = W.heap.size by omega, heap_alloc_new]
theorem Below.box {w w' : World} {g : Nat} {o : Obj} (hb : Below w.heap.size w w') (h : w.heap[g]? = some o) : w'.heap[g]? = some o := (hb.block g (Array.getElem?_eq_some_iff.1 h).1).trans h

theorem told_put {w w1 : World} {g N c1 : Nat} {A1 : Option Addr} {s : St} {x : Bool} {T : TypeId} (hbox : w1.heap[g]? = some (.cells #[.bool false, .slice none 0 0] T (0, 0))) (hs : SeesV w1 w1.heap.size A1 N (s.l.map encs)) (hN : N = s.l.length) (hb : Below w.heap.size w w1) (hg : w.heap.size ≤ g) (hx : x = s.all) :
    Told s w (.returned (.agg #[.bool x, .slice A1 N c1])) ((w1.setCell ⟨g, 0, none⟩ (.bool x)).setCell ⟨g, 1, none⟩ (.slice A1 N c1)) := by
  subst hx
  refine ⟨A1, c1, by rw [hN], ⟨by rw [List.length_map], fun j u hu => ?_⟩, (hb.setCell (by simpa using hg) _).setCell (by simpa using hg) _⟩
  obtain ⟨b, o, e, hb', hc⟩ := hs.cell j u hu
  have hbg : b ≠ g := by
    rintro rfl
    have : ∃ y : ByteArray, u = .string y := by
      rw [List.getElem?_map, Option.map_eq_some_iff] at hu
      obtain ⟨y, _, rfl⟩ := hu
      exact ⟨_, rfl⟩
    obtain ⟨y, rfl⟩ := this
    exact box2_str hbox (fun x e => by cases e) (fun x e => by cases e) _ hc
  refine ⟨b, o, e, by simpa [World.setCell] using hb', ?_⟩
  rw [World.cell?_setCell_other _ _ _ _ (fun e => hbg (congrArg Addr.block e).symm), World.cell?_setCell_other _ _ _ _ (fun e => hbg (congrArg Addr.block e).symm)]
  exact hc

set_option maxHeartbeats 2000000 in
theorem Told.alloc {s : St} {w W : World} {e : Ending} (h : Told s w e W) (o : Obj) : Told s w e (W.alloc o) := by
  obtain ⟨A, c, he, hs, hb⟩ := h
  refine ⟨A, c, he, ⟨hs.len, fun j u hu => ?_⟩, hb.alloc hb.size _⟩
  obtain ⟨b, o', e, hb', hc⟩ := hs.cell j u hu
  exact ⟨b, o', e, by simp; omega, (World.cell?_alloc_lt W o ⟨b, o' + j, none⟩ hb').trans hc⟩
theorem told_in {s : St} {w' : World} {A : Option Addr} (h : SeesV w' w'.heap.size A s.l.length (s.l.map encs)) : In w' s A s.l.length := ⟨h⟩

end Go.Proofs.Ytchoipmfngcdoaa.Nm
namespace Go.Proofs.Ytchoipmfngcdoaa.Nm
open Go.ChangeShapes Go.WideShapes Go.ChangeAt Go.RowKit
set_option maxRecDepth 100000

section
variable {H : Type} {enc : TypeId × Value → H}
theorem open_names {W : World} {base : Nat} {v : Value} {d : DataW H} {p : List MemPlace} (hval : Value.okWide Try.prog W .any base 54 v) (h : DataW.Trod enc Try.prog W 0 (fun _ => true) true 54 v d p) :
    ∃ (s : St) (A : Option Addr) (n c : Nat), v = .agg #[.bool s.all, .slice A n c] ∧ In W s A n ∧ n ≤ c ∧ c ≤ maxLen ∧ ∀ x ∈ s.l, x.length ≤ maxLen := by
  obtain ⟨v0, v1, y0, y1, fuel, rfl, _, _, h0, h1⟩ := Go.Joins.open_agg2 Try.underlying54 (by kernel_rfl) (by kernel_rfl) hval h
  obtain ⟨b, hb, _⟩ := DataW.trod_bool Try.underlying4 h0
  injection hb with hb
  subst hb
  rcases open_strings Try.underlying35 Try.underlying9 cells_str h1 with ⟨hcs, _⟩ | ⟨a, len, cap, zs, hcs, _, hl, hm, hz, _, hcell, hwz⟩
  · injection hcs with hcs
    subst hcs
    exact ⟨⟨b, []⟩, none, 0, 0, rfl, ⟨⟨rfl, fun j u h => by simp at h⟩⟩, Nat.le_refl _, Nat.zero_le _, fun x hx => by cases hx⟩
  · injection hcs with hcs
    subst hcs
    simp only [if_true] at hz
    refine ⟨⟨b, (zs.take len).map (·.data.toList)⟩, some a, len, cap, rfl, ⟨⟨by simp; omega, fun j u hu => ?_⟩⟩, hl, hm, fun x hx => ?_⟩
    · have hj : j < len := by
        rcases Nat.lt_or_ge j len with g | g
        · exact g
        · rw [List.getElem?_eq_none (by simp; omega)] at hu; cases hu
      have hcj := hcell j (by omega)
      have hsp := plain_addr (hcell 0 (by omega))
      obtain ⟨ab, ao, sp⟩ := a
      simp only at hsp
      subst hsp
      have hjz : j < zs.length := by omega
      have e : zs.getD j ByteArray.empty = zs[j] := by simp [List.getD, List.getElem?_eq_getElem hjz]
      rw [List.map_map, List.getElem?_map, List.getElem?_take_of_lt hj, List.getElem?_eq_getElem hjz] at hu
      simp only [Option.map_some, Option.some.injEq] at hu
      subst hu
      rw [Addr.add_lit, e] at hcj
      exact ⟨ab, ao, rfl, block_lt hcj, by rw [hcj]; rfl⟩
    · obtain ⟨z, hz', rfl⟩ := List.mem_map.1 hx
      have := hwz z (List.mem_of_mem_take hz')
      exact this
end

/-- A set is told, and all that lay in W1 lies as it lay. -/
def At (W1 : World) (s : St) (e : Ending) (w' : World) : Prop := ∃ A' c', e = .returned (.agg #[.bool s.all, .slice A' s.l.length c']) ∧ In w' s A' s.l.length ∧ Below W1.heap.size W1 w'
/-- A bool is told, and all that lay in W1 lies as it lay. -/
def Is (W1 : World) (x : Bool) (e : Ending) (w' : World) : Prop := e = .returned (.bool x) ∧ Below W1.heap.size W1 w'

theorem in_empty (W : World) (x : Bool) (A : Option Addr) : In W ⟨x, []⟩ A 0 := ⟨⟨rfl, fun j u h => by simp at h⟩⟩

end Go.Proofs.Ytchoipmfngcdoaa.Nm
namespace Go.Proofs.Ytchoipmfngcdoaa.Nm
open Go.RowKit
set_option maxRecDepth 100000

theorem encL_mem (ss : List (List UInt8)) (x : ByteArray) : x ∈ encL ss ↔ x.data.toList ∈ ss := by
  simp only [encL, List.mem_map]
  constructor
  · rintro ⟨y, hy, rfl⟩
    simpa using hy
  · intro h
    exact ⟨_, h, by simp⟩

theorem contains_any (ss : List (List UInt8)) (A : Option Addr) (n c B : Nat) (x : ByteArray) (w : World) (h : SeesV w B A n (ss.map encs)) (hn : n ≤ 9223372036854775807) :
    Calls Try.prog 89 #[.slice A n c, .string x] w fun e w' => e = .returned (.bool (decide (x.data.toList ∈ ss))) ∧ w' = w := by
  have hl := h.len
  rw [List.length_map] at hl
  rcases Nat.eq_zero_or_pos n with g | g
  · subst g
    obtain rfl : ss = [] := List.eq_nil_of_length_eq_zero hl.symm
    refine (Try.slices_Contains_string_empty A c x w).mono ?_
    rintro e w' ⟨rfl, rfl⟩
    exact ⟨by simp, rfl⟩
  · obtain ⟨b, o, rfl, _, _⟩ := h.cell 0 (encs (ss[0]'(by omega))) (by rw [List.getElem?_map, List.getElem?_eq_getElem (by omega)]; rfl)
    refine (Try.slices_Contains_string b o n c (encL ss) x w (by simp [encL]; omega) (by omega) (fun j hj => ?_)).mono ?_
    · have hj' : j < ss.length := by simpa [encL] using hj
      obtain ⟨b', o', e, _, hc⟩ := h.cell j (encs ss[j]) (by rw [List.getElem?_map, List.getElem?_eq_getElem hj']; rfl)
      injection e with e
      cases e
      rw [hc]
      simp [encL, encs, List.getD, List.getElem?_eq_getElem hj']
    · rintro e w' ⟨rfl, rfl⟩
      refine ⟨?_, rfl⟩
      rw [List.take_of_length_le (by simp [encL]; omega)]
      congr 2
      rw [Bool.eq_iff_iff, Go.Lib.containsS_iff, decide_eq_true_iff]
      exact encL_mem ss x

theorem has_name (a : St) (A : Option Addr) (n c : Nat) (x : ByteArray) (w : World) (h : In w a A n) (hn : n ≤ 9223372036854775807) :
    Calls Try.prog 68 #[.agg #[.bool a.all, .slice A n c], .string x] w fun e w' => e = .returned (.bool (a.mem x.data.toList)) ∧ Below w.heap.size w w' := by
  unfold St.mem
  have HC : Hid (∀ W, Below w.heap.size w W → Calls Try.prog 89 #[.slice A n c, .string x] W fun e w' => e = .returned (.bool (decide (x.data.toList ∈ a.l))) ∧ w' = W) :=
    Lib.hid fun W hb => contains_any a.l A n c w.heap.size x W (h.sees.keep fun p hp => hb.cell hp) hn
  obtain ⟨d, hd⟩ : ∃ d, d = decide (x.data.toList ∈ a.l) := ⟨_, rfl⟩
  obtain ⟨y, hy⟩ : ∃ y, y = a.all := ⟨_, rfl⟩
  rw [← hd] at HC ⊢
  rw [← hy]
  clear hd hy h
  obtain ⟨W1, hW1⟩ : ∃ W, W = w.alloc (Obj.cells #[Value.bool y, Value.slice A n c] 54) := ⟨_, rfl⟩
  have g0 : W1.heap[w.heap.size]? = some (Obj.cells #[Value.bool y, Value.slice A n c] 54) := by rw [hW1, heap_alloc_new]
  have hb1 : Below w.heap.size w W1 := by rw [hW1]; exact (Below.refl _ _).alloc (Nat.le_refl _) _
  obtain ⟨q0, q1, _, _⟩ := box2 g0
  have hb0 : Below w.heap.size w W1.drew := hb1.drew
  go_enter Try.func68, Try.ntmps68
  go_wp2_with fail
  rw [← hW1]
  clear hW1
  go_region_held3 (fun w' => w' = W1.drew ∧ w'.cell? ⟨w.heap.size, 0, none⟩ = some (.bool y) ∧ w'.cell? ⟨w.heap.size, 1, none⟩ = some (.slice A n c))
    (exact ⟨rfl, q0, q1⟩)
    ((go_at_call 89; (with_reducible refine (HC.out _ hb0).mono ?_); rintro e w' ⟨rfl, rfl⟩))
  all_goals
    go_wp2_with fail
    go_ret
    refine ⟨?_, hb0⟩
    cases d <;> cases y <;> rfl
end Go.Proofs.Ytchoipmfngcdoaa.Nm
namespace Go.Proofs.Ytchoipmfngcdoaa.Nm
open Go.RowKit
set_option maxRecDepth 100000

theorem bytes_ne {s t : ByteArray} (h : s.data.toList ≠ t.data.toList) : (s.toList == t.toList) = false := by
  rw [beq_eq_false_iff_ne, tl_eq, tl_eq]
  exact h
theorem bytes_is {s t : ByteArray} (h : s.data.toList = t.data.toList) : (s.toList == t.toList) = true := by
  rw [beq_iff_eq, tl_eq, tl_eq]
  exact h
/-- The name at a place. -/
theorem nth {w : World} {B n j : Nat} {A : Option Addr} {ss : List (List UInt8)} (h : SeesV w B A n (ss.map encs)) (hj : j < n) : ∃ b o s, A = some ⟨b, o, none⟩ ∧ b < B ∧ w.cell? ⟨b, o + j, none⟩ = some (.string s) ∧ ss[j]? = some s.data.toList := by
  have hl := h.len
  rw [List.length_map] at hl
  have hj' : j < ss.length := by omega
  obtain ⟨b, o, e, hb, hc⟩ := h.cell j (encs ss[j]) (by rw [List.getElem?_map, List.getElem?_eq_getElem hj']; rfl)
  exact ⟨b, o, ⟨ss[j].toArray⟩, e, hb, hc, by rw [List.getElem?_eq_getElem hj']⟩
theorem mem_take {ss : List (List UInt8)} {k : Nat} {x y : List UInt8} (h : ss[k]? = some y) : x ∈ ss.take (k + 1) ↔ x ∈ ss.take k ∨ x = y := by
  rw [List.take_add_one, h]
  simp

end Go.Proofs.Ytchoipmfngcdoaa.Nm
