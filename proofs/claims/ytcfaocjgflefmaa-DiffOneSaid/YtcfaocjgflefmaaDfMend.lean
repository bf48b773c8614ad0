/- A tree that takes the other one's at each path where they differ is the other one; a tree with something put at one place differs from itself there. No conditions. -/
import Derived.Test.YtcfaocjgflefmaaDfMath
namespace Go.Proofs.Ytcfaocjgflefmaa.Df
open Go.RowKit Go.Proofs.Ytcfaocjgflefmaa.Pt
set_option maxRecDepth 100000

theorem without_at {name : ByteArray} : ∀ {t : Tr}, t.Asc → (withoutT t name).atIs name = false
  | .nil, _ => nil_is name
  | .cons s k r, h => by
    rcases cases3 s name with c1 | ⟨c1, c2⟩ | ⟨c1, c2, _⟩
    · rw [withoutT_lt c1, Pt.atIs_lt c1]; exact without_at (asc_tail h)
    · rw [withoutT_eq c1 c2]; exact behind h c1
    · rw [withoutT_gt c1 c2, atIs_ge c1, c2]
theorem without_other {name q : ByteArray} (hne : name ≠ q) : ∀ {t : Tr}, t.Asc → (withoutT t name).atIs q = t.atIs q ∧ kidT (withoutT t name) q = kidT t q
  | .nil, _ => ⟨rfl, rfl⟩
  | .cons s k r, h => by
    rcases cases3 s name with c1 | ⟨c1, c2⟩ | ⟨c1, c2, _⟩
    · rw [withoutT_lt c1]
      rcases cases3 s q with d1 | ⟨d1, d2⟩ | ⟨d1, d2, _⟩
      · rw [Pt.atIs_lt d1, Pt.atIs_lt d1, kidT_lt d1, kidT_lt d1]; exact without_other hne (asc_tail h)
      · rw [atIs_ge d1, atIs_ge d1, kidT_eq d1 d2, kidT_eq d1 d2]; exact ⟨rfl, rfl⟩
      · rw [atIs_ge d1, atIs_ge d1, kidT_gt d1 d2, kidT_gt d1 d2]; exact ⟨rfl, rfl⟩
    · have e := names_of_eq c2
      subst e
      rw [withoutT_eq c1 c2]
      rcases cases3 s q with d1 | ⟨d1, d2⟩ | ⟨d1, d2, _⟩
      · rw [Pt.atIs_lt d1, kidT_lt d1]; exact ⟨rfl, rfl⟩
      · exact absurd (names_of_eq d2) hne
      · rw [atIs_ge d1, d2, kidT_gt d1 d2, behind h d1, kidT_not (behind h d1)]; exact ⟨rfl, rfl⟩
    · rw [withoutT_gt c1 c2]; exact ⟨rfl, rfl⟩
theorem ne_beq {p q : ByteArray} (h : p ≠ q) : (p.toList == q.toList) = false := by
  cases e : (p.toList == q.toList) with
  | false => rfl
  | true => exact absurd (names_of_eq e) h
theorem with_self {s : ByteArray} : ∀ {t : Tr}, t.atIs s = true → t.withT s (kidT t s) = t
  | .nil, h => by rw [nil_is] at h; cases h
  | .cons s0 k r, h => by
    rcases cases3 s0 s with c1 | ⟨c1, c2⟩ | ⟨c1, c2, _⟩
    · rw [Pt.atIs_lt c1] at h
      rw [kidT_lt c1, withT_lt c1, with_self h]
    · rw [kidT_eq c1 c2, withT_eq c1 c2, names_of_eq c2]
    · rw [atIs_ge c1, c2] at h; cases h

/-- a with what b has at a path. -/
def mend (b a : Tr) (p : List ByteArray) : Tr := if (getT b p).2 = true then putT a p (getT b p).1 else dropP a p
theorem mend_ascD {b a : Tr} {p : List ByteArray} (ha : AscD a) (hb : AscD b) : AscD (mend b a p) := by
  unfold mend
  split
  · refine putT_ascD ?_ ha
    have : ∀ (p : List ByteArray) {b : Tr}, AscD b → AscD (getT b p).1 := by
      intro p
      induction p with
      | nil => intro b hb; exact hb
      | cons s ps ih =>
        intro b hb
        rw [getT]
        split
        · exact ih (kidT_asc hb)
        · trivial
    exact this p hb
  · exact dropP_ascD ha
theorem mend_in {b c : Tr} {s : ByteArray} {p : List ByteArray} (hb : b.atIs s = true) (hc : c.atIs s = true) (hp : p ≠ []) : mend b c (s :: p) = c.withT s (mend (kidT b s) (kidT c s) p) := by
  unfold mend
  rw [getT, if_pos hb]
  split
  · rfl
  · cases p with
    | nil => exact absurd rfl hp
    | cons q ps => rw [dropP, if_pos hc]
theorem mends_in {b : Tr} {s : ByteArray} (hb : b.atIs s = true) : ∀ (P : List (List ByteArray)) (c : Tr), c.atIs s = true → (∀ p ∈ P, p ≠ []) → (P.map (s :: ·)).foldl (mend b) c = c.withT s (P.foldl (mend (kidT b s)) (kidT c s))
  | [], c, hc, _ => (with_self hc).symm
  | p :: P, c, hc, hP => by
    rw [List.map_cons, List.foldl_cons, List.foldl_cons, mend_in hb hc (hP p List.mem_cons_self), mends_in hb P _ with_is.1 (fun q hq => hP q (List.mem_cons_of_mem _ hq)), with_is.2, with_with]
theorem mends : ∀ (N : Nat) {a b : Tr}, a.size + b.size ≤ N → AscD a → AscD b → (dP N a b).foldl (mend b) a = b
  | 0, a, b, hz, _, _ => by rw [size_zero (by omega : a.size = 0), size_zero (by omega : b.size = 0)]; rfl
  | N + 1, a, b, hz, ha, hb => by
    have key : ∀ (L : List ByteArray) (c : Tr), L.Nodup → AscD c → (∀ s ∈ L, c.atIs s = a.atIs s ∧ kidT c s = kidT a s) →
        AscD ((L.flatMap (dS N a b)).foldl (mend b) c) ∧ ∀ q, (q ∈ L → ((L.flatMap (dS N a b)).foldl (mend b) c).atIs q = b.atIs q ∧ kidT ((L.flatMap (dS N a b)).foldl (mend b) c) q = kidT b q) ∧ (q ∉ L → ((L.flatMap (dS N a b)).foldl (mend b) c).atIs q = c.atIs q ∧ kidT ((L.flatMap (dS N a b)).foldl (mend b) c) q = kidT c q) := by
      intro L
      induction L with
      | nil => intro c _ hc _; exact ⟨hc, fun q => ⟨fun h => by simp at h, fun _ => ⟨rfl, rfl⟩⟩⟩
      | cons s L ih =>
        intro c hd hc hsame
        rw [List.nodup_cons] at hd
        have head : AscD ((dS N a b s).foldl (mend b) c) ∧ (((dS N a b s).foldl (mend b) c).atIs s = b.atIs s ∧ kidT ((dS N a b s).foldl (mend b) c) s = kidT b s) ∧ ∀ q, s ≠ q → ((dS N a b s).foldl (mend b) c).atIs q = c.atIs q ∧ kidT ((dS N a b s).foldl (mend b) c) q = kidT c q := by
          obtain ⟨h1, h2⟩ := hsame s List.mem_cons_self
          cases hab : (a.atIs s && b.atIs s) with
          | true =>
            rw [Bool.and_eq_true] at hab
            have z1 := kid_lt hab.1
            have z2 := kid_lt hab.2
            have e : (dS N a b s).foldl (mend b) c = c.withT s (kidT b s) := by
              rw [dS_both hab.1 hab.2, mends_in hab.2 _ _ (by rw [h1]; exact hab.1) (fun p hp => (dP_diff N (kidT_asc ha) (kidT_asc hb) p hp).1), h2, mends N (by omega) (kidT_asc ha) (kidT_asc hb)]
            rw [e]
            exact ⟨withT_ascD (kidT_asc hb) hc, ⟨by rw [with_is.1, hab.2], with_is.2⟩, fun q hq => with_other (ne_beq hq) hc.asc⟩
          | false =>
            have e : (dS N a b s).foldl (mend b) c = mend b c [s] := by rw [dS_one hab]; rfl
            rw [e]
            cases hbs : b.atIs s with
            | true =>
              have e2 : mend b c [s] = c.withT s (kidT b s) := by
                unfold mend
                rw [getT, if_pos hbs]
                rfl
              rw [e2]
              exact ⟨withT_ascD (kidT_asc hb) hc, ⟨with_is.1, with_is.2⟩, fun q hq => with_other (ne_beq hq) hc.asc⟩
            | false =>
              have e2 : mend b c [s] = if c.atIs s = true then withoutT c s else c := by
                unfold mend
                rw [getT, if_neg (by rw [hbs]; simp)]
                exact dropP.eq_2 c s
              rw [e2, kidT_not hbs]
              cases hcs : c.atIs s with
              | true =>
                rw [if_pos rfl]
                exact ⟨withoutT_ascD hc, ⟨without_at hc.asc, kidT_not (without_at hc.asc)⟩, fun q hq => without_other hq hc.asc⟩
              | false =>
                rw [if_neg (by simp)]
                exact ⟨hc, ⟨hcs, kidT_not hcs⟩, fun q _ => ⟨rfl, rfl⟩⟩
        rw [List.flatMap_cons, List.foldl_append]
        obtain ⟨i1, i2⟩ := ih ((dS N a b s).foldl (mend b) c) hd.2 head.1 (fun q hq => by
          obtain ⟨j1, j2⟩ := head.2.2 q (fun e => hd.1 (by rw [e]; exact hq))
          obtain ⟨j3, j4⟩ := hsame q (List.mem_cons_of_mem _ hq)
          exact ⟨j1.trans j3, j2.trans j4⟩)
        refine ⟨i1, fun q => ⟨fun hq => ?_, fun hq => ?_⟩⟩
        · rw [List.mem_cons] at hq
          by_cases hqL : q ∈ L
          · exact (i2 q).1 hqL
          · have e : q = s := hq.resolve_right hqL
            subst e
            obtain ⟨j1, j2⟩ := (i2 q).2 hqL
            exact ⟨j1.trans head.2.1.1, j2.trans head.2.1.2⟩
        · rw [List.mem_cons, not_or] at hq
          obtain ⟨j1, j2⟩ := (i2 q).2 hq.2
          obtain ⟨j3, j4⟩ := head.2.2 q (fun e => hq.1 e.symm)
          exact ⟨j1.trans j3, j2.trans j4⟩
    obtain ⟨k1, k2⟩ := key (nsT a b) a (ns_nodup a b) ha (fun _ _ => ⟨rfl, rfl⟩)
    rw [dP_succ]
    have hall : ∀ q, (((nsT a b).flatMap (dS N a b)).foldl (mend b) a).atIs q = b.atIs q ∧ kidT (((nsT a b).flatMap (dS N a b)).foldl (mend b) a) q = kidT b q := by
      intro q
      by_cases hq : q ∈ nsT a b
      · exact (k2 q).1 hq
      · obtain ⟨j1, j2⟩ := (k2 q).2 hq
        have hno : ¬ (a.atIs q = true ∨ b.atIs q = true) := fun e => hq ((mem_ns ha.asc hb.asc).2 e)
        rw [not_or] at hno
        have ea : a.atIs q = false := by simpa using hno.1
        have eb : b.atIs q = false := by simpa using hno.2
        rw [j1, j2, ea, eb, kidT_not ea, kidT_not eb]
        exact ⟨rfl, rfl⟩
    exact ext_at k1.asc hb.asc (fun q => (hall q).1) (fun q _ => (hall q).2)

theorem flatMap_one {α β : Type} {f : α → List β} {s : α} : ∀ {l : List α}, l.Nodup → s ∈ l → (∀ q ∈ l, q ≠ s → f q = []) → l.flatMap f = f s
  | [], _, h, _ => by simp at h
  | a :: l, hd, hs, h => by
    rw [List.nodup_cons] at hd
    rw [List.flatMap_cons]
    rw [List.mem_cons] at hs
    rcases hs with rfl | hs
    · have : l.flatMap f = [] := by
        rw [List.flatMap_eq_nil_iff]
        exact fun q hq => h q (List.mem_cons_of_mem _ hq) (fun e => hd.1 (by rw [← e]; exact hq))
      rw [this, List.append_nil]
    · rw [h a List.mem_cons_self (fun e => hd.1 (by rw [e]; exact hs)), List.nil_append, flatMap_one hd.2 hs (fun q hq => h q (List.mem_cons_of_mem _ hq))]
/-- A tree with something put at one place differs from itself there alone, or below. -/
theorem put_diff {x : Tr} (hx : AscD x) : ∀ (ps : List ByteArray) {t : Tr} (N : Nat), t.size + (putT t ps x).size ≤ N → AscD t →
    ((getT t ps).2 = false → ∃ p, dP N t (putT t ps x) = [p] ∧ p <+: ps) ∧
    ((getT t ps).2 = true → ∃ M, dP N t (putT t ps x) = (dP M (getT t ps).1 x).map (ps ++ ·) ∧ (getT t ps).1.size + x.size ≤ M)
  | [], t, N, hz, ht => by
    refine ⟨fun h => (by cases h), fun _ => ⟨N, ?_, hz⟩⟩
    rw [show putT t [] x = x by cases t <;> rfl, show (fun p : List ByteArray => [] ++ p) = id from rfl, List.map_id]
    rfl
  | s :: ps, t, 0, hz, ht => by
    have := kid_lt (with_is (t := t) (name := s) (x := putT (kidT t s) ps x)).1
    rw [putT] at hz
    omega
  | s :: ps, t, N + 1, hz, ht => by
    obtain ⟨y, hy⟩ : ∃ y, y = putT (kidT t s) ps x := ⟨_, rfl⟩
    have hya : AscD y := by rw [hy]; exact putT_ascD hx (kidT_asc ht)
    obtain ⟨w1, w2⟩ := with_is (t := t) (name := s) (x := y)
    have hwa : AscD (t.withT s y) := withT_ascD hya ht
    have e : dP (N + 1) t (putT t (s :: ps) x) = dS N t (t.withT s y) s := by
      rw [putT, ← hy, dP_succ]
      refine flatMap_one (ns_nodup _ _) ((mem_ns ht.asc hwa.asc).2 (.inr w1)) fun q hq hne => ?_
      obtain ⟨o1, o2⟩ := with_other (x := y) (ne_beq (fun e => hne e.symm)) ht.asc
      have h1 : t.atIs q = true := by
        rcases (mem_ns ht.asc hwa.asc).1 hq with h | h
        · exact h
        · rw [← o1]; exact h
      rw [dS_both h1 (by rw [o1]; exact h1), o2, dP_self N (kidT_asc ht)]
      rfl
    rw [putT, ← hy] at hz
    have z2 := kid_lt w1
    rw [w2] at z2
    rw [e, getT]
    cases hts : t.atIs s with
    | true =>
      have z1 := kid_lt hts
      rw [if_pos rfl, dS_both hts w1, w2]
      obtain ⟨i1, i2⟩ := put_diff hx ps (t := kidT t s) N (by rw [← hy]; omega) (kidT_asc ht)
      rw [← hy] at i1 i2
      refine ⟨fun h => ?_, fun h => ?_⟩
      · obtain ⟨p, hp, hpp⟩ := i1 h
        rw [hp]
        exact ⟨s :: p, rfl, (List.prefix_cons_inj _).2 hpp⟩
      · obtain ⟨M, hM, hzM⟩ := i2 h
        refine ⟨M, ?_, hzM⟩
        rw [hM, List.map_map]
        rfl
    | false =>
      rw [if_neg (by simp), dS_one (by rw [hts, Bool.false_and])]
      exact ⟨fun _ => ⟨[s], rfl, (List.prefix_cons_inj _).2 (List.nil_prefix)⟩, fun h => (by cases h)⟩
end Go.Proofs.Ytcfaocjgflefmaa.Df
