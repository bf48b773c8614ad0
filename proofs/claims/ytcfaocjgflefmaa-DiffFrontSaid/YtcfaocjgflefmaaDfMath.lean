/- Where two trees differ: the paths, told by the names of both. No conditions. -/
import Derived.Test.YtcfaocjgflefmaaPthMath
import Derived.Test.YtcfaocjgflefmaaSame
namespace Go.Proofs.Ytcfaocjgflefmaa.Df
open Go.RowKit Go.Proofs.Ytcfaocjgflefmaa.Pt
set_option maxRecDepth 100000

theorem same_eq : ∀ {t u : Tr}, t.same u = true → t = u
  | .nil, .nil, _ => rfl
  | .cons s k r, .cons s' k' r', h => by
    simp only [Tr.same, Bool.and_eq_true, beq_iff_eq] at h
    rw [bytes_eq h.1.1, same_eq h.1.2, same_eq h.2]
  | .nil, .cons _ _ _, h => by simp [Tr.same] at h
  | .cons _ _ _, .nil, h => by simp [Tr.same] at h

/-- A name of its bytes. -/
def nb (l : List UInt8) : ByteArray := ⟨l.toArray⟩
theorem nb_data (s : ByteArray) : nb s.data.toList = s := by simp [nb]
theorem data_nb (l : List UInt8) : (nb l).data.toList = l := by simp [nb]
theorem nb_inj {a b : List UInt8} (h : nb a = nb b) : a = b := by rw [← data_nb a, h, data_nb]
/-- The names of both, in order. -/
def nsT (t u : Tr) : List ByteArray := (namesOf (t.names ++ u.names)).map nb
theorem is_mem {name : ByteArray} : ∀ {t : Tr}, t.atIs name = true → name ∈ t.names
  | .nil, h => by simp [Tr.atIs, Tr.atN, dropT_zero, Tr.headIs] at h
  | .cons s k r, h => by
    rcases cases3 s name with c1 | ⟨c1, c2⟩ | ⟨c1, c2, _⟩
    · rw [Pt.atIs_lt c1] at h
      exact List.mem_cons_of_mem _ (is_mem h)
    · rw [names_of_eq c2]
      exact List.mem_cons_self
    · rw [atIs_ge c1, c2] at h; cases h
theorem mem_is {name : ByteArray} {t : Tr} (ha : t.Asc) (h : name ∈ t.names) : t.atIs name = true := atIs_mem ha (List.mem_map_of_mem h)
theorem mem_ns {t u : Tr} {s : ByteArray} (ht : t.Asc) (hu : u.Asc) : s ∈ nsT t u ↔ (t.atIs s = true ∨ u.atIs s = true) := by
  have h : s ∈ nsT t u ↔ s ∈ t.names ++ u.names := by
    unfold nsT
    rw [List.mem_map]
    constructor
    · rintro ⟨l, hl, rfl⟩
      rw [namesOf_mem, List.mem_map] at hl
      obtain ⟨x, hx, rfl⟩ := hl
      rw [nb_data]
      exact hx
    · intro hs
      exact ⟨s.data.toList, (namesOf_mem _ _).2 (List.mem_map_of_mem hs), nb_data s⟩
  rw [h, List.mem_append]
  exact ⟨fun h => h.imp (mem_is ht) (mem_is hu), fun h => h.imp is_mem is_mem⟩
theorem ns_nodup (t u : Tr) : (nsT t u).Nodup := by
  unfold nsT List.Nodup
  rw [List.pairwise_map]
  exact (namesOf_pair _).imp fun h e => by rw [nb_inj e] at h; exact List.lt_irrefl _ h
theorem ns_comm (t u : Tr) : nsT t u = nsT u t :=
  congrArg (List.map nb) (asc_eq (namesOf_pair _) (namesOf_pair _) fun x => by
    rw [namesOf_mem, namesOf_mem, List.map_append, List.map_append, List.mem_append, List.mem_append]
    exact Or.comm)

/-- The paths at which they differ; N: how often it may go down. -/
def dP : Nat → Tr → Tr → List (List ByteArray)
  | 0, _, _ => []
  | N + 1, t, u => (nsT t u).flatMap fun s => if (t.atIs s && u.atIs s) = true then (dP N (kidT t s) (kidT u s)).map (s :: ·) else [[s]]
def dS (N : Nat) (t u : Tr) (s : ByteArray) : List (List ByteArray) := if (t.atIs s && u.atIs s) = true then (dP N (kidT t s) (kidT u s)).map (s :: ·) else [[s]]
theorem dP_succ (N : Nat) (t u : Tr) : dP (N + 1) t u = (nsT t u).flatMap (dS N t u) := rfl
theorem dS_both {N : Nat} {t u : Tr} {s : ByteArray} (h1 : t.atIs s = true) (h2 : u.atIs s = true) : dS N t u s = (dP N (kidT t s) (kidT u s)).map (s :: ·) := by rw [dS, if_pos (by rw [h1, h2]; rfl)]
theorem dS_one {N : Nat} {t u : Tr} {s : ByteArray} (h : (t.atIs s && u.atIs s) = false) : dS N t u s = [[s]] := by rw [dS, if_neg (by rw [h]; simp)]

theorem kid_lt : ∀ {t : Tr} {s : ByteArray}, t.atIs s = true → (kidT t s).size + 1 ≤ t.size
  | .nil, _, h => by simp [Tr.atIs, Tr.atN, dropT_zero, Tr.headIs] at h
  | .cons s0 k r, s, h => by
    simp only [Tr.size]
    rcases cases3 s0 s with c1 | ⟨c1, c2⟩ | ⟨c1, c2, _⟩
    · rw [Pt.atIs_lt c1] at h
      have := kid_lt h
      rw [kidT_lt c1]
      omega
    · rw [kidT_eq c1 c2]; omega
    · rw [atIs_ge c1, c2] at h; cases h
theorem nil_is (s : ByteArray) : Tr.nil.atIs s = false := by simp [Tr.atIs, Tr.atN, dropT_zero, Tr.headIs]
theorem head_is (s : ByteArray) (k r : Tr) : (Tr.cons s k r).atIs s = true ∧ kidT (.cons s k r) s = k := by
  rw [atIs_ge (self_not_lt s), kidT_eq (self_not_lt s) (self_eq s)]
  exact ⟨self_eq s, rfl⟩
/-- What stands behind an edge has names behind it. -/
theorem behind {s q : ByteArray} {k r : Tr} (h : (Tr.cons s k r).Asc) (hq : Op.bytesLess s.toList q.toList = false) : r.atIs q = false := by
  cases hr : r.atIs q with
  | false => rfl
  | true =>
    unfold Tr.Asc at h
    rw [bn_cons, List.pairwise_cons] at h
    have := h.1 _ (List.mem_map_of_mem (is_mem hr))
    rw [(less_iff _ _).2 this] at hq
    cases hq
theorem asc_tail {s : ByteArray} {k r : Tr} (h : (Tr.cons s k r).Asc) : r.Asc := by
  unfold Tr.Asc at h
  rw [bn_cons, List.pairwise_cons] at h
  exact h.2
/-- Trees with the same edges are one. -/
theorem ext_at : ∀ {t u : Tr}, t.Asc → u.Asc → (∀ s, t.atIs s = u.atIs s) → (∀ s, t.atIs s = true → kidT t s = kidT u s) → t = u
  | .nil, .nil, _, _, _, _ => rfl
  | .nil, .cons s k r, _, _, h, _ => by
    have := h s
    rw [nil_is, (head_is s k r).1] at this
    cases this
  | .cons s k r, .nil, _, _, h, _ => by
    have := h s
    rw [nil_is, (head_is s k r).1] at this
    cases this
  | .cons s k r, .cons s' k' r', ht, hu, h, hk => by
    have e : s = s' := by
      rcases cases3 s s' with c1 | ⟨_, c2⟩ | ⟨_, _, c3⟩
      · have h1 := h s
        obtain ⟨c4, c5⟩ := lt_not c1
        rw [(head_is s k r).1, atIs_ge c4, c5] at h1
        cases h1
      · exact names_of_eq c2
      · have h1 := h s'
        obtain ⟨c4, c5⟩ := lt_not c3
        rw [(head_is s' k' r').1, atIs_ge c4, c5] at h1
        cases h1
    subst e
    have e2 : k = k' := by
      have := hk s (head_is s k r).1
      rwa [(head_is s k r).2, (head_is s k' r').2] at this
    have e3 : r = r' := by
      refine ext_at (asc_tail ht) (asc_tail hu) (fun q => ?_) (fun q hq => ?_)
      · cases c1 : Op.bytesLess s.toList q.toList with
        | true =>
          have := h q
          rwa [Pt.atIs_lt c1, Pt.atIs_lt c1] at this
        | false => rw [behind ht c1, behind hu c1]
      · cases c1 : Op.bytesLess s.toList q.toList with
        | true =>
          have := hk q (by rw [Pt.atIs_lt c1]; exact hq)
          rwa [kidT_lt c1, kidT_lt c1] at this
        | false => rw [behind ht c1] at hq; cases hq
    rw [e2, e3]
theorem size_zero {t : Tr} (h : t.size = 0) : t = .nil := by
  cases t with
  | nil => rfl
  | cons s k r => simp [Tr.size] at h

theorem dP_self : ∀ (N : Nat) {t : Tr}, AscD t → dP N t t = []
  | 0, _, _ => rfl
  | N + 1, t, h => by
    rw [dP_succ, List.flatMap_eq_nil_iff]
    intro s hs
    have h1 : t.atIs s = true := ((mem_ns h.asc h.asc).1 hs).elim id id
    rw [dS_both h1 h1, dP_self N (kidT_asc h)]
    rfl
theorem dP_nil : ∀ (N : Nat) {t u : Tr}, t.size + u.size ≤ N → AscD t → AscD u → dP N t u = [] → t = u
  | 0, t, u, hz, _, _, _ => by rw [size_zero (by omega : t.size = 0), size_zero (by omega : u.size = 0)]
  | N + 1, t, u, hz, ht, hu, h => by
    rw [dP_succ, List.flatMap_eq_nil_iff] at h
    have key : ∀ s, (t.atIs s = true ∨ u.atIs s = true) → t.atIs s = true ∧ u.atIs s = true ∧ kidT t s = kidT u s := by
      intro s hs
      have h1 := h s ((mem_ns ht.asc hu.asc).2 hs)
      cases hb : (t.atIs s && u.atIs s) with
      | false => rw [dS_one hb] at h1; cases h1
      | true =>
        rw [Bool.and_eq_true] at hb
        rw [dS_both hb.1 hb.2, List.map_eq_nil_iff] at h1
        have z1 := kid_lt hb.1
        have z2 := kid_lt hb.2
        exact ⟨hb.1, hb.2, dP_nil N (by omega) (kidT_asc ht) (kidT_asc hu) h1⟩
    refine ext_at ht.asc hu.asc (fun s => ?_) (fun s hs => (key s (.inl hs)).2.2)
    cases h1 : t.atIs s with
    | true => exact (key s (.inl h1)).2.1.symm
    | false =>
      cases h2 : u.atIs s with
      | false => rfl
      | true => rw [(key s (.inr h2)).1] at h1; cases h1
theorem dP_same {N : Nat} {t u : Tr} (hz : t.size + u.size ≤ N) (ht : AscD t) (hu : AscD u) : decide ((dP N t u).length = 0) = t.same u := by
  cases h : t.same u with
  | true =>
    obtain rfl := same_eq h
    rw [dP_self N ht]
    rfl
  | false =>
    refine decide_eq_false fun e => ?_
    have := dP_nil N hz ht hu (List.eq_nil_of_length_eq_zero e)
    rw [this, same_refl] at h
    cases h
theorem get_one (t : Tr) (s : ByteArray) : (getT t [s]).2 = t.atIs s := by
  rw [getT]
  cases h : t.atIs s with
  | true => rw [if_pos rfl]; rfl
  | false => rw [if_neg (by simp)]
/-- At each one of the two has an edge, and the other one has not. -/
theorem dP_diff : ∀ (N : Nat) {t u : Tr}, AscD t → AscD u → ∀ p ∈ dP N t u, p ≠ [] ∧ (getT t p).2 ≠ (getT u p).2
  | 0, _, _, _, _, p, hp => by simp [dP] at hp
  | N + 1, t, u, ht, hu, p, hp => by
    rw [dP_succ, List.mem_flatMap] at hp
    obtain ⟨s, hs, hp⟩ := hp
    cases hb : (t.atIs s && u.atIs s) with
    | true =>
      rw [Bool.and_eq_true] at hb
      rw [dS_both hb.1 hb.2, List.mem_map] at hp
      obtain ⟨q, hq, rfl⟩ := hp
      refine ⟨by simp, ?_⟩
      rw [getT, getT, if_pos hb.1, if_pos hb.2]
      exact (dP_diff N (kidT_asc ht) (kidT_asc hu) q hq).2
    | false =>
      rw [dS_one hb, List.mem_singleton] at hp
      subst hp
      refine ⟨by simp, ?_⟩
      rcases (mem_ns ht.asc hu.asc).1 hs with h1 | h1
      · rw [h1, Bool.true_and] at hb
        rw [get_one, get_one, h1, hb]
        simp
      · rw [h1, Bool.and_true] at hb
        rw [get_one, get_one, h1, hb]
        simp
/-- None begins with another one. -/
theorem dP_apart : ∀ (N : Nat) (t u : Tr), (dP N t u).Pairwise fun p q => ¬ p <+: q ∧ ¬ q <+: p
  | 0, _, _ => List.Pairwise.nil
  | N + 1, t, u => by
    have hd : ∀ (s : ByteArray) (p : List ByteArray), p ∈ dS N t u s → ∃ q, p = s :: q := by
      intro s p hp
      unfold dS at hp
      split at hp
      · rw [List.mem_map] at hp
        obtain ⟨q, _, rfl⟩ := hp
        exact ⟨q, rfl⟩
      · rw [List.mem_singleton] at hp
        exact ⟨[], hp⟩
    rw [dP_succ, List.pairwise_flatMap]
    refine ⟨fun s _ => ?_, (ns_nodup t u).imp fun {a b} hab p hp q hq => ?_⟩
    · unfold dS
      split
      · rw [List.pairwise_map]
        refine (dP_apart N _ _).imp fun {p q} h => ⟨fun e => h.1 ?_, fun e => h.2 ?_⟩
        · exact (List.prefix_cons_inj _).1 e
        · exact (List.prefix_cons_inj _).1 e
      · exact List.pairwise_singleton _ _
    · obtain ⟨p', rfl⟩ := hd a p hp
      obtain ⟨q', rfl⟩ := hd b q hq
      exact ⟨fun e => hab (List.cons_prefix_cons.1 e).1, fun e => hab (List.cons_prefix_cons.1 e).1.symm⟩
theorem dP_comm : ∀ (N : Nat) (t u : Tr), dP N t u = dP N u t
  | 0, _, _ => rfl
  | N + 1, t, u => by
    rw [dP_succ, dP_succ, ns_comm t u]
    congr 1
    funext s
    rw [dS, dS, Bool.and_comm, dP_comm N]
theorem dP_fuel : ∀ (N M : Nat) {t u : Tr}, t.size + u.size ≤ N → t.size + u.size ≤ M → dP N t u = dP M t u
  | 0, M, t, u, h, _ => by
    rw [size_zero (by omega : t.size = 0), size_zero (by omega : u.size = 0), dP_self M (show AscD .nil from trivial)]
    rfl
  | N + 1, 0, t, u, _, h => by
    rw [size_zero (by omega : t.size = 0), size_zero (by omega : u.size = 0), dP_self (N + 1) (show AscD .nil from trivial)]
    rfl
  | N + 1, M + 1, t, u, h1, h2 => by
    rw [dP_succ, dP_succ]
    congr 1
    funext s
    cases hb : (t.atIs s && u.atIs s) with
    | false => rw [dS_one hb, dS_one hb]
    | true =>
      rw [Bool.and_eq_true] at hb
      have z1 := kid_lt hb.1
      have z2 := kid_lt hb.2
      rw [dS_both hb.1 hb.2, dS_both hb.1 hb.2, dP_fuel N M (by omega) (by omega)]

/-! How many there are. -/
def wt (t : Tr) (s : ByteArray) : Nat := if t.atIs s = true then (kidT t s).size + 1 else 0
theorem sum_le {α : Type} {f g : α → Nat} : ∀ {l : List α}, (∀ x ∈ l, f x ≤ g x) → (l.map f).sum ≤ (l.map g).sum
  | [], _ => Nat.le_refl _
  | x :: l, h => by
    have h1 := h x List.mem_cons_self
    have h2 := sum_le (l := l) fun y hy => h y (List.mem_cons_of_mem _ hy)
    simp only [List.map_cons, List.sum_cons]
    omega
theorem sum_add {α : Type} (f g : α → Nat) : ∀ l : List α, (l.map fun x => f x + g x).sum = (l.map f).sum + (l.map g).sum
  | [] => rfl
  | x :: l => by
    have := sum_add f g l
    simp only [List.map_cons, List.sum_cons]
    omega
theorem sum_one (s : ByteArray) (c : Nat) : ∀ {l : List ByteArray}, l.Nodup → (l.map fun q => if q = s then c else 0).sum ≤ c
  | [], _ => Nat.zero_le _
  | q :: l, h => by
    rw [List.nodup_cons] at h
    simp only [List.map_cons, List.sum_cons]
    by_cases e : q = s
    · subst e
      rw [if_pos rfl]
      have : (l.map fun x => if x = q then c else 0).sum = 0 := by
        have hz : ∀ l : List ByteArray, q ∉ l → (l.map fun x => if x = q then c else 0).sum = 0 := by
          intro l
          induction l with
          | nil => intro _; rfl
          | cons a l ih =>
            intro hq
            rw [List.mem_cons, not_or] at hq
            simp only [List.map_cons, List.sum_cons]
            rw [if_neg (fun e => hq.1 e.symm), ih hq.2]
        exact hz l h.1
      omega
    · rw [if_neg e]
      have := sum_one s c h.2
      omega
theorem wt_sum : ∀ (t : Tr) {l : List ByteArray}, l.Nodup → (l.map (wt t)).sum ≤ t.size
  | .nil, l, _ => by
    have : (l.map (wt .nil)).sum ≤ (l.map fun _ => 0).sum := sum_le fun q _ => by rw [wt, nil_is]; simp
    have h0 : ∀ l : List ByteArray, (l.map fun _ => 0).sum = 0 := fun l => by
      induction l with
      | nil => rfl
      | cons a l ih => rw [List.map_cons, List.sum_cons, ih]
    have h0 := h0 l
    simp only [Tr.size]
    omega
  | .cons s k r, l, h => by
    have h1 : (l.map (wt (.cons s k r))).sum ≤ (l.map fun q => (if q = s then k.size + 1 else 0) + wt r q).sum := sum_le fun q _ => by
      unfold wt
      rcases cases3 s q with c1 | ⟨c1, c2⟩ | ⟨c1, c2, _⟩
      · rw [Pt.atIs_lt c1, kidT_lt c1]; omega
      · rw [← names_of_eq c2, (head_is s k r).1, (head_is s k r).2, if_pos rfl, if_pos rfl]; omega
      · rw [atIs_ge c1, c2, if_neg (by simp)]; omega
    have h2 := sum_add (fun q => if q = s then k.size + 1 else 0) (wt r) l
    have h3 := sum_one s (k.size + 1) h
    have h4 := wt_sum r h
    simp only [Tr.size]
    omega
theorem dP_len : ∀ (N : Nat) {t u : Tr}, AscD t → AscD u → (dP N t u).length ≤ t.size + u.size
  | 0, _, _, _, _ => Nat.zero_le _
  | N + 1, t, u, ht, hu => by
    have h1 := sum_le (l := nsT t u) (f := fun s => (dS N t u s).length) (g := fun s => wt t s + wt u s) fun s hs => by
      cases hb : (t.atIs s && u.atIs s) with
      | true =>
        rw [Bool.and_eq_true] at hb
        have := dP_len N (kidT_asc (name := s) ht) (kidT_asc (name := s) hu)
        rw [dS_both hb.1 hb.2, List.length_map, wt, wt, if_pos hb.1, if_pos hb.2]
        omega
      | false =>
        rw [dS_one hb]
        rcases (mem_ns ht.asc hu.asc).1 hs with h1 | h1
        · rw [wt, if_pos h1]; simp only [List.length_cons, List.length_nil]; omega
        · rw [wt, wt, if_pos h1]; simp only [List.length_cons, List.length_nil]; omega
    have h2 := sum_add (wt t) (wt u) (nsT t u)
    have h3 := wt_sum t (ns_nodup t u)
    have h4 := wt_sum u (ns_nodup t u)
    rw [dP_succ, List.length_flatMap]
    omega
theorem dP_short : ∀ (N : Nat) (t u : Tr), ∀ p ∈ dP N t u, p.length ≤ N
  | 0, _, _, p, hp => by simp [dP] at hp
  | N + 1, t, u, p, hp => by
    rw [dP_succ, List.mem_flatMap] at hp
    obtain ⟨s, _, hp⟩ := hp
    unfold dS at hp
    split at hp
    · rw [List.mem_map] at hp
      obtain ⟨q, hq, rfl⟩ := hp
      have := dP_short N _ _ q hq
      simp only [List.length_cons]
      omega
    · rw [List.mem_singleton] at hp
      subst hp
      simp
end Go.Proofs.Ytcfaocjgflefmaa.Df
