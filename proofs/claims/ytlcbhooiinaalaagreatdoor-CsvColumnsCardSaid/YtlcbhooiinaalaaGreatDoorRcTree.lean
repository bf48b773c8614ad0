/- csv: edges sorted at once, and put in one by one, are the same tree where their names are distinct. No conditions. -/
import Derived.Test.YtlcbhooiinaalaaGreatDoorMwCvReadM
import Derived.Test.YtlcbhooiinaalaaGreatDoorPthMath
namespace Go.Proofs.YtlcbhooiinaalaaGreatDoor.Cv
open Go.RowKit Go.Sort Go.Proofs.YtlcbhooiinaalaaGreatDoor.Jd Go.Proofs.YtlcbhooiinaalaaGreatDoor.Li Go.Proofs.YtlcbhooiinaalaaGreatDoor.Cl Go.Proofs.YtlcbhooiinaalaaGreatDoor.Pt
set_option maxRecDepth 100000

/-- The edges, as pairs. -/
def eds : Tr → List (ByteArray × Tr)
  | .nil => []
  | .cons s k r => (s, k) :: eds r
theorem eds_inj : ∀ {t u : Tr}, eds t = eds u → t = u
  | .nil, .nil, _ => rfl
  | .nil, .cons _ _ _, h => by cases h
  | .cons _ _ _, .nil, h => by cases h
  | .cons s k r, .cons s' k' r', h => by
    injection h with h1 h2
    injection h1 with h3 h4
    rw [h3, h4, eds_inj h2]
theorem eds_bn : ∀ t : Tr, t.bn = (eds t).map (·.1.data.toList)
  | .nil => rfl
  | .cons s k r => by rw [bn_cons, eds_bn r]; rfl
theorem eds_ofI (t : Tr) : ∀ is : List Nat, eds (ofI t is) = is.map fun i => (nmE t i, kdE t i)
  | [] => rfl
  | i :: r => by rw [ofI, eds, eds_ofI t r]; rfl
theorem eds_all : ∀ t : Tr, eds t = (List.range t.len).map fun i => (nmE t i, kdE t i)
  | .nil => rfl
  | .cons s k r => by
    rw [eds, Tr.len, List.range_succ_eq_map, List.map_cons, List.map_map, eds_all r]
    rfl
theorem srt_perm (t : Tr) : (eds (srtE t)).Perm (eds t) := by
  rw [srtE, eds_ofI, eds_all t]
  exact (pdq_mem t).2.1.map _
theorem cmp_lt (a b : List UInt8) : Lib.compareBytes a b < 0 ↔ a < b := by
  induction a generalizing b with
  | nil => cases b <;> simp [Lib.compareBytes]
  | cons x u ih =>
    cases b with
    | nil => simp [Lib.compareBytes]
    | cons y v =>
      rw [Lib.compareBytes, List.cons_lt_cons_iff]
      have hxy : x < y ↔ x.toNat < y.toNat := Iff.rfl
      have hyx : y < x ↔ y.toNat < x.toNat := Iff.rfl
      by_cases h1 : x < y
      · simp [h1]
      · rw [if_neg h1]
        by_cases h2 : y < x
        · rw [if_pos h2]
          constructor
          · intro h; omega
          · rintro (h | ⟨h, _⟩)
            · exact absurd h h1
            · subst h; exact absurd h2 h1
        · rw [if_neg h2]
          have e : x = y := UInt8.toNat_inj.1 (by have := mt hxy.2 h1; have := mt hyx.2 h2; omega)
          rw [ih]
          simp [e]
theorem srt_asc {t : Tr} (h : t.bn.Nodup) : (srtE t).Asc := by
  obtain ⟨p1, p2, p3⟩ := pdq_mem t
  have hb : (srtE t).bn = (pdq (ltOf (cfE t)) (Array.range t.len) 0 t.len (Lib.bitLen t.len) true true).toList.map fun i => (nmE t i).data.toList := by
    rw [eds_bn, srtE, eds_ofI, List.map_map]; rfl
  have hn : (srtE t).bn.Nodup := by
    rw [eds_bn]
    rw [eds_bn] at h
    exact ((srt_perm t).map _).nodup_iff.2 h
  unfold Tr.Asc
  rw [List.pairwise_iff_getElem]
  intro i j hi hj hij
  have hl : (srtE t).bn.length = t.len := by rw [hb, List.length_map, Array.length_toList, p1]
  have hne : (srtE t).bn[i] ≠ (srtE t).bn[j] := fun e => by
    have := (List.pairwise_iff_getElem.1 hn) i j hi hj hij
    exact this e
  have hs := p3 i j (Nat.zero_le _) hij (by omega)
  rw [ltE] at hs
  have hs := of_decide_eq_false hs
  generalize hD : pdq (ltOf (cfE t)) (Array.range t.len) 0 t.len (Lib.bitLen t.len) true true = D at hs hb p1
  have gi : (srtE t).bn[i] = (nmE t D[i]!).data.toList := by
    simp only [hb, List.getElem_map, Array.getElem_toList]
    rw [getElem!_pos D i (by omega)]
  have gj : (srtE t).bn[j] = (nmE t D[j]!).data.toList := by
    simp only [hb, List.getElem_map, Array.getElem_toList]
    rw [getElem!_pos D j (by omega)]
  rw [← gi, ← gj] at hs
  rcases cmpB_lt (srtE t).bn[i] (srtE t).bn[j] with h1 | ⟨_, h1⟩ | h1
  · exact (cmp_lt _ _).1 h1
  · exact absurd h1 hne
  · exfalso
    have := cmpB_flip (srtE t).bn[i] (srtE t).bn[j]
    omega
theorem asc_perm {t u : Tr} (ht : t.Asc) (hu : u.Asc) (hp : (eds t).Perm (eds u)) : t = u := by
  unfold Tr.Asc at ht hu
  rw [eds_bn, List.pairwise_map] at ht hu
  exact eds_inj (hp.eq_of_pairwise (le := fun a b => a.1.data.toList < b.1.data.toList) (fun a b _ _ h1 h2 => absurd (List.lt_trans h1 h2) (List.lt_irrefl _)) ht hu)
theorem eds_with {name : ByteArray} {x : Tr} : ∀ {t : Tr}, t.atIs name = false → (eds (t.withT name x)).Perm ((name, x) :: eds t)
  | .nil, _ => List.Perm.refl _
  | .cons s k r, h => by
    rcases cases3 s name with c | ⟨c, d⟩ | ⟨c, d, _⟩
    · rw [withT_lt c, eds, eds]
      rw [Pt.atIs_lt c] at h
      exact ((eds_with (t := r) h).cons (s, k)).trans (List.Perm.swap _ _ _)
    · rw [atIs_ge c, d] at h
      cases h
    · rw [withT_gt c d, eds, eds]
/-- A record's tree, its fields put in one by one. -/
def rowT : List ByteArray → List ByteArray → Tr → Tr
  | c :: cs, v :: vs, x => rowT cs vs (if v.size = 0 then x else x.withT c (.cons v .nil .nil))
  | _, _, x => x
theorem mem_atIs {t : Tr} {q : ByteArray} (ha : t.Asc) : t.atIs q = true ↔ q.data.toList ∈ t.bn := by
  constructor
  · intro h
    obtain ⟨k, hk⟩ : ∃ k, k = t.atN q := ⟨_, rfl⟩
    unfold Tr.atIs at h
    rw [← hk] at h
    clear hk ha
    have key : ∀ (t : Tr) (k : Nat), (t.dropT k).headIs q = true → q.data.toList ∈ t.bn := by
      intro t
      induction t with
      | nil => intro k h; cases k <;> cases h
      | cons s kk r _ ih =>
        intro k h
        cases k with
        | zero =>
          have e : s = q := names_of_eq (by simpa [dropT_zero, Tr.headIs] using h)
          rw [bn_cons, e]
          exact List.mem_cons_self ..
        | succ k => rw [bn_cons]; exact List.mem_cons_of_mem _ (ih k h)
    exact key t k h
  · exact atIs_mem ha
theorem with_bn_mem {name : ByteArray} {x t : Tr} (ha : t.Asc) {q : List UInt8} : q ∈ (t.withT name x).bn ↔ q = name.data.toList ∨ q ∈ t.bn := by
  constructor
  · exact withT_mem
  · intro h
    have e : q = (ByteArray.mk q.toArray).data.toList := by simp
    rw [e]
    refine (mem_atIs (withT_asc ha)).1 ?_
    rcases h with h | h
    · have : ByteArray.mk q.toArray = name := by rw [h]
      rw [this]; exact with_is.1
    · by_cases hn : (name.toList == (ByteArray.mk q.toArray).toList) = true
      · rw [← names_of_eq hn]; exact with_is.1
      · rw [(with_other (by simpa using hn) ha).1]
        exact (mem_atIs ha).2 (by simpa using h)
theorem rawB_bn : ∀ (cs vs : List ByteArray) (q : List UInt8), q ∈ (rawB cs vs).bn → q ∈ cs.map (·.data.toList)
  | [], _, q, h => by unfold rawB at h; cases h
  | _ :: _, [], q, h => by unfold rawB at h; cases h
  | c :: cs, v :: vs, q, h => by
    rw [rawB] at h
    split at h
    · exact List.mem_cons_of_mem _ (rawB_bn cs vs q h)
    · rw [bn_cons] at h
      rcases List.mem_cons.1 h with e | e
      · rw [e]; exact List.mem_cons_self ..
      · exact List.mem_cons_of_mem _ (rawB_bn cs vs q e)
theorem rawB_nodup : ∀ (cs vs : List ByteArray), (cs.map (·.data.toList)).Nodup → (rawB cs vs).bn.Nodup
  | [], _, _ => by unfold rawB; exact List.nodup_nil
  | _ :: _, [], _ => by unfold rawB; exact List.nodup_nil
  | c :: cs, v :: vs, h => by
    rw [List.map_cons, List.nodup_cons] at h
    rw [rawB]
    split
    · exact rawB_nodup cs vs h.2
    · rw [bn_cons, List.nodup_cons]
      exact ⟨fun e => h.1 (rawB_bn cs vs _ e), rawB_nodup cs vs h.2⟩
theorem rowT_perm : ∀ (cs vs : List ByteArray) (x : Tr), (cs.map (·.data.toList)).Nodup → x.Asc → (∀ c ∈ cs, c.data.toList ∉ x.bn) → (rowT cs vs x).Asc ∧ (eds (rowT cs vs x)).Perm (eds (rawB cs vs) ++ eds x)
  | [], _, _, _, ha, _ => by unfold rowT rawB; exact ⟨ha, List.Perm.refl _⟩
  | _ :: _, [], _, _, ha, _ => by unfold rowT rawB; exact ⟨ha, List.Perm.refl _⟩
  | c :: cs, v :: vs, x, hn, ha, hx => by
    rw [List.map_cons, List.nodup_cons] at hn
    rw [rowT, rawB]
    by_cases hv : v.size = 0
    · rw [if_pos hv, if_pos hv]
      exact rowT_perm cs vs x hn.2 ha (fun d hd => hx d (by simp [hd]))
    · rw [if_neg hv, if_neg hv]
      have hc : x.atIs c = false := by
        cases hq : x.atIs c with
        | false => rfl
        | true => exact absurd ((mem_atIs ha).1 hq) (hx c (by simp))
      obtain ⟨a, b⟩ := rowT_perm cs vs (x.withT c (.cons v .nil .nil)) hn.2 (withT_asc ha) (fun d hd hm => by
        rcases withT_mem hm with e | e
        · exact hn.1 (by rw [← e]; exact List.mem_map_of_mem hd)
        · exact hx d (by simp [hd]) e)
      refine ⟨a, b.trans ?_⟩
      refine ((eds_with hc).append_left _).trans ?_
      rw [eds]
      exact List.perm_middle
theorem rowT_eq {cs vs : List ByteArray} (hn : (cs.map (·.data.toList)).Nodup) : rowT cs vs .nil = srtE (rawB cs vs) := by
  obtain ⟨a, b⟩ := rowT_perm cs vs .nil hn nil_asc (fun _ _ h => by cases h)
  refine asc_perm a (srt_asc (rawB_nodup cs vs hn)) (b.trans ?_)
  have e : eds Tr.nil = [] := rfl
  rw [e, List.append_nil]
  exact (srt_perm _).symm
/-- The file's tree, its rows put in one by one. -/
def accT (cols : List ByteArray) : Tr → List Rw → Tr
  | t, [] => t
  | t, r :: rs => accT cols (t.withT (nm r) (rowT cols (mns r.fs.tail) .nil)) rs
theorem accT_snoc (cols : List ByteArray) : ∀ (rs : List Rw) (t : Tr) (r : Rw), accT cols t (rs ++ [r]) = (accT cols t rs).withT (nm r) (rowT cols (mns r.fs.tail) .nil)
  | [], _, _ => rfl
  | x :: rs, t, r => by rw [List.cons_append, accT, accT, accT_snoc cols rs]
theorem accT_asc (cols : List ByteArray) : ∀ (rs : List Rw) (t : Tr), t.Asc → (accT cols t rs).Asc
  | [], _, h => h
  | _ :: rs, _, h => accT_asc cols rs _ (withT_asc h)
theorem accT_mem (cols : List ByteArray) : ∀ (rs : List Rw) (t : Tr) (q : List UInt8), t.Asc → (q ∈ (accT cols t rs).bn ↔ q ∈ t.bn ∨ ∃ r ∈ rs, (nm r).data.toList = q)
  | [], t, q, _ => by simp [accT]
  | r :: rs, t, q, h => by
    rw [accT, accT_mem cols rs _ q (withT_asc h), with_bn_mem h]
    simp only [List.mem_cons, exists_eq_or_imp]
    constructor
    · rintro ((h | h) | h)
      · exact .inr (.inl h.symm)
      · exact .inl h
      · exact .inr (.inr h)
    · rintro (h | h | h)
      · exact .inl (.inr h)
      · exact .inl (.inl h.symm)
      · exact .inr h
theorem recs_bn (cols : List ByteArray) : ∀ rs : List Rw, (recsT srtE cols rs).bn = rs.map fun r => (nm r).data.toList
  | [] => rfl
  | r :: rs => by rw [recsT, bn_cons, recs_bn cols rs]; rfl
theorem accT_perm {cols : List ByteArray} (hc : (cols.map (·.data.toList)).Nodup) : ∀ (rs : List Rw) (t : Tr), (rs.map fun r => (nm r).data.toList).Nodup → t.Asc → (∀ r ∈ rs, (nm r).data.toList ∉ t.bn) → (eds (accT cols t rs)).Perm (eds (recsT srtE cols rs) ++ eds t)
  | [], t, _, _, _ => List.Perm.refl _
  | r :: rs, t, hn, ha, hx => by
    rw [List.map_cons, List.nodup_cons] at hn
    have hr : t.atIs (nm r) = false := by
      cases hq : t.atIs (nm r) with
      | false => rfl
      | true => exact absurd ((mem_atIs ha).1 hq) (hx r (by simp))
    rw [accT, recsT, eds, rowT_eq hc]
    refine (accT_perm hc rs _ hn.2 (withT_asc ha) (fun d hd hm => ?_)).trans ?_
    · rcases withT_mem hm with e | e
      · exact hn.1 (by rw [← e]; exact List.mem_map_of_mem (f := fun r => (nm r).data.toList) hd)
      · exact hx d (by simp [hd]) e
    · exact ((eds_with hr).append_left _).trans List.perm_middle
theorem accT_eq {cols : List ByteArray} {rs : List Rw} (hc : (cols.map (·.data.toList)).Nodup) (hn : (rs.map fun r => (nm r).data.toList).Nodup) : accT cols .nil rs = srtE (recsT srtE cols rs) := by
  refine asc_perm (accT_asc cols rs _ nil_asc) (srt_asc (by rw [recs_bn]; exact hn)) ?_
  refine (accT_perm hc rs .nil hn nil_asc (fun _ _ h => by cases h)).trans ?_
  have e : eds Tr.nil = [] := rfl
  rw [e, List.append_nil]
  exact (srt_perm _).symm
end Go.Proofs.YtlcbhooiinaalaaGreatDoor.Cv
