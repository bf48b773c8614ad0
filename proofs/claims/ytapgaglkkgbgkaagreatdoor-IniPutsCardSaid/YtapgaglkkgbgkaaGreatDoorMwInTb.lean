/- Trees in memory, told with the blocks they lie in, beside a row of one's own; Kid told so. Conditions: none. · csv: edges sorted at once, and put in one by one, are the same tree where their names are distinct. No conditions. · ini: the file of a tree that is put into a file, as plain mathematics. No conditions. · ini: rows and parts as they lie in memory. No conditions. · ini.fault: what is wrong with a line. Conditions: fewer than 100000 parts and rows. -/
import Derived.Test.YtapgaglkkgbgkaaGreatDoorMwEdg
import Derived.Test.YtapgaglkkgbgkaaGreatDoorMwNamesMath
import Derived.Test.YtapgaglkkgbgkaaGreatDoorMwCvGrow
import Derived.Test.YtapgaglkkgbgkaaGreatDoorMwInRow
import Derived.Test.YtapgaglkkgbgkaaGreatDoorMwWords
import Derived.Outline
namespace Go.Proofs.YtapgaglkkgbgkaaGreatDoor.In
open Go.RowKit Go.Proofs.YtapgaglkkgbgkaaGreatDoor.Jd Go.Proofs.YtapgaglkkgbgkaaGreatDoor.Cl Go.Proofs.YtapgaglkkgbgkaaGreatDoor.Pt
set_option maxRecDepth 100000

/-- Blocks there are, but one. -/
def TB (w : World) (o : Option Nat) (b : Nat) : Prop := b < w.heap.size ∧ some b ≠ o
theorem TB.keep {w w' : World} {o : Option Nat} {A : Option Addr} {n : Nat} {t : Tr} (h : HoldsP w (TB w o) A n t) (hb : Below w.heap.size w w') : HoldsP w' (TB w' o) A n t :=
  (HoldsP.keep (w' := w') (fun b q hm => hb.cell (p := ⟨b, q, none⟩) hm.1) h).more fun _ hm => ⟨Nat.lt_of_lt_of_le hm.1 hb.size, hm.2⟩
theorem TB.up {w w' : World} {o : Option Nat} {A : Option Addr} {n : Nat} {t : Tr} (h : HoldsP w' (fun b => TB w o b ∨ Mine w.heap.size w' b) A n t) (ho : ∀ q, o = some q → q < w.heap.size) (hs : w.heap.size ≤ w'.heap.size) : HoldsP w' (TB w' o) A n t :=
  h.more fun b hm => by
    rcases hm with h1 | h1
    · exact ⟨Nat.lt_of_lt_of_le h1.1 hs, h1.2⟩
    · exact ⟨h1.lt, fun e => by have := ho b e.symm; have := h1.1; omega⟩
theorem TB.grown {w w' : World} {A6 A7 : Option Addr} {k c6 m c7 n : Nat} {A : Option Addr} {t : Tr} (h : HoldsP w (TB w (Value.slice A6 k c6).ownBlock) A n t) (hg : w.grownBy w' (Value.slice A6 k c6).ownBlock)
    (hat : ∀ a, A7 = some a → w.heap.size ≤ a.block ∨ some a.block = (Value.slice A6 k c6).ownBlock) : HoldsP w' (TB w' (Value.slice A7 m c7).ownBlock) A n t :=
  (HoldsP.keep (w' := w') (fun b q hm => World.cell?_of_block (hg.block b hm.1 hm.2)) h).more fun b hm => ⟨Nat.lt_of_lt_of_le hm.1 hg.size, fun e => by
    cases A7 with
    | none => cases e
    | some a =>
      have e : b = a.block := by injection e
      rcases hat a rfl with h1 | h1
      · have := hm.1; omega
      · exact hm.2 (by rw [e]; exact h1)⟩
theorem TB.holds {w : World} {o : Option Nat} {A : Option Addr} {n : Nat} {t : Tr} (h : HoldsP w (TB w o) A n t) : Holds w w.heap.size A n t := h.to fun _ hm => hm.1
/-- A value's tree, new. -/
theorem rvalue3_any (x : ByteArray) (w : World) : Calls Tryz.prog 32 #[.string x] w fun e w' => e = .returned (.slice (some ⟨w.heap.size, 0, none⟩) 1 1) ∧ HoldsP w' (fun b => b = w.heap.size) (some ⟨w.heap.size, 0, none⟩) 1 (.cons x .nil .nil) ∧ Below w.heap.size w w' ∧ w.heap.size < w'.heap.size := by
  go_enter Tryz.func32, Tryz.ntmps32
  go_wp2_with fail
  go_ret
  have hg := heap_alloc_new w (Obj.cells #[Value.string x, Value.slice none 0 0] 56)
  refine ⟨rfl, ⟨_, 0, rfl, rfl, by rw [cell_of_row _ _ _ _ _ _ hg]; rfl, ⟨none, 0, 0, by rw [cell_of_row _ _ _ _ _ _ hg]; rfl, Nat.le_refl _, Nat.zero_le _, rfl⟩, 0, rfl, rfl⟩, (Below.refl _ _).alloc (Nat.le_refl _) _, (Array.getElem?_eq_some_iff.1 hg).1⟩

theorem subs_drop : ∀ (t : Tr) (i : Nat) {s : ByteArray} {k r : Tr}, t.dropT i = .cons s k r → (subs t)[i]? = some k
  | .nil, 0, _, _, _, h => by cases h
  | .nil, _ + 1, _, _, _, h => by cases h
  | .cons _ _ _, 0, _, _, _, h => by rw [dropT_zero] at h; injection h with _ h2 _; subst h2; rfl
  | .cons _ _ r', i + 1, _, _, _, h => by
    have := subs_drop r' i (by simpa [Tr.dropT] using h)
    simpa [subs] using this
/-- What is below a name, in blocks that P picks. -/
def KPP (w : World) (P : Nat → Prop) (k : Tr) (v : Bool) (e : Ending) (w' : World) : Prop :=
  ∃ A' n' c', e = .returned (.tuple #[.slice A' n' c', .bool v]) ∧ HoldsP w P A' n' k ∧ n' ≤ c' ∧ c' ≤ maxLen ∧ ∃ q, w' = w.drewN q
set_option maxHeartbeats 1000000 in
theorem kidP_any {P : Nat → Prop} (t : Tr) (A : Option Addr) (n c : Nat) (name : ByteArray) (w : World) (h : HoldsP w P A n t) (hP : ∀ b, P b → b < w.heap.size) (hn : n ≤ 140737488351232) :
    Calls Tryz.prog 33 #[.slice A n c, .string name] w (KPP w P (kidT t name) (t.atIs name)) := by
  have HA := Lib.hid (at_any t A n c w.heap.size name w (h.to hP) (Nat.le_refl _) hn)
  have hl := h.len
  by_cases hi : t.atIs name = true
  · obtain ⟨r, hdr⟩ := kid_at hi
    have hlt := drop_lt' hdr
    have hsub := subs_drop _ _ hdr
    rw [hi] at HA ⊢
    obtain ⟨k, hk⟩ : ∃ k, k = t.atN name := ⟨_, rfl⟩
    rw [← hk] at HA hlt hdr hsub
    obtain ⟨b, o, s, kt, r', A', n', c', rfl, hb, hs, hc, hn', hc', hk', hr, hd, hd2⟩ := (h.to hP).split k (by omega)
    obtain ⟨A2, n2, c2, hc2, _, _, hk2⟩ := h.sub hsub
    rw [hc] at hc2
    injection hc2 with hc2
    injection hc2 with e1 e2 e3
    subst e1; subst e2; subst e3
    have hkn : (k : Int) < (n : Int) := by omega
    have hk0 : (0 : Int) ≤ (k : Int) := by omega
    clear hk hd hd2 hi hl hdr hsub hk' hr
    go_enter Tryz.func33, Tryz.ntmps33
    go_wp2_with fail
    refine HA.out.mono ?_
    rintro e _ ⟨rfl, q, rfl⟩
    go_wp2_with fail
    go_ret2
    exact ⟨A', n', c', rfl, hk2, hn', hc', q, rfl⟩
  · have hi2 : t.atIs name = false := by simpa using hi
    have hkn := kidT_not hi2
    rw [hi2] at HA ⊢
    rw [hkn]
    obtain ⟨k, hk⟩ : ∃ k, k = t.atN name := ⟨_, rfl⟩
    rw [← hk] at HA
    clear hi hi2 hk h hl hn hkn
    go_enter Tryz.func33, Tryz.ntmps33
    go_wp2_with fail
    refine HA.out.mono ?_
    rintro e _ ⟨rfl, q, rfl⟩
    go_wp2_with fail
    go_ret2
    exact ⟨none, 0, 0, rfl, rfl, Nat.le_refl _, Nat.zero_le _, q, rfl⟩
end Go.Proofs.YtapgaglkkgbgkaaGreatDoor.In
namespace Go.Proofs.YtapgaglkkgbgkaaGreatDoor.Cv
open Go.RowKit Go.Sort Go.Proofs.YtapgaglkkgbgkaaGreatDoor.Jd Go.Proofs.YtapgaglkkgbgkaaGreatDoor.Li Go.Proofs.YtapgaglkkgbgkaaGreatDoor.Cl Go.Proofs.YtapgaglkkgbgkaaGreatDoor.Pt
set_option maxRecDepth 100000

/-- The edges, as pairs. -/
def eds : Tr → List (ByteArray × Tr)
  | .nil => []
  | .cons s k r => (s, k) :: eds r
theorem eds_inj : ∀ {t u : Tr}, eds t = eds u → t = u
  | .nil, .nil, _ => rfl
  | .nil, .cons _ _ _, h => by cases h
  | .cons _ _ _, .nil, h => by cases h
  | .cons s k r, .cons s' k' r', h => by
    injection h with h1 h2
    injection h1 with h3 h4
    rw [h3, h4, eds_inj h2]
theorem eds_bn : ∀ t : Tr, t.bn = (eds t).map (·.1.data.toList)
  | .nil => rfl
  | .cons s k r => by rw [bn_cons, eds_bn r]; rfl
theorem eds_ofI (t : Tr) : ∀ is : List Nat, eds (ofI t is) = is.map fun i => (nmE t i, kdE t i)
  | [] => rfl
  | i :: r => by rw [ofI, eds, eds_ofI t r]; rfl
theorem eds_all : ∀ t : Tr, eds t = (List.range t.len).map fun i => (nmE t i, kdE t i)
  | .nil => rfl
  | .cons s k r => by
    rw [eds, Tr.len, List.range_succ_eq_map, List.map_cons, List.map_map, eds_all r]
    rfl
theorem srt_perm (t : Tr) : (eds (srtE t)).Perm (eds t) := by
  rw [srtE, eds_ofI, eds_all t]
  exact (pdq_mem t).2.1.map _
theorem cmp_lt (a b : List UInt8) : Lib.compareBytes a b < 0 ↔ a < b := by
  induction a generalizing b with
  | nil => cases b <;> simp [Lib.compareBytes]
  | cons x u ih =>
    cases b with
    | nil => simp [Lib.compareBytes]
    | cons y v =>
      rw [Lib.compareBytes, List.cons_lt_cons_iff]
      have hxy : x < y ↔ x.toNat < y.toNat := Iff.rfl
      have hyx : y < x ↔ y.toNat < x.toNat := Iff.rfl
      by_cases h1 : x < y
      · simp [h1]
      · rw [if_neg h1]
        by_cases h2 : y < x
        · rw [if_pos h2]
          constructor
          · intro h; omega
          · rintro (h | ⟨h, _⟩)
            · exact absurd h h1
            · subst h; exact absurd h2 h1
        · rw [if_neg h2]
          have e : x = y := UInt8.toNat_inj.1 (by have := mt hxy.2 h1; have := mt hyx.2 h2; omega)
          rw [ih]
          simp [e]
theorem srt_asc {t : Tr} (h : t.bn.Nodup) : (srtE t).Asc := by
  obtain ⟨p1, p2, p3⟩ := pdq_mem t
  have hb : (srtE t).bn = (pdq (ltOf (cfE t)) (Array.range t.len) 0 t.len (Lib.bitLen t.len) true true).toList.map fun i => (nmE t i).data.toList := by
    rw [eds_bn, srtE, eds_ofI, List.map_map]; rfl
  have hn : (srtE t).bn.Nodup := by
    rw [eds_bn]
    rw [eds_bn] at h
    exact ((srt_perm t).map _).nodup_iff.2 h
  unfold Tr.Asc
  rw [List.pairwise_iff_getElem]
  intro i j hi hj hij
  have hl : (srtE t).bn.length = t.len := by rw [hb, List.length_map, Array.length_toList, p1]
  have hne : (srtE t).bn[i] ≠ (srtE t).bn[j] := fun e => by
    have := (List.pairwise_iff_getElem.1 hn) i j hi hj hij
    exact this e
  have hs := p3 i j (Nat.zero_le _) hij (by omega)
  rw [ltE] at hs
  have hs := of_decide_eq_false hs
  generalize hD : pdq (ltOf (cfE t)) (Array.range t.len) 0 t.len (Lib.bitLen t.len) true true = D at hs hb p1
  have gi : (srtE t).bn[i] = (nmE t D[i]!).data.toList := by
    simp only [hb, List.getElem_map, Array.getElem_toList]
    rw [getElem!_pos D i (by omega)]
  have gj : (srtE t).bn[j] = (nmE t D[j]!).data.toList := by
    simp only [hb, List.getElem_map, Array.getElem_toList]
    rw [getElem!_pos D j (by omega)]
  rw [← gi, ← gj] at hs
  rcases cmpB_lt (srtE t).bn[i] (srtE t).bn[j] with h1 | ⟨_, h1⟩ | h1
  · exact (cmp_lt _ _).1 h1
  · exact absurd h1 hne
  · exfalso
    have := cmpB_flip (srtE t).bn[i] (srtE t).bn[j]
    omega
theorem asc_perm {t u : Tr} (ht : t.Asc) (hu : u.Asc) (hp : (eds t).Perm (eds u)) : t = u := by
  unfold Tr.Asc at ht hu
  rw [eds_bn, List.pairwise_map] at ht hu
  exact eds_inj (hp.eq_of_pairwise (le := fun a b => a.1.data.toList < b.1.data.toList) (fun a b _ _ h1 h2 => absurd (List.lt_trans h1 h2) (List.lt_irrefl _)) ht hu)
theorem eds_with {name : ByteArray} {x : Tr} : ∀ {t : Tr}, t.atIs name = false → (eds (t.withT name x)).Perm ((name, x) :: eds t)
  | .nil, _ => List.Perm.refl _
  | .cons s k r, h => by
    rcases cases3 s name with c | ⟨c, d⟩ | ⟨c, d, _⟩
    · rw [withT_lt c, eds, eds]
      rw [Pt.atIs_lt c] at h
      exact ((eds_with (t := r) h).cons (s, k)).trans (List.Perm.swap _ _ _)
    · rw [atIs_ge c, d] at h
      cases h
    · rw [withT_gt c d, eds, eds]
/-- A record's tree, its fields put in one by one. -/
def rowT : List ByteArray → List ByteArray → Tr → Tr
  | c :: cs, v :: vs, x => rowT cs vs (if v.size = 0 then x else x.withT c (.cons v .nil .nil))
  | _, _, x => x
theorem mem_atIs {t : Tr} {q : ByteArray} (ha : t.Asc) : t.atIs q = true ↔ q.data.toList ∈ t.bn := by
  constructor
  · intro h
    obtain ⟨k, hk⟩ : ∃ k, k = t.atN q := ⟨_, rfl⟩
    unfold Tr.atIs at h
    rw [← hk] at h
    clear hk ha
    have key : ∀ (t : Tr) (k : Nat), (t.dropT k).headIs q = true → q.data.toList ∈ t.bn := by
      intro t
      induction t with
      | nil => intro k h; cases k <;> cases h
      | cons s kk r _ ih =>
        intro k h
        cases k with
        | zero =>
          have e : s = q := names_of_eq (by simpa [dropT_zero, Tr.headIs] using h)
          rw [bn_cons, e]
          exact List.mem_cons_self ..
        | succ k => rw [bn_cons]; exact List.mem_cons_of_mem _ (ih k h)
    exact key t k h
  · exact atIs_mem ha
theorem with_bn_mem {name : ByteArray} {x t : Tr} (ha : t.Asc) {q : List UInt8} : q ∈ (t.withT name x).bn ↔ q = name.data.toList ∨ q ∈ t.bn := by
  constructor
  · exact withT_mem
  · intro h
    have e : q = (ByteArray.mk q.toArray).data.toList := by simp
    rw [e]
    refine (mem_atIs (withT_asc ha)).1 ?_
    rcases h with h | h
    · have : ByteArray.mk q.toArray = name := by rw [h]
      rw [this]; exact with_is.1
    · by_cases hn : (name.toList == (ByteArray.mk q.toArray).toList) = true
      · rw [← names_of_eq hn]; exact with_is.1
      · rw [(with_other (by simpa using hn) ha).1]
        exact (mem_atIs ha).2 (by simpa using h)
theorem rawB_bn : ∀ (cs vs : List ByteArray) (q : List UInt8), q ∈ (rawB cs vs).bn → q ∈ cs.map (·.data.toList)
  | [], _, q, h => by unfold rawB at h; cases h
  | _ :: _, [], q, h => by unfold rawB at h; cases h
  | c :: cs, v :: vs, q, h => by
    rw [rawB] at h
    split at h
    · exact List.mem_cons_of_mem _ (rawB_bn cs vs q h)
    · rw [bn_cons] at h
      rcases List.mem_cons.1 h with e | e
      · rw [e]; exact List.mem_cons_self ..
      · exact List.mem_cons_of_mem _ (rawB_bn cs vs q e)
theorem rawB_nodup : ∀ (cs vs : List ByteArray), (cs.map (·.data.toList)).Nodup → (rawB cs vs).bn.Nodup
  | [], _, _ => by unfold rawB; exact List.nodup_nil
  | _ :: _, [], _ => by unfold rawB; exact List.nodup_nil
  | c :: cs, v :: vs, h => by
    rw [List.map_cons, List.nodup_cons] at h
    rw [rawB]
    split
    · exact rawB_nodup cs vs h.2
    · rw [bn_cons, List.nodup_cons]
      exact ⟨fun e => h.1 (rawB_bn cs vs _ e), rawB_nodup cs vs h.2⟩
theorem rowT_perm : ∀ (cs vs : List ByteArray) (x : Tr), (cs.map (·.data.toList)).Nodup → x.Asc → (∀ c ∈ cs, c.data.toList ∉ x.bn) → (rowT cs vs x).Asc ∧ (eds (rowT cs vs x)).Perm (eds (rawB cs vs) ++ eds x)
  | [], _, _, _, ha, _ => by unfold rowT rawB; exact ⟨ha, List.Perm.refl _⟩
  | _ :: _, [], _, _, ha, _ => by unfold rowT rawB; exact ⟨ha, List.Perm.refl _⟩
  | c :: cs, v :: vs, x, hn, ha, hx => by
    rw [List.map_cons, List.nodup_cons] at hn
    rw [rowT, rawB]
    by_cases hv : v.size = 0
    · rw [if_pos hv, if_pos hv]
      exact rowT_perm cs vs x hn.2 ha (fun d hd => hx d (by simp [hd]))
    · rw [if_neg hv, if_neg hv]
      have hc : x.atIs c = false := by
        cases hq : x.atIs c with
        | false => rfl
        | true => exact absurd ((mem_atIs ha).1 hq) (hx c (by simp))
      obtain ⟨a, b⟩ := rowT_perm cs vs (x.withT c (.cons v .nil .nil)) hn.2 (withT_asc ha) (fun d hd hm => by
        rcases withT_mem hm with e | e
        · exact hn.1 (by rw [← e]; exact List.mem_map_of_mem hd)
        · exact hx d (by simp [hd]) e)
      refine ⟨a, b.trans ?_⟩
      refine ((eds_with hc).append_left _).trans ?_
      rw [eds]
      exact List.perm_middle
theorem rowT_eq {cs vs : List ByteArray} (hn : (cs.map (·.data.toList)).Nodup) : rowT cs vs .nil = srtE (rawB cs vs) := by
  obtain ⟨a, b⟩ := rowT_perm cs vs .nil hn nil_asc (fun _ _ h => by cases h)
  refine asc_perm a (srt_asc (rawB_nodup cs vs hn)) (b.trans ?_)
  have e : eds Tr.nil = [] := rfl
  rw [e, List.append_nil]
  exact (srt_perm _).symm
/-- The file's tree, its rows put in one by one. -/
def accT (cols : List ByteArray) : Tr → List Rw → Tr
  | t, [] => t
  | t, r :: rs => accT cols (t.withT (nm r) (rowT cols (mns r.fs.tail) .nil)) rs
theorem accT_snoc (cols : List ByteArray) : ∀ (rs : List Rw) (t : Tr) (r : Rw), accT cols t (rs ++ [r]) = (accT cols t rs).withT (nm r) (rowT cols (mns r.fs.tail) .nil)
  | [], _, _ => rfl
  | x :: rs, t, r => by rw [List.cons_append, accT, accT, accT_snoc cols rs]
theorem accT_asc (cols : List ByteArray) : ∀ (rs : List Rw) (t : Tr), t.Asc → (accT cols t rs).Asc
  | [], _, h => h
  | _ :: rs, _, h => accT_asc cols rs _ (withT_asc h)
theorem accT_mem (cols : List ByteArray) : ∀ (rs : List Rw) (t : Tr) (q : List UInt8), t.Asc → (q ∈ (accT cols t rs).bn ↔ q ∈ t.bn ∨ ∃ r ∈ rs, (nm r).data.toList = q)
  | [], t, q, _ => by simp [accT]
  | r :: rs, t, q, h => by
    rw [accT, accT_mem cols rs _ q (withT_asc h), with_bn_mem h]
    simp only [List.mem_cons, exists_eq_or_imp]
    constructor
    · rintro ((h | h) | h)
      · exact .inr (.inl h.symm)
      · exact .inl h
      · exact .inr (.inr h)
    · rintro (h | h | h)
      · exact .inl (.inr h)
      · exact .inl (.inl h.symm)
      · exact .inr h
theorem recs_bn (cols : List ByteArray) : ∀ rs : List Rw, (recsT srtE cols rs).bn = rs.map fun r => (nm r).data.toList
  | [] => rfl
  | r :: rs => by rw [recsT, bn_cons, recs_bn cols rs]; rfl
theorem accT_perm {cols : List ByteArray} (hc : (cols.map (·.data.toList)).Nodup) : ∀ (rs : List Rw) (t : Tr), (rs.map fun r => (nm r).data.toList).Nodup → t.Asc → (∀ r ∈ rs, (nm r).data.toList ∉ t.bn) → (eds (accT cols t rs)).Perm (eds (recsT srtE cols rs) ++ eds t)
  | [], t, _, _, _ => List.Perm.refl _
  | r :: rs, t, hn, ha, hx => by
    rw [List.map_cons, List.nodup_cons] at hn
    have hr : t.atIs (nm r) = false := by
      cases hq : t.atIs (nm r) with
      | false => rfl
      | true => exact absurd ((mem_atIs ha).1 hq) (hx r (by simp))
    rw [accT, recsT, eds, rowT_eq hc]
    refine (accT_perm hc rs _ hn.2 (withT_asc ha) (fun d hd hm => ?_)).trans ?_
    · rcases withT_mem hm with e | e
      · exact hn.1 (by rw [← e]; exact List.mem_map_of_mem (f := fun r => (nm r).data.toList) hd)
      · exact hx d (by simp [hd]) e
    · exact ((eds_with hr).append_left _).trans List.perm_middle
theorem accT_eq {cols : List ByteArray} {rs : List Rw} (hc : (cols.map (·.data.toList)).Nodup) (hn : (rs.map fun r => (nm r).data.toList).Nodup) : accT cols .nil rs = srtE (recsT srtE cols rs) := by
  refine asc_perm (accT_asc cols rs _ nil_asc) (srt_asc (by rw [recs_bn]; exact hn)) ?_
  refine (accT_perm hc rs .nil hn nil_asc (fun _ _ h => by cases h)).trans ?_
  have e : eds Tr.nil = [] := rfl
  rw [e, List.append_nil]
  exact (srt_perm _).symm
end Go.Proofs.YtapgaglkkgbgkaaGreatDoor.Cv
namespace Go.Proofs.YtapgaglkkgbgkaaGreatDoor.In
open Go.RowKit Go.Proofs.YtapgaglkkgbgkaaGreatDoor.Li Go.Proofs.YtapgaglkkgbgkaaGreatDoor.Cv Go.Proofs.YtapgaglkkgbgkaaGreatDoor.Pt
set_option maxRecDepth 100000

def oneN (t : Tr) : Bs := match t with | .cons s _ _ => s.data.toList | .nil => []
def withR (r : Ro) (v : Bs) : Ln := (r.ln.1.take r.pos ++ v ++ r.ln.1.drop (r.pos + r.val.length), r.ln.2)
/-- A line as it is in a section of these keys; none: it goes. -/
def putRow (keys : Tr) (is : Bool) (r : Ro) : Option Ln :=
  if r.kind = 1 then some r.ln else
  if r.kind = 2 then (if is = true then some r.ln else none) else
  if (getT keys [⟨r.name.toArray⟩]).2 = true then some (withR r (oneN (getT keys [⟨r.name.toArray⟩]).1)) else none
def stepR (keys : Tr) (is : Bool) (acc : List Ln × Nat) (r : Ro) : List Ln × Nat :=
  match putRow keys is r with
  | none => acc
  | some x => (acc.1 ++ [x], if r.kind = 1 then acc.2 else acc.1.length + 1)
def keyL (E : Bs) (e : ByteArray × Tr) : Ln := (e.1.data.toList ++ [61] ++ oneN e.2, E)
def freshK (keys : Tr) (rows : List Ro) : List (ByteArray × Tr) := (eds keys).filter fun e => !(rows.any fun r => r.kind == 3 && e.1.data.toList == r.name)
def putPart (t : Tr) (E : Bs) (p : Pt) : List Ln :=
  let k := getT t [⟨p.name.toArray⟩]
  let a := p.rows.foldl (stepR k.1 k.2) ([], 0)
  a.1.take a.2 ++ (freshK k.1 p.rows).map (keyL E) ++ a.1.drop a.2
def freshS (t : Tr) (ps : List Pt) : List (ByteArray × Tr) := (eds t).filter fun e => !(ps.any fun p => e.1.data.toList == p.name)
def secL (E : Bs) (e : ByteArray × Tr) : List Ln := ([91] ++ e.1.data.toList ++ [93], E) :: (eds e.2).map (keyL E)
/-- The file. -/
def putI (ps : List Pt) (E : Bs) (t : Tr) : Bs := join (ended E (ps.flatMap (putPart t E) ++ (freshS t ps).flatMap (secL E)))
/-- What is put into this file makes. -/
def putF (t : Tr) (l : Bs) : Bs := putI (partsI [⟨[], []⟩] 0 (split l)).1 (endOf (split l)) t
end Go.Proofs.YtapgaglkkgbgkaaGreatDoor.In
namespace Go.Proofs.YtapgaglkkgbgkaaGreatDoor.In
open Go.RowKit Go.Proofs.YtapgaglkkgbgkaaGreatDoor.Li Go.Proofs.YtapgaglkkgbgkaaGreatDoor.Cv
set_option maxRecDepth 100000

/-- Cells that lie at an address, in a block that P picks. -/
def CellsP (w : World) (P : Nat → Prop) (A : Option Addr) (cs : List Value) : Prop := cs = [] ∨ ∃ b o, A = some ⟨b, o, none⟩ ∧ P b ∧ ∀ (j : Nat) (u : Value), cs[j]? = some u → w.cell? ⟨b, o + j, none⟩ = some u
section
variable {w w' : World} {P P' : Nat → Prop} {A : Option Addr} {cs : List Value}
theorem CellsP.keep (h : CellsP w P A cs) (hk : ∀ b o, P b → w'.cell? ⟨b, o, none⟩ = w.cell? ⟨b, o, none⟩) : CellsP w' P A cs :=
  h.imp id fun ⟨b, o, e, hb, hc⟩ => ⟨b, o, e, hb, fun j u hu => (hk b _ hb).trans (hc j u hu)⟩
theorem CellsP.more (h : CellsP w P A cs) (hP : ∀ b, P b → P' b) : CellsP w P' A cs := h.imp id fun ⟨b, o, e, hb, hc⟩ => ⟨b, o, e, hP b hb, hc⟩
theorem CellsP.get (h : CellsP w P A cs) (hn : cs ≠ []) : ∃ b o, A = some ⟨b, o, none⟩ ∧ P b ∧ ∀ (j : Nat) (u : Value), cs[j]? = some u → w.cell? ⟨b, o + j, none⟩ = some u := h.resolve_left hn
theorem CellsP.own {base n c size : Nat} {e : TypeId} (h : w.ownsRow base e size (.slice A n c) n cs) : CellsP w (fun b => base ≤ b ∧ b < w.heap.size ∧ (Value.slice A n c).ownBlock = some b) A cs := by
  rcases own_form h with ⟨rfl, rfl, hl⟩ | ⟨g, rfl, hg, hgl, _, _, hc⟩
  · exact .inl hl
  · exact .inr ⟨g, 0, rfl, ⟨hg, hgl, rfl⟩, hc⟩
theorem CellsP.drop {b o k : Nat} (h : CellsP w P (some ⟨b, o, none⟩) cs) : CellsP w P (some ⟨b, o + k, none⟩) (cs.drop k) := by
  rcases h with rfl | ⟨b', o', e, hb, hc⟩
  · exact .inl (by simp)
  · injection e with e
    injection e with e1 e2
    subst e1; subst e2
    exact .inr ⟨_, _, rfl, hb, fun j u hu => by rw [List.getElem?_drop] at hu; rw [Nat.add_assoc]; exact hc _ u hu⟩
end
def rcells : List Ro → List Value
  | [] => []
  | r :: rs => Li.encs r.ln.1 :: Li.encs r.ln.2 :: .int .i64 r.kind :: Li.encs r.name :: Li.encs r.val :: .int .i64 r.pos :: rcells rs
theorem rcells_append (a b : List Ro) : rcells (a ++ b) = rcells a ++ rcells b := by
  induction a with
  | nil => rfl
  | cons x r ih => simp [rcells, ih]
theorem rcells_length (l : List Ro) : (rcells l).length = l.length * 6 := by
  induction l with
  | nil => rfl
  | cons x r ih => simp only [rcells, List.length_cons, ih]; omega
theorem rcells_get : ∀ {l : List Ro} {j : Nat} {x : Ro}, l[j]? = some x → (rcells l)[j * 6]? = some (Li.encs x.ln.1) ∧ (rcells l)[j * 6 + 1]? = some (Li.encs x.ln.2) ∧ (rcells l)[j * 6 + 2]? = some (.int .i64 x.kind) ∧ (rcells l)[j * 6 + 3]? = some (Li.encs x.name) ∧ (rcells l)[j * 6 + 4]? = some (Li.encs x.val) ∧ (rcells l)[j * 6 + 5]? = some (.int .i64 x.pos)
  | [], j, x, h => by simp at h
  | y :: r, 0, x, h => by
    simp only [List.getElem?_cons_zero, Option.some.injEq] at h
    subst h
    exact ⟨rfl, rfl, rfl, rfl, rfl, rfl⟩
  | y :: r, j + 1, x, h => by
    simp only [List.getElem?_cons_succ] at h
    rw [show (j + 1) * 6 = j * 6 + 1 + 1 + 1 + 1 + 1 + 1 by omega]
    exact rcells_get h
/-- The slice holds these rows, in a block that P picks. -/
structure RowsP (w : World) (P : Nat → Prop) (A : Option Addr) (n : Nat) (rs : List Ro) : Prop where
  len : n = rs.length
  cells : CellsP w P A (rcells rs)
section
variable {w w' : World} {P P' : Nat → Prop} {A : Option Addr} {n : Nat} {rs : List Ro}
theorem RowsP.keep (h : RowsP w P A n rs) (hk : ∀ b o, P b → w'.cell? ⟨b, o, none⟩ = w.cell? ⟨b, o, none⟩) : RowsP w' P A n rs := ⟨h.len, h.cells.keep hk⟩
theorem RowsP.more (h : RowsP w P A n rs) (hP : ∀ b, P b → P' b) : RowsP w P' A n rs := ⟨h.len, h.cells.more hP⟩
theorem RowsP.at_ (h : RowsP w P A n rs) {k : Nat} {x : Ro} (hx : rs[k]? = some x) : ∃ b o, A = some ⟨b, o, none⟩ ∧ P b ∧ w.cell? ⟨b, o + k * 6, none⟩ = some (Li.encs x.ln.1) ∧ w.cell? ⟨b, o + k * 6 + 1, none⟩ = some (Li.encs x.ln.2) ∧ w.cell? ⟨b, o + k * 6 + 2, none⟩ = some (.int .i64 x.kind) ∧ w.cell? ⟨b, o + k * 6 + 3, none⟩ = some (Li.encs x.name) ∧ w.cell? ⟨b, o + k * 6 + 4, none⟩ = some (Li.encs x.val) ∧ w.cell? ⟨b, o + k * 6 + 5, none⟩ = some (.int .i64 x.pos) := by
  obtain ⟨h0, h1, h2, h3, h4, h5⟩ := rcells_get hx
  obtain ⟨b, o, e, hb, hc⟩ := h.cells.get (fun e => by rw [e] at h0; cases h0)
  exact ⟨b, o, e, hb, hc _ _ h0, hc _ _ h1, hc _ _ h2, hc _ _ h3, hc _ _ h4, hc _ _ h5⟩
end
/-- Cells of parts; their rows lie in blocks that P picks. -/
def PtV (w : World) (P : Nat → Prop) : List Value → List Pt → Prop
  | [], [] => True
  | .string s :: .slice A n c :: vs, p :: ps => s = ⟨p.name.toArray⟩ ∧ n ≤ c ∧ c ≤ maxLen ∧ RowsP w P A n p.rows ∧ PtV w P vs ps
  | _, _ => False
section
variable {w w' : World} {P P' : Nat → Prop}
theorem PtV.keep (hk : ∀ b o, P b → w'.cell? ⟨b, o, none⟩ = w.cell? ⟨b, o, none⟩) : ∀ {vs : List Value} {ps : List Pt}, PtV w P vs ps → PtV w' P vs ps
  | [], [], _ => trivial
  | .string _ :: .slice _ _ _ :: _, _ :: _, ⟨h1, h2, h3, h4, h5⟩ => ⟨h1, h2, h3, h4.keep hk, PtV.keep hk h5⟩
theorem PtV.more (hP : ∀ b, P b → P' b) : ∀ {vs : List Value} {ps : List Pt}, PtV w P vs ps → PtV w P' vs ps
  | [], [], _ => trivial
  | .string _ :: .slice _ _ _ :: _, _ :: _, ⟨h1, h2, h3, h4, h5⟩ => ⟨h1, h2, h3, h4.more hP, PtV.more hP h5⟩
theorem PtV.app : ∀ {vs us : List Value} {ps qs : List Pt}, PtV w P vs ps → PtV w P us qs → PtV w P (vs ++ us) (ps ++ qs)
  | [], _, [], _, _, h2 => h2
  | .string _ :: .slice _ _ _ :: _, _, _ :: _, _, ⟨h1, h2, h3, h4, h5⟩, h6 => ⟨h1, h2, h3, h4, PtV.app h5 h6⟩
theorem PtV.length : ∀ {vs : List Value} {ps : List Pt}, PtV w P vs ps → vs.length = ps.length * 2
  | [], [], _ => rfl
  | .string _ :: .slice _ _ _ :: _, _ :: _, ⟨_, _, _, _, h5⟩ => by
    have := PtV.length h5
    simp only [List.length_cons]
    omega
theorem PtV.at_ : ∀ {vs : List Value} {ps : List Pt} {k : Nat} {p : Pt}, PtV w P vs ps → ps[k]? = some p → ∃ A n c, vs[k * 2]? = some (.string ⟨p.name.toArray⟩) ∧ vs[k * 2 + 1]? = some (.slice A n c) ∧ n ≤ c ∧ c ≤ maxLen ∧ RowsP w P A n p.rows
  | [], [], _, _, _, h => by simp at h
  | .string s :: .slice A n c :: vs, p :: ps, 0, p', ⟨h1, h2, h3, h4, h5⟩, h => by
    simp only [List.getElem?_cons_zero, Option.some.injEq] at h
    subst h
    exact ⟨A, n, c, by rw [h1]; rfl, rfl, h2, h3, h4⟩
  | .string s :: .slice A n c :: vs, p :: ps, k + 1, p', ⟨h1, h2, h3, h4, h5⟩, h => by
    simp only [List.getElem?_cons_succ] at h
    rw [show (k + 1) * 2 = k * 2 + 1 + 1 by omega]
    exact PtV.at_ h5 h
theorem PtV.tail : ∀ {vs : List Value} {p : Pt} {ps : List Pt}, PtV w P vs (p :: ps) → PtV w P (vs.drop 2) ps
  | .string _ :: .slice _ _ _ :: _, _, _, ⟨_, _, _, _, h5⟩ => h5
end
/-- The slice holds these parts. -/
structure PartsP (w : World) (P : Nat → Prop) (A : Option Addr) (n : Nat) (ps : List Pt) : Prop where
  len : n = ps.length
  vals : ∃ vs, CellsP w P A vs ∧ PtV w P vs ps
section
variable {w w' : World} {P P' : Nat → Prop} {A : Option Addr} {n : Nat} {ps : List Pt}
theorem PartsP.keep (h : PartsP w P A n ps) (hk : ∀ b o, P b → w'.cell? ⟨b, o, none⟩ = w.cell? ⟨b, o, none⟩) : PartsP w' P A n ps :=
  ⟨h.len, h.vals.imp fun _ ⟨h1, h2⟩ => ⟨h1.keep hk, h2.keep hk⟩⟩
theorem PartsP.more (h : PartsP w P A n ps) (hP : ∀ b, P b → P' b) : PartsP w P' A n ps := ⟨h.len, h.vals.imp fun _ ⟨h1, h2⟩ => ⟨h1.more hP, h2.more hP⟩⟩
theorem PartsP.below {B : Nat} (h : PartsP w (· < B) A n ps) (hb : Below B w w') : PartsP w' (· < B) A n ps := h.keep fun b o hb1 => hb.cell (p := ⟨b, o, none⟩) hb1
theorem PartsP.at_ (h : PartsP w P A n ps) {k : Nat} {p : Pt} (hp : ps[k]? = some p) : ∃ b o Af nf cf, A = some ⟨b, o, none⟩ ∧ P b ∧ w.cell? ⟨b, o + k * 2, none⟩ = some (.string ⟨p.name.toArray⟩) ∧ w.cell? ⟨b, o + k * 2 + 1, none⟩ = some (.slice Af nf cf) ∧ RowsP w P Af nf p.rows ∧ nf ≤ cf ∧ cf ≤ maxLen := by
  obtain ⟨vs, h1, h2⟩ := h.vals
  obtain ⟨Af, nf, cf, e1, e2, h3, h4, h5⟩ := h2.at_ hp
  obtain ⟨b, o, e, hb, hc⟩ := h1.get (fun e => by rw [e] at e1; simp at e1)
  exact ⟨b, o, Af, nf, cf, e, hb, hc _ _ e1, hc _ _ e2, h5, h3, h4⟩
theorem PartsP.rest {b o : Nat} {p : Pt} (h : PartsP w P (some ⟨b, o, none⟩) n (p :: ps)) (c : Nat) (hc : n ≤ c) : PartsP w P (some (if c = 1 then ⟨b, o, none⟩ else ⟨b, o + 2, none⟩)) (n - 1) ps := by
  have hl := h.len
  simp only [List.length_cons] at hl
  obtain ⟨vs, h1, h2⟩ := h.vals
  refine ⟨by omega, vs.drop 2, ?_, h2.tail⟩
  by_cases h3 : c = 1
  · have hl2 := h2.length
    exact .inl (List.drop_of_length_le (by rw [hl2, List.length_cons]; omega))
  · rw [if_neg h3]
    exact h1.drop
end
theorem owns_belowI {w w' : World} {base size n c : Nat} {e : TypeId} {A : Option Addr} {vs : List Value} (h : w.ownsRow base e size (.slice A n c) n vs) (hb : Below w.heap.size w w') : w'.ownsRow base e size (.slice A n c) n vs :=
  World.ownsRow.kept h (row := none) ⟨hb.os, hb.tape, hb.output, hb.size, fun i hi _ => hb.block i hi⟩ (by cases hv : (Value.slice A n c).ownBlock <;> simp)
/-- A row of parts of one's own: the last one's rows are a row of one's own too. -/
structure OwnPs (w : World) (base : Nat) (A : Option Addr) (n c : Nat) (done : List Pt) (nm : Bs) (rows : List Ro) (vs : List Value) (L : Option Addr) (m d : Nat) : Prop where
  own : w.ownsRow base 108 2 (.slice A n c) n (vs ++ [.string ⟨nm.toArray⟩, .slice L m d])
  last : w.ownsRow base 114 6 (.slice L m d) m (rcells rows)
  old : PtV w (fun b => base ≤ b ∧ b < w.heap.size ∧ some b ≠ (Value.slice A n c).ownBlock ∧ some b ≠ (Value.slice L m d).ownBlock) vs done
  apart : ∀ g, (Value.slice L m d).ownBlock = some g → (Value.slice A n c).ownBlock ≠ some g
section
variable {w w' : World} {base n c m d : Nat} {A L : Option Addr} {done : List Pt} {nm : Bs} {rows : List Ro} {vs : List Value}
theorem OwnPs.below (h : OwnPs w base A n c done nm rows vs L m d) (hb : Below w.heap.size w w') : OwnPs w' base A n c done nm rows vs L m d :=
  ⟨owns_belowI h.own hb, owns_belowI h.last hb, (h.old.keep (w' := w') fun b o hb1 => hb.cell (p := ⟨b, o, none⟩) hb1.2.1).more fun _ hb1 => ⟨hb1.1, Nat.lt_of_lt_of_le hb1.2.1 hb.size, hb1.2.2⟩, h.apart⟩
theorem OwnPs.len (h : OwnPs w base A n c done nm rows vs L m d) : n = done.length + 1 ∧ m = rows.length := by
  have h1 := h.own.1
  have h2 := h.old.length
  have h3 := h.last.1
  rw [rcells_length] at h3
  simp only [List.length_append, List.length_cons, List.length_nil] at h1
  omega
theorem OwnPs.cap (h : OwnPs w base A n c done nm rows vs L m d) : n ≤ c ∧ c ≤ maxLen ∧ m ≤ d ∧ d ≤ maxLen := ⟨(own_cap' h.own rfl).1, (own_cap' h.own rfl).2, (own_cap' h.last rfl).1, (own_cap' h.last rfl).2⟩
/-- As parts that are read. -/
theorem OwnPs.parts (h : OwnPs w base A n c done nm rows vs L m d) : PartsP w (fun b => base ≤ b ∧ b < w.heap.size) A n (done ++ [⟨nm, rows⟩]) := by
  have hl := h.len
  refine ⟨by simp; omega, _, (CellsP.own h.own).more fun b hb => ⟨hb.1, hb.2.1⟩, (h.old.more fun _ hb => ⟨hb.1, hb.2.1⟩).app ?_⟩
  exact ⟨rfl, h.cap.2.2.1, h.cap.2.2.2, ⟨hl.2, (CellsP.own h.last).more fun b hb => ⟨hb.1, hb.2.1⟩⟩, trivial⟩
/-- Where the last part lies. -/
theorem OwnPs.at_ (h : OwnPs w base A n c done nm rows vs L m d) : ∃ g, A = some ⟨g, 0, none⟩ ∧ base ≤ g ∧ g < w.heap.size ∧ w.cell? ⟨g, (n - 1) * 2, none⟩ = some (.string ⟨nm.toArray⟩) ∧ w.cell? ⟨g, (n - 1) * 2 + 1, none⟩ = some (.slice L m d) ∧ w.frozen? ⟨g, (n - 1) * 2 + 1, none⟩ = false := by
  have hl := h.len
  have h2 := h.old.length
  rcases own_form h.own with ⟨_, _, hl⟩ | ⟨g, rfl, hg, hgl, _, _, hc⟩
  · simp at hl
  · have e1 := hc ((n - 1) * 2) (.string ⟨nm.toArray⟩) (by rw [List.getElem?_append_right (by omega), show (n - 1) * 2 - vs.length = 0 by omega]; rfl)
    have e2 := hc ((n - 1) * 2 + 1) (.slice L m d) (by rw [List.getElem?_append_right (by omega), show (n - 1) * 2 + 1 - vs.length = 1 by omega]; rfl)
    rw [Nat.zero_add] at e1 e2
    refine ⟨g, rfl, hg, hgl, e1, e2, ?_⟩
    rcases h.own.2 with ⟨e, _⟩ | ⟨g', cap, cur, e, _, hh, _⟩
    · cases e
    · injection e with e
      injection e with e
      injection e with e
      subst e
      simp [World.frozen?, hh]
end
end Go.Proofs.YtapgaglkkgbgkaaGreatDoor.In
namespace Go.Proofs.YtapgaglkkgbgkaaGreatDoor.In
open Go.RowKit Go.Proofs.YtapgaglkkgbgkaaGreatDoor.Li Go.Proofs.YtapgaglkkgbgkaaGreatDoor.Cv
set_option maxRecDepth 100000

set_option maxHeartbeats 1000000 in
theorem fP_any (s : ByteArray) (g : Nat) (w : World) (h0 : w.cell? ⟨g, 3, none⟩ = some (.string s)) (a : ByteArray) (A : Option Addr) (n c : Nat) :
    Calls Tryz.prog 91 #[.agg #[.string a, .slice A n c], .pointer (some ⟨g, 0, none⟩)] w fun e w' => e = .returned (.bool (a.data.toList == s.data.toList)) ∧ Below w.heap.size w w' := by
  have hg : g < w.heap.size := World.block_lt_of_cell? w ⟨g, 3, none⟩ h0
  have hb : Below w.heap.size w (w.alloc (Obj.cells #[.string a, .slice A n c] 108)) := (Below.refl _ _).alloc (Nat.le_refl _) _
  have h1 := (hb.cell (p := ⟨g, 3, none⟩) hg).trans h0
  have HB := Lib.hid hb
  obtain ⟨u, hu⟩ : ∃ u, u = (a.data.toList == s.data.toList) := ⟨_, rfl⟩
  rw [← hu]
  have hu2 : (a.toList == s.toList) = u := by rw [same_eq', hu]
  clear hu hb h0
  go_enter Tryz.func91, Tryz.ntmps91
  go_wp2_with fail
  go_ret
  exact ⟨rfl, HB.out⟩
set_option maxHeartbeats 1000000 in
theorem fR_any (s : ByteArray) (g : Nat) (w : World) (h0 : w.cell? ⟨g, 3, none⟩ = some (.string s)) (t e a v : ByteArray) (k p : Nat) :
    Calls Tryz.prog 92 #[.agg #[.string t, .string e, .int .i64 k, .string a, .string v, .int .i64 p], .pointer (some ⟨g, 0, none⟩)] w fun e w' => e = .returned (.bool (k == 3 && a.data.toList == s.data.toList)) ∧ Below w.heap.size w w' := by
  have hg : g < w.heap.size := World.block_lt_of_cell? w ⟨g, 3, none⟩ h0
  have hb : Below w.heap.size w (w.alloc (Obj.cells #[.string t, .string e, .int .i64 k, .string a, .string v, .int .i64 p] 114)) := (Below.refl _ _).alloc (Nat.le_refl _) _
  have h1 := (hb.cell (p := ⟨g, 3, none⟩) hg).trans h0
  have HB := Lib.hid hb
  obtain ⟨u, hu⟩ : ∃ u, u = (a.data.toList == s.data.toList) := ⟨_, rfl⟩
  rw [← hu]
  have hu2 : (a.toList == s.toList) = u := by rw [same_eq', hu]
  clear hu hb h0
  by_cases h3 : k = 3
  · have hk : ((k : Int) == 3) = true := by rw [h3]; rfl
    have HV : Hid ((k == 3 && u) = u) := Lib.hid (by rw [h3]; rfl)
    clear h3
    go_enter Tryz.func92, Tryz.ntmps92
    go_wp2_with fail
    go_ret
    exact ⟨by rw [HV.out]; rfl, HB.out⟩
  · have hk : ((k : Int) == 3) = false := by rw [beq_eq_false_iff_ne]; omega
    have HV : Hid ((k == 3 && u) = false) := Lib.hid (by rw [beq_eq_false_iff_ne.2 h3]; rfl)
    clear h3
    go_enter Tryz.func92, Tryz.ntmps92
    go_wp2_with fail
    go_ret
    exact ⟨by rw [HV.out]; rfl, HB.out⟩
set_option maxHeartbeats 4000000 in
theorem indexP_any (ps : List Pt) (s : ByteArray) (A : Option Addr) (n c g : Nat) (w : World) (h : PartsP w (· < w.heap.size) A n ps) (hn : n ≤ 100000) (h0 : w.cell? ⟨g, 3, none⟩ = some (.string s)) :
    Calls Tryz.prog 111 #[.slice A n c, .func (.func 91) #[] #[.pointer (some ⟨g, 0, none⟩)]] w fun e w' => ∃ i : Int, e = .returned (.int .i64 i) ∧ (decide (0 ≤ i) = ps.any (fun p => p.name == s.data.toList)) ∧ Below w.heap.size w w' := by
  have hg : g < w.heap.size := World.block_lt_of_cell? w ⟨g, 3, none⟩ h0
  have Hl := Lib.hid h.len
  have HH := Lib.hid h
  have HF := Lib.hid (fun (W : World) (hW : Below w.heap.size w W) => fP_any s g W ((hW.cell (p := ⟨g, 3, none⟩) hg).trans h0))
  clear h h0
  go_enter Tryz.func111, Tryz.ntmps111
  go_wp2_with fail
  go_loopw [8] (fun i wr => ∃ (k : Nat), k ≤ n ∧ i = .int .i64 k ∧ Hid (Below w.heap.size w wr) ∧ Hid (((ps.drop k).any (fun p => p.name == s.data.toList)) = ps.any (fun p => p.name == s.data.toList))) (fun i _ => n - (intOf i).toNat)
  case atStart => exact ⟨0, Nat.zero_le _, rfl, Lib.hid (Below.refl _ _), Lib.hid rfl⟩
  case round =>
    obtain ⟨k, hk, rfl, HW, HA⟩ := hrel
    by_cases hlt : k < n
    · have hkl : k < ps.length := by have := Hl.out; omega
      obtain ⟨x, hx⟩ : ∃ x, ps[k]? = some x := ⟨_, List.getElem?_eq_getElem hkl⟩
      have hxe : ps[k] = x := (List.getElem?_eq_some_iff.1 hx).2
      have hkn : (k : Int) < (n : Int) := by omega
      have hk0 : (0 : Int) ≤ (k : Int) := by omega
      obtain ⟨b, o, Af, nf, cf, rfl, hbl, hc1, hc2, _, _, _⟩ := (HH.out.below HW.out).at_ hx
      obtain ⟨s1, hs1⟩ : ∃ s1 : ByteArray, s1 = ⟨x.name.toArray⟩ := ⟨_, rfl⟩
      rw [← hs1] at hc1
      have HC := Lib.hid (HF.out wr HW.out s1 Af nf cf)
      obtain ⟨u, hu⟩ : ∃ u, u = (s1.data.toList == s.data.toList) := ⟨_, rfl⟩
      rw [← hu] at HC
      have hu2 : (x.name == s.data.toList) = u := by rw [hu, hs1]
      clear hs1 hu
      have HA2 : Hid ((ps.any (fun p => p.name == s.data.toList)) = (u || (ps.drop (k + 1)).any (fun p => p.name == s.data.toList))) := Lib.hid (by rw [← HA.out, List.drop_eq_getElem_cons hkl, List.any_cons, hxe, hu2])
      have Hlt := Lib.hid hlt
      clear hlt HA hx hkl hxe hu2
      cases u with
      | false =>
        go_wp2_with fail
        (with_reducible refine HC.out.mono ?_)
        rintro e w2 ⟨rfl, hb2⟩
        have HW2 := Lib.hid (HW.out.trans (hb2.mono HW.out.size))
        clear hb2
        go_wp2_with fail
        go_roundw
        case rel => exact ⟨k + 1, Hlt.out, by go_num, HW2, Lib.hid (by rw [HA2.out]; rfl)⟩
        case measure => have := Hlt.out; simp [intOf]; omega
      | true =>
        go_wp2_with fail
        (with_reducible refine HC.out.mono ?_)
        rintro e w2 ⟨rfl, hb2⟩
        have HW2 := Lib.hid (HW.out.trans (hb2.mono HW.out.size))
        clear hb2
        go_wp2_with fail
        go_ret
        exact ⟨(k : Int), rfl, by rw [HA2.out, Bool.true_or]; exact decide_eq_true hk0, HW2.out⟩
    · obtain rfl : k = n := by omega
      have HA2 : Hid ((ps.any (fun p => p.name == s.data.toList)) = false) := Lib.hid (by
        have := HA.out
        rw [List.drop_of_length_le (by rw [← Hl.out]; exact Nat.le_refl _)] at this
        exact this.symm)
      clear hlt HA
      go_wp2_with fail
      go_ret
      exact ⟨-1, rfl, by rw [HA2.out]; rfl, HW.out⟩
set_option maxHeartbeats 1000000 in
theorem containsP_any (ps : List Pt) (s : ByteArray) (A : Option Addr) (n c g : Nat) (w : World) (h : PartsP w (· < w.heap.size) A n ps) (hn : n ≤ 100000) (h0 : w.cell? ⟨g, 3, none⟩ = some (.string s)) :
    Calls Tryz.prog 93 #[.slice A n c, .func (.func 91) #[] #[.pointer (some ⟨g, 0, none⟩)]] w fun e w' => e = .returned (.bool (ps.any (fun p => p.name == s.data.toList))) ∧ Below w.heap.size w w' := by
  have HC := Lib.hid (indexP_any ps s A n c g w h hn h0)
  obtain ⟨v, hv⟩ : ∃ v, v = ps.any (fun p => p.name == s.data.toList) := ⟨_, rfl⟩
  rw [← hv] at HC
  rw [← hv]
  clear hv h h0
  go_enter Tryz.func93, Tryz.ntmps93
  go_wp2_with fail
  (with_reducible refine HC.out.mono ?_)
  rintro e w1 ⟨i, rfl, hi, hb1⟩
  have Hi := Lib.hid hi
  clear hi
  go_wp2_with fail
  go_ret
  exact ⟨by rw [← Hi.out]; rfl, hb1⟩
set_option maxHeartbeats 4000000 in
theorem indexR_any (ps : List Ro) (s : ByteArray) (A : Option Addr) (n c g : Nat) (w : World) (h : RowsP w (· < w.heap.size) A n ps) (hn : n ≤ 100000) (h0 : w.cell? ⟨g, 3, none⟩ = some (.string s)) :
    Calls Tryz.prog 112 #[.slice A n c, .func (.func 92) #[] #[.pointer (some ⟨g, 0, none⟩)]] w fun e w' => ∃ i : Int, e = .returned (.int .i64 i) ∧ (decide (0 ≤ i) = ps.any (fun x => x.kind == 3 && x.name == s.data.toList)) ∧ Below w.heap.size w w' := by
  have hg : g < w.heap.size := World.block_lt_of_cell? w ⟨g, 3, none⟩ h0
  have Hl := Lib.hid h.len
  have HH := Lib.hid h
  have HF := Lib.hid (fun (W : World) (hW : Below w.heap.size w W) => fR_any s g W ((hW.cell (p := ⟨g, 3, none⟩) hg).trans h0))
  clear h h0
  go_enter Tryz.func112, Tryz.ntmps112
  go_wp2_with fail
  go_loopw [8] (fun i wr => ∃ (k : Nat), k ≤ n ∧ i = .int .i64 k ∧ Hid (Below w.heap.size w wr) ∧ Hid (((ps.drop k).any (fun x => x.kind == 3 && x.name == s.data.toList)) = ps.any (fun x => x.kind == 3 && x.name == s.data.toList))) (fun i _ => n - (intOf i).toNat)
  case atStart => exact ⟨0, Nat.zero_le _, rfl, Lib.hid (Below.refl _ _), Lib.hid rfl⟩
  case round =>
    obtain ⟨k, hk, rfl, HW, HA⟩ := hrel
    by_cases hlt : k < n
    · have hkl : k < ps.length := by have := Hl.out; omega
      obtain ⟨x, hx⟩ : ∃ x, ps[k]? = some x := ⟨_, List.getElem?_eq_getElem hkl⟩
      have hxe : ps[k] = x := (List.getElem?_eq_some_iff.1 hx).2
      have hkn : (k : Int) < (n : Int) := by omega
      have hk0 : (0 : Int) ≤ (k : Int) := by omega
      obtain ⟨b, o, rfl, hbl, hc1, hc2, hc3, hc4, hc5, hc6⟩ := (RowsP.keep HH.out (w' := wr) (fun b o hb => HW.out.cell (p := ⟨b, o, none⟩) hb)).at_ hx
      obtain ⟨t1, ht1⟩ : ∃ s : ByteArray, Li.encs x.ln.1 = .string s := ⟨_, rfl⟩
      obtain ⟨t2, ht2⟩ : ∃ s : ByteArray, Li.encs x.ln.2 = .string s := ⟨_, rfl⟩
      obtain ⟨t4, ht4⟩ : ∃ s : ByteArray, Li.encs x.val = .string s := ⟨_, rfl⟩
      obtain ⟨s1, hs1⟩ : ∃ s1 : ByteArray, s1 = ⟨x.name.toArray⟩ := ⟨_, rfl⟩
      rw [show Li.encs x.name = .string s1 by rw [hs1]; rfl] at hc4
      rw [ht1] at hc1
      rw [ht2] at hc2
      rw [ht4] at hc5
      have HC := Lib.hid (HF.out wr HW.out t1 t2 s1 t4 x.kind x.pos)
      obtain ⟨q, hq⟩ : ∃ q, q = x.pos := ⟨_, rfl⟩
      obtain ⟨kd, hkd⟩ : ∃ q, q = x.kind := ⟨_, rfl⟩
      rw [← hq, ← hkd] at HC
      rw [← hq] at hc6
      rw [← hkd] at hc3
      obtain ⟨u, hu⟩ : ∃ u, u = (kd == 3 && s1.data.toList == s.data.toList) := ⟨_, rfl⟩
      rw [← hu] at HC
      have hu2 : (x.kind == 3 && x.name == s.data.toList) = u := by rw [hu, hs1, hkd]
      clear hs1 hu ht1 ht2 ht4 hq hkd
      have HA2 : Hid ((ps.any (fun x => x.kind == 3 && x.name == s.data.toList)) = (u || (ps.drop (k + 1)).any (fun x => x.kind == 3 && x.name == s.data.toList))) := Lib.hid (by rw [← HA.out, List.drop_eq_getElem_cons hkl, List.any_cons, hxe, hu2])
      have Hlt := Lib.hid hlt
      clear hlt HA hx hkl hxe hu2
      cases u with
      | false =>
        go_wp2_with fail
        (with_reducible refine HC.out.mono ?_)
        rintro e w2 ⟨rfl, hb2⟩
        have HW2 := Lib.hid (HW.out.trans (hb2.mono HW.out.size))
        clear hb2
        go_wp2_with fail
        go_roundw
        case rel => exact ⟨k + 1, Hlt.out, by go_num, HW2, Lib.hid (by rw [HA2.out]; rfl)⟩
        case measure => have := Hlt.out; simp [intOf]; omega
      | true =>
        go_wp2_with fail
        (with_reducible refine HC.out.mono ?_)
        rintro e w2 ⟨rfl, hb2⟩
        have HW2 := Lib.hid (HW.out.trans (hb2.mono HW.out.size))
        clear hb2
        go_wp2_with fail
        go_ret
        exact ⟨(k : Int), rfl, by rw [HA2.out, Bool.true_or]; exact decide_eq_true hk0, HW2.out⟩
    · obtain rfl : k = n := by omega
      have HA2 : Hid ((ps.any (fun x => x.kind == 3 && x.name == s.data.toList)) = false) := Lib.hid (by
        have := HA.out
        rw [List.drop_of_length_le (by rw [← Hl.out]; exact Nat.le_refl _)] at this
        exact this.symm)
      clear hlt HA
      go_wp2_with fail
      go_ret
      exact ⟨-1, rfl, by rw [HA2.out]; rfl, HW.out⟩
set_option maxHeartbeats 1000000 in
theorem containsR_any (ps : List Ro) (s : ByteArray) (A : Option Addr) (n c g : Nat) (w : World) (h : RowsP w (· < w.heap.size) A n ps) (hn : n ≤ 100000) (h0 : w.cell? ⟨g, 3, none⟩ = some (.string s)) :
    Calls Tryz.prog 94 #[.slice A n c, .func (.func 92) #[] #[.pointer (some ⟨g, 0, none⟩)]] w fun e w' => e = .returned (.bool (ps.any (fun x => x.kind == 3 && x.name == s.data.toList))) ∧ Below w.heap.size w w' := by
  have HC := Lib.hid (indexR_any ps s A n c g w h hn h0)
  obtain ⟨v, hv⟩ : ∃ v, v = ps.any (fun x => x.kind == 3 && x.name == s.data.toList) := ⟨_, rfl⟩
  rw [← hv] at HC
  rw [← hv]
  clear hv h h0
  go_enter Tryz.func94, Tryz.ntmps94
  go_wp2_with fail
  (with_reducible refine HC.out.mono ?_)
  rintro e w1 ⟨i, rfl, hi, hb1⟩
  have Hi := Lib.hid hi
  clear hi
  go_wp2_with fail
  go_ret
  exact ⟨by rw [← Hi.out]; rfl, hb1⟩

theorem last_at {ps : List Pt} {j : Nat} (hj : j + 1 = ps.length) : ps[j]? = some (lastP ps) := by
  have e : ps.getLast? = ps[j]? := by rw [List.getLast?_eq_getElem?, show ps.length - 1 = j by omega]
  have h : ps[j]? = some (ps[j]'(by omega)) := List.getElem?_eq_getElem _
  rw [lastP, e, h]
  rfl
set_option maxHeartbeats 8000000 in
theorem fault_any (ps : List Pt) (t e s v : ByteArray) (k p : Nat) (A : Option Addr) (n c : Nat) (w : World) (h : PartsP w (· < w.heap.size) A n ps) (hn : n ≤ 100000) (hr : (lastP ps).rows.length ≤ 100000) (h0 : ps ≠ []) :
    Calls Tryz.prog 69 #[.slice A n c, .agg #[.string t, .string e, .int .i64 k, .string s, .string v, .int .i64 p]] w fun en w' => en = .returned (.int .i64 (faultI ps ⟨(t.data.toList, e.data.toList), k, s.data.toList, v.data.toList, p⟩)) ∧ Below w.heap.size w w' := by
  have hl := h.len
  obtain ⟨j, hj⟩ : ∃ j, j + 1 = n := ⟨n - 1, by have := List.length_pos_iff.2 h0; omega⟩
  have hat := last_at (ps := ps) (j := j) (by omega)
  obtain ⟨x, hx⟩ : ∃ x, x = lastP ps := ⟨_, rfl⟩
  rw [← hx] at hat hr
  obtain ⟨b, o, Af, nf, cf, rfl, hbl, hc1, hc2, hrows, hncf, hcm⟩ := h.at_ hat
  obtain ⟨nm, hnm⟩ : ∃ nm : ByteArray, nm = ⟨x.name.toArray⟩ := ⟨_, rfl⟩
  rw [← hnm] at hc1
  obtain ⟨R, hR⟩ : ∃ R, R = faultI ps ⟨(t.data.toList, e.data.toList), k, s.data.toList, v.data.toList, p⟩ := ⟨_, rfl⟩
  rw [← hR]
  unfold faultI at hR
  dsimp only at hR
  rw [← hx, ← hl] at hR
  obtain ⟨W1, hW1⟩ : ∃ W, W = w.alloc (Obj.cells #[.string t, .string e, .int .i64 k, .string s, .string v, .int .i64 p] 114) := ⟨_, rfl⟩
  have hb1 : Below w.heap.size w W1 := by rw [hW1]; exact (Below.refl _ _).alloc (Nat.le_refl _) _
  have hg1 : W1.heap[w.heap.size]? = some (Obj.cells #[.string t, .string e, .int .i64 k, .string s, .string v, .int .i64 p] 114) := by rw [hW1]; exact heap_alloc_new w _
  have hl1 : w.heap.size < W1.heap.size := (Array.getElem?_eq_some_iff.1 hg1).1
  obtain ⟨W2, hW2⟩ : ∃ W, W = W1.alloc (Obj.cells #[.string nm, .slice Af nf cf] 108) := ⟨_, rfl⟩
  have hb2 : Below W1.heap.size W1 W2 := by rw [hW2]; exact (Below.refl _ _).alloc (Nat.le_refl _) _
  have hg2 : W2.heap[W1.heap.size]? = some (Obj.cells #[.string nm, .slice Af nf cf] 108) := by rw [hW2]; exact heap_alloc_new W1 _
  have hl2 : W1.heap.size < W2.heap.size := (Array.getElem?_eq_some_iff.1 hg2).1
  have hg12 := (hb2.block _ hl1).trans hg1
  have hb12 := hb1.trans (hb2.mono hb1.size)
  have HK := Lib.hid (fun (W : World) (hW : Below W2.heap.size W2 W) => (⟨(hW.cell (p := ⟨w.heap.size, 2, none⟩) (Nat.lt_trans hl1 hl2)).trans (by rw [cell_of_row _ _ _ _ _ _ hg12]; rfl), (hW.cell (p := ⟨w.heap.size, 3, none⟩) (Nat.lt_trans hl1 hl2)).trans (by rw [cell_of_row _ _ _ _ _ _ hg12]; rfl), (hW.cell (p := ⟨W1.heap.size, 1, none⟩) hl2).trans (by rw [cell_of_row _ _ _ _ _ _ hg2]; rfl)⟩ : W.cell? ⟨w.heap.size, 2, none⟩ = some (.int .i64 k) ∧ W.cell? ⟨w.heap.size, 3, none⟩ = some (.string s) ∧ W.cell? ⟨W1.heap.size, 1, none⟩ = some (.slice Af nf cf)))
  have hd1 := (hb1.cell (p := ⟨b, o + j * 2, none⟩) hbl).trans hc1
  have hd2 := (hb1.cell (p := ⟨b, o + j * 2 + 1, none⟩) hbl).trans hc2
  have hnf : nf ≤ 100000 := by have := hrows.len; omega
  have HP := Lib.hid (containsP_any ps s (some ⟨b, o, none⟩) n c w.heap.size W2 ((h.below hb12).more fun q hq => Nat.lt_of_lt_of_le hq hb12.size) hn (HK.out W2 (Below.refl _ _)).2.1)
  have HQ := Lib.hid (containsR_any x.rows s Af nf cf w.heap.size W2 ((hrows.keep (w' := W2) (fun b o hb => hb12.cell (p := ⟨b, o, none⟩) hb)).more fun q hq => Nat.lt_of_lt_of_le hq hb12.size) hnf (HK.out W2 (Below.refl _ _)).2.1)
  obtain ⟨u1, hu1⟩ : ∃ u, u = ps.any (fun p => p.name == s.data.toList) := ⟨_, rfl⟩
  obtain ⟨u2, hu2⟩ : ∃ u, u = x.rows.any (fun x => x.kind == 3 && x.name == s.data.toList) := ⟨_, rfl⟩
  rw [← hu1] at HP hR
  rw [← hu2] at HQ hR
  have HB := Lib.hid hb12
  have hw1 : IntKind.i64.wrap ((n : Int) - 1) = (j : Int) := by rw [IntKind.wrap_i64]; omega
  have hj0 : (0 : Int) ≤ (j : Int) := by omega
  have hjn : (j : Int) < (n : Int) := by omega
  have Hj := Lib.hid hj
  clear hu1 hu2 hb1 hg1 hb2 hg2 hg12 hb12 hc1 hc2 hrows h hat hx hnm hr h0 hl hj
  have HR := Lib.hid hR
  clear hR
  by_cases k0 : k = 0
  · have K0 : ((k : Int) == 0) = true := by rw [k0]; rfl
    have HR2 : Hid (R = 6) := Lib.hid (by rw [HR.out, if_pos (.inl k0)])
    clear k0
    go_enter Tryz.func69, Tryz.ntmps69
    go_upto_region 1 with (fail)
    rw [← hW1]
    clear hW1
    go_upto_region 2 with (fail)
    rw [← hW2]
    clear hW2
    obtain ⟨a2, a3, a4⟩ := HK.out W2 (Below.refl _ _)
    go_wp2_with fail
    go_ret
    exact ⟨by rw [HR2.out]; rfl, HB.out⟩
  · have K0 : ((k : Int) == 0) = false := by rw [beq_eq_false_iff_ne]; omega
    by_cases k3 : k = 3
    · have K3 : ((k : Int) == 3) = true := by rw [k3]; rfl
      have K2 : ((k : Int) == 2) = false := by rw [k3]; rfl
      by_cases n1 : n = 1
      · have N1 : ((n : Int) == 1) = true := by rw [n1]; rfl
        have HR2 : Hid (R = 6) := Lib.hid (by rw [HR.out, if_pos (.inr ⟨k3, n1⟩)])
        clear k0 k3 n1
        go_enter Tryz.func69, Tryz.ntmps69
        go_upto_region 1 with (fail)
        rw [← hW1]
        clear hW1
        go_upto_region 2 with (fail)
        rw [← hW2]
        clear hW2
        obtain ⟨a2, a3, a4⟩ := HK.out W2 (Below.refl _ _)
        go_wp2_with fail
        go_ret
        exact ⟨by rw [HR2.out]; rfl, HB.out⟩
      · have N1 : ((n : Int) == 1) = false := by rw [beq_eq_false_iff_ne]; omega
        have HR2 : Hid (R = if u2 = true then 7 else 0) := Lib.hid (by rw [HR.out, if_neg (fun h => h.elim k0 (fun h => n1 h.2)), if_neg (fun h => by have := h.1; omega)]; cases u2 <;> simp [k3])
        clear k0 k3 n1
        cases u2 with
        | true =>
          go_enter Tryz.func69, Tryz.ntmps69
          go_upto_region 1 with (fail)
          rw [← hW1]
          clear hW1
          go_upto_region 2 with (fail)
          rw [← hW2]
          clear hW2
          obtain ⟨a2, a3, a4⟩ := HK.out W2 (Below.refl _ _)
          go_wp2_with fail
          (with_reducible refine HQ.out.mono ?_)
          rintro e w3 ⟨rfl, hb3⟩
          go_wp2_with fail
          go_ret
          exact ⟨by rw [HR2.out]; rfl, HB.out.trans (hb3.mono HB.out.size)⟩
        | false =>
          go_enter Tryz.func69, Tryz.ntmps69
          go_upto_region 1 with (fail)
          rw [← hW1]
          clear hW1
          go_upto_region 2 with (fail)
          rw [← hW2]
          clear hW2
          obtain ⟨a2, a3, a4⟩ := HK.out W2 (Below.refl _ _)
          go_wp2_with fail
          (with_reducible refine HQ.out.mono ?_)
          rintro e w3 ⟨rfl, hb3⟩
          go_wp2_with fail
          go_ret
          exact ⟨by rw [HR2.out]; rfl, HB.out.trans (hb3.mono HB.out.size)⟩
    · have K3 : ((k : Int) == 3) = false := by rw [beq_eq_false_iff_ne]; omega
      by_cases k2 : k = 2
      · have K2 : ((k : Int) == 2) = true := by rw [k2]; rfl
        have HR2 : Hid (R = if u1 = true then 7 else 0) := Lib.hid (by rw [HR.out, if_neg (fun h => h.elim k0 (fun h => k3 h.1))]; cases u1 <;> simp [k2])
        clear k0 k3 k2
        cases u1 with
        | true =>
          go_enter Tryz.func69, Tryz.ntmps69
          go_upto_region 1 with (fail)
          rw [← hW1]
          clear hW1
          go_upto_region 2 with (fail)
          rw [← hW2]
          clear hW2
          obtain ⟨a2, a3, a4⟩ := HK.out W2 (Below.refl _ _)
          go_wp2_with fail
          (with_reducible refine HP.out.mono ?_)
          rintro e w3 ⟨rfl, hb3⟩
          go_wp2_with fail
          go_ret
          exact ⟨by rw [HR2.out]; rfl, HB.out.trans (hb3.mono HB.out.size)⟩
        | false =>
          go_enter Tryz.func69, Tryz.ntmps69
          go_upto_region 1 with (fail)
          rw [← hW1]
          clear hW1
          go_upto_region 2 with (fail)
          rw [← hW2]
          clear hW2
          obtain ⟨a2, a3, a4⟩ := HK.out W2 (Below.refl _ _)
          go_wp2_with fail
          (with_reducible refine HP.out.mono ?_)
          rintro e w3 ⟨rfl, hb3⟩
          obtain ⟨c2, c3, c4⟩ := HK.out w3 hb3
          go_wp2_with fail
          go_ret
          exact ⟨by rw [HR2.out]; rfl, HB.out.trans (hb3.mono HB.out.size)⟩
      · have K2 : ((k : Int) == 2) = false := by rw [beq_eq_false_iff_ne]; omega
        have HR2 : Hid (R = 0) := Lib.hid (by rw [HR.out, if_neg (fun h => h.elim k0 (fun h => k3 h.1)), if_neg (fun h => k2 h.1), if_neg (fun h => k3 h.1)])
        clear k0 k3 k2
        go_enter Tryz.func69, Tryz.ntmps69
        go_upto_region 1 with (fail)
        rw [← hW1]
        clear hW1
        go_upto_region 2 with (fail)
        rw [← hW2]
        clear hW2
        obtain ⟨a2, a3, a4⟩ := HK.out W2 (Below.refl _ _)
        go_wp2_with fail
        go_ret
        exact ⟨by rw [HR2.out]; rfl, HB.out⟩

end Go.Proofs.YtapgaglkkgbgkaaGreatDoor.In
