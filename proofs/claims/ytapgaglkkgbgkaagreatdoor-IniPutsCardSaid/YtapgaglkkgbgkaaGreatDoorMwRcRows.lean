/- csv: rows read one by one, as the document's words say it, are the rows read as the program reads them; so is the file. No conditions. · ini: lines that are written are read as they are. No conditions. · ini: what rows say, one behind the other, told of names, keys and values only. No conditions. · csv: fields that are written are read as they are; what is read is written so. No conditions. · tree.Get: what is below a path, anew. Conditions: edges in order at each level, fewer than 2^38 of them. -/
import Derived.Test.YtapgaglkkgbgkaaGreatDoorMwInTb
import Derived.Test.YtapgaglkkgbgkaaGreatDoorMwRcMath
import Derived.Lib.Join
import Derived.Test.YtapgaglkkgbgkaaGreatDoorMwNamesMath
import Derived.Test.YtapgaglkkgbgkaaGreatDoorMwClClone
namespace Go.Proofs.YtapgaglkkgbgkaaGreatDoor.Cv
open Go.RowKit Go.Sort Go.Proofs.YtapgaglkkgbgkaaGreatDoor.Jd Go.Proofs.YtapgaglkkgbgkaaGreatDoor.Li Go.Proofs.YtapgaglkkgbgkaaGreatDoor.Cl Go.Proofs.YtapgaglkkgbgkaaGreatDoor.Pt
set_option maxRecDepth 100000

theorem any_mem (cs : List UInt8) : ∀ l : List UInt8, Lib.containsAny l cs = l.any (cs.contains ·)
  | [] => rfl
  | b :: l => by
    have ih := any_mem cs l
    have hg := Lib.indexAny_ge cs l
    unfold Lib.containsAny at ih ⊢
    rw [Lib.indexAny, List.any_cons]
    cases hb : cs.contains b with
    | true => rw [if_pos rfl]; rfl
    | false =>
      rw [if_neg (by decide), Bool.false_or, ← ih]
      by_cases hm : Lib.indexAny l cs = -1
      · rw [if_pos (beq_iff_eq.2 hm), hm]
      · rw [if_neg (fun e => hm (beq_iff_eq.1 e)), decide_eq_true (by omega), decide_eq_true (by omega)]
theorem vB_13 {z : ByteArray} (h : (13 : UInt8) ∈ z.data.toList) : vB z = false := by
  have e : Lib.containsAny z.data.toList [10, 13] = true := by
    rw [any_mem, List.any_eq_true]
    exact ⟨13, h, rfl⟩
  rw [vB, e]
  simp
theorem nB_13 {z : ByteArray} (h : (13 : UInt8) ∈ z.data.toList) : nB z = false := by rw [nB, vB_13 h, Bool.and_false]
theorem cB_13 {z : ByteArray} (h : (13 : UInt8) ∈ z.data.toList) : cB z = false := by rw [cB, nB_13 h, Bool.false_and]
def fieldsO (l : Bs) : Option (List Ln) := if l.contains 13 = true then none else fldsR (l.length + 1) l
theorem flds_ne : ∀ (F : Nat) (l : Bs) (r : List Ln), flds F l = some r → r ≠ []
  | 0, _, _, h => by cases h
  | F + 1, l, r, h => by
    rw [flds] at h
    split at h
    · cases h
    · split at h
      · injection h with h; subst h; simp
      · cases hq : flds F (l.drop (wid false l + 1)) with
        | none => rw [hq] at h; cases h
        | some q => rw [hq] at h; injection h with h; subst h; simp
def recR (h : List Ln) (T : Tr) (f : List Ln) : Int :=
  if f.length ≠ h.length then 6 else if nB ((mns f).headD ⟨#[]⟩) = false then 6 else if (mns f.tail).all vB = false then 6 else if T.atIs ((mns f).headD ⟨#[]⟩) = true then 7 else 0
def faultR (out : List (List Ln)) (T : Tr) (l : Bs) : Int :=
  match fieldsO l with
  | none => 6
  | some f => match out with
    | [] => headF (mns f)
    | h :: _ => recR h T f
def addR (out : List (List Ln)) (T : Tr) (f : List Ln) : Tr :=
  match out with
  | [] => T
  | h :: _ => T.withT ((mns f).headD ⟨#[]⟩) (rowT (mns h.tail) (mns f.tail) .nil)
def rowsR : List (List Ln) → Tr → Nat → List Ln → List (List Ln) × Tr × Nat × Int
  | out, T, _, [] => (out, T, 0, 0)
  | out, T, i, x :: r => if faultR out T x.1 ≠ 0 then ([], .nil, i + 1, faultR out T x.1) else rowsR (out ++ [fldsL x.1]) (addR out T (fldsL x.1)) (i + 1) r
def loadR (l : Bs) : Tr × Nat × Int :=
  if 4000 < l.length then (.nil, 0, 5) else if l.length = 0 then (.nil, 0, 2) else
  if (rowsR [] .nil 0 (split l)).2.2.2 ≠ 0 then (.nil, (rowsR [] .nil 0 (split l)).2.2.1, (rowsR [] .nil 0 (split l)).2.2.2) else
  if (rowsR [] .nil 0 (split l)).2.1.fault ≠ 0 then (.nil, 0, ((rowsR [] .nil 0 (split l)).2.1.fault : Nat)) else ((rowsR [] .nil 0 (split l)).2.1, 0, 0)
theorem fieldsO_some {l : Bs} {f : List Ln} (h : fieldsO l = some f) : fldsL l = f ∧ f ≠ [] := by
  unfold fieldsO at h
  split at h
  · cases h
  · rw [fldsR_eq] at h
    exact ⟨by rw [fldsL, h]; rfl, flds_ne _ _ _ h⟩
theorem all_false {f : ByteArray → Bool} {zs : List ByteArray} {z : ByteArray} (hz : z ∈ zs) (h : f z = false) : zs.all f = false := by
  rw [Bool.eq_false_iff]
  intro e
  have := List.all_eq_true.1 e z hz
  rw [h] at this
  cases this
theorem headF_13 {ms : List ByteArray} {z : ByteArray} (hz : z ∈ ms) (h : (13 : UInt8) ∈ z.data.toList) : headF ms = 6 := by
  cases ms with
  | nil => cases hz
  | cons m cols =>
    rw [headF]
    by_cases hm : (m.toList == [107, 101, 121]) = false
    · rw [if_pos hm]
    · rw [if_neg hm]
      rcases List.mem_cons.1 hz with e | e
      · exfalso
        subst e
        have hk : z.toList = [107, 101, 121] := by simpa using hm
        rw [ByteArray.toList_eq] at hk
        rw [hk] at h
        simp at h
      · rw [if_pos (all_false e (cB_13 h))]
theorem rowF_fs (x : Ln) : (rowF x).fs = fldsL x.1 := rfl
theorem fieldsO_none {l : Bs} (h : fieldsO l = none) : fldsL l = [] ∨ ∃ z ∈ mns (fldsL l), (13 : UInt8) ∈ z.data.toList := by
  unfold fieldsO at h
  split at h
  · rename_i h13
    cases hf : fldsR (l.length + 1) l with
    | none => left; rw [fldsL, ← fldsR_eq, hf]; rfl
    | some f =>
      right
      obtain ⟨x, hx, hx2⟩ := flds_13 _ _ _ hf (by simpa using h13)
      refine ⟨⟨x.2.toArray⟩, ?_, by simpa using hx2⟩
      have e : fldsL l = f := by rw [fldsL, ← fldsR_eq, hf]; rfl
      rw [e]
      exact List.mem_map_of_mem (f := fun x : Ln => (⟨x.2.toArray⟩ : ByteArray)) hx
  · left; rw [fldsL, ← fldsR_eq, h]; rfl
theorem nm_ok {ms : List ByteArray} (h : nB (ms.headD ⟨#[]⟩) ≠ false) : ms.all vB = ms.tail.all vB := by
  cases ms with
  | nil => rfl
  | cons m t =>
    have hm : nB m = true := by simpa using h
    rw [nB, Bool.and_eq_true] at hm
    rw [List.all_cons, hm.2]
    rfl
def Nms (T : Tr) (ahead : List Rw) : Prop := T.Asc ∧ ∀ q : List UInt8, q ∈ T.bn ↔ ∃ r ∈ ahead.tail, (nm r).data.toList = q
theorem fault_same {ahead : List Rw} {T : Tr} {x : Ln} (h : Nms T ahead) : faultR (ahead.map Rw.fs) T x.1 = faultF ahead (rowF x) := by
  unfold faultR
  cases ho : fieldsO x.1 with
  | none =>
    dsimp only
    unfold faultF
    rw [rowF_fs]
    by_cases e : fldsL x.1 = []
    · rw [if_pos e]
    · rw [if_neg e]
      rcases fieldsO_none ho with e1 | ⟨z, hz, hz2⟩
      · exact absurd e1 e
      · cases ahead with
        | nil => exact (headF_13 hz hz2).symm
        | cons h0 t =>
          dsimp only
          by_cases c1 : (fldsL x.1).length ≠ h0.fs.length
          · rw [if_pos c1]
          · rw [if_neg c1]
            by_cases c2 : nB (nm (rowF x)) = false
            · rw [if_pos c2]
            · rw [if_neg c2, if_pos (all_false hz (vB_13 hz2))]
  | some f =>
    obtain ⟨e, hne⟩ := fieldsO_some ho
    dsimp only
    unfold faultF
    rw [rowF_fs, e, if_neg hne]
    cases ahead with
    | nil => rfl
    | cons h0 t =>
      show recR h0.fs T f = _
      unfold recR
      dsimp only
      have en : nm (rowF x) = (mns f).headD ⟨#[]⟩ := by rw [nm, rowF_fs, e]
      rw [en]
      by_cases c1 : f.length ≠ h0.fs.length
      · rw [if_pos c1, if_pos c1]
      · rw [if_neg c1, if_neg c1]
        by_cases c2 : nB ((mns f).headD ⟨#[]⟩) = false
        · rw [if_pos c2, if_pos c2]
        · have e2 := nm_ok c2
          have e3 : (mns f).tail = mns f.tail := by cases f <;> rfl
          rw [if_neg c2, if_neg c2, e2, e3]
          by_cases c3 : (mns f.tail).all vB = false
          · rw [if_pos c3, if_pos c3]
          · have e4 : T.atIs ((mns f).headD ⟨#[]⟩) = (t.any fun y => (nm y).toList == ((mns f).headD ⟨#[]⟩).toList) := by
              rw [Bool.eq_iff_iff, mem_atIs h.1, h.2, List.any_eq_true]
              simp only [List.tail_cons, beq_iff_eq, ByteArray.toList_eq]
            rw [if_neg c3, if_neg c3, e4]
def accOf : List Rw → Tr
  | [] => .nil
  | h :: t => accT (colsR h) .nil t
theorem accOf_nms (ahead : List Rw) : Nms (accOf ahead) ahead := by
  cases ahead with
  | nil => exact ⟨nil_asc, fun q => by simp [accOf]; intro h; cases h⟩
  | cons h t =>
    refine ⟨accT_asc _ _ _ nil_asc, fun q => ?_⟩
    rw [accOf, accT_mem _ _ _ _ nil_asc]
    constructor
    · rintro (h | h)
      · cases h
      · exact h
    · exact .inr
theorem add_same (ahead : List Rw) (x : Ln) : addR (ahead.map Rw.fs) (accOf ahead) (fldsL x.1) = accOf (ahead ++ [rowF x]) := by
  cases ahead with
  | nil => rfl
  | cons h t =>
    rw [List.cons_append, accOf, accOf, accT_snoc]
    rfl
theorem rows_same : ∀ (ls : List Ln) (ahead : List Rw) (i : Nat), rowsR (ahead.map Rw.fs) (accOf ahead) i ls =
    if (rowsF ahead i ls).2.2 = 0 then ((rowsF ahead i ls).1.map Rw.fs, accOf (rowsF ahead i ls).1, 0, 0) else ([], .nil, (rowsF ahead i ls).2.1, (rowsF ahead i ls).2.2)
  | [], ahead, i => by rw [rowsR, rowsF, if_pos rfl]
  | x :: r, ahead, i => by
    rw [rowsR, rowsF, fault_same (accOf_nms ahead)]
    by_cases hf : faultF ahead (rowF x) ≠ 0
    · rw [if_pos hf, if_pos hf, if_neg hf]
    · rw [if_neg hf, if_neg hf, add_same]
      have e : ahead.map Rw.fs ++ [fldsL x.1] = (ahead ++ [rowF x]).map Rw.fs := by rw [List.map_append]; rfl
      rw [e]
      exact rows_same r (ahead ++ [rowF x]) (i + 1)
theorem dup_nodup : ∀ (l a : List ByteArray), dupF a l = false → l.Nodup ∧ ∀ z ∈ l, z ∉ a
  | [], _, _ => ⟨List.nodup_nil, fun _ h => by cases h⟩
  | x :: r, a, h => by
    rw [dupF, Bool.or_eq_false_iff] at h
    obtain ⟨h1, h2⟩ := dup_nodup r (a ++ [x]) h.2
    have h3 : x ∉ a := fun e => by rw [(Lib.containsS_iff a x).2 e] at h; cases h.1
    refine ⟨List.nodup_cons.2 ⟨fun e => h2 x e (by simp), h1⟩, fun z hz => ?_⟩
    rcases List.mem_cons.1 hz with e | e
    · rw [e]; exact h3
    · exact fun e2 => h2 z e (by simp [e2])
theorem nodup_data {l : List ByteArray} (h : l.Nodup) : (l.map (·.data.toList)).Nodup := by
  rw [List.Nodup, List.pairwise_map]
  refine List.Pairwise.imp (fun {a b} hab e => hab ?_) h
  exact bytes_eq (by rw [ByteArray.toList_eq, ByteArray.toList_eq, e])
theorem nodup_snoc {l : List (List UInt8)} {x : List UInt8} (h : l.Nodup) (hx : x ∉ l) : (l ++ [x]).Nodup := by
  rw [List.nodup_append]
  refine ⟨h, by simp, fun a ha b hb e => hx ?_⟩
  simp at hb
  rw [← hb, ← e]
  exact ha
def Nod : List Rw → Prop
  | [] => True
  | h :: t => ((colsR h).map (·.data.toList)).Nodup ∧ (t.map fun r => (nm r).data.toList).Nodup
theorem rowsF_nod : ∀ (ls : List Ln) (ahead : List Rw) (i : Nat), Nod ahead → (rowsF ahead i ls).2.2 = 0 → Nod (rowsF ahead i ls).1
  | [], ahead, i, h, _ => h
  | x :: r, ahead, i, h, h0 => by
    rw [rowsF] at h0 ⊢
    by_cases hf : faultF ahead (rowF x) ≠ 0
    · rw [if_pos hf] at h0
      exact absurd h0 hf
    · rw [if_neg hf] at h0 ⊢
      refine rowsF_nod r _ _ ?_ h0
      have h1 := fault_fs hf
      unfold faultF at hf
      rw [if_neg h1] at hf
      cases ahead with
      | nil =>
        refine ⟨?_, List.nodup_nil⟩
        simp only at hf
        cases hfs : (rowF x).fs with
        | nil => exact absurd hfs h1
        | cons y l =>
          rw [hfs] at hf
          have em : mns (y :: l) = ⟨y.2.toArray⟩ :: mns l := rfl
          rw [em, headF] at hf
          split at hf
          · exact absurd (by decide) hf
          · split at hf
            · exact absurd (by decide) hf
            · split at hf
              · exact absurd (by decide) hf
              · rename_i hd
                have e : colsR (rowF x) = mns l := by rw [colsR, hfs]; rfl
                rw [e]
                exact nodup_data (dup_nodup _ _ (by simpa using hd)).1
      | cons hh t =>
        refine ⟨h.1, ?_⟩
        show (List.map (fun r => (nm r).data.toList) (t ++ [rowF x])).Nodup
        rw [List.map_append]
        refine nodup_snoc h.2 ?_
        simp only at hf
        split at hf
        · exact absurd (by decide) hf
        · split at hf
          · exact absurd (by decide) hf
          · split at hf
            · exact absurd (by decide) hf
            · split at hf
              · exact absurd (by decide) hf
              · rename_i hd
                intro hm
                obtain ⟨y, hy, e⟩ := List.mem_map.1 hm
                refine hd (List.any_eq_true.2 ⟨y, hy, ?_⟩)
                rw [beq_iff_eq, ByteArray.toList_eq, ByteArray.toList_eq]
                exact e
theorem accOf_tree {rs : List Rw} (h : Nod rs) : accOf rs = treeR rs := by
  cases rs with
  | nil => rfl
  | cons hh t => rw [accOf, treeR, accT_eq h.1 h.2]
theorem spl_nil : ∀ (r cur : Bs), spl cur r = [] → cur = [] ∧ r = [] := fun r cur h => by
  have hj := join_spl r cur
  rw [h] at hj
  simp only [join] at hj
  exact List.append_eq_nil_iff.1 hj.symm
theorem split_nil (l : Bs) : split l = [] ↔ l = [] := by
  constructor
  · intro h; exact (spl_nil l [] h).2
  · rintro rfl; rfl
theorem rowsF_len : ∀ (ls : List Ln) (ahead : List Rw) (i : Nat), (rowsF ahead i ls).2.2 = 0 → (rowsF ahead i ls).1.length = ahead.length + ls.length
  | [], _, _, _ => by simp [rowsF]
  | x :: r, ahead, i, h0 => by
    rw [rowsF] at h0 ⊢
    by_cases hf : faultF ahead (rowF x) ≠ 0
    · rw [if_pos hf] at h0
      exact absurd h0 hf
    · rw [if_neg hf] at h0 ⊢
      rw [rowsF_len r _ _ h0]
      simp
      omega
theorem load_same (l : Bs) : loadR l = readF l := by
  unfold loadR readF
  by_cases h1 : 4000 < l.length
  · rw [if_pos h1, if_pos h1]
  · rw [if_neg h1, if_neg h1]
    have e := rows_same (split l) [] 0
    rw [List.map_nil, accOf] at e
    rw [e]
    by_cases h2 : l.length = 0
    · obtain rfl : l = [] := List.eq_nil_of_length_eq_zero h2
      rfl
    · rw [if_neg h2]
      by_cases h3 : (rowsF [] 0 (split l)).2.2 = 0
      · have q : ¬ (rowsF [] 0 (split l)).2.2 ≠ 0 := fun e => e h3
        rw [if_pos h3, if_neg q]
        have hn := rowsF_nod (split l) [] 0 trivial h3
        have hl := rowsF_len (split l) [] 0 h3
        dsimp only
        rw [if_neg (show ¬ (0 : Int) ≠ 0 by decide), accOf_tree hn]
        cases hr : (rowsF [] 0 (split l)).1 with
        | nil =>
          rw [hr] at hl
          simp only [List.length_nil, Nat.zero_add] at hl
          exact absurd ((split_nil l).1 (List.eq_nil_of_length_eq_zero hl.symm)) (fun e => h2 (by rw [e]; rfl))
        | cons hh t => rfl
      · rw [if_neg h3, if_pos h3, if_pos h3]
end Go.Proofs.YtapgaglkkgbgkaaGreatDoor.Cv
namespace Go.Proofs.YtapgaglkkgbgkaaGreatDoor.In
open Go.RowKit Go.Proofs.YtapgaglkkgbgkaaGreatDoor.Li Go.Proofs.YtapgaglkkgbgkaaGreatDoor.Cv Go.Proofs.YtapgaglkkgbgkaaGreatDoor.Pt
set_option maxRecDepth 100000

def rt (s : Bs) : Bs := (s.reverse.dropWhile bl).reverse
theorem mid_eq (s : Bs) : mid s = rt (s.dropWhile bl) := by
  rw [rt, tr_take, tl_drop, mid, List.drop_take]
  congr 1
  unfold en
  omega
theorem dw_all : ∀ {f : Bs}, (∀ c ∈ f, bl c = true) → f.dropWhile bl = []
  | [], _ => rfl
  | c :: f, h => by rw [List.dropWhile_cons, h c (by simp)]; exact dw_all fun d hd => h d (by simp [hd])
theorem dw_app : ∀ {f : Bs} (a : Bs), (∀ c ∈ f, bl c = true) → (f ++ a).dropWhile bl = a.dropWhile bl
  | [], _, _ => rfl
  | c :: f, a, h => by rw [List.cons_append, List.dropWhile_cons, h c (by simp)]; exact dw_app a fun d hd => h d (by simp [hd])
theorem dw_head {c : UInt8} (r : Bs) (h : bl c = false) : (c :: r).dropWhile bl = c :: r := by rw [List.dropWhile_cons, h]; rfl
theorem rt_app (a : Bs) {b : Bs} (h : ∀ c ∈ b, bl c = true) : rt (a ++ b) = rt a := by
  rw [rt, List.reverse_append, dw_app _ (fun c hc => h c (List.mem_reverse.1 hc)), rt]
theorem rt_last (a : Bs) {c : UInt8} (h : bl c = false) : rt (a ++ [c]) = a ++ [c] := by
  rw [rt, List.reverse_append, List.reverse_singleton, List.singleton_append, dw_head _ h, List.reverse_cons, List.reverse_reverse]
theorem rt_head {c : UInt8} (r : Bs) (h : bl c = false) : ∃ r', rt (c :: r) = c :: r' := by
  have key : ∀ (x : Bs), ∃ y, (x ++ [c]).dropWhile bl = y ++ [c] := by
    intro x
    induction x with
    | nil => exact ⟨[], by rw [List.nil_append, dw_head _ h]⟩
    | cons d x ih =>
      rw [List.cons_append, List.dropWhile_cons]
      cases bl d with
      | true => exact ih
      | false => exact ⟨d :: x, rfl⟩
  obtain ⟨y, hy⟩ := key r.reverse
  exact ⟨y.reverse, by rw [rt, List.reverse_cons, hy, List.reverse_append, List.reverse_singleton, List.singleton_append]⟩
def Trm (m : Bs) : Prop := (∀ c r, m = c :: r → bl c = false) ∧ ∀ c r, m = r ++ [c] → bl c = false
theorem mid_of {f m b : Bs} (hf : ∀ c ∈ f, bl c = true) (hb : ∀ c ∈ b, bl c = true) (hm : Trm m) : mid (f ++ m ++ b) = m := by
  rw [mid_eq, List.append_assoc, dw_app _ hf]
  rcases List.eq_nil_or_concat m with rfl | ⟨r, c, hrc⟩
  · rw [List.nil_append, dw_all hb]; rfl
  · rw [List.concat_eq_append] at hrc
    subst hrc
    cases hr : r ++ [c] with
    | nil => simp at hr
    | cons d q =>
      have h1 := hm.1 d q hr
      rw [List.cons_append, dw_head _ h1, ← List.cons_append, ← hr, rt_app _ hb, rt_last _ (hm.2 c r rfl)]
theorem dw_trm : ∀ (s : Bs) (c : UInt8) (r : Bs), s.dropWhile bl = c :: r → bl c = false
  | [], _, _, h => by simp at h
  | d :: s, c, r, h => by
    rw [List.dropWhile_cons] at h
    cases hd : bl d with
    | true => rw [hd] at h; exact dw_trm s c r h
    | false => rw [hd] at h; injection h with h _; rw [← h]; exact hd
theorem mid_trm (s : Bs) : Trm (mid s) := by
  rw [mid_eq]
  constructor
  · intro c r h
    cases hs : s.dropWhile bl with
    | nil => rw [hs] at h; simp [rt] at h
    | cons d q =>
      have h1 := dw_trm s d q hs
      obtain ⟨r', h2⟩ := rt_head q h1
      rw [hs, h2] at h
      injection h with h _
      rw [← h]; exact h1
  · intro c r h
    rw [rt] at h
    have h2 := congrArg List.reverse h
    rw [List.reverse_reverse, List.reverse_append, List.reverse_singleton, List.singleton_append] at h2
    exact dw_trm _ _ _ h2
theorem trm_of {v : Bs} (h : mid v = v) : Trm v := by rw [← h]; exact mid_trm v
theorem takeWhile_all : ∀ (s : Bs), ∀ c ∈ s.takeWhile bl, bl c = true
  | [], _, h => by cases h
  | d :: s, c, h => by
    rw [List.takeWhile_cons] at h
    cases hd : bl d with
    | true =>
      rw [hd] at h
      rcases List.mem_cons.1 h with rfl | h
      · exact hd
      · exact takeWhile_all s c h
    | false => rw [hd] at h; cases h
theorem front_eq (s : Bs) : front s = s.takeWhile bl := by
  rw [front]
  exact (List.prefix_iff_eq_take.1 (List.takeWhile_prefix (p := bl) (l := s))).symm
theorem front_bl (s : Bs) : ∀ c ∈ front s, bl c = true := by rw [front_eq]; exact takeWhile_all s
theorem parts (s : Bs) : ∃ b, s = front s ++ mid s ++ b ∧ ∀ c ∈ b, bl c = true := by
  refine ⟨(s.dropWhile bl).drop (tr (s.dropWhile bl)), ?_, fun c hc => ?_⟩
  · rw [mid_eq, rt, tr_take, List.append_assoc, List.take_append_drop, front_eq, List.takeWhile_append_dropWhile]
  · obtain ⟨i, hi, e⟩ := List.mem_iff_getElem.1 hc
    rw [List.getElem_drop] at e
    rw [← e]
    exact tr_in _ _ _ (Nat.le_add_right _ _)
theorem ahead_of {a r : Bs} (h : (61 : UInt8) ∉ a) : ahead (a ++ 61 :: r) = a := by
  induction a with
  | nil => rfl
  | cons c a ih =>
    simp only [List.mem_cons, not_or] at h
    rw [ahead, List.cons_append, List.takeWhile_cons, if_pos (by simpa using Ne.symm h.1)]
    congr 1
    exact ih h.2
theorem behind_of {a r : Bs} (h : (61 : UInt8) ∉ a) : behind (a ++ 61 :: r) = r := by
  rw [behind, ahead_of h, show a ++ 61 :: r = (a ++ [61]) ++ r by simp, List.drop_append_of_le_length (by simp)]
  simp
theorem ahead_not (s : Bs) : (61 : UInt8) ∉ ahead s := by
  intro h
  have : ∀ l : Bs, (61 : UInt8) ∉ l.takeWhile (· != 61) := by
    intro l
    induction l with
    | nil => simp
    | cons c l ih =>
      rw [List.takeWhile_cons]
      split
      · rename_i hc
        simp only [List.mem_cons, not_or]
        exact ⟨fun e => by rw [← e] at hc; simp at hc, ih⟩
      · simp
  exact this s h
theorem split_mem {s : Bs} (h : (61 : UInt8) ∈ s) : s = ahead s ++ 61 :: behind s := by
  induction s with
  | nil => cases h
  | cons c s ih =>
    by_cases hc : c = 61
    · subst hc; rfl
    · have h2 : (61 : UInt8) ∈ s := by
        rcases List.mem_cons.1 h with e | e
        · exact absurd e.symm hc
        · exact e
      have ha : ahead (c :: s) = c :: ahead s := by rw [ahead, List.takeWhile_cons, if_pos (by simpa using hc)]; rfl
      have hb : behind (c :: s) = behind s := by rw [behind, ha, List.length_cons, List.drop_succ_cons]; rfl
      rw [ha, hb, List.cons_append, ← ih h2]
theorem split_eq {s : Bs} (h : s.contains 61 = true) : s = ahead s ++ 61 :: behind s := split_mem (by simpa using h)
theorem vB_trm {v : Bs} (h : vB v = true) : Trm v ∧ (13 : UInt8) ∉ v ∧ (10 : UInt8) ∉ v ∧ v.length ≤ 80 := by
  simp only [vB, Bool.and_eq_true, beq_iff_eq, decide_eq_true_eq, Bool.not_eq_true'] at h
  obtain ⟨⟨h1, h2⟩, h3⟩ := h
  rw [any_mem, Bool.eq_false_iff] at h3
  refine ⟨trm_of h1, fun hm => h3 (List.any_eq_true.2 ⟨13, hm, by decide⟩), fun hm => h3 (List.any_eq_true.2 ⟨10, hm, by decide⟩), h2⟩
theorem kB_parts {k : Bs} (h : kB k = true) : ∃ c r, k = c :: r ∧ bl c = false ∧ c ≠ 59 ∧ c ≠ 35 ∧ c ≠ 91 ∧ vB k = true ∧ (61 : UInt8) ∉ k := by
  simp only [kB, Bool.and_eq_true, Bool.not_eq_true'] at h
  obtain ⟨⟨⟨h1, h2⟩, h3⟩, h4⟩ := h
  cases k with
  | nil => simp at h1
  | cons c r =>
    rw [any_mem, Bool.eq_false_iff] at h4
    have hc : ∀ d, d ∈ ([91, 59, 35] : Bs) → c ≠ d := fun d hd e => h4 (by
      refine List.any_eq_true.2 ⟨c, by simp, ?_⟩
      rw [e]
      simpa using hd)
    exact ⟨c, r, rfl, (vB_trm h2).1.1 c r rfl, hc 59 (by decide), hc 35 (by decide), hc 91 (by decide), h2, by simpa using h3⟩
theorem key_line {f k b g v d E : Bs} (hf : ∀ c ∈ f, bl c = true) (hb : ∀ c ∈ b, bl c = true) (hg : ∀ c ∈ g, bl c = true) (hd : ∀ c ∈ d, bl c = true) (hk : kB k = true) (hv : vB v = true) :
    ∃ p, rowI (f ++ k ++ b ++ 61 :: (g ++ v ++ d), E) = ⟨(f ++ k ++ b ++ 61 :: (g ++ v ++ d), E), 3, k, v, p⟩ := by
  obtain ⟨c, r, rfl, hc, n1, n2, n3, hvk, h61⟩ := kB_parts hk
  have hbl : ∀ x : UInt8, bl x = true → x ≠ 61 ∧ x ≠ 13 := fun x hx => by
    have : x = 32 ∨ x = 9 := by simpa [bl] using hx
    rcases this with rfl | rfl <;> decide
  obtain ⟨t1, t2, _, _⟩ := vB_trm hvk
  obtain ⟨u1, u2, _, _⟩ := vB_trm hv
  have ha61 : (61 : UInt8) ∉ f ++ (c :: r) ++ b := by
    simp only [List.mem_append, not_or]
    exact ⟨⟨fun h => (hbl _ (hf _ h)).1 rfl, h61⟩, fun h => (hbl _ (hb _ h)).1 rfl⟩
  have h13 : (13 : UInt8) ∉ f ++ (c :: r) ++ b ++ 61 :: (g ++ v ++ d) := by
    simp only [List.mem_append, List.mem_cons, not_or] at t2 ⊢
    exact ⟨⟨⟨fun h => (hbl _ (hf _ h)).2 rfl, t2.1, t2.2⟩, fun h => (hbl _ (hb _ h)).2 rfl⟩, by decide, ⟨⟨fun h => (hbl _ (hg _ h)).2 rfl, u2⟩, fun h => (hbl _ (hd _ h)).2 rfl⟩⟩
  have hm : ∃ q, mid (f ++ (c :: r) ++ b ++ 61 :: (g ++ v ++ d)) = c :: q := by
    rw [mid_eq, List.append_assoc, List.append_assoc, dw_app _ hf, List.cons_append, dw_head _ hc]
    exact rt_head _ hc
  obtain ⟨q, hm⟩ := hm
  have e1 : ahead (f ++ (c :: r) ++ b ++ 61 :: (g ++ v ++ d)) = f ++ (c :: r) ++ b := ahead_of ha61
  have e2 : behind (f ++ (c :: r) ++ b ++ 61 :: (g ++ v ++ d)) = g ++ v ++ d := behind_of ha61
  unfold rowI
  rw [if_neg (by simpa using h13)]
  dsimp only
  rw [hm]
  dsimp only
  rw [if_neg (by simp [n1, n2]), if_neg n3]
  unfold keyR
  dsimp only
  rw [e1, e2, mid_of hf hb t1, mid_of hg hd u1, if_pos ⟨by simp, hk, hv⟩]
  exact ⟨_, rfl⟩
theorem sec_line {s E : Bs} (h : sB s = true) : rowI ([91] ++ s ++ [93], E) = ⟨([91] ++ s ++ [93], E), 2, s, [], 0⟩ := by
  have h0 := h
  simp only [sB, Bool.and_eq_true, Bool.not_eq_true'] at h
  obtain ⟨⟨_, h2⟩, _⟩ := h
  obtain ⟨_, u2, _, _⟩ := vB_trm h2
  have h13 : (13 : UInt8) ∉ [91] ++ s ++ [93] := by
    simp only [List.mem_append, List.mem_singleton, not_or]
    exact ⟨⟨by decide, u2⟩, by decide⟩
  have hm : mid ([91] ++ s ++ [93]) = 91 :: (s ++ [93]) := by
    have h3 := mid_of (f := []) (m := [91] ++ s ++ [93]) (b := []) (fun _ h => by cases h) (fun _ h => by cases h) ⟨fun c r e => by injection e with e _; rw [← e]; decide, fun c r e => by
      have e2 := (List.append_inj' e rfl).2
      injection e2 with e2 _
      rw [← e2]; decide⟩
    simpa using h3
  unfold rowI
  rw [if_neg (by simpa using h13)]
  dsimp only
  rw [hm]
  dsimp only
  rw [if_neg (by decide), if_pos rfl, headR, if_pos (by simp [h0])]
  simp
end Go.Proofs.YtapgaglkkgbgkaaGreatDoor.In
namespace Go.Proofs.YtapgaglkkgbgkaaGreatDoor.In
open Go.RowKit Go.Proofs.YtapgaglkkgbgkaaGreatDoor.Li Go.Proofs.YtapgaglkkgbgkaaGreatDoor.Cv Go.Proofs.YtapgaglkkgbgkaaGreatDoor.Pt
set_option maxRecDepth 100000

def keyV (r : Ro) : Option (Bs × Bs) := if r.kind = 3 then some (r.name, r.val) else none
def absR (rs : List Ro) : List (Bs × Bs) := rs.filterMap keyV
abbrev Sa := List (Bs × List (Bs × Bs))
def absP (ps : List Pt) : Sa := ps.map fun p => (p.name, absR p.rows)
def lastS (S : Sa) : Bs × List (Bs × Bs) := S.getLast?.getD ([], [])
def stS (S : Sa) (r : Ro) : Option Sa :=
  if r.kind = 1 then some S else
  if r.kind = 2 then (if r.name ∈ S.map (·.1) then none else some (S ++ [(r.name, [])])) else
  if r.kind = 3 then (if S.length = 1 ∨ r.name ∈ (lastS S).2.map (·.1) then none else some (S.dropLast ++ [((lastS S).1, (lastS S).2 ++ [(r.name, r.val)])])) else none
def runS : Sa → List Ro → Option Sa
  | S, [] => some S
  | S, r :: rs => (stS S r).bind fun S' => runS S' rs
theorem run_app : ∀ (a b : List Ro) (S : Sa), runS S (a ++ b) = (runS S a).bind fun S' => runS S' b
  | [], _, _ => rfl
  | r :: a, b, S => by
    rw [List.cons_append, runS, runS]
    cases stS S r with
    | none => rfl
    | some S' => exact run_app a b S'
theorem absR_app (a b : List Ro) : absR (a ++ b) = absR a ++ absR b := List.filterMap_append
theorem lastS_app (S : Sa) (e : Bs × List (Bs × Bs)) : lastS (S ++ [e]) = e := by rw [lastS, List.getLast?_concat]; rfl
theorem run_rem : ∀ (rs : List Ro) (S : Sa), (∀ r ∈ rs, r.kind = 1) → runS S rs = some S
  | [], _, _ => rfl
  | r :: rs, S, h => by
    rw [runS, stS, if_pos (h r (by simp))]
    exact run_rem rs S fun x hx => h x (by simp [hx])
theorem run_tail {S : Sa} {q : Bs} (hS : S ≠ []) : ∀ (rs : List Ro) (ks : List (Bs × Bs)), (∀ r ∈ rs, r.kind = 1 ∨ r.kind = 3) → ((ks ++ absR rs).map (·.1)).Nodup → runS (S ++ [(q, ks)]) rs = some (S ++ [(q, ks ++ absR rs)])
  | [], ks, _, _ => by rw [runS, absR, List.filterMap_nil, List.append_nil]
  | r :: rs, ks, h, hn => by
    rw [runS]
    rcases h r (by simp) with hk | hk
    · have e : absR (r :: rs) = absR rs := by rw [absR, List.filterMap_cons, keyV, if_neg (by omega)]; rfl
      rw [stS, if_pos hk, e]
      rw [e] at hn
      exact run_tail hS rs ks (fun x hx => h x (by simp [hx])) hn
    · have e : absR (r :: rs) = (r.name, r.val) :: absR rs := by rw [absR, List.filterMap_cons, keyV, if_pos hk]; rfl
      rw [e] at hn
      have h2 : r.name ∉ ks.map (·.1) := by
        rw [List.map_append, List.map_cons, List.nodup_append] at hn
        intro hm
        exact hn.2.2 _ hm _ (by simp) rfl
      have hl : (S ++ [(q, ks)]).length ≠ 1 := by
        have : S.length ≠ 0 := fun e => hS (List.length_eq_zero_iff.1 e)
        rw [List.length_append, List.length_singleton]; omega
      rw [stS, if_neg (by omega), if_neg (by omega), if_pos hk, lastS_app, List.dropLast_concat, if_neg (fun h' => h'.elim hl h2), Option.bind_some, e]
      have := run_tail (q := q) hS rs (ks ++ [(r.name, r.val)]) (fun x hx => h x (by simp [hx])) (by simpa using hn)
      rw [this]
      simp
theorem run_sec {S : Sa} {h : Ro} {rs : List Ro} (hS : S ≠ []) (hk : h.kind = 2) (hq : h.name ∉ S.map (·.1)) (hr : ∀ r ∈ rs, r.kind = 1 ∨ r.kind = 3) (hn : ((absR rs).map (·.1)).Nodup) : runS S (h :: rs) = some (S ++ [(h.name, absR rs)]) := by
  rw [runS, stS, if_neg (by omega), if_pos hk, if_neg hq, Option.bind_some, run_tail hS rs [] hr (by simpa using hn)]
  rfl
theorem any_names (ps : List Pt) (q : Bs) : (ps.any fun p => p.name == q) = true ↔ q ∈ (absP ps).map (·.1) := by
  rw [List.any_eq_true, absP, List.map_map, List.mem_map]
  constructor
  · rintro ⟨p, hp, e⟩; exact ⟨p, hp, by simpa using e⟩
  · rintro ⟨p, hp, e⟩; exact ⟨p, hp, by simpa using e⟩
theorem mem_absR {rs : List Ro} {n v : Bs} : (n, v) ∈ absR rs ↔ ∃ r ∈ rs, r.kind = 3 ∧ r.name = n ∧ r.val = v := by
  rw [absR, List.mem_filterMap]
  constructor
  · rintro ⟨r, hr, e⟩
    unfold keyV at e
    split at e
    · rename_i hk
      injection e with e
      injection e with e1 e2
      exact ⟨r, hr, hk, e1, e2⟩
    · cases e
  · rintro ⟨r, hr, hk, rfl, rfl⟩
    exact ⟨r, hr, by rw [keyV, if_pos hk]⟩
theorem any_keys (rs : List Ro) (q : Bs) : (rs.any fun x => x.kind == 3 && x.name == q) = true ↔ q ∈ (absR rs).map (·.1) := by
  rw [List.any_eq_true, List.mem_map]
  constructor
  · rintro ⟨r, hr, e⟩
    rw [Bool.and_eq_true, beq_iff_eq, beq_iff_eq] at e
    exact ⟨(r.name, r.val), mem_absR.2 ⟨r, hr, e.1, rfl, rfl⟩, e.2⟩
  · rintro ⟨⟨n, v⟩, hm, rfl⟩
    obtain ⟨r, hr, h1, h2, _⟩ := mem_absR.1 hm
    exact ⟨r, hr, by rw [Bool.and_eq_true, beq_iff_eq, beq_iff_eq]; exact ⟨h1, h2⟩⟩
theorem lastP_app (ps : List Pt) (p : Pt) : lastP (ps ++ [p]) = p := by rw [lastP, List.getLast?_concat]; rfl
theorem absP_app (a b : List Pt) : absP (a ++ b) = absP a ++ absP b := List.map_append
theorem absP_len (a : List Pt) : (absP a).length = a.length := List.length_map _
theorem st_abs {ps : List Pt} (h : ps ≠ []) {r : Ro} (hk : r.kind ≤ 3) : stS (absP ps) r = if faultI ps r ≠ 0 then none else some (absP (addI ps r)) := by
  rcases List.eq_nil_or_concat ps with rfl | ⟨is, p, e⟩
  · exact absurd rfl h
  · rw [List.concat_eq_append] at e
    subst e
    have hab : absP (is ++ [p]) = absP is ++ [(p.name, absR p.rows)] := absP_app is [p]
    have hc : r.kind = 0 ∨ r.kind = 1 ∨ r.kind = 2 ∨ r.kind = 3 := by omega
    rcases hc with hk | hk | hk | hk
    · have hf : faultI (is ++ [p]) r = 6 := by rw [faultI, if_pos (.inl hk)]
      rw [stS, if_neg (by omega), if_neg (by omega), if_neg (by omega), hf, if_pos (by decide)]
    · have hf : faultI (is ++ [p]) r = 0 := by
        rw [faultI, if_neg (by rintro (h | ⟨h, _⟩) <;> omega), if_neg (by rintro ⟨h, _⟩; omega), if_neg (by rintro ⟨h, _⟩; omega)]
      have e1 : absR [r] = [] := by rw [absR, List.filterMap_cons, keyV, if_neg (by omega)]; rfl
      rw [stS, if_pos hk, hf, if_neg (by simp), addI, if_neg (by omega), lastP_app, List.dropLast_concat, hab, absP_app]
      simp [absP, absR_app, e1]
    · by_cases hm : r.name ∈ (absP (is ++ [p])).map (·.1)
      · have hf : faultI (is ++ [p]) r = 7 := by
          rw [faultI, if_neg (by rintro (h | ⟨h, _⟩) <;> omega), if_pos ⟨hk, (any_names _ _).2 hm⟩]
        rw [stS, if_neg (by omega), if_pos hk, if_pos hm, hf, if_pos (by decide)]
      · have hf : faultI (is ++ [p]) r = 0 := by
          rw [faultI, if_neg (by rintro (h | ⟨h, _⟩) <;> omega), if_neg (fun h => hm ((any_names _ _).1 h.2)), if_neg (by rintro ⟨h, _⟩; omega)]
        have e1 : absR [r] = [] := by rw [absR, List.filterMap_cons, keyV, if_neg (by omega)]; rfl
        rw [stS, if_neg (by omega), if_pos hk, if_neg hm, hf, if_neg (by simp), addI, if_pos hk, absP_app (is ++ [p])]
        simp [absP, e1]
    · by_cases hl : (is ++ [p]).length = 1
      · have hf : faultI (is ++ [p]) r = 6 := by rw [faultI, if_pos (.inr ⟨hk, hl⟩)]
        rw [stS, if_neg (by omega), if_neg (by omega), if_pos hk, absP_len, hf, if_pos (.inl hl), if_pos (by decide)]
      · by_cases hm : r.name ∈ (absR p.rows).map (·.1)
        · have hf : faultI (is ++ [p]) r = 7 := by
            rw [faultI, if_neg (fun h => h.elim (by omega) fun h => hl h.2), if_neg (by rintro ⟨h, _⟩; omega), lastP_app, if_pos ⟨hk, (any_keys _ _).2 hm⟩]
          rw [stS, if_neg (by omega), if_neg (by omega), if_pos hk, absP_len, hf, hab, lastS_app, if_pos (.inr hm), if_pos (by decide)]
        · have hf : faultI (is ++ [p]) r = 0 := by
            rw [faultI, if_neg (fun h => h.elim (by omega) fun h => hl h.2), if_neg (by rintro ⟨h, _⟩; omega), lastP_app, if_neg (fun h => hm ((any_keys _ _).1 h.2))]
          have e1 : absR [r] = [(r.name, r.val)] := by rw [absR, List.filterMap_cons, keyV, if_pos hk]; rfl
          rw [stS, if_neg (by omega), if_neg (by omega), if_pos hk, absP_len, hf, hab, lastS_app, if_neg (fun h => h.elim hl hm), if_neg (by simp), addI, if_neg (by omega), lastP_app, List.dropLast_concat, List.dropLast_concat, absP_app]
          simp [absP, absR_app, e1]
theorem row_kind (x : Ln) : (rowI x).kind ≤ 3 ∧ ((rowI x).kind ≠ 0 → (rowI x).ln = x) := by
  have hno : no.kind ≤ 3 ∧ (no.kind ≠ 0 → no.ln = x) := ⟨by decide, fun h => absurd rfl h⟩
  unfold rowI
  split
  · exact hno
  · split
    · exact ⟨by dsimp only; omega, fun _ => rfl⟩
    · split
      · exact ⟨by dsimp only; omega, fun _ => rfl⟩
      · split
        · unfold headR
          split
          · exact ⟨by dsimp only; omega, fun _ => rfl⟩
          · exact hno
        · unfold keyR
          split
          · exact ⟨by dsimp only; omega, fun _ => rfl⟩
          · exact hno
theorem add_ne {ps : List Pt} {r : Ro} : addI ps r ≠ [] := by
  unfold addI
  split <;> simp
theorem parts_run : ∀ (ls : List Ln) (ps : List Pt) (i : Nat), ps ≠ [] → ∀ S, runS (absP ps) (ls.map rowI) = some S → (partsI ps i ls).2 = (0, 0) ∧ absP (partsI ps i ls).1 = S
  | [], ps, i, _, S, h => by
    rw [List.map_nil, runS] at h
    injection h with h
    exact ⟨rfl, h⟩
  | x :: ls, ps, i, hp, S, h => by
    rw [List.map_cons, runS, st_abs hp (row_kind x).1] at h
    rw [partsI]
    by_cases hf : faultI ps (rowI x) ≠ 0
    · rw [if_pos hf] at h; cases h
    · rw [if_neg hf] at h ⊢
      exact parts_run ls _ _ add_ne S h
theorem run_parts_of : ∀ (ls : List Ln) (ps : List Pt) (i : Nat), ps ≠ [] → (partsI ps i ls).2.2 = 0 → runS (absP ps) (ls.map rowI) = some (absP (partsI ps i ls).1)
  | [], _, _, _, _ => rfl
  | x :: ls, ps, i, hp, h => by
    rw [List.map_cons, runS, st_abs hp (row_kind x).1]
    rw [partsI] at h ⊢
    by_cases hf : faultI ps (rowI x) ≠ 0
    · rw [if_pos hf] at h; exact absurd h hf
    · rw [if_neg hf] at h ⊢
      rw [if_neg hf]
      exact run_parts_of ls _ _ add_ne h
end Go.Proofs.YtapgaglkkgbgkaaGreatDoor.In
namespace Go.Proofs.YtapgaglkkgbgkaaGreatDoor.Cv
open Go.RowKit Go.Proofs.YtapgaglkkgbgkaaGreatDoor.Jd Go.Proofs.YtapgaglkkgbgkaaGreatDoor.Li
set_option maxRecDepth 100000

def rq : Bs → Bs
  | [] => []
  | c :: r => if c = 34 then 34 :: 34 :: rq r else c :: rq r
theorem rq_miss : ∀ s : Bs, Lib.index s [34] = -1 → rq s = s
  | [], _ => rfl
  | c :: r, h => by
    rw [Lib.index] at h
    split at h
    · exact absurd h (by decide)
    · rename_i hp
      have h2 : Lib.index r [34] = -1 := by
        split at h
        · rename_i e; exact beq_iff_eq.1 e
        · rename_i e
          have := Lib.index_ge r [34]
          have : Lib.index r [34] ≠ -1 := fun e2 => e (beq_iff_eq.2 e2)
          omega
      rw [rq, if_neg (fun e => hp (by rw [e]; rfl)), rq_miss r h2]
theorem rq_hit : ∀ (s : Bs) (i : Nat), Lib.index s [34] = i → rq s = s.take i ++ [34, 34] ++ rq (s.drop (i + 1))
  | [], i, h => by simp [Lib.index] at h
  | c :: r, i, h => by
    rw [Lib.index] at h
    split at h
    · rename_i hp
      have hp' : c = 34 := by
        have h1 : ((34 == c) && true) = true := by simpa [List.isPrefixOf] using hp
        rw [Bool.and_eq_true] at h1
        exact (beq_iff_eq.1 h1.1).symm
      obtain rfl : i = 0 := by omega
      rw [rq, if_pos hp']
      rfl
    · rename_i hp
      split at h
      · omega
      · rename_i e
        obtain ⟨j, rfl⟩ : ∃ j, i = j + 1 := by
          cases i with
          | zero => exact absurd h (by have := Lib.index_ge r [34]; have : Lib.index r [34] ≠ -1 := fun e2 => e (beq_iff_eq.2 e2); omega)
          | succ j => exact ⟨j, rfl⟩
        rw [rq, if_neg (fun e => hp (by rw [e]; rfl)), rq_hit r j (by omega)]
        rfl
theorem replaceK_rq : ∀ (n : Nat) (s : Bs), s.length ≤ n → Lib.replaceK [34] [34, 34] (Lib.count s [34]) s = rq s := by
  intro n
  induction n with
  | zero =>
    intro s h
    obtain rfl : s = [] := List.eq_nil_of_length_eq_zero (by omega)
    rw [Lib.count_miss (by rfl)]
    rfl
  | succ n ih =>
    intro s h
    by_cases hm : Lib.index s [34] = -1
    · rw [Lib.count_miss hm, rq_miss s hm]
      rfl
    · obtain ⟨i, hi⟩ : ∃ i : Nat, Lib.index s [34] = i := ⟨(Lib.index s [34]).toNat, by have := Lib.index_ge s [34]; omega⟩
      have hc := Lib.count_hit (sub := [34]) (by simp) hi
      rw [hc, Nat.add_comm, Lib.replaceK_hit _ _ _ _ _ hi, rq_hit s i hi]
      simp only [List.length_cons, List.length_nil, Nat.zero_add]
      have hs : s ≠ [] := fun e => hm (by rw [e]; rfl)
      have hl : 0 < s.length := List.length_pos_iff.2 hs
      rw [ih (s.drop (i + 1)) (by rw [List.length_drop]; omega)]
theorem replaceAll_rq (s : Bs) : Lib.replaceAll s [34] [34, 34] = rq s := by
  unfold Lib.replaceAll Lib.replace
  rw [if_neg (by decide), Lib.replaceNum, if_pos (.inl (by decide)), replaceK_rq _ s (Nat.le_refl _)]
def Wf (raw v : Bs) : Prop := oneF raw = some (v, raw.length)
theorem pln_take : ∀ (l : Bs) (n : Nat), pln l = some n → pln (l.take n) = some n
  | [], n, h => by injection h with h; subst h; rfl
  | c :: r, n, h => by
    rw [pln] at h
    split at h
    · injection h with h; subst h; rfl
    · rename_i hc
      split at h
      · cases h
      · rename_i hd
        cases hq : pln r with
        | none => rw [hq] at h; cases h
        | some p =>
          rw [hq] at h
          injection h with h
          subst h
          rw [List.take_succ_cons, pln, if_neg hc, if_neg hd, pln_take r p hq]
          rfl
theorem qin_take : ∀ (r v : Bs) (n : Nat), qin r = some (v, n) → qin (r.take n) = some (v, n)
  | [], _, _, h => by simp [qin] at h
  | [c], v, n, h => by
    rw [qin] at h
    split at h
    · rename_i hc
      injection h with h
      injection h with h1 h2
      subst h1; subst h2; subst hc
      rfl
    · cases h
  | c :: d :: r, v, n, h => by
    rw [qin] at h
    split at h
    · rename_i hc
      subst hc
      split at h
      · rename_i hd
        subst hd
        cases hq : qin r with
        | none => rw [hq] at h; cases h
        | some p =>
          rw [hq] at h
          injection h with h
          injection h with h1 h2
          subst h1; subst h2
          rw [List.take_succ_cons, List.take_succ_cons, qin, if_pos rfl, if_pos rfl, qin_take r p.1 p.2 hq]
          rfl
      · split at h
        · injection h with h
          injection h with h1 h2
          subst h1; subst h2
          rfl
        · cases h
    · rename_i hc
      cases hq : qin (d :: r) with
      | none => rw [hq] at h; cases h
      | some p =>
        rw [hq] at h
        injection h with h
        injection h with h1 h2
        subst h1; subst h2
        rw [List.take_succ_cons, qin_other hc, qin_take (d :: r) p.1 p.2 hq]
        rfl
theorem wf_take {l v : Bs} {n : Nat} (h : oneF l = some (v, n)) : Wf (l.take n) v := by
  have hn := (one_some h).1
  have hl := wid_le l false
  have hlen : (l.take n).length = n := by rw [List.length_take]; omega
  unfold Wf
  rw [hlen]
  cases l with
  | nil =>
    injection h with h
    injection h with h1 h2
    subst h1; subst h2
    rfl
  | cons c r =>
    rw [oneF] at h
    split at h
    · rename_i hc
      subst hc
      cases hq : qin r with
      | none => rw [hq] at h; cases h
      | some p =>
        rw [hq] at h
        injection h with h
        injection h with h1 h2
        subst h1; subst h2
        rw [List.take_succ_cons, oneF, if_pos rfl, qin_take r p.1 p.2 hq]
        rfl
    · rename_i hc
      cases hq : pln (c :: r) with
      | none => rw [hq] at h; cases h
      | some p =>
        rw [hq] at h
        injection h with h
        injection h with h1 h2
        subst h1; subst h2
        have ht := pln_take _ _ hq
        cases p with
        | zero => rfl
        | succ p =>
          rw [List.take_succ_cons] at ht ⊢
          rw [oneF, if_neg hc, ht]
          simp [List.take_take]
theorem pln_ext (x : Bs) : ∀ (l : Bs), pln l = some l.length → pln (l ++ 44 :: x) = some l.length
  | [], _ => by rw [List.nil_append, pln, if_pos rfl]; rfl
  | c :: r, h => by
    rw [pln] at h
    split at h
    · injection h with h; simp at h
    · rename_i hc
      split at h
      · cases h
      · rename_i hd
        cases hq : pln r with
        | none => rw [hq] at h; cases h
        | some p =>
          rw [hq] at h
          injection h with h
          have hp : p = r.length := by simpa using h
          rw [List.cons_append, pln, if_neg hc, if_neg hd, pln_ext x r (by rw [hq, hp])]
          rfl
theorem qin_ext (x : Bs) : ∀ (r v : Bs), qin r = some (v, r.length) → qin (r ++ 44 :: x) = some (v, r.length)
  | [], _, h => by simp [qin] at h
  | [c], v, h => by
    rw [qin] at h
    split at h
    · rename_i hc
      injection h with h
      injection h with h1 h2
      subst h1; subst hc
      show qin (34 :: 44 :: x) = _
      rw [qin, if_pos rfl, if_neg (by decide), if_pos rfl]
      rfl
    · cases h
  | c :: d :: r, v, h => by
    rw [qin] at h
    split at h
    · rename_i hc
      subst hc
      split at h
      · rename_i hd
        subst hd
        cases hq : qin r with
        | none => rw [hq] at h; cases h
        | some p =>
          rw [hq] at h
          injection h with h
          injection h with h1 h2
          have hp : p.2 = r.length := by simpa using h2
          subst h1
          have e := qin_ext x r p.1 (by rw [hq, ← hp])
          show qin (34 :: 34 :: (r ++ 44 :: x)) = _
          rw [qin, if_pos rfl, if_pos rfl, e]
          rfl
      · split at h
        · injection h with h
          injection h with h1 h2
          simp at h2
        · cases h
    · rename_i hc
      cases hq : qin (d :: r) with
      | none => rw [hq] at h; cases h
      | some p =>
        rw [hq] at h
        injection h with h
        injection h with h1 h2
        have hp : p.2 = (d :: r).length := by simpa using h2
        subst h1
        have e := qin_ext x (d :: r) p.1 (by rw [hq, ← hp])
        rw [List.cons_append, qin_other hc, e]
        rfl
theorem wf_ext {raw v : Bs} (h : Wf raw v) (x : Bs) : oneF (raw ++ 44 :: x) = some (v, raw.length) := by
  unfold Wf at h
  cases raw with
  | nil =>
    injection h with h
    injection h with h1 h2
    subst h1
    rw [List.nil_append, oneF, if_neg (by decide), pln, if_pos rfl]
    rfl
  | cons c r =>
    rw [oneF] at h
    split at h
    · rename_i hc
      subst hc
      cases hq : qin r with
      | none => rw [hq] at h; cases h
      | some p =>
        rw [hq] at h
        injection h with h
        injection h with h1 h2
        have hp : p.2 = r.length := by simpa using h2
        subst h1
        have e := qin_ext x r p.1 (by rw [hq, ← hp])
        rw [List.cons_append, oneF, if_pos rfl, e]
        rfl
    · rename_i hc
      cases hq : pln (c :: r) with
      | none => rw [hq] at h; cases h
      | some p =>
        rw [hq] at h
        injection h with h
        injection h with h1 h2
        subst h2
        have e := pln_ext x (c :: r) hq
        subst h1
        rw [List.cons_append] at e ⊢
        rw [oneF, if_neg hc, e]
        simp
theorem qin_rq : ∀ m : Bs, qin (rq m ++ [34]) = some (m, (rq m).length + 1)
  | [] => rfl
  | c :: r => by
    rw [rq]
    by_cases hc : c = 34
    · rw [if_pos hc]
      subst hc
      show qin (34 :: 34 :: (rq r ++ [34])) = _
      rw [qin, if_pos rfl, if_pos rfl, qin_rq r]
      rfl
    · rw [if_neg hc, List.cons_append, qin_other hc, qin_rq r]
      rfl
theorem pln_free : ∀ m : Bs, (m.any fun x => ([34, 44] : List UInt8).contains x) = false → pln m = some m.length
  | [], _ => rfl
  | c :: r, h => by
    rw [List.any_cons, Bool.or_eq_false_iff] at h
    have h1 : c ≠ 44 := fun e => by rw [e] at h; exact absurd h.1 (by decide)
    have h2 : c ≠ 34 := fun e => by rw [e] at h; exact absurd h.1 (by decide)
    rw [pln, if_neg h1, if_neg h2, pln_free r h.2]
    rfl
theorem wf_q (m : Bs) : Wf (qF m) m := by
  unfold qF
  by_cases h : Lib.containsAny m [34, 44] = true
  · rw [if_pos h, replaceAll_rq]
    unfold Wf
    show oneF (34 :: (rq m ++ [34])) = _
    rw [oneF, if_pos rfl, qin_rq m]
    simp
  · rw [if_neg h]
    have h2 : (m.any fun x => ([34, 44] : List UInt8).contains x) = false := by rw [← any_mem]; simpa using h
    have hp := pln_free m h2
    unfold Wf
    cases m with
    | nil => rfl
    | cons c r =>
      have hc : c ≠ 34 := fun e => by rw [List.any_cons, e] at h2; exact absurd h2 (by simp)
      rw [oneF, if_neg hc, hp]
      simp
theorem fldsR_join : ∀ (fs : List Ln), fs ≠ [] → (∀ x ∈ fs, Wf x.1 x.2) → ∀ F, (Lib.join (fs.map (·.1)) [44]).length < F → fldsR F (Lib.join (fs.map (·.1)) [44]) = some fs
  | [], h, _, _, _ => absurd rfl h
  | [x], _, hw, F, hF => by
    have hx := hw x (by simp)
    rw [List.map_cons, List.map_nil, Lib.join_one] at hF ⊢
    obtain ⟨G, rfl⟩ : ∃ G, F = G + 1 := ⟨F - 1, by omega⟩
    rw [fldsR, hx]
    dsimp only
    rw [if_pos (Nat.le_refl _), List.take_of_length_le (Nat.le_refl _)]
  | x :: y :: r, _, hw, F, hF => by
    have hx := hw x (by simp)
    have ej : Lib.join ((x :: y :: r).map (·.1)) [44] = x.1 ++ 44 :: Lib.join ((y :: r).map (·.1)) [44] := by
      simp [Lib.join, List.intercalate]
    rw [ej] at hF ⊢
    obtain ⟨G, rfl⟩ : ∃ G, F = G + 1 := ⟨F - 1, by omega⟩
    rw [fldsR, wf_ext hx]
    dsimp only
    simp only [List.length_append, List.length_cons] at hF
    rw [if_neg (by rw [List.length_append, List.length_cons]; omega)]
    have e1 : (x.1 ++ 44 :: Lib.join ((y :: r).map (·.1)) [44]).take x.1.length = x.1 := by simp
    have e2 : (x.1 ++ 44 :: Lib.join ((y :: r).map (·.1)) [44]).drop (x.1.length + 1) = Lib.join ((y :: r).map (·.1)) [44] := by
      rw [← List.drop_drop, List.drop_left]
      rfl
    rw [e1, e2, fldsR_join (y :: r) (by simp) (fun z hz => hw z (by simp [hz])) G (by omega)]
    rfl
theorem flds_wf : ∀ (F : Nat) (l : Bs) (fs : List Ln), fldsR F l = some fs → ∀ x ∈ fs, Wf x.1 x.2
  | 0, _, _, h, _, _ => by cases h
  | F + 1, l, fs, h, x, hx => by
    rw [fldsR] at h
    cases ho : oneF l with
    | none => rw [ho] at h; cases h
    | some p =>
      obtain ⟨v, n⟩ := p
      rw [ho] at h
      dsimp only at h
      split at h
      · injection h with h
        subst h
        obtain rfl := List.mem_singleton.1 hx
        exact wf_take ho
      · cases hq : fldsR F (l.drop (n + 1)) with
        | none => rw [hq] at h; cases h
        | some q =>
          rw [hq] at h
          injection h with h
          subst h
          rcases List.mem_cons.1 hx with rfl | hx
          · exact wf_take ho
          · exact flds_wf F _ q hq x hx
theorem qin_bytes : ∀ (r v : Bs), qin r = some (v, r.length) → ∀ b ∈ r, b = 34 ∨ b ∈ v
  | [], _, h, _, _ => by simp [qin] at h
  | [c], v, h, b, hb => by
    rw [qin] at h
    split at h
    · rename_i hc
      left
      rw [List.mem_singleton.1 hb, hc]
    · cases h
  | c :: d :: r, v, h, b, hb => by
    rw [qin] at h
    split at h
    · rename_i hc
      subst hc
      split at h
      · rename_i hd
        subst hd
        cases hq : qin r with
        | none => rw [hq] at h; cases h
        | some p =>
          rw [hq] at h
          injection h with h
          injection h with h1 h2
          have hp : p.2 = r.length := by simpa using h2
          subst h1
          rcases List.mem_cons.1 hb with e | hb
          · exact .inl e
          · rcases List.mem_cons.1 hb with e | hb
            · exact .inl e
            · exact (qin_bytes r p.1 (by rw [hq, ← hp]) b hb).imp id (List.mem_cons_of_mem _)
      · split at h
        · injection h with h
          injection h with h1 h2
          simp at h2
        · cases h
    · cases hq : qin (d :: r) with
      | none => rw [hq] at h; cases h
      | some p =>
        rw [hq] at h
        injection h with h
        injection h with h1 h2
        have hp : p.2 = (d :: r).length := by simpa using h2
        subst h1
        rcases List.mem_cons.1 hb with e | hb
        · exact .inr (by rw [e]; exact List.mem_cons_self ..)
        · exact (qin_bytes (d :: r) p.1 (by rw [hq, ← hp]) b hb).imp id (List.mem_cons_of_mem _)
theorem wf_bytes {raw v : Bs} (h : Wf raw v) : ∀ b ∈ raw, b = 34 ∨ b ∈ v := by
  unfold Wf at h
  intro b hb
  cases raw with
  | nil => cases hb
  | cons c r =>
    rw [oneF] at h
    split at h
    · rename_i hc
      subst hc
      cases hq : qin r with
      | none => rw [hq] at h; cases h
      | some p =>
        rw [hq] at h
        injection h with h
        injection h with h1 h2
        have hp : p.2 = r.length := by simpa using h2
        subst h1
        rcases List.mem_cons.1 hb with e | hb
        · exact .inl e
        · exact qin_bytes r p.1 (by rw [hq, ← hp]) b hb
    · cases hq : pln (c :: r) with
      | none => rw [hq] at h; cases h
      | some p =>
        rw [hq] at h
        injection h with h
        injection h with h1 h2
        subst h2
        subst h1
        exact .inr (by simpa using hb)
theorem join_bytes : ∀ (fs : List Bs) (b : UInt8), b ∈ Lib.join fs [44] → b = 44 ∨ ∃ x ∈ fs, b ∈ x
  | [], b, h => by simp [Lib.join, List.intercalate] at h
  | [x], b, h => by rw [Lib.join_one] at h; exact .inr ⟨x, by simp, h⟩
  | x :: y :: r, b, h => by
    have ej : Lib.join (x :: y :: r) [44] = x ++ 44 :: Lib.join (y :: r) [44] := by simp [Lib.join, List.intercalate]
    rw [ej] at h
    rcases List.mem_append.1 h with h | h
    · exact .inr ⟨x, by simp, h⟩
    · rcases List.mem_cons.1 h with h | h
      · exact .inl h
      · exact (join_bytes (y :: r) b h).imp id (fun ⟨z, hz, hb⟩ => ⟨z, by simp [hz], hb⟩)
end Go.Proofs.YtapgaglkkgbgkaaGreatDoor.Cv
namespace Go.Proofs.YtapgaglkkgbgkaaGreatDoor.Pt
open Go.RowKit Go.Proofs.YtapgaglkkgbgkaaGreatDoor.Jd Go.Proofs.YtapgaglkkgbgkaaGreatDoor.Cl
set_option maxRecDepth 100000

def GetP (w : World) (r : Tr × Bool) (e : Ending) (w' : World) : Prop :=
  ∃ A' n' c', e = .returned (.tuple #[.slice A' n' c', .bool r.2]) ∧ n' ≤ c' ∧ c' ≤ maxLen ∧ Holds w' w'.heap.size A' n' r.1 ∧ Below w.heap.size w w'

theorem kid_drop {name : ByteArray} : ∀ {t : Tr}, t.atIs name = true → ∃ r, t.dropT (t.atN name) = .cons name (kidT t name) r
  | .nil, h => by simp [Tr.atIs, Tr.atN, dropT_zero, Tr.headIs] at h
  | .cons s k r, h => by
    rcases cases3 s name with c1 | ⟨c1, c2⟩ | ⟨c1, c2, _⟩
    · rw [atIs_lt c1] at h
      obtain ⟨r', h2⟩ := kid_drop h
      rw [atN_lt c1, kidT_lt c1]
      exact ⟨r', h2⟩
    · have e := names_of_eq c2
      subst e
      rw [atN_ge c1, kidT_eq c1 c2]
      exact ⟨r, by rw [dropT_zero]⟩
    · rw [atIs_ge c1, c2] at h; cases h
theorem drop_lt {t : Tr} {i : Nat} {s : ByteArray} {k r : Tr} (h : t.dropT i = .cons s k r) : i < t.len := by
  rcases Nat.lt_or_ge i t.len with g | g
  · exact g
  · rw [drop_len t i g] at h; cases h

set_option maxHeartbeats 2000000 in
theorem get_any (t : Tr) (ps : List ByteArray) (A Ap : Option Addr) (n c np cp : Nat) (w : World) (ht : Holds w w.heap.size A n t) (hp : SeesV w w.heap.size Ap np (ps.map Value.string)) (ha : AscD t) (hz : t.size ≤ 274877906944) (hps : ps.length ≤ 1000000) :
    Calls Tryz.prog 80 #[.slice A n c, .slice Ap np cp] w (GetP w (getT t ps)) := by
  have hnp : np ≤ 1000000 := by have := hp.len; rw [List.length_map] at this; omega
  have Hnp := Lib.hid (show np = ps.length by have := hp.len; rwa [List.length_map] at this)
  obtain ⟨T, hT⟩ : ∃ T, T = getT t ps := ⟨_, rfl⟩
  rw [← hT]
  have HI0 := Lib.hid (show Holds w w.heap.size A n t ∧ AscD t ∧ t.size ≤ 274877906944 ∧ getT t ps = T from ⟨ht, ha, hz, hT.symm⟩)
  clear ht hT ha hz
  go_enter Tryz.func80, Tryz.ntmps80
  go_wp2_with fail
  go_loopw [0, 12] (fun a i wr => ∃ (k : Nat) (Au : Option Addr) (nu cu : Nat) (u : Tr), k ≤ np ∧ a = .slice Au nu cu ∧ i = .int .i64 k ∧ Hid (Holds wr w.heap.size Au nu u ∧ AscD u ∧ u.size ≤ 274877906944 ∧ getT u (ps.drop k) = T) ∧ Below w.heap.size w wr) (fun _ i _ => np - (intOf i).toNat)
  case atStart => exact ⟨0, A, n, c, t, Nat.zero_le _, rfl, rfl, by rw [List.drop_zero]; exact HI0, Below.refl _ _⟩
  case round =>
    obtain ⟨k, Au, nu, cu, u, hk, rfl, rfl, HI, hbw⟩ := hrel
    have hsz := hbw.size
    by_cases hlt : k < np
    · obtain ⟨bp, op, rfl, hbp, hcp⟩ := hp.str hlt
      obtain ⟨name, hname⟩ : ∃ s, s = ps.getD k ⟨#[]⟩ := ⟨_, rfl⟩
      rw [← hname] at hcp
      have hdrop : ps.drop k = name :: ps.drop (k + 1) := by
        have hl : k < ps.length := by rw [← Hnp.out]; exact hlt
        rw [List.drop_eq_getElem_cons hl, hname, List.getD_eq_getElem?_getD, List.getElem?_eq_getElem hl]
        rfl
      have hcpw := (hbw.cell (p := ⟨bp, op + k, none⟩) hbp).trans hcp
      have hkn : (k : Int) < (np : Int) := by omega
      have hk0 : (0 : Int) ≤ (k : Int) := by omega
      have hul := HI.out.1.len
      have hus := u.len_size
      have hus2 := HI.out.2.2.1
      have hnu : nu ≤ 274877906944 := by omega
      have HF := Lib.hid (find_any u HI.out.2.1.asc Au nu cu w.heap.size name wr HI.out.1 hsz (by omega))
      have hle := atN_le name u
      obtain ⟨i, hi⟩ : ∃ i, i = u.atN name := ⟨_, rfl⟩
      obtain ⟨v, hv⟩ : ∃ v, v = u.atIs name := ⟨_, rfl⟩
      rw [← hi] at HF hle
      rw [← hv] at HF
      have hin : i ≤ nu := by omega
      have Hi := Lib.hid hi
      have Hdrop := Lib.hid hdrop
      have Hlt := Lib.hid hlt
      clear hname hdrop hcp hi hlt hle
      cases v with
      | true =>
        obtain ⟨r, hdr⟩ := kid_drop hv.symm
        rw [← Hi.out] at hdr
        have hilt := drop_lt hdr
        have hin2 : (i : Int) < (nu : Int) := by omega
        have hi0 : (0 : Int) ≤ (i : Int) := by omega
        have hin3 : i < nu := by omega
        have heq : getT (kidT u name) (ps.drop (k + 1)) = T := by
          have := HI.out.2.2.2
          rw [Hdrop.out, getT, if_pos hv.symm] at this
          exact this
        have Heq := Lib.hid heq
        have Hdr := Lib.hid hdr
        clear hv hdr hilt hul hus hus2 heq
        go_wp2_with fail
        refine HF.out.mono ?_
        rintro e w2 ⟨rfl, hb2⟩
        obtain ⟨b, o, s, kt, r', A', n', c', e, hb, hs, hcl, hn', hc', hk', hr, hd, hd2⟩ := (HI.out.1.below hb2).split i hin3
        subst e
        have hd := hd
        rw [Hdr.out] at hd
        injection hd with hd1 hd2 hd3
        subst hd1; subst hd2
        have hkid := Lib.hid (show Holds w2 w.heap.size A' n' (kidT u name) ∧ AscD (kidT u name) ∧ (kidT u name).size ≤ 274877906944 ∧ getT (kidT u name) (ps.drop (k + 1)) = T from ⟨hk', kidT_asc HI.out.2.1, Nat.le_trans (kidT_size u name) HI.out.2.2.1, Heq.out⟩)
        clear hk' hr hd3 hs
        go_wp2_with fail
        go_roundw
        case rel => exact ⟨k + 1, A', n', c', _, Hlt.out, rfl, by go_num, hkid, hbw.trans hb2⟩
        case measure => have := Hlt.out; simp [intOf]; omega
      | false =>
        have heq : (Tr.nil, false) = T := by
          have := HI.out.2.2.2
          rw [Hdrop.out, getT, if_neg (by rw [← hv]; simp)] at this
          exact this
        have Heq := Lib.hid heq
        clear hv hul hus hus2 heq
        go_wp2_with fail
        refine HF.out.mono ?_
        rintro e w2 ⟨rfl, hb2⟩
        go_wp2_with fail
        go_ret2
        exact ⟨none, 0, 0, by rw [← Heq.out]; rfl, Nat.le_refl _, Nat.zero_le _, by rw [← Heq.out]; rfl, hbw.trans hb2⟩
    · obtain rfl : k = np := by omega
      have hnil : ps.drop k = [] := List.drop_eq_nil_of_le (by rw [Hnp.out]; exact Nat.le_refl _)
      have heq : (u, true) = T := by
        have := HI.out.2.2.2
        rw [hnil, getT] at this
        exact this
      have HX := Lib.hid (clone_any u Au nu cu wr (HI.out.1.more hsz) (by have := HI.out.2.2.1; omega))
      have Heq := Lib.hid heq
      clear hnil hlt hp heq
      go_wp2_with fail
      (with_reducible refine HX.out.mono ?_)
      rintro e w5 ⟨A5, c5, rfl, hn5, hm5, ho5, hb5⟩
      go_wp2_with fail
      go_ret2
      exact ⟨A5, nu, c5, by rw [← Heq.out]; rfl, hn5, hm5, by rw [← Heq.out]; exact ho5, hbw.trans (hb5.mono hsz)⟩
end Go.Proofs.YtapgaglkkgbgkaaGreatDoor.Pt
