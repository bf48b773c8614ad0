/- csv: rows read one by one, as the document's words say it, are the rows read as the program reads them; so is the file. No conditions. · The reference's words of lines and of csv: has a text a 13; bare, plain texts; columns, values. Conditions: texts below 2^47 bytes. -/
import Derived.Test.YtlcbhooiinaalaaGreatDoorRcTree
import Derived.Test.YtlcbhooiinaalaaGreatDoorRcMath
import Derived.Deep.QuietTactic
import Derived.BigQuiet
import Derived.IntWalk
import Derived.Outline
namespace Go.Proofs.YtlcbhooiinaalaaGreatDoor.Cv
open Go.RowKit Go.Sort Go.Proofs.YtlcbhooiinaalaaGreatDoor.Jd Go.Proofs.YtlcbhooiinaalaaGreatDoor.Li Go.Proofs.YtlcbhooiinaalaaGreatDoor.Cl Go.Proofs.YtlcbhooiinaalaaGreatDoor.Pt
set_option maxRecDepth 100000

theorem any_mem (cs : List UInt8) : ∀ l : List UInt8, Lib.containsAny l cs = l.any (cs.contains ·)
  | [] => rfl
  | b :: l => by
    have ih := any_mem cs l
    have hg := Lib.indexAny_ge cs l
    unfold Lib.containsAny at ih ⊢
    rw [Lib.indexAny, List.any_cons]
    cases hb : cs.contains b with
    | true => rw [if_pos rfl]; rfl
    | false =>
      rw [if_neg (by decide), Bool.false_or, ← ih]
      by_cases hm : Lib.indexAny l cs = -1
      · rw [if_pos (beq_iff_eq.2 hm), hm]
      · rw [if_neg (fun e => hm (beq_iff_eq.1 e)), decide_eq_true (by omega), decide_eq_true (by omega)]
theorem vB_13 {z : ByteArray} (h : (13 : UInt8) ∈ z.data.toList) : vB z = false := by
  have e : Lib.containsAny z.data.toList [10, 13] = true := by
    rw [any_mem, List.any_eq_true]
    exact ⟨13, h, rfl⟩
  rw [vB, e]
  simp
theorem nB_13 {z : ByteArray} (h : (13 : UInt8) ∈ z.data.toList) : nB z = false := by rw [nB, vB_13 h, Bool.and_false]
theorem cB_13 {z : ByteArray} (h : (13 : UInt8) ∈ z.data.toList) : cB z = false := by rw [cB, nB_13 h, Bool.false_and]
/-- A line's fields; none: it is not of such. -/
def fieldsO (l : Bs) : Option (List Ln) := if l.contains 13 = true then none else fldsR (l.length + 1) l
theorem flds_ne : ∀ (F : Nat) (l : Bs) (r : List Ln), flds F l = some r → r ≠ []
  | 0, _, _, h => by cases h
  | F + 1, l, r, h => by
    rw [flds] at h
    split at h
    · cases h
    · split at h
      · injection h with h; subst h; simp
      · cases hq : flds F (l.drop (wid false l + 1)) with
        | none => rw [hq] at h; cases h
        | some q => rw [hq] at h; injection h with h; subst h; simp
/-- What is wrong with a record behind these. -/
def recR (h : List Ln) (T : Tr) (f : List Ln) : Int :=
  if f.length ≠ h.length then 6 else if nB ((mns f).headD ⟨#[]⟩) = false then 6 else if (mns f.tail).all vB = false then 6 else if T.atIs ((mns f).headD ⟨#[]⟩) = true then 7 else 0
/-- What is wrong with a line. -/
def faultR (out : List (List Ln)) (T : Tr) (l : Bs) : Int :=
  match fieldsO l with
  | none => 6
  | some f => match out with
    | [] => headF (mns f)
    | h :: _ => recR h T f
/-- The tree with one row more. -/
def addR (out : List (List Ln)) (T : Tr) (f : List Ln) : Tr :=
  match out with
  | [] => T
  | h :: _ => T.withT ((mns f).headD ⟨#[]⟩) (rowT (mns h.tail) (mns f.tail) .nil)
/-- All lines' fields, the tree, the line that does not fit, and why. -/
def rowsR : List (List Ln) → Tr → Nat → List Ln → List (List Ln) × Tr × Nat × Int
  | out, T, _, [] => (out, T, 0, 0)
  | out, T, i, x :: r => if faultR out T x.1 ≠ 0 then ([], .nil, i + 1, faultR out T x.1) else rowsR (out ++ [fldsL x.1]) (addR out T (fldsL x.1)) (i + 1) r
/-- What a file is loaded as. -/
def loadR (l : Bs) : Tr × Nat × Int :=
  if 4000 < l.length then (.nil, 0, 5) else if l.length = 0 then (.nil, 0, 2) else
  if (rowsR [] .nil 0 (split l)).2.2.2 ≠ 0 then (.nil, (rowsR [] .nil 0 (split l)).2.2.1, (rowsR [] .nil 0 (split l)).2.2.2) else
  if (rowsR [] .nil 0 (split l)).2.1.fault ≠ 0 then (.nil, 0, ((rowsR [] .nil 0 (split l)).2.1.fault : Nat)) else ((rowsR [] .nil 0 (split l)).2.1, 0, 0)
theorem fieldsO_some {l : Bs} {f : List Ln} (h : fieldsO l = some f) : fldsL l = f ∧ f ≠ [] := by
  unfold fieldsO at h
  split at h
  · cases h
  · rw [fldsR_eq] at h
    exact ⟨by rw [fldsL, h]; rfl, flds_ne _ _ _ h⟩
theorem all_false {f : ByteArray → Bool} {zs : List ByteArray} {z : ByteArray} (hz : z ∈ zs) (h : f z = false) : zs.all f = false := by
  rw [Bool.eq_false_iff]
  intro e
  have := List.all_eq_true.1 e z hz
  rw [h] at this
  cases this
theorem headF_13 {ms : List ByteArray} {z : ByteArray} (hz : z ∈ ms) (h : (13 : UInt8) ∈ z.data.toList) : headF ms = 6 := by
  cases ms with
  | nil => cases hz
  | cons m cols =>
    rw [headF]
    by_cases hm : (m.toList == [107, 101, 121]) = false
    · rw [if_pos hm]
    · rw [if_neg hm]
      rcases List.mem_cons.1 hz with e | e
      · exfalso
        subst e
        have hk : z.toList = [107, 101, 121] := by simpa using hm
        rw [ByteArray.toList_eq] at hk
        rw [hk] at h
        simp at h
      · rw [if_pos (all_false e (cB_13 h))]
theorem rowF_fs (x : Ln) : (rowF x).fs = fldsL x.1 := rfl
theorem fieldsO_none {l : Bs} (h : fieldsO l = none) : fldsL l = [] ∨ ∃ z ∈ mns (fldsL l), (13 : UInt8) ∈ z.data.toList := by
  unfold fieldsO at h
  split at h
  · rename_i h13
    cases hf : fldsR (l.length + 1) l with
    | none => left; rw [fldsL, ← fldsR_eq, hf]; rfl
    | some f =>
      right
      obtain ⟨x, hx, hx2⟩ := flds_13 _ _ _ hf (by simpa using h13)
      refine ⟨⟨x.2.toArray⟩, ?_, by simpa using hx2⟩
      have e : fldsL l = f := by rw [fldsL, ← fldsR_eq, hf]; rfl
      rw [e]
      exact List.mem_map_of_mem (f := fun x : Ln => (⟨x.2.toArray⟩ : ByteArray)) hx
  · left; rw [fldsL, ← fldsR_eq, h]; rfl
theorem nm_ok {ms : List ByteArray} (h : nB (ms.headD ⟨#[]⟩) ≠ false) : ms.all vB = ms.tail.all vB := by
  cases ms with
  | nil => rfl
  | cons m t =>
    have hm : nB m = true := by simpa using h
    rw [nB, Bool.and_eq_true] at hm
    rw [List.all_cons, hm.2]
    rfl
/-- The tree's names are those of the records ahead. -/
def Nms (T : Tr) (ahead : List Rw) : Prop := T.Asc ∧ ∀ q : List UInt8, q ∈ T.bn ↔ ∃ r ∈ ahead.tail, (nm r).data.toList = q
theorem fault_same {ahead : List Rw} {T : Tr} {x : Ln} (h : Nms T ahead) : faultR (ahead.map Rw.fs) T x.1 = faultF ahead (rowF x) := by
  unfold faultR
  cases ho : fieldsO x.1 with
  | none =>
    dsimp only
    unfold faultF
    rw [rowF_fs]
    by_cases e : fldsL x.1 = []
    · rw [if_pos e]
    · rw [if_neg e]
      rcases fieldsO_none ho with e1 | ⟨z, hz, hz2⟩
      · exact absurd e1 e
      · cases ahead with
        | nil => exact (headF_13 hz hz2).symm
        | cons h0 t =>
          dsimp only
          by_cases c1 : (fldsL x.1).length ≠ h0.fs.length
          · rw [if_pos c1]
          · rw [if_neg c1]
            by_cases c2 : nB (nm (rowF x)) = false
            · rw [if_pos c2]
            · rw [if_neg c2, if_pos (all_false hz (vB_13 hz2))]
  | some f =>
    obtain ⟨e, hne⟩ := fieldsO_some ho
    dsimp only
    unfold faultF
    rw [rowF_fs, e, if_neg hne]
    cases ahead with
    | nil => rfl
    | cons h0 t =>
      show recR h0.fs T f = _
      unfold recR
      dsimp only
      have en : nm (rowF x) = (mns f).headD ⟨#[]⟩ := by rw [nm, rowF_fs, e]
      rw [en]
      by_cases c1 : f.length ≠ h0.fs.length
      · rw [if_pos c1, if_pos c1]
      · rw [if_neg c1, if_neg c1]
        by_cases c2 : nB ((mns f).headD ⟨#[]⟩) = false
        · rw [if_pos c2, if_pos c2]
        · have e2 := nm_ok c2
          have e3 : (mns f).tail = mns f.tail := by cases f <;> rfl
          rw [if_neg c2, if_neg c2, e2, e3]
          by_cases c3 : (mns f.tail).all vB = false
          · rw [if_pos c3, if_pos c3]
          · have e4 : T.atIs ((mns f).headD ⟨#[]⟩) = (t.any fun y => (nm y).toList == ((mns f).headD ⟨#[]⟩).toList) := by
              rw [Bool.eq_iff_iff, mem_atIs h.1, h.2, List.any_eq_true]
              simp only [List.tail_cons, beq_iff_eq, ByteArray.toList_eq]
            rw [if_neg c3, if_neg c3, e4]
/-- The tree of rows, put in one by one. -/
def accOf : List Rw → Tr
  | [] => .nil
  | h :: t => accT (colsR h) .nil t
theorem accOf_nms (ahead : List Rw) : Nms (accOf ahead) ahead := by
  cases ahead with
  | nil => exact ⟨nil_asc, fun q => by simp [accOf]; intro h; cases h⟩
  | cons h t =>
    refine ⟨accT_asc _ _ _ nil_asc, fun q => ?_⟩
    rw [accOf, accT_mem _ _ _ _ nil_asc]
    constructor
    · rintro (h | h)
      · cases h
      · exact h
    · exact .inr
theorem add_same (ahead : List Rw) (x : Ln) : addR (ahead.map Rw.fs) (accOf ahead) (fldsL x.1) = accOf (ahead ++ [rowF x]) := by
  cases ahead with
  | nil => rfl
  | cons h t =>
    rw [List.cons_append, accOf, accOf, accT_snoc]
    rfl
theorem rows_same : ∀ (ls : List Ln) (ahead : List Rw) (i : Nat), rowsR (ahead.map Rw.fs) (accOf ahead) i ls =
    if (rowsF ahead i ls).2.2 = 0 then ((rowsF ahead i ls).1.map Rw.fs, accOf (rowsF ahead i ls).1, 0, 0) else ([], .nil, (rowsF ahead i ls).2.1, (rowsF ahead i ls).2.2)
  | [], ahead, i => by rw [rowsR, rowsF, if_pos rfl]
  | x :: r, ahead, i => by
    rw [rowsR, rowsF, fault_same (accOf_nms ahead)]
    by_cases hf : faultF ahead (rowF x) ≠ 0
    · rw [if_pos hf, if_pos hf, if_neg hf]
    · rw [if_neg hf, if_neg hf, add_same]
      have e : ahead.map Rw.fs ++ [fldsL x.1] = (ahead ++ [rowF x]).map Rw.fs := by rw [List.map_append]; rfl
      rw [e]
      exact rows_same r (ahead ++ [rowF x]) (i + 1)
theorem dup_nodup : ∀ (l a : List ByteArray), dupF a l = false → l.Nodup ∧ ∀ z ∈ l, z ∉ a
  | [], _, _ => ⟨List.nodup_nil, fun _ h => by cases h⟩
  | x :: r, a, h => by
    rw [dupF, Bool.or_eq_false_iff] at h
    obtain ⟨h1, h2⟩ := dup_nodup r (a ++ [x]) h.2
    have h3 : x ∉ a := fun e => by rw [(Lib.containsS_iff a x).2 e] at h; cases h.1
    refine ⟨List.nodup_cons.2 ⟨fun e => h2 x e (by simp), h1⟩, fun z hz => ?_⟩
    rcases List.mem_cons.1 hz with e | e
    · rw [e]; exact h3
    · exact fun e2 => h2 z e (by simp [e2])
theorem nodup_data {l : List ByteArray} (h : l.Nodup) : (l.map (·.data.toList)).Nodup := by
  rw [List.Nodup, List.pairwise_map]
  refine List.Pairwise.imp (fun {a b} hab e => hab ?_) h
  exact bytes_eq (by rw [ByteArray.toList_eq, ByteArray.toList_eq, e])
theorem nodup_snoc {l : List (List UInt8)} {x : List UInt8} (h : l.Nodup) (hx : x ∉ l) : (l ++ [x]).Nodup := by
  rw [List.nodup_append]
  refine ⟨h, by simp, fun a ha b hb e => hx ?_⟩
  simp at hb
  rw [← hb, ← e]
  exact ha
/-- No column twice, no record twice. -/
def Nod : List Rw → Prop
  | [] => True
  | h :: t => ((colsR h).map (·.data.toList)).Nodup ∧ (t.map fun r => (nm r).data.toList).Nodup
theorem rowsF_nod : ∀ (ls : List Ln) (ahead : List Rw) (i : Nat), Nod ahead → (rowsF ahead i ls).2.2 = 0 → Nod (rowsF ahead i ls).1
  | [], ahead, i, h, _ => h
  | x :: r, ahead, i, h, h0 => by
    rw [rowsF] at h0 ⊢
    by_cases hf : faultF ahead (rowF x) ≠ 0
    · rw [if_pos hf] at h0
      exact absurd h0 hf
    · rw [if_neg hf] at h0 ⊢
      refine rowsF_nod r _ _ ?_ h0
      have h1 := fault_fs hf
      unfold faultF at hf
      rw [if_neg h1] at hf
      cases ahead with
      | nil =>
        refine ⟨?_, List.nodup_nil⟩
        simp only at hf
        cases hfs : (rowF x).fs with
        | nil => exact absurd hfs h1
        | cons y l =>
          rw [hfs] at hf
          have em : mns (y :: l) = ⟨y.2.toArray⟩ :: mns l := rfl
          rw [em, headF] at hf
          split at hf
          · exact absurd (by decide) hf
          · split at hf
            · exact absurd (by decide) hf
            · split at hf
              · exact absurd (by decide) hf
              · rename_i hd
                have e : colsR (rowF x) = mns l := by rw [colsR, hfs]; rfl
                rw [e]
                exact nodup_data (dup_nodup _ _ (by simpa using hd)).1
      | cons hh t =>
        refine ⟨h.1, ?_⟩
        show (List.map (fun r => (nm r).data.toList) (t ++ [rowF x])).Nodup
        rw [List.map_append]
        refine nodup_snoc h.2 ?_
        simp only at hf
        split at hf
        · exact absurd (by decide) hf
        · split at hf
          · exact absurd (by decide) hf
          · split at hf
            · exact absurd (by decide) hf
            · split at hf
              · exact absurd (by decide) hf
              · rename_i hd
                intro hm
                obtain ⟨y, hy, e⟩ := List.mem_map.1 hm
                refine hd (List.any_eq_true.2 ⟨y, hy, ?_⟩)
                rw [beq_iff_eq, ByteArray.toList_eq, ByteArray.toList_eq]
                exact e
theorem accOf_tree {rs : List Rw} (h : Nod rs) : accOf rs = treeR rs := by
  cases rs with
  | nil => rfl
  | cons hh t => rw [accOf, treeR, accT_eq h.1 h.2]
theorem spl_nil : ∀ (r cur : Bs), spl cur r = [] → cur = [] ∧ r = [] := fun r cur h => by
  have hj := join_spl r cur
  rw [h] at hj
  simp only [join] at hj
  exact List.append_eq_nil_iff.1 hj.symm
theorem split_nil (l : Bs) : split l = [] ↔ l = [] := by
  constructor
  · intro h; exact (spl_nil l [] h).2
  · rintro rfl; rfl
theorem rowsF_len : ∀ (ls : List Ln) (ahead : List Rw) (i : Nat), (rowsF ahead i ls).2.2 = 0 → (rowsF ahead i ls).1.length = ahead.length + ls.length
  | [], _, _, _ => by simp [rowsF]
  | x :: r, ahead, i, h0 => by
    rw [rowsF] at h0 ⊢
    by_cases hf : faultF ahead (rowF x) ≠ 0
    · rw [if_pos hf] at h0
      exact absurd h0 hf
    · rw [if_neg hf] at h0 ⊢
      rw [rowsF_len r _ _ h0]
      simp
      omega
theorem load_same (l : Bs) : loadR l = readF l := by
  unfold loadR readF
  by_cases h1 : 4000 < l.length
  · rw [if_pos h1, if_pos h1]
  · rw [if_neg h1, if_neg h1]
    have e := rows_same (split l) [] 0
    rw [List.map_nil, accOf] at e
    rw [e]
    by_cases h2 : l.length = 0
    · obtain rfl : l = [] := List.eq_nil_of_length_eq_zero h2
      rfl
    · rw [if_neg h2]
      by_cases h3 : (rowsF [] 0 (split l)).2.2 = 0
      · have q : ¬ (rowsF [] 0 (split l)).2.2 ≠ 0 := fun e => e h3
        rw [if_pos h3, if_neg q]
        have hn := rowsF_nod (split l) [] 0 trivial h3
        have hl := rowsF_len (split l) [] 0 h3
        dsimp only
        rw [if_neg (show ¬ (0 : Int) ≠ 0 by decide), accOf_tree hn]
        cases hr : (rowsF [] 0 (split l)).1 with
        | nil =>
          rw [hr] at hl
          simp only [List.length_nil, Nat.zero_add] at hl
          exact absurd ((split_nil l).1 (List.eq_nil_of_length_eq_zero hl.symm)) (fun e => h2 (by rw [e]; rfl))
        | cons hh t => rfl
      · rw [if_neg h3, if_pos h3, if_pos h3]
end Go.Proofs.YtlcbhooiinaalaaGreatDoor.Cv
namespace Go.Proofs.YtlcbhooiinaalaaGreatDoor.Cv
open Go.RowKit Go.Proofs.YtlcbhooiinaalaaGreatDoor.Jd
set_option maxRecDepth 100000

theorem ne_toNat {x : UInt8} {n : Nat} (hn : n < 256) (h : x ≠ UInt8.ofNat n) : x.toNat ≠ n := fun e => h (UInt8.toNat_inj.1 (by rw [e, UInt8.toNat_ofNat']; omega))
theorem drop_end (s : ByteArray) : s.data.toList.drop s.size = [] := List.drop_of_length_le (show s.data.toList.length ≤ s.size from Nat.le_refl _)

set_option maxHeartbeats 1000000 in
theorem cr_any (s : ByteArray) (w : World) (hz : s.size ≤ 140737488351232) : Calls Tryz.prog 83 #[.string s] w fun e w' => e = .returned (.bool (s.data.toList.contains 13)) ∧ w = w' := by
  obtain ⟨d, hd⟩ : ∃ d, d = s.data.toList.contains 13 := ⟨_, rfl⟩
  rw [← hd]
  have Hd := Lib.hid hd
  clear hd
  go_enter Tryz.func83, Tryz.ntmps83
  go_wp2_with fail
  go_loopw [3] (fun i wr => ∃ (k : Nat), k ≤ s.size ∧ i = .int .i64 k ∧ Hid (d = (s.data.toList.drop k).contains 13) ∧ Hid (wr = w)) (fun i _ => s.size - (intOf i).toNat)
  case atStart => exact ⟨0, Nat.zero_le _, rfl, Lib.hid (by rw [Hd.out]; rfl), Lib.hid rfl⟩
  case round =>
    obtain ⟨k, hk, rfl, HR, HW⟩ := hrel
    by_cases hlt : k < s.size
    · have hkn : (k : Int) < (s.size : Int) := by omega
      have hk0 : (0 : Int) ≤ (k : Int) := by omega
      have hrel := HR.out
      rw [drop_at hlt, List.contains_cons] at hrel
      by_cases h13 : s[k] = 13
      · have q1 : ((s[k].toNat : Int) == 13) = true := by rw [h13]; rfl
        have HR2 : Hid (d = true) := Lib.hid (by rw [hrel, h13]; rfl)
        have Hlt := Lib.hid hlt
        clear h13 hrel HR
        go_wp2_with fail
        go_ret
        exact ⟨by rw [HR2.out]; rfl, HW.out.symm⟩
      · have n13 : s[k].toNat ≠ 13 := ne_toNat (by decide) h13
        have q1 : ((s[k].toNat : Int) == 13) = false := by simp; omega
        have e13 : ((13 : UInt8) == s[k]) = false := beq_eq_false_iff_ne.2 (fun e => h13 e.symm)
        rw [e13, Bool.false_or] at hrel
        have HR2 := Lib.hid hrel
        have Hlt := Lib.hid hlt
        clear h13 hrel HR e13 n13
        go_wp2_with fail
        go_roundw
        case rel => exact ⟨k + 1, Hlt.out, by go_num, HR2, HW⟩
        case measure => have := Hlt.out; simp [intOf]; omega
    · obtain rfl : k = s.size := by omega
      have HR2 : Hid (d = false) := Lib.hid (by rw [HR.out, drop_end]; rfl)
      clear hlt HR
      go_wp2_with fail
      go_ret
      exact ⟨by rw [HR2.out]; rfl, HW.out.symm⟩

set_option maxHeartbeats 1000000 in
theorem bare_any (s : ByteArray) (w : World) (hz : s.size ≤ 140737488351232) : Calls Tryz.prog 62 #[.string s] w fun e w' => e = .returned (.bool (!(Lib.containsAny s.data.toList [10, 13]))) ∧ w = w' := by
  obtain ⟨d, hd⟩ : ∃ d, d = !(Lib.containsAny s.data.toList [10, 13]) := ⟨_, rfl⟩
  rw [← hd]
  rw [any_mem] at hd
  have Hd := Lib.hid hd
  clear hd
  go_enter Tryz.func62, Tryz.ntmps62
  go_wp2_with fail
  go_loopw [3] (fun i wr => ∃ (k : Nat), k ≤ s.size ∧ i = .int .i64 k ∧ Hid (d = !((s.data.toList.drop k).any fun x => ([10, 13] : List UInt8).contains x)) ∧ Hid (wr = w)) (fun i _ => s.size - (intOf i).toNat)
  case atStart => exact ⟨0, Nat.zero_le _, rfl, Lib.hid (by rw [Hd.out]; rfl), Lib.hid rfl⟩
  case round =>
    obtain ⟨k, hk, rfl, HR, HW⟩ := hrel
    by_cases hlt : k < s.size
    · have hkn : (k : Int) < (s.size : Int) := by omega
      have hk0 : (0 : Int) ≤ (k : Int) := by omega
      have hrel := HR.out
      rw [drop_at hlt, List.any_cons] at hrel
      by_cases h10 : s[k] = 10
      · have q1 : ((s[k].toNat : Int) == 10) = true := by rw [h10]; rfl
        have HR2 : Hid (d = false) := Lib.hid (by rw [hrel, h10]; rfl)
        have Hlt := Lib.hid hlt
        clear h10 hrel HR
        go_wp2_with fail
        go_ret
        exact ⟨by rw [HR2.out]; rfl, HW.out.symm⟩
      · have n10 : s[k].toNat ≠ 10 := ne_toNat (by decide) h10
        have q1 : ((s[k].toNat : Int) == 10) = false := by simp; omega
        by_cases h13 : s[k] = 13
        · have q2 : ((s[k].toNat : Int) == 13) = true := by rw [h13]; rfl
          have HR2 : Hid (d = false) := Lib.hid (by rw [hrel, h13]; rfl)
          have Hlt := Lib.hid hlt
          clear h10 h13 hrel HR n10
          go_wp2_with fail
          go_ret
          exact ⟨by rw [HR2.out]; rfl, HW.out.symm⟩
        · have n13 : s[k].toNat ≠ 13 := ne_toNat (by decide) h13
          have q2 : ((s[k].toNat : Int) == 13) = false := by simp; omega
          have e13 : ([10, 13] : List UInt8).contains s[k] = false := by simp [h10, h13]
          rw [e13, Bool.false_or] at hrel
          have HR2 := Lib.hid hrel
          have Hlt := Lib.hid hlt
          clear h10 h13 hrel HR e13 n13 n10
          go_wp2_with fail
          go_roundw
          case rel => exact ⟨k + 1, Hlt.out, by go_num, HR2, HW⟩
          case measure => have := Hlt.out; simp [intOf]; omega
    · obtain rfl : k = s.size := by omega
      have HR2 : Hid (d = true) := Lib.hid (by rw [HR.out, drop_end]; rfl)
      clear hlt HR
      go_wp2_with fail
      go_ret
      exact ⟨by rw [HR2.out]; rfl, HW.out.symm⟩

set_option maxHeartbeats 1000000 in
theorem plain_any (s : ByteArray) (w : World) (hz : s.size ≤ 140737488351232) : Calls Tryz.prog 39 #[.string s] w fun e w' => e = .returned (.bool (nB s)) ∧ w = w' := by
  have HC := Lib.hid (bare_any s w hz)
  by_cases h0 : s.size = 0
  · have he : (s.toList == ([] : List UInt8)) = true := by rw [empty_iff, decide_eq_true h0]
    have HV : Hid (nB s = false) := Lib.hid (by rw [nB, decide_eq_false (by omega)]; rfl)
    clear h0 hz
    go_enter Tryz.func39, Tryz.ntmps39
    go_wp2_with fail
    go_ret
    exact ⟨by rw [HV.out]; rfl, rfl⟩
  · have he : (s.toList == ([] : List UInt8)) = false := by rw [empty_iff, decide_eq_false h0]
    by_cases h8 : 80 < s.size
    · have h8' : (80 : Int) < (s.size : Int) := by omega
      have HV : Hid (nB s = false) := Lib.hid (by rw [nB, vB, decide_eq_false (p := s.size ≤ 80) (by omega)]; simp)
      clear h0 hz h8
      go_enter Tryz.func39, Tryz.ntmps39
      go_wp2_with fail
      go_ret
      exact ⟨by rw [HV.out]; rfl, rfl⟩
    · have h8' : ¬ (80 : Int) < (s.size : Int) := by omega
      obtain ⟨v, hv⟩ : ∃ v, v = !(Lib.containsAny s.data.toList [10, 13]) := ⟨_, rfl⟩
      rw [← hv] at HC
      have HV : Hid (nB s = v) := Lib.hid (by rw [nB, vB, decide_eq_true (p := 0 < s.size) (by omega), decide_eq_true (p := s.size ≤ 80) (by omega), hv]; rfl)
      clear h0 hz h8 hv
      go_enter Tryz.func39, Tryz.ntmps39
      go_wp2_with fail
      (with_reducible refine HC.out.mono ?_)
      rintro e w1 ⟨rfl, rfl⟩
      go_wp2_with fail
      go_ret
      exact ⟨by rw [HV.out]; rfl, rfl⟩

set_option maxHeartbeats 1000000 in
theorem rcolumn_any (s : ByteArray) (w : World) (hz : s.size ≤ 140737488351232) : Calls Tryz.prog 40 #[.string s] w fun e w' => e = .returned (.bool (cB s)) ∧ w = w' := by
  have HC := Lib.hid (plain_any s w hz)
  obtain ⟨v, hv⟩ : ∃ v, v = nB s := ⟨_, rfl⟩
  rw [← hv] at HC
  have HV : Hid (cB s = (v && !(s.toList == [107, 101, 121]))) := Lib.hid (by rw [hv]; rfl)
  clear hv hz
  cases v with
  | false =>
    go_enter Tryz.func40, Tryz.ntmps40
    go_wp2_with fail
    (with_reducible refine HC.out.mono ?_)
    rintro e w1 ⟨rfl, rfl⟩
    go_wp2_with fail
    go_ret
    exact ⟨by rw [HV.out]; rfl, rfl⟩
  | true =>
    obtain ⟨u, hu⟩ : ∃ u, u = (s.toList == [107, 101, 121]) := ⟨_, rfl⟩
    rw [← hu] at HV
    have hu' := hu.symm
    clear hu
    go_enter Tryz.func40, Tryz.ntmps40
    go_wp2_with fail
    (with_reducible refine HC.out.mono ?_)
    rintro e w1 ⟨rfl, rfl⟩
    go_wp2_with fail
    go_ret
    exact ⟨by rw [HV.out]; rfl, rfl⟩

set_option maxHeartbeats 1000000 in
theorem rvalue7_any (s : ByteArray) (w : World) (hz : s.size ≤ 140737488351232) : Calls Tryz.prog 85 #[.string s] w fun e w' => e = .returned (.bool (vB s)) ∧ w = w' := by
  have HC := Lib.hid (bare_any s w hz)
  obtain ⟨v, hv⟩ : ∃ v, v = !(Lib.containsAny s.data.toList [10, 13]) := ⟨_, rfl⟩
  rw [← hv] at HC
  by_cases h8 : s.size ≤ 80
  · have h8' : (s.size : Int) ≤ 80 := by omega
    have HV : Hid (vB s = v) := Lib.hid (by rw [vB, decide_eq_true h8, hv]; rfl)
    clear hz h8 hv
    go_enter Tryz.func85, Tryz.ntmps85
    go_wp2_with fail
    (with_reducible refine HC.out.mono ?_)
    rintro e w1 ⟨rfl, rfl⟩
    go_wp2_with fail
    go_ret
    exact ⟨by rw [HV.out]; rfl, rfl⟩
  · have h8' : ¬ (s.size : Int) ≤ 80 := by omega
    have HV : Hid (vB s = false) := Lib.hid (by rw [vB, decide_eq_false h8]; rfl)
    clear hz h8 hv
    go_enter Tryz.func85, Tryz.ntmps85
    go_wp2_with fail
    go_ret
    exact ⟨by rw [HV.out]; rfl, rfl⟩
end Go.Proofs.YtlcbhooiinaalaaGreatDoor.Cv
