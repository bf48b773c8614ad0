/- csv.Put of any tree into any file: what it answers. Conditions: the tree's size and names; MaxLen's cell. · csv: a file's head stays when all of its rows go. No conditions. · csv: the tree that a file was read as fits. No conditions. · csv: a file's own tree, put back, is the file. No conditions. · Put of the reference. Conditions: fewer edges than 2^38. · Without and Drop of the reference. Conditions: fewer edges than 2^38. · The reference's words of lines and of csv: has a text a 13; bare, plain texts; columns, values. Conditions: texts below 2^47 bytes. -/
import Derived.Test.YtkgpjohfkfbfhaaGreatDoorMwRtRows
import Derived.Test.YtkgpjohfkfbfhaaGreatDoorMwNamesMath
import Derived.Test.YtkgpjohfkfbfhaaGreatDoorWithW
import Derived.Deep.RegionHeld3
import Derived.IntWalk
import Derived.Outline
import Derived.Deep.QuietTactic
import Derived.BigQuiet
namespace Go.Proofs.YtkgpjohfkfbfhaaGreatDoor.Cv
open Go.RowKit Go.Sort Go.Proofs.YtkgpjohfkfbfhaaGreatDoor.Jd Go.Proofs.YtkgpjohfkfbfhaaGreatDoor.Li Go.Proofs.YtkgpjohfkfbfhaaGreatDoor.Cl Go.Proofs.YtkgpjohfkfbfhaaGreatDoor.Pt
set_option maxRecDepth 100000

theorem joinB_le (B : Nat) : ∀ (ls : List Ln), (∀ x ∈ ls, x.1.length ≤ B ∧ x.2.length ≤ 2) → (join ls).length ≤ ls.length * (B + 2)
  | [], _ => by simp [join]
  | x :: r, h => by
    have h1 := h x (by simp)
    have ih := joinB_le B r (fun z hz => h z (by simp [hz]))
    rw [join, List.length_append, List.length_append, List.length_cons, Nat.add_mul]
    omega
theorem endedB {B : Nat} {E : Bs} (hE : E.length ≤ 2) : ∀ (ls : List Ln), (∀ x ∈ ls, x.1.length ≤ B ∧ x.2.length ≤ 2) → ∀ x ∈ ended E ls, x.1.length ≤ B ∧ x.2.length ≤ 2
  | [], _, _, h => by cases h
  | [y], hh, x, h => hh x h
  | y :: z :: r, hh, x, h => by
    rw [ended] at h
    rcases List.mem_cons.1 h with rfl | h
    · refine ⟨(hh y (by simp)).1, ?_⟩
      dsimp only
      split
      · exact hE
      · exact (hh y (by simp)).2
    · exact endedB hE (z :: r) (fun u hu => hh u (by simp [hu])) x h
theorem endB {ls : List Ln} (h : ∀ x ∈ ls, x.2.length ≤ 2) : (endOf ls).length ≤ 2 := by
  cases ls with
  | nil => simp [endOf]
  | cons x r =>
    have h1 := h x (by simp)
    show (if x.2 = [] then [10] else x.2).length ≤ 2
    split
    · simp
    · exact h1
theorem text_le2 {ms : List ByteArray} {fs : List Ln} (hm : ∀ z ∈ ms, z.size ≤ 4000) (hf : ∀ x ∈ fs, x.1.length ≤ 4000) (hc : ms.length ≤ 90001) : (Lib.join (fieldF ms fs) [44]).length ≤ 1080462005 := by
  have h := join_le _ _ (fieldF_le ms fs hm hf)
  rw [fieldF_len] at h
  omega
theorem putB_le {hd : Rw} {x0 : Ln} {xl : List Ln} {rs : List Rw} {t : Tr} (hO : PutOk hd x0 xl rs t) (he : ∀ r ∈ hd :: rs, r.en.data.toList.length ≤ 2) : (putB hd xl rs t).length ≤ 140737488355328 := by
  have hcol : ∀ m ∈ colsP xl t, m.size ≤ 4000 := fun m hm => (hO.cols m hm).1
  have hrow : ∀ (q : ByteArray) (fs : List Ln), q.size ≤ 4000 → (∀ x ∈ fs, x.1.length ≤ 4000) → (Lib.join (fieldF (recF q (colsP xl t) (getT t [q]).1) fs) [44]).length ≤ 1080462005 := by
    intro q fs hq hf
    refine text_le2 (fun z hz => ?_) hf ?_
    · rcases List.mem_cons.1 hz with rfl | hz
      · exact hq
      · obtain ⟨c, _, rfl⟩ := List.mem_map.1 hz
        exact (hO.vals q c).1
    · have := hO.few
      rw [recF, List.length_cons, List.length_map]
      omega
  have hst : ∀ x ∈ stayL hd xl rs t, x.1.length ≤ 1080462005 ∧ x.2.length ≤ 2 := by
    intro x hx
    unfold stayL at hx
    rcases List.mem_append.1 hx with hx | hx
    · obtain rfl := List.mem_singleton.1 hx
      refine ⟨text_le2 (fun z hz => ?_) (hO.fs hd (by simp)).2 ?_, he hd (by simp)⟩
      · rcases List.mem_append.1 hz with hz | hz
        · obtain rfl := List.mem_singleton.1 hz
          decide
        · exact hcol z hz
      · have := hO.few
        rw [List.length_append]
        simp only [List.length_cons, List.length_nil]
        omega
    · obtain ⟨r, hr, e⟩ := List.mem_filterMap.1 hx
      unfold stayF at e
      split at e
      · injection e with e
        subst e
        exact ⟨hrow (nm r) r.fs (hO.nms.1 r hr).1 (hO.fs r (by simp [hr])).2, he r (by simp [hr])⟩
      · cases e
  have hnew : ∀ l ∈ lessF (namesOf t.names) (rs.map nm), (freshB (colsP xl t) t l).length ≤ 1080462005 := by
    intro l hl
    rw [lessF, List.mem_filter, namesOf_mem] at hl
    obtain ⟨s, hs, rfl⟩ := List.mem_map.1 hl.1
    have h2 := (hO.nms.2 s hs).1
    exact hrow (mkB s.data.toList) [] h2 (fun x hx => by cases hx)
  have hE := endB (fun x hx => (hst x hx).2)
  rw [putB, Li.insert]
  refine Nat.le_trans (joinB_le 1080462005 _ (endedB hE _ (fun x hx => ?_))) ?_
  · rcases List.mem_append.1 hx with hx | hx
    · rcases List.mem_append.1 hx with hx | hx
      · exact hst x (List.mem_of_mem_take hx)
      · obtain ⟨u, hu, rfl⟩ := List.mem_map.1 hx
        obtain ⟨l, hl, rfl⟩ := List.mem_map.1 hu
        exact ⟨hnew l hl, hE⟩
    · exact hst x (List.mem_of_mem_drop hx)
  · rw [ended_length, List.take_length, List.drop_length, List.append_nil, List.length_append, List.length_map, List.length_map]
    have h1 : (stayL hd xl rs t).length ≤ 1 + rs.length := by
      unfold stayL
      rw [List.length_append]
      have := List.length_filterMap_le (stayF (colsP xl t) t) rs
      simp only [List.length_cons, List.length_nil]
      omega
    have h2 : (lessF (namesOf t.names) (rs.map nm)).length ≤ (namesOf t.names).length := List.length_filter_le _ _
    have h3 := namesOf_le t.names
    have h4 := names_length t
    have h5 := t.len_size
    have h6 := hO.len
    omega
/-- What was read, of a file that is sound. -/
theorem rowsF_line : ∀ (ls : List Ln) (ahead : List Rw) (i : Nat), (rowsF ahead i ls).2.2 = 0 → (rowsF ahead i ls).2.1 = 0
  | [], _, _, _ => rfl
  | x :: r, ahead, i, h => by
    rw [rowsF] at h ⊢
    split at h
    · rename_i h1; exact absurd h h1
    · rename_i h1
      rw [if_neg h1]
      exact rowsF_line r _ _ h
theorem read_inv {l : Bs} (h : (readF l).2.2 = 0) : l.length ≤ 4000 ∧ (readF l).2.1 = 0 ∧ ∃ hd x0 xl rs, rowsF [] 0 (split l) = (hd :: rs, 0, 0) ∧ hd.fs = x0 :: xl := by
  obtain ⟨R, hR⟩ : ∃ R, R = readF l := ⟨_, rfl⟩
  rw [← hR] at h ⊢
  unfold readF at hR
  by_cases h1 : 4000 < l.length
  · rw [if_pos h1] at hR; subst hR; cases h
  rw [if_neg h1] at hR
  obtain ⟨q, hq⟩ : ∃ q, q = rowsF [] 0 (split l) := ⟨_, rfl⟩
  rw [← hq] at hR
  obtain ⟨rows, i, e⟩ := q
  by_cases h2 : e ≠ 0
  · rw [if_pos h2] at hR; subst hR; exact absurd h h2
  rw [if_neg h2] at hR
  obtain rfl : e = 0 := Decidable.not_not.1 h2
  have hi : i = 0 := by
    have := rowsF_line (split l) [] 0 (by rw [← hq])
    rw [← hq] at this
    exact this
  subst hi
  cases rows with
  | nil => subst hR; cases h
  | cons hd rs =>
    dsimp only at hR
    split at hR
    · subst hR
      rename_i h3
      have h' : (((treeR (hd :: rs)).fault : Nat) : Int) = 0 := h
      exact absurd (by exact_mod_cast h') h3
    · subst hR
      refine ⟨by omega, rfl, hd, ?_⟩
      have hinv := rowsF_inv _ _ _ _ hq.symm
      rw [List.nil_append] at hinv
      cases hs : split l with
      | nil => rw [hs] at hinv; cases hinv
      | cons y ys =>
        rw [hs] at hinv hq
        injection hinv with e1 e2
        rw [rowsF] at hq
        split at hq
        · injection hq with _ hq; injection hq with hq _; omega
        · rename_i h4
          have h5 : faultF [] (rowF y) = 0 := Decidable.not_not.1 h4
          unfold faultF at h5
          split at h5
          · cases h5
          · rename_i h6
            rw [← e1] at h6
            cases hf : hd.fs with
            | nil => exact absurd hf h6
            | cons x0 xl => exact ⟨x0, xl, rs, by rw [← hs]; rw [hs, rowsF, if_neg h4]; exact hq.symm, rfl⟩
/-- What a tree, put into a file, makes. -/
def putR (t : Tr) (l : Bs) : Bs × Int :=
  if (readF l).2.2 ≠ 0 then ([], (readF l).2.2) else if fitsC t ≠ 0 then ([], fitsC t) else
  match (rowsF [] 0 (split l)).1 with
  | [] => ([], 0)
  | hd :: rs => if 4000 < (putB hd hd.fs.tail rs t).length then ([], 5) else (putB hd hd.fs.tail rs t, 0)
/-- The answer is right. -/
theorem putR_back {t : Tr} {l : Bs} (h : (putR t l).2 = 0) : (readF l).2.2 = 0 ∧ fitsC t = 0 ∧ readF (putR t l).1 = (t, 0, 0) ∧ ∃ hd x0 xl rs, rowsF [] 0 (split l) = (hd :: rs, 0, 0) ∧ hd.fs = x0 :: xl ∧ (putR t l).1 = putB hd xl rs t ∧ (putB hd xl rs t).length ≤ 4000 := by
  unfold putR at h ⊢
  split at h
  · rename_i h1; exact absurd h h1
  rename_i h1
  rw [if_neg h1]
  split at h
  · rename_i h2; exact absurd h h2
  rename_i h2
  rw [if_neg h2]
  have h1 : (readF l).2.2 = 0 := Decidable.not_not.1 h1
  have h2 : fitsC t = 0 := Decidable.not_not.1 h2
  obtain ⟨_, _, hd, x0, xl, rs, hr, hh⟩ := read_inv h1
  rw [hr] at h ⊢
  dsimp only at h ⊢
  have e : hd.fs.tail = xl := by rw [hh]; rfl
  rw [e] at h ⊢
  split at h
  · cases h
  · rename_i h3
    rw [if_neg h3]
    have h4 : (putB hd xl rs t).length ≤ 4000 := by omega
    exact ⟨h1, h2, (put_back hr hh h2 (fault_asc (fits_fault h2).1).1 h4).1, hd, x0, xl, rs, rfl, hh, rfl, h4⟩
theorem putR_e (t : Tr) (l : Bs) (h1 : (readF l).2.2 = 0) (h2 : fitsC t = 0) : (putR t l).2 = 0 ∨ (putR t l).2 = 5 := by
  unfold putR
  rw [if_neg (by rw [h1]; decide), if_neg (by rw [h2]; decide)]
  split
  · exact .inl rfl
  · split
    · exact .inr rfl
    · exact .inl rfl
end Go.Proofs.YtkgpjohfkfbfhaaGreatDoor.Cv
namespace Go.Proofs.YtkgpjohfkfbfhaaGreatDoor.Cv
open Go.RowKit Go.Sort Go.Proofs.YtkgpjohfkfbfhaaGreatDoor.Jd Go.Proofs.YtkgpjohfkfbfhaaGreatDoor.Li Go.Proofs.YtkgpjohfkfbfhaaGreatDoor.Cl Go.Proofs.YtkgpjohfkfbfhaaGreatDoor.Pt
set_option maxRecDepth 100000

theorem colsP_nil (xl : List Ln) : colsP xl .nil = mns xl := by
  have e : colsF .nil = [] := by
    unfold colsF
    have h := namesOf_le ((kidsL .nil).flatMap Tr.names)
    have h2 : ((kidsL .nil).flatMap Tr.names).length = 0 := rfl
    exact List.length_eq_zero_iff.1 (by omega)
  rw [colsP, e]
  show mns xl ++ (lessF [] (mns xl)).map mkB = mns xl
  rw [lessF, List.filter_nil, List.map_nil, List.append_nil]
theorem fieldF_self : ∀ fs : List Ln, fieldF (mns fs) fs = fs.map (·.1)
  | [] => rfl
  | x :: r => by
    have e : mns (x :: r) = ⟨x.2.toArray⟩ :: mns r := rfl
    rw [e, fieldF, if_pos (by simp), fieldF_self r]
    rfl
theorem put_nil {l : Bs} {hd : Rw} {x0 : Ln} {xl : List Ln} {rs : List Rw} (h : rowsF [] 0 (split l) = (hd :: rs, 0, 0)) (hh : hd.fs = x0 :: xl) : ∃ x xs, split l = x :: xs ∧ putB hd xl rs .nil = x.1 ++ x.2 := by
  have hi := rowsF_inv _ _ _ _ h
  rw [List.nil_append] at hi
  cases hs : split l with
  | nil => rw [hs] at hi; cases hi
  | cons x xs =>
    rw [hs] at hi
    injection hi with e1 e2
    refine ⟨x, xs, rfl, ?_⟩
    obtain ⟨_, hhf, _, _, _, _⟩ := file_ok h hh
    have em : mns hd.fs = ⟨x0.2.toArray⟩ :: mns xl := by rw [hh]; rfl
    have hk := (head_facts (by rw [← em]; exact hhf : headF (⟨x0.2.toArray⟩ :: mns xl) = 0)).1
    have e3 : [kB] ++ colsP xl .nil = mns hd.fs := by rw [colsP_nil, em, hk]; rfl
    have e4 : rs.filterMap (stayF (colsP xl .nil) .nil) = [] := by
      rw [List.filterMap_eq_nil_iff]
      intro r _
      unfold stayF
      rw [getT_one]
      rfl
    have e5 : lessF (namesOf Tr.nil.names) (rs.map nm) = [] := by
      have h := namesOf_le Tr.nil.names
      have h2 : (Tr.nil.names).length = 0 := rfl
      have h3 : namesOf Tr.nil.names = [] := List.length_eq_zero_iff.1 (by omega)
      rw [h3]
      rfl
    have e6 : stayL hd xl rs .nil = [x] := by
      unfold stayL
      rw [e4, e3, List.append_nil, sayF, fieldF_self]
      have hf : hd.fs = fldsL x.1 := by rw [e1]; rfl
      have he : hd.en.data.toList = x.2 := by rw [e1]; rfl
      have ht : Lib.join (hd.fs.map (·.1)) [44] = x.1 := by
        have hne : hd.fs ≠ [] := by rw [hh]; simp
        rw [hf] at hne ⊢
        rw [fldsL, ← fldsR_eq] at hne ⊢
        cases hq : fldsR (x.1.length + 1) x.1 with
        | none => rw [hq] at hne; exact absurd rfl hne
        | some fs => exact flds_text _ _ _ hq
      rw [ht, he]
    rw [putB, e5, e6, List.map_nil, Li.insert]
    simp [ended, join]
/-- The bytes of the first line, its end aside. -/
def fl (l : Bs) : Bs := l.takeWhile fun b => b != 10
theorem fl_app : ∀ (a r : Bs), fl (a ++ 10 :: r) = fl (a ++ [10])
  | [], r => rfl
  | c :: a, r => by
    have ih := fl_app a r
    unfold fl at ih ⊢
    rw [List.cons_append, List.cons_append, List.takeWhile_cons, List.takeWhile_cons, ih]
theorem fl_split {l : Bs} {x : Ln} {xs : List Ln} (h : split l = x :: xs) : fl (x.1 ++ x.2) = fl l := by
  have hg := split_good l
  have hj := join_split l
  rw [h] at hg hj
  rw [join] at hj
  rw [← hj]
  cases xs with
  | nil => rw [join, List.append_nil]
  | cons y ys =>
    rcases hg.2.1 with e | e
    · rw [e, List.append_assoc]
      exact (fl_app x.1 _).symm
    · rw [e]
      have e1 : x.1 ++ [13, 10] = (x.1 ++ [13]) ++ [10] := by simp
      rw [e1, List.append_assoc (x.1 ++ [13])]
      exact (fl_app (x.1 ++ [13]) _).symm
theorem fits_nil : fitsC .nil = 0 := rfl
/-- What CsvColumns asks. -/
theorem col_law {u : Tr} {l : Bs} (h : (putR u l).2 = 0) :
    (putR .nil (putR u l).1).2 = 0 ∧ fl (putR u l).1 = fl (putR .nil (putR u l).1).1 ∧ (putR u l).1.length ≤ 4000 ∧ (putR .nil (putR u l).1).1.length ≤ 4000 ∧
      ((putR u (putR .nil (putR u l).1).1).2 = 5 ∨ (putR u (putR .nil (putR u l).1).1).2 = 0 ∧ readF (putR u (putR .nil (putR u l).1).1).1 = (u, 0, 0)) := by
  obtain ⟨_, hfu, hr, _, _, _, _, _, _, hp, hl⟩ := putR_back h
  obtain ⟨p, hpp⟩ : ∃ p, p = (putR u l).1 := ⟨_, rfl⟩
  rw [← hpp] at hr hp ⊢
  have hpl : p.length ≤ 4000 := by rw [hp]; exact hl
  have h0 : (readF p).2.2 = 0 := by rw [hr]
  obtain ⟨_, _, hd, x0, xl, rs, hrows, hh⟩ := read_inv h0
  obtain ⟨x, xs, hs, hq⟩ := put_nil hrows hh
  have hlen : (putB hd xl rs .nil).length ≤ 4000 := by
    rw [hq]
    have hj := join_split p
    rw [hs, join] at hj
    have := congrArg List.length hj
    rw [List.length_append] at this
    omega
  have e : hd.fs.tail = xl := by rw [hh]; rfl
  have hput : putR .nil p = (putB hd xl rs .nil, 0) := by
    unfold putR
    rw [if_neg (by rw [h0]; decide), if_neg (by rw [fits_nil]; decide), hrows]
    dsimp only
    rw [e, if_neg (by omega)]
  rw [hput]
  refine ⟨rfl, by rw [hq]; exact (fl_split hs).symm, hpl, hlen, ?_⟩
  have hb := putR_back (t := .nil) (l := p) (by rw [hput])
  rw [hput] at hb
  have hrq : (readF (putB hd xl rs .nil)).2.2 = 0 := by rw [hb.2.2.1]
  rcases putR_e u (putB hd xl rs .nil) hrq hfu with g | g
  · exact .inr ⟨g, (putR_back g).2.2.1⟩
  · exact .inl g
end Go.Proofs.YtkgpjohfkfbfhaaGreatDoor.Cv
namespace Go.Proofs.YtkgpjohfkfbfhaaGreatDoor.Cv
open Go.RowKit Go.Sort Go.Proofs.YtkgpjohfkfbfhaaGreatDoor.Jd Go.Proofs.YtkgpjohfkfbfhaaGreatDoor.Li Go.Proofs.YtkgpjohfkfbfhaaGreatDoor.Cl Go.Proofs.YtkgpjohfkfbfhaaGreatDoor.Pt
set_option maxRecDepth 100000

theorem allT_of {f : ByteArray → Tr → Bool} : ∀ {t : Tr}, (∀ e ∈ eds t, f e.1 e.2 = true) → allT f t = true
  | .nil, _ => rfl
  | .cons s k r, h => by
    rw [allT, Bool.and_eq_true]
    exact ⟨h (s, k) (List.mem_cons_self ..), allT_of fun e he => h e (List.mem_cons_of_mem _ he)⟩
theorem eds_recs2 {srt : Tr → Tr} {cols : List ByteArray} : ∀ {rs : List Rw} {e : ByteArray × Tr}, e ∈ eds (recsT srt cols rs) → ∃ r ∈ rs, e = (nm r, srt (rawB cols (mns r.fs.tail)))
  | [], e, h => by cases h
  | r :: rs, e, h => by
    rcases List.mem_cons.1 h with rfl | h
    · exact ⟨r, by simp, rfl⟩
    · obtain ⟨r', hr, he⟩ := eds_recs2 h
      exact ⟨r', by simp [hr], he⟩
theorem eds_raw : ∀ {cs vs : List ByteArray} {e : ByteArray × Tr}, e ∈ eds (rawB cs vs) → ∃ c v, c ∈ cs ∧ v ∈ vs ∧ v.size ≠ 0 ∧ e = (c, .cons v .nil .nil)
  | [], _, e, h => by simp [rawB, eds] at h
  | _ :: _, [], e, h => by simp [rawB, eds] at h
  | c :: cs, v :: vs, e, h => by
    rw [rawB] at h
    split at h
    · obtain ⟨c', v', h1, h2, h3, h4⟩ := eds_raw h
      exact ⟨c', v', by simp [h1], by simp [h2], h3, h4⟩
    · rename_i hv
      rcases List.mem_cons.1 h with rfl | h
      · exact ⟨c, v, by simp, by simp, hv, rfl⟩
      · obtain ⟨c', v', h1, h2, h3, h4⟩ := eds_raw h
        exact ⟨c', v', by simp [h1], by simp [h2], h3, h4⟩
theorem read_fits {l : Bs} (h : (readF l).2.2 = 0) : fitsC (readF l).1 = 0 := by
  obtain ⟨hl, _, hd, x0, xl, rs, hrows, hh⟩ := read_inv h
  have e : readF l = if (treeR (hd :: rs)).fault ≠ 0 then (.nil, 0, (((treeR (hd :: rs)).fault : Nat) : Int)) else (treeR (hd :: rs), 0, 0) := by
    unfold readF
    rw [if_neg (by omega), hrows, if_neg (by simp)]
  by_cases hf : (treeR (hd :: rs)).fault ≠ 0
  · rw [e, if_pos hf] at h
    have h' : (((treeR (hd :: rs)).fault : Nat) : Int) = 0 := h
    exact absurd (by exact_mod_cast h') hf
  rw [e, if_neg hf]
  have hf0 : (treeR (hd :: rs)).fault = 0 := Decidable.not_not.1 hf
  have hfo := file_ok hrows hh
  have em : mns hd.fs = ⟨x0.2.toArray⟩ :: mns xl := by rw [hh]; rfl
  have hc := (head_facts (by rw [← em]; exact hfo.hf : headF (⟨x0.2.toArray⟩ :: mns xl) = 0)).2.1
  have hcols : colsR hd = mns xl := by rw [colsR, hh]; rfl
  have hall : allT frB (treeR (hd :: rs)) = true := by
    refine allT_of fun p hp => ?_
    have hp2 : p ∈ eds (recsT srtE (colsR hd) rs) := (srt_perm _).mem_iff.1 hp
    obtain ⟨r, hr, rfl⟩ := eds_recs2 hp2
    obtain ⟨_, _, h3, h4⟩ := hfo.recs r hr
    dsimp only
    rw [frB, h3, Bool.true_and]
    refine allT_of fun q hq => ?_
    have hq2 := (srt_perm _).mem_iff.1 hq
    obtain ⟨c, v, hc1, hv1, hv2, rfl⟩ := eds_raw hq2
    rw [hcols] at hc1
    have hcb := List.all_eq_true.1 hc c hc1
    have hvb : vB v = true := by
      refine List.all_eq_true.1 h4 v ?_
      have e1 : mns r.fs.tail = (mns r.fs).tail := by cases r.fs <;> rfl
      rw [e1] at hv1
      exact List.mem_of_mem_tail hv1
    have hnb : nB v = true := by
      rw [nB, hvb, Bool.and_true, decide_eq_true_eq]
      omega
    rw [fcB_one hcb, fvB, hnb]
    rfl
  show fitsC (treeR (hd :: rs)) = 0
  unfold fitsC
  rw [if_neg (by omega), hall]
  rfl
end Go.Proofs.YtkgpjohfkfbfhaaGreatDoor.Cv
namespace Go.Proofs.YtkgpjohfkfbfhaaGreatDoor.Cv
open Go.RowKit Go.Sort Go.Proofs.YtkgpjohfkfbfhaaGreatDoor.Jd Go.Proofs.YtkgpjohfkfbfhaaGreatDoor.Li Go.Proofs.YtkgpjohfkfbfhaaGreatDoor.Cl Go.Proofs.YtkgpjohfkfbfhaaGreatDoor.Pt
set_option maxRecDepth 100000

theorem raw_zip : ∀ {cs vs : List ByteArray} {c : ByteArray} {k : Tr}, (c, k) ∈ eds (rawB cs vs) ↔ ∃ v, (c, v) ∈ cs.zip vs ∧ v.size ≠ 0 ∧ k = .cons v .nil .nil
  | [], _, c, k => by simp [rawB, eds]
  | _ :: _, [], c, k => by simp [rawB, eds]
  | c0 :: cs, v0 :: vs, c, k => by
    rw [rawB, List.zip_cons_cons]
    split
    · rename_i hv
      rw [raw_zip]
      constructor
      · rintro ⟨v, h1, h2, h3⟩
        exact ⟨v, List.mem_cons_of_mem _ h1, h2, h3⟩
      · rintro ⟨v, h1, h2, h3⟩
        rcases List.mem_cons.1 h1 with h1 | h1
        · injection h1 with _ e
          exact absurd (by rw [e]; exact hv) h2
        · exact ⟨v, h1, h2, h3⟩
    · rename_i hv
      show (c, k) ∈ (c0, Tr.cons v0 .nil .nil) :: eds (rawB cs vs) ↔ _
      rw [List.mem_cons, raw_zip]
      constructor
      · rintro (h | ⟨v, h1, h2, h3⟩)
        · injection h with e1 e2
          subst e1; subst e2
          exact ⟨v0, by simp, hv, rfl⟩
        · exact ⟨v, List.mem_cons_of_mem _ h1, h2, h3⟩
      · rintro ⟨v, h1, h2, h3⟩
        rcases List.mem_cons.1 h1 with h1 | h1
        · injection h1 with e1 e2
          subst e1; subst e2
          exact .inl (by rw [h3])
        · exact .inr ⟨v, h1, h2, h3⟩
theorem zip_one : ∀ {cs vs : List ByteArray} {c v v' : ByteArray}, cs.Nodup → (c, v) ∈ cs.zip vs → (c, v') ∈ cs.zip vs → v = v'
  | [], _, _, _, _, _, h, _ => by simp at h
  | _ :: _, [], _, _, _, _, h, _ => by simp at h
  | c0 :: cs, v0 :: vs, c, v, v', hn, h, h' => by
    rw [List.nodup_cons] at hn
    rw [List.zip_cons_cons] at h h'
    rcases List.mem_cons.1 h with h | h
    · rcases List.mem_cons.1 h' with h' | h'
      · injection h with _ e; injection h' with _ e'
        rw [e, e']
      · injection h with e _
        exact absurd (by rw [← e]; exact (List.of_mem_zip h').1) hn.1
    · rcases List.mem_cons.1 h' with h' | h'
      · injection h' with e _
        exact absurd (by rw [← e]; exact (List.of_mem_zip h).1) hn.1
      · exact zip_one hn.2 h h'
/-- A row's values are what its tree was made of. -/
theorem vals_self {cs vs : List ByteArray} (hn : cs.Nodup) (hl : vs.length = cs.length) (hf : allT fcB (srtE (rawB cs vs)) = true) : cs.map (valF (srtE (rawB cs vs))) = vs := by
  have ha : (srtE (rawB cs vs)).Asc := srt_asc (rawB_nodup cs vs (nodup_data hn))
  refine List.ext_getElem (by rw [List.length_map, hl]) fun i h1 h2 => ?_
  rw [List.getElem_map]
  have hi : i < cs.length := by rwa [List.length_map] at h1
  have hz : (cs[i], vs[i]) ∈ cs.zip vs := by
    refine List.mem_iff_getElem.2 ⟨i, by rw [List.length_zip]; omega, ?_⟩
    rw [List.getElem_zip]
  obtain ⟨v1, v2⟩ := valF_is ha hf cs[i]
  cases hc : (srtE (rawB cs vs)).atIs cs[i] with
  | true =>
    have h3 := (mem_eds ha cs[i] _).2 ⟨hc, (v1 hc).1⟩
    obtain ⟨v, hv, _, e⟩ := raw_zip.1 ((srt_perm _).mem_iff.1 h3)
    injection e with e _ _
    rw [e]
    exact zip_one hn hv hz
  | false =>
    rw [v2 hc]
    by_cases h0 : vs[i].size = 0
    · apply ByteArray.ext
      apply Array.ext'
      have : vs[i].data.toList.length = 0 := h0
      rw [List.length_eq_zero_iff.1 this]
    · have h3 : (cs[i], Tr.cons vs[i] .nil .nil) ∈ eds (srtE (rawB cs vs)) := (srt_perm _).mem_iff.2 (raw_zip.2 ⟨vs[i], hz, h0, rfl⟩)
      have h4 := ((mem_eds ha cs[i] _).1 h3).1
      rw [hc] at h4
      cases h4
theorem recs_in {srt : Tr → Tr} {cols : List ByteArray} : ∀ {rs : List Rw} {r : Rw}, r ∈ rs → (nm r, srt (rawB cols (mns r.fs.tail))) ∈ eds (recsT srt cols rs)
  | r0 :: rs, r, h => by
    rcases List.mem_cons.1 h with rfl | h
    · exact List.mem_cons_self ..
    · exact List.mem_cons_of_mem _ (recs_in h)
theorem say_self {x : Ln} (hne : (rowF x).fs ≠ []) : sayF (mns (rowF x).fs) (rowF x) = x := by
  rw [sayF, fieldF_self]
  have hf : (rowF x).fs = fldsL x.1 := rfl
  have he : (rowF x).en.data.toList = x.2 := rfl
  have ht : Lib.join ((rowF x).fs.map (·.1)) [44] = x.1 := by
    rw [hf] at hne ⊢
    rw [fldsL, ← fldsR_eq] at hne ⊢
    cases hq : fldsR (x.1.length + 1) x.1 with
    | none => rw [hq] at hne; exact absurd rfl hne
    | some fs => exact flds_text _ _ _ hq
  rw [ht, he]
theorem filterMap_self {α β : Type} {f : β → Option α} {g : α → β} : ∀ {xs : List α}, (∀ x ∈ xs, f (g x) = some x) → (xs.map g).filterMap f = xs
  | [], _ => rfl
  | x :: xs, h => by
    rw [List.map_cons, List.filterMap_cons, h x (by simp), filterMap_self fun y hy => h y (by simp [hy])]
theorem put_self {l : Bs} {hd : Rw} {x0 : Ln} {xl : List Ln} {rs : List Rw} (h : rowsF [] 0 (split l) = (hd :: rs, 0, 0)) (hh : hd.fs = x0 :: xl) (hf : fitsC (treeR (hd :: rs)) = 0) : putB hd xl rs (treeR (hd :: rs)) = l := by
  obtain ⟨T, hT⟩ : ∃ T, T = treeR (hd :: rs) := ⟨_, rfl⟩
  rw [← hT] at hf ⊢
  obtain ⟨hft, hall⟩ := fits_fault hf
  have ha := (fault_asc hft).1
  have hat := AscD.asc ha
  have hi := rowsF_inv _ _ _ _ h
  rw [List.nil_append] at hi
  have hfo := file_ok h hh
  have em : mns hd.fs = ⟨x0.2.toArray⟩ :: mns xl := by rw [hh]; rfl
  obtain ⟨hk, _, hcN⟩ := head_facts (by rw [← em]; exact hfo.hf : headF (⟨x0.2.toArray⟩ :: mns xl) = 0)
  have hcols : colsR hd = mns xl := by rw [colsR, hh]; rfl
  have hTe : ∀ p, p ∈ eds T ↔ p ∈ eds (recsT srtE (mns xl) rs) := fun p => by rw [hT, ← hcols]; exact (srt_perm _).mem_iff
  have hrow : ∀ r ∈ rs, T.atIs (nm r) = true ∧ kidT T (nm r) = srtE (rawB (mns xl) (mns r.fs.tail)) := fun r hr => (mem_eds hat _ _).1 ((hTe _).2 (recs_in hr))
  have hnn : ∀ q ∈ T.names, ∃ r ∈ rs, nm r = q := fun q hq => by
    obtain ⟨k, hk⟩ := names_mem hq
    obtain ⟨r, hr, e⟩ := eds_recs2 ((hTe _).1 hk)
    injection e with e _
    exact ⟨r, hr, e.symm⟩
  have hcp : colsP xl T = mns xl := by
    have e : lessF (colsF T) (mns xl) = [] := by
      rw [lessF, List.filter_eq_nil_iff]
      intro b hb
      rw [colsF, namesOf_mem] at hb
      obtain ⟨s, hs, rfl⟩ := List.mem_map.1 hb
      obtain ⟨k, hk1, hk2⟩ := List.mem_flatMap.1 hs
      obtain ⟨q, hq⟩ := kids_mem hk1
      obtain ⟨r, _, e⟩ := eds_recs2 ((hTe _).1 hq)
      injection e with _ e
      obtain ⟨k2, hk3⟩ := names_mem hk2
      rw [e] at hk3
      obtain ⟨v, hv, _⟩ := raw_zip.1 ((srt_perm _).mem_iff.1 hk3)
      have hin := (List.of_mem_zip hv).1
      have e2 : (⟨s.data.toList.toArray⟩ : ByteArray) = s := mkB_list s
      rw [e2, (Lib.containsS_iff _ _).2 hin]
      decide
    rw [colsP, e, List.map_nil, List.append_nil]
  have hlf : lessF (namesOf T.names) (rs.map nm) = [] := by
    rw [lessF, List.filter_eq_nil_iff]
    intro b hb
    rw [namesOf_mem] at hb
    obtain ⟨s, hs, rfl⟩ := List.mem_map.1 hb
    obtain ⟨r, hr, e⟩ := hnn s hs
    have e2 : (⟨s.data.toList.toArray⟩ : ByteArray) = s := mkB_list s
    rw [e2, (Lib.containsS_iff _ _).2 (by rw [← e]; exact List.mem_map_of_mem hr)]
    decide
  cases hs : split l with
  | nil => rw [hs] at hi; cases hi
  | cons x xs =>
    rw [hs] at hi
    injection hi with e1 e2
    have hst : stayL hd xl rs T = x :: xs := by
      unfold stayL
      rw [hcp]
      have e3 : [kB] ++ mns xl = mns hd.fs := by rw [em, hk]; rfl
      rw [e3]
      have e4 : sayF (mns hd.fs) hd = x := by
        rw [e1]
        exact say_self (by rw [← e1, hh]; simp)
      have e5 : rs.filterMap (stayF (mns xl) T) = xs := by
        rw [e2]
        refine filterMap_self fun y hy => ?_
        have hr : rowF y ∈ rs := by rw [e2]; exact List.mem_map_of_mem hy
        obtain ⟨h1, h2⟩ := hrow _ hr
        obtain ⟨o1, o2, _, _⟩ := hfo.recs _ hr
        unfold stayF
        rw [getT_one, if_pos h1, if_pos rfl]
        dsimp only
        congr 1
        have hm := allT_mem hall _ ((hTe _).2 (recs_in hr))
        rw [frB, Bool.and_eq_true] at hm
        have htl : (mns (rowF y).fs.tail).length = (mns xl).length := by
          rw [mns_len, mns_len, List.length_tail, o2, hh]
          rfl
        have hrec : recF (nm (rowF y)) (mns xl) (kidT T (nm (rowF y))) = mns (rowF y).fs := by
          rw [recF, h2, vals_self hcN htl hm.2]
          cases hfs : (rowF y).fs with
          | nil => exact absurd hfs o1
          | cons z zs => rw [nm, hfs]; rfl
        rw [hrec]
        exact say_self o1
      rw [e4, e5]
      rfl
    rw [putB, hlf, List.map_nil, Li.insert, hst, List.take_length, List.drop_length, List.map_nil, List.append_nil, List.append_nil]
    have hg := split_good l
    rw [hs] at hg
    rw [hg.ended, ← hs, join_split]
end Go.Proofs.YtkgpjohfkfbfhaaGreatDoor.Cv
namespace Go.Proofs.YtkgpjohfkfbfhaaGreatDoor.Pt
open Go.RowKit Go.Proofs.YtkgpjohfkfbfhaaGreatDoor.Jd Go.Proofs.YtkgpjohfkfbfhaaGreatDoor.Cl
set_option maxRecDepth 100000

structure OkT (W : World) (A : Option Addr) (n c : Nat) (t : Tr) : Prop where
  holds : Holds W W.heap.size A n t
  cap : n ≤ c ∧ c ≤ maxLen
theorem OkT.below {w w' : World} {A : Option Addr} {n c : Nat} {t : Tr} (h : OkT w A n c t) (hb : Below w.heap.size w w') : OkT w' A n c t := ⟨(h.holds.below hb).more hb.size, h.cap⟩
def OkP (W : World) (t : Tr) (e : Ending) (w' : World) : Prop := ∃ A' n' c', e = .returned (.slice A' n' c') ∧ OkT w' A' n' c' t ∧ Below W.heap.size W w'
theorem sees_up {w : World} {B B' n : Nat} {A : Option Addr} {vs : List Value} (h : SeesV w B A n vs) (hB : B ≤ B') : SeesV w B' A n vs :=
  ⟨h.len, fun j u hu => by
    obtain ⟨b, o, ha, hb, hc⟩ := h.cell j u hu
    exact ⟨b, o, ha, Nat.lt_of_lt_of_le hb hB, hc⟩⟩
theorem kid_at {name : ByteArray} : ∀ {t : Tr}, t.atIs name = true → ∃ r, t.dropT (t.atN name) = .cons name (kidT t name) r
  | .nil, h => by simp [Tr.atIs, Tr.atN, dropT_zero, Tr.headIs] at h
  | .cons s k r, h => by
    rcases cases3 s name with c1 | ⟨c1, c2⟩ | ⟨c1, c2, _⟩
    · rw [atIs_lt c1] at h
      obtain ⟨r', h2⟩ := kid_at h
      rw [atN_lt c1, kidT_lt c1]
      exact ⟨r', h2⟩
    · have e := names_of_eq c2
      subst e
      rw [atN_ge c1, kidT_eq c1 c2]
      exact ⟨r, by rw [dropT_zero]⟩
    · rw [atIs_ge c1, c2] at h; cases h
def K2P (w : World) (B : Nat) (k : Tr) (v : Bool) (e : Ending) (w' : World) : Prop :=
  ∃ A' n' c', e = .returned (.tuple #[.slice A' n' c', .bool v]) ∧ Holds w B A' n' k ∧ n' ≤ c' ∧ c' ≤ maxLen ∧ ∃ q, w' = w.drewN q
theorem drop_lt' {t : Tr} {i : Nat} {s : ByteArray} {k r : Tr} (h : t.dropT i = .cons s k r) : i < t.len := by
  rcases Nat.lt_or_ge i t.len with g | g
  · exact g
  · rw [drop_len t i g] at h; cases h
set_option maxHeartbeats 1000000 in
theorem kid2_any (t : Tr) (A : Option Addr) (n c B : Nat) (name : ByteArray) (w : World) (h : Holds w B A n t) (hB : B ≤ w.heap.size) (hn : n ≤ 140737488351232) :
    Calls Tryz.prog 30 #[.slice A n c, .string name] w (K2P w B (kidT t name) (t.atIs name)) := by
  have HA := Lib.hid (at_any t A n c B name w h hB hn)
  have hl := h.len
  by_cases hi : t.atIs name = true
  · obtain ⟨r, hdr⟩ := kid_at hi
    have hlt := drop_lt' hdr
    rw [hi] at HA ⊢
    obtain ⟨k, hk⟩ : ∃ k, k = t.atN name := ⟨_, rfl⟩
    rw [← hk] at HA hlt hdr
    obtain ⟨b, o, s, kt, r', A', n', c', rfl, hb, hs, hc, hn', hc', hk', hr, hd, hd2⟩ := h.split k (by omega)
    have hkn : (k : Int) < (n : Int) := by omega
    have hk0 : (0 : Int) ≤ (k : Int) := by omega
    have e : kt = kidT t name := by
      rw [hdr] at hd
      injection hd with _ h2 _
      exact h2.symm
    rw [e] at hk'
    clear hk hd hd2 hi hl hdr e
    go_enter Tryz.func30, Tryz.ntmps30
    go_wp2_with fail
    refine HA.out.mono ?_
    rintro e _ ⟨rfl, q, rfl⟩
    go_wp2_with fail
    go_ret2
    exact ⟨A', n', c', rfl, hk', hn', hc', q, rfl⟩
  · have hi2 : t.atIs name = false := by simpa using hi
    have hkn := kidT_not hi2
    rw [hi2] at HA ⊢
    rw [hkn]
    obtain ⟨k, hk⟩ : ∃ k, k = t.atN name := ⟨_, rfl⟩
    rw [← hk] at HA
    clear hi hi2 hk h hl hn hkn
    go_enter Tryz.func30, Tryz.ntmps30
    go_wp2_with fail
    refine HA.out.mono ?_
    rintro e _ ⟨rfl, q, rfl⟩
    go_wp2_with fail
    go_ret2
    exact ⟨none, 0, 0, rfl, rfl, Nat.le_refl _, Nat.zero_le _, q, rfl⟩


theorem sees_behind {w : World} {B b o n c : Nat} {v : Value} {vs : List Value} (h : SeesV w B (some ⟨b, o, none⟩) (n + 1) (v :: vs)) (hc : n + 1 ≤ c) : SeesV w B (if c = 1 then some ⟨b, o, none⟩ else some ⟨b, o + 1, none⟩) n vs := by
  have hl := h.len
  simp only [List.length_cons] at hl
  refine ⟨by omega, fun j u hu => ?_⟩
  have hj : j < vs.length := by
    rcases Nat.lt_or_ge j vs.length with g | g
    · exact g
    · rw [List.getElem?_eq_none g] at hu; cases hu
  rw [if_neg (by omega)]
  obtain ⟨b', o', e, hb, hcl⟩ := h.cell (j + 1) u (by simpa using hu)
  cases e
  exact ⟨b, o + 1, rfl, hb, by rw [show o + 1 + j = o + (j + 1) by omega]; exact hcl⟩

set_option maxHeartbeats 2000000 in
theorem rput_any {x : Tr} : ∀ (ps : List ByteArray) (t : Tr) (A Ap Ax : Option Addr) (n c np cp nx cx : Nat) (w : World), OkT w A n c t → OkT w Ax nx cx x → SeesV w w.heap.size Ap np (ps.map Value.string) → np ≤ cp → t.size ≤ 274877906944 →
    Calls Tryz.prog 22 #[.slice A n c, .slice Ap np cp, .slice Ax nx cx] w (OkP w (putT t ps x))
  | [], t, A, Ap, Ax, n, c, np, cp, nx, cx, w, ht, hx, hp, hcp, hz => by
    obtain rfl : np = 0 := by have := hp.len; simpa using this
    rw [show putT t [] x = x by cases t <;> rfl]
    have HX := Lib.hid hx
    clear ht hx hp hz
    go_enter Tryz.func22, Tryz.ntmps22
    go_wp2_with fail
    go_ret
    exact ⟨Ax, nx, cx, rfl, HX.out, Below.refl _ _⟩
  | p :: ps, t, A, Ap, Ax, n, c, np, cp, nx, cx, w, ht, hx, hp, hcp, hz => by
    obtain ⟨m, rfl⟩ : ∃ m, np = m + 1 := by have := hp.len; simp only [List.length_map, List.length_cons] at this; exact ⟨_, this⟩
    obtain ⟨b, o, rfl, hb, hc0⟩ := hp.str (j := 0) (by omega)
    have hc1 : w.cell? ⟨b, o, none⟩ = some (.string p) := by simpa using hc0
    have hpt := sees_behind (vs := ps.map Value.string) hp hcp
    have hl := ht.holds.len
    have hls := t.len_size
    have HK := Lib.hid (kid2_any t A n c w.heap.size p w ht.holds (Nat.le_refl _) (by omega))
    have HC := Lib.hid (fun (W : World) (hW : Below w.heap.size w W) (A' : Option Addr) (n' c' : Nat) (hk : OkT W A' n' c' (kidT t p)) => rput_any (x := x) ps (kidT t p) A' _ Ax n' c' m (cp - 1) nx cx W hk (hx.below hW) (sees_up (hpt.below hW) hW.size) (by omega) (Nat.le_trans (kidT_size t p) hz))
    have HT := Lib.hid ht
    have hn5 : n ≤ 549755813888 := by omega
    have e : putT t (p :: ps) x = t.withT p (putT (kidT t p) ps x) := rfl
    rw [e]
    obtain ⟨y, hy⟩ : ∃ y, y = putT (kidT t p) ps x := ⟨_, rfl⟩
    rw [← hy] at HC ⊢
    have hcap := ht.cap.1
    clear hc0 hp hpt hl hls hx hz e hy ht
    by_cases hone : cp = 1
    · subst hone
      obtain rfl : m = 0 := by omega
      simp only [Nat.zero_add, if_true, Nat.sub_self] at HC ⊢
      go_enter Tryz.func22, Tryz.ntmps22
      go_wp2_with fail
      (with_reducible refine HK.out.mono ?_)
      rintro e w1 ⟨A', n', c', rfl, hk', hn', hc', q, hw1⟩
      have hb1 : Below w.heap.size w w1 := by rw [hw1]; exact below_drewN (Below.refl _ _) q
      have hc1' := (hb1.cell (p := ⟨b, o, none⟩) hb).trans hc1
      have hbd : Below w.heap.size w w1.drew := hb1.drew
      have HOk := Lib.hid (show OkT w1.drew A' n' c' (kidT t p) from ⟨(hk'.below hbd).more hbd.size, hn', hc'⟩)
      have hbl : b < w1.heap.size := Nat.lt_of_lt_of_le hb hb1.size
      clear hk' hw1
      go_wp2_with fail
      go_region_held3 (fun w' => w'.cell? ⟨b, o, none⟩ = some (.string p)) (first | exact hc1' | exact hs3 | exact hs4)
        (first
        | (go_at_call 22; refine (HC.out _ hbd A' n' c' HOk.out).mono ?_; rintro e w3 ⟨A3, n3, c3, rfl, ox, hb3⟩; have hs3 := (hb3.cell (p := ⟨b, o, none⟩) hbl).trans hc1'; have hb03 := hbd.trans (hb3.mono hbd.size); have hA3 := (HT.out.below hb03).holds)
        | (go_at_call 31; refine (with_any t y A A3 n c n3 c3 w3.heap.size p w3 hA3 ox.holds (Nat.le_refl _) hn5 hcap ox.cap.1 ox.cap.2).mono ?_; rintro e w4 ⟨A4, n5, c4, rfl, hx4, hn5', hm4, hb4⟩; have hs4 := (hb4.cell (p := ⟨b, o, none⟩) (Nat.lt_of_lt_of_le hbl hb3.size)).trans hs3))
      all_goals
        go_wp2_with fail
        go_ret
        exact ⟨A4, n5, c4, rfl, ⟨hx4, hn5', hm4⟩, hb03.trans (hb4.mono hb03.size)⟩
    · rw [if_neg hone] at HC
      have hone' : ¬ (cp : Int) = 1 := by omega
      have hm1 : (1 : Int) ≤ (m : Int) + 1 := by omega
      have hm0 : ((m : Int) + 1 == 0) = false := by simp; omega
      have hm2 : ¬ (m : Int) + 1 = 0 := by omega
      have hcp1 : (m : Int) + 1 ≤ (cp : Int) := by omega
      have hcp2 : (1 : Int) ≤ (cp : Int) := by omega
      have hm3 : (0 : Int) < (m : Int) + 1 := by omega
      go_enter Tryz.func22, Tryz.ntmps22
      go_wp2_with fail
      (with_reducible refine HK.out.mono ?_)
      rintro e w1 ⟨A', n', c', rfl, hk', hn', hc', q, hw1⟩
      have hb1 : Below w.heap.size w w1 := by rw [hw1]; exact below_drewN (Below.refl _ _) q
      have hc1' := (hb1.cell (p := ⟨b, o, none⟩) hb).trans hc1
      have hbd : Below w.heap.size w w1.drew := hb1.drew
      have HOk := Lib.hid (show OkT w1.drew A' n' c' (kidT t p) from ⟨(hk'.below hbd).more hbd.size, hn', hc'⟩)
      have hbl : b < w1.heap.size := Nat.lt_of_lt_of_le hb hb1.size
      clear hk' hw1
      go_wp2_with fail
      go_region_held3 (fun w' => w'.cell? ⟨b, o, none⟩ = some (.string p)) (first | exact hc1' | exact hs3 | exact hs4)
        (first
        | (go_at_call 22; refine (HC.out _ hbd A' n' c' HOk.out).mono ?_; rintro e w3 ⟨A3, n3, c3, rfl, ox, hb3⟩; have hs3 := (hb3.cell (p := ⟨b, o, none⟩) hbl).trans hc1'; have hb03 := hbd.trans (hb3.mono hbd.size); have hA3 := (HT.out.below hb03).holds)
        | (go_at_call 31; refine (with_any t y A A3 n c n3 c3 w3.heap.size p w3 hA3 ox.holds (Nat.le_refl _) hn5 hcap ox.cap.1 ox.cap.2).mono ?_; rintro e w4 ⟨A4, n5, c4, rfl, hx4, hn5', hm4, hb4⟩; have hs4 := (hb4.cell (p := ⟨b, o, none⟩) (Nat.lt_of_lt_of_le hbl hb3.size)).trans hs3))
      all_goals
        go_wp2_with fail
        go_ret
        exact ⟨A4, n5, c4, rfl, ⟨hx4, hn5', hm4⟩, hb03.trans (hb4.mono hb03.size)⟩
end Go.Proofs.YtkgpjohfkfbfhaaGreatDoor.Pt
namespace Go.Proofs.YtkgpjohfkfbfhaaGreatDoor.Pt
open Go.RowKit Go.Proofs.YtkgpjohfkfbfhaaGreatDoor.Jd Go.Proofs.YtkgpjohfkfbfhaaGreatDoor.Cl
set_option maxRecDepth 100000

theorem withoutT_not : ∀ {t : Tr} {name : ByteArray}, t.atIs name = false → withoutT t name = t
  | .nil, _, _ => rfl
  | .cons s k r, name, h => by
    rcases cases3 s name with c1 | ⟨c1, c2⟩ | ⟨c1, c2, _⟩
    · rw [withoutT_lt c1, withoutT_not (by rw [← h, Pt.atIs_lt c1])]
    · rw [atIs_ge c1, c2] at h; cases h
    · exact withoutT_gt c1 c2
theorem RowT_without {w : World} {B : Nat} {name : ByteArray} : ∀ {vs : List Value} {t : Tr}, RowT w B vs t → t.atIs name = true →
    RowT w B (vs.take (t.atN name * 2) ++ vs.drop ((t.atN name + 1) * 2)) (withoutT t name)
  | [], .nil, _, h => by simp [Tr.atIs, Tr.atN, dropT_zero, Tr.headIs] at h
  | .string s :: .slice A n c :: vs, .cons _ k r, ⟨h1, h2, h3, h4, h5⟩, h => by
    subst h1
    rcases cases3 s name with c1 | ⟨c1, c2⟩ | ⟨c1, c2, _⟩
    · rw [Pt.atIs_lt c1] at h
      have ih := RowT_without h5 h
      rw [withoutT_lt c1, atN_lt c1, show (r.atN name + 1) * 2 = r.atN name * 2 + 1 + 1 by omega, show (r.atN name + 1 + 1) * 2 = (r.atN name + 1) * 2 + 1 + 1 by omega]
      exact ⟨rfl, h2, h3, h4, ih⟩
    · rw [withoutT_eq c1 c2, atN_ge c1]
      simpa using h5
    · rw [atIs_ge c1, c2] at h; cases h

set_option maxHeartbeats 2000000 in
theorem rwithout_any (t : Tr) (A : Option Addr) (n c : Nat) (name : ByteArray) (w : World) (h : OkT w A n c t) (hn : n ≤ 549755813888) :
    Calls Tryz.prog 44 #[.slice A n c, .string name] w (OkP w (withoutT t name)) := by
  have Hn := Lib.hid h.holds.len
  have Hat := Lib.hid (at_any t A n c w.heap.size name w h.holds (Nat.le_refl _) (by omega))
  have hc := h.cap.1
  by_cases hi : t.atIs name = true
  · have hlt : t.atN name < t.len := by
      rcases Nat.lt_or_ge (t.atN name) t.len with g | g
      · exact g
      · unfold Tr.atIs at hi
        rw [drop_len t _ g] at hi
        cases hi
    rw [← Hn.out] at hlt
    obtain ⟨vs, hr, hcell, hpos⟩ := h.holds.rowT
    obtain ⟨b, o, rfl, hbB⟩ := hpos (by omega)
    have hrow := RowT_without hr hi
    rw [hi] at Hat
    obtain ⟨k, hk⟩ : ∃ k, k = t.atN name := ⟨_, rfl⟩
    rw [← hk] at hlt Hat hrow
    have hvl := hr.length
    rw [← Hn.out] at hvl
    have hcl := hcell b o rfl
    have hone := hr.one
    have h1 : ∀ W : World, Below w.heap.size w W → Src Tryz.prog 2 30 (.slice (some ⟨b, o, none⟩) k c) k (vs.take (k * 2)) W := fun W hW => src_edges (by rw [List.length_take]; omega) (fun j u hu => by
      rw [List.getElem?_take] at hu
      split at hu
      · exact (hW.cell (p := ⟨b, o + j, none⟩) (by simp only; omega)).trans (hcl j u hu)
      · cases hu) (fun u hu => hone u (List.mem_of_mem_take hu))
    have H1 := Lib.hid h1
    have h3 : ∀ W : World, Below w.heap.size w W → Src Tryz.prog 2 30 (.slice (if c = k + 1 then some ⟨b, o, none⟩ else some ⟨b, o + (k + 1) * 2, none⟩) (n - (k + 1)) (c - (k + 1))) (n - (k + 1)) (vs.drop ((k + 1) * 2)) W := by
      intro W hW
      by_cases e : c = k + 1
      · have e0 : n - (k + 1) = 0 := by omega
        rw [e0, List.drop_of_length_le (by omega)]
        exact src_none _ _ _
      · rw [if_neg e]
        exact src_edges (by rw [List.length_drop]; omega) (fun j u hu => by
          rw [List.getElem?_drop] at hu
          rw [show o + (k + 1) * 2 + j = o + ((k + 1) * 2 + j) by omega]
          exact (hW.cell (p := ⟨b, o + ((k + 1) * 2 + j), none⟩) (by simp only; omega)).trans (hcl _ u hu)) (fun u hu => hone u (List.mem_of_mem_drop hu))
    have H3 := Lib.hid h3
    have hkn : (k : Int) ≤ (n : Int) := by omega
    have hcn : (n : Int) ≤ (c : Int) := by omega
    have hkc : (k : Int) ≤ (c : Int) := by omega
    have hk0 : (0 : Int) ≤ (k : Int) := by omega
    have hkn1 : (k : Int) + 1 ≤ (n : Int) := by omega
    have Hrow := Lib.hid hrow
    clear h3 h1 hcl hcell hvl hone hk hr hrow hpos hi
    go_enter Tryz.func44, Tryz.ntmps44
    go_wp2_with fail
    refine Hat.out.mono ?_
    rintro e w1' ⟨rfl, q, rfl⟩
    go_wp2_with (first
      | (at_builtin; refine wpList_append_row rfl (.tmp 17) (.tmp 20) _ _ rfl elem_edge rfl rfl (World.ownsRow_nil _ w.heap.size _ _) (H1.out _ (below_drewN (Below.refl _ w) q)) (by omega) (Nat.le_refl _) ?_; intro A1 c1 w1 ho1 hg1 hat1; simp only [Nat.zero_add, List.nil_append] at ho1; have hb1 : Below w.heap.size w w1 := (below_drewN (Below.refl _ w) q).grown hg1 (Nat.le_refl _) (by simp [Value.ownBlock]); have hz1 := hb1.size; have hs3 := H3.out w1 hb1)
      | (at_builtin; refine wpList_append_row rfl (.tmp 22) (.tmp 26) _ _ rfl elem_edge rfl rfl ho1 hs3 (by omega) hz1 ?_; intro A3 c3 w3 ho3 hg3 hat3))
    all_goals
      go_ret
      have hb3 : Below w.heap.size w w3 := hb1.grown hg3 hz1 (fun k hk => (ho1.lt k hk).1)
      refine ⟨A3, _, c3, rfl, ⟨own_holds ho3 ?_, (own_cap ho3).1, (own_cap ho3).2⟩, hb3⟩
      exact (Hrow.out.keep (w' := w3) (fun p hp => hb3.cell hp)).more hb3.size
  · have hi2 : t.atIs name = false := by simpa using hi
    rw [hi2] at Hat
    rw [withoutT_not hi2]
    obtain ⟨k, hk⟩ : ∃ k, k = t.atN name := ⟨_, rfl⟩
    rw [← hk] at Hat
    have HO := Lib.hid h
    clear hi hi2 hk h
    go_enter Tryz.func44, Tryz.ntmps44
    go_wp2_with fail
    refine Hat.out.mono ?_
    rintro e w1' ⟨rfl, q, rfl⟩
    go_wp2_with fail
    go_ret
    exact ⟨A, n, c, rfl, HO.out.below (below_drewN (Below.refl _ w) q), below_drewN (Below.refl _ w) q⟩
set_option maxHeartbeats 2000000 in
theorem rdrop_any : ∀ (ps : List ByteArray) (t : Tr) (A Ap : Option Addr) (n c np cp : Nat) (w : World), OkT w A n c t → SeesV w w.heap.size Ap np (ps.map Value.string) → np ≤ cp → ps.length ≤ 1000000 → t.size ≤ 274877906944 →
    Calls Tryz.prog 21 #[.slice A n c, .slice Ap np cp] w (OkP w (dropP t ps))
  | [], t, A, Ap, n, c, np, cp, w, ht, hp, hcp, hps, hz => by
    obtain rfl : np = 0 := by have := hp.len; simpa using this
    rw [show dropP t [] = .nil by cases t <;> rfl]
    clear ht hp hz
    go_enter Tryz.func21, Tryz.ntmps21
    go_wp2_with fail
    go_ret
    exact ⟨none, 0, 0, rfl, ⟨rfl, Nat.le_refl _, Nat.zero_le _⟩, Below.refl _ _⟩
  | p :: ps, t, A, Ap, n, c, np, cp, w, ht, hp, hcp, hps, hz => by
    obtain ⟨m, rfl⟩ : ∃ m, np = m + 1 := by have := hp.len; simp only [List.length_map, List.length_cons] at this; exact ⟨_, this⟩
    have hml : m = ps.length := by have := hp.len; simp only [List.length_map, List.length_cons] at this; omega
    have hmb : m ≤ 1000000 := by simp only [List.length_cons] at hps; omega
    obtain ⟨b, o, rfl, hb, hc0⟩ := hp.str (j := 0) (by omega)
    have hc1 : w.cell? ⟨b, o, none⟩ = some (.string p) := by simpa using hc0
    have hpt := sees_behind (vs := ps.map Value.string) hp hcp
    have hl := ht.holds.len
    have hls := t.len_size
    have HK := Lib.hid (kid2_any t A n c w.heap.size p w ht.holds (Nat.le_refl _) (by omega))
    have HT := Lib.hid ht
    have hn5 : n ≤ 549755813888 := by omega
    have hcap := ht.cap.1
    have hm0 : ((m : Int) + 1 == 0) = false := by simp; omega
    have hm2 : ¬ (m : Int) + 1 = 0 := by omega
    have hm3 : (0 : Int) < (m : Int) + 1 := by omega
    by_cases hi : t.atIs p = true
    case neg =>
      have hi2 : t.atIs p = false := by simpa using hi
      have e : dropP t (p :: ps) = t := by cases ps <;> simp [dropP, hi2]
      rw [e]
      rw [hi2] at HK
      clear hc0 hp hpt hl hls hz e hi hi2 ht
      go_enter Tryz.func21, Tryz.ntmps21
      go_wp2_with fail
      (with_reducible refine HK.out.mono ?_)
      rintro e w1 ⟨A', n', c', rfl, hk', hn', hc', q, hw1⟩
      have HB1 : Hid (Below w.heap.size w w1) := Lib.hid (by rw [hw1]; exact below_drewN (Below.refl _ _) q)
      clear hk' hw1
      go_wp2_with fail
      go_ret
      exact ⟨A, n, c, rfl, HT.out.below HB1.out, HB1.out⟩
    rw [hi] at HK
    cases ps with
    | nil =>
      obtain rfl : m = 0 := by simpa using hml
      have e : dropP t [p] = withoutT t p := by simp [dropP, hi]
      rw [e]
      have HC := Lib.hid (fun (W : World) (hW : Below w.heap.size w W) => rwithout_any t A n c p W (ht.below hW) hn5)
      simp only [Nat.zero_add]
      clear hc0 hp hpt hl hls hz e hi ht hm0 hm2 hm3 hml hmb
      go_enter Tryz.func21, Tryz.ntmps21
      go_wp2_with fail
      (with_reducible refine HK.out.mono ?_)
      rintro e w1 ⟨A', n', c', rfl, hk', hn', hc', q, hw1⟩
      have hb1 : Below w.heap.size w w1 := by rw [hw1]; exact below_drewN (Below.refl _ _) q
      have hc1' := (hb1.cell (p := ⟨b, o, none⟩) hb).trans hc1
      clear hk' hw1
      go_wp2_with fail
      (with_reducible refine (HC.out w1 hb1).mono ?_)
      rintro e w2 ⟨A2, n2, c2, rfl, o2, hb2⟩
      have H2 := Lib.hid o2
      have HB2 := Lib.hid hb2
      clear o2 hb2
      go_wp2_with fail
      go_ret
      exact ⟨A2, n2, c2, rfl, H2.out, hb1.trans (HB2.out.mono hb1.size)⟩
    | cons p2 ps =>
      obtain ⟨m2, rfl⟩ : ∃ m2, m = m2 + 1 := ⟨ps.length, by simpa using hml⟩
      have e : dropP t (p :: p2 :: ps) = t.withT p (dropP (kidT t p) (p2 :: ps)) := by simp [dropP, hi]
      rw [e]
      have HC := Lib.hid (fun (W : World) (hW : Below w.heap.size w W) (A' : Option Addr) (n' c' : Nat) (hk : OkT W A' n' c' (kidT t p)) => rdrop_any (p2 :: ps) (kidT t p) A' _ n' c' (m2 + 1) (cp - 1) W hk (sees_up (hpt.below hW) hW.size) (by omega) (by simp only [List.length_cons] at hps ⊢; omega) (Nat.le_trans (kidT_size t p) hz))
      obtain ⟨y, hy⟩ : ∃ y, y = dropP (kidT t p) (p2 :: ps) := ⟨_, rfl⟩
      rw [← hy] at HC ⊢
      rw [if_neg (by omega)] at HC
      have hone : ¬ cp = 1 := by omega
      have hone' : ¬ (cp : Int) = 1 := by omega
      have hq1 : (1 : Int) ≤ ((m2 + 1 : Nat) : Int) + 1 := by omega
      have hcp1 : ((m2 + 1 : Nat) : Int) + 1 ≤ (cp : Int) := by omega
      have hcp2 : (1 : Int) ≤ (cp : Int) := by omega
      obtain ⟨m, hm⟩ : ∃ m, m = m2 + 1 := ⟨_, rfl⟩
      have hmp : 1 ≤ m := by omega
      rw [← hm] at hq1 hcp1 HC hm0 hm2 hm3 hmb ⊢
      have hne1 : ((m : Int) + 1 == 1) = false := by simp; omega
      have hne1' : ¬ (m : Int) + 1 = 1 := by omega
      have hne2 : ¬ (m : Int) = 0 := by omega
      have hne2' : ¬ m = 0 := by omega
      clear hc0 hp hpt hl hls hz e hi ht hy hm hml hps
      go_enter Tryz.func21, Tryz.ntmps21
      go_wp2_with fail
      (with_reducible refine HK.out.mono ?_)
      rintro e w1 ⟨A', n', c', rfl, hk', hn', hc', q, hw1⟩
      have hb1 : Below w.heap.size w w1 := by rw [hw1]; exact below_drewN (Below.refl _ _) q
      have hc1' := (hb1.cell (p := ⟨b, o, none⟩) hb).trans hc1
      have hbd : Below w.heap.size w w1.drew := hb1.drew
      have HOk := Lib.hid (show OkT w1.drew A' n' c' (kidT t p) from ⟨(hk'.below hbd).more hbd.size, hn', hc'⟩)
      have hbl : b < w1.heap.size := Nat.lt_of_lt_of_le hb hb1.size
      clear hk' hw1
      go_wp2_with fail
      go_region_held3 (fun w' => w'.cell? ⟨b, o, none⟩ = some (.string p)) (first | exact hc1' | exact hs3 | exact hs4)
        (first
        | (go_at_call 21; refine (HC.out _ hbd A' n' c' HOk.out).mono ?_; rintro e w3 ⟨A3, n3, c3, rfl, ox, hb3⟩; have hs3 := (hb3.cell (p := ⟨b, o, none⟩) hbl).trans hc1'; have hb03 := hbd.trans (hb3.mono hbd.size); have hA3 := (HT.out.below hb03).holds)
        | (go_at_call 31; refine (with_any t y A A3 n c n3 c3 w3.heap.size p w3 hA3 ox.holds (Nat.le_refl _) hn5 hcap ox.cap.1 ox.cap.2).mono ?_; rintro e w4 ⟨A4, n5, c4, rfl, hx4, hn5', hm4, hb4⟩; have hs4 := (hb4.cell (p := ⟨b, o, none⟩) (Nat.lt_of_lt_of_le hbl hb3.size)).trans hs3))
      all_goals
        go_wp2_with fail
        go_ret
        exact ⟨A4, n5, c4, rfl, ⟨hx4, hn5', hm4⟩, hb03.trans (hb4.mono hb03.size)⟩
end Go.Proofs.YtkgpjohfkfbfhaaGreatDoor.Pt
namespace Go.Proofs.YtkgpjohfkfbfhaaGreatDoor.Cv
open Go.RowKit Go.Proofs.YtkgpjohfkfbfhaaGreatDoor.Jd
set_option maxRecDepth 100000

theorem ne_toNat {x : UInt8} {n : Nat} (hn : n < 256) (h : x ≠ UInt8.ofNat n) : x.toNat ≠ n := fun e => h (UInt8.toNat_inj.1 (by rw [e, UInt8.toNat_ofNat']; omega))
theorem drop_end (s : ByteArray) : s.data.toList.drop s.size = [] := List.drop_of_length_le (show s.data.toList.length ≤ s.size from Nat.le_refl _)

set_option maxHeartbeats 1000000 in
theorem cr_any (s : ByteArray) (w : World) (hz : s.size ≤ 140737488351232) : Calls Tryz.prog 73 #[.string s] w fun e w' => e = .returned (.bool (s.data.toList.contains 13)) ∧ w = w' := by
  obtain ⟨d, hd⟩ : ∃ d, d = s.data.toList.contains 13 := ⟨_, rfl⟩
  rw [← hd]
  have Hd := Lib.hid hd
  clear hd
  go_enter Tryz.func73, Tryz.ntmps73
  go_wp2_with fail
  go_loopw [3] (fun i wr => ∃ (k : Nat), k ≤ s.size ∧ i = .int .i64 k ∧ Hid (d = (s.data.toList.drop k).contains 13) ∧ Hid (wr = w)) (fun i _ => s.size - (intOf i).toNat)
  case atStart => exact ⟨0, Nat.zero_le _, rfl, Lib.hid (by rw [Hd.out]; rfl), Lib.hid rfl⟩
  case round =>
    obtain ⟨k, hk, rfl, HR, HW⟩ := hrel
    by_cases hlt : k < s.size
    · have hkn : (k : Int) < (s.size : Int) := by omega
      have hk0 : (0 : Int) ≤ (k : Int) := by omega
      have hrel := HR.out
      rw [drop_at hlt, List.contains_cons] at hrel
      by_cases h13 : s[k] = 13
      · have q1 : ((s[k].toNat : Int) == 13) = true := by rw [h13]; rfl
        have HR2 : Hid (d = true) := Lib.hid (by rw [hrel, h13]; rfl)
        have Hlt := Lib.hid hlt
        clear h13 hrel HR
        go_wp2_with fail
        go_ret
        exact ⟨by rw [HR2.out]; rfl, HW.out.symm⟩
      · have n13 : s[k].toNat ≠ 13 := ne_toNat (by decide) h13
        have q1 : ((s[k].toNat : Int) == 13) = false := by simp; omega
        have e13 : ((13 : UInt8) == s[k]) = false := beq_eq_false_iff_ne.2 (fun e => h13 e.symm)
        rw [e13, Bool.false_or] at hrel
        have HR2 := Lib.hid hrel
        have Hlt := Lib.hid hlt
        clear h13 hrel HR e13 n13
        go_wp2_with fail
        go_roundw
        case rel => exact ⟨k + 1, Hlt.out, by go_num, HR2, HW⟩
        case measure => have := Hlt.out; simp [intOf]; omega
    · obtain rfl : k = s.size := by omega
      have HR2 : Hid (d = false) := Lib.hid (by rw [HR.out, drop_end]; rfl)
      clear hlt HR
      go_wp2_with fail
      go_ret
      exact ⟨by rw [HR2.out]; rfl, HW.out.symm⟩

set_option maxHeartbeats 1000000 in
theorem bare_any (s : ByteArray) (w : World) (hz : s.size ≤ 140737488351232) : Calls Tryz.prog 55 #[.string s] w fun e w' => e = .returned (.bool (!(Lib.containsAny s.data.toList [10, 13]))) ∧ w = w' := by
  obtain ⟨d, hd⟩ : ∃ d, d = !(Lib.containsAny s.data.toList [10, 13]) := ⟨_, rfl⟩
  rw [← hd]
  rw [any_mem] at hd
  have Hd := Lib.hid hd
  clear hd
  go_enter Tryz.func55, Tryz.ntmps55
  go_wp2_with fail
  go_loopw [3] (fun i wr => ∃ (k : Nat), k ≤ s.size ∧ i = .int .i64 k ∧ Hid (d = !((s.data.toList.drop k).any fun x => ([10, 13] : List UInt8).contains x)) ∧ Hid (wr = w)) (fun i _ => s.size - (intOf i).toNat)
  case atStart => exact ⟨0, Nat.zero_le _, rfl, Lib.hid (by rw [Hd.out]; rfl), Lib.hid rfl⟩
  case round =>
    obtain ⟨k, hk, rfl, HR, HW⟩ := hrel
    by_cases hlt : k < s.size
    · have hkn : (k : Int) < (s.size : Int) := by omega
      have hk0 : (0 : Int) ≤ (k : Int) := by omega
      have hrel := HR.out
      rw [drop_at hlt, List.any_cons] at hrel
      by_cases h10 : s[k] = 10
      · have q1 : ((s[k].toNat : Int) == 10) = true := by rw [h10]; rfl
        have HR2 : Hid (d = false) := Lib.hid (by rw [hrel, h10]; rfl)
        have Hlt := Lib.hid hlt
        clear h10 hrel HR
        go_wp2_with fail
        go_ret
        exact ⟨by rw [HR2.out]; rfl, HW.out.symm⟩
      · have n10 : s[k].toNat ≠ 10 := ne_toNat (by decide) h10
        have q1 : ((s[k].toNat : Int) == 10) = false := by simp; omega
        by_cases h13 : s[k] = 13
        · have q2 : ((s[k].toNat : Int) == 13) = true := by rw [h13]; rfl
          have HR2 : Hid (d = false) := Lib.hid (by rw [hrel, h13]; rfl)
          have Hlt := Lib.hid hlt
          clear h10 h13 hrel HR n10
          go_wp2_with fail
          go_ret
          exact ⟨by rw [HR2.out]; rfl, HW.out.symm⟩
        · have n13 : s[k].toNat ≠ 13 := ne_toNat (by decide) h13
          have q2 : ((s[k].toNat : Int) == 13) = false := by simp; omega
          have e13 : ([10, 13] : List UInt8).contains s[k] = false := by simp [h10, h13]
          rw [e13, Bool.false_or] at hrel
          have HR2 := Lib.hid hrel
          have Hlt := Lib.hid hlt
          clear h10 h13 hrel HR e13 n13 n10
          go_wp2_with fail
          go_roundw
          case rel => exact ⟨k + 1, Hlt.out, by go_num, HR2, HW⟩
          case measure => have := Hlt.out; simp [intOf]; omega
    · obtain rfl : k = s.size := by omega
      have HR2 : Hid (d = true) := Lib.hid (by rw [HR.out, drop_end]; rfl)
      clear hlt HR
      go_wp2_with fail
      go_ret
      exact ⟨by rw [HR2.out]; rfl, HW.out.symm⟩

set_option maxHeartbeats 1000000 in
theorem plain_any (s : ByteArray) (w : World) (hz : s.size ≤ 140737488351232) : Calls Tryz.prog 35 #[.string s] w fun e w' => e = .returned (.bool (nB s)) ∧ w = w' := by
  have HC := Lib.hid (bare_any s w hz)
  by_cases h0 : s.size = 0
  · have he : (s.toList == ([] : List UInt8)) = true := by rw [empty_iff, decide_eq_true h0]
    have HV : Hid (nB s = false) := Lib.hid (by rw [nB, decide_eq_false (by omega)]; rfl)
    clear h0 hz
    go_enter Tryz.func35, Tryz.ntmps35
    go_wp2_with fail
    go_ret
    exact ⟨by rw [HV.out]; rfl, rfl⟩
  · have he : (s.toList == ([] : List UInt8)) = false := by rw [empty_iff, decide_eq_false h0]
    by_cases h8 : 80 < s.size
    · have h8' : (80 : Int) < (s.size : Int) := by omega
      have HV : Hid (nB s = false) := Lib.hid (by rw [nB, vB, decide_eq_false (p := s.size ≤ 80) (by omega)]; simp)
      clear h0 hz h8
      go_enter Tryz.func35, Tryz.ntmps35
      go_wp2_with fail
      go_ret
      exact ⟨by rw [HV.out]; rfl, rfl⟩
    · have h8' : ¬ (80 : Int) < (s.size : Int) := by omega
      obtain ⟨v, hv⟩ : ∃ v, v = !(Lib.containsAny s.data.toList [10, 13]) := ⟨_, rfl⟩
      rw [← hv] at HC
      have HV : Hid (nB s = v) := Lib.hid (by rw [nB, vB, decide_eq_true (p := 0 < s.size) (by omega), decide_eq_true (p := s.size ≤ 80) (by omega), hv]; rfl)
      clear h0 hz h8 hv
      go_enter Tryz.func35, Tryz.ntmps35
      go_wp2_with fail
      (with_reducible refine HC.out.mono ?_)
      rintro e w1 ⟨rfl, rfl⟩
      go_wp2_with fail
      go_ret
      exact ⟨by rw [HV.out]; rfl, rfl⟩

set_option maxHeartbeats 1000000 in
theorem rcolumn_any (s : ByteArray) (w : World) (hz : s.size ≤ 140737488351232) : Calls Tryz.prog 36 #[.string s] w fun e w' => e = .returned (.bool (cB s)) ∧ w = w' := by
  have HC := Lib.hid (plain_any s w hz)
  obtain ⟨v, hv⟩ : ∃ v, v = nB s := ⟨_, rfl⟩
  rw [← hv] at HC
  have HV : Hid (cB s = (v && !(s.toList == [107, 101, 121]))) := Lib.hid (by rw [hv]; rfl)
  clear hv hz
  cases v with
  | false =>
    go_enter Tryz.func36, Tryz.ntmps36
    go_wp2_with fail
    (with_reducible refine HC.out.mono ?_)
    rintro e w1 ⟨rfl, rfl⟩
    go_wp2_with fail
    go_ret
    exact ⟨by rw [HV.out]; rfl, rfl⟩
  | true =>
    obtain ⟨u, hu⟩ : ∃ u, u = (s.toList == [107, 101, 121]) := ⟨_, rfl⟩
    rw [← hu] at HV
    have hu' := hu.symm
    clear hu
    go_enter Tryz.func36, Tryz.ntmps36
    go_wp2_with fail
    (with_reducible refine HC.out.mono ?_)
    rintro e w1 ⟨rfl, rfl⟩
    go_wp2_with fail
    go_ret
    exact ⟨by rw [HV.out]; rfl, rfl⟩

set_option maxHeartbeats 1000000 in
theorem rvalue7_any (s : ByteArray) (w : World) (hz : s.size ≤ 140737488351232) : Calls Tryz.prog 75 #[.string s] w fun e w' => e = .returned (.bool (vB s)) ∧ w = w' := by
  have HC := Lib.hid (bare_any s w hz)
  obtain ⟨v, hv⟩ : ∃ v, v = !(Lib.containsAny s.data.toList [10, 13]) := ⟨_, rfl⟩
  rw [← hv] at HC
  by_cases h8 : s.size ≤ 80
  · have h8' : (s.size : Int) ≤ 80 := by omega
    have HV : Hid (vB s = v) := Lib.hid (by rw [vB, decide_eq_true h8, hv]; rfl)
    clear hz h8 hv
    go_enter Tryz.func75, Tryz.ntmps75
    go_wp2_with fail
    (with_reducible refine HC.out.mono ?_)
    rintro e w1 ⟨rfl, rfl⟩
    go_wp2_with fail
    go_ret
    exact ⟨by rw [HV.out]; rfl, rfl⟩
  · have h8' : ¬ (s.size : Int) ≤ 80 := by omega
    have HV : Hid (vB s = false) := Lib.hid (by rw [vB, decide_eq_false h8]; rfl)
    clear hz h8 hv
    go_enter Tryz.func75, Tryz.ntmps75
    go_wp2_with fail
    go_ret
    exact ⟨by rw [HV.out]; rfl, rfl⟩
end Go.Proofs.YtkgpjohfkfbfhaaGreatDoor.Cv
