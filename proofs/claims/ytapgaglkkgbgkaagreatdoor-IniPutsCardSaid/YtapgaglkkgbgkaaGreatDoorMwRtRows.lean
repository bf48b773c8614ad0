/- csv: lines that are written are read as they are. No conditions. · csv: a tree that fits, put into a file that was read, is read as that tree. Conditions: the tree's edges are in order, and the file is not too long. · ini: the shape of the parts of a file that was read; what is written over a row. No conditions. -/
import Derived.Test.YtapgaglkkgbgkaaGreatDoorMwRcRows
import Derived.Test.YtapgaglkkgbgkaaGreatDoorCwPut
namespace Go.Proofs.YtapgaglkkgbgkaaGreatDoor.Cv
open Go.RowKit Go.Sort Go.Proofs.YtapgaglkkgbgkaaGreatDoor.Jd Go.Proofs.YtapgaglkkgbgkaaGreatDoor.Li Go.Proofs.YtapgaglkkgbgkaaGreatDoor.Cl Go.Proofs.YtapgaglkkgbgkaaGreatDoor.Pt
set_option maxRecDepth 100000

/-- The fields of a line that means these, with what they mean. -/
def fieldP : List ByteArray → List Ln → List Ln
  | [], _ => []
  | m :: ms, [] => (qF m.data.toList, m.data.toList) :: fieldP ms []
  | m :: ms, x :: xs => (if ((ByteArray.mk x.2.toArray).toList == m.toList) = true then x.1 else qF m.data.toList, m.data.toList) :: fieldP ms xs
theorem fieldP_raw : ∀ (ms : List ByteArray) (fs : List Ln), (fieldP ms fs).map (·.1) = fieldF ms fs
  | [], _ => by simp [fieldP, fieldF]
  | m :: ms, [] => by simp [fieldP, fieldF, fieldP_raw ms []]
  | m :: ms, x :: xs => by simp [fieldP, fieldF, fieldP_raw ms xs]
theorem fieldP_mns : ∀ (ms : List ByteArray) (fs : List Ln), mns (fieldP ms fs) = ms
  | [], _ => by simp [fieldP, mns]
  | m :: ms, [] => by
    have := fieldP_mns ms []
    simp only [mns, fieldP, List.map_cons] at this ⊢
    rw [this]
  | m :: ms, x :: xs => by
    have := fieldP_mns ms xs
    simp only [mns, fieldP, List.map_cons] at this ⊢
    rw [this]
theorem fieldP_wf : ∀ (ms : List ByteArray) (fs : List Ln), (∀ x ∈ fs, Wf x.1 x.2) → ∀ x ∈ fieldP ms fs, Wf x.1 x.2
  | [], _, _, x, hx => by simp [fieldP] at hx
  | m :: ms, [], h, x, hx => by
    rw [fieldP] at hx
    rcases List.mem_cons.1 hx with rfl | hx
    · exact wf_q _
    · exact fieldP_wf ms [] h x hx
  | m :: ms, y :: ys, h, x, hx => by
    rw [fieldP] at hx
    rcases List.mem_cons.1 hx with rfl | hx
    · dsimp only
      split
      · rename_i he
        have e : y.2 = m.data.toList := by
          have h1 := beq_iff_eq.1 he
          rw [ByteArray.toList_eq, ByteArray.toList_eq] at h1
          simpa using h1
        rw [← e]
        exact h y (by simp)
      · exact wf_q _
    · exact fieldP_wf ms ys (fun z hz => h z (by simp [hz])) x hx
theorem fieldP_ne {ms : List ByteArray} (h : ms ≠ []) (fs : List Ln) : fieldP ms fs ≠ [] := by
  intro e
  have := fieldP_mns ms fs
  rw [e] at this
  exact h this.symm
theorem fldsL_field {ms : List ByteArray} {fs : List Ln} (h : ms ≠ []) (hw : ∀ x ∈ fs, Wf x.1 x.2) : fldsL (Lib.join (fieldF ms fs) [44]) = fieldP ms fs := by
  have hj := fldsR_join (fieldP ms fs) (fieldP_ne h fs) (fieldP_wf ms fs hw) ((Lib.join (fieldF ms fs) [44]).length + 1) (by rw [fieldP_raw]; exact Nat.lt_succ_self _)
  rw [fieldP_raw] at hj
  rw [fldsL, ← fldsR_eq, hj]
  rfl
theorem fldsL_wf (l : Bs) : ∀ x ∈ fldsL l, Wf x.1 x.2 := by
  intro x hx
  rw [fldsL, ← fldsR_eq] at hx
  cases h : fldsR (l.length + 1) l with
  | none => rw [h] at hx; cases hx
  | some fs => rw [h] at hx; exact flds_wf _ _ _ h x hx
theorem vB_bytes {z : ByteArray} (h : vB z = true) : (10 : UInt8) ∉ z.data.toList ∧ (13 : UInt8) ∉ z.data.toList := by
  rw [vB, Bool.and_eq_true, any_mem] at h
  have h2 : (z.data.toList.any fun x => ([10, 13] : List UInt8).contains x) = false := by simpa using h.2
  rw [List.any_eq_false] at h2
  exact ⟨fun hm => h2 10 hm rfl, fun hm => h2 13 hm rfl⟩
/-- No line's end in a line. -/
theorem field_clean {ms : List ByteArray} {fs : List Ln} (hw : ∀ x ∈ fs, Wf x.1 x.2) (hv : ∀ m ∈ ms, vB m = true) (b : UInt8) (hb : b = 10 ∨ b = 13) : b ∉ Lib.join (fieldF ms fs) [44] := by
  intro hm
  rw [← fieldP_raw] at hm
  rcases join_bytes _ _ hm with e | ⟨x, hx, hbx⟩
  · rcases hb with rfl | rfl <;> cases e
  · obtain ⟨y, hy, rfl⟩ := List.mem_map.1 hx
    rcases wf_bytes (fieldP_wf ms fs hw y hy) b hbx with e | e
    · rcases hb with rfl | rfl <;> cases e
    · have hz : (⟨y.2.toArray⟩ : ByteArray) ∈ ms := by
        rw [← fieldP_mns ms fs]
        exact List.mem_map_of_mem (f := fun x : Ln => (⟨x.2.toArray⟩ : ByteArray)) hy
      have := vB_bytes (hv _ hz)
      rcases hb with rfl | rfl
      · exact this.1 (by simpa using e)
      · exact this.2 (by simpa using e)
theorem spl_cut : ∀ (t cur b : Bs), (10 : UInt8) ∉ t → spl cur (t ++ 10 :: b) = cut (cur ++ t) :: spl [] b
  | [], cur, b, _ => by rw [List.nil_append, List.append_nil, spl, if_pos rfl]
  | c :: t, cur, b, h => by
    rw [List.mem_cons, not_or] at h
    rw [List.cons_append, spl, if_neg (Ne.symm h.1), spl_cut t (cur ++ [c]) b h.2, List.append_assoc]
    rfl
theorem cut_plain {t : Bs} (h : (13 : UInt8) ∉ t) : cut t = (t, [10]) := by
  unfold cut
  rw [if_neg (fun e => h (List.mem_of_getLast? e))]
theorem cut_cr (t : Bs) : cut (t ++ [13]) = (t, [13, 10]) := by
  unfold cut
  rw [if_pos (by simp)]
  simp
theorem split_join : ∀ (ls : List Ln), Li.Good ls → (∀ x ∈ ls, (13 : UInt8) ∉ x.1) → split (join ls) = ls
  | [], _, _ => rfl
  | [x], ⟨h1, h2⟩, h13 => by
    have h3 := h13 x (by simp)
    obtain ⟨t, e⟩ := x
    rcases h2 with (h2 | h2) | ⟨h2, h4⟩
    · dsimp only at h1 h2 h3
      subst h2
      rw [join, join, List.append_nil, split, spl_cut t [] [] h1, List.nil_append, cut_plain h3]
      rfl
    · dsimp only at h1 h2 h3
      subst h2
      rw [join, join, List.append_nil, split]
      show spl [] (t ++ 13 :: 10 :: []) = _
      rw [show t ++ 13 :: 10 :: [] = (t ++ [13]) ++ 10 :: [] by simp, spl_cut _ _ _ (by simp [h1]), List.nil_append, cut_cr]
      rfl
    · dsimp only at h1 h2 h4
      subst h2
      rw [join, join, List.append_nil, List.append_nil, split, spl_none _ _ h1, List.nil_append, spl, if_neg h4]
  | x :: y :: r, ⟨h1, h2, h3⟩, h13 => by
    have h4 := h13 x (by simp)
    have ih := split_join (y :: r) h3 (fun z hz => h13 z (by simp [hz]))
    obtain ⟨t, e⟩ := x
    rcases h2 with h2 | h2
    · dsimp only at h1 h2 h4
      subst h2
      rw [join, split]
      show spl [] ((t ++ [10]) ++ join (y :: r)) = _
      rw [List.append_assoc, List.singleton_append, spl_cut t [] _ h1, List.nil_append, cut_plain h4]
      rw [split] at ih
      rw [ih]
    · dsimp only at h1 h2 h4
      subst h2
      rw [join, split]
      show spl [] ((t ++ [13, 10]) ++ join (y :: r)) = _
      rw [show (t ++ [13, 10]) ++ join (y :: r) = (t ++ [13]) ++ 10 :: join (y :: r) by simp, spl_cut _ _ _ (by simp [h1]), List.nil_append, cut_cr]
      rw [split] at ih
      rw [ih]
theorem good_ended {E : Bs} (hE : Fin E) : ∀ (ls : List Ln), (∀ x ∈ ls, (10 : UInt8) ∉ x.1 ∧ x.1 ≠ [] ∧ (Fin x.2 ∨ x.2 = [])) → Li.Good (ended E ls)
  | [], _ => trivial
  | [x], h => by
    obtain ⟨h1, h2, h3⟩ := h x (by simp)
    exact ⟨h1, h3.imp id (fun e => ⟨e, h2⟩)⟩
  | x :: y :: r, h => by
    obtain ⟨h1, h2, h3⟩ := h x (by simp)
    rw [ended]
    refine Li.Good.cons h1 ?_ (good_ended hE (y :: r) (fun z hz => h z (by simp [hz])))
    dsimp only
    by_cases h0 : x.2 = []
    · rw [if_pos h0]; exact hE
    · rw [if_neg h0]; exact h3.elim id (fun e => absurd e h0)
theorem ended_texts (E : Bs) : ∀ ls : List Ln, (ended E ls).map (·.1) = ls.map (·.1)
  | [] => rfl
  | [_] => rfl
  | x :: y :: r => by rw [ended, List.map_cons, ended_texts E (y :: r)]; rfl
theorem good_ends : ∀ (ls : List Ln), Li.Good ls → ∀ x ∈ ls, Fin x.2 ∨ x.2 = []
  | [x], ⟨_, h⟩, y, hy => by
    obtain rfl := List.mem_singleton.1 hy
    exact h.imp id (·.1)
  | x :: y :: r, ⟨_, h2, h3⟩, z, hz => by
    rcases List.mem_cons.1 hz with rfl | hz
    · exact .inl h2
    · exact good_ends (y :: r) h3 z hz
/-- Rows that may stand behind a head. -/
def RecOk (h r : Rw) : Prop := r.fs ≠ [] ∧ r.fs.length = h.fs.length ∧ nB (nm r) = true ∧ (mns r.fs).all vB = true
theorem rowsF_run (h : Rw) : ∀ (xs : List Ln) (acc : List Rw) (i : Nat), (∀ x ∈ xs, RecOk h (rowF x)) → ((acc ++ xs.map rowF).map fun r => (nm r).data.toList).Nodup → rowsF (h :: acc) i xs = (h :: (acc ++ xs.map rowF), 0, 0)
  | [], acc, i, _, _ => by rw [rowsF, List.map_nil, List.append_nil]
  | x :: xs, acc, i, ho, hn => by
    obtain ⟨h1, h2, h3, h4⟩ := ho x (by simp)
    have hf : faultF (h :: acc) (rowF x) = 0 := by
      unfold faultF
      rw [if_neg h1]
      dsimp only
      rw [if_neg (fun e => e h2), if_neg (by rw [h3]; decide), if_neg (by rw [h4]; decide), if_neg]
      intro e
      obtain ⟨y, hy, e⟩ := List.any_eq_true.1 e
      rw [List.map_append, List.map_cons, List.map_cons, List.nodup_append] at hn
      refine hn.2.2 _ (List.mem_map_of_mem (f := fun r => (nm r).data.toList) hy) _ (List.mem_cons_self ..) ?_
      have := beq_iff_eq.1 e
      rwa [ByteArray.toList_eq, ByteArray.toList_eq] at this
    rw [rowsF, if_neg (fun e => e hf)]
    have e : (h :: acc) ++ [rowF x] = h :: (acc ++ [rowF x]) := rfl
    rw [e, rowsF_run h xs (acc ++ [rowF x]) (i + 1) (fun z hz => ho z (by simp [hz])) (by simpa using hn)]
    simp
theorem rowsF_all (x : Ln) (xs : List Ln) (h0 : (rowF x).fs ≠ []) (hh : headF (mns (rowF x).fs) = 0) (ho : ∀ y ∈ xs, RecOk (rowF x) (rowF y)) (hn : (xs.map fun y => (nm (rowF y)).data.toList).Nodup) : rowsF [] 0 (x :: xs) = (rowF x :: xs.map rowF, 0, 0) := by
  have hf : faultF [] (rowF x) = 0 := by
    unfold faultF
    rw [if_neg h0]
    exact hh
  rw [rowsF, if_neg (fun e => e hf)]
  have := rowsF_run (rowF x) xs [] 1 ho (by simpa [Function.comp_def] using hn)
  simpa using this
/-- A file that was read: its rows, and what is known of them. -/
theorem rowsF_inv : ∀ (ls : List Ln) (ahead : List Rw) (i : Nat) (rows : List Rw), rowsF ahead i ls = (rows, 0, 0) → rows = ahead ++ ls.map rowF
  | [], ahead, i, rows, h => by rw [rowsF] at h; injection h with h _; simp [h]
  | x :: r, ahead, i, rows, h => by
    rw [rowsF] at h
    by_cases hf : faultF ahead (rowF x) ≠ 0
    · rw [if_pos hf] at h
      injection h with _ h
      injection h with _ h
      exact absurd h hf
    · rw [if_neg hf] at h
      rw [rowsF_inv r _ _ rows h]
      simp
theorem rowsF_recs : ∀ (ls : List Ln) (h : Rw) (acc : List Rw) (i : Nat) (rows : List Rw), rowsF (h :: acc) i ls = (rows, 0, 0) → ∀ x ∈ ls, RecOk h (rowF x)
  | [], _, _, _, _, _, x, hx => by cases hx
  | y :: r, h, acc, i, rows, hr, x, hx => by
    rw [rowsF] at hr
    by_cases hf : faultF (h :: acc) (rowF y) ≠ 0
    · rw [if_pos hf] at hr
      injection hr with _ hr
      injection hr with _ hr
      exact absurd hr hf
    · rw [if_neg hf] at hr
      rcases List.mem_cons.1 hx with rfl | hx
      · have h1 := fault_fs hf
        unfold faultF at hf
        rw [if_neg h1] at hf
        dsimp only at hf
        split at hf
        · exact absurd (by decide) hf
        · rename_i c1
          split at hf
          · exact absurd (by decide) hf
          · rename_i c2
            split at hf
            · exact absurd (by decide) hf
            · rename_i c3
              exact ⟨h1, Decidable.not_not.1 c1, by simpa using c2, by simpa using c3⟩
      · exact rowsF_recs r h (acc ++ [rowF y]) (i + 1) rows hr x hx
end Go.Proofs.YtapgaglkkgbgkaaGreatDoor.Cv
namespace Go.Proofs.YtapgaglkkgbgkaaGreatDoor.Cv
open Go.RowKit Go.Sort Go.Proofs.YtapgaglkkgbgkaaGreatDoor.Jd Go.Proofs.YtapgaglkkgbgkaaGreatDoor.Li Go.Proofs.YtapgaglkkgbgkaaGreatDoor.Cl Go.Proofs.YtapgaglkkgbgkaaGreatDoor.Pt
set_option maxRecDepth 100000

theorem allT_mem {f : ByteArray → Tr → Bool} : ∀ {t : Tr}, allT f t = true → ∀ e ∈ eds t, f e.1 e.2 = true
  | .nil, _, e, he => by cases he
  | .cons s k r, h, e, he => by
    rw [allT, Bool.and_eq_true] at h
    rcases List.mem_cons.1 he with rfl | he
    · exact h.1
    · exact allT_mem h.2 e he
theorem fcB_form {s : ByteArray} {k : Tr} (h : fcB s k = true) : cB s = true ∧ ∃ v, k = .cons v .nil .nil ∧ nB v = true := by
  unfold fcB at h
  rw [Bool.and_eq_true] at h
  refine ⟨h.1, ?_⟩
  have h2 := h.2
  cases k with
  | nil => cases h2
  | cons v k2 r =>
    cases r with
    | cons _ _ _ => cases h2
    | nil =>
      have h3 : fvB v k2 = true := h2
      rw [fvB, Bool.and_eq_true, decide_eq_true_eq] at h3
      cases k2 with
      | nil => exact ⟨v, rfl, h3.1⟩
      | cons _ _ _ => exact absurd h3.2 (by simp [Tr.len])
theorem mem_eds : ∀ {t : Tr}, t.Asc → ∀ (q : ByteArray) (k : Tr), (q, k) ∈ eds t ↔ t.atIs q = true ∧ kidT t q = k
  | .nil, _, q, k => by
    constructor
    · intro h; cases h
    · rintro ⟨h, _⟩; cases h
  | .cons s kk r, ha, q, k => by
    have har : r.Asc := (List.pairwise_cons.1 ha).2
    have hlt := (List.pairwise_cons.1 ha).1
    have ih := mem_eds har q k
    rw [eds, List.mem_cons]
    rcases cases3 s q with c | ⟨c, d⟩ | ⟨c, d, d2⟩
    · rw [Pt.atIs_lt c, kidT_lt c, ← ih]
      constructor
      · rintro (h | h)
        · injection h with h1 h2
          subst h1
          exact absurd c (by rw [self_not_lt]; decide)
        · exact h
      · exact .inr
    · have e := names_of_eq d
      subst e
      rw [atIs_ge c, kidT_eq c d]
      constructor
      · rintro (h | h)
        · injection h with h1 h2
          exact ⟨d, h2.symm⟩
        · exfalso
          have hm : s.data.toList ∈ r.bn := by rw [eds_bn]; exact List.mem_map_of_mem (f := fun e : ByteArray × Tr => e.1.data.toList) h
          exact List.lt_irrefl _ (hlt _ hm)
      · rintro ⟨_, h⟩
        exact .inl (by rw [h])
    · rw [atIs_ge c, kidT_gt c d, d]
      constructor
      · rintro (h | h)
        · injection h with h1 h2
          subst h1
          rw [self_eq] at d
          cases d
        · exfalso
          have hm : q.data.toList ∈ r.bn := by rw [eds_bn]; exact List.mem_map_of_mem (f := fun e : ByteArray × Tr => e.1.data.toList) h
          have h1 := hlt _ hm
          have h2 := (less_iff s q).2 h1
          rw [h2] at c
          cases c
      · rintro ⟨h, _⟩
        cases h
theorem eds_nodup {t : Tr} (h : t.Asc) : (eds t).Nodup := by
  have h2 := h
  unfold Tr.Asc at h2
  rw [eds_bn, List.pairwise_map] at h2
  exact h2.imp fun hab e => by rw [e] at hab; exact List.lt_irrefl _ hab
theorem nodup_of_names {es : List (ByteArray × Tr)} (h : (es.map (·.1.data.toList)).Nodup) : es.Nodup := by
  rw [List.Nodup, List.pairwise_map] at h
  exact h.imp fun hab e => hab (by rw [e])
/-- Edges with distinct names, the same ones as a tree's in order: sorted they are it. -/
theorem srt_is {t u : Tr} (hn : u.bn.Nodup) (ha : t.Asc) (hm : ∀ q k, (q, k) ∈ eds u ↔ (q, k) ∈ eds t) : srtE u = t := by
  refine asc_perm (srt_asc hn) ha ((srt_perm u).trans ?_)
  rw [List.perm_ext_iff_of_nodup (nodup_of_names (by rw [← eds_bn]; exact hn)) (eds_nodup ha)]
  rintro ⟨q, k⟩
  exact hm q k
theorem getT_one (t : Tr) (c : ByteArray) : getT t [c] = if t.atIs c = true then (kidT t c, true) else (.nil, false) := by
  rw [getT]
  split <;> rfl
/-- A row's values: where it has none, no text. -/
theorem valF_is {k : Tr} (ha : k.Asc) (hf : allT fcB k = true) (c : ByteArray) : (k.atIs c = true → kidT k c = .cons (valF k c) .nil .nil ∧ nB (valF k c) = true) ∧ (k.atIs c = false → valF k c = ⟨#[]⟩) := by
  constructor
  · intro h
    have hm := (mem_eds ha c (kidT k c)).2 ⟨h, rfl⟩
    obtain ⟨_, v, e, hv⟩ := fcB_form (allT_mem hf _ hm)
    dsimp only at e
    have : valF k c = v := by
      unfold valF
      rw [getT_one, if_pos h, e]
    rw [this]
    exact ⟨e, hv⟩
  · intro h
    unfold valF
    rw [getT_one, if_neg (by rw [h]; decide)]
theorem nB_size {z : ByteArray} (h : nB z = true) : z.size ≠ 0 := by
  rw [nB, Bool.and_eq_true, decide_eq_true_eq] at h
  omega
theorem vB_empty : vB ⟨#[]⟩ = true := by decide
theorem nB_vB {z : ByteArray} (h : nB z = true) : vB z = true := by
  rw [nB, Bool.and_eq_true] at h
  exact h.2
theorem cB_nB {z : ByteArray} (h : cB z = true) : nB z = true := by
  rw [cB, Bool.and_eq_true] at h
  exact h.1
theorem rawB_mem {k : Tr} (ha : k.Asc) (hf : allT fcB k = true) : ∀ (cols : List ByteArray) (q : ByteArray) (k2 : Tr), (q, k2) ∈ eds (rawB cols (cols.map (valF k))) ↔ q ∈ cols ∧ k.atIs q = true ∧ kidT k q = k2
  | [], q, k2 => by
    unfold rawB
    constructor
    · intro h; cases h
    · rintro ⟨h, _⟩; cases h
  | c :: cols, q, k2 => by
    have ih := rawB_mem ha hf cols q k2
    obtain ⟨h1, h2⟩ := valF_is ha hf c
    rw [List.map_cons, rawB]
    cases hc : k.atIs c with
    | true =>
      obtain ⟨e, hv⟩ := h1 hc
      rw [if_neg (nB_size hv), eds, List.mem_cons, ih, List.mem_cons]
      constructor
      · rintro (h | ⟨a, b, d⟩)
        · injection h with e1 e2
          subst e1
          exact ⟨.inl rfl, hc, by rw [e, e2]⟩
        · exact ⟨.inr a, b, d⟩
      · rintro ⟨h | h, b, d⟩
        · subst h
          left
          rw [← d, e]
        · exact .inr ⟨h, b, d⟩
    | false =>
      rw [if_pos (by rw [h2 hc]; rfl), ih, List.mem_cons]
      constructor
      · rintro ⟨a, b, d⟩
        exact ⟨.inr a, b, d⟩
      · rintro ⟨h | h, b, d⟩
        · subst h
          rw [hc] at b
          cases b
        · exact ⟨h, b, d⟩
/-- A row's tree, from its fields. -/
theorem kid_back {k : Tr} (ha : k.Asc) (hf : allT fcB k = true) {cols : List ByteArray} (hn : (cols.map (·.data.toList)).Nodup) (hc : ∀ s ∈ k.names, s ∈ cols) : srtE (rawB cols (cols.map (valF k))) = k := by
  refine srt_is (rawB_nodup _ _ hn) ha fun q k2 => ?_
  rw [rawB_mem ha hf, mem_eds ha]
  constructor
  · rintro ⟨_, h⟩; exact h
  · rintro ⟨h1, h2⟩
    refine ⟨hc q ?_, h1, h2⟩
    have hm := (mem_atIs ha).1 h1
    rw [Tr.bn] at hm
    obtain ⟨s, hs, e⟩ := List.mem_map.1 hm
    have : s = q := bytes_eq (by rw [ByteArray.toList_eq, ByteArray.toList_eq, e])
    rwa [← this]
theorem eds_recs (cols : List ByteArray) : ∀ rs : List Rw, eds (recsT srtE cols rs) = rs.map fun r => (nm r, srtE (rawB cols (mns r.fs.tail)))
  | [] => rfl
  | r :: rs => by rw [recsT, eds, eds_recs cols rs]; rfl
/-- Rows whose names are a tree's, each with what the tree has there, make the tree. -/
theorem rows_back {t : Tr} (ha : AscD t) (hf : allT frB t = true) {cols : List ByteArray} (hn : (cols.map (·.data.toList)).Nodup) (hc : ∀ k ∈ kidsL t, ∀ s ∈ k.names, s ∈ cols) {rs : List Rw}
    (hr : ∀ r ∈ rs, t.atIs (nm r) = true ∧ mns r.fs.tail = cols.map (valF (kidT t (nm r)))) (hd : (rs.map fun r => (nm r).data.toList).Nodup) (hall : ∀ q, t.atIs q = true → ∃ r ∈ rs, nm r = q) : srtE (recsT srtE cols rs) = t := by
  have hat := AscD.asc ha
  have key : ∀ r ∈ rs, srtE (rawB cols (mns r.fs.tail)) = kidT t (nm r) := by
    intro r hr1
    obtain ⟨h1, h2⟩ := hr r hr1
    have hm := (mem_eds hat (nm r) _).2 ⟨h1, rfl⟩
    have hfr := allT_mem hf _ hm
    rw [frB, Bool.and_eq_true] at hfr
    rw [h2]
    refine kid_back (AscD.asc (kidT_asc ha)) hfr.2 hn (hc _ ?_)
    have hk : ∀ (u : Tr) (e : ByteArray × Tr), e ∈ eds u → e.2 ∈ kidsL u := by
      intro u
      induction u with
      | nil => intro e h; cases h
      | cons s k r _ ih =>
        intro e h
        rcases List.mem_cons.1 h with rfl | h
        · exact List.mem_cons_self ..
        · exact List.mem_cons_of_mem _ (ih e h)
    exact hk t _ hm
  refine srt_is (by rw [recs_bn]; exact hd) hat fun q k => ?_
  rw [eds_recs, List.mem_map, mem_eds hat]
  constructor
  · rintro ⟨r, hr1, e⟩
    injection e with e1 e2
    subst e1
    exact ⟨(hr r hr1).1, by rw [← key r hr1, e2]⟩
  · rintro ⟨h1, h2⟩
    obtain ⟨r, hr1, e⟩ := hall q h1
    refine ⟨r, hr1, ?_⟩
    rw [key r hr1, e, h2]
/-- What is known of a file that was read. -/
structure FileOk (hd : Rw) (x0 : Ln) (xl : List Ln) (rs : List Rw) : Prop where
  head : hd.fs = x0 :: xl
  hf : headF (mns hd.fs) = 0
  recs : ∀ r ∈ rs, RecOk hd r
  nod : (rs.map fun r => (nm r).data.toList).Nodup
  wf : ∀ r ∈ hd :: rs, ∀ x ∈ r.fs, Wf x.1 x.2
  ends : ∀ r ∈ hd :: rs, Fin r.en.data.toList ∨ r.en.data.toList = []
theorem file_ok {l : Bs} {hd : Rw} {x0 : Ln} {xl : List Ln} {rs : List Rw} (h : rowsF [] 0 (split l) = (hd :: rs, 0, 0)) (hh : hd.fs = x0 :: xl) : FileOk hd x0 xl rs := by
  have hi := rowsF_inv _ _ _ _ h
  rw [List.nil_append] at hi
  have hnod := rowsF_nod (split l) [] 0 trivial (by rw [h])
  rw [h] at hnod
  cases hs : split l with
  | nil => rw [hs] at hi; cases hi
  | cons y ys =>
    rw [hs, List.map_cons] at hi
    injection hi with h1 h2
    have h3 := h
    rw [hs, rowsF] at h3
    by_cases hf : faultF [] (rowF y) ≠ 0
    · rw [if_pos hf] at h3
      injection h3 with _ h3
      injection h3 with _ h3
      exact absurd h3 hf
    · rw [if_neg hf, List.nil_append, ← h1] at h3
      have h0 := fault_fs hf
      have hf0 : headF (mns hd.fs) = 0 := by
        have := Decidable.not_not.1 hf
        unfold faultF at this
        rw [if_neg h0, ← h1] at this
        exact this
      have hends := good_ends _ (split_good l)
      rw [hs] at hends
      refine ⟨hh, hf0, ?_, hnod.2, ?_, ?_⟩
      · intro r hr
        rw [h2] at hr
        obtain ⟨z, hz, rfl⟩ := List.mem_map.1 hr
        exact rowsF_recs ys hd [] 1 _ h3 z hz
      · intro r hr
        rw [h1, h2, ← List.map_cons (f := rowF)] at hr
        obtain ⟨z, _, rfl⟩ := List.mem_map.1 hr
        exact fldsL_wf z.1
      · intro r hr
        rw [h1, h2, ← List.map_cons (f := rowF)] at hr
        obtain ⟨z, hz, rfl⟩ := List.mem_map.1 hr
        have := hends z hz
        simpa [rowF] using this
theorem head_facts {m : ByteArray} {cols : List ByteArray} (h : headF (m :: cols) = 0) : m = kB ∧ cols.all cB = true ∧ cols.Nodup := by
  rw [headF] at h
  split at h
  · exact absurd h (by decide)
  · rename_i c1
    split at h
    · exact absurd h (by decide)
    · rename_i c2
      split at h
      · exact absurd h (by decide)
      · rename_i c3
        refine ⟨bytes_eq ?_, by simpa using c2, (dup_nodup _ _ (by simpa using c3)).1⟩
        have : m.toList = [107, 101, 121] := by simpa using c1
        rw [this, ByteArray.toList_eq]
theorem nodup_dup : ∀ (l a : List ByteArray), l.Nodup → (∀ z ∈ l, z ∉ a) → dupF a l = false
  | [], _, _, _ => rfl
  | x :: r, a, h, ha => by
    rw [List.nodup_cons] at h
    rw [dupF, Bool.or_eq_false_iff]
    refine ⟨?_, nodup_dup r (a ++ [x]) h.2 (fun z hz hm => ?_)⟩
    · rw [Bool.eq_false_iff]
      intro e
      exact ha x (by simp) ((Lib.containsS_iff a x).1 e)
    · rcases List.mem_append.1 hm with hm | hm
      · exact ha z (by simp [hz]) hm
      · obtain rfl := List.mem_singleton.1 hm
        exact h.1 hz
theorem mkB_list (s : ByteArray) : mkB s.data.toList = s := by
  unfold mkB
  apply bytes_eq
  simp [ByteArray.toList_eq]
theorem mkB_inj {a b : Bs} (h : mkB a = mkB b) : a = b := by
  have := congrArg (fun x : ByteArray => x.data.toList) h
  simpa [mkB] using this
theorem kids_mem : ∀ {t : Tr} {k : Tr}, k ∈ kidsL t → ∃ s, (s, k) ∈ eds t
  | .nil, _, h => by cases h
  | .cons s kk r, k, h => by
    rcases List.mem_cons.1 h with rfl | h
    · exact ⟨s, List.mem_cons_self ..⟩
    · obtain ⟨q, hq⟩ := kids_mem h
      exact ⟨q, List.mem_cons_of_mem _ hq⟩
theorem names_mem : ∀ {t : Tr} {s : ByteArray}, s ∈ t.names → ∃ k, (s, k) ∈ eds t
  | .nil, _, h => by cases h
  | .cons q kk r, s, h => by
    rcases List.mem_cons.1 h with rfl | h
    · exact ⟨kk, List.mem_cons_self ..⟩
    · obtain ⟨k, hk⟩ := names_mem h
      exact ⟨k, List.mem_cons_of_mem _ hk⟩
/-- The columns of a file that a tree is put into. -/
theorem colsP_facts {xl : List Ln} {t : Tr} (hc : (mns xl).all cB = true) (hn : (mns xl).Nodup) (hf : allT frB t = true) :
    (colsP xl t).all cB = true ∧ (colsP xl t).Nodup ∧ ∀ k ∈ kidsL t, ∀ s ∈ k.names, s ∈ colsP xl t := by
  have hnew : ∀ z ∈ (lessF (colsF t) (mns xl)).map mkB, cB z = true ∧ z ∉ mns xl := by
    intro z hz
    obtain ⟨l, hl, rfl⟩ := List.mem_map.1 hz
    rw [lessF, List.mem_filter] at hl
    obtain ⟨hl1, hl2⟩ := hl
    rw [colsF, namesOf_mem] at hl1
    obtain ⟨s, hs, rfl⟩ := List.mem_map.1 hl1
    rw [mkB_list]
    obtain ⟨k, hk, hsk⟩ := List.mem_flatMap.1 hs
    obtain ⟨q, hq⟩ := kids_mem hk
    have h1 := allT_mem hf _ hq
    rw [frB, Bool.and_eq_true] at h1
    obtain ⟨k2, hk2⟩ := names_mem hsk
    refine ⟨(fcB_form (allT_mem h1.2 _ hk2)).1, fun hm => ?_⟩
    have e : (⟨s.data.toList.toArray⟩ : ByteArray) = s := mkB_list s
    rw [e, (Lib.containsS_iff _ _).2 hm] at hl2
    cases hl2
  refine ⟨?_, ?_, ?_⟩
  · rw [colsP, List.all_append, hc, Bool.true_and, List.all_eq_true]
    exact fun z hz => (hnew z hz).1
  · rw [colsP, List.nodup_append]
    refine ⟨hn, ?_, fun a ha b hb e => (hnew b hb).2 (by rw [← e]; exact ha)⟩
    rw [List.Nodup, List.pairwise_map]
    refine List.Pairwise.imp (fun {a b} (hab : a < b) e => ?_) ((namesOf_pair _).filter _)
    rw [mkB_inj e] at hab
    exact List.lt_irrefl _ hab
  · intro k hk s hs
    rw [colsP]
    by_cases hm : s ∈ mns xl
    · exact List.mem_append_left _ hm
    · refine List.mem_append_right _ ?_
      rw [← mkB_list s]
      refine List.mem_map_of_mem ?_
      rw [lessF, List.mem_filter]
      refine ⟨?_, ?_⟩
      · rw [colsF, namesOf_mem]
        exact List.mem_map_of_mem (f := fun s : ByteArray => s.data.toList) (List.mem_flatMap.2 ⟨k, hk, hs⟩)
      · have e : (⟨s.data.toList.toArray⟩ : ByteArray) = s := mkB_list s
        rw [e]
        cases hq : Lib.containsS (mns xl) s with
        | false => rfl
        | true => exact absurd ((Lib.containsS_iff _ _).1 hq) hm
/-- A line that means these. -/
def LnOk (ms : List ByteArray) (x : Ln) : Prop := mns (fldsL x.1) = ms ∧ (10 : UInt8) ∉ x.1 ∧ (13 : UInt8) ∉ x.1 ∧ x.1 ≠ [] ∧ (Fin x.2 ∨ x.2 = [])
theorem ln_ok {m : ByteArray} {ms : List ByteArray} {fs : List Ln} {e : Bs} (hm : m.size ≠ 0) (hv : ∀ z ∈ m :: ms, vB z = true) (hw : ∀ x ∈ fs, Wf x.1 x.2) (he : Fin e ∨ e = []) : LnOk (m :: ms) (Lib.join (fieldF (m :: ms) fs) [44], e) := by
  have hf := fldsL_field (ms := m :: ms) (fs := fs) (by simp) hw
  refine ⟨by rw [hf, fieldP_mns], field_clean hw hv 10 (.inl rfl), field_clean hw hv 13 (.inr rfl), fun e0 => ?_, he⟩
  dsimp only at e0
  rw [e0] at hf
  have h2 := congrArg mns hf
  rw [fieldP_mns] at h2
  have h3 : mns (fldsL []) = [⟨#[]⟩] := by decide +kernel
  rw [h3] at h2
  injection h2 with h2 _
  exact hm (by rw [← h2]; rfl)
/-- What a line's first field means. -/
def nmT (x : Bs) : ByteArray := (mns (fldsL x)).headD ⟨#[]⟩
theorem nmT_ok {m : ByteArray} {ms : List ByteArray} {x : Ln} (h : LnOk (m :: ms) x) : nmT x.1 = m := by rw [nmT, h.1]; rfl
theorem put_back {l : Bs} {hd : Rw} {x0 : Ln} {xl : List Ln} {rs : List Rw} {t : Tr} (h : rowsF [] 0 (split l) = (hd :: rs, 0, 0)) (hh : hd.fs = x0 :: xl) (hf : fitsC t = 0) (ha : AscD t) (hlen : (putB hd xl rs t).length ≤ 4000) :
    readF (putB hd xl rs t) = (t, 0, 0) ∧ (split (putB hd xl rs t)).length = 1 + (rs.filter fun r => (getT t [nm r]).2).length + (lessF (namesOf t.names) (rs.map nm)).length := by
  obtain ⟨_, hhf, hrecs, hnod, hwf, hends⟩ := file_ok h hh
  have hat := AscD.asc ha
  have hft : t.fault = 0 ∧ allT frB t = true := by
    unfold fitsC at hf
    split at hf
    · rename_i h1; exact absurd (by exact_mod_cast hf) h1
    · rename_i h1
      split at hf
      · rename_i h2; exact ⟨Decidable.not_not.1 h1, h2⟩
      · cases hf
  have em : mns hd.fs = ⟨x0.2.toArray⟩ :: mns xl := by rw [hh]; rfl
  rw [em] at hhf
  obtain ⟨hk, hcB, hcN⟩ := head_facts hhf
  obtain ⟨c1, c2, c3⟩ := colsP_facts hcB hcN hft.2
  obtain ⟨cols, hcols⟩ : ∃ cols, cols = colsP xl t := ⟨_, rfl⟩
  rw [← hcols] at c1 c2 c3
  have hcv : ∀ z ∈ cols, vB z = true := fun z hz => nB_vB (cB_nB (List.all_eq_true.1 c1 z hz))
  have hval : ∀ (k : Tr), k.Asc → allT fcB k = true → ∀ z ∈ cols.map (valF k), vB z = true := by
    intro k hka hkf z hz
    obtain ⟨c, _, rfl⟩ := List.mem_map.1 hz
    obtain ⟨v1, v2⟩ := valF_is hka hkf c
    cases hc : k.atIs c with
    | true => exact nB_vB (v1 hc).2
    | false => rw [v2 hc]; exact vB_empty
  have hkid : ∀ q, t.atIs q = true → nB q = true ∧ (kidT t q).Asc ∧ allT fcB (kidT t q) = true := by
    intro q hq
    have hm := (mem_eds hat q _).2 ⟨hq, rfl⟩
    have h1 := allT_mem hft.2 _ hm
    rw [frB, Bool.and_eq_true] at h1
    exact ⟨h1.1, AscD.asc (kidT_asc ha), h1.2⟩
  have hget : ∀ q, t.atIs q = true → (getT t [q]).1 = kidT t q := fun q hq => by rw [getT_one, if_pos hq]
  have hget2 : ∀ q, (getT t [q]).2 = t.atIs q := fun q => by
    rw [getT_one]
    cases hq : t.atIs q <;> simp
  obtain ⟨E, hE⟩ : ∃ E, E = endOf (stayL hd xl rs t) := ⟨_, rfl⟩
  have h0 : LnOk (kB :: cols) (sayF ([kB] ++ cols) hd) := ln_ok (by decide) (fun z hz => by
    rcases List.mem_cons.1 hz with rfl | hz
    · decide
    · exact hcv z hz) (hwf hd (by simp)) (hends hd (by simp))
  have hEf : Fin E := by
    rw [hE]
    unfold endOf stayL
    rw [← hcols]
    dsimp only [List.cons_append, List.nil_append]
    split
    · exact .inl rfl
    · rename_i he
      exact h0.2.2.2.2.elim id (fun e => absurd e he)
  have hrow : ∀ (q : ByteArray) (fs : List Ln) (e : Bs), t.atIs q = true → (∀ x ∈ fs, Wf x.1 x.2) → (Fin e ∨ e = []) → LnOk (q :: cols.map (valF (kidT t q))) (Lib.join (fieldF (recF q cols (getT t [q]).1) fs) [44], e) := by
    intro q fs e hq hw he
    obtain ⟨k1, k2, k3⟩ := hkid q hq
    rw [hget q hq]
    exact ln_ok (nB_size k1) (fun z hz => by
      rcases List.mem_cons.1 hz with rfl | hz
      · exact nB_vB k1
      · exact hval _ k2 k3 z hz) hw he
  obtain ⟨new, hnew⟩ : ∃ new, new = lessF (namesOf t.names) (rs.map nm) := ⟨_, rfl⟩
  have hnewm : ∀ q ∈ new, t.atIs (mkB q) = true ∧ mkB q ∉ rs.map nm := by
    intro q hq
    rw [hnew, lessF, List.mem_filter, namesOf_mem] at hq
    obtain ⟨h1, h2⟩ := hq
    obtain ⟨s, hs, rfl⟩ := List.mem_map.1 h1
    rw [mkB_list]
    refine ⟨(mem_atIs hat).2 (by rw [Tr.bn]; exact h1), fun hm => ?_⟩
    have e : (⟨s.data.toList.toArray⟩ : ByteArray) = s := mkB_list s
    rw [e, (Lib.containsS_iff _ _).2 hm] at h2
    cases h2
  -- the records' lines
  obtain ⟨M, hM⟩ : ∃ M, M = rs.filterMap (stayF cols t) ++ new.map (fun q => (freshB cols t q, E)) := ⟨_, rfl⟩
  have hMok : ∀ x ∈ M, ∃ q, t.atIs q = true ∧ LnOk (q :: cols.map (valF (kidT t q))) x := by
    intro x hx
    rw [hM] at hx
    rcases List.mem_append.1 hx with hx | hx
    · obtain ⟨r, hr, he⟩ := List.mem_filterMap.1 hx
      unfold stayF at he
      split at he
      · rename_i hq
        injection he with he
        subst he
        rw [hget2] at hq
        exact ⟨nm r, hq, hrow (nm r) r.fs _ hq (hwf r (by simp [hr])) (hends r (by simp [hr]))⟩
      · cases he
    · obtain ⟨q, hq, rfl⟩ := List.mem_map.1 hx
      exact ⟨mkB q, (hnewm q hq).1, hrow (mkB q) [] E (hnewm q hq).1 (by simp) (.inl hEf)⟩
  have hstn : ∀ (rs' : List Rw), (∀ r ∈ rs', r ∈ rs) → (rs'.filterMap (stayF cols t)).map (fun x => nmT x.1) = (rs'.filter fun r => (getT t [nm r]).2).map nm := by
    intro rs'
    induction rs' with
    | nil => intro _; rfl
    | cons r rs' ih =>
      intro hsub
      have ih := ih (fun z hz => hsub z (by simp [hz]))
      have hr := hsub r (by simp)
      rw [List.filterMap_cons, List.filter_cons]
      cases hq : (getT t [nm r]).2 with
      | false =>
        have e : stayF cols t r = none := by unfold stayF; rw [if_neg (by rw [hq]; decide)]
        rw [e, if_neg (by decide)]
        exact ih
      | true =>
        have e : stayF cols t r = some (sayF (recF (nm r) cols (getT t [nm r]).1) r) := by unfold stayF; rw [if_pos hq]
        rw [e, if_pos rfl, List.map_cons, List.map_cons, ih]
        rw [hget2] at hq
        have := nmT_ok (hrow (nm r) r.fs r.en.data.toList hq (hwf r (by simp [hr])) (hends r (by simp [hr])))
        congr 1
  have hMn : M.map (fun x => nmT x.1) = (rs.filter fun r => (getT t [nm r]).2).map nm ++ new.map mkB := by
    rw [hM, List.map_append, hstn rs (fun _ h => h), List.map_map]
    congr 1
    refine List.map_congr_left fun q hq => ?_
    exact nmT_ok (hrow (mkB q) [] E (hnewm q hq).1 (by simp) (.inl hEf))
  have hins : insert (stayL hd xl rs t) (stayL hd xl rs t).length ((lessF (namesOf t.names) (rs.map nm)).map (freshB (colsP xl t) t)) = ended E (sayF ([kB] ++ cols) hd :: M) := by
    unfold Li.insert
    rw [List.take_length, List.drop_length, List.append_nil, ← hE, ← hcols, ← hnew, List.map_map, hM]
    unfold stayL
    rw [← hcols]
    rfl
  have hp : putB hd xl rs t = join (ended E (sayF ([kB] ++ cols) hd :: M)) := by rw [putB, hins]
  have hall : ∀ x ∈ sayF ([kB] ++ cols) hd :: M, (10 : UInt8) ∉ x.1 ∧ (13 : UInt8) ∉ x.1 ∧ x.1 ≠ [] ∧ (Fin x.2 ∨ x.2 = []) := by
    intro x hx
    rcases List.mem_cons.1 hx with rfl | hx
    · exact h0.2
    · obtain ⟨q, _, hq⟩ := hMok x hx
      exact hq.2
  have hgood := good_ended hEf _ (fun x hx => ⟨(hall x hx).1, (hall x hx).2.2.1, (hall x hx).2.2.2⟩)
  have htx := ended_texts E (sayF ([kB] ++ cols) hd :: M)
  have hsp : split (putB hd xl rs t) = ended E (sayF ([kB] ++ cols) hd :: M) := by
    rw [hp]
    refine split_join _ hgood fun x hx => ?_
    have hm : x.1 ∈ (ended E (sayF ([kB] ++ cols) hd :: M)).map (·.1) := List.mem_map_of_mem hx
    rw [htx] at hm
    obtain ⟨z, hz, e⟩ := List.mem_map.1 hm
    rw [← e]
    exact (hall z hz).2.1
  obtain ⟨L, hL⟩ : ∃ L, L = ended E (sayF ([kB] ++ cols) hd :: M) := ⟨_, rfl⟩
  rw [← hL] at hsp htx
  cases L with
  | nil => cases htx
  | cons y0 ys =>
    rw [List.map_cons, List.map_cons] at htx
    injection htx with ht0 hts
    have hys : ∀ y ∈ ys, ∃ q, t.atIs q = true ∧ mns (fldsL y.1) = q :: cols.map (valF (kidT t q)) := by
      intro y hy
      have hm : y.1 ∈ ys.map (·.1) := List.mem_map_of_mem hy
      rw [hts] at hm
      obtain ⟨z, hz, e⟩ := List.mem_map.1 hm
      obtain ⟨q, hq, hok⟩ := hMok z hz
      exact ⟨q, hq, by rw [← e]; exact hok.1⟩
    have hnames : (ys.map fun y => nm (rowF y)) = (rs.filter fun r => (getT t [nm r]).2).map nm ++ new.map mkB := by
      rw [← hMn]
      have e1 : (ys.map fun y => nm (rowF y)) = (ys.map (·.1)).map nmT := by rw [List.map_map]; rfl
      rw [e1, hts, List.map_map]
      rfl
    have hy0 : mns (rowF y0).fs = kB :: cols := by
      show mns (fldsL y0.1) = _
      rw [ht0]
      exact h0.1
    have hnd : (ys.map fun y => (nm (rowF y)).data.toList).Nodup := by
      have e1 : (ys.map fun y => (nm (rowF y)).data.toList) = (ys.map fun y => nm (rowF y)).map (·.data.toList) := by rw [List.map_map]; rfl
      rw [e1, hnames]
      refine nodup_data ?_
      rw [List.nodup_append]
      refine ⟨?_, ?_, ?_⟩
      · have hsub : ((rs.filter fun r => (getT t [nm r]).2).map nm).Sublist (rs.map nm) := (List.filter_sublist).map _
        refine List.Pairwise.sublist hsub ?_
        have hn := hnod
        have e2 : (rs.map fun r => (nm r).data.toList) = (rs.map nm).map (·.data.toList) := by rw [List.map_map]; rfl
        rw [e2, List.Nodup, List.pairwise_map] at hn
        exact hn.imp fun hab e => hab (by rw [e])
      · rw [List.Nodup, List.pairwise_map, hnew]
        refine List.Pairwise.imp (fun {a b} (hab : a < b) e => ?_) ((namesOf_pair _).filter _)
        rw [mkB_inj e] at hab
        exact List.lt_irrefl _ hab
      · intro a ha b hb e
        obtain ⟨q, hq, rfl⟩ := List.mem_map.1 hb
        refine (hnewm q hq).2 ?_
        rw [← e]
        exact (List.Sublist.map nm (List.filter_sublist)).subset ha
    have hlen0 : ∀ (x : Ln), (rowF x).fs.length = (mns (rowF x).fs).length := fun x => (mns_len _).symm
    have hrun := rowsF_all y0 ys (by intro e; rw [e] at hy0; cases hy0) (by
        rw [hy0, headF, if_neg (by decide +kernel), if_neg (by rw [c1]; decide), if_neg (by rw [nodup_dup _ _ c2 (fun _ _ h => by cases h)]; decide)]) (fun y hy => by
        obtain ⟨q, hq, hm⟩ := hys y hy
        have hm' : mns (rowF y).fs = q :: cols.map (valF (kidT t q)) := hm
        obtain ⟨k1, k2, k3⟩ := hkid q hq
        have hnq : nm (rowF y) = q := by rw [nm, hm']; rfl
        refine ⟨fun e => ?_, ?_, by rw [hnq]; exact k1, ?_⟩
        · rw [e] at hm'; cases hm'
        · rw [hlen0, hlen0, hm', hy0]; simp
        · rw [hm', List.all_eq_true]
          intro z hz
          rcases List.mem_cons.1 hz with rfl | hz
          · exact nB_vB k1
          · exact hval _ k2 k3 z hz) hnd
    have hcr : colsR (rowF y0) = cols := by
      have e : mns (rowF y0).fs.tail = (mns (rowF y0).fs).tail := by cases (rowF y0).fs <;> rfl
      rw [colsR, e, hy0]
      rfl
    have htree : treeR (rowF y0 :: ys.map rowF) = t := by
      rw [treeR, hcr]
      refine rows_back ha hft.2 (nodup_data c2) c3 (fun r hr => ?_) (by rw [List.map_map]; exact hnd) (fun q hq => ?_)
      · obtain ⟨y, hy, rfl⟩ := List.mem_map.1 hr
        obtain ⟨q, hq, hm⟩ := hys y hy
        have hm' : mns (rowF y).fs = q :: cols.map (valF (kidT t q)) := hm
        have hnq : nm (rowF y) = q := by rw [nm, hm']; rfl
        have e : mns (rowF y).fs.tail = (mns (rowF y).fs).tail := by cases (rowF y).fs <;> rfl
        rw [hnq, e, hm']
        exact ⟨hq, rfl⟩
      · have hin : q ∈ (rs.filter fun r => (getT t [nm r]).2).map nm ++ new.map mkB := by
          by_cases hm : q ∈ rs.map nm
          · obtain ⟨r, hr, e⟩ := List.mem_map.1 hm
            refine List.mem_append_left _ (List.mem_map.2 ⟨r, List.mem_filter.2 ⟨hr, ?_⟩, e⟩)
            rw [hget2, e, hq]
          · refine List.mem_append_right _ ?_
            rw [← mkB_list q]
            refine List.mem_map_of_mem ?_
            rw [hnew, lessF, List.mem_filter, namesOf_mem]
            refine ⟨?_, ?_⟩
            · have := (mem_atIs hat).1 hq
              exact this
            · have e : (⟨q.data.toList.toArray⟩ : ByteArray) = q := mkB_list q
              rw [e]
              cases hc : Lib.containsS (rs.map nm) q with
              | false => rfl
              | true => exact absurd ((Lib.containsS_iff _ _).1 hc) hm
        rw [← hnames] at hin
        obtain ⟨y, hy, e⟩ := List.mem_map.1 hin
        exact ⟨rowF y, List.mem_map_of_mem hy, e⟩
    refine ⟨?_, ?_⟩
    · unfold readF
      rw [if_neg (by omega), hsp, hrun, if_neg (by simp)]
      dsimp only
      rw [htree, if_neg (fun e => e hft.1)]
    · rw [hsp, List.length_cons]
      have hl1 : ys.length = M.length := by
        have := congrArg List.length hts
        simpa using this
      have hl2 : M.length = ((rs.filter fun r => (getT t [nm r]).2).map nm ++ new.map mkB).length := by rw [← hMn, List.length_map]
      rw [hl1, hl2, List.length_append, List.length_map, List.length_map, hnew]
      omega
end Go.Proofs.YtapgaglkkgbgkaaGreatDoor.Cv
namespace Go.Proofs.YtapgaglkkgbgkaaGreatDoor.In
open Go.RowKit Go.Proofs.YtapgaglkkgbgkaaGreatDoor.Li Go.Proofs.YtapgaglkkgbgkaaGreatDoor.Cv Go.Proofs.YtapgaglkkgbgkaaGreatDoor.Pt
set_option maxRecDepth 100000

/-- A row that was read of a line, and is none with a fault. -/
def RowOk (r : Ro) : Prop := r.kind ≠ 0 ∧ ∃ x : Ln, r = rowI x ∧ (10 : UInt8) ∉ x.1 ∧ (Fin x.2 ∨ (x.2 = [] ∧ x.1 ≠ []))
def PtOk (p : Pt) : Prop := (∃ h t, p.rows = h :: t ∧ h.kind = 2 ∧ h.name = p.name ∧ ∀ r ∈ t, r.kind = 1 ∨ r.kind = 3) ∧ ((absR p.rows).map (·.1)).Nodup ∧ ∀ r ∈ p.rows, RowOk r
def Shape (ps : List Pt) : Prop := ∃ p0 tl, ps = p0 :: tl ∧ p0.name = [] ∧ (∀ r ∈ p0.rows, r.kind = 1 ∧ RowOk r) ∧ (∀ p ∈ tl, PtOk p) ∧ (tl.map (·.name)).Nodup
theorem shape_add {ps : List Pt} {r : Ro} (h : Shape ps) (hr : RowOk r) (hk3 : r.kind ≤ 3) (hf : faultI ps r = 0) : Shape (addI ps r) := by
  obtain ⟨p0, tl, rfl, h0, h1, h2, h3⟩ := h
  have hk0 := hr.1
  have hc : r.kind = 2 ∨ r.kind = 1 ∨ r.kind = 3 := by omega
  rcases hc with hk | hk
  · have hn : r.name ∉ tl.map (·.name) := by
      intro hm
      unfold faultI at hf
      rw [if_neg (by rintro (h | ⟨h, _⟩) <;> omega), if_pos ⟨hk, by
        obtain ⟨p, hp, e⟩ := List.mem_map.1 hm
        exact List.any_eq_true.2 ⟨p, by simp [hp], by simpa using e⟩⟩] at hf
      cases hf
    refine ⟨p0, tl ++ [⟨r.name, [r]⟩], by rw [addI, if_pos hk, List.cons_append], h0, h1, ?_, ?_⟩
    · intro p hp
      rcases List.mem_append.1 hp with hp | hp
      · exact h2 p hp
      · obtain rfl := List.mem_singleton.1 hp
        refine ⟨⟨r, [], rfl, hk, rfl, fun x hx => by cases hx⟩, ?_, fun x hx => by obtain rfl := List.mem_singleton.1 hx; exact hr⟩
        show ((absR [r]).map (·.1)).Nodup
        rw [absR, List.filterMap_cons, keyV, if_neg (by omega)]
        simp
    · rw [List.map_append, List.nodup_append]
      refine ⟨h3, by simp, fun a ha b hb e => ?_⟩
      subst e
      simp at hb
      subst hb
      exact hn ha
  · rcases List.eq_nil_or_concat tl with rfl | ⟨is, p, e⟩
    · have hk1 : r.kind = 1 := by
        rcases hk with hk | hk
        · exact hk
        · unfold faultI at hf
          rw [if_pos (.inr ⟨hk, rfl⟩)] at hf
          cases hf
      refine ⟨⟨p0.name, p0.rows ++ [r]⟩, [], by rw [addI, if_neg (by omega)]; rfl, h0, ?_, (fun _ h => by cases h), by simp⟩
      intro x hx
      rcases List.mem_append.1 hx with hx | hx
      · exact h1 x hx
      · obtain rfl := List.mem_singleton.1 hx
        exact ⟨hk1, hr⟩
    · rw [List.concat_eq_append] at e
      subst e
      have hl : lastP (p0 :: (is ++ [p])) = p := by rw [← List.cons_append, lastP_app]
      refine ⟨p0, is ++ [⟨p.name, p.rows ++ [r]⟩], by rw [addI, if_neg (by omega), hl, ← List.cons_append, List.dropLast_concat, List.cons_append], h0, h1, ?_, by simpa using h3⟩
      intro q hq
      rcases List.mem_append.1 hq with hq | hq
      · exact h2 q (by simp [hq])
      · obtain rfl := List.mem_singleton.1 hq
        obtain ⟨⟨hd, t, e, g1, g2, g3⟩, g4, g5⟩ := h2 p (by simp)
        refine ⟨⟨hd, t ++ [r], by rw [e]; rfl, g1, g2, ?_⟩, ?_, ?_⟩
        · intro x hx
          rcases List.mem_append.1 hx with hx | hx
          · exact g3 x hx
          · obtain rfl := List.mem_singleton.1 hx
            exact hk
        · show ((absR (p.rows ++ [r])).map (·.1)).Nodup
          rw [absR_app, List.map_append, List.nodup_append]
          refine ⟨g4, ?_, ?_⟩
          · rw [absR, List.filterMap_cons]
            cases keyV r <;> simp
          · intro a ha b hb e2
            subst e2
            obtain ⟨⟨n, v⟩, hm, rfl⟩ := List.mem_map.1 hb
            obtain ⟨x, hx, k3, rfl, _⟩ := mem_absR.1 hm
            obtain rfl := List.mem_singleton.1 hx
            unfold faultI at hf
            rw [hl, if_neg (by rintro (h | ⟨_, h⟩); exact absurd h hk0; simp at h), if_neg (by rintro ⟨h, _⟩; omega), if_pos ⟨k3, (any_keys _ _).2 ha⟩] at hf
            cases hf
        · intro x hx
          rcases List.mem_append.1 hx with hx | hx
          · exact g5 x hx
          · obtain rfl := List.mem_singleton.1 hx
            exact hr
theorem shape_parts : ∀ (ls : List Ln) (ps : List Pt) (i : Nat), Shape ps → (∀ x ∈ ls, (10 : UInt8) ∉ x.1 ∧ (Fin x.2 ∨ (x.2 = [] ∧ x.1 ≠ []))) → (partsI ps i ls).2.2 = 0 → Shape (partsI ps i ls).1
  | [], _, _, h, _, _ => h
  | x :: ls, ps, i, h, hx, hf => by
    rw [partsI] at hf ⊢
    by_cases h1 : faultI ps (rowI x) ≠ 0
    · rw [if_pos h1] at hf; exact absurd hf h1
    · rw [if_neg h1] at hf ⊢
      have h1 : faultI ps (rowI x) = 0 := Classical.not_not.1 h1
      have h2 : (rowI x).kind ≠ 0 := by
        intro h0
        unfold faultI at h1
        rw [if_pos (.inl h0)] at h1
        cases h1
      exact shape_parts ls _ _ (shape_add h ⟨h2, x, rfl, hx x (by simp)⟩ (row_kind x).1 h1) (fun y hy => hx y (by simp [hy])) hf
theorem shape_split {l : Bs} (h : (partsI [⟨[], []⟩] 0 (split l)).2.2 = 0) : Shape (partsI [⟨[], []⟩] 0 (split l)).1 :=
  shape_parts _ _ _ ⟨⟨[], []⟩, [], rfl, rfl, (fun _ h => by cases h), (fun _ h => by cases h), by simp⟩ (Good.each (split_good l)) h
/-- What counts of a row. -/
def Sm (r r' : Ro) : Prop := r.kind = r'.kind ∧ r.name = r'.name ∧ r.val = r'.val
theorem row_text (a e e' : Bs) : Sm (rowI (a, e)) (rowI (a, e')) := by
  unfold rowI
  dsimp only
  split
  · exact ⟨rfl, rfl, rfl⟩
  · split
    · exact ⟨rfl, rfl, rfl⟩
    · split
      · exact ⟨rfl, rfl, rfl⟩
      · split
        · unfold headR
          split <;> exact ⟨rfl, rfl, rfl⟩
        · unfold keyR
          dsimp only
          split <;> exact ⟨rfl, rfl, rfl⟩
theorem st_sm {S : Sa} {r r' : Ro} (h : Sm r r') : stS S r = stS S r' := by
  obtain ⟨h1, h2, h3⟩ := h
  unfold stS
  rw [h1, h2, h3]
theorem run_texts : ∀ (a b : List Ln) (S : Sa), a.map (·.1) = b.map (·.1) → runS S (a.map rowI) = runS S (b.map rowI)
  | [], [], _, _ => rfl
  | [], _ :: _, _, h => by cases h
  | _ :: _, [], _, h => by cases h
  | x :: a, y :: b, S, h => by
    rw [List.map_cons, List.map_cons] at h
    injection h with h1 h2
    rw [List.map_cons, List.map_cons, runS, runS]
    have e : stS S (rowI x) = stS S (rowI y) := by
      obtain ⟨x1, x2⟩ := x
      obtain ⟨y1, y2⟩ := y
      dsimp only at h1
      subst h1
      exact st_sm (row_text _ _ _)
    rw [e]
    cases stS S (rowI y) with
    | none => rfl
    | some S' => exact run_texts a b S' h2
theorem row_13 {x : Ln} (h : (rowI x).kind ≠ 0) : (13 : UInt8) ∉ x.1 := by
  intro hm
  unfold rowI at h
  rw [if_pos (by simpa using hm)] at h
  exact h rfl
/-- A key's row: its line. -/
theorem key_parts {x : Ln} (h : (rowI x).kind = 3) : ∃ f b g d, (∀ c ∈ f, bl c = true) ∧ (∀ c ∈ b, bl c = true) ∧ (∀ c ∈ g, bl c = true) ∧ (∀ c ∈ d, bl c = true) ∧ kB (rowI x).name = true ∧ vB (rowI x).val = true ∧
    x.1.take (rowI x).pos = f ++ (rowI x).name ++ b ++ 61 :: g ∧ x.1.drop ((rowI x).pos + (rowI x).val.length) = d ∧ (rowI x).ln = x ∧ x.1 = f ++ (rowI x).name ++ b ++ 61 :: (g ++ (rowI x).val ++ d) := by
  have hk : rowI x = keyR x := by
    unfold rowI at h ⊢
    split at h
    · cases h
    · rename_i h13
      rw [if_neg h13]
      split at h
      · cases h
      · rename_i c r hm
        split at h
        · cases h
        · rename_i hc
          rw [if_neg hc]
          split at h
          · unfold headR at h
            split at h <;> cases h
          · rename_i hc2
            rw [if_neg hc2]
  rw [hk] at h ⊢
  unfold keyR at h ⊢
  split at h
  · rename_i hh
    rw [if_pos hh]
    obtain ⟨h61, hkB, hvB⟩ := hh
    dsimp only
    obtain ⟨b, e1, hb⟩ := parts (ahead x.1)
    obtain ⟨d, e2, hd⟩ := parts (behind x.1)
    have e := split_eq h61
    generalize hA : ahead x.1 = A at *
    generalize hB : behind x.1 = B at *
    by_cases hv : mid B = []
    · refine ⟨front A, b, [], B, front_bl A, hb, (fun _ h => by cases h), ?_, hkB, hvB, ?_, ?_, rfl, ?_⟩
      · rw [hv, List.append_nil] at e2
        rw [e2]
        intro c hc
        rcases List.mem_append.1 hc with hc | hc
        · exact front_bl B c hc
        · exact hd c hc
      · rw [if_pos hv, e, Nat.add_zero, List.take_length_add_append]
        rw [← e1]
        rfl
      · rw [hv, if_pos rfl, e, List.length_nil, Nat.add_zero, Nat.add_zero, List.drop_length_add_append]
        rfl
      · rw [hv, ← e1]; exact e
    · refine ⟨front A, b, front B, d, front_bl A, hb, front_bl B, hd, hkB, hvB, ?_, ?_, rfl, ?_⟩
      · rw [if_neg hv, e, Nat.add_assoc, List.take_length_add_append, ← e1, Nat.add_comm, List.take_succ_cons]
        congr 2
        have e3 : B = front B ++ (mid B ++ d) := by rw [← List.append_assoc]; exact e2
        generalize front B = F at e3
        rw [e3, List.take_left]
      · rw [if_neg hv, e, Nat.add_assoc, Nat.add_assoc, List.drop_length_add_append, Nat.add_comm 1, List.drop_succ_cons]
        have e3 : B = (front B ++ mid B) ++ d := e2
        generalize front B = F at *
        generalize mid B = M at *
        rw [e3, ← List.length_append, List.drop_left]
      · rw [← e1, ← e2]; exact e
  · cases h
/-- A key's row, written over. -/
theorem key_over {r : Ro} (h : RowOk r) (hk : r.kind = 3) {v : Bs} (hv : vB v = true) : (rowI (withR r v)).kind = 3 ∧ (rowI (withR r v)).name = r.name ∧ (rowI (withR r v)).val = v ∧ (10 : UInt8) ∉ (withR r v).1 ∧ (Fin (withR r v).2 ∨ ((withR r v).2 = [] ∧ (withR r v).1 ≠ [])) := by
  obtain ⟨_, x, rfl, h10, hx⟩ := h
  obtain ⟨f, b, g, d, h1, h2, h3, h4, h5, h6, h7, h8, h9⟩ := key_parts hk
  have e : withR (rowI x) v = (f ++ (rowI x).name ++ b ++ 61 :: (g ++ v ++ d), x.2) := by
    unfold withR
    rw [h9.1, h7, h8]
    simp
  obtain ⟨p, hp⟩ := key_line (E := x.2) h1 h2 h3 h4 h5 hv
  rw [e, hp]
  refine ⟨rfl, rfl, rfl, ?_, ?_⟩
  · intro hm
    have t1 : (10 : UInt8) ∉ x.1.take (rowI x).pos := fun h => h10 (List.mem_of_mem_take h)
    have t2 : (10 : UInt8) ∉ x.1.drop ((rowI x).pos + (rowI x).val.length) := fun h => h10 (List.mem_of_mem_drop h)
    rw [h7] at t1
    rw [h8] at t2
    have t3 := (vB_trm hv).2.2.1
    simp only [List.mem_append, List.mem_cons, not_or] at t1 hm
    rcases hm with hm | hm | (hm | hm) | hm
    · exact t1.1.elim (fun a b => hm.elim (fun hm => hm.elim a.1 a.2) b)
    · exact absurd hm (by decide)
    · exact t1.2.2 hm
    · exact t3 hm
    · exact t2 hm
  · rcases hx with hx | ⟨hx, _⟩
    · exact .inl hx
    · exact .inr ⟨hx, by simp⟩
/-- A key's row, with its own value. -/
theorem key_same {r : Ro} (h : RowOk r) (hk : r.kind = 3) : withR r r.val = r.ln := by
  obtain ⟨_, x, rfl, _, _⟩ := h
  obtain ⟨f, b, g, d, _, _, _, _, _, _, h7, h8, h9, h10⟩ := key_parts hk
  unfold withR
  rw [h9, h7, h8]
  conv => rhs; rw [show x = (x.1, x.2) from rfl, h10]
  simp
theorem sec_name {x : Ln} (hk : (rowI x).kind = 2) : sB (rowI x).name = true := by
  unfold rowI at hk ⊢
  split at hk
  · cases hk
  · rename_i h13
    rw [if_neg h13]
    split at hk
    · cases hk
    · split at hk
      · cases hk
      · rename_i hc
        rw [if_neg hc]
        split at hk
        · rename_i hc2
          rw [if_pos hc2]
          unfold headR at hk ⊢
          split at hk
          · rename_i hh
            rw [if_pos hh]
            exact hh.2
          · cases hk
        · unfold keyR at hk
          split at hk <;> cases hk
/-- The rows of the parts are those of the lines. -/
theorem parts_rows : ∀ (ls : List Ln) (ps : List Pt) (i : Nat), ps ≠ [] → (partsI ps i ls).2.2 = 0 → (partsI ps i ls).1.flatMap (·.rows) = ps.flatMap (·.rows) ++ ls.map rowI
  | [], _, _, _, _ => by rw [List.map_nil, List.append_nil]; rfl
  | x :: ls, ps, i, hp, h => by
    rw [partsI] at h ⊢
    by_cases hf : faultI ps (rowI x) ≠ 0
    · rw [if_pos hf] at h; exact absurd h hf
    · rw [if_neg hf] at h ⊢
      rw [parts_rows ls _ _ add_ne h, List.map_cons]
      have e : (addI ps (rowI x)).flatMap (·.rows) = ps.flatMap (·.rows) ++ [rowI x] := by
        unfold addI
        split
        · simp
        · rcases List.eq_nil_or_concat ps with rfl | ⟨is, p, e⟩
          · exact absurd rfl hp
          · rw [List.concat_eq_append] at e
            subst e
            rw [lastP_app, List.dropLast_concat]
            simp
      rw [e]
      simp
end Go.Proofs.YtapgaglkkgbgkaaGreatDoor.In
