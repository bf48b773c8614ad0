/- ini: a tree that fits, put into a file that was read, is read as that tree; plain mathematics. Conditions: the tree's edges are in order, its names and values are such as fit. · ini: the file of a tree that fits, put into a file that was read, is read as that tree; plain mathematics. Conditions: the tree's edges are in order, its names and values are such as fit. · csv.Put of any tree into any file. Conditions: the tree's size; MaxLen's cell. · csv.Put of a file that is sound and a tree that fits. Conditions: as the file's put's. · csv.Put of any tree into any file: what it answers. Conditions: the tree's size and names; MaxLen's cell. · csv: the tree that a file was read as fits. No conditions. -/
import Derived.Test.YtapgaglkkgbgkaaGreatDoorMwRtRows
import Derived.Test.YtapgaglkkgbgkaaGreatDoorMwRQuote
import Derived.Test.YtapgaglkkgbgkaaGreatDoorCwPut
import Derived.Test.YtapgaglkkgbgkaaGreatDoorMwLiSplit
namespace Go.Proofs.YtapgaglkkgbgkaaGreatDoor.In
open Go.RowKit Go.Sort Go.Proofs.YtapgaglkkgbgkaaGreatDoor.Jd Go.Proofs.YtapgaglkkgbgkaaGreatDoor.Cl Go.Proofs.YtapgaglkkgbgkaaGreatDoor.Li Go.Proofs.YtapgaglkkgbgkaaGreatDoor.Cv Go.Proofs.YtapgaglkkgbgkaaGreatDoor.Pt
set_option maxRecDepth 100000

def mk (l : Bs) : ByteArray := ⟨l.toArray⟩
theorem mk_list (l : Bs) : (mk l).data.toList = l := by simp [mk]
theorem list_mk (s : ByteArray) : mk s.data.toList = s := bytes_eq (by rw [ByteArray.toList_eq, ByteArray.toList_eq, mk_list])
theorem mk_inj {a b : Bs} (h : mk a = mk b) : a = b := by rw [← mk_list a, h, mk_list]
def fkB (s : ByteArray) (k : Tr) : Bool := kB s.data.toList && match k with | .cons v .nil .nil => vB v.data.toList | _ => false
def fsB (s : ByteArray) (k : Tr) : Bool := sB s.data.toList && allT fkB k
theorem fk_form {s : ByteArray} {k : Tr} (h : fkB s k = true) : kB s.data.toList = true ∧ ∃ v, k = .cons v .nil .nil ∧ vB v.data.toList = true ∧ oneN k = v.data.toList := by
  unfold fkB at h
  rw [Bool.and_eq_true] at h
  refine ⟨h.1, ?_⟩
  have h2 := h.2
  split at h2
  · exact ⟨_, rfl, h2, rfl⟩
  · cases h2
theorem names_nodup {t : Tr} (h : t.Asc) : ((eds t).map (·.1.data.toList)).Nodup := by
  have h2 := h
  unfold Tr.Asc at h2
  rw [eds_bn] at h2
  exact h2.imp fun hab e => by rw [e] at hab; exact List.lt_irrefl _ hab
def LnOk (x : Ln) : Prop := (10 : UInt8) ∉ x.1 ∧ (Fin x.2 ∨ (x.2 = [] ∧ x.1 ≠ []))
theorem key_one {E : Bs} (hE : Fin E) {e : ByteArray × Tr} (h1 : kB e.1.data.toList = true) (h2 : vB (oneN e.2) = true) : (rowI (keyL E e)).kind = 3 ∧ (rowI (keyL E e)).name = e.1.data.toList ∧ (rowI (keyL E e)).val = oneN e.2 ∧ LnOk (keyL E e) := by
  obtain ⟨p, hp⟩ := key_line (f := []) (b := []) (g := []) (d := []) (E := E) (fun _ h => by cases h) (fun _ h => by cases h) (fun _ h => by cases h) (fun _ h => by cases h) h1 h2
  have e : keyL E e = ([] ++ e.1.data.toList ++ [] ++ 61 :: ([] ++ oneN e.2 ++ []), E) := by simp [keyL]
  rw [e, hp]
  refine ⟨rfl, rfl, rfl, ?_, .inl hE⟩
  obtain ⟨_, _, _, _, _, _, _, t1, _⟩ := kB_parts h1
  have t2 := (vB_trm t1).2.2.1
  have t3 := (vB_trm h2).2.2.1
  simp only [List.mem_append, List.mem_cons, not_or]
  exact ⟨⟨⟨by simp, t2⟩, by simp⟩, by decide, ⟨by simp, t3⟩, by simp⟩
theorem key_rows {E : Bs} (hE : Fin E) : ∀ (es : List (ByteArray × Tr)), (∀ e ∈ es, kB e.1.data.toList = true ∧ vB (oneN e.2) = true) →
    absR ((es.map (keyL E)).map rowI) = es.map (fun e => (e.1.data.toList, oneN e.2)) ∧ (∀ r ∈ (es.map (keyL E)).map rowI, r.kind = 3) ∧ ∀ x ∈ es.map (keyL E), LnOk x
  | [], _ => ⟨rfl, fun _ h => (by cases h), fun _ h => by cases h⟩
  | e :: es, h => by
    obtain ⟨i1, i2, i3⟩ := key_rows hE es fun x hx => h x (by simp [hx])
    obtain ⟨h1, h2, h3, h4⟩ := key_one hE (h e (by simp)).1 (h e (by simp)).2
    refine ⟨?_, ?_, ?_⟩
    · rw [List.map_cons, List.map_cons, absR, List.filterMap_cons, keyV, if_pos h1, h2, h3, List.map_cons]
      rw [absR] at i1
      rw [i1]
    · intro r hr
      rw [List.map_cons, List.map_cons] at hr
      rcases List.mem_cons.1 hr with rfl | hr
      · exact h1
      · exact i2 r hr
    · intro x hx
      rw [List.map_cons] at hx
      rcases List.mem_cons.1 hx with rfl | hx
      · exact h4
      · exact i3 x hx
theorem fold_put (k : Tr) (is : Bool) : ∀ (rows : List Ro) (acc : List Ln) (m : Nat), ∃ m', rows.foldl (stepR k is) (acc, m) = (acc ++ rows.filterMap (putRow k is), m') ∧ (1 ≤ m → 1 ≤ m')
  | [], acc, m => ⟨m, by simp, id⟩
  | r :: rows, acc, m => by
    rw [List.foldl_cons, List.filterMap_cons, stepR]
    cases putRow k is r with
    | none => exact fold_put k is rows acc m
    | some x =>
      obtain ⟨m', h1, h2⟩ := fold_put k is rows (acc ++ [x]) (if r.kind = 1 then m else acc.length + 1)
      refine ⟨m', ?_, fun hm => h2 (by split <;> omega)⟩
      dsimp only
      rw [h1]
      simp
theorem put_row {k : Tr} (hk : k.Asc) (hf : allT fkB k = true) {r : Ro} (hr : RowOk r) (h13 : r.kind = 1 ∨ r.kind = 3) {y : Ln} (h : putRow k true r = some y) :
    (rowI y).kind = r.kind ∧ LnOk y ∧ (r.kind = 3 → (rowI y).name = r.name ∧ k.atIs (mk r.name) = true ∧ (rowI y).val = oneN (kidT k (mk r.name))) := by
  unfold putRow at h
  rcases h13 with h1 | h1
  · rw [if_pos h1] at h
    injection h with h
    obtain ⟨h0, x, rfl, hx⟩ := hr
    have hl := (row_kind x).2 h0
    rw [hl] at h
    subst h
    exact ⟨rfl, hx, fun h => by omega⟩
  · rw [if_neg (by omega), if_neg (by omega)] at h
    have e : getT k [⟨r.name.toArray⟩] = if k.atIs (mk r.name) = true then (kidT k (mk r.name), true) else (.nil, false) := getT_one k (mk r.name)
    rw [e] at h
    by_cases ha : k.atIs (mk r.name) = true
    · rw [if_pos ha, if_pos rfl] at h
      injection h with h
      have hm := (mem_eds hk (mk r.name) (kidT k (mk r.name))).2 ⟨ha, rfl⟩
      obtain ⟨_, v, _, g2, g3⟩ := fk_form (allT_mem hf _ hm)
      dsimp only at g3 h
      rw [g3] at h
      obtain ⟨a1, a2, a3, a4, a5⟩ := key_over hr h1 g2
      rw [← h, a1, a2, a3, g3]
      exact ⟨h1.symm, ⟨a4, a5⟩, fun _ => ⟨rfl, ha, rfl⟩⟩
    · rw [if_neg ha, if_neg (by decide)] at h
      cases h
theorem put_row_is {k : Tr} {r : Ro} (h1 : r.kind = 3) (ha : k.atIs (mk r.name) = true) : ∃ y, putRow k true r = some y := by
  unfold putRow
  rw [if_neg (by omega), if_neg (by omega)]
  have e : getT k [⟨r.name.toArray⟩] = if k.atIs (mk r.name) = true then (kidT k (mk r.name), true) else (.nil, false) := getT_one k (mk r.name)
  rw [e, if_pos ha, if_pos rfl]
  exact ⟨_, rfl⟩
theorem kept_sub {k : Tr} (hk : k.Asc) (hf : allT fkB k = true) : ∀ t : List Ro, (∀ r ∈ t, RowOk r ∧ (r.kind = 1 ∨ r.kind = 3)) → ((absR ((t.filterMap (putRow k true)).map rowI)).map (·.1)).Sublist ((absR t).map (·.1))
  | [], _ => List.Sublist.refl _
  | r :: t, h => by
    have ih := kept_sub hk hf t fun x hx => h x (by simp [hx])
    obtain ⟨h1, h2⟩ := h r (by simp)
    have e2 : absR (r :: t) = absR [r] ++ absR t := absR_app [r] t
    rw [List.filterMap_cons, e2, List.map_append]
    cases hp : putRow k true r with
    | none => exact ih.trans (List.sublist_append_right _ _)
    | some y =>
      obtain ⟨a1, _, a3⟩ := put_row hk hf h1 h2 hp
      dsimp only
      have e3 : absR ((y :: t.filterMap (putRow k true)).map rowI) = absR [rowI y] ++ absR ((t.filterMap (putRow k true)).map rowI) := absR_app [rowI y] _
      rw [e3, List.map_append]
      refine List.Sublist.append ?_ ih
      rcases h2 with h2 | h2
      · rw [absR, List.filterMap_cons, keyV, if_neg (by omega)]
        exact List.nil_sublist _
      · rw [absR, List.filterMap_cons, keyV, if_pos (by omega), absR, List.filterMap_cons, keyV, if_pos h2, (a3 h2).1]
        exact List.Sublist.refl _
def putK (k : Tr) (is : Bool) (E : Bs) (rows : List Ro) : List Ln :=
  (rows.foldl (stepR k is) ([], 0)).1.take (rows.foldl (stepR k is) ([], 0)).2 ++ (freshK k rows).map (keyL E) ++ (rows.foldl (stepR k is) ([], 0)).1.drop (rows.foldl (stepR k is) ([], 0)).2
theorem putPart_eq (t : Tr) (E : Bs) (p : Pt) : putPart t E p = putK (getT t [mk p.name]).1 (getT t [mk p.name]).2 E p.rows := rfl
theorem kd_mem {k : Tr} (hf : allT fkB k = true) {e : ByteArray × Tr} (h : e ∈ eds k) : kB e.1.data.toList = true ∧ vB (oneN e.2) = true ∧ e.2 = .cons (mk (oneN e.2)) .nil .nil := by
  obtain ⟨g1, v, g2, g3, g4⟩ := fk_form (allT_mem hf _ h)
  rw [g4]
  exact ⟨g1, g3, by rw [list_mk]; exact g2⟩
theorem part_in {k : Tr} {E : Bs} (hE : Fin E) (hk : k.Asc) (hf : allT fkB k = true) {p : Pt} (hp : PtOk p) : ∃ h rs, (putK k true E p.rows).map rowI = h :: rs ∧ h.kind = 2 ∧ h.name = p.name ∧ (∀ r ∈ rs, r.kind = 1 ∨ r.kind = 3) ∧ ((absR rs).map (·.1)).Nodup ∧
    (∀ n v, (n, v) ∈ absR rs ↔ (mk n, Tr.cons (mk v) .nil .nil) ∈ eds k) ∧ ∀ x ∈ putK k true E p.rows, LnOk x := by
  obtain ⟨⟨h, t, e, h2, hn, h13⟩, hd, hok⟩ := hp
  have hrok : RowOk h := hok h (by rw [e]; simp)
  have htok : ∀ r ∈ t, RowOk r ∧ (r.kind = 1 ∨ r.kind = 3) := fun r hr => ⟨hok r (by rw [e]; simp [hr]), h13 r hr⟩
  obtain ⟨hk0, x, hx, hx10⟩ := hrok
  have hln : h.ln = x := by rw [hx]; exact (row_kind x).2 (by rw [← hx]; omega)
  have hstep : stepR k true ([], 0) h = ([x], 1) := by
    rw [stepR, putRow, if_neg (by omega), if_pos h2, if_pos rfl, hln]
    dsimp only
    rw [if_neg (by omega)]
    rfl
  obtain ⟨m, hfo, hm⟩ := fold_put k true t [x] 1
  have hm := hm (Nat.le_refl 1)
  have hfold : p.rows.foldl (stepR k true) ([], 0) = (x :: t.filterMap (putRow k true), m) := by rw [e, List.foldl_cons, hstep, hfo]; rfl
  obtain ⟨j, rfl⟩ : ∃ j, m = j + 1 := ⟨m - 1, by omega⟩
  have hK : putK k true E p.rows = x :: ((t.filterMap (putRow k true)).take j ++ (freshK k p.rows).map (keyL E) ++ (t.filterMap (putRow k true)).drop j) := by
    rw [putK, hfold]
    dsimp only
    rw [List.take_succ_cons, List.drop_succ_cons]
    rfl
  have hfr : ∀ e ∈ freshK k p.rows, e ∈ eds k := fun e he => (List.mem_filter.1 he).1
  obtain ⟨r1, r2, r3⟩ := key_rows hE (freshK k p.rows) fun e he => ⟨(kd_mem hf (hfr e he)).1, (kd_mem hf (hfr e he)).2.1⟩
  have hF : ∀ y ∈ t.filterMap (putRow k true), ∃ r ∈ t, putRow k true r = some y := fun y hy => List.mem_filterMap.1 hy
  have hperm : (absR (((t.filterMap (putRow k true)).take j ++ (freshK k p.rows).map (keyL E) ++ (t.filterMap (putRow k true)).drop j).map rowI)).Perm (absR ((t.filterMap (putRow k true)).map rowI) ++ (freshK k p.rows).map fun e => (e.1.data.toList, oneN e.2)) := by
    conv => rhs; rw [← List.take_append_drop j (t.filterMap (putRow k true)), List.map_append, absR_app]
    rw [List.map_append, List.map_append, absR_app, absR_app, r1, List.append_assoc, List.append_assoc]
    exact List.perm_append_comm.append_left _
  have hdt : ((absR t).map (·.1)).Nodup := by
    have e1 : absR p.rows = absR [h] ++ absR t := by rw [e]; exact absR_app [h] t
    rw [e1, List.map_append] at hd
    exact (List.nodup_append.1 hd).2.1
  have hnames : (absR p.rows).map (·.1) = (absR t).map (·.1) := by
    have e1 : absR p.rows = absR [h] ++ absR t := by rw [e]; exact absR_app [h] t
    rw [e1, absR, List.filterMap_cons, keyV, if_neg (by omega)]
    rfl
  refine ⟨rowI x, ((t.filterMap (putRow k true)).take j ++ (freshK k p.rows).map (keyL E) ++ (t.filterMap (putRow k true)).drop j).map rowI, by rw [hK, List.map_cons], by rw [← hx]; exact h2, by rw [← hx]; exact hn, ?_, ?_, ?_, ?_⟩
  · intro r hr
    obtain ⟨y, hy, rfl⟩ := List.mem_map.1 hr
    have hy2 : y ∈ t.filterMap (putRow k true) ∨ y ∈ (freshK k p.rows).map (keyL E) := by
      rcases List.mem_append.1 hy with hy | hy
      · rcases List.mem_append.1 hy with hy | hy
        · exact .inl (List.mem_of_mem_take hy)
        · exact .inr hy
      · exact .inl (List.mem_of_mem_drop hy)
    rcases hy2 with hy2 | hy2
    · obtain ⟨r, hr, hp⟩ := hF y hy2
      rw [(put_row hk hf (htok r hr).1 (htok r hr).2 hp).1]
      exact (htok r hr).2
    · exact .inr (r2 _ (List.mem_map_of_mem hy2))
  · rw [(hperm.map _).nodup_iff, List.map_append, List.nodup_append]
    refine ⟨(kept_sub hk hf t htok).nodup hdt, ?_, ?_⟩
    · rw [List.map_map]
      exact ((List.filter_sublist (p := fun e : ByteArray × Tr => !(p.rows.any fun r => r.kind == 3 && e.1.data.toList == r.name)) (l := eds k)).map _).nodup (names_nodup hk)
    · intro a ha b hb eab
      subst eab
      have ha := (kept_sub hk hf t htok).subset ha
      rw [List.map_map] at hb
      obtain ⟨e1, he1, rfl⟩ := List.mem_map.1 hb
      have := (List.mem_filter.1 he1).2
      rw [← hnames, ← any_keys] at ha
      rw [Bool.not_eq_true'] at this
      have h4 : (p.rows.any fun r => r.kind == 3 && e1.1.data.toList == r.name) = true := by
        obtain ⟨r, hr, h5⟩ := List.any_eq_true.1 ha
        refine List.any_eq_true.2 ⟨r, hr, ?_⟩
        rw [Bool.and_eq_true, beq_iff_eq, beq_iff_eq] at h5 ⊢
        exact ⟨h5.1, h5.2.symm⟩
      rw [h4] at this
      cases this
  · intro n v
    rw [hperm.mem_iff, List.mem_append, mem_absR]
    constructor
    · rintro (⟨r, hr, k3, rfl, rfl⟩ | hm)
      · obtain ⟨y, hy, rfl⟩ := List.mem_map.1 hr
        obtain ⟨r, hr, hp⟩ := hF y hy
        obtain ⟨a1, _, a3⟩ := put_row hk hf (htok r hr).1 (htok r hr).2 hp
        obtain ⟨a4, a5, a6⟩ := a3 (by omega)
        have hm := (mem_eds hk (mk r.name) (kidT k (mk r.name))).2 ⟨a5, rfl⟩
        rw [a4, a6]
        have := (kd_mem hf hm).2.2
        dsimp only at this
        rw [← this]
        exact hm
      · obtain ⟨e1, he1, e2⟩ := List.mem_map.1 hm
        injection e2 with e2 e3
        subst e2 e3
        have h1 := hfr e1 he1
        rw [list_mk, ← (kd_mem hf h1).2.2]
        exact h1
    · intro hm
      obtain ⟨ha, hki⟩ := (mem_eds hk _ _).1 hm
      by_cases hin : (p.rows.any fun r => r.kind == 3 && n == r.name) = true
      · left
        obtain ⟨r, hr, h5⟩ := List.any_eq_true.1 hin
        rw [Bool.and_eq_true, beq_iff_eq, beq_iff_eq] at h5
        obtain ⟨k3, rfl⟩ := h5
        have hrt : r ∈ t := by
          rw [e] at hr
          rcases List.mem_cons.1 hr with rfl | hr
          · omega
          · exact hr
        obtain ⟨y, hy⟩ := put_row_is k3 ha
        obtain ⟨a1, _, a3⟩ := put_row hk hf (htok r hrt).1 (htok r hrt).2 hy
        obtain ⟨a4, _, a6⟩ := a3 k3
        refine ⟨rowI y, List.mem_map_of_mem (List.mem_filterMap.2 ⟨r, hrt, hy⟩), by omega, a4, ?_⟩
        rw [a6, hki]
        exact mk_list v
      · right
        refine List.mem_map.2 ⟨(mk n, .cons (mk v) .nil .nil), List.mem_filter.2 ⟨hm, ?_⟩, ?_⟩
        · dsimp only
          rw [mk_list, Bool.not_eq_true']
          exact Bool.not_eq_true _ ▸ hin
        · dsimp only [oneN]
          rw [mk_list, mk_list]
  · intro y hy
    rw [hK] at hy
    rcases List.mem_cons.1 hy with rfl | hy
    · exact hx10
    · have hy2 : y ∈ t.filterMap (putRow k true) ∨ y ∈ (freshK k p.rows).map (keyL E) := by
        rcases List.mem_append.1 hy with hy | hy
        · rcases List.mem_append.1 hy with hy | hy
          · exact .inl (List.mem_of_mem_take hy)
          · exact .inr hy
        · exact .inl (List.mem_of_mem_drop hy)
      rcases hy2 with hy2 | hy2
      · obtain ⟨r, hr, hp⟩ := hF y hy2
        exact (put_row hk hf (htok r hr).1 (htok r hr).2 hp).2.1
      · exact r3 y hy2
end Go.Proofs.YtapgaglkkgbgkaaGreatDoor.In
namespace Go.Proofs.YtapgaglkkgbgkaaGreatDoor.In
open Go.RowKit Go.Sort Go.Proofs.YtapgaglkkgbgkaaGreatDoor.Jd Go.Proofs.YtapgaglkkgbgkaaGreatDoor.Cl Go.Proofs.YtapgaglkkgbgkaaGreatDoor.Li Go.Proofs.YtapgaglkkgbgkaaGreatDoor.Cv Go.Proofs.YtapgaglkkgbgkaaGreatDoor.Pt
set_option maxRecDepth 100000

theorem part_out {E : Bs} {rows : List Ro} (hok : ∀ r ∈ rows, RowOk r) : (∀ r ∈ (putK .nil false E rows).map rowI, r.kind = 1) ∧ ∀ x ∈ putK .nil false E rows, LnOk x := by
  obtain ⟨m, hfo, _⟩ := fold_put .nil false rows [] 0
  have hK : putK .nil false E rows = rows.filterMap (putRow .nil false) := by
    rw [putK, hfo]
    have : freshK .nil rows = [] := rfl
    rw [this, List.map_nil, List.append_nil]
    exact List.take_append_drop _ _
  have key : ∀ y ∈ rows.filterMap (putRow .nil false), (rowI y).kind = 1 ∧ LnOk y := by
    intro y hy
    obtain ⟨r, hr, h⟩ := List.mem_filterMap.1 hy
    obtain ⟨h0, x, rfl, hx⟩ := hok r hr
    have hl := (row_kind x).2 h0
    unfold putRow at h
    by_cases h1 : (rowI x).kind = 1
    · rw [if_pos h1, hl] at h
      injection h with h
      subst h
      exact ⟨h1, hx⟩
    · rw [if_neg h1] at h
      by_cases h2 : (rowI x).kind = 2
      · rw [if_pos h2, if_neg (by decide)] at h
        cases h
      · rw [if_neg h2, if_neg (by exact (by decide : ¬ (false = true)))] at h
        cases h
  rw [hK]
  refine ⟨fun r hr => ?_, fun x hx => (key x hx).2⟩
  obtain ⟨y, hy, rfl⟩ := List.mem_map.1 hr
  exact (key y hy).1
def keysK : List (Bs × Bs) → Tr
  | [] => .nil
  | e :: r => .cons (mk e.1) (.cons (mk e.2) .nil .nil) (keysK r)
theorem keysT_abs : ∀ rs : List Ro, keysT rs = keysK (absR rs)
  | [] => rfl
  | r :: rs => by
    rw [keysT, absR, List.filterMap_cons, keyV]
    by_cases h : r.kind = 3
    · rw [if_pos h, if_pos h, keysT_abs rs]; rfl
    · rw [if_neg h, if_neg h, keysT_abs rs]; rfl
theorem eds_keys : ∀ ks : List (Bs × Bs), eds (keysK ks) = ks.map fun e => (mk e.1, .cons (mk e.2) .nil .nil)
  | [] => rfl
  | e :: r => by rw [keysK, eds, eds_keys r]; rfl
theorem keys_back {k : Tr} (hk : k.Asc) (hf : allT fkB k = true) {ks : List (Bs × Bs)} (hn : (ks.map (·.1)).Nodup) (hm : ∀ n v, (n, v) ∈ ks ↔ (mk n, Tr.cons (mk v) .nil .nil) ∈ eds k) : srtE (keysK ks) = k := by
  refine srt_is ?_ hk ?_
  · rw [eds_bn, eds_keys, List.map_map]
    have : ((fun e : ByteArray × Tr => e.1.data.toList) ∘ fun e : Bs × Bs => (mk e.1, Tr.cons (mk e.2) .nil .nil)) = fun e => e.1 := by
      funext e
      exact mk_list e.1
    rw [this]
    exact hn
  · intro q kk
    rw [eds_keys, List.mem_map]
    constructor
    · rintro ⟨⟨n, v⟩, h, e⟩
      injection e with e1 e2
      subst e1 e2
      exact (hm n v).1 h
    · intro h
      have h3 := (kd_mem hf h).2.2
      dsimp only at h3
      refine ⟨(q.data.toList, oneN kk), (hm _ _).2 ?_, ?_⟩
      · rw [list_mk, ← h3]; exact h
      · rw [list_mk, ← h3]
def secsS : Sa → Tr
  | [] => .nil
  | e :: r => .cons (mk e.1) (srtE (keysK e.2)) (secsS r)
theorem secs_abs : ∀ ps : List Pt, secsT ps = secsS (absP ps)
  | [] => rfl
  | p :: ps => by rw [secsT, secs_abs ps, keysT_abs]; rfl
theorem eds_secs : ∀ S : Sa, eds (secsS S) = S.map fun e => (mk e.1, srtE (keysK e.2))
  | [] => rfl
  | e :: r => by rw [secsS, eds, eds_secs r]; rfl
def SecOk (t : Tr) (e : Bs × List (Bs × Bs)) : Prop := t.atIs (mk e.1) = true ∧ srtE (keysK e.2) = kidT t (mk e.1)
theorem tree_back {t : Tr} (ha : t.Asc) {L : Sa} (hL : ∀ e ∈ L, SecOk t e) (hn : (L.map (·.1)).Nodup) (hall : ∀ e ∈ eds t, e.1.data.toList ∈ L.map (·.1)) : srtE (secsS L) = t := by
  refine srt_is ?_ ha ?_
  · rw [eds_bn, eds_secs, List.map_map]
    have : ((fun e : ByteArray × Tr => e.1.data.toList) ∘ fun e : Bs × List (Bs × Bs) => (mk e.1, srtE (keysK e.2))) = fun e => e.1 := by
      funext e
      exact mk_list e.1
    rw [this]
    exact hn
  · intro q k
    rw [eds_secs, List.mem_map]
    constructor
    · rintro ⟨e, he, e1⟩
      injection e1 with e1 e2
      subst e1 e2
      exact (mem_eds ha _ _).2 ⟨(hL e he).1, (hL e he).2.symm⟩
    · intro h
      obtain ⟨e, he, e1⟩ := List.mem_map.1 (hall _ h)
      dsimp only at e1
      have e2 : mk e.1 = q := by rw [e1, list_mk]
      refine ⟨e, he, ?_⟩
      rw [(hL e he).2, e2, ((mem_eds ha q k).1 h).2]
theorem kid_ok {t : Tr} (ha : AscD t) (hf : allT fsB t = true) {q : ByteArray} (h : t.atIs q = true) : sB q.data.toList = true ∧ (kidT t q).Asc ∧ allT fkB (kidT t q) = true := by
  have hm := (mem_eds (AscD.asc ha) q (kidT t q)).2 ⟨h, rfl⟩
  have h1 := allT_mem hf _ hm
  dsimp only at h1
  unfold fsB at h1
  rw [Bool.and_eq_true] at h1
  refine ⟨h1.1, AscD.asc ?_, h1.2⟩
  have key : ∀ {u : Tr}, AscD u → ∀ e ∈ eds u, AscD e.2 := by
    intro u
    induction u with
    | nil => intro _ e he; cases he
    | cons s k r ih1 ih2 =>
      intro h e he
      rcases List.mem_cons.1 he with rfl | he
      · exact h.2.1
      · exact ih2 h.2.2 e he
  exact key ha _ hm
theorem get_part (t : Tr) (q : Bs) : getT t [mk q] = if t.atIs (mk q) = true then (kidT t (mk q), true) else (.nil, false) := getT_one t (mk q)
theorem run_put {t : Tr} {E : Bs} (hE : Fin E) (ha : AscD t) (hf : allT fsB t = true) : ∀ (tl : List Pt) (S : Sa), S ≠ [] → (∀ p ∈ tl, PtOk p) → (tl.map (·.name)).Nodup → (∀ p ∈ tl, p.name ∉ S.map (·.1)) →
    ∃ L : Sa, runS S ((tl.flatMap (putPart t E)).map rowI) = some (S ++ L) ∧ L.map (·.1) = (tl.filter fun p => t.atIs (mk p.name)).map (·.name) ∧ (∀ e ∈ L, SecOk t e) ∧ ∀ x ∈ tl.flatMap (putPart t E), LnOk x
  | [], S, _, _, _, _ => ⟨[], by rw [List.append_nil]; rfl, rfl, fun _ h => (by cases h), fun _ h => by cases h⟩
  | p :: tl, S, hS, hok, hnd, hno => by
    rw [List.map_cons, List.nodup_cons] at hnd
    have hp := hok p (by simp)
    rw [List.flatMap_cons, List.map_append, run_app, putPart_eq, get_part, List.filter_cons]
    by_cases hq : t.atIs (mk p.name) = true
    · obtain ⟨_, k1, k2⟩ := kid_ok ha hf hq
      obtain ⟨h, rs, e1, e2, e3, e4, e5, e6, e7⟩ := part_in hE k1 k2 hp
      rw [if_pos hq]
      dsimp only
      rw [e1, run_sec hS e2 (by rw [e3]; exact hno p (by simp)) e4 e5, Option.bind_some, if_pos hq]
      obtain ⟨L, l1, l2, l3, l4⟩ := run_put hE ha hf tl (S ++ [(h.name, absR rs)]) (by simp) (fun x hx => hok x (by simp [hx])) hnd.2 (by
        intro x hx hm
        rw [List.map_append, List.mem_append] at hm
        rcases hm with hm | hm
        · exact hno x (by simp [hx]) hm
        · simp at hm
          exact hnd.1 (List.mem_map.2 ⟨x, hx, by rw [hm, e3]⟩))
      refine ⟨(h.name, absR rs) :: L, by rw [l1]; simp, by rw [List.map_cons, l2, List.map_cons, e3], ?_, ?_⟩
      · intro e he
        rcases List.mem_cons.1 he with rfl | he
        · refine ⟨by rw [e3]; exact hq, ?_⟩
          dsimp only
          rw [e3]
          exact keys_back k1 k2 e5 e6
        · exact l3 e he
      · intro x hx
        rcases List.mem_append.1 hx with hx | hx
        · exact e7 x hx
        · exact l4 x hx
    · obtain ⟨o1, o2⟩ := part_out (E := E) hp.2.2
      rw [if_neg hq]
      dsimp only
      rw [run_rem _ S o1, Option.bind_some, if_neg (by simpa using hq)]
      obtain ⟨L, l1, l2, l3, l4⟩ := run_put hE ha hf tl S hS (fun x hx => hok x (by simp [hx])) hnd.2 (fun x hx => hno x (by simp [hx]))
      refine ⟨L, l1, l2, l3, ?_⟩
      intro x hx
      rcases List.mem_append.1 hx with hx | hx
      · exact o2 x hx
      · exact l4 x hx
theorem sec_one {s E : Bs} (hE : Fin E) (h : sB s = true) : (rowI ([91] ++ s ++ [93], E)).kind = 2 ∧ (rowI ([91] ++ s ++ [93], E)).name = s ∧ LnOk ([91] ++ s ++ [93], E) := by
  rw [sec_line h]
  refine ⟨rfl, rfl, ?_, .inl hE⟩
  simp only [sB, Bool.and_eq_true] at h
  have t2 := (vB_trm h.1.2).2.2.1
  simp only [List.mem_append, List.mem_singleton, not_or]
  exact ⟨⟨by decide, t2⟩, by decide⟩
theorem run_fresh {t : Tr} {E : Bs} (hE : Fin E) (ha : AscD t) (hf : allT fsB t = true) : ∀ (es : List (ByteArray × Tr)) (S : Sa), S ≠ [] → (∀ e ∈ es, e ∈ eds t) → (es.map (·.1.data.toList)).Nodup → (∀ e ∈ es, e.1.data.toList ∉ S.map (·.1)) →
    ∃ L : Sa, runS S ((es.flatMap (secL E)).map rowI) = some (S ++ L) ∧ L.map (·.1) = es.map (·.1.data.toList) ∧ (∀ e ∈ L, SecOk t e) ∧ ∀ x ∈ es.flatMap (secL E), LnOk x
  | [], S, _, _, _, _ => ⟨[], by rw [List.append_nil]; rfl, rfl, fun _ h => (by cases h), fun _ h => by cases h⟩
  | e :: es, S, hS, hin, hnd, hno => by
    rw [List.map_cons, List.nodup_cons] at hnd
    obtain ⟨m1, m2⟩ := (mem_eds (AscD.asc ha) e.1 e.2).1 (hin e (by simp))
    obtain ⟨k0, k1, k2⟩ := kid_ok ha hf m1
    rw [m2] at k1 k2
    obtain ⟨s1, s2, s3⟩ := sec_one hE k0
    obtain ⟨r1, r2, r3⟩ := key_rows hE (eds e.2) fun x hx => ⟨(kd_mem k2 hx).1, (kd_mem k2 hx).2.1⟩
    have hn : ((absR (((eds e.2).map (keyL E)).map rowI)).map (·.1)).Nodup := by
      rw [r1, List.map_map]
      exact names_nodup k1
    rw [List.flatMap_cons, List.map_append, run_app, secL, List.map_cons, run_sec hS s1 (by rw [s2]; exact hno e (by simp)) (fun r hr => .inr (r2 r hr)) hn, Option.bind_some, s2]
    obtain ⟨L, l1, l2, l3, l4⟩ := run_fresh hE ha hf es (S ++ [(e.1.data.toList, absR (((eds e.2).map (keyL E)).map rowI))]) (by simp) (fun x hx => hin x (by simp [hx])) hnd.2 (by
      intro x hx hm
      rw [List.map_append, List.mem_append] at hm
      rcases hm with hm | hm
      · exact hno x (by simp [hx]) hm
      · rw [List.map_cons, List.map_nil, List.mem_singleton] at hm
        exact hnd.1 (List.mem_map.2 ⟨x, hx, hm⟩))
    refine ⟨(e.1.data.toList, absR (((eds e.2).map (keyL E)).map rowI)) :: L, by rw [l1]; simp, by rw [List.map_cons, l2, List.map_cons], ?_, ?_⟩
    · intro x hx
      rcases List.mem_cons.1 hx with rfl | hx
      · refine ⟨by rw [list_mk]; exact m1, ?_⟩
        dsimp only
        rw [list_mk, m2]
        refine keys_back k1 k2 hn ?_
        intro n v
        rw [r1, List.mem_map]
        constructor
        · rintro ⟨y, hy, e1⟩
          injection e1 with e1 e2
          subst e1 e2
          rw [list_mk, ← (kd_mem k2 hy).2.2]
          exact hy
        · intro hm
          refine ⟨_, hm, ?_⟩
          dsimp only [oneN]
          rw [mk_list, mk_list]
      · exact l3 x hx
    · intro x hx
      rcases List.mem_append.1 hx with hx | hx
      · rcases List.mem_cons.1 hx with rfl | hx
        · exact s3
        · exact r3 x hx
      · exact l4 x hx
theorem run_kinds : ∀ (rs : List Ro) (S S' : Sa), runS S rs = some S' → ∀ r ∈ rs, r.kind ≠ 0
  | [], _, _, _, _, h => by cases h
  | r :: rs, S, S', h, x, hx => by
    rw [runS] at h
    cases hs : stS S r with
    | none => rw [hs] at h; cases h
    | some S1 =>
      rw [hs, Option.bind_some] at h
      rcases List.mem_cons.1 hx with rfl | hx
      · intro h0
        rw [stS, if_neg (by omega), if_neg (by omega), if_neg (by omega)] at hs
        cases hs
      · exact run_kinds rs S1 S' h x hx
theorem put_back {t : Tr} {l : Bs} (hr : (partsI [⟨[], []⟩] 0 (split l)).2.2 = 0) (ha : AscD t) (hf : allT fsB t = true) :
    (partsI [⟨[], []⟩] 0 (split (putF t l))).2 = (0, 0) ∧ treeI (partsI [⟨[], []⟩] 0 (split (putF t l))).1 = t ∧
    (split (putF t l)).map (·.1) = ((partsI [⟨[], []⟩] 0 (split l)).1.flatMap (putPart t (endOf (split l))) ++ (freshS t (partsI [⟨[], []⟩] 0 (split l)).1).flatMap (secL (endOf (split l)))).map (·.1) := by
  have hE : Fin (endOf (split l)) := endOf_fin (split_good l)
  obtain ⟨p0, tl, e, h0, h1, h2, h3⟩ := shape_split hr
  have hnames : ∀ q, t.atIs (mk q) = true → q ≠ [] := by
    intro q hq e
    have := (kid_ok ha hf hq).1
    rw [e, mk_list] at this
    revert this
    decide
  have hp0 : ¬ t.atIs (mk p0.name) = true := fun h => hnames _ h h0
  obtain ⟨o1, o2⟩ := part_out (E := endOf (split l)) (rows := p0.rows) fun r hr => (h1 r hr).2
  have htl : ∀ p ∈ tl, p.name ≠ [] := by
    intro p hp e2
    obtain ⟨⟨h, rs, e3, k2, e4, _⟩, _, hok⟩ := h2 p hp
    obtain ⟨_, x, e5, _⟩ := hok h (by rw [e3]; simp)
    have hs : (rowI x).kind = 2 → (rowI x).name ≠ [] := by
      unfold rowI
      intro hk
      split at hk
      · cases hk
      · rename_i h13
        rw [if_neg h13]
        split at hk
        · cases hk
        · split at hk
          · cases hk
          · rename_i hc
            rw [if_neg hc]
            split at hk
            · rename_i hc2
              rw [if_pos hc2]
              unfold headR at hk ⊢
              split at hk
              · rename_i hh
                rw [if_pos hh]
                intro e6
                have := hh.2
                dsimp only at e6
                rw [e6] at this
                revert this
                decide
              · cases hk
            · unfold keyR at hk
              split at hk <;> cases hk
    exact hs (by rw [← e5]; exact k2) (by rw [← e5, e4, e2])
  obtain ⟨L1, a1, a2, a3, a4⟩ := run_put (E := endOf (split l)) hE ha hf tl [([], [])] (by simp) h2 h3 (by
    intro p hp hm
    simp at hm
    exact htl p hp hm)
  have hfs : ∀ e2 ∈ freshS t (p0 :: tl), e2 ∈ eds t ∧ e2.1.data.toList ≠ p0.name ∧ ∀ p ∈ tl, e2.1.data.toList ≠ p.name := by
    intro e2 he
    obtain ⟨m1, m2⟩ := List.mem_filter.1 he
    rw [Bool.not_eq_true', Bool.eq_false_iff] at m2
    refine ⟨m1, fun h => m2 ?_, fun p hp h => m2 ?_⟩
    · exact List.any_eq_true.2 ⟨p0, by simp, by simpa using h⟩
    · exact List.any_eq_true.2 ⟨p, by simp [hp], by simpa using h⟩
  have hat := AscD.asc ha
  obtain ⟨L2, b1, b2, b3, b4⟩ := run_fresh (E := endOf (split l)) hE ha hf (freshS t (p0 :: tl)) ([([], [])] ++ L1) (by simp) (fun e2 he => (hfs e2 he).1)
    (((List.filter_sublist (p := fun e : ByteArray × Tr => !((p0 :: tl).any fun p => e.1.data.toList == p.name)) (l := eds t)).map _).nodup (names_nodup hat)) (by
    intro e2 he hm
    rw [List.map_append, List.mem_append] at hm
    rcases hm with hm | hm
    · rw [List.map_cons, List.map_nil, List.mem_singleton] at hm
      have := (mem_eds hat e2.1 e2.2).1 (hfs e2 he).1
      exact hnames _ (by rw [list_mk]; exact this.1) hm
    · rw [a2] at hm
      obtain ⟨p, hp, e3⟩ := List.mem_map.1 hm
      exact (hfs e2 he).2.2 p (List.mem_filter.1 hp).1 e3.symm)
  have hlines : runS [([], [])] (((p0 :: tl).flatMap (putPart t (endOf (split l))) ++ (freshS t (p0 :: tl)).flatMap (secL (endOf (split l)))).map rowI) = some ([([], [])] ++ L1 ++ L2) := by
    rw [List.map_append, run_app, List.flatMap_cons, List.map_append, run_app, putPart_eq, get_part, if_neg hp0]
    dsimp only
    rw [run_rem _ _ o1, Option.bind_some, a1, Option.bind_some, b1]
  generalize hls : (p0 :: tl).flatMap (putPart t (endOf (split l))) ++ (freshS t (p0 :: tl)).flatMap (secL (endOf (split l))) = ls at hlines
  have hok : ∀ x ∈ ls, LnOk x := by
    rw [← hls]
    intro x hx
    rcases List.mem_append.1 hx with hx | hx
    · rw [List.flatMap_cons, putPart_eq, get_part, if_neg hp0] at hx
      rcases List.mem_append.1 hx with hx | hx
      · exact o2 x hx
      · exact a4 x hx
    · exact b4 x hx
  have h13 : ∀ x ∈ ls, (13 : UInt8) ∉ x.1 := fun x hx => row_13 (run_kinds _ _ _ hlines _ (List.mem_map_of_mem hx))
  have hg : Li.Good (ended (endOf (split l)) ls) := ended_good hE ls hok
  have hF : putF t l = join (ended (endOf (split l)) ls) := by rw [putF, e, putI, hls]
  have hsp : split (putF t l) = ended (endOf (split l)) ls := by
    rw [hF]
    refine split_join _ hg fun x hx => ?_
    have : x.1 ∈ (ended (endOf (split l)) ls).map (·.1) := List.mem_map_of_mem hx
    rw [ended_texts] at this
    obtain ⟨y, hy, e2⟩ := List.mem_map.1 this
    rw [← e2]
    exact h13 y hy
  have hrun : runS (absP [⟨[], []⟩]) ((split (putF t l)).map rowI) = some ([([], [])] ++ L1 ++ L2) := by
    rw [hsp, run_texts _ ls _ (ended_texts _ _)]
    exact hlines
  obtain ⟨f1, f2⟩ := parts_run (split (putF t l)) [⟨[], []⟩] 0 (by simp) _ hrun
  refine ⟨f1, ?_, by rw [hsp, ended_texts, e, hls]⟩
  rw [treeI, secs_abs, show absP (partsI [⟨[], []⟩] 0 (split (putF t l))).1.tail = (absP (partsI [⟨[], []⟩] 0 (split (putF t l))).1).tail from List.map_tail, f2]
  show srtE (secsS (L1 ++ L2)) = t
  refine tree_back hat ?_ ?_ ?_
  · intro x hx
    rcases List.mem_append.1 hx with hx | hx
    · exact a3 x hx
    · exact b3 x hx
  · rw [List.map_append, List.nodup_append, a2, b2]
    refine ⟨((List.filter_sublist (p := fun p : Pt => t.atIs (mk p.name)) (l := tl)).map _).nodup h3, ((List.filter_sublist (p := fun e : ByteArray × Tr => !((p0 :: tl).any fun p => e.1.data.toList == p.name)) (l := eds t)).map _).nodup (names_nodup hat), ?_⟩
    intro x hx y hy exy
    subst exy
    obtain ⟨p, hp, e3⟩ := List.mem_map.1 hx
    obtain ⟨e2, he, e4⟩ := List.mem_map.1 hy
    exact (hfs e2 he).2.2 p (List.mem_filter.1 hp).1 (by rw [e4, e3])
  · intro e2 he
    rw [List.map_append, List.mem_append, a2, b2]
    by_cases hany : ((p0 :: tl).any fun p => e2.1.data.toList == p.name) = true
    · left
      obtain ⟨p, hp, e3⟩ := List.any_eq_true.1 hany
      have e3 : e2.1.data.toList = p.name := by simpa using e3
      have hin := ((mem_eds hat e2.1 e2.2).1 he).1
      have hin2 : t.atIs (mk p.name) = true := by rw [← e3, list_mk]; exact hin
      rcases List.mem_cons.1 hp with rfl | hp
      · exact absurd hin2 hp0
      · exact List.mem_map.2 ⟨p, List.mem_filter.2 ⟨hp, hin2⟩, e3.symm⟩
    · right
      exact List.mem_map.2 ⟨e2, List.mem_filter.2 ⟨he, by rw [Bool.not_eq_true']; exact Bool.eq_false_iff.2 hany⟩, rfl⟩
end Go.Proofs.YtapgaglkkgbgkaaGreatDoor.In
namespace Go.Proofs.YtapgaglkkgbgkaaGreatDoor.Cv
open Go.RowKit Go.Sort Go.Proofs.YtapgaglkkgbgkaaGreatDoor.Jd Go.Proofs.YtapgaglkkgbgkaaGreatDoor.Li Go.Proofs.YtapgaglkkgbgkaaGreatDoor.Cl Go.Proofs.YtapgaglkkgbgkaaGreatDoor.Pt
set_option maxRecDepth 100000

theorem walk_asc : ∀ (t : Tr) (d n : Nat) (p : Option ByteArray), (walkC d t p n).2 = 0 → AscD t ∧ (∀ q, p = some q → ∀ x ∈ t.bn, q.data.toList < x) ∧ (walkC d t p n).1 = n + t.size ∧ (n ≤ 400 → n + t.size ≤ 400)
  | .nil, d, n, p, _ => ⟨trivial, (fun _ _ x hx => by cases hx), rfl, fun h => h⟩
  | .cons s k r, d, n, p, h => by
    rw [walkC] at h ⊢
    by_cases c1 : 400 < n + 1
    · rw [if_pos c1] at h; cases h
    rw [if_neg c1] at h ⊢
    by_cases c2 : 12 < d
    · rw [if_pos c2] at h; cases h
    rw [if_neg c2] at h ⊢
    by_cases c3 : 80 < s.size
    · rw [if_pos c3] at h; cases h
    rw [if_neg c3] at h ⊢
    by_cases c4 : notAfter p s = true
    · rw [if_pos c4] at h; cases h
    rw [if_neg c4] at h ⊢
    by_cases c5 : (walkC (d + 1) k none (n + 1)).2 = 0
    · rw [if_pos c5] at h ⊢
      obtain ⟨a1, _, a3, a4⟩ := walk_asc k (d + 1) (n + 1) none c5
      obtain ⟨b1, b2, b3, b4⟩ := walk_asc r d _ (some s) h
      have hs := b2 s rfl
      have hasc : (Tr.cons s k r).Asc := by
        show ((Tr.cons s k r).bn).Pairwise (· < ·)
        rw [bn_cons, List.pairwise_cons]
        exact ⟨hs, AscD.asc b1⟩
      refine ⟨⟨hasc, a1, b1⟩, fun q hq x hx => ?_, ?_, fun _ => ?_⟩
      · subst hq
        have hqs : q.data.toList < s.data.toList := (less_iff q s).1 (by simpa [notAfter] using c4)
        rw [bn_cons] at hx
        rcases List.mem_cons.1 hx with rfl | hx
        · exact hqs
        · exact List.lt_trans hqs (hs x hx)
      · rw [b3, a3, Tr.size]; omega
      · have := b4 (by rw [a3]; exact a4 (by omega))
        rw [a3] at this
        rw [Tr.size]; omega
    · rw [if_neg c5] at h
      exact absurd h c5
theorem fault_asc {t : Tr} (h : t.fault = 0) : AscD t ∧ t.size ≤ 400 := by
  obtain ⟨a, _, _, b⟩ := walk_asc t 1 0 none h
  exact ⟨a, by have := b (by omega); omega⟩
theorem join_le : ∀ (fs : List Bs) (K : Nat), (∀ x ∈ fs, x.length ≤ K) → (Lib.join fs [44]).length ≤ fs.length * (K + 1)
  | [], _, _ => by simp [Lib.join, List.intercalate]
  | [x], K, h => by
    have := h x (by simp)
    rw [Lib.join_one]
    simp only [List.length_cons, List.length_nil]
    omega
  | x :: y :: r, K, h => by
    have ej : Lib.join (x :: y :: r) [44] = x ++ 44 :: Lib.join (y :: r) [44] := by simp [Lib.join, List.intercalate]
    have h1 := h x (by simp)
    have ih := join_le (y :: r) K (fun z hz => h z (by simp [hz]))
    rw [ej, List.length_append, List.length_cons, List.length_cons (a := x), Nat.add_mul]
    omega
end Go.Proofs.YtapgaglkkgbgkaaGreatDoor.Cv
namespace Go.Proofs.YtapgaglkkgbgkaaGreatDoor.Cv
open Go.RowKit Go.Proofs.YtapgaglkkgbgkaaGreatDoor.Jd Go.Proofs.YtapgaglkkgbgkaaGreatDoor.Li Go.Proofs.YtapgaglkkgbgkaaGreatDoor.Pt
set_option maxRecDepth 100000

end Go.Proofs.YtapgaglkkgbgkaaGreatDoor.Cv
namespace Go.Proofs.YtapgaglkkgbgkaaGreatDoor.Cv
open Go.RowKit Go.Sort Go.Proofs.YtapgaglkkgbgkaaGreatDoor.Jd Go.Proofs.YtapgaglkkgbgkaaGreatDoor.Li Go.Proofs.YtapgaglkkgbgkaaGreatDoor.Cl Go.Proofs.YtapgaglkkgbgkaaGreatDoor.Pt
set_option maxRecDepth 100000

theorem rowsF_line : ∀ (ls : List Ln) (ahead : List Rw) (i : Nat), (rowsF ahead i ls).2.2 = 0 → (rowsF ahead i ls).2.1 = 0
  | [], _, _, _ => rfl
  | x :: r, ahead, i, h => by
    rw [rowsF] at h ⊢
    split at h
    · rename_i h1; exact absurd h h1
    · rename_i h1
      rw [if_neg h1]
      exact rowsF_line r _ _ h
theorem read_inv {l : Bs} (h : (readF l).2.2 = 0) : l.length ≤ 4000 ∧ (readF l).2.1 = 0 ∧ ∃ hd x0 xl rs, rowsF [] 0 (split l) = (hd :: rs, 0, 0) ∧ hd.fs = x0 :: xl := by
  obtain ⟨R, hR⟩ : ∃ R, R = readF l := ⟨_, rfl⟩
  rw [← hR] at h ⊢
  unfold readF at hR
  by_cases h1 : 4000 < l.length
  · rw [if_pos h1] at hR; subst hR; cases h
  rw [if_neg h1] at hR
  obtain ⟨q, hq⟩ : ∃ q, q = rowsF [] 0 (split l) := ⟨_, rfl⟩
  rw [← hq] at hR
  obtain ⟨rows, i, e⟩ := q
  by_cases h2 : e ≠ 0
  · rw [if_pos h2] at hR; subst hR; exact absurd h h2
  rw [if_neg h2] at hR
  obtain rfl : e = 0 := Decidable.not_not.1 h2
  have hi : i = 0 := by
    have := rowsF_line (split l) [] 0 (by rw [← hq])
    rw [← hq] at this
    exact this
  subst hi
  cases rows with
  | nil => subst hR; cases h
  | cons hd rs =>
    dsimp only at hR
    split at hR
    · subst hR
      rename_i h3
      have h' : (((treeR (hd :: rs)).fault : Nat) : Int) = 0 := h
      exact absurd (by exact_mod_cast h') h3
    · subst hR
      refine ⟨by omega, rfl, hd, ?_⟩
      have hinv := rowsF_inv _ _ _ _ hq.symm
      rw [List.nil_append] at hinv
      cases hs : split l with
      | nil => rw [hs] at hinv; cases hinv
      | cons y ys =>
        rw [hs] at hinv hq
        injection hinv with e1 e2
        rw [rowsF] at hq
        split at hq
        · injection hq with _ hq; injection hq with hq _; omega
        · rename_i h4
          have h5 : faultF [] (rowF y) = 0 := Decidable.not_not.1 h4
          unfold faultF at h5
          split at h5
          · cases h5
          · rename_i h6
            rw [← e1] at h6
            cases hf : hd.fs with
            | nil => exact absurd hf h6
            | cons x0 xl => exact ⟨x0, xl, rs, by rw [← hs]; rw [hs, rowsF, if_neg h4]; exact hq.symm, rfl⟩
end Go.Proofs.YtapgaglkkgbgkaaGreatDoor.Cv
namespace Go.Proofs.YtapgaglkkgbgkaaGreatDoor.Cv
open Go.RowKit Go.Sort Go.Proofs.YtapgaglkkgbgkaaGreatDoor.Jd Go.Proofs.YtapgaglkkgbgkaaGreatDoor.Li Go.Proofs.YtapgaglkkgbgkaaGreatDoor.Cl Go.Proofs.YtapgaglkkgbgkaaGreatDoor.Pt
set_option maxRecDepth 100000

theorem allT_of {f : ByteArray → Tr → Bool} : ∀ {t : Tr}, (∀ e ∈ eds t, f e.1 e.2 = true) → allT f t = true
  | .nil, _ => rfl
  | .cons s k r, h => by
    rw [allT, Bool.and_eq_true]
    exact ⟨h (s, k) (List.mem_cons_self ..), allT_of fun e he => h e (List.mem_cons_of_mem _ he)⟩
theorem eds_recs2 {srt : Tr → Tr} {cols : List ByteArray} : ∀ {rs : List Rw} {e : ByteArray × Tr}, e ∈ eds (recsT srt cols rs) → ∃ r ∈ rs, e = (nm r, srt (rawB cols (mns r.fs.tail)))
  | [], e, h => by cases h
  | r :: rs, e, h => by
    rcases List.mem_cons.1 h with rfl | h
    · exact ⟨r, by simp, rfl⟩
    · obtain ⟨r', hr, he⟩ := eds_recs2 h
      exact ⟨r', by simp [hr], he⟩
theorem eds_raw : ∀ {cs vs : List ByteArray} {e : ByteArray × Tr}, e ∈ eds (rawB cs vs) → ∃ c v, c ∈ cs ∧ v ∈ vs ∧ v.size ≠ 0 ∧ e = (c, .cons v .nil .nil)
  | [], _, e, h => by simp [rawB, eds] at h
  | _ :: _, [], e, h => by simp [rawB, eds] at h
  | c :: cs, v :: vs, e, h => by
    rw [rawB] at h
    split at h
    · obtain ⟨c', v', h1, h2, h3, h4⟩ := eds_raw h
      exact ⟨c', v', by simp [h1], by simp [h2], h3, h4⟩
    · rename_i hv
      rcases List.mem_cons.1 h with rfl | h
      · exact ⟨c, v, by simp, by simp, hv, rfl⟩
      · obtain ⟨c', v', h1, h2, h3, h4⟩ := eds_raw h
        exact ⟨c', v', by simp [h1], by simp [h2], h3, h4⟩
theorem read_fits {l : Bs} (h : (readF l).2.2 = 0) : fitsC (readF l).1 = 0 := by
  obtain ⟨hl, _, hd, x0, xl, rs, hrows, hh⟩ := read_inv h
  have e : readF l = if (treeR (hd :: rs)).fault ≠ 0 then (.nil, 0, (((treeR (hd :: rs)).fault : Nat) : Int)) else (treeR (hd :: rs), 0, 0) := by
    unfold readF
    rw [if_neg (by omega), hrows, if_neg (by simp)]
  by_cases hf : (treeR (hd :: rs)).fault ≠ 0
  · rw [e, if_pos hf] at h
    have h' : (((treeR (hd :: rs)).fault : Nat) : Int) = 0 := h
    exact absurd (by exact_mod_cast h') hf
  rw [e, if_neg hf]
  have hf0 : (treeR (hd :: rs)).fault = 0 := Decidable.not_not.1 hf
  have hfo := file_ok hrows hh
  have em : mns hd.fs = ⟨x0.2.toArray⟩ :: mns xl := by rw [hh]; rfl
  have hc := (head_facts (by rw [← em]; exact hfo.hf : headF (⟨x0.2.toArray⟩ :: mns xl) = 0)).2.1
  have hcols : colsR hd = mns xl := by rw [colsR, hh]; rfl
  have hall : allT frB (treeR (hd :: rs)) = true := by
    refine allT_of fun p hp => ?_
    have hp2 : p ∈ eds (recsT srtE (colsR hd) rs) := (srt_perm _).mem_iff.1 hp
    obtain ⟨r, hr, rfl⟩ := eds_recs2 hp2
    obtain ⟨_, _, h3, h4⟩ := hfo.recs r hr
    dsimp only
    rw [frB, h3, Bool.true_and]
    refine allT_of fun q hq => ?_
    have hq2 := (srt_perm _).mem_iff.1 hq
    obtain ⟨c, v, hc1, hv1, hv2, rfl⟩ := eds_raw hq2
    rw [hcols] at hc1
    have hcb := List.all_eq_true.1 hc c hc1
    have hvb : vB v = true := by
      refine List.all_eq_true.1 h4 v ?_
      have e1 : mns r.fs.tail = (mns r.fs).tail := by cases r.fs <;> rfl
      rw [e1] at hv1
      exact List.mem_of_mem_tail hv1
    have hnb : nB v = true := by
      rw [nB, hvb, Bool.and_true, decide_eq_true_eq]
      omega
    rw [fcB_one hcb, fvB, hnb]
    rfl
  show fitsC (treeR (hd :: rs)) = 0
  unfold fitsC
  rw [if_neg (by omega), hall]
  rfl
end Go.Proofs.YtapgaglkkgbgkaaGreatDoor.Cv
