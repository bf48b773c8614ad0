/- ini: the file as the chapter's reference makes it is the one ini makes; plain mathematics. No conditions but that the file was read. -/
import Derived.Test.YtapgaglkkgbgkaaGreatDoorMwInRKey
import Derived.Test.YtapgaglkkgbgkaaGreatDoorMwInSelf
namespace Go.Proofs.YtapgaglkkgbgkaaGreatDoor.In
open Go.RowKit Go.Sort Go.Proofs.YtapgaglkkgbgkaaGreatDoor.Jd Go.Proofs.YtapgaglkkgbgkaaGreatDoor.Cl Go.Proofs.YtapgaglkkgbgkaaGreatDoor.Li Go.Proofs.YtapgaglkkgbgkaaGreatDoor.Cv Go.Proofs.YtapgaglkkgbgkaaGreatDoor.Pt
set_option maxRecDepth 100000

def freshR (k old : Tr) : List (ByteArray × Tr) := (eds k).filter fun e => !(old.atIs e.1)
def closeR (t old : Tr) (E : Bs) (cur : Option Bs) (out : List Ln) (last : Nat) : List Ln :=
  match cur with
  | none => out
  | some q => if t.atIs (mk q) = true then out.take last ++ (freshR (kidT t (mk q)) (kidT old (mk q))).map (keyL E) ++ out.drop last else out
def lineR (k : Tr) (is : Bool) (r : Rr) (x : Ln) : Option Ln :=
  if r.kind = 0 then some x else
  if r.kind = 1 then (if is = true then some x else none) else
  if is = true ∧ k.atIs (mk r.key) = true then
    (if oneN (kidT k (mk r.key)) = r.val then some x else some (x.1.take r.at0 ++ oneN (kidT k (mk r.key)) ++ x.1.drop r.at1, x.2)) else none
def loopR (t old : Tr) (E : Bs) : List (Rr × Ln) → Option Bs → List Ln → Nat → List Ln
  | [], cur, out, last => closeR t old E cur out last
  | (r, x) :: l, cur, out, last =>
    let out1 := if r.kind = 1 then closeR t old E cur out last else out
    let cur1 := if r.kind = 1 then some r.sec else cur
    match lineR (kidT t (mk r.sec)) (t.atIs (mk r.sec)) r x with
    | none => loopR t old E l cur1 out1 last
    | some y => loopR t old E l cur1 (out1 ++ [y]) (if r.kind = 0 then last else out1.length + 1)
def tagR (q : Bs) (r : Ro) : Rr × Ln := ((if r.kind = 1 then toR r else { toR r with sec := q }), r.ln)
theorem line_same {t : Tr} {q : Bs} {r : Ro} (hr : RowOk r) (hq : r.kind = 2 → r.name = q) (hne : q ≠ [] ∨ r.kind = 1) :
    lineR (kidT t (mk (tagR q r).1.sec)) (t.atIs (mk (tagR q r).1.sec)) (tagR q r).1 (tagR q r).2 = putRow (getT t [mk q]).1 (getT t [mk q]).2 r := by
  have hk3 : r.kind ≤ 3 ∧ r.kind ≠ 0 := by
    obtain ⟨h0, x, rfl, _⟩ := hr
    exact ⟨(row_kind x).1, h0⟩
  by_cases h1 : r.kind = 1
  · have e : (tagR q r).1.kind = 0 := by rw [tagR, if_pos h1, toR_kind, if_neg (by omega)]; omega
    rw [lineR, if_pos e, putRow, if_pos h1]
    rfl
  · have es : (tagR q r).1 = { toR r with sec := q } := by rw [tagR]; exact if_neg h1
    have ek : (tagR q r).1.kind = r.kind - 1 := by rw [es]; show (toR r).kind = _; rw [toR_kind, if_neg hk3.2]
    rw [lineR, if_neg (by omega), putRow, if_neg h1, es]
    dsimp only
    rw [get_part]
    by_cases h2 : r.kind = 2
    · rw [if_pos (show (toR r).kind = 1 by rw [toR_kind, if_neg hk3.2]; omega), if_pos h2]
      by_cases hi : t.atIs (mk q) = true
      · rw [if_pos hi, if_pos hi, if_pos rfl]; rfl
      · rw [if_neg hi, if_neg hi, if_neg (by decide)]
    · have h3 : r.kind = 3 := by omega
      have hkey : (toR r).key = r.name := by rw [toR]; exact if_pos h3
      rw [if_neg (show ¬ (toR r).kind = 1 by rw [toR_kind, if_neg hk3.2]; omega), if_neg h2, hkey]
      by_cases hi : t.atIs (mk q) = true
      · rw [if_pos hi]
        dsimp only
        have e : getT (kidT t (mk q)) [⟨r.name.toArray⟩] = if (kidT t (mk q)).atIs (mk r.name) = true then (kidT (kidT t (mk q)) (mk r.name), true) else (.nil, false) := getT_one _ (mk r.name)
        rw [e]
        by_cases ha : (kidT t (mk q)).atIs (mk r.name) = true
        · rw [if_pos ⟨hi, ha⟩, if_pos ha, if_pos rfl]
          dsimp only
          by_cases hv : oneN (kidT (kidT t (mk q)) (mk r.name)) = (toR r).val
          · rw [if_pos hv, hv]
            show some r.ln = some (withR r r.val)
            rw [key_same hr h3]
          · rw [if_neg hv]
            rfl
        · rw [if_neg (fun h => ha h.2), if_neg ha, if_neg (by decide)]
      · rw [if_neg (fun h => hi h.1), if_neg hi]
        dsimp only
        have e : getT .nil [⟨r.name.toArray⟩] = (.nil, false) := rfl
        rw [e, if_neg (by decide)]
theorem loop_rows {t old : Tr} {E : Bs} {q : Bs} {cur : Option Bs} : ∀ (rows : List Ro) (rest : List (Rr × Ln)) (out acc : List Ln) (m : Nat), (∀ r ∈ rows, RowOk r ∧ (r.kind = 1 ∨ r.kind = 3) ∧ (q ≠ [] ∨ r.kind = 1)) →
    loopR t old E (rows.map (tagR q) ++ rest) cur (out ++ acc) (out.length + m) =
      loopR t old E rest cur (out ++ (rows.foldl (stepR (getT t [mk q]).1 (getT t [mk q]).2) (acc, m)).1) (out.length + (rows.foldl (stepR (getT t [mk q]).1 (getT t [mk q]).2) (acc, m)).2)
  | [], _, _, _, _, _ => rfl
  | r :: rows, rest, out, acc, m, h => by
    obtain ⟨h1, h2, h3⟩ := h r (by simp)
    have hk : (tagR q r).1.kind = r.kind - 1 := by
      rw [tagR]
      split
      · rw [toR_kind, if_neg (by omega)]
      · show (toR r).kind = _
        rw [toR_kind, if_neg (by omega)]
    have hl := line_same (t := t) (q := q) h1 (fun h => by omega) h3
    rw [List.map_cons, List.cons_append, List.foldl_cons]
    rw [show tagR q r = ((tagR q r).1, (tagR q r).2) from rfl, loopR]
    rw [hl, if_neg (show ¬ (tagR q r).1.kind = 1 by omega), if_neg (show ¬ (tagR q r).1.kind = 1 by omega), stepR]
    cases putRow (getT t [mk q]).1 (getT t [mk q]).2 r with
    | none => exact loop_rows rows rest out acc m fun x hx => h x (by simp [hx])
    | some y =>
      dsimp only
      have e : (if (tagR q r).1.kind = 0 then out.length + m else (out ++ acc).length + 1) = out.length + (if r.kind = 1 then m else acc.length + 1) := by
        rcases h2 with h2 | h2
        · rw [if_pos (by omega), if_pos h2]
        · rw [if_neg (by omega), if_neg (by omega), List.length_append]; omega
      rw [e, List.append_assoc]
      exact loop_rows rows rest out (acc ++ [y]) _ fun x hx => h x (by simp [hx])
theorem loop_out {t old : Tr} {E : Bs} {q : Bs} {cur : Option Bs} (hq : ¬ t.atIs (mk q) = true) (hne : q ≠ []) : ∀ (rows : List Ro) (rest : List (Rr × Ln)) (out : List Ln) (last : Nat), (∀ r ∈ rows, RowOk r ∧ (r.kind = 1 ∨ r.kind = 3)) →
    loopR t old E (rows.map (tagR q) ++ rest) cur out last = loopR t old E rest cur (out ++ rows.filterMap (putRow .nil false)) last
  | [], rest, out, last, _ => by rw [List.filterMap_nil, List.append_nil]; rfl
  | r :: rows, rest, out, last, h => by
    obtain ⟨h1, h2⟩ := h r (by simp)
    have hk : (tagR q r).1.kind = r.kind - 1 := by
      rw [tagR]
      split
      · rw [toR_kind, if_neg (by omega)]
      · show (toR r).kind = _
        rw [toR_kind, if_neg (by omega)]
    have hl := line_same (t := t) (q := q) h1 (fun h => by omega) (.inl hne)
    rw [get_part, if_neg hq] at hl
    rw [List.map_cons, List.cons_append, List.filterMap_cons]
    rw [show tagR q r = ((tagR q r).1, (tagR q r).2) from rfl, loopR]
    rw [hl, if_neg (show ¬ (tagR q r).1.kind = 1 by omega), if_neg (show ¬ (tagR q r).1.kind = 1 by omega)]
    dsimp only
    cases hp : putRow .nil false r with
    | none => exact loop_out hq hne rows rest out last fun x hx => h x (by simp [hx])
    | some y =>
      dsimp only
      have hk1 : r.kind = 1 := by
        rcases h2 with h2 | h2
        · exact h2
        · rw [putRow, if_neg (by omega), if_neg (by omega), if_neg (by exact (by decide : ¬ (false = true)))] at hp
          cases hp
      rw [if_pos (by omega), loop_out hq hne rows rest (out ++ [y]) last fun x hx => h x (by simp [hx])]
      simp
theorem put_out {E : Bs} {rows : List Ro} : putK .nil false E rows = rows.filterMap (putRow .nil false) := by
  obtain ⟨m, hfo, _⟩ := fold_put .nil false rows [] 0
  rw [putK, hfo]
  have : freshK .nil rows = [] := rfl
  rw [this, List.map_nil, List.append_nil]
  exact List.take_append_drop _ _
theorem loop_parts {t old : Tr} {E : Bs} : ∀ (tl : List Pt) (cur : Option Bs) (out : List Ln) (last : Nat), (∀ p ∈ tl, PtOk p ∧ freshR (kidT t (mk p.name)) (kidT old (mk p.name)) = freshK (kidT t (mk p.name)) p.rows) →
    loopR t old E (tl.flatMap fun p => p.rows.map (tagR p.name)) cur out last = closeR t old E cur out last ++ tl.flatMap (putPart t E)
  | [], cur, out, last, _ => by rw [List.flatMap_nil, List.flatMap_nil, List.append_nil]; rfl
  | p :: tl, cur, out, last, h => by
    obtain ⟨hp, hfr⟩ := h p (by simp)
    have hname := pt_name hp
    have hne : p.name ≠ [] := by
      intro e
      rw [e] at hname
      revert hname
      decide
    obtain ⟨⟨hd, tail, e, h2, hn, h13⟩, _, hok⟩ := hp
    have hrow : ∀ r ∈ tail, RowOk r ∧ (r.kind = 1 ∨ r.kind = 3) := fun r hr => ⟨hok r (by rw [e]; simp [hr]), h13 r hr⟩
    have hk : (tagR p.name hd).1.kind = 1 := by
      rw [tagR, if_neg (by omega)]
      show (toR hd).kind = 1
      rw [toR_kind, if_neg (by omega)]; omega
    have hs : (tagR p.name hd).1.sec = p.name := by rw [tagR, if_neg (by omega)]
    have hl := line_same (t := t) (q := p.name) (hok hd (by rw [e]; simp)) (fun _ => hn) (.inl hne)
    rw [List.flatMap_cons, List.flatMap_cons, e, List.map_cons, List.cons_append]
    rw [show tagR p.name hd = ((tagR p.name hd).1, (tagR p.name hd).2) from rfl, loopR]
    rw [hl, if_pos hk, if_pos hk, hs, putPart_eq, e]
    generalize closeR t old E cur out last = O
    rw [get_part]
    by_cases hq : t.atIs (mk p.name) = true
    · rw [if_pos hq]
      dsimp only
      have hpr : putRow (kidT t (mk p.name)) true hd = some hd.ln := by rw [putRow, if_neg (by omega), if_pos h2, if_pos rfl]
      rw [hpr]
      dsimp only
      rw [if_neg (by omega)]
      have hlr := loop_rows (t := t) (old := old) (E := E) (q := p.name) (cur := some p.name) tail (tl.flatMap fun p => p.rows.map (tagR p.name)) O [hd.ln] 1 fun r hr => ⟨(hrow r hr).1, (hrow r hr).2, .inl hne⟩
      rw [get_part, if_pos hq] at hlr
      dsimp only at hlr
      rw [hlr, loop_parts tl (some p.name) _ _ fun x hx => h x (by simp [hx])]
      rw [← List.append_assoc]
      congr 1
      have hst : (hd :: tail).foldl (stepR (kidT t (mk p.name)) true) ([], 0) = tail.foldl (stepR (kidT t (mk p.name)) true) ([hd.ln], 1) := by
        rw [List.foldl_cons, stepR, hpr]
        dsimp only
        rw [if_neg (by omega)]
        rfl
      rw [closeR]
      rw [if_pos hq, hfr, putK, hst, e]
      generalize tail.foldl (stepR (kidT t (mk p.name)) true) ([hd.ln], 1) = A
      rw [List.take_length_add_append, List.drop_length_add_append]
      simp
    · rw [if_neg hq]
      dsimp only
      have hpr : putRow .nil false hd = none := by rw [putRow, if_neg (by omega), if_pos h2, if_neg (by decide)]
      rw [hpr]
      dsimp only
      rw [loop_out hq hne tail _ O last hrow, loop_parts tl (some p.name) _ _ fun x hx => h x (by simp [hx])]
      rw [← List.append_assoc]
      congr 1
      rw [closeR]
      rw [if_neg hq, put_out, List.filterMap_cons, hpr]
theorem zip_prod {A B : Type} : ∀ L : List (A × B), (L.map (·.1)).zip (L.map (·.2)) = L
  | [] => rfl
  | x :: L => by rw [List.map_cons, List.map_cons, List.zip_cons_cons, zip_prod L]
def linesRf (t old : Tr) (E : Bs) (rs : List Rr) (ls : List Ln) : List Ln :=
  loopR t old E (rs.zip ls) none [] 0 ++ ((eds t).filter fun e => !(old.atIs e.1)).flatMap (secL E)
theorem ref_put {t : Tr} {l : Bs} (hr : (partsI [⟨[], []⟩] 0 (split l)).2.2 = 0) (hf : allT fsB t = true) :
    join (ended (endOf (split l)) (linesRf t (treeI (partsI [⟨[], []⟩] 0 (split l)).1) (endOf (split l)) (tagsP (partsI [⟨[], []⟩] 0 (split l)).1) (split l))) = putF t l := by
  have hsh := shape_split hr
  have hrows := parts_rows (split l) [⟨[], []⟩] 0 (by simp) hr
  generalize hP : (partsI [⟨[], []⟩] 0 (split l)).1 = ps at hsh hrows
  have hsh2 := hsh
  obtain ⟨p0, tl, e, h0, h1, h2, h3⟩ := hsh
  have hlines : (ps.flatMap (·.rows)).map (·.ln) = split l := by
    rw [hrows, List.flatMap_cons, List.flatMap_nil, List.append_nil, List.nil_append, List.map_map]
    have hk := run_kinds _ _ _ (run_parts_of (split l) [⟨[], []⟩] 0 (by simp) hr)
    have key : ∀ ls : List Ln, (∀ r ∈ ls.map rowI, r.kind ≠ 0) → ls.map ((fun r : Ro => r.ln) ∘ rowI) = ls := by
      intro ls
      induction ls with
      | nil => intro _; rfl
      | cons x ls ih =>
        intro h
        rw [List.map_cons, ih fun r hr => h r (by simp only [List.map_cons, List.mem_cons]; exact .inr hr)]
        congr 1
        exact (row_kind x).2 (h _ (by simp))
    exact key _ hk
  have hzip : (tagsP ps).zip (split l) = ps.flatMap fun p => p.rows.map (tagR p.name) := by
    have e1 : tagsP ps = (ps.flatMap fun p => p.rows.map (tagR p.name)).map (·.1) := by
      rw [tagsP, List.map_flatMap]
      congr 1
      funext p
      rw [List.map_map]
      rfl
    have e2 : split l = (ps.flatMap fun p => p.rows.map (tagR p.name)).map (·.2) := by
      rw [← hlines, List.map_flatMap, List.map_flatMap]
      congr 1
      funext p
      rw [List.map_map]
      rfl
    rw [e1]
    conv => lhs; rw [e2]
    exact zip_prod _
  have hold : ∀ q : Bs, (treeI ps).atIs (mk q) = true ↔ q ∈ tl.map (·.name) := by
    intro q
    have hn : ((absP tl).map (·.1)).Nodup := by rw [absP, List.map_map]; exact h3
    rw [tree_eq, e]
    show (srtE (secsS (absP tl))).atIs (mk q) = true ↔ _
    rw [at_secs hn, absP, List.map_map]
    rfl
  have hnames : ∀ e ∈ eds t, e.1.data.toList ≠ [] := by
    intro e he hn
    have := allT_mem hf _ he
    unfold fsB at this
    rw [hn] at this
    revert this
    rw [show sB [] = false by decide]
    simp
  have hsecs : ((eds t).filter fun e => !((treeI ps).atIs e.1)) = freshS t ps := by
    rw [freshS]
    refine List.filter_congr fun e2 he => ?_
    congr 1
    rw [Bool.eq_iff_iff]
    have hl := list_mk e2.1
    rw [← hl, hold, hl, e, List.any_eq_true]
    constructor
    · intro hm
      obtain ⟨p, hp, e3⟩ := List.mem_map.1 hm
      exact ⟨p, by simp [hp], by rw [e3]; simp⟩
    · rintro ⟨p, hp, e3⟩
      have e3 : e2.1.data.toList = p.name := by simpa using e3
      rcases List.mem_cons.1 hp with rfl | hp
      · exact absurd (e3.trans h0) (hnames _ he)
      · exact List.mem_map.2 ⟨p, hp, e3.symm⟩
  have hfr : ∀ p ∈ tl, PtOk p ∧ freshR (kidT t (mk p.name)) (kidT (treeI ps) (mk p.name)) = freshK (kidT t (mk p.name)) p.rows := by
    intro p hp
    refine ⟨h2 p hp, ?_⟩
    rw [(kid_part hsh2 e hp).2, freshR, freshK]
    refine List.filter_congr fun e2 _ => ?_
    congr 1
    rw [Bool.eq_iff_iff]
    have hl := list_mk e2.1
    have hk := at_keys (h2 p hp).2.1 e2.1.data.toList
    rw [hl] at hk
    rw [hk, ← any_keys, List.any_eq_true, List.any_eq_true]
    constructor
    · rintro ⟨r, hr, h5⟩
      rw [Bool.and_eq_true, beq_iff_eq, beq_iff_eq] at h5
      exact ⟨r, hr, by rw [Bool.and_eq_true, beq_iff_eq, beq_iff_eq]; exact ⟨h5.1, h5.2.symm⟩⟩
    · rintro ⟨r, hr, h5⟩
      rw [Bool.and_eq_true, beq_iff_eq, beq_iff_eq] at h5
      exact ⟨r, hr, by rw [Bool.and_eq_true, beq_iff_eq, beq_iff_eq]; exact ⟨h5.1, h5.2.symm⟩⟩
  have hno : ¬ t.atIs (mk p0.name) = true := by
    rw [h0]
    intro h
    have key : ∀ u : Tr, (∀ e ∈ eds u, e.1.data.toList ≠ []) → u.atIs (mk []) = true → False := by
      intro u
      induction u with
      | nil => intro _ h; cases h
      | cons s k r _ ih =>
        intro hu hat
        rcases cases3 s (mk []) with c | ⟨c, d⟩ | ⟨c, d, _⟩
        · rw [Pt.atIs_lt c] at hat
          exact ih (fun e he => hu e (List.mem_cons_of_mem _ he)) hat
        · have := names_of_eq d
          exact hu (s, k) (List.mem_cons_self ..) (by rw [this, mk_list])
        · rw [atIs_ge c, d] at hat
          cases hat
    exact key t hnames h
  have hloop : loopR t (treeI ps) (endOf (split l)) (ps.flatMap fun p => p.rows.map (tagR p.name)) none [] 0 = ps.flatMap (putPart t (endOf (split l))) := by
    rw [e, List.flatMap_cons, List.flatMap_cons]
    have := loop_rows (t := t) (old := treeI ps) (E := endOf (split l)) (q := p0.name) (cur := none) p0.rows (tl.flatMap fun p => p.rows.map (tagR p.name)) [] [] 0 fun r hr => ⟨(h1 r hr).2, .inl (h1 r hr).1, .inr (h1 r hr).1⟩
    rw [List.nil_append, List.length_nil, Nat.zero_add] at this
    rw [← e, this, loop_parts tl none _ _ hfr, closeR, putPart_eq, get_part, if_neg hno]
    dsimp only
    congr 1
    obtain ⟨m, hfo, _⟩ := fold_put .nil false p0.rows [] 0
    rw [put_out, hfo]
    rfl
  rw [linesRf, hzip, hloop, hsecs, putF, hP, putI]
end Go.Proofs.YtapgaglkkgbgkaaGreatDoor.In
