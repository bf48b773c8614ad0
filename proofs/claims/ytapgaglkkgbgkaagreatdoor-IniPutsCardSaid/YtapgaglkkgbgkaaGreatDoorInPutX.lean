/- The reference's put of ini: rows, the loop's lines, bounds; plain mathematics. No conditions. -/
import Derived.Test.YtapgaglkkgbgkaaGreatDoorInPEnd
import Derived.Test.YtapgaglkkgbgkaaGreatDoorMwInRRows
import Derived.Test.YtapgaglkkgbgkaaGreatDoorInRFits
import Derived.Test.YtapgaglkkgbgkaaGreatDoorMwInSelf
namespace Go.Proofs.YtapgaglkkgbgkaaGreatDoor.In
open Go.RowKit Go.Proofs.YtapgaglkkgbgkaaGreatDoor.Jd Go.Proofs.YtapgaglkkgbgkaaGreatDoor.Li Go.Proofs.YtapgaglkkgbgkaaGreatDoor.Cl Go.Proofs.YtapgaglkkgbgkaaGreatDoor.Cv Go.Proofs.YtapgaglkkgbgkaaGreatDoor.Pt
set_option maxRecDepth 100000

/-- A row beside its line: its kind; where its value stands. -/
def RwF (r : Rr) (x : Ln) : Prop := r.kind ≤ 2 ∧ r.at0 ≤ r.at1 ∧ r.at1 ≤ x.1.length
theorem read_at (x : Ln) (h1 : x.1.length ≤ 4000) (h2 : x.2.length ≤ 4000) : (readR x.1).kind ≤ 3 ∧ (readR x.1).at0 ≤ (readR x.1).at1 ∧ ((readR x.1).kind ≠ 3 → (readR x.1).at1 ≤ x.1.length) := by
  have e : readR x.1 = toR (rowI x) := readR_eq x.1 x.2
  rw [e]
  have hk := row_kind x
  have ho := row_ok1 x h1 h2
  refine ⟨?_, by show (rowI x).pos ≤ (rowI x).pos + _; omega, fun h3 => ?_⟩
  · rw [toR_kind]; split <;> omega
  · have h0 : (rowI x).kind ≠ 0 := fun h0 => h3 (by rw [toR_kind, if_pos h0])
    have hl := hk.2 h0
    have := ho.2.1
    rw [hl] at this
    exact this
theorem rows_row : ∀ (ls : List Ln) (t : Tr) (sec : Bs) (inn : Bool) (i : Nat) (out : List Rr), (∀ x ∈ ls, x.1.length ≤ 4000 ∧ x.2.length ≤ 4000) → (rowsR t sec inn i out ls).2.2.2 = 0 →
    ∃ rest : List Rr, (rowsR t sec inn i out ls).1 = out ++ rest ∧ rest.length = ls.length ∧ ∀ (k : Nat) (r : Rr) (x : Ln), rest[k]? = some r → ls[k]? = some x → RwF r x
  | [], t, sec, inn, i, out, _, _ => ⟨[], by rw [rowsR, List.append_nil], rfl, fun k r x h => by simp at h⟩
  | x :: ls, t, sec, inn, i, out, hz, h => by
    obtain ⟨a1, a2, a3⟩ := read_at x (hz x (by simp)).1 (hz x (by simp)).2
    have hz2 : ∀ x ∈ ls, x.1.length ≤ 4000 ∧ x.2.length ≤ 4000 := fun y hy => hz y (List.mem_cons_of_mem _ hy)
    have key : ∀ (r : Rr) (t' : Tr) (sec' : Bs) (inn' : Bool), RwF r x → (rowsR t' sec' inn' (i + 1) (out ++ [r]) ls).2.2.2 = 0 → ∃ rest : List Rr, (rowsR t' sec' inn' (i + 1) (out ++ [r]) ls).1 = out ++ rest ∧ rest.length = (x :: ls).length ∧ ∀ (k : Nat) (r : Rr) (y : Ln), rest[k]? = some r → (x :: ls)[k]? = some y → RwF r y := by
      intro r t' sec' inn' hr h'
      obtain ⟨rest, e1, e2, e3⟩ := rows_row ls t' sec' inn' (i + 1) (out ++ [r]) hz2 h'
      refine ⟨r :: rest, by rw [e1, List.append_assoc]; rfl, by simp [e2], fun k r' y hk hy => ?_⟩
      cases k with
      | zero => simp only [List.getElem?_cons_zero, Option.some.injEq] at hk hy; subst hk; subst hy; exact hr
      | succ k => exact e3 k r' y (by simpa using hk) (by simpa using hy)
    rw [rowsR] at h ⊢
    by_cases h3 : (readR x.1).kind = 3 ∨ ((readR x.1).kind = 2 ∧ inn = false)
    · rw [if_pos h3] at h; have h : (6 : Int) = 0 := h; exact absurd h (by decide)
    · rw [if_neg h3] at h ⊢
      have hn3 : (readR x.1).kind ≠ 3 := fun e => h3 (.inl e)
      have hF : RwF (readR x.1) x := ⟨by omega, a2, a3 hn3⟩
      by_cases h1 : (readR x.1).kind = 1
      · rw [if_pos h1] at h ⊢
        by_cases h4 : t.atIs (mk (readR x.1).sec) = true
        · rw [if_pos h4] at h; have h : (7 : Int) = 0 := h; exact absurd h (by decide)
        · rw [if_neg h4] at h ⊢
          exact key _ _ _ _ hF h
      · rw [if_neg h1] at h ⊢
        by_cases h2 : (readR x.1).kind = 2
        · rw [if_pos h2] at h ⊢
          by_cases h4 : (kidT t (mk sec)).atIs (mk (readR x.1).key) = true
          · rw [if_pos h4] at h; have h : (7 : Int) = 0 := h; exact absurd h (by decide)
          · rw [if_neg h4] at h ⊢
            exact key _ _ _ _ hF h
        · rw [if_neg h2] at h ⊢
          exact key _ _ _ _ hF h
/-- How long lines may be. -/
def LnB (x : Ln) : Prop := x.1.length ≤ 5000 ∧ x.2.length ≤ 4000
def LsB (l : List Ln) : Prop := ∀ x ∈ l, LnB x
theorem LsB.app {a b : List Ln} (h1 : LsB a) (h2 : LsB b) : LsB (a ++ b) := fun x hx => (List.mem_append.1 hx).elim (h1 x) (h2 x)
theorem LsB.one {x : Ln} (h : LnB x) : LsB [x] := fun y hy => by obtain rfl := List.mem_singleton.1 hy; exact h
theorem n80_mem : ∀ {t : Tr} {e : ByteArray × Tr}, N80 t → e ∈ eds t → e.1.size ≤ 80 ∧ N80 e.2
  | .nil, e, _, h => by cases h
  | .cons s k r, e, ⟨h1, h2, h3⟩, h => by
    rcases List.mem_cons.1 h with rfl | h
    · exact ⟨h1, h2⟩
    · exact n80_mem h3 h
theorem one_le {t : Tr} (h : N80 t) : (oneN t).length ≤ 80 := by
  cases t with
  | nil => exact Nat.zero_le _
  | cons s k r => exact h.1
theorem key_b {E : Bs} {e : ByteArray × Tr} (hE : E.length ≤ 4000) (h1 : e.1.size ≤ 80) (h2 : N80 e.2) : LnB (keyL E e) := by
  refine ⟨?_, hE⟩
  have h3 := one_le h2
  have h4 : e.1.data.toList.length = e.1.size := rfl
  show (e.1.data.toList ++ [61] ++ oneN e.2).length ≤ 5000
  simp only [List.length_append, List.length_cons, List.length_nil]
  omega
theorem keys_b {E : Bs} {k : Tr} {P : ByteArray × Tr → Bool} (hE : E.length ≤ 4000) (h : N80 k) : LsB (((eds k).filter P).map (keyL E)) := by
  intro x hx
  obtain ⟨e, he, rfl⟩ := List.mem_map.1 hx
  obtain ⟨h1, h2⟩ := n80_mem h (List.mem_filter.1 he).1
  exact key_b hE h1 h2
theorem close_b {t old : Tr} {E : Bs} {cur : Option Bs} {out : List Ln} {last : Nat} (hE : E.length ≤ 4000) (hn : N80 t) (hz : t.size ≤ 400) (h : LsB out) : LsB (closeR t old E cur out last) ∧ (closeR t old E cur out last).length ≤ out.length + 400 ∧ out.length ≤ (closeR t old E cur out last).length := by
  unfold closeR
  cases cur with
  | none => exact ⟨h, Nat.le_add_right _ _, Nat.le_refl _⟩
  | some q =>
    dsimp only
    split
    · refine ⟨LsB.app (LsB.app (a := out.take last) (fun x hx => h x (List.mem_of_mem_take hx)) (keys_b hE (kid_n80 hn))) (fun x hx => h x (List.mem_of_mem_drop hx)), ?_⟩
      have h1 : (freshR (kidT t (mk q)) (kidT old (mk q))).length ≤ 400 := by
        unfold freshR
        refine Nat.le_trans (List.length_filter_le _ _) ?_
        rw [eds_len]
        exact Nat.le_trans (Tr.len_size _) (Nat.le_trans kid_sz hz)
      simp only [List.length_append, List.length_map, List.length_take, List.length_drop]
      omega
    · exact ⟨h, Nat.le_add_right _ _, Nat.le_refl _⟩
theorem sec_b {E : Bs} {e : ByteArray × Tr} (hE : E.length ≤ 4000) (h1 : e.1.size ≤ 80) (h2 : N80 e.2) : LsB (secL E e) := by
  intro x hx
  rcases List.mem_cons.1 hx with rfl | hx
  · refine ⟨?_, hE⟩
    have h4 : e.1.data.toList.length = e.1.size := rfl
    show ([91] ++ e.1.data.toList ++ [93]).length ≤ 5000
    simp only [List.length_append, List.length_cons, List.length_nil]
    omega
  · obtain ⟨f, hf, rfl⟩ := List.mem_map.1 hx
    obtain ⟨h5, h6⟩ := n80_mem h2 hf
    exact key_b hE h5 h6
theorem ended_b {E : Bs} {l : List Ln} (hE : E.length ≤ 4000) (h : LsB l) : LsB (ended E l) := by
  rw [ended_eq]
  refine LsB.app (fun x hx => ?_) (fun x hx => h x (List.mem_of_mem_drop hx))
  obtain ⟨y, hy, rfl⟩ := List.mem_map.1 hx
  have := h y (List.mem_of_mem_take hy)
  refine ⟨this.1, ?_⟩
  show (or2 y.2 E).length ≤ 4000
  unfold or2
  split
  · exact hE
  · exact this.2
theorem ended_len (E : Bs) (l : List Ln) : (ended E l).length = l.length := by rw [← endK_last, endK_len]
/-- What the loop makes. -/
def goR (t old : Tr) (E : Bs) (rs : List Rr) (ls : List Ln) (k : Nat) (out : List Ln) (last : Nat) : List Ln := loopR t old E ((rs.zip ls).drop k) (curR (rs.take k)) out last
theorem go_start (t old : Tr) (E : Bs) (rs : List Rr) (ls : List Ln) : goR t old E rs ls 0 [] 0 = loopR t old E (rs.zip ls) none [] 0 := by
  rw [goR, List.drop_zero, List.take_zero]; rfl
theorem go_end {t old : Tr} {E : Bs} {rs : List Rr} {ls : List Ln} {out : List Ln} {last : Nat} (hl : rs.length = ls.length) : goR t old E rs ls ls.length out last = closeR t old E (curR (rs.take ls.length)) out last := by
  rw [goR, List.drop_of_length_le (by rw [List.length_zip]; omega), loopR]
/-- A step. -/
theorem go_step {t old : Tr} {E : Bs} {rs : List Rr} {ls : List Ln} {k : Nat} {out : List Ln} {last : Nat} {r : Rr} {x : Ln} (hr : rs[k]? = some r) (hx : ls[k]? = some x) :
    goR t old E rs ls k out last = match lineR (kidT t (mk r.sec)) (t.atIs (mk r.sec)) r x with
      | none => goR t old E rs ls (k + 1) (if r.kind = 1 then closeR t old E (curR (rs.take k)) out last else out) last
      | some y => goR t old E rs ls (k + 1) ((if r.kind = 1 then closeR t old E (curR (rs.take k)) out last else out) ++ [y]) (if r.kind = 0 then last else (if r.kind = 1 then closeR t old E (curR (rs.take k)) out last else out).length + 1) := by
  have hz : (rs.zip ls)[k]? = some (r, x) := by rw [List.getElem?_zip_eq_some]; exact ⟨hr, hx⟩
  have hk := (List.getElem?_eq_some_iff.1 hz).1
  have hd : (rs.zip ls).drop k = (r, x) :: (rs.zip ls).drop (k + 1) := by
    rw [List.drop_eq_getElem_cons hk, (List.getElem?_eq_some_iff.1 hz).2]
  rw [goR, hd, loopR]
  have hc : curR (rs.take (k + 1)) = if r.kind = 1 then some r.sec else curR (rs.take k) := curr_more hr
  cases lineR (kidT t (mk r.sec)) (t.atIs (mk r.sec)) r x with
  | none => dsimp only; rw [goR, hc]
  | some y => dsimp only; rw [goR, hc]
end Go.Proofs.YtapgaglkkgbgkaaGreatDoor.In
