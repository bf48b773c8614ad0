/- ini: the remarks of a file, as the law's function tells them, are those of its lines; plain mathematics. No conditions. -/
import Derived.Test.YtapgaglkkgbgkaaGreatDoorMwInSelf
namespace Go.Proofs.YtapgaglkkgbgkaaGreatDoor.In
open Go.RowKit Go.Proofs.YtapgaglkkgbgkaaGreatDoor.Li Go.Proofs.YtapgaglkkgbgkaaGreatDoor.Cv Go.Proofs.YtapgaglkkgbgkaaGreatDoor.Pt
set_option maxRecDepth 100000

def chop (cur : Bs) : Bs := if cur.getLast? = some 13 then cur.dropLast else cur
def remOne (cur : Bs) : List Bs := if isRem cur = true then [chop cur] else []
/-- The remarks of what is left, behind the line that is begun. -/
def remF : Bs → Bs → List Bs
  | cur, [] => remOne cur
  | cur, c :: r => if c = 10 then remOne cur ++ remF [] r else remF (cur ++ [c]) r
theorem remL_one (x : Ln) : remL [x] = if isRem x.1 = true then [x.1] else [] := by
  unfold remL
  by_cases h : isRem x.1 = true
  · simp [h]
  · simp [h]
theorem cut_chop (cur : Bs) : (cut cur).1 = chop cur := by unfold cut chop; split <;> rfl
theorem chop_rem (cur : Bs) : isRem (chop cur) = isRem cur := by
  unfold chop
  split
  · rename_i h
    obtain ⟨y, rfl⟩ := List.getLast?_eq_some_iff.1 h
    rw [List.dropLast_concat]
    cases y with
    | nil => rfl
    | cons a y => rfl
  · rfl
theorem rem_spl : ∀ (r cur : Bs), (∀ x ∈ spl cur r, (13 : UInt8) ∉ x.1) → remF cur r = remL (spl cur r)
  | [], cur, h => by
    by_cases hc : cur = []
    · subst hc; rfl
    · simp only [spl, remF] at h ⊢
      rw [if_neg hc] at h ⊢
      have h2 := h (cur, []) (by simp)
      have h3 : chop cur = cur := by
        unfold chop
        rw [if_neg]
        intro e
        obtain ⟨y, rfl⟩ := List.getLast?_eq_some_iff.1 e
        exact h2 (by simp)
      rw [remL_one, remOne, h3]
  | c :: r, cur, h => by
    by_cases hc : c = 10
    · subst hc
      simp only [spl, remF, if_true] at h ⊢
      rw [rem_spl r [] (fun x hx => h x (List.mem_cons_of_mem _ hx))]
      have e := remL_app [cut cur] (spl [] r)
      rw [List.singleton_append] at e
      rw [e, remL_one, cut_chop, chop_rem, remOne]
    · simp only [spl, remF] at h ⊢
      rw [if_neg hc] at h ⊢
      rw [if_neg hc]
      exact rem_spl r _ h
theorem parts_kinds : ∀ (ls : List Ln) (ps : List Pt) (i : Nat), (partsI ps i ls).2.2 = 0 → ∀ x ∈ ls, (rowI x).kind ≠ 0
  | [], _, _, _, x, hx => by cases hx
  | y :: ls, ps, i, h, x, hx => by
    rw [partsI] at h
    by_cases h0 : faultI ps (rowI y) ≠ 0
    · rw [if_pos h0] at h; exact absurd h h0
    · rw [if_neg h0] at h
      rcases List.mem_cons.1 hx with rfl | hx
      · intro hk
        apply h0
        unfold faultI
        rw [if_pos (.inl hk)]
        decide
      · exact parts_kinds ls _ _ h x hx
theorem rem_read {l : Bs} (h : (partsI [⟨[], []⟩] 0 (split l)).2.2 = 0) : remF [] l = remL (split l) :=
  rem_spl l [] (fun x hx => row_13 (parts_kinds _ _ _ h x hx))
/-- The remarks stay. -/
theorem rem_put {t : Tr} {l : Bs} (h : (putM t l).2 = 0) : remF [] (putM t l).1 = remF [] l := by
  have h1 := (put_zero h).1
  have h2 := put_read h
  have h3 := (read_fits h1).2.1
  have h4 := (read_fits (l := (putM t l).1) (by rw [h2])).2.1
  rw [rem_read h3, rem_read h4, put_rem h]
theorem rem_len : ∀ (r cur : Bs), (remF cur r).length ≤ r.length + 1
  | [], cur => by unfold remF remOne; split <;> simp
  | c :: r, cur => by
    unfold remF
    split
    · rw [List.length_append]
      have h1 := rem_len r []
      have h2 : (remOne cur).length ≤ 1 := by unfold remOne; split <;> simp
      simp only [List.length_cons]
      omega
    · have := rem_len r (cur ++ [c])
      simp only [List.length_cons]
      omega
end Go.Proofs.YtapgaglkkgbgkaaGreatDoor.In
