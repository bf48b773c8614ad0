/- The chapter's example. No conditions. -/
import Derived.Test.YtcfaocjgflefmaaDfPaths
namespace Go.Proofs.Ytcfaocjgflefmaa.Df
open Go.RowKit Go.Proofs.Ytcfaocjgflefmaa.Pt
set_option maxRecDepth 100000

theorem fit_low : ∀ {t : Tr}, t.Fit → t.Low
  | .nil, _ => trivial
  | .cons _ _ _, ⟨_, h2, h3, h4⟩ => ⟨h2, fit_low h3, fit_low h4⟩
theorem makeT_size (W : Nat) : ∀ (t : Tr) (l d : Nat) (acc : Tr), (t.makeT W l d acc).size ≤ acc.size + t.size
  | .nil, _, _, acc => by simp [Tr.makeT]
  | .cons s k r, l, d, acc => by
    unfold Tr.makeT
    split
    · simp only [Tr.size]; omega
    · have h1 := makeT_size W r (l - 1) d (acc.withT (cut30 s) (k.makeT W W (d - 1) .nil))
      have h2 := makeT_size W k W (d - 1) .nil
      have h3 := Pt.withT_size (name := cut30 s) (x := k.makeT W W (d - 1) .nil) (t := acc)
      simp only [Tr.size] at h2 ⊢
      omega
def leafV : Tr := .cons ⟨#[118]⟩ .nil .nil
theorem leaf_asc : AscD leafV := ⟨by unfold Tr.Asc; simp [Tr.bn, Tr.names], trivial, trivial⟩
theorem known_dP : dP 2 .nil leafV = [[⟨#[118]⟩]] := by
  have h := (put_diff (x := .nil) trivial [⟨#[118]⟩] (t := .nil) 2 (by decide) trivial).1 (by rw [get_one, nil_is])
  have e : putT .nil [⟨#[118]⟩] .nil = leafV := rfl
  rw [e] at h
  obtain ⟨p, hp, hpp⟩ := h
  have hne := (dP_diff 2 (t := .nil) (u := leafV) trivial leaf_asc p (by rw [hp]; simp)).1
  rw [hp]
  cases p with
  | nil => exact absurd rfl hne
  | cons s ps =>
    obtain ⟨r, hr⟩ := hpp
    rw [List.cons_append] at hr
    injection hr with h1 h2
    rw [h1]
    cases ps with
    | nil => rfl
    | cons a b => simp at h2

set_option maxHeartbeats 1000000 in
theorem known_any (w : World) : Calls Try.prog 8 #[] w fun e w' => e = .returned (.bool true) ∧ Below w.heap.size w w' := by
  obtain ⟨W1, hW1⟩ : ∃ W, W = w.alloc (Obj.cells #[.string ⟨#[118]⟩, .slice none 0 0] 45) := ⟨_, rfl⟩
  have hb1 : Below w.heap.size w W1 := by rw [hW1]; exact (Below.refl _ _).alloc (Nat.le_refl _) _
  have hh : W1.heap[w.heap.size]? = some (Obj.cells #[.string ⟨#[118]⟩, .slice none 0 0] 45) := by rw [hW1]; exact heap_alloc_new w _
  have hl : Holds W1 W1.heap.size (some ⟨w.heap.size, 0, none⟩) 1 leafV :=
    Holds.leaf (n := 0) (Array.getElem?_eq_some_iff.1 hh).1 (by rw [cell_of_row _ _ _ _ _ _ hh]; rfl) (by rw [cell_of_row _ _ _ _ _ _ hh]; rfl) rfl
  have HC := Lib.hid (paths_any 2 (by omega) .nil leafV none (some ⟨w.heap.size, 0, none⟩) 0 0 1 1 W1 ⟨rfl, Nat.le_refl _, Nat.zero_le _⟩ ⟨hl, Nat.le_refl _, by simp [maxLen]⟩ (by decide) (by decide) (by decide) trivial leaf_asc)
  have HB1 := Lib.hid hb1
  clear hb1 hh hl
  go_enter Try.func8, Try.ntmps8
  go_wp2_with fail
  rw [← hW1]
  (with_reducible refine HC.out.mono ?_)
  rintro e w2 ⟨A', n', c', xs, rfl, hO, hq, hb2⟩
  rw [known_dP] at hq
  obtain ⟨x, rfl⟩ : ∃ x, xs = [x] := by
    match xs, hq with
    | [x], _ => exact ⟨x, rfl⟩
    | [], h => simp [qp] at h
    | _ :: _ :: _, h => simp [qp] at h
  have hxp : x.p = [⟨#[118]⟩] := by simpa [qp] using hq
  obtain rfl : n' = 1 := hO.len
  have hx := hO.each x (by simp)
  have hx1 := hx.1
  rw [hxp] at hx
  have hxn : x.n = 1 := by rw [hxp] at hx1; simpa [strs] using hx1.symm
  obtain ⟨xa, xn, xc, xp⟩ := x
  simp only at hxn hx
  subst hxn
  obtain ⟨b, o, rfl, hbl, hc1⟩ := (own_seesV hO.own).cell 0 (.slice xa 1 xc) rfl
  obtain ⟨b2, o2, rfl, hbl2, hc2⟩ := (own_seesV hx).cell 0 (.string ⟨#[118]⟩) rfl
  rw [Nat.add_zero] at hc1 hc2
  have HB2 := Lib.hid (HB1.out.trans (hb2.mono HB1.out.size))
  clear hO hq hb2 hx hx1 hxp
  go_wp2_with fail
  go_ret
  exact ⟨rfl, HB2.out⟩
end Go.Proofs.Ytcfaocjgflefmaa.Df
