/- Rows of lines in memory; a scope in which the run jumps back to labels. No conditions. -/
import Derived.Test.YtclgemkdlgpekaaLiMath
import Derived.Test.YtclgemkdlgpekaaGrow
import Derived.Test.YtclgemkdlgpekaaLists
import Derived.ScopeJumps
import Derived.WalkMore
import Derived.Lib.Strings
namespace Go.Proofs.Ytclgemkdlgpekaa.Li
open Go.RowKit
set_option maxRecDepth 100000

def encs (l : Bs) : Value := .string ⟨l.toArray⟩
theorem encs_str (b : ByteArray) : encs b.data.toList = .string b := rfl
def lcells : List Ln → List Value
  | [] => []
  | x :: r => encs x.1 :: encs x.2 :: lcells r
theorem lcells_append (a b : List Ln) : lcells (a ++ b) = lcells a ++ lcells b := by
  induction a with
  | nil => rfl
  | cons x r ih => simp [lcells, ih]
theorem lcells_length (l : List Ln) : (lcells l).length = l.length * 2 := by
  induction l with
  | nil => rfl
  | cons x r ih => simp only [lcells, List.length_cons, ih]; omega
theorem lcells_one (l : List Ln) : ∀ u ∈ lcells l, u.oneCell' = true := by
  induction l with
  | nil => intro u hu; cases hu
  | cons x r ih =>
    intro u hu
    simp only [lcells, List.mem_cons] at hu
    rcases hu with rfl | rfl | hu
    · rfl
    · rfl
    · exact ih u hu
theorem lcells_get : ∀ {l : List Ln} {j : Nat} {x : Ln}, l[j]? = some x → (lcells l)[j * 2]? = some (encs x.1) ∧ (lcells l)[j * 2 + 1]? = some (encs x.2)
  | [], j, x, h => by simp at h
  | y :: r, 0, x, h => by
    simp only [List.getElem?_cons_zero, Option.some.injEq] at h
    subst h
    exact ⟨rfl, rfl⟩
  | y :: r, j + 1, x, h => by
    simp only [List.getElem?_cons_succ] at h
    rw [show (j + 1) * 2 = j * 2 + 1 + 1 by omega]
    exact lcells_get h
theorem lcells_drop : ∀ (l : List Ln) (k : Nat), lcells (l.drop k) = (lcells l).drop (k * 2)
  | [], k => by simp [lcells]
  | y :: r, 0 => rfl
  | y :: r, k + 1 => by
    rw [List.drop_succ_cons, lcells_drop r k, show (k + 1) * 2 = k * 2 + 1 + 1 by omega]
    rfl
theorem lcells_take : ∀ (l : List Ln) (k : Nat), lcells (l.take k) = (lcells l).take (k * 2)
  | [], k => by simp [lcells]
  | y :: r, 0 => rfl
  | y :: r, k + 1 => by
    rw [List.take_succ_cons, lcells, lcells_take r k, show (k + 1) * 2 = k * 2 + 1 + 1 by omega]
    rfl

/-- The slice with address A and n lines holds the lines ls, below block B. -/
structure SeesL (w : World) (B : Nat) (A : Option Addr) (n : Nat) (ls : List Ln) : Prop where
  len : n = ls.length
  cell : ∀ (j : Nat) (u : Value), (lcells ls)[j]? = some u → ∃ b o, A = some ⟨b, o, none⟩ ∧ b < B ∧ w.cell? ⟨b, o + j, none⟩ = some u
section
variable {w w' : World} {B B' n : Nat} {A : Option Addr} {ls : List Ln}
theorem SeesL.nil (w : World) (B : Nat) (A : Option Addr) : SeesL w B A 0 [] := ⟨rfl, fun j u h => by simp [lcells] at h⟩
theorem SeesL.keep (h : SeesL w B A n ls) (hk : ∀ p : Addr, p.block < B → w'.cell? p = w.cell? p) : SeesL w' B A n ls :=
  ⟨h.len, fun j u hu => by
    obtain ⟨b, o, ha, hb, hc⟩ := h.cell j u hu
    exact ⟨b, o, ha, hb, (hk _ hb).trans hc⟩⟩
theorem SeesL.below (h : SeesL w B A n ls) (hb : Below B w w') : SeesL w' B A n ls := h.keep fun _ hp => hb.cell hp
theorem SeesL.more (h : SeesL w B A n ls) (hB : B ≤ B') : SeesL w B' A n ls :=
  ⟨h.len, fun j u hu => by
    obtain ⟨b, o, ha, hb, hc⟩ := h.cell j u hu
    exact ⟨b, o, ha, Nat.lt_of_lt_of_le hb hB, hc⟩⟩
/-- One line of it. -/
theorem SeesL.at_ (h : SeesL w B A n ls) {j : Nat} {x : Ln} (hj : ls[j]? = some x) : ∃ b o, A = some ⟨b, o, none⟩ ∧ b < B ∧ w.cell? ⟨b, o + j * 2, none⟩ = some (encs x.1) ∧ w.cell? ⟨b, o + j * 2 + 1, none⟩ = some (encs x.2) := by
  obtain ⟨g1, g2⟩ := lcells_get hj
  obtain ⟨b, o, ha, hb, hc⟩ := h.cell _ _ g1
  obtain ⟨b2, o2, ha2, hb2, hc2⟩ := h.cell _ _ g2
  rw [ha] at ha2
  injection ha2 with ha2
  injection ha2 with e1 e2
  subst e1; subst e2
  exact ⟨b, o, ha, hb, hc, by rw [Nat.add_assoc]; exact hc2⟩
theorem SeesL.addr (h : SeesL w B A n ls) (h0 : 0 < n) : ∃ b o, A = some ⟨b, o, none⟩ ∧ b < B := by
  have hl := h.len
  have hj : ls[0]? = some ls[0] := List.getElem?_eq_getElem (by omega)
  obtain ⟨b, o, ha, hb, _⟩ := h.at_ hj
  exact ⟨b, o, ha, hb⟩
theorem SeesL.take (h : SeesL w B A n ls) {k : Nat} (hk : k ≤ n) : SeesL w B A k (ls.take k) := by
  have hl := h.len
  refine ⟨by rw [List.length_take]; omega, fun j u hu => ?_⟩
  rw [lcells_take, List.getElem?_take] at hu
  split at hu
  · exact h.cell j u hu
  · cases hu
theorem SeesL.drop {b o : Nat} (h : SeesL w B (some ⟨b, o, none⟩) n ls) {k : Nat} (hk : k ≤ n) : SeesL w B (some ⟨b, o + k * 2, none⟩) (n - k) (ls.drop k) := by
  have hl := h.len
  refine ⟨by rw [List.length_drop]; omega, fun j u hu => ?_⟩
  rw [lcells_drop, List.getElem?_drop] at hu
  obtain ⟨b', o', e, hb, hc⟩ := h.cell _ u hu
  injection e with e
  injection e with e1 e2
  subst e1; subst e2
  exact ⟨_, _, rfl, hb, by rw [Nat.add_assoc]; exact hc⟩
end
/-- A row of the call's own, of whatever cells: where its cells lie. -/
theorem own_form {w : World} {base n c size : Nat} {A : Option Addr} {e : TypeId} {vs : List Value} (h : w.ownsRow base e size (.slice A n c) n vs) : (A = none ∧ n = 0 ∧ vs = []) ∨ ∃ g, A = some ⟨g, 0, none⟩ ∧ base ≤ g ∧ g < w.heap.size ∧ n ≤ c ∧ c ≤ maxLen ∧ ∀ j u, vs[j]? = some u → w.cell? ⟨g, 0 + j, none⟩ = some u := by
  obtain ⟨h1, hr⟩ := h
  rcases hr with ⟨e1, e2⟩ | ⟨g, cap, cur, e1, hg, hh, hcap, hmx, hsz, htk⟩
  · injection e1 with e1 _ _
    subst e2
    exact .inl ⟨e1, rfl, List.eq_nil_of_length_eq_zero (by omega)⟩
  · injection e1 with e1 _ e3
    subst e1; subst e3
    refine .inr ⟨g, rfl, hg, (Array.getElem?_eq_some_iff.1 hh).1, hcap, hmx, fun j u hu => ?_⟩
    rw [cell_of_row w g _ cur _ _ hh, Nat.zero_add]
    rw [← htk, List.getElem?_take] at hu
    split at hu
    · simpa using hu
    · cases hu
theorem grown_undrew {W w4 : World} {row : Option Nat} (h : W.drew.grownBy w4 row) : W.grownBy w4 row := ⟨h.os, h.tape, h.output, h.size, h.block⟩
theorem ext_sl (b : ByteArray) (a k : Nat) : Value.string (b.extract a k) = encs (sl b.data.toList a k) := by
  rw [encs, sl, Lib.extract_eq, List.drop_take]
theorem below_box {w w' : World} {g : Nat} {o : Obj} (hb : Below w.heap.size w w') (h : w.heap[g]? = some o) : w'.heap[g]? = some o :=
  (hb.block g (Array.getElem?_eq_some_iff.1 h).1).trans h

/-- By a goto to a label: what J asks there, and less than m is left; else as Q. -/
def ups (J : Nat → Act → World → Nat → Prop) (m : Nat) (Q : Exit → Act → World → Prop) : Exit → Act → World → Prop
  | .goto l, a, w => ∃ k, k < m ∧ J l a w k
  | e, a, w => Q e a w
section
variable {P : Program} {a : Act} {w : World} {Q : Exit → Act → World → Prop}
theorem wp_scope_ups {c : Code} (J : Nat → Act → World → Nat → Prop) (m : Nat) (first : c.wp P (ups J m Q) a w)
    (pass : ∀ l a w k, J l a w k → ∃ rest, findLabel c l = some rest ∧ rest.wp P (ups J k Q) a w) : (Code.scope c).wp P Q a w := by
  intro b k cs
  have hg : ∀ l rest, findLabel c l = some rest → gotoIn l (.inScope c :: k) = some (.code rest :: .inScope c :: k) := fun l rest hf => by simp [gotoIn, hf]
  have key : ∀ n l a w, J l a w n → ∃ rest, findLabel c l = some rest ∧ ∃ e a' w', Q e a' w' ∧ Arrives P (lone (b.at a (.code rest :: .inScope c :: k)) cs w) b k cs e a' w' := by
    intro n
    induction n using Nat.strongRecOn with
    | _ n ih =>
      intro l a w hJ
      obtain ⟨rest, hf, hwp⟩ := pass l a w n hJ
      refine ⟨rest, hf, ?_⟩
      obtain ⟨e, a₁, w₁, hq, harr⟩ := hwp b (.inScope c :: k) cs
      cases e with
      | normal => exact ⟨.normal, a₁, w₁, hq, Steps.trans harr (.one step_inScope)⟩
      | exit id => exact ⟨.exit id, a₁, w₁, hq, fun k' hk => harr k' (by simp [exitTo, hk])⟩
      | goto l' =>
        obtain ⟨j, hlt, hJ'⟩ := hq
        obtain ⟨r2, hf2, e₂, a₂, w₂, hq₂, harr₂⟩ := ih j hlt l' a₁ w₁ hJ'
        exact ⟨e₂, a₂, w₂, hq₂, .of_steps (harr _ (hg l' r2 hf2)) harr₂⟩
      | ret => exact ⟨_, a₁, w₁, hq, harr⟩
      | panic ch => exact ⟨_, a₁, w₁, hq, harr⟩
      | outgrown => exact ⟨_, a₁, w₁, hq, harr⟩
  obtain ⟨e, a₁, w₁, hq, harr⟩ := first b (.inScope c :: k) cs
  cases e with
  | normal => exact ⟨.normal, a₁, w₁, hq, .head step_scope (Steps.trans harr (.one step_inScope))⟩
  | exit id => exact ⟨.exit id, a₁, w₁, hq, fun k' hk => .head step_scope (harr k' (by simp [exitTo, hk]))⟩
  | goto l' =>
    obtain ⟨j, _, hJ'⟩ := hq
    obtain ⟨r2, hf2, e₂, a₂, w₂, hq₂, harr₂⟩ := key j l' a₁ w₁ hJ'
    exact ⟨e₂, a₂, w₂, hq₂, .of_steps (.head step_scope (harr _ (hg l' r2 hf2))) harr₂⟩
  | ret => exact ⟨_, a₁, w₁, hq, .of_steps (.one step_scope) harr⟩
  | panic ch => exact ⟨_, a₁, w₁, hq, .of_steps (.one step_scope) harr⟩
  | outgrown => exact ⟨_, a₁, w₁, hq, .of_steps (.one step_scope) harr⟩
end
end Go.Proofs.Ytclgemkdlgpekaa.Li
