/- Rows of lines in memory; a scope in which the run jumps back to labels. No conditions. · csv's fields of a line. Conditions: at most 4000 bytes; MaxLen's cell. -/
import Derived.Test.YtlcbhooiinaalaaGreatDoorMwLiMath
import Derived.Test.YtlcbhooiinaalaaGreatDoorMwGrow
import Derived.ScopeJumps
import Derived.WalkMore
import Derived.Lib.Strings
import Derived.Test.YtlcbhooiinaalaaGreatDoorCvField
import Derived.Outline
namespace Go.Proofs.YtlcbhooiinaalaaGreatDoor.Li
open Go.RowKit
set_option maxRecDepth 100000

def encs (l : Bs) : Value := .string ⟨l.toArray⟩
theorem encs_str (b : ByteArray) : encs b.data.toList = .string b := rfl
def lcells : List Ln → List Value
  | [] => []
  | x :: r => encs x.1 :: encs x.2 :: lcells r
theorem lcells_append (a b : List Ln) : lcells (a ++ b) = lcells a ++ lcells b := by
  induction a with
  | nil => rfl
  | cons x r ih => simp [lcells, ih]
theorem lcells_length (l : List Ln) : (lcells l).length = l.length * 2 := by
  induction l with
  | nil => rfl
  | cons x r ih => simp only [lcells, List.length_cons, ih]; omega
theorem lcells_one (l : List Ln) : ∀ u ∈ lcells l, u.oneCell' = true := by
  induction l with
  | nil => intro u hu; cases hu
  | cons x r ih =>
    intro u hu
    simp only [lcells, List.mem_cons] at hu
    rcases hu with rfl | rfl | hu
    · rfl
    · rfl
    · exact ih u hu
theorem lcells_get : ∀ {l : List Ln} {j : Nat} {x : Ln}, l[j]? = some x → (lcells l)[j * 2]? = some (encs x.1) ∧ (lcells l)[j * 2 + 1]? = some (encs x.2)
  | [], j, x, h => by simp at h
  | y :: r, 0, x, h => by
    simp only [List.getElem?_cons_zero, Option.some.injEq] at h
    subst h
    exact ⟨rfl, rfl⟩
  | y :: r, j + 1, x, h => by
    simp only [List.getElem?_cons_succ] at h
    rw [show (j + 1) * 2 = j * 2 + 1 + 1 by omega]
    exact lcells_get h
theorem lcells_drop : ∀ (l : List Ln) (k : Nat), lcells (l.drop k) = (lcells l).drop (k * 2)
  | [], k => by simp [lcells]
  | y :: r, 0 => rfl
  | y :: r, k + 1 => by
    rw [List.drop_succ_cons, lcells_drop r k, show (k + 1) * 2 = k * 2 + 1 + 1 by omega]
    rfl
theorem lcells_take : ∀ (l : List Ln) (k : Nat), lcells (l.take k) = (lcells l).take (k * 2)
  | [], k => by simp [lcells]
  | y :: r, 0 => rfl
  | y :: r, k + 1 => by
    rw [List.take_succ_cons, lcells, lcells_take r k, show (k + 1) * 2 = k * 2 + 1 + 1 by omega]
    rfl

/-- The slice with address A and n lines holds the lines ls, below block B. -/
structure SeesL (w : World) (B : Nat) (A : Option Addr) (n : Nat) (ls : List Ln) : Prop where
  len : n = ls.length
  cell : ∀ (j : Nat) (u : Value), (lcells ls)[j]? = some u → ∃ b o, A = some ⟨b, o, none⟩ ∧ b < B ∧ w.cell? ⟨b, o + j, none⟩ = some u
section
variable {w w' : World} {B B' n : Nat} {A : Option Addr} {ls : List Ln}
theorem SeesL.nil (w : World) (B : Nat) (A : Option Addr) : SeesL w B A 0 [] := ⟨rfl, fun j u h => by simp [lcells] at h⟩
theorem SeesL.keep (h : SeesL w B A n ls) (hk : ∀ p : Addr, p.block < B → w'.cell? p = w.cell? p) : SeesL w' B A n ls :=
  ⟨h.len, fun j u hu => by
    obtain ⟨b, o, ha, hb, hc⟩ := h.cell j u hu
    exact ⟨b, o, ha, hb, (hk _ hb).trans hc⟩⟩
theorem SeesL.below (h : SeesL w B A n ls) (hb : Below B w w') : SeesL w' B A n ls := h.keep fun _ hp => hb.cell hp
theorem SeesL.more (h : SeesL w B A n ls) (hB : B ≤ B') : SeesL w B' A n ls :=
  ⟨h.len, fun j u hu => by
    obtain ⟨b, o, ha, hb, hc⟩ := h.cell j u hu
    exact ⟨b, o, ha, Nat.lt_of_lt_of_le hb hB, hc⟩⟩
/-- One line of it. -/
theorem SeesL.at_ (h : SeesL w B A n ls) {j : Nat} {x : Ln} (hj : ls[j]? = some x) : ∃ b o, A = some ⟨b, o, none⟩ ∧ b < B ∧ w.cell? ⟨b, o + j * 2, none⟩ = some (encs x.1) ∧ w.cell? ⟨b, o + j * 2 + 1, none⟩ = some (encs x.2) := by
  obtain ⟨g1, g2⟩ := lcells_get hj
  obtain ⟨b, o, ha, hb, hc⟩ := h.cell _ _ g1
  obtain ⟨b2, o2, ha2, hb2, hc2⟩ := h.cell _ _ g2
  rw [ha] at ha2
  injection ha2 with ha2
  injection ha2 with e1 e2
  subst e1; subst e2
  exact ⟨b, o, ha, hb, hc, by rw [Nat.add_assoc]; exact hc2⟩
theorem SeesL.addr (h : SeesL w B A n ls) (h0 : 0 < n) : ∃ b o, A = some ⟨b, o, none⟩ ∧ b < B := by
  have hl := h.len
  have hj : ls[0]? = some ls[0] := List.getElem?_eq_getElem (by omega)
  obtain ⟨b, o, ha, hb, _⟩ := h.at_ hj
  exact ⟨b, o, ha, hb⟩
theorem SeesL.take (h : SeesL w B A n ls) {k : Nat} (hk : k ≤ n) : SeesL w B A k (ls.take k) := by
  have hl := h.len
  refine ⟨by rw [List.length_take]; omega, fun j u hu => ?_⟩
  rw [lcells_take, List.getElem?_take] at hu
  split at hu
  · exact h.cell j u hu
  · cases hu
theorem SeesL.drop {b o : Nat} (h : SeesL w B (some ⟨b, o, none⟩) n ls) {k : Nat} (hk : k ≤ n) : SeesL w B (some ⟨b, o + k * 2, none⟩) (n - k) (ls.drop k) := by
  have hl := h.len
  refine ⟨by rw [List.length_drop]; omega, fun j u hu => ?_⟩
  rw [lcells_drop, List.getElem?_drop] at hu
  obtain ⟨b', o', e, hb, hc⟩ := h.cell _ u hu
  injection e with e
  injection e with e1 e2
  subst e1; subst e2
  exact ⟨_, _, rfl, hb, by rw [Nat.add_assoc]; exact hc⟩
end
/-- A row of the call's own, of whatever cells: where its cells lie. -/
theorem own_form {w : World} {base n c size : Nat} {A : Option Addr} {e : TypeId} {vs : List Value} (h : w.ownsRow base e size (.slice A n c) n vs) : (A = none ∧ n = 0 ∧ vs = []) ∨ ∃ g, A = some ⟨g, 0, none⟩ ∧ base ≤ g ∧ g < w.heap.size ∧ n ≤ c ∧ c ≤ maxLen ∧ ∀ j u, vs[j]? = some u → w.cell? ⟨g, 0 + j, none⟩ = some u := by
  obtain ⟨h1, hr⟩ := h
  rcases hr with ⟨e1, e2⟩ | ⟨g, cap, cur, e1, hg, hh, hcap, hmx, hsz, htk⟩
  · injection e1 with e1 _ _
    subst e2
    exact .inl ⟨e1, rfl, List.eq_nil_of_length_eq_zero (by omega)⟩
  · injection e1 with e1 _ e3
    subst e1; subst e3
    refine .inr ⟨g, rfl, hg, (Array.getElem?_eq_some_iff.1 hh).1, hcap, hmx, fun j u hu => ?_⟩
    rw [cell_of_row w g _ cur _ _ hh, Nat.zero_add]
    rw [← htk, List.getElem?_take] at hu
    split at hu
    · simpa using hu
    · cases hu
/-- A row of lines of the call's own. -/
abbrev OwnL (w : World) (base : Nat) (A : Option Addr) (n c : Nat) (ls : List Ln) : Prop := w.ownsRow base 88 2 (.slice A n c) n (lcells ls)
theorem OwnL.sees {w : World} {base n c : Nat} {A : Option Addr} {ls : List Ln} (h : OwnL w base A n c ls) : SeesL w w.heap.size A n ls := by
  have h1 := h.1
  rw [lcells_length] at h1
  have hn : n = ls.length := by omega
  rcases own_form h with ⟨rfl, rfl, hl⟩ | ⟨g, rfl, hg, hgl, _, _, hc⟩
  · have : ls = [] := List.eq_nil_of_length_eq_zero (by omega)
    subst this
    exact SeesL.nil _ _ _
  · exact ⟨hn, fun j u hu => ⟨g, 0, rfl, hgl, hc j u hu⟩⟩
theorem OwnL.cap {w : World} {base n c : Nat} {A : Option Addr} {ls : List Ln} (h : OwnL w base A n c ls) : n ≤ c ∧ c ≤ maxLen := by
  rcases h.2 with ⟨e, _⟩ | ⟨g, cap, cur, e, _, _, hn, hm, _⟩
  · injection e with _ h1 h2
    subst h1; subst h2
    exact ⟨Nat.le_refl _, Nat.zero_le _⟩
  · injection e with _ _ h2
    subst h2
    exact ⟨hn, hm⟩
theorem OwnL.below {w w' : World} {base n c : Nat} {A : Option Addr} {ls : List Ln} (h : OwnL w base A n c ls) (hb : Below w.heap.size w w') : OwnL w' base A n c ls :=
  h.kept (row := none) ⟨hb.os, hb.tape, hb.output, hb.size, fun i hi _ => hb.block i hi⟩ (by cases hv : (Value.slice A n c).ownBlock <;> simp)
theorem elem_line : Elem Tryz.prog 71 88 (.agg #[.string ⟨#[]⟩, .string ⟨#[]⟩]) 2 32 := ⟨Tryz.underlying71, by kernel_rfl, rfl, by omega⟩
/-- A slice of lines as a source. -/
theorem SeesL.src {w : World} {B n c : Nat} {A : Option Addr} {ls : List Ln} (h : SeesL w B A n ls) : Src Tryz.prog 2 71 (.slice A n c) n (lcells ls) w := by
  have hl := h.len
  cases A with
  | none =>
    have : ls = [] := by
      cases ls with
      | nil => rfl
      | cons x r => obtain ⟨b, o, e, _⟩ := h.cell 0 (encs x.1) rfl; cases e
    subst this
    subst hl
    exact Src.ofNil w Tryz.underlying71 c
  | some a =>
    refine Src.ofSlice w Tryz.underlying71 a n c (lcells ls) (by rw [lcells_length, hl]) (fun j u hu => ?_) (lcells_one ls)
    obtain ⟨b, o, e, _, hc⟩ := h.cell j u hu
    injection e with e
    subst e
    rw [Addr.add_lit]
    exact hc
/-- One line just laid, as a source. -/
theorem src_line (W : World) (t e : Bs) (arr : Array Value) (harr : arr = #[encs t, encs e]) (g : Nat) (hg : g = W.heap.size) : Src Tryz.prog 2 71 (.slice (some ⟨g, 0, none⟩) 1 1) 1 [encs t, encs e] (W.alloc (Obj.cells arr 88)) := by
  subst hg; subst harr
  refine Src.ofSlice _ Tryz.underlying71 ⟨W.heap.size, 0, none⟩ 1 1 [encs t, encs e] rfl (fun j u hu => ?_) (by intro u hu; simp at hu; rcases hu with rfl | rfl <;> rfl)
  rw [Addr.add_lit, cell_of_row _ _ _ _ _ _ (heap_alloc_new W _), ← hu, Nat.zero_add]
  simp
theorem src_line_d (W : World) (t e : Bs) (arr : Array Value) (harr : arr = #[encs t, encs e]) (g : Nat) (hg : g = W.heap.size) : Src Tryz.prog 2 71 (.slice (some ⟨g, 0, none⟩) 1 1) 1 [encs t, encs e] (W.alloc (Obj.cells arr 88)).drew := by
  subst hg; subst harr
  refine Src.ofSlice _ Tryz.underlying71 ⟨W.heap.size, 0, none⟩ 1 1 [encs t, encs e] rfl (fun j u hu => ?_) (by intro u hu; simp at hu; rcases hu with rfl | rfl <;> rfl)
  show (W.alloc (Obj.cells #[encs t, encs e] 88)).cell? _ = _
  rw [Addr.add_lit, cell_of_row _ _ _ _ _ _ (heap_alloc_new W _), ← hu, Nat.zero_add]
  simp
theorem grown_undrew {W w4 : World} {row : Option Nat} (h : W.drew.grownBy w4 row) : W.grownBy w4 row := ⟨h.os, h.tape, h.output, h.size, h.block⟩
theorem ext_sl (b : ByteArray) (a k : Nat) : Value.string (b.extract a k) = encs (sl b.data.toList a k) := by
  rw [encs, sl, Lib.extract_eq, List.drop_take]
theorem below_box {w w' : World} {g : Nat} {o : Obj} (hb : Below w.heap.size w w') (h : w.heap[g]? = some o) : w'.heap[g]? = some o :=
  (hb.block g (Array.getElem?_eq_some_iff.1 h).1).trans h

/-- By a goto to a label: what J asks there, and less than m is left; else as Q. -/
def ups (J : Nat → Act → World → Nat → Prop) (m : Nat) (Q : Exit → Act → World → Prop) : Exit → Act → World → Prop
  | .goto l, a, w => ∃ k, k < m ∧ J l a w k
  | e, a, w => Q e a w
section
variable {P : Program} {a : Act} {w : World} {Q : Exit → Act → World → Prop}
theorem wp_scope_ups {c : Code} (J : Nat → Act → World → Nat → Prop) (m : Nat) (first : c.wp P (ups J m Q) a w)
    (pass : ∀ l a w k, J l a w k → ∃ rest, findLabel c l = some rest ∧ rest.wp P (ups J k Q) a w) : (Code.scope c).wp P Q a w := by
  intro b k cs
  have hg : ∀ l rest, findLabel c l = some rest → gotoIn l (.inScope c :: k) = some (.code rest :: .inScope c :: k) := fun l rest hf => by simp [gotoIn, hf]
  have key : ∀ n l a w, J l a w n → ∃ rest, findLabel c l = some rest ∧ ∃ e a' w', Q e a' w' ∧ Arrives P (lone (b.at a (.code rest :: .inScope c :: k)) cs w) b k cs e a' w' := by
    intro n
    induction n using Nat.strongRecOn with
    | _ n ih =>
      intro l a w hJ
      obtain ⟨rest, hf, hwp⟩ := pass l a w n hJ
      refine ⟨rest, hf, ?_⟩
      obtain ⟨e, a₁, w₁, hq, harr⟩ := hwp b (.inScope c :: k) cs
      cases e with
      | normal => exact ⟨.normal, a₁, w₁, hq, Steps.trans harr (.one step_inScope)⟩
      | exit id => exact ⟨.exit id, a₁, w₁, hq, fun k' hk => harr k' (by simp [exitTo, hk])⟩
      | goto l' =>
        obtain ⟨j, hlt, hJ'⟩ := hq
        obtain ⟨r2, hf2, e₂, a₂, w₂, hq₂, harr₂⟩ := ih j hlt l' a₁ w₁ hJ'
        exact ⟨e₂, a₂, w₂, hq₂, .of_steps (harr _ (hg l' r2 hf2)) harr₂⟩
      | ret => exact ⟨_, a₁, w₁, hq, harr⟩
      | panic ch => exact ⟨_, a₁, w₁, hq, harr⟩
      | outgrown => exact ⟨_, a₁, w₁, hq, harr⟩
  obtain ⟨e, a₁, w₁, hq, harr⟩ := first b (.inScope c :: k) cs
  cases e with
  | normal => exact ⟨.normal, a₁, w₁, hq, .head step_scope (Steps.trans harr (.one step_inScope))⟩
  | exit id => exact ⟨.exit id, a₁, w₁, hq, fun k' hk => .head step_scope (harr k' (by simp [exitTo, hk]))⟩
  | goto l' =>
    obtain ⟨j, _, hJ'⟩ := hq
    obtain ⟨r2, hf2, e₂, a₂, w₂, hq₂, harr₂⟩ := key j l' a₁ w₁ hJ'
    exact ⟨e₂, a₂, w₂, hq₂, .of_steps (.head step_scope (harr _ (hg l' r2 hf2))) harr₂⟩
  | ret => exact ⟨_, a₁, w₁, hq, .of_steps (.one step_scope) harr⟩
  | panic ch => exact ⟨_, a₁, w₁, hq, .of_steps (.one step_scope) harr⟩
  | outgrown => exact ⟨_, a₁, w₁, hq, .of_steps (.one step_scope) harr⟩
end
end Go.Proofs.YtlcbhooiinaalaaGreatDoor.Li
namespace Go.Proofs.YtlcbhooiinaalaaGreatDoor.Cv
open Go.RowKit Go.Proofs.YtlcbhooiinaalaaGreatDoor.Jd Go.Proofs.YtlcbhooiinaalaaGreatDoor.Li
set_option maxRecDepth 100000

/-- The fields: what is written, what it means. -/
def flds : Nat → Bs → Option (List Ln)
  | 0, _ => none
  | F + 1, l =>
    if (unq (l.take (wid false l))).2 = false then none else
    if wid false l = l.length then some [(l.take (wid false l), (unq (l.take (wid false l))).1)] else
    (flds F (l.drop (wid false l + 1))).map (fun r => (l.take (wid false l), (unq (l.take (wid false l))).1) :: r)
def fldsL (l : Bs) : List Ln := (flds (l.length + 1) l).getD []
theorem elem_field : Elem Tryz.prog 60 149 (.agg #[.string ⟨#[]⟩, .string ⟨#[]⟩]) 2 32 := ⟨Tryz.underlying60, by kernel_rfl, rfl, by omega⟩
theorem src_field (W : World) (a b : ByteArray) (g : Nat) (hg : g = W.heap.size) : Src Tryz.prog 2 60 (.slice (some ⟨g, 0, none⟩) 1 1) 1 [.string a, .string b] (W.alloc (Obj.cells #[.string a, .string b] 149)) := by
  subst hg
  refine Src.ofSlice _ Tryz.underlying60 ⟨W.heap.size, 0, none⟩ 1 1 [.string a, .string b] rfl (fun j u hu => ?_) (by intro u hu; simp at hu; rcases hu with rfl | rfl <;> rfl)
  rw [Addr.add_lit, cell_of_row _ _ _ _ _ _ (heap_alloc_new W _), ← hu, Nat.zero_add]
  simp
/-- A row of fields of the call's own. -/
abbrev OwnF (w : World) (base : Nat) (A : Option Addr) (n c : Nat) (ls : List Ln) : Prop := w.ownsRow base 149 2 (.slice A n c) n (lcells ls)
theorem OwnF.below {w w' : World} {base n c : Nat} {A : Option Addr} {ls : List Ln} (h : OwnF w base A n c ls) (hb : Below w.heap.size w w') : OwnF w' base A n c ls :=
  World.ownsRow.kept h (row := none) ⟨hb.os, hb.tape, hb.output, hb.size, fun i hi _ => hb.block i hi⟩ (by cases hv : (Value.slice A n c).ownBlock <;> simp)
theorem OwnF.sees {w : World} {base n c : Nat} {A : Option Addr} {ls : List Ln} (h : OwnF w base A n c ls) : SeesL w w.heap.size A n ls := by
  have h1 := h.1
  rw [lcells_length] at h1
  have hn : n = ls.length := by omega
  rcases own_form h with ⟨rfl, rfl, hl⟩ | ⟨g, rfl, hg, hgl, _, _, hc⟩
  · have : ls = [] := List.eq_nil_of_length_eq_zero (by omega)
    subst this
    exact SeesL.nil _ _ _
  · exact ⟨hn, fun j u hu => ⟨g, 0, rfl, hgl, hc j u hu⟩⟩
theorem OwnF.len {w : World} {base n c : Nat} {A : Option Addr} {ls : List Ln} (h : OwnF w base A n c ls) : n = ls.length := h.sees.len
theorem ext_take (b : ByteArray) (k : Nat) : (b.extract 0 k).data.toList = b.data.toList.take k := by
  simp [ByteArray.data_extract]
theorem ext_drop (b : ByteArray) (k : Nat) : (b.extract k b.size).data.toList = b.data.toList.drop k := by
  have hs : b.size = b.data.toList.length := rfl
  rw [ByteArray.data_extract, Array.toList_extract, List.extract_eq_take_drop, List.take_of_length_le (by rw [List.length_drop]; omega)]
theorem flds_fuel : ∀ (F : Nat) (l : Bs), l.length < F → flds F l = flds (l.length + 1) l := by
  intro F
  induction F using Nat.strongRecOn with
  | _ F ih =>
    intro l hl
    obtain ⟨G, rfl⟩ : ∃ G, F = G + 1 := ⟨F - 1, by omega⟩
    rw [flds, flds]
    by_cases h1 : (unq (l.take (wid false l))).2 = false
    · rw [if_pos h1, if_pos h1]
    · rw [if_neg h1, if_neg h1]
      by_cases h2 : wid false l = l.length
      · rw [if_pos h2, if_pos h2]
      · rw [if_neg h2, if_neg h2]
        have hw := wid_le l false
        have hd : (l.drop (wid false l + 1)).length < l.length := by rw [List.length_drop]; omega
        have e : flds G (l.drop (wid false l + 1)) = flds l.length (l.drop (wid false l + 1)) := by
          rw [ih G (by omega) _ (by omega)]
          exact (ih l.length (by omega) _ hd).symm
        rw [e]
/-- The length of a text. -/
def tlen : Value → Nat
  | .string b => b.size
  | _ => 0
/-- What is answered. -/
def FoP (w : World) (ls : List Ln) (en : Ending) (w' : World) : Prop := ∃ A c, en = .returned (.slice A ls.length c) ∧ OwnF w' w.heap.size A ls.length c ls ∧ Below w.heap.size w w'

set_option maxHeartbeats 4000000 in
theorem fields_any (s : ByteArray) (w : World) (hz : s.size ≤ 4000) (hG : Gl w) : Calls Tryz.prog 76 #[.string s] w (FoP w (fldsL s.data.toList)) := by
  obtain ⟨R, hR⟩ : ∃ R, R = flds (s.data.toList.length + 1) s.data.toList := ⟨_, rfl⟩
  have hL : fldsL s.data.toList = R.getD [] := by rw [hR]; rfl
  rw [hL]
  have HG := Lib.hid hG
  have HR := Lib.hid hR
  clear hR hL hG
  go_enter Tryz.func76, Tryz.ntmps76
  go_wp2_with fail
  go_loopw [0, 3] (fun t a wr => ∃ (b : ByteArray) (k c : Nat) (A : Option Addr) (acc : List Ln), t = .string b ∧ a = .slice A k c ∧ k + b.size ≤ s.size ∧ Hid (OwnF wr w.heap.size A k c acc) ∧ Hid (Below w.heap.size w wr) ∧ Hid (R = (flds (b.data.toList.length + 1) b.data.toList).map (acc ++ ·))) (fun t _ _ => tlen t)
  case atStart => exact ⟨s, 0, 0, none, [], rfl, rfl, by omega, Lib.hid (World.ownsRow_nil w _ _ _), Lib.hid (Below.refl _ _), Lib.hid (by rw [HR.out]; simp)⟩
  case round =>
    obtain ⟨b, k, c, A, acc, rfl, rfl, hkb, HO, HW, HF⟩ := hrel
    obtain ⟨q, hq⟩ : ∃ q, q = wid false b.data.toList := ⟨_, rfl⟩
    have hql : q ≤ b.size := by rw [hq]; exact wid_le _ _
    have hWd := width_any b wr (by omega)
    rw [← hq] at hWd
    obtain ⟨fx, hfx⟩ : ∃ x, x = b.extract 0 q := ⟨_, rfl⟩
    have hfd : fx.data.toList = b.data.toList.take q := by rw [hfx]; exact ext_take b q
    have hfs : fx.size ≤ 4000 := by
      have e : fx.size = fx.data.toList.length := rfl
      rw [e, hfd, List.length_take]
      have e2 : b.size = b.data.toList.length := rfl
      omega
    have hU := unquoted_any fx wr hfs (HG.out.below HW.out)
    obtain ⟨mx, hmx⟩ : ∃ x : ByteArray, x = ⟨(unq fx.data.toList).1.toArray⟩ := ⟨_, rfl⟩
    obtain ⟨v, hv⟩ : ∃ v, v = (unq fx.data.toList).2 := ⟨_, rfl⟩
    rw [← hmx, ← hv] at hU
    have hmd : mx.data.toList = (unq fx.data.toList).1 := by rw [hmx]
    have hrel := HF.out
    rw [flds, ← hq, ← hfd, ← hv] at hrel
    have HWd := Lib.hid hWd
    have HU := Lib.hid hU
    have Hmd := Lib.hid hmd
    have Hfd := Lib.hid hfd
    have hq0 : (0 : Int) ≤ (q : Int) := by omega
    have hqb : (q : Int) ≤ (b.size : Int) := by omega
    have hqx : Hid (b.extract 0 q = fx) := Lib.hid hfx.symm
    have hx2 := hfx.symm
    cases v with
    | false =>
      rw [if_pos rfl] at hrel
      have HR2 := Lib.hid hrel
      clear hWd hU hmd hfd hrel HF hq hv hmx hfx hfs
      go_wp2_with fail
      (with_reducible refine HWd.out.mono ?_)
      rintro e w2 ⟨rfl, rfl⟩
      go_wp2_with fail
      (with_reducible refine HU.out.mono ?_)
      rintro e w3 ⟨rfl, hb3⟩
      have HB := Lib.hid (HW.out.trans (hb3.mono HW.out.size))
      clear hb3
      go_wp2_with fail
      first
        | go_ret
        | (rw [Exit.noGoto_ret]; go_ret)
      exact ⟨none, 0, by rw [HR2.out]; rfl, by rw [HR2.out]; exact World.ownsRow_nil _ _ _ _, HB.out⟩
    | true =>
      rw [if_neg (by simp)] at hrel
      have hk1 : k + 1 ≤ 1099511627776 := by omega
      by_cases hqe : q = b.size
      · have hqe2 : q = b.data.toList.length := hqe
        rw [if_pos hqe2] at hrel
        have HR2 := Lib.hid hrel
        have hqi : ((q : Int) == (b.size : Int)) = true := by simp; omega
        clear hWd hU hmd hfd hrel HF hq hv hmx hfx hfs hqe hqe2
        go_wp2_with fail
        (with_reducible refine HWd.out.mono ?_)
        rintro e w2 ⟨rfl, rfl⟩
        go_wp2_with fail
        (with_reducible refine HU.out.mono ?_)
        rintro e w3 ⟨rfl, hb3⟩
        have hz3 := (HW.out.trans (hb3.mono HW.out.size)).size
        have HB := Lib.hid (HW.out.trans (hb3.mono HW.out.size))
        have HO3 := Lib.hid (HO.out.below hb3)
        clear hb3
        go_wp2_with (at_builtin; refine wpList_append_row rfl (.tmp 18) (.tmp 24) _ _ rfl elem_field rfl rfl (HO3.out.alloc _) (src_field _ fx mx _ rfl) hk1 (by simp; omega) ?_; intro A4 c4 w4 ho4 hg4 hat4)
        have hP : OwnF w4 w.heap.size A4 (k + 1) c4 (acc ++ [(fx.data.toList, mx.data.toList)]) := by
          have e : lcells (acc ++ [(fx.data.toList, mx.data.toList)]) = lcells acc ++ [.string fx, .string mx] := by rw [lcells_append]; rfl
          show w4.ownsRow _ _ _ _ _ (lcells _)
          rw [e]
          exact ho4
        have HP := Lib.hid hP
        have HR3 : Hid (R.getD [] = acc ++ [(fx.data.toList, mx.data.toList)]) := Lib.hid (by rw [HR2.out, Hmd.out]; rfl)
        have HB4 : Hid (Below w.heap.size w w4) := Lib.hid ((HB.out.alloc hz3 _).grown hg4 (by simp; omega) (fun q hq => (HO3.out.lt q hq).1))
        have Hk : Hid (k + 1 = (acc ++ [(fx.data.toList, mx.data.toList)]).length) := Lib.hid hP.len
        clear hP ho4 hg4 hat4 HO3 HB HR2
        go_wp2_with fail
        first
          | go_ret
          | (rw [Exit.noGoto_ret]; go_ret)
        exact ⟨A4, c4, by rw [HR3.out, ← Hk.out]; rfl, by rw [HR3.out, ← Hk.out]; exact HP.out, HB4.out⟩
      · have hqe2 : ¬ q = b.data.toList.length := hqe
        rw [if_neg hqe2] at hrel
        obtain ⟨b2, hb2⟩ : ∃ x, x = b.extract (q + 1) b.size := ⟨_, rfl⟩
        have hbd : b2.data.toList = b.data.toList.drop (q + 1) := by rw [hb2]; exact ext_drop b (q + 1)
        have hbl : b.size = b.data.toList.length := rfl
        have hb2l : b2.size = b2.data.toList.length := rfl
        have hbs : b2.size + (q + 1) = b.size := by rw [hb2l, hbd, List.length_drop]; omega
        rw [← hbd, flds_fuel _ b2.data.toList (by omega)] at hrel
        have HR2 := Lib.hid hrel
        have hqi : ((q : Int) == (b.size : Int)) = false := by rw [beq_eq_false_iff_ne]; omega
        have hq1 : IntKind.i64.wrap ((q : Int) + 1) = (q : Int) + 1 := IntWalk.i64_in _ (by omega)
        have hqb1 : (q : Int) + 1 ≤ (b.size : Int) := by omega
        have hqb2 : (0 : Int) ≤ (q : Int) + 1 := by omega
        have hqn : ((q : Int) + 1).toNat = q + 1 := by omega
        have hx3 := hb2.symm
        have Hbs := Lib.hid hbs
        clear hWd hU hmd hfd hrel HF hq hv hmx hfx hfs hqe hqe2 hb2 hbd hbl hb2l hbs
        go_wp2_with fail
        (with_reducible refine HWd.out.mono ?_)
        rintro e w2 ⟨rfl, rfl⟩
        go_wp2_with fail
        (with_reducible refine HU.out.mono ?_)
        rintro e w3 ⟨rfl, hb3⟩
        have hz3 := (HW.out.trans (hb3.mono HW.out.size)).size
        have HB := Lib.hid (HW.out.trans (hb3.mono HW.out.size))
        have HO3 := Lib.hid (HO.out.below hb3)
        clear hb3
        go_wp2_with (at_builtin; refine wpList_append_row rfl (.tmp 18) (.tmp 24) _ _ rfl elem_field rfl rfl (HO3.out.alloc _) (src_field _ fx mx _ rfl) hk1 (by simp; omega) ?_; intro A4 c4 w4 ho4 hg4 hat4)
        have hP : OwnF w4 w.heap.size A4 (k + 1) c4 (acc ++ [(fx.data.toList, mx.data.toList)]) := by
          have e : lcells (acc ++ [(fx.data.toList, mx.data.toList)]) = lcells acc ++ [.string fx, .string mx] := by rw [lcells_append]; rfl
          show w4.ownsRow _ _ _ _ _ (lcells _)
          rw [e]
          exact ho4
        have HP := Lib.hid hP
        have HR3 : Hid (R = (flds (b2.data.toList.length + 1) b2.data.toList).map ((acc ++ [(fx.data.toList, mx.data.toList)]) ++ ·)) := Lib.hid (by
          rw [HR2.out, Hmd.out]
          cases flds (b2.data.toList.length + 1) b2.data.toList with
          | none => rfl
          | some r => simp)
        have HB4 : Hid (Below w.heap.size w w4) := Lib.hid ((HB.out.alloc hz3 _).grown hg4 (by simp; omega) (fun q hq => (HO3.out.lt q hq).1))
        clear hP ho4 hg4 hat4 HO3 HB HR2
        go_wp2_with fail
        go_roundw
        case rel => exact ⟨b2, k + 1, c4, A4, _, by first | rfl | (rw [← hx3]; rfl), rfl, by have := Hbs.out; omega, HP, HB4, HR3⟩
        case measure => have := Hbs.out; first | (simp [tlen]; omega) | (rw [hx3]; simp [tlen]; omega)
end Go.Proofs.YtlcbhooiinaalaaGreatDoor.Cv
