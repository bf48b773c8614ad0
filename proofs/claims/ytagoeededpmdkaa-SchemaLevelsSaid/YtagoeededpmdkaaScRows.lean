/- Rows of fields, of definitions, that a call makes; when a schema is sound. No conditions. -/
import Derived.Test.YtagoeededpmdkaaScKnown
import Derived.Test.YtagoeededpmdkaaGrow
namespace Go.Proofs.Ytagoeededpmdkaa.Sc
open Go.RowKit Go.Proofs.Ytagoeededpmdkaa.Nm
set_option maxRecDepth 100000

/-- The cells of a slice of fields read as fields. -/
def RowF (w : World) (B : Nat) : List Value → List Fld → Prop
  | [], [] => True
  | .bool a :: .slice A n c :: .int .i64 t :: .bool q :: vs, f :: fs => a = f.n.all ∧ t = f.to ∧ q = f.need ∧ SeesV w B A n (f.n.l.map encs) ∧ n ≤ maxLen ∧ 0 ≤ c ∧ RowF w B vs fs
  | _, _ => False
/-- The cells of a slice of definitions read as definitions. -/
def RowD (w : World) (B : Nat) : List Value → List Df → Prop
  | [], [] => True
  | .slice A n c :: .bool p :: .bool q :: vs, d :: ds => p = d.one ∧ q = d.some ∧ Fs w B A n d.fs ∧ n ≤ c ∧ c ≤ maxLen ∧ RowD w B vs ds
  | _, _ => False
section
variable {w w' : World} {B B' : Nat}
theorem RowF.keep (hk : ∀ p : Addr, p.block < B → w'.cell? p = w.cell? p) : ∀ {vs : List Value} {fs : List Fld}, RowF w B vs fs → RowF w' B vs fs
  | [], [], h => h
  | .bool _ :: .slice _ _ _ :: .int .i64 _ :: .bool _ :: _, _ :: _, ⟨h1, h2, h3, h4, h5, h6, h7⟩ => ⟨h1, h2, h3, h4.keep hk, h5, h6, RowF.keep hk h7⟩
theorem RowF.more (hB : B ≤ B') : ∀ {vs : List Value} {fs : List Fld}, RowF w B vs fs → RowF w B' vs fs
  | [], [], h => h
  | .bool _ :: .slice _ _ _ :: .int .i64 _ :: .bool _ :: _, _ :: _, ⟨h1, h2, h3, h4, h5, h6, h7⟩ => ⟨h1, h2, h3, SeesV.more hB h4, h5, h6, RowF.more hB h7⟩
theorem RowF.length : ∀ {vs : List Value} {fs : List Fld}, RowF w B vs fs → vs.length = fs.length * 4
  | [], [], _ => rfl
  | .bool _ :: .slice _ _ _ :: .int .i64 _ :: .bool _ :: _, _ :: _, ⟨_, _, _, _, _, _, h7⟩ => by simp only [List.length_cons, RowF.length h7]; omega
theorem RowF.one : ∀ {vs : List Value} {fs : List Fld}, RowF w B vs fs → ∀ u ∈ vs, u.oneCell' = true
  | [], [], _, u, hu => by cases hu
  | .bool _ :: .slice _ _ _ :: .int .i64 _ :: .bool _ :: _, _ :: _, ⟨_, _, _, _, _, _, h7⟩, u, hu => by
    simp only [List.mem_cons] at hu
    rcases hu with rfl | rfl | rfl | rfl | hu
    · rfl
    · rfl
    · rfl
    · rfl
    · exact RowF.one h7 u hu
theorem RowF.append : ∀ {vs us : List Value} {fs gs : List Fld}, RowF w B vs fs → RowF w B us gs → RowF w B (vs ++ us) (fs ++ gs)
  | [], _, [], _, _, h => h
  | .bool _ :: .slice _ _ _ :: .int .i64 _ :: .bool _ :: _, _, _ :: _, _, ⟨h1, h2, h3, h4, h5, h6, h7⟩, h => ⟨h1, h2, h3, h4, h5, h6, RowF.append h7 h⟩
theorem RowF.fs : ∀ {vs : List Value} {fs : List Fld} {b o : Nat}, RowF w B vs fs → b < B → (∀ j u, vs[j]? = some u → w.cell? ⟨b, o + j, none⟩ = some u) → Fs w B (some ⟨b, o, none⟩) fs.length fs
  | [], [], _, _, _, _, _ => ⟨rfl, fun j f hf => by simp at hf⟩
  | .bool _ :: .slice _ _ _ :: .int .i64 _ :: .bool _ :: vs, f :: fs, b, o, ⟨h1, h2, h3, h4, h5, h6, h7⟩, hb, hc => by
    have ih := RowF.fs (o := o + 4) h7 hb (fun j u hu => by
      rw [show o + 4 + j = o + (j + 4) by omega]
      exact hc (j + 4) u (by simpa using hu))
    refine ⟨rfl, fun j g hg => ?_⟩
    cases j with
    | zero =>
      simp only [List.getElem?_cons_zero, Option.some.injEq] at hg
      subst hg
      subst h1; subst h2; subst h3
      refine ⟨b, o, rfl, hb, _, _, _, ?_, ?_, ?_, ?_, h4, h5, h6⟩
      · simpa using hc 0 _ rfl
      · simpa using hc 1 _ rfl
      · simpa using hc 2 _ rfl
      · simpa using hc 3 _ rfl
    | succ j =>
      simp only [List.getElem?_cons_succ] at hg
      obtain ⟨b', o', e, hb', h⟩ := ih.cell j g hg
      cases e
      exact ⟨b, o, rfl, hb, by rw [show o + (j + 1) * 4 = o + 4 + j * 4 by omega]; exact h⟩
theorem RowD.keep (hk : ∀ p : Addr, p.block < B → w'.cell? p = w.cell? p) : ∀ {vs : List Value} {fs : List Df}, RowD w B vs fs → RowD w' B vs fs
  | [], [], h => h
  | .slice _ _ _ :: .bool _ :: .bool _ :: _, _ :: _, ⟨h1, h2, h3, h4, h5, h6⟩ => ⟨h1, h2, h3.keep hk, h4, h5, RowD.keep hk h6⟩
theorem RowD.more (hB : B ≤ B') : ∀ {vs : List Value} {fs : List Df}, RowD w B vs fs → RowD w B' vs fs
  | [], [], h => h
  | .slice _ _ _ :: .bool _ :: .bool _ :: _, _ :: _, ⟨h1, h2, h3, h4, h5, h6⟩ => ⟨h1, h2, h3.more hB, h4, h5, RowD.more hB h6⟩
theorem RowD.length : ∀ {vs : List Value} {fs : List Df}, RowD w B vs fs → vs.length = fs.length * 3
  | [], [], _ => rfl
  | .slice _ _ _ :: .bool _ :: .bool _ :: _, _ :: _, ⟨_, _, _, _, _, h7⟩ => by simp only [List.length_cons, RowD.length h7]; omega
theorem RowD.append : ∀ {vs us : List Value} {fs gs : List Df}, RowD w B vs fs → RowD w B us gs → RowD w B (vs ++ us) (fs ++ gs)
  | [], _, [], _, _, h => h
  | .slice _ _ _ :: .bool _ :: .bool _ :: _, _, _ :: _, _, ⟨h1, h2, h3, h4, h5, h6⟩, h => ⟨h1, h2, h3, h4, h5, RowD.append h6 h⟩
theorem RowD.ds : ∀ {vs : List Value} {fs : List Df} {b o : Nat}, RowD w B vs fs → b < B → (∀ j u, vs[j]? = some u → w.cell? ⟨b, o + j, none⟩ = some u) → Ds w B (some ⟨b, o, none⟩) fs.length fs
  | [], [], _, _, _, _, _ => ⟨rfl, fun j f hf => by simp at hf⟩
  | .slice _ _ _ :: .bool _ :: .bool _ :: vs, f :: fs, b, o, ⟨h1, h2, h3, h4, h5, h6⟩, hb, hc => by
    have ih := RowD.ds (o := o + 3) h6 hb (fun j u hu => by
      rw [show o + 3 + j = o + (j + 3) by omega]
      exact hc (j + 3) u (by simpa using hu))
    refine ⟨rfl, fun j g hg => ?_⟩
    cases j with
    | zero =>
      simp only [List.getElem?_cons_zero, Option.some.injEq] at hg
      subst hg
      subst h1; subst h2
      refine ⟨b, o, rfl, hb, _, _, _, ?_, ?_, ?_, h3, h4, h5⟩
      · simpa using hc 0 _ rfl
      · simpa using hc 1 _ rfl
      · simpa using hc 2 _ rfl
    | succ j =>
      simp only [List.getElem?_cons_succ] at hg
      obtain ⟨b', o', e, hb', h⟩ := ih.cell j g hg
      cases e
      exact ⟨b, o, rfl, hb, by rw [show o + (j + 1) * 3 = o + 3 + j * 3 by omega]; exact h⟩
end

/-- A row of the call's own, of whatever cells: where its cells lie. -/
theorem own_form {w : World} {base n c size : Nat} {A : Option Addr} {e : TypeId} {vs : List Value} (h : w.ownsRow base e size (.slice A n c) n vs) : (A = none ∧ n = 0 ∧ vs = []) ∨ ∃ g, A = some ⟨g, 0, none⟩ ∧ base ≤ g ∧ g < w.heap.size ∧ n ≤ c ∧ c ≤ maxLen ∧ ∀ j u, vs[j]? = some u → w.cell? ⟨g, 0 + j, none⟩ = some u := by
  obtain ⟨h1, hr⟩ := h
  rcases hr with ⟨e1, e2⟩ | ⟨g, cap, cur, e1, hg, hh, hcap, hmx, hsz, htk⟩
  · injection e1 with e1 _ _
    subst e2
    exact .inl ⟨e1, rfl, List.eq_nil_of_length_eq_zero (by omega)⟩
  · injection e1 with e1 _ e3
    subst e1; subst e3
    refine .inr ⟨g, rfl, hg, (Array.getElem?_eq_some_iff.1 hh).1, hcap, hmx, fun j u hu => ?_⟩
    rw [cell_of_row w g _ cur _ _ hh, Nat.zero_add]
    rw [← htk, List.getElem?_take] at hu
    split at hu
    · simpa using hu
    · cases hu
theorem own_fs {w : World} {base n c : Nat} {A : Option Addr} {vs : List Value} {fs : List Fld} (h : w.ownsRow base 83 4 (.slice A n c) n vs) (hr : RowF w w.heap.size vs fs) : Fs w w.heap.size A n fs := by
  have hl := hr.length
  have h1 := h.1
  have hn : n = fs.length := by omega
  rcases own_form h with ⟨rfl, rfl, rfl⟩ | ⟨g, rfl, hg, hgl, _, _, hc⟩
  · have : fs = [] := List.eq_nil_of_length_eq_zero hn.symm
    subst this
    exact Fs.none_ _ _ _
  · rw [hn]
    exact hr.fs hgl hc
theorem own_ds {w : World} {base n c : Nat} {A : Option Addr} {vs : List Value} {fs : List Df} (h : w.ownsRow base 80 3 (.slice A n c) n vs) (hr : RowD w w.heap.size vs fs) : Ds w w.heap.size A n fs := by
  have hl := hr.length
  have h1 := h.1
  have hn : n = fs.length := by omega
  rcases own_form h with ⟨rfl, rfl, rfl⟩ | ⟨g, rfl, hg, hgl, _, _, hc⟩
  · have : fs = [] := List.eq_nil_of_length_eq_zero hn.symm
    subst this
    exact ⟨rfl, fun j f hf => by simp at hf⟩
  · rw [hn]
    exact hr.ds hgl hc

theorem elem_field : Elem Try.prog 78 83 (.agg #[.bool false, .slice none 0 0, .int .i64 0, .bool false]) 4 48 := ⟨Try.underlying78, by kernel_rfl, rfl, by omega⟩
theorem elem_def : Elem Try.prog 72 80 (.agg #[.slice none 0 0, .bool false, .bool false]) 3 32 := ⟨Try.underlying72, by kernel_rfl, rfl, by omega⟩
/-- The cells of one block just laid, as a source. -/
theorem src_block {P : Program} (W : World) (tx e e' : TypeId) (hk : P.underlying tx = some (.slice e')) (size : Nat) (vs : List Value) (hl : vs.length = 1 * size) (h1 : ∀ u ∈ vs, u.oneCell' = true) : Src P size tx (.slice (some ⟨W.heap.size, 0, none⟩) 1 1) 1 vs (W.alloc (Obj.cells vs.toArray e)) :=
  Src.laid hk hl (fun j u hu => by rw [cell_of_row _ _ _ _ _ _ (heap_alloc_new W _), ← hu]; simp) h1

/-- When nothing is wrong. -/
theorem fsC_ok {defs : Nat} {fs : List Fld} (h : ∀ k f, fs[k]? = some f → fldC defs (fs.take k) f = 0) : fsC defs [] fs = 0 := by
  have main : ∀ j k, fs.length - k = j → k ≤ fs.length → fsC defs (fs.take k) (fs.drop k) = 0 := by
    intro j
    induction j with
    | zero => intro k hj hk; rw [List.drop_of_length_le (by omega)]; rfl
    | succ j ih =>
      intro k hj hk
      have hlt : k < fs.length := by omega
      have hf := List.getElem?_eq_getElem hlt
      rw [fsC_step hf, h k _ hf, if_pos rfl]
      exact ih (k + 1) (by omega) (by omega)
  have := main fs.length 0 (by omega) (by omega)
  simpa using this
theorem dsC_ok {defs : Nat} {s : List Df} (h : ∀ d ∈ s, dfC defs d = 0) : dsC defs s = 0 := by
  induction s with
  | nil => rfl
  | cons d r ih =>
    simp only [dsC]
    rw [if_pos (h d List.mem_cons_self)]
    exact ih fun x hx => h x (List.mem_cons_of_mem _ hx)
theorem twice_no {f g : Fld} (h0 : (f.n.all && g.n.all) = false) (h : ∀ x, (f.n.mem x && g.n.mem x) = false) : twice f g = false := by
  unfold twice
  rw [none_of (by simpa [both, comb, fr] using h0) (fun x => by rw [both_mem]; exact h x)]
  rfl
theorem fldC_ok {defs : Nat} {a : List Fld} {f : Fld} (h1 : f.n.l.length ≤ 20) (h2 : ∀ x ∈ f.n.l, x.length ≤ 80) (h3 : 0 ≤ f.to ∧ f.to < (defs : Int)) (h4 : (f.need && f.n.all) = false) (h5 : ∀ g ∈ a, twice f g = false) : fldC defs a f = 0 := by
  have hl : long f.n = false := by
    unfold long
    rw [List.any_eq_false]
    intro x hx
    have := h2 x hx
    simp; omega
  have ht : a.any (twice f) = false := by
    rw [List.any_eq_false]
    intro g hg
    rw [h5 g hg]
    simp
  unfold fldC
  rw [if_neg (by omega), hl, if_neg (by simp), if_pos h3, h4, if_neg (by simp), ht, if_neg (by simp)]
end Go.Proofs.Ytagoeededpmdkaa.Sc
