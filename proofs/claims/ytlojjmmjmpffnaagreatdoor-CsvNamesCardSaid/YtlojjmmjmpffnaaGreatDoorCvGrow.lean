/- csv: a row of rows of one's own, being grown: the rows' fields lie in other blocks. No conditions. -/
import Derived.Test.YtlojjmmjmpffnaaGreatDoorMgRf
import Derived.Test.YtlojjmmjmpffnaaGreatDoorGrow
import Derived.Outline
namespace Go.Proofs.YtlojjmmjmpffnaaGreatDoor.Cv
open Go.RowKit Go.Proofs.YtlojjmmjmpffnaaGreatDoor.Jd Go.Proofs.YtlojjmmjmpffnaaGreatDoor.Li
set_option maxRecDepth 100000

theorem own_cap' {w : World} {base n c size k : Nat} {e : TypeId} {A : Option Addr} {xs : List Value} (h : w.ownsRow base e size (.slice A n c) k xs) (hk : k = n) : n ≤ c ∧ c ≤ maxLen := by
  subst hk
  rcases h.2 with ⟨e, _⟩ | ⟨g, cap, cur, e, _, _, hn, hm, _⟩
  · injection e with _ h1 h2
    subst h1; subst h2
    exact ⟨Nat.le_refl _, Nat.zero_le _⟩
  · injection e with _ _ h2
    subst h2
    exact ⟨hn, hm⟩
/-- As SeesL, in blocks of which P holds. -/
structure SeesLP (w : World) (P : Nat → Prop) (A : Option Addr) (n : Nat) (ls : List Ln) : Prop where
  len : n = ls.length
  cell : ∀ (j : Nat) (u : Value), (lcells ls)[j]? = some u → ∃ b o, A = some ⟨b, o, none⟩ ∧ P b ∧ w.cell? ⟨b, o + j, none⟩ = some u
section
variable {w w' : World} {P P' : Nat → Prop} {n : Nat} {A : Option Addr} {ls : List Ln}
theorem SeesLP.keep (h : SeesLP w P A n ls) (hk : ∀ b o, P b → w'.cell? ⟨b, o, none⟩ = w.cell? ⟨b, o, none⟩) : SeesLP w' P A n ls :=
  ⟨h.len, fun j u hu => by
    obtain ⟨b, o, e, hb, hc⟩ := h.cell j u hu
    exact ⟨b, o, e, hb, (hk b _ hb).trans hc⟩⟩
theorem SeesLP.more (h : SeesLP w P A n ls) (hP : ∀ b, P b → P' b) : SeesLP w P' A n ls :=
  ⟨h.len, fun j u hu => by
    obtain ⟨b, o, e, hb, hc⟩ := h.cell j u hu
    exact ⟨b, o, e, hP b hb, hc⟩⟩
theorem SeesLP.sees {B : Nat} (h : SeesLP w P A n ls) (hP : ∀ b, P b → b < B) : SeesL w B A n ls :=
  ⟨h.len, fun j u hu => by
    obtain ⟨b, o, e, hb, hc⟩ := h.cell j u hu
    exact ⟨b, o, e, hP b hb, hc⟩⟩
end
/-- A row of fields of one's own lies in one block. -/
theorem ownF_lp {w : World} {base n c : Nat} {A : Option Addr} {ls : List Ln} (h : OwnF w base A n c ls) : SeesLP w (fun b => base ≤ b ∧ b < w.heap.size) A n ls := by
  rcases own_form h with ⟨rfl, rfl, hl⟩ | ⟨g, rfl, hg, hgl, _, _, hc⟩
  · have : ls = [] := List.eq_nil_of_length_eq_zero (by have := lcells_length ls; rw [hl] at this; simp at this; omega)
    subst this
    exact ⟨rfl, fun j u hu => by simp [lcells] at hu⟩
  · exact ⟨h.len, fun j u hu => ⟨g, 0, rfl, ⟨hg, hgl⟩, hc j u hu⟩⟩
theorem ownF_cap {w : World} {base n c : Nat} {A : Option Addr} {ls : List Ln} (h : OwnF w base A n c ls) : n ≤ c ∧ c ≤ maxLen := own_cap' h rfl
/-- Cells of rows; their fields lie in blocks that P picks. -/
def RwV (w : World) (P : Nat → Prop) : List Value → List Rw → Prop
  | [], [] => True
  | .slice A n c :: .string e :: vs, r :: rs => e = r.en ∧ n ≤ c ∧ c ≤ maxLen ∧ SeesLP w P A n r.fs ∧ RwV w P vs rs
  | _, _ => False
section
variable {w w' : World} {P P' : Nat → Prop}
theorem RwV.keep (hk : ∀ b o, P b → w'.cell? ⟨b, o, none⟩ = w.cell? ⟨b, o, none⟩) : ∀ {vs : List Value} {rs : List Rw}, RwV w P vs rs → RwV w' P vs rs
  | [], [], _ => trivial
  | .slice _ _ _ :: .string _ :: _, _ :: _, ⟨h1, h2, h3, h4, h5⟩ => ⟨h1, h2, h3, h4.keep hk, RwV.keep hk h5⟩
theorem RwV.more (hP : ∀ b, P b → P' b) : ∀ {vs : List Value} {rs : List Rw}, RwV w P vs rs → RwV w P' vs rs
  | [], [], _ => trivial
  | .slice _ _ _ :: .string _ :: _, _ :: _, ⟨h1, h2, h3, h4, h5⟩ => ⟨h1, h2, h3, h4.more hP, RwV.more hP h5⟩
theorem RwV.app : ∀ {vs us : List Value} {rs qs : List Rw}, RwV w P vs rs → RwV w P us qs → RwV w P (vs ++ us) (rs ++ qs)
  | [], _, [], _, _, h2 => h2
  | .slice _ _ _ :: .string _ :: _, _, _ :: _, _, ⟨h1, h2, h3, h4, h5⟩, h6 => ⟨h1, h2, h3, h4, RwV.app h5 h6⟩
theorem RwV.length : ∀ {vs : List Value} {rs : List Rw}, RwV w P vs rs → vs.length = rs.length * 2
  | [], [], _ => rfl
  | .slice _ _ _ :: .string _ :: _, _ :: _, ⟨_, _, _, _, h5⟩ => by
    have := RwV.length h5
    simp only [List.length_cons]
    omega
theorem RwV.at_ : ∀ {vs : List Value} {rs : List Rw} {k : Nat} {r : Rw}, RwV w P vs rs → rs[k]? = some r → ∃ A n c, vs[k * 2]? = some (.slice A n c) ∧ vs[k * 2 + 1]? = some (.string r.en) ∧ n ≤ c ∧ c ≤ maxLen ∧ SeesLP w P A n r.fs
  | [], [], _, _, _, h => by simp at h
  | .slice A n c :: .string e :: vs, r :: rs, 0, r', ⟨h1, h2, h3, h4, h5⟩, h => by
    simp only [List.getElem?_cons_zero, Option.some.injEq] at h
    subst h
    exact ⟨A, n, c, rfl, by rw [h1]; rfl, h2, h3, h4⟩
  | .slice A n c :: .string e :: vs, r :: rs, k + 1, r', ⟨h1, h2, h3, h4, h5⟩, h => by
    simp only [List.getElem?_cons_succ] at h
    rw [show (k + 1) * 2 = k * 2 + 1 + 1 by omega]
    exact RwV.at_ h5 h
end
/-- The slice is a row of rows of one's own. -/
structure OwnR (w : World) (base : Nat) (A : Option Addr) (n c : Nat) (rs : List Rw) (vs : List Value) : Prop where
  own : w.ownsRow base 48 2 (.slice A n c) n vs
  row : RwV w (fun b => base ≤ b ∧ b < w.heap.size ∧ some b ≠ (Value.slice A n c).ownBlock) vs rs
section
variable {w w' : World} {base n c : Nat} {A : Option Addr} {rs : List Rw} {vs : List Value}
theorem OwnR.nil (w : World) (base : Nat) : OwnR w base none 0 0 [] [] := ⟨World.ownsRow_nil w base _ _, trivial⟩
theorem OwnR.len (h : OwnR w base A n c rs vs) : n = rs.length := by
  have h1 := h.own.1
  have h2 := h.row.length
  omega
theorem OwnR.cap (h : OwnR w base A n c rs vs) : n ≤ c ∧ c ≤ maxLen := own_cap' h.own rfl
theorem OwnR.below (h : OwnR w base A n c rs vs) (hb : Below w.heap.size w w') : OwnR w' base A n c rs vs := by
  refine ⟨h.own.kept (row := none) ⟨hb.os, hb.tape, hb.output, hb.size, fun i hi _ => hb.block i hi⟩ (by cases hv : (Value.slice A n c).ownBlock <;> simp), ?_⟩
  exact (h.row.keep (w' := w') fun b o hb1 => hb.cell (p := ⟨b, o, none⟩) hb1.2.1).more fun b hb1 => ⟨hb1.1, Nat.lt_of_lt_of_le hb1.2.1 hb.size, hb1.2.2⟩
theorem OwnR.sees (h : OwnR w base A n c rs vs) : SeesR w w.heap.size A n rs := by
  refine ⟨h.len, fun k r hr => ?_⟩
  obtain ⟨Af, nf, cf, h1, h2, h3, h4, h5⟩ := h.row.at_ hr
  rcases own_form h.own with ⟨rfl, rfl, hl⟩ | ⟨g, rfl, hg, hgl, _, _, hc⟩
  · rw [hl] at h1; simp at h1
  · exact ⟨g, 0, Af, nf, cf, rfl, hgl, hc _ _ h1, hc _ _ h2, h5.sees (fun b hb => hb.2.1), h3, h4⟩
/-- Grown by rows whose fields lie elsewhere. -/
theorem OwnR.push {m c2 : Nat} {A2 : Option Addr} {qs : List Rw} {us : List Value} (h : OwnR w base A n c rs vs) (hu : RwV w (fun b => base ≤ b ∧ b < w.heap.size ∧ some b ≠ (Value.slice A n c).ownBlock) us qs)
    (ho : w'.ownsRow base 48 2 (.slice A2 m c2) m (vs ++ us)) (hg : w.grownBy w' (Value.slice A n c).ownBlock) (hat : ∀ a, A2 = some a → w.heap.size ≤ a.block ∨ some a.block = (Value.slice A n c).ownBlock) :
    OwnR w' base A2 m c2 (rs ++ qs) (vs ++ us) := by
  refine ⟨ho, ?_⟩
  refine ((h.row.app hu).keep (w' := w') fun b o hb => World.cell?_of_block (hg.block b hb.2.1 hb.2.2)).more fun b hb => ⟨hb.1, Nat.lt_of_lt_of_le hb.2.1 hg.size, fun e => ?_⟩
  cases A2 with
  | none => cases e
  | some a =>
    have e : b = a.block := by injection e
    rcases hat a rfl with h1 | h1
    · have := hb.2.1; omega
    · exact hb.2.2 (by rw [e]; exact h1)
end
theorem elem_row : Elem Tryz.prog 49 48 (.agg #[.slice none 0 0, .string ⟨#[]⟩]) 2 40 := ⟨Tryz.underlying49, by kernel_rfl, rfl, by omega⟩
/-- One row, laid beside it. -/
theorem src_row (W : World) (A : Option Addr) (n c : Nat) (e : ByteArray) (g : Nat) (hg : g = W.heap.size) : Src Tryz.prog 2 49 (.slice (some ⟨g, 0, none⟩) 1 1) 1 [.slice A n c, .string e] (W.alloc (Obj.cells #[Value.slice A n c, Value.string e] 48)) := by
  subst hg
  refine Src.ofSlice _ Tryz.underlying49 ⟨W.heap.size, 0, none⟩ 1 1 [.slice A n c, .string e] rfl (fun j u hu => ?_) (by intro u hu; simp at hu; rcases hu with rfl | rfl <;> rfl)
  rw [Addr.add_lit, cell_of_row _ _ _ _ _ _ (heap_alloc_new W _), ← hu, Nat.zero_add]
  simp
end Go.Proofs.YtlojjmmjmpffnaaGreatDoor.Cv
