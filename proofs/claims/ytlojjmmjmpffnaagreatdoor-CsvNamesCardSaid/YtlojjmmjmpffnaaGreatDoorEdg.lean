/- A row of edges of one's own, being grown: what stands below its edges lies in other rows. No conditions. -/
import Derived.Test.YtlojjmmjmpffnaaGreatDoorClHold
import Derived.Test.YtlojjmmjmpffnaaGreatDoorWithW
import Derived.Test.YtlojjmmjmpffnaaGreatDoorChkRef
namespace Go.Proofs.YtlojjmmjmpffnaaGreatDoor.Jd
open Go.RowKit Go.Proofs.YtlojjmmjmpffnaaGreatDoor.Cl
set_option maxRecDepth 100000

def appT : Tr → Tr → Tr
  | .nil, u => u
  | .cons s k r, u => .cons s k (appT r u)
theorem appT_nil : ∀ t : Tr, appT t .nil = t
  | .nil => rfl
  | .cons s k r => by rw [appT, appT_nil r]
theorem appT_cons (s : ByteArray) (k u : Tr) : ∀ t : Tr, appT (appT t (.cons s k .nil)) u = appT t (.cons s k u)
  | .nil => rfl
  | .cons _ _ r => by rw [appT, appT, appT, appT_cons s k u r]
theorem appT_len (u : Tr) : ∀ t : Tr, (appT t u).len = t.len + u.len
  | .nil => by simp [appT, Tr.len]
  | .cons _ _ r => by rw [appT, Tr.len, Tr.len, appT_len u r]; omega
theorem appT_size (u : Tr) : ∀ t : Tr, (appT t u).size = t.size + u.size
  | .nil => by simp [appT, Tr.size]
  | .cons _ k r => by rw [appT, Tr.size, Tr.size, appT_size u r]; omega
theorem appT_nm (u : Tr) (hu : Tr.Nm u) : ∀ t : Tr, Tr.Nm t → Tr.Nm (appT t u)
  | .nil, _ => hu
  | .cons _ _ r, ⟨h1, h2, h3⟩ => ⟨h1, h2, appT_nm u hu r h3⟩
theorem low_size : ∀ t : Tr, t.size ≤ 140737488351232 → t.Low
  | .nil, _ => trivial
  | .cons _ k r, h => by
    simp only [Tr.size] at h
    have := k.len_size
    exact ⟨by omega, low_size k (by omega), low_size r (by omega)⟩

/-- Cells of edges in a row; what is below them, in blocks that P picks. -/
def RowP (w : World) (P : Nat → Prop) : List Value → Tr → Prop
  | [], .nil => True
  | .string s :: .slice A n c :: vs, .cons s' k r => s = s' ∧ n ≤ c ∧ c ≤ maxLen ∧ HoldsP w P A n k ∧ RowP w P vs r
  | _, _ => False
section
variable {w w' : World} {P P' : Nat → Prop}
theorem RowP.keep (hk : ∀ b o, P b → w'.cell? ⟨b, o, none⟩ = w.cell? ⟨b, o, none⟩) : ∀ {vs : List Value} {t : Tr}, RowP w P vs t → RowP w' P vs t
  | [], .nil, _ => trivial
  | .string _ :: .slice _ _ _ :: _, .cons _ _ _, ⟨h1, h2, h3, h4, h5⟩ => ⟨h1, h2, h3, h4.keep hk, RowP.keep hk h5⟩
theorem RowP.more (hP : ∀ b, P b → P' b) : ∀ {vs : List Value} {t : Tr}, RowP w P vs t → RowP w P' vs t
  | [], .nil, _ => trivial
  | .string _ :: .slice _ _ _ :: _, .cons _ _ _, ⟨h1, h2, h3, h4, h5⟩ => ⟨h1, h2, h3, h4.more hP, RowP.more hP h5⟩
theorem RowP.app : ∀ {vs us : List Value} {t u : Tr}, RowP w P vs t → RowP w P us u → RowP w P (vs ++ us) (appT t u)
  | [], _, .nil, _, _, h2 => h2
  | .string _ :: .slice _ _ _ :: _, _, .cons _ _ _, _, ⟨h1, h2, h3, h4, h5⟩, h6 => ⟨h1, h2, h3, h4, RowP.app h5 h6⟩
theorem RowP.length : ∀ {vs : List Value} {t : Tr}, RowP w P vs t → vs.length = t.len * 2
  | [], .nil, _ => rfl
  | .string _ :: .slice _ _ _ :: _, .cons _ _ _, ⟨_, _, _, _, h5⟩ => by
    have := RowP.length h5
    simp only [List.length_cons, Tr.len]
    omega
theorem RowP.one {n c : Nat} {s : ByteArray} {A : Option Addr} {k : Tr} (h : HoldsP w P A n k) (h1 : n ≤ c) (h2 : c ≤ maxLen) : RowP w P [.string s, .slice A n c] (.cons s k .nil) := ⟨rfl, h1, h2, h, trivial⟩
/-- Read where they lie. -/
theorem RowP.holds {g : Nat} (hg : P g) : ∀ {vs : List Value} {t : Tr} {o : Nat}, RowP w P vs t → (∀ j u, vs[j]? = some u → w.cell? ⟨g, o + j, none⟩ = some u) → HoldsP w P (some ⟨g, o, none⟩) t.len t
  | [], .nil, _, _, _ => rfl
  | .string s :: .slice A n c :: vs, .cons s' k r, o, ⟨h1, h2, h3, h4, h5⟩, hc => by
    subst h1
    have e0 := hc 0 _ rfl
    have e1 := hc 1 _ rfl
    rw [Nat.add_zero] at e0
    exact ⟨g, o, rfl, hg, e0, ⟨A, n, c, e1, h2, h3, h4⟩, r.len, rfl, RowP.holds hg h5 (fun j u hu => by
      have := hc (j + 2) u (by simpa using hu)
      rw [show o + 2 + j = o + (j + 2) by omega]
      exact this)⟩
end

/-- The slice is a row of one's own, and reads as t; what is below its edges lies in other blocks, from lo on. -/
structure Edg (w : World) (base lo : Nat) (A : Option Addr) (n c : Nat) (t : Tr) (vs : List Value) : Prop where
  own : w.ownsRow base 42 2 (.slice A n c) n vs
  row : RowP w (fun b => lo ≤ b ∧ b < w.heap.size ∧ some b ≠ (Value.slice A n c).ownBlock) vs t
section
variable {w w' : World} {base lo n c : Nat} {A : Option Addr} {t : Tr} {vs : List Value}
theorem Edg.nil (w : World) (base lo : Nat) : Edg w base lo none 0 0 .nil [] := ⟨World.ownsRow_nil w base _ _, trivial⟩
theorem Edg.len (h : Edg w base lo A n c t vs) : n = t.len := by
  have h1 := h.own.1
  have h2 := h.row.length
  omega
theorem Edg.cap (h : Edg w base lo A n c t vs) : n ≤ c ∧ c ≤ maxLen := own_cap h.own
theorem Edg.below (h : Edg w base lo A n c t vs) (hb : Below w.heap.size w w') : Edg w' base lo A n c t vs := by
  refine ⟨h.own.kept (row := none) ⟨hb.os, hb.tape, hb.output, hb.size, fun i hi _ => hb.block i hi⟩ (by cases hv : (Value.slice A n c).ownBlock <;> simp), ?_⟩
  refine (h.row.keep (w' := w') fun b o hb1 => hb.cell (p := ⟨b, o, none⟩) hb1.2.1).more fun b hb1 => ⟨hb1.1, Nat.lt_of_lt_of_le hb1.2.1 hb.size, hb1.2.2⟩
theorem Edg.holdsP (h : Edg w base lo A n c t vs) (hl : lo ≤ base) : HoldsP w (fun b => lo ≤ b ∧ b < w.heap.size) A n t := by
  have hn := h.len
  rcases h.own.2 with ⟨e1, e2⟩ | ⟨g, cap, cur, e1, hg, hh, hcap, hmx, hsz, htk⟩
  · subst e2
    cases t with
    | nil => rfl
    | cons _ _ _ => simp [Tr.len] at hn
  · injection e1 with a1 a2 a3
    subst a1
    have hc : ∀ j u, vs[j]? = some u → w.cell? ⟨g, 0 + j, none⟩ = some u := fun j u hu => by
      have := rowCells h.own j u hu
      rw [Addr.add_lit] at this
      exact this
    have hrow := (h.row.more (P' := fun b => lo ≤ b ∧ b < w.heap.size) fun b hb => ⟨hb.1, hb.2.1⟩).holds (g := g) ⟨by omega, (Array.getElem?_eq_some_iff.1 hh).1⟩ hc
    rw [hn]
    exact hrow
theorem Edg.holds (h : Edg w base lo A n c t vs) (hl : lo ≤ base) : Holds w w.heap.size A n t := (h.holdsP hl).to (fun _ hb => hb.2)
/-- Grown by edges whose kids lie elsewhere. -/
theorem Edg.push {m c2 : Nat} {A2 : Option Addr} {u : Tr} {us : List Value} (h : Edg w base lo A n c t vs) (hu : RowP w (fun b => lo ≤ b ∧ b < w.heap.size ∧ some b ≠ (Value.slice A n c).ownBlock) us u)
    (ho : w'.ownsRow base 42 2 (.slice A2 m c2) m (vs ++ us)) (hg : w.grownBy w' (Value.slice A n c).ownBlock) (hat : ∀ a, A2 = some a → w.heap.size ≤ a.block ∨ some a.block = (Value.slice A n c).ownBlock) :
    Edg w' base lo A2 m c2 (appT t u) (vs ++ us) := by
  refine ⟨ho, ?_⟩
  refine ((h.row.app hu).keep (w' := w') fun b o hb => World.cell?_of_block (hg.block b hb.2.1 hb.2.2)).more fun b hb => ⟨hb.1, Nat.lt_of_lt_of_le hb.2.1 hg.size, fun e => ?_⟩
  cases A2 with
  | none => cases e
  | some a =>
    have e : b = a.block := by injection e
    rcases hat a rfl with h1 | h1
    · have := hb.2.1; omega
    · exact hb.2.2 (by rw [e]; exact h1)
end
/-- One edge, laid beside it. -/
theorem src_edge (W : World) (s : ByteArray) (A : Option Addr) (n c g : Nat) (hg : g = W.heap.size) : Src Tryz.prog 2 30 (.slice (some ⟨g, 0, none⟩) 1 1) 1 [.string s, .slice A n c] (W.alloc (Obj.cells #[Value.string s, Value.slice A n c] 42)) := by
  subst hg
  exact src_edges rfl (fun j u hu => by
    rw [cell_of_row _ _ _ _ _ _ (heap_alloc_new W _), Nat.zero_add, ← hu]
    match j, hu with
    | 0, _ => rfl
    | 1, _ => rfl
    | j + 2, hu => simp at hu) (fun u hu => by simp only [List.mem_cons, List.not_mem_nil, or_false] at hu; rcases hu with rfl | rfl <;> rfl)
end Go.Proofs.YtlojjmmjmpffnaaGreatDoor.Jd
