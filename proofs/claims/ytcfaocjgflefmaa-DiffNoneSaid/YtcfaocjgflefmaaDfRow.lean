/- Rows of paths as they lie: each path a row of its own. No conditions. -/
import Derived.Test.YtcfaocjgflefmaaDfIns
import Derived.Test.YtcfaocjgflefmaaRNames
import Derived.Test.YtcfaocjgflefmaaDfMend
import Derived.OneCell
namespace Go.Proofs.Ytcfaocjgflefmaa.Df
open Go.RowKit Go.Proofs.Ytcfaocjgflefmaa.Pt
set_option maxRecDepth 100000

/-- A path as it lies. -/
structure Q4 where
  at_ : Option Addr
  n : Nat
  c : Nat
  p : List ByteArray
def Q4.v (x : Q4) : Value := .slice x.at_ x.n x.c
def qv (xs : List Q4) : List Value := xs.map Q4.v
def qp (xs : List Q4) : List (List ByteArray) := xs.map (·.p)
theorem qv_one (xs : List Q4) : ∀ u ∈ qv xs, u.oneCell' = true := by
  intro u hu
  simp only [qv, List.mem_map] at hu
  obtain ⟨x, _, rfl⟩ := hu
  rfl
theorem qv_append (xs ys : List Q4) : qv (xs ++ ys) = qv xs ++ qv ys := by simp [qv]
theorem qp_append (xs ys : List Q4) : qp (xs ++ ys) = qp xs ++ qp ys := by simp [qp]
/-- The slice holds these paths. -/
structure SeesQ (w : World) (B : Nat) (A : Option Addr) (n : Nat) (ps : List (List ByteArray)) : Prop where
  len : n = ps.length
  at_ : ∀ (k : Nat) (p : List ByteArray), ps[k]? = some p → ∃ b o Af nf cf, A = some ⟨b, o, none⟩ ∧ b < B ∧ w.cell? ⟨b, o + k, none⟩ = some (.slice Af nf cf) ∧ SeesV w B Af nf (p.map Value.string) ∧ nf ≤ cf ∧ cf ≤ maxLen
theorem SeesQ.below {w w' : World} {B n : Nat} {A : Option Addr} {ps : List (List ByteArray)} (h : SeesQ w B A n ps) (hb : Below B w w') : SeesQ w' B A n ps :=
  ⟨h.len, fun k p hp => by
    obtain ⟨b, o, Af, nf, cf, h1, h2, h3, h4, h5⟩ := h.at_ k p hp
    exact ⟨b, o, Af, nf, cf, h1, h2, (hb.cell (p := ⟨b, o + k, none⟩) h2).trans h3, h4.below hb, h5⟩⟩
theorem SeesQ.more {w : World} {B B' n : Nat} {A : Option Addr} {ps : List (List ByteArray)} (h : SeesQ w B A n ps) (hB : B ≤ B') : SeesQ w B' A n ps :=
  ⟨h.len, fun k p hp => by
    obtain ⟨b, o, Af, nf, cf, h1, h2, h3, h4, h5⟩ := h.at_ k p hp
    exact ⟨b, o, Af, nf, cf, h1, Nat.lt_of_lt_of_le h2 hB, h3, seesV_more h4 hB, h5⟩⟩
def Apart (xs : List Q4) : Prop := xs.Pairwise fun x y => ∀ g, x.v.ownBlock = some g → y.v.ownBlock ≠ some g
/-- The slice is a row of paths of one's own, each a row of one's own. -/
structure OwnQ (w : World) (base : Nat) (A : Option Addr) (n c : Nat) (xs : List Q4) : Prop where
  own : w.ownsRow base 31 1 (.slice A n c) n (qv xs)
  each : ∀ x ∈ xs, w.ownsRow base 9 1 (.slice x.at_ x.n x.c) x.n (strs x.p)
  apart : Apart xs
  off : ∀ x ∈ xs, ∀ g, x.v.ownBlock = some g → (Value.slice A n c).ownBlock ≠ some g
theorem owns_belowD {w w' : World} {base size n c : Nat} {e : TypeId} {A : Option Addr} {vs : List Value} (h : w.ownsRow base e size (.slice A n c) n vs) (hb : Below w.heap.size w w') : w'.ownsRow base e size (.slice A n c) n vs :=
  World.ownsRow.kept h (row := none) ⟨hb.os, hb.tape, hb.output, hb.size, fun i hi _ => hb.block i hi⟩ (by cases hv : (Value.slice A n c).ownBlock <;> simp)
theorem owns_less {w : World} {base base' size n c : Nat} {e : TypeId} {A : Option Addr} {vs : List Value} (h : w.ownsRow base e size (.slice A n c) n vs) (hb : base' ≤ base) : w.ownsRow base' e size (.slice A n c) n vs := by
  obtain ⟨h1, h2⟩ := h
  refine ⟨h1, ?_⟩
  rcases h2 with h2 | ⟨g, cap, cur, e1, hg, hr⟩
  · exact .inl h2
  · exact .inr ⟨g, cap, cur, e1, Nat.le_trans hb hg, hr⟩
section
variable {w w1 w2 w3 W : World} {base n c m c3 : Nat} {A A3 : Option Addr} {xs ys zs : List Q4}
theorem OwnQ.nil (w : World) (base : Nat) : OwnQ w base none 0 0 [] := ⟨World.ownsRow_nil w base _ _, fun _ h => by simp at h, List.Pairwise.nil, fun _ h => by simp at h⟩
theorem OwnQ.len (h : OwnQ w base A n c xs) : n = xs.length := by
  have h1 := h.own.1
  rw [qv, List.length_map] at h1
  omega
theorem OwnQ.cap (h : OwnQ w base A n c xs) : n ≤ c ∧ c ≤ maxLen := own_cap h.own
theorem OwnQ.below (h : OwnQ w base A n c xs) (hb : Below w.heap.size w w1) : OwnQ w1 base A n c xs := ⟨owns_belowD h.own hb, fun x hx => owns_belowD (h.each x hx) hb, h.apart, h.off⟩
theorem OwnQ.less {base' : Nat} (h : OwnQ w base A n c xs) (hb : base' ≤ base) : OwnQ w base' A n c xs := ⟨owns_less h.own hb, fun x hx => owns_less (h.each x hx) hb, h.apart, h.off⟩
theorem OwnQ.sees (h : OwnQ w base A n c xs) : SeesQ w w.heap.size A n (qp xs) := by
  refine ⟨by rw [qp, List.length_map]; exact h.len, fun k p hp => ?_⟩
  rw [qp, List.getElem?_map, Option.map_eq_some_iff] at hp
  obtain ⟨x, hx, rfl⟩ := hp
  obtain ⟨b, o, e, hb, hc⟩ := (own_seesV h.own).cell k x.v (by rw [qv, List.getElem?_map, hx]; rfl)
  have hx2 := h.each x (List.mem_of_getElem? hx)
  obtain ⟨c1, c2⟩ := own_cap hx2
  exact ⟨b, o, x.at_, x.n, x.c, e, hb, hc, own_seesV hx2, c1, c2⟩
theorem OwnQ.push (h : OwnQ w base A n c xs) (hb : Below w.heap.size w w1) (hbase : base ≤ w.heap.size)
    (hy : ∀ y ∈ ys, w1.ownsRow w.heap.size 9 1 (.slice y.at_ y.n y.c) y.n (strs y.p)) (hya : Apart ys)
    (ho : w3.ownsRow base 31 1 (.slice A3 m c3) m (qv xs ++ qv ys)) (hg : w1.grownBy w3 (Value.slice A n c).ownBlock)
    (hat : ∀ a, A3 = some a → w1.heap.size ≤ a.block ∨ some a.block = (Value.slice A n c).ownBlock) : OwnQ w3 base A3 m c3 (xs ++ ys) := by
  have hA : ∀ g, (Value.slice A n c).ownBlock = some g → g < w.heap.size := fun g e => (h.own.lt g e).2
  have hx : ∀ x ∈ xs, ∀ g, x.v.ownBlock = some g → g < w.heap.size := fun x hx g e => ((h.each x hx).lt g e).2
  have hyb : ∀ y ∈ ys, ∀ g, y.v.ownBlock = some g → w.heap.size ≤ g ∧ g < w1.heap.size := fun y hy1 g e => (hy y hy1).lt g e
  have h3 : ∀ g, (Value.slice A3 m c3).ownBlock = some g → w1.heap.size ≤ g ∨ (Value.slice A n c).ownBlock = some g := fun g e => by
    cases A3 with
    | none => cases e
    | some a =>
      have e1 : a.block = g := by injection e
      rcases hat a rfl with h1 | h1
      · exact .inl (by omega)
      · exact .inr (by rw [← h1, e1])
  refine ⟨by rw [qv_append]; exact ho, fun x hx1 => ?_, ?_, fun x hx1 g e e3 => ?_⟩
  · rcases List.mem_append.1 hx1 with hx1 | hx1
    · refine World.ownsRow.kept (owns_belowD (h.each x hx1) hb) hg ?_
      cases hv : (Value.slice x.at_ x.n x.c).ownBlock with
      | none => exact .inl rfl
      | some g => exact .inr fun e => h.off x hx1 g hv e.symm
    · refine World.ownsRow.kept (owns_less (hy x hx1) hbase) hg ?_
      cases hv : (Value.slice x.at_ x.n x.c).ownBlock with
      | none => exact .inl rfl
      | some g =>
        refine .inr fun e => ?_
        have h1 := (hyb x hx1 g hv).1
        have h2 := hA g e.symm
        omega
  · refine List.pairwise_append.2 ⟨h.apart, hya, fun x hx1 y hy1 g e1 e2 => ?_⟩
    have h1 := hx x hx1 g e1
    have h2 := (hyb y hy1 g e2).1
    omega
  · have hs := hb.size
    rcases List.mem_append.1 hx1 with hx1 | hx1
    · have h1 := hx x hx1 g e
      rcases h3 g e3 with h2 | h2
      · omega
      · exact h.off x hx1 g e h2
    · obtain ⟨h1, h1'⟩ := hyb x hx1 g e
      rcases h3 g e3 with h2 | h2
      · omega
      · have := hA g h2; omega
theorem store_own {w : World} {base size n c g p : Nat} {e : TypeId} {xs : List Value} (h : w.ownsRow base e size (.slice (some ⟨g, 0, none⟩) n c) n xs) (u : Value) :
    (w.setCell ⟨g, p, none⟩ u).ownsRow base e size (.slice (some ⟨g, 0, none⟩) n c) n (xs.set p u) := by
  obtain ⟨h1, hr⟩ := h
  refine ⟨by rw [List.length_set]; exact h1, ?_⟩
  rcases hr with ⟨e1, _⟩ | ⟨g', cap, cur, e1, hg, hh, hcap, hmx, hsz, htk⟩
  · cases e1
  · injection e1 with e1 _ e3
    injection e1 with e1
    injection e1 with e1 _ _
    subst e1; subst e3
    refine .inr ⟨g, c, cur.setIfInBounds p u, rfl, hg, ?_, hcap, hmx, by simp [hsz], ?_⟩
    · rw [heap_setCell_same w g p _ _ _ hh]
    · rw [Array.toList_setIfInBounds, List.take_set, htk]
theorem OwnQ.store {g n' c' : Nat} {A' : Option Addr} {x : Q4} {p' : List ByteArray} (h : OwnQ w base (some ⟨g, 0, none⟩) n c (xs ++ x :: zs)) (hW : Below w.heap.size w W)
    (hr : w2.ownsRow base 9 1 (.slice A' n' c') n' (strs p')) (hg : W.grownBy w2 x.v.ownBlock) (hat : ∀ a, A' = some a → W.heap.size ≤ a.block ∨ some a.block = x.v.ownBlock) :
    OwnQ (w2.setCell ⟨g, xs.length, none⟩ (.slice A' n' c')) base (some ⟨g, 0, none⟩) n c (xs ++ ⟨A', n', c', p'⟩ :: zs) := by
  have hx := h.each x (by simp)
  have hox := h.off x (by simp)
  have hgl : g < w.heap.size := (h.own.lt g rfl).2
  have hap := List.pairwise_append.1 h.apart
  have hap2 := List.pairwise_cons.1 hap.2.1
  have hne : ∀ y, (y ∈ xs ∨ y ∈ zs) → ∀ q, y.v.ownBlock = some q → x.v.ownBlock ≠ some q := fun y hy q e e2 => by
    rcases hy with hy | hy
    · exact hap.2.2 y hy x (by simp) q e e2
    · exact hap2.1 y hy q e2 e
  have hmem : ∀ y, (y ∈ xs ∨ y ∈ zs) → y ∈ xs ++ x :: zs := fun y hy => by
    rw [List.mem_append, List.mem_cons]
    exact hy.imp id .inr
  have hlt : ∀ y, (y ∈ xs ∨ y ∈ zs) → ∀ q, y.v.ownBlock = some q → q < w.heap.size := fun y hy q e => ((h.each y (hmem y hy)).lt q e).2
  have hA' : ∀ q, (Value.slice A' n' c').ownBlock = some q → W.heap.size ≤ q ∨ x.v.ownBlock = some q := fun q e => by
    cases A' with
    | none => cases e
    | some a =>
      have e1 : a.block = q := by injection e
      rcases hat a rfl with h1 | h1
      · exact .inl (by omega)
      · exact .inr (by rw [← h1, e1])
  have hsW := hW.size
  have hng : (Value.slice A' n' c').ownBlock ≠ some g := fun e => by
    rcases hA' g e with h1 | h1
    · omega
    · exact hox g h1 rfl
  have hkeep : ∀ y, (y ∈ xs ∨ y ∈ zs) → (w2.setCell ⟨g, xs.length, none⟩ (.slice A' n' c')).ownsRow base 9 1 (.slice y.at_ y.n y.c) y.n (strs y.p) := fun y hy => by
    refine ownsRow_setCell_other (World.ownsRow.kept (owns_belowD (h.each y (hmem y hy)) hW) hg ?_) (show (Value.slice y.at_ y.n y.c).ownBlock ≠ some g from fun e => h.off y (hmem y hy) g e rfl) _
    cases hv : (Value.slice y.at_ y.n y.c).ownBlock with
    | none => exact .inl rfl
    | some q => exact .inr fun e => hne y hy q hv e.symm
  refine ⟨?_, fun y hy => ?_, ?_, fun y hy q e e2 => ?_⟩
  · have h1 : w2.ownsRow base 31 1 (.slice (some ⟨g, 0, none⟩) n c) n (qv (xs ++ x :: zs)) := World.ownsRow.kept (owns_belowD h.own hW) hg (.inr fun e => hox g e.symm rfl)
    have h2 := store_own (p := xs.length) h1 (.slice A' n' c')
    have e : (qv (xs ++ x :: zs)).set xs.length (.slice A' n' c') = qv (xs ++ ⟨A', n', c', p'⟩ :: zs) := by
      rw [qv, qv, List.map_append, List.map_append, List.set_append_right _ _ (by simp)]
      simp [Q4.v]
    rw [e] at h2
    exact h2
  · rw [List.mem_append, List.mem_cons] at hy
    rcases hy with hy | rfl | hy
    · exact hkeep y (.inl hy)
    · exact ownsRow_setCell_other hr hng _
    · exact hkeep y (.inr hy)
  · refine List.pairwise_append.2 ⟨hap.1, List.pairwise_cons.2 ⟨fun y hy q e1 e2 => ?_, hap2.2⟩, fun y hy z hz q e1 e2 => ?_⟩
    · rcases hA' q e1 with h1 | h1
      · have := hlt y (.inr hy) q e2; omega
      · exact hap2.1 y hy q h1 e2
    · rw [List.mem_cons] at hz
      rcases hz with rfl | hz
      · rcases hA' q e2 with h1 | h1
        · have := hlt y (.inl hy) q e1; omega
        · exact hap.2.2 y hy x (by simp) q e1 h1
      · exact hap.2.2 y hy z (by simp [hz]) q e1 e2
  · have eg : g = q := by injection e2
    rw [List.mem_append, List.mem_cons] at hy
    rcases hy with hy | rfl | hy
    · exact h.off y (hmem y (.inl hy)) q e (by rw [← eg]; rfl)
    · exact hng (by rw [eg]; exact e)
    · exact h.off y (hmem y (.inr hy)) q e (by rw [← eg]; rfl)
end
end Go.Proofs.Ytcfaocjgflefmaa.Df
