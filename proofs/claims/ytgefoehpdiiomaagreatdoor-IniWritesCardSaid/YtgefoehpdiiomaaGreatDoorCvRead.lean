/- csv: what a file is read as (read), and loaded as (Load). Conditions: texts of ASCII bytes in its fields; MaxLen's cell. -/
import Derived.Test.YtgefoehpdiiomaaGreatDoorMwCvOrdM
import Derived.Test.YtgefoehpdiiomaaGreatDoorMwLiSplit
import Derived.Deep.RegionWith
import Derived.Deep.CutRange
import Derived.Outline
namespace Go.Proofs.YtgefoehpdiiomaaGreatDoor.Cv
open Go.RowKit Go.Proofs.YtgefoehpdiiomaaGreatDoor.Jd Go.Proofs.YtgefoehpdiiomaaGreatDoor.Li Go.Proofs.YtgefoehpdiiomaaGreatDoor.Cl
set_option maxRecDepth 100000

section
variable {w w' : World} {g : Nat} {a b c d : Value}
end
theorem below4 {B : Nat} {w w' : World} {g : Nat} (h : Below B w w') (hg : B ≤ g) (x0 x1 x2 x3 : Value) : Below B w ((((w'.setCell ⟨g, 0, none⟩ x0).setCell ⟨g, 1, none⟩ x1).setCell ⟨g, 2, none⟩ x2).setCell ⟨g, 3, none⟩ x3) :=
  (((h.setCell (p := ⟨g, 0, none⟩) hg x0).setCell (p := ⟨g, 1, none⟩) hg x1).setCell (p := ⟨g, 2, none⟩) hg x2).setCell (p := ⟨g, 3, none⟩) hg x3
theorem far4 {w : World} {g b o : Nat} (x0 x1 x2 x3 : Value) (h : b ≠ g) : ((((w.setCell ⟨g, 0, none⟩ x0).setCell ⟨g, 1, none⟩ x1).setCell ⟨g, 2, none⟩ x2).setCell ⟨g, 3, none⟩ x3).cell? ⟨b, o, none⟩ = w.cell? ⟨b, o, none⟩ := by
  rw [World.cell?_setCell_far _ _ _ _ (by simpa using Ne.symm h), World.cell?_setCell_far _ _ _ _ (by simpa using Ne.symm h), World.cell?_setCell_far _ _ _ _ (by simpa using Ne.symm h), World.cell?_setCell_far _ _ _ _ (by simpa using Ne.symm h)]
theorem size4 {w : World} {g : Nat} (x0 x1 x2 x3 : Value) : ((((w.setCell ⟨g, 0, none⟩ x0).setCell ⟨g, 1, none⟩ x1).setCell ⟨g, 2, none⟩ x2).setCell ⟨g, 3, none⟩ x3).heap.size = w.heap.size := by simp [World.setCell]

/-- The slice holds these rows, in blocks that P picks. -/
structure SeesRP (w : World) (P : Nat → Prop) (A : Option Addr) (n : Nat) (rs : List Rw) : Prop where
  len : n = rs.length
  at_ : ∀ (k : Nat) (r : Rw), rs[k]? = some r → ∃ b o Af nf cf, A = some ⟨b, o, none⟩ ∧ P b ∧ w.cell? ⟨b, o + k * 2, none⟩ = some (.slice Af nf cf) ∧ w.cell? ⟨b, o + k * 2 + 1, none⟩ = some (.string r.en) ∧ SeesLP w P Af nf r.fs ∧ nf ≤ cf ∧ cf ≤ maxLen
section
variable {w w' : World} {P P' : Nat → Prop} {n : Nat} {A : Option Addr} {rs : List Rw}
theorem SeesRP.keep (h : SeesRP w P A n rs) (hk : ∀ b o, P b → w'.cell? ⟨b, o, none⟩ = w.cell? ⟨b, o, none⟩) : SeesRP w' P A n rs :=
  ⟨h.len, fun k r hr => by
    obtain ⟨b, o, Af, nf, cf, h1, h2, h3, h4, h5, h6⟩ := h.at_ k r hr
    exact ⟨b, o, Af, nf, cf, h1, h2, (hk b _ h2).trans h3, (hk b _ h2).trans h4, h5.keep hk, h6⟩⟩
theorem SeesRP.more (h : SeesRP w P A n rs) (hP : ∀ b, P b → P' b) : SeesRP w P' A n rs :=
  ⟨h.len, fun k r hr => by
    obtain ⟨b, o, Af, nf, cf, h1, h2, h3, h4, h5, h6⟩ := h.at_ k r hr
    exact ⟨b, o, Af, nf, cf, h1, hP b h2, h3, h4, h5.more hP, h6⟩⟩
theorem SeesRP.sees {B : Nat} (h : SeesRP w P A n rs) (hP : ∀ b, P b → b < B) : SeesR w B A n rs :=
  ⟨h.len, fun k r hr => by
    obtain ⟨b, o, Af, nf, cf, h1, h2, h3, h4, h5, h6⟩ := h.at_ k r hr
    exact ⟨b, o, Af, nf, cf, h1, hP b h2, h3, h4, h5.sees hP, h6⟩⟩
theorem SeesRP.rest {b o : Nat} {r : Rw} (h : SeesRP w P (some ⟨b, o, none⟩) n (r :: rs)) (c : Nat) (hc : n ≤ c) : SeesRP w P (some (if c = 1 then ⟨b, o, none⟩ else ⟨b, o + 2, none⟩)) (n - 1) rs := by
  have hl := h.len
  simp only [List.length_cons] at hl
  by_cases h1 : c = 1
  · rw [if_pos h1]
    have hl : rs = [] := List.eq_nil_of_length_eq_zero (by omega)
    subst hl
    exact ⟨by simp; omega, fun k r hr => by simp at hr⟩
  · rw [if_neg h1]
    refine ⟨by omega, fun k x hx => ?_⟩
    obtain ⟨b', o', Af, nf, cf, h1, h2, h3, h4, h5⟩ := h.at_ (k + 1) x (by simpa using hx)
    injection h1 with h1
    injection h1 with e1 e2
    subst e1; subst e2
    exact ⟨_, _, Af, nf, cf, rfl, h2, by rw [show o + 2 + k * 2 = o + (k + 1) * 2 by omega]; exact h3, by rw [show o + 2 + k * 2 + 1 = o + (k + 1) * 2 + 1 by omega]; exact h4, h5⟩
end

/-- What was read: the rows, the tree that they say. -/
structure Rd (w : World) (base : Nat) (rs : List Rw) (o : Tr × Nat × Int) (Ah Ar At : Option Addr) (nh ch nr cr ct : Nat) (ee : ByteArray) : Prop where
  tree : HoldsP w (fun b => base ≤ b ∧ b < w.heap.size) At o.1.len o.1
  cap : o.1.len ≤ ct ∧ ct ≤ maxLen
  rows : o.2.2 = 0 → ∃ h t, rs = h :: t ∧ ee = h.en ∧ nh ≤ ch ∧ ch ≤ maxLen ∧ nr ≤ cr ∧ cr ≤ maxLen ∧ SeesLP w (fun b => base ≤ b ∧ b < w.heap.size) Ah nh h.fs ∧ SeesRP w (fun b => base ≤ b ∧ b < w.heap.size) Ar nr t
theorem Rd.none_ (w : World) (base : Nat) (rs : List Rw) (i : Nat) (e : Int) (he : e ≠ 0) : Rd w base rs (.nil, i, e) none none none 0 0 0 0 0 ⟨#[]⟩ :=
  ⟨rfl, ⟨Nat.le_refl _, by simp [maxLen]⟩, fun h => absurd h he⟩
theorem Rd.below {w w' : World} {base : Nat} {rs : List Rw} {o : Tr × Nat × Int} {Ah Ar At : Option Addr} {nh ch nr cr ct : Nat} {ee : ByteArray} (h : Rd w base rs o Ah Ar At nh ch nr cr ct ee) (hb : Below w.heap.size w w') : Rd w' base rs o Ah Ar At nh ch nr cr ct ee :=
  ⟨(h.tree.keep (w' := w') fun b o hb1 => hb.cell (p := ⟨b, o, none⟩) hb1.2).more fun b hb1 => ⟨hb1.1, Nat.lt_of_lt_of_le hb1.2 hb.size⟩, h.cap, fun h0 => by
    obtain ⟨x, t, h1, h2, h3, h4, h5, h6, h7, h8⟩ := h.rows h0
    exact ⟨x, t, h1, h2, h3, h4, h5, h6, (h7.keep (w' := w') fun b o hb1 => hb.cell (p := ⟨b, o, none⟩) hb1.2).more (fun b hb1 => ⟨hb1.1, Nat.lt_of_lt_of_le hb1.2 hb.size⟩), (h8.keep (w' := w') fun b o hb1 => hb.cell (p := ⟨b, o, none⟩) hb1.2).more (fun b hb1 => ⟨hb1.1, Nat.lt_of_lt_of_le hb1.2 hb.size⟩)⟩⟩
/-- What is answered. -/
def RdP (w : World) (rs : List Rw) (o : Tr × Nat × Int) (en : Ending) (w' : World) : Prop :=
  ∃ Ah Ar At nh ch nr cr ct ee, en = .returned (.tuple #[.agg #[.slice Ah nh ch, .string ee, .slice Ar nr cr, .slice At o.1.len ct], .int .i64 (o.2.1 : Nat), .int .i64 o.2.2]) ∧ Rd w' w.heap.size rs o Ah Ar At nh ch nr cr ct ee ∧ Below w.heap.size w w'

/-- A world that reads as another, but for one block. -/
theorem rd_fin {w5 w6 : World} {base : Nat} {h : Rw} {t : List Rw} {T : Tr} {Af Ar At : Option Addr} {nf cf nr cr ct : Nat} (h1 : HoldsP w5 (fun b => base < b ∧ b < w5.heap.size) At T.len T) (h2 : T.len ≤ ct ∧ ct ≤ maxLen) (h3 : nf ≤ cf ∧ cf ≤ maxLen) (h4 : nr ≤ cr ∧ cr ≤ maxLen) (h5 : SeesLP w5 (fun b => base < b ∧ b < w5.heap.size) Af nf h.fs) (h6 : SeesRP w5 (fun b => base < b ∧ b < w5.heap.size) Ar nr t) (hb : Below w5.heap.size w5 w6) (x0 x1 x2 x3 : Value) :
    Rd ((((w6.setCell ⟨base, 0, none⟩ x0).setCell ⟨base, 1, none⟩ x1).setCell ⟨base, 2, none⟩ x2).setCell ⟨base, 3, none⟩ x3) base (h :: t) (T, 0, 0) Af Ar At nf cf nr cr ct h.en := by
  have hk : ∀ b o, (base < b ∧ b < w5.heap.size) → ((((w6.setCell ⟨base, 0, none⟩ x0).setCell ⟨base, 1, none⟩ x1).setCell ⟨base, 2, none⟩ x2).setCell ⟨base, 3, none⟩ x3).cell? ⟨b, o, none⟩ = w5.cell? ⟨b, o, none⟩ := fun b o hb1 => (far4 x0 x1 x2 x3 (by omega)).trans (hb.cell (p := ⟨b, o, none⟩) hb1.2)
  have hm : ∀ b, (base < b ∧ b < w5.heap.size) → base ≤ b ∧ b < ((((w6.setCell ⟨base, 0, none⟩ x0).setCell ⟨base, 1, none⟩ x1).setCell ⟨base, 2, none⟩ x2).setCell ⟨base, 3, none⟩ x3).heap.size := fun b hb1 => ⟨by omega, by rw [size4]; exact Nat.lt_of_lt_of_le hb1.2 hb.size⟩
  exact ⟨(h1.keep hk).more hm, h2, fun _ => ⟨h, t, rfl, rfl, h3.1, h3.2, h4.1, h4.2, (h5.keep hk).more hm, (h6.keep hk).more hm⟩⟩

end Go.Proofs.YtgefoehpdiiomaaGreatDoor.Cv
