/- csv: what a file is read as (read), and loaded as (Load). Conditions: texts of ASCII bytes in its fields; MaxLen's cell. -/
import Derived.Test.YtapgaglkkgbgkaaGreatDoorMwCvGrow
import Derived.Test.YtapgaglkkgbgkaaGreatDoorMwLiSplit
import Derived.Deep.RegionWith
import Derived.Deep.CutRange
import Derived.Outline
namespace Go.Proofs.YtapgaglkkgbgkaaGreatDoor.Cv
open Go.RowKit Go.Proofs.YtapgaglkkgbgkaaGreatDoor.Jd Go.Proofs.YtapgaglkkgbgkaaGreatDoor.Li Go.Proofs.YtapgaglkkgbgkaaGreatDoor.Cl
set_option maxRecDepth 100000

section
variable {w w' : World} {g : Nat} {a b c d : Value}
end
structure SeesRP (w : World) (P : Nat → Prop) (A : Option Addr) (n : Nat) (rs : List Rw) : Prop where
  len : n = rs.length
  at_ : ∀ (k : Nat) (r : Rw), rs[k]? = some r → ∃ b o Af nf cf, A = some ⟨b, o, none⟩ ∧ P b ∧ w.cell? ⟨b, o + k * 2, none⟩ = some (.slice Af nf cf) ∧ w.cell? ⟨b, o + k * 2 + 1, none⟩ = some (.string r.en) ∧ SeesLP w P Af nf r.fs ∧ nf ≤ cf ∧ cf ≤ maxLen
section
variable {w w' : World} {P P' : Nat → Prop} {n : Nat} {A : Option Addr} {rs : List Rw}
theorem SeesRP.keep (h : SeesRP w P A n rs) (hk : ∀ b o, P b → w'.cell? ⟨b, o, none⟩ = w.cell? ⟨b, o, none⟩) : SeesRP w' P A n rs :=
  ⟨h.len, fun k r hr => by
    obtain ⟨b, o, Af, nf, cf, h1, h2, h3, h4, h5, h6⟩ := h.at_ k r hr
    exact ⟨b, o, Af, nf, cf, h1, h2, (hk b _ h2).trans h3, (hk b _ h2).trans h4, h5.keep hk, h6⟩⟩
theorem SeesRP.more (h : SeesRP w P A n rs) (hP : ∀ b, P b → P' b) : SeesRP w P' A n rs :=
  ⟨h.len, fun k r hr => by
    obtain ⟨b, o, Af, nf, cf, h1, h2, h3, h4, h5, h6⟩ := h.at_ k r hr
    exact ⟨b, o, Af, nf, cf, h1, hP b h2, h3, h4, h5.more hP, h6⟩⟩
theorem SeesRP.sees {B : Nat} (h : SeesRP w P A n rs) (hP : ∀ b, P b → b < B) : SeesR w B A n rs :=
  ⟨h.len, fun k r hr => by
    obtain ⟨b, o, Af, nf, cf, h1, h2, h3, h4, h5, h6⟩ := h.at_ k r hr
    exact ⟨b, o, Af, nf, cf, h1, hP b h2, h3, h4, h5.sees hP, h6⟩⟩
theorem SeesRP.rest {b o : Nat} {r : Rw} (h : SeesRP w P (some ⟨b, o, none⟩) n (r :: rs)) (c : Nat) (hc : n ≤ c) : SeesRP w P (some (if c = 1 then ⟨b, o, none⟩ else ⟨b, o + 2, none⟩)) (n - 1) rs := by
  have hl := h.len
  simp only [List.length_cons] at hl
  by_cases h1 : c = 1
  · rw [if_pos h1]
    have hl : rs = [] := List.eq_nil_of_length_eq_zero (by omega)
    subst hl
    exact ⟨by simp; omega, fun k r hr => by simp at hr⟩
  · rw [if_neg h1]
    refine ⟨by omega, fun k x hx => ?_⟩
    obtain ⟨b', o', Af, nf, cf, h1, h2, h3, h4, h5⟩ := h.at_ (k + 1) x (by simpa using hx)
    injection h1 with h1
    injection h1 with e1 e2
    subst e1; subst e2
    exact ⟨_, _, Af, nf, cf, rfl, h2, by rw [show o + 2 + k * 2 = o + (k + 1) * 2 by omega]; exact h3, by rw [show o + 2 + k * 2 + 1 = o + (k + 1) * 2 + 1 by omega]; exact h4, h5⟩
end

structure Rd (w : World) (base : Nat) (rs : List Rw) (o : Tr × Nat × Int) (Ah Ar At : Option Addr) (nh ch nr cr ct : Nat) (ee : ByteArray) : Prop where
  tree : HoldsP w (fun b => base ≤ b ∧ b < w.heap.size) At o.1.len o.1
  cap : o.1.len ≤ ct ∧ ct ≤ maxLen
  rows : o.2.2 = 0 → ∃ h t, rs = h :: t ∧ ee = h.en ∧ nh ≤ ch ∧ ch ≤ maxLen ∧ nr ≤ cr ∧ cr ≤ maxLen ∧ SeesLP w (fun b => base ≤ b ∧ b < w.heap.size) Ah nh h.fs ∧ SeesRP w (fun b => base ≤ b ∧ b < w.heap.size) Ar nr t
theorem Rd.none_ (w : World) (base : Nat) (rs : List Rw) (i : Nat) (e : Int) (he : e ≠ 0) : Rd w base rs (.nil, i, e) none none none 0 0 0 0 0 ⟨#[]⟩ :=
  ⟨rfl, ⟨Nat.le_refl _, by simp [maxLen]⟩, fun h => absurd h he⟩
theorem Rd.below {w w' : World} {base : Nat} {rs : List Rw} {o : Tr × Nat × Int} {Ah Ar At : Option Addr} {nh ch nr cr ct : Nat} {ee : ByteArray} (h : Rd w base rs o Ah Ar At nh ch nr cr ct ee) (hb : Below w.heap.size w w') : Rd w' base rs o Ah Ar At nh ch nr cr ct ee :=
  ⟨(h.tree.keep (w' := w') fun b o hb1 => hb.cell (p := ⟨b, o, none⟩) hb1.2).more fun b hb1 => ⟨hb1.1, Nat.lt_of_lt_of_le hb1.2 hb.size⟩, h.cap, fun h0 => by
    obtain ⟨x, t, h1, h2, h3, h4, h5, h6, h7, h8⟩ := h.rows h0
    exact ⟨x, t, h1, h2, h3, h4, h5, h6, (h7.keep (w' := w') fun b o hb1 => hb.cell (p := ⟨b, o, none⟩) hb1.2).more (fun b hb1 => ⟨hb1.1, Nat.lt_of_lt_of_le hb1.2 hb.size⟩), (h8.keep (w' := w') fun b o hb1 => hb.cell (p := ⟨b, o, none⟩) hb1.2).more (fun b hb1 => ⟨hb1.1, Nat.lt_of_lt_of_le hb1.2 hb.size⟩)⟩⟩
end Go.Proofs.YtapgaglkkgbgkaaGreatDoor.Cv
