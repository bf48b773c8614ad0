/- csv: rows of edges, told by their numbers; sorted. No conditions. -/
import Derived.Test.YtlojjmmjmpffnaaGreatDoorCvSort
import Derived.Outline
namespace Go.Proofs.YtlojjmmjmpffnaaGreatDoor.Cv
open Go.RowKit Go.Sort Go.Proofs.YtlojjmmjmpffnaaGreatDoor.Jd Go.Proofs.YtlojjmmjmpffnaaGreatDoor.Li Go.Proofs.YtlojjmmjmpffnaaGreatDoor.Cl
set_option maxRecDepth 100000

/-- The i-th edge's name. -/
def nmE : Tr → Nat → ByteArray
  | .nil, _ => ByteArray.empty
  | .cons s _ _, 0 => s
  | .cons _ _ r, i + 1 => nmE r i
/-- What is below the i-th edge. -/
def kdE : Tr → Nat → Tr
  | .nil, _ => .nil
  | .cons _ k _, 0 => k
  | .cons _ _ r, i + 1 => kdE r i
/-- The slice in the i-th edge's cells. -/
def slE : List Value → Nat → Value
  | _ :: .slice A n c :: _, 0 => .slice A n c
  | _ :: _ :: r, i + 1 => slE r i
  | _, _ => .slice none 0 0
theorem slE_form : ∀ (vs : List Value) (i : Nat), ∃ A n c, slE vs i = .slice A n c
  | vs, i => by
    unfold slE
    split
    · exact ⟨_, _, _, rfl⟩
    · exact slE_form _ _
    · exact ⟨_, _, _, rfl⟩
termination_by vs => vs.length
/-- The edges with these numbers. -/
def ofI (t : Tr) : List Nat → Tr
  | [] => .nil
  | i :: r => .cons (nmE t i) (kdE t i) (ofI t r)
def celI (t : Tr) (vs : List Value) : List Nat → List Value
  | [] => []
  | i :: r => .string (nmE t i) :: slE vs i :: celI t vs r
def encE (t : Tr) (vs : List Value) (i : Nat) : List Value := [.string (nmE t i), slE vs i]
def cfE (t : Tr) (i j : Nat) : Int := Lib.compareBytes (nmE t i).data.toList (nmE t j).data.toList
/-- What inOrder answers. -/
def srtE (t : Tr) : Tr := ofI t (pdq (ltOf (cfE t)) (Array.range t.len) 0 t.len (Lib.bitLen t.len) true true).toList

theorem cmpB_lt : ∀ (a b : List UInt8), Lib.compareBytes a b < 0 ∨ Lib.compareBytes a b = 0 ∧ a = b ∨ 0 < Lib.compareBytes a b
  | [], [] => .inr (.inl ⟨rfl, rfl⟩)
  | [], _ :: _ => .inl (by simp [Lib.compareBytes])
  | _ :: _, [] => .inr (.inr (by simp [Lib.compareBytes]))
  | a :: u, b :: v => by
    rw [Lib.compareBytes]
    split
    · exact .inl (by omega)
    · split
      · exact .inr (.inr (by omega))
      · rename_i h1 h2
        have e : a = b := by
          apply UInt8.toNat_inj.1
          have h1' : ¬ a.toNat < b.toNat := h1
          have h2' : ¬ b.toNat < a.toNat := h2
          omega
        subst e
        rcases cmpB_lt u v with h | ⟨h, h'⟩ | h
        · exact .inl h
        · exact .inr (.inl ⟨h, by rw [h']⟩)
        · exact .inr (.inr h)
theorem cmpB_flip : ∀ (a b : List UInt8), Lib.compareBytes a b = -Lib.compareBytes b a
  | [], [] => rfl
  | [], _ :: _ => rfl
  | _ :: _, [] => rfl
  | a :: u, b :: v => by
    rw [Lib.compareBytes, Lib.compareBytes]
    have hab : a < b ↔ a.toNat < b.toNat := Iff.rfl
    have hba : b < a ↔ b.toNat < a.toNat := Iff.rfl
    by_cases h1 : a < b
    · rw [if_pos h1, if_neg (fun h => by have := hab.1 h1; have := hba.1 h; omega), if_pos h1]
    · rw [if_neg h1]
      by_cases h2 : b < a
      · rw [if_pos h2, if_pos h2]; rfl
      · rw [if_neg h2, if_neg h2, if_neg h1, cmpB_flip u v]
theorem cmpB_trans : ∀ (a b c : List UInt8), Lib.compareBytes a b ≤ 0 → Lib.compareBytes b c ≤ 0 → Lib.compareBytes a c ≤ 0 ∧ (Lib.compareBytes a b < 0 ∨ Lib.compareBytes b c < 0 → Lib.compareBytes a c < 0)
  | [], [], [], _, _ => by simp [Lib.compareBytes]
  | [], [], _ :: _, _, _ => by simp [Lib.compareBytes]
  | [], _ :: _, [], _, h => by simp [Lib.compareBytes] at h
  | [], _ :: _, _ :: _, _, _ => by simp [Lib.compareBytes]
  | _ :: _, [], _, h, _ => by simp [Lib.compareBytes] at h
  | _ :: _, _ :: _, [], _, h => by simp [Lib.compareBytes] at h
  | a :: u, b :: v, c :: z, h1, h2 => by
    rw [Lib.compareBytes] at h1 h2 ⊢
    rw [Lib.compareBytes, Lib.compareBytes]
    have hab : a < b ↔ a.toNat < b.toNat := Iff.rfl
    have hba : b < a ↔ b.toNat < a.toNat := Iff.rfl
    have hbc : b < c ↔ b.toNat < c.toNat := Iff.rfl
    have hcb : c < b ↔ c.toNat < b.toNat := Iff.rfl
    have hac : a < c ↔ a.toNat < c.toNat := Iff.rfl
    have hca : c < a ↔ c.toNat < a.toNat := Iff.rfl
    have ih := cmpB_trans u v z
    split at h1
    · rename_i x1
      split at h2
      · rename_i x2
        rw [if_pos (hac.2 (by have := hab.1 x1; have := hbc.1 x2; omega))]; omega
      · split at h2
        · omega
        · rename_i x2 x3
          have : ¬ b.toNat < c.toNat := x2
          have : ¬ c.toNat < b.toNat := x3
          rw [if_pos (hac.2 (by have := hab.1 x1; omega))]; omega
    · split at h1
      · omega
      · rename_i x1 x2
        have y1 : ¬ a.toNat < b.toNat := x1
        have y2 : ¬ b.toNat < a.toNat := x2
        split at h2
        · rename_i x3
          rw [if_pos (hac.2 (by have := hbc.1 x3; omega))]; omega
        · split at h2
          · omega
          · rename_i x3 x4
            have y3 : ¬ b.toNat < c.toNat := x3
            have y4 : ¬ c.toNat < b.toNat := x4
            rw [if_neg x1, if_neg x2, if_neg x3, if_neg x4, if_neg (fun h => by have := hac.1 h; omega), if_neg (fun h => by have := hca.1 h; omega)]
            exact ih h1 h2
theorem ltE (t : Tr) (x y : Nat) : ltOf (cfE t) x y = decide (Lib.compareBytes (nmE t x).data.toList (nmE t y).data.toList < 0) := rfl
theorem swoE (t : Tr) : SWO (ltOf (cfE t)) where
  irrefl x := by
    have h := cmpB_flip (nmE t x).data.toList (nmE t x).data.toList
    rw [ltE]
    exact decide_eq_false (by omega)
  trans x y z h1 h2 := by
    rw [ltE] at *
    have h1 := of_decide_eq_true h1
    have h2 := of_decide_eq_true h2
    exact decide_eq_true ((cmpB_trans (nmE t x).data.toList (nmE t y).data.toList (nmE t z).data.toList (by omega) (by omega)).2 (.inl h1))
  ntrans x y z h1 h2 := by
    rw [ltE] at *
    have h1 := of_decide_eq_false h1
    have h2 := of_decide_eq_false h2
    have a := cmpB_flip (nmE t x).data.toList (nmE t y).data.toList
    have b := cmpB_flip (nmE t y).data.toList (nmE t z).data.toList
    have c := cmpB_flip (nmE t x).data.toList (nmE t z).data.toList
    have d := (cmpB_trans (nmE t z).data.toList (nmE t y).data.toList (nmE t x).data.toList (by omega) (by omega)).1
    exact decide_eq_false (by omega)

theorem celI_len (t : Tr) (vs : List Value) : ∀ is : List Nat, (celI t vs is).length = is.length * 2
  | [] => rfl
  | _ :: r => by simp only [celI, List.length_cons, celI_len t vs r]; omega
theorem celI_get (t : Tr) (vs : List Value) : ∀ (is : List Nat) (j : Nat), j < is.length * 2 → (celI t vs is)[j]? = some ((encE t vs (is[j / 2]!))[j % 2]!)
  | [], j, h => by simp at h
  | i :: r, 0, _ => rfl
  | i :: r, 1, _ => rfl
  | i :: r, j + 2, h => by
    have h' : j < r.length * 2 := by simp only [List.length_cons] at h; omega
    have e := celI_get t vs r j h'
    rw [show (j + 2) / 2 = j / 2 + 1 by omega, show (j + 2) % 2 = j % 2 by omega]
    simpa [celI] using e
theorem flatE (t : Tr) (vs : List Value) (d : Array Nat) : (flatK (encE t vs) 2 d).toList = celI t vs d.toList := by
  apply List.ext_getElem?
  intro j
  by_cases h : j < d.size * 2
  · rw [celI_get t vs _ j (by simpa using h), Array.getElem?_toList]
    have e := get_flatK (encE t vs) 2 d j h
    rw [getElem!_pos _ j (by simpa using h)] at e
    rw [Array.getElem?_eq_getElem (by simpa using h), e]
    congr 3
    have h2 : j / 2 < d.size := by omega
    rw [getElem!_pos d _ h2, getElem!_pos d.toList _ (by simpa using h2)]
    simp
  · rw [List.getElem?_eq_none (by simp; omega), List.getElem?_eq_none (by rw [celI_len]; simp; omega)]
section
variable {w w' : World} {P : Nat → Prop}
theorem rowP_at : ∀ {vs : List Value} {t : Tr} {i : Nat}, RowP w P vs t → i < t.len → ∃ A n c, slE vs i = .slice A n c ∧ n ≤ c ∧ c ≤ maxLen ∧ HoldsP w P A n (kdE t i)
  | [], .nil, i, _, h => by simp [Tr.len] at h
  | .string _ :: .slice A n c :: vs, .cons _ _ r, 0, ⟨_, h2, h3, h4, _⟩, _ => ⟨A, n, c, rfl, h2, h3, h4⟩
  | .string _ :: .slice A n c :: vs, .cons _ _ r, i + 1, ⟨_, _, _, _, h5⟩, h => by
    have := rowP_at (i := i) h5 (by simp only [Tr.len] at h; omega)
    simpa [slE, kdE] using this
theorem rowP_ofI {vs : List Value} {t : Tr} (h : RowP w P vs t) : ∀ {is : List Nat}, (∀ i ∈ is, i < t.len) → RowP w P (celI t vs is) (ofI t is)
  | [], _ => trivial
  | i :: r, hi => by
    obtain ⟨A, n, c, e, h1, h2, h3⟩ := rowP_at h (hi i (by simp))
    rw [celI, ofI, e]
    exact ⟨rfl, h1, h2, h3, rowP_ofI h (fun j hj => hi j (by simp [hj]))⟩
theorem rowP_cel : ∀ {vs : List Value} {t : Tr}, RowP w P vs t → ∀ (j : Nat), j < t.len * 2 → vs[j]? = some ((encE t vs (j / 2))[j % 2]!)
  | [], .nil, _, j, h => by simp [Tr.len] at h
  | .string s :: .slice A n c :: vs, .cons s' _ r, h0, 0, h => by obtain ⟨rfl, _⟩ := h0; rfl
  | .string s :: .slice A n c :: vs, .cons s' _ r, h0, 1, h => rfl
  | .string s :: .slice A n c :: vs, .cons s' _ r, h0, j + 2, h => by
    obtain ⟨_, _, _, _, h5⟩ := h0
    have := rowP_cel h5 j (by simp only [Tr.len] at h; omega)
    rw [show (j + 2) / 2 = j / 2 + 1 by omega, show (j + 2) % 2 = j % 2 by omega]
    simpa [encE, nmE, slE] using this
end
end Go.Proofs.YtlojjmmjmpffnaaGreatDoor.Cv
