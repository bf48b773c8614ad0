/- merge's laws: what is told, name by name; values as texts. No conditions. -/
import Derived.Test.YtchoipmfngcdoaaMgRowW
namespace Go.Proofs.Ytchoipmfngcdoaa.Mg
open Go.RowKit Go.Proofs.Ytchoipmfngcdoaa.Pt Go.Proofs.Ytchoipmfngcdoaa.Df Go.Proofs.Ytchoipmfngcdoaa.Sc Go.Proofs.Ytchoipmfngcdoaa.Cl
set_option maxRecDepth 100000

theorem side_succ {f g h : Nat → Nat} {k : Nat} {s : ByteArray} (hs : nm3[k]? = some s) : sideL f g h (k + 1) = sideL f g h k ++ tl s (tld (f k) (g k) (h k)) := by
  show sideL f g h k ++ (match nm3[k]? with | some s => tl s (tld (f k) (g k) (h k)) | none => []) = _
  rw [hs]
theorem side_pre {f g h : Nat → Nat} {k : Nat} (hk : k ≤ 3) : ∃ r, sideL f g h 3 = sideL f g h k ++ r := by
  rcases (show k = 3 ∨ k = 2 ∨ k = 1 ∨ k = 0 by omega) with rfl | rfl | rfl | rfl
  · exact ⟨[], by rw [List.append_nil]⟩
  · exact ⟨_, side_succ rfl⟩
  · exact ⟨_, by rw [side_succ (k := 2) rfl, side_succ (k := 1) rfl, List.append_assoc]⟩
  · exact ⟨_, rfl⟩
theorem side_at {f g h : Nat → Nat} {k : Nat} {s : ByteArray} {kd : Int} (hk : k < 3) (hs : nm3[k]? = some s) (ht : tld (f k) (g k) (h k) = some kd) : (sideL f g h 3)[(sideL f g h k).length]? = some ([s], kd) := by
  obtain ⟨r, hr⟩ := side_pre (f := f) (g := g) (h := h) (show k + 1 ≤ 3 by omega)
  rw [hr, side_succ hs, ht, List.append_assoc]
  rw [List.getElem?_append_right (Nat.le_refl _), Nat.sub_self]
  rfl
theorem side_len {f g h : Nat → Nat} {k : Nat} {s : ByteArray} {o : Option Int} (hs : nm3[k]? = some s) (ht : tld (f k) (g k) (h k) = o) : (sideL f g h (k + 1)).length = (sideL f g h k).length + (tl s o).length := by
  rw [side_succ hs, List.length_append]
  rw [ht]
theorem side_le {f g h : Nat → Nat} : (sideL f g h 3).length ≤ 3 := by
  rw [side_succ (k := 2) rfl, side_succ (k := 1) rfl, side_succ (k := 0) rfl, List.length_append, List.length_append, List.length_append]
  have : ∀ (s : ByteArray) (o : Option Int), (tl s o).length ≤ 1 := fun s o => by cases o <;> simp [tl]
  have h1 := this ⟨#[97]⟩ (tld (f 0) (g 0) (h 0))
  have h2 := this ⟨#[98]⟩ (tld (f 1) (g 1) (h 1))
  have h3 := this ⟨#[99]⟩ (tld (f 2) (g 2) (h 2))
  simp only [sideL, List.length_nil]
  omega
theorem vS_same (k : Nat) : ((vS k).toList == (vS k).toList) = true := beq_self_eq_true _
theorem vS_ne {p q : Nat} (hp : p < 4) (hq : q < 4) (h : p ≠ q) : ((vS p).toList == (vS q).toList) = false := by
  rcases (show p = 0 ∨ p = 1 ∨ p = 2 ∨ p = 3 by omega) with rfl | rfl | rfl | rfl <;> rcases (show q = 0 ∨ q = 1 ∨ q = 2 ∨ q = 3 by omega) with rfl | rfl | rfl | rfl <;> first | exact absurd rfl h | (rw [ByteArray.toList_eq, ByteArray.toList_eq]; decide)
theorem vS_no {q : Nat} (hq : q < 4) (h : q ≠ 0) : ((vS q).toList == []) = false := by
  rcases (show q = 0 ∨ q = 1 ∨ q = 2 ∨ q = 3 by omega) with rfl | rfl | rfl | rfl <;> first | exact absurd rfl h | (rw [ByteArray.toList_eq]; decide)
theorem vS_zero : ((vS 0).toList == []) = true := by rw [ByteArray.toList_eq]; decide
end Go.Proofs.Ytchoipmfngcdoaa.Mg
