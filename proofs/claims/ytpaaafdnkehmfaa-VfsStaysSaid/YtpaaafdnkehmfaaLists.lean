/- Slices of one-cell elements (ints, strings) that came in, seen as lists; opened as arguments. -/
import Derived.Test.YtpaaafdnkehmfaaOpen
namespace Go.Proofs.Ytpaaafdnkehmfaa
set_option maxRecDepth 100000
open Go.ChangeShapes Go.WideShapes Go.ChangeAt Go.RowKit

/-- The slice with address A and n elements of one cell holds the values vs, below block B. -/
structure SeesV (w : World) (B : Nat) (A : Option Addr) (n : Nat) (vs : List Value) : Prop where
  len : n = vs.length
  cell : ∀ (j : Nat) (u : Value), vs[j]? = some u → ∃ b o, A = some ⟨b, o, none⟩ ∧ b < B ∧ w.cell? ⟨b, o + j, none⟩ = some u
theorem SeesV.keep {w w' : World} {B n : Nat} {A : Option Addr} {vs : List Value} (h : SeesV w B A n vs) (hk : ∀ p : Addr, p.block < B → w'.cell? p = w.cell? p) : SeesV w' B A n vs :=
  ⟨h.len, fun j u hu => by
    obtain ⟨b, o, ha, hb, hc⟩ := h.cell j u hu
    exact ⟨b, o, ha, hb, (hk _ hb).trans hc⟩⟩
theorem SeesV.below {w w' : World} {B n : Nat} {A : Option Addr} {vs : List Value} (h : SeesV w B A n vs) (hb : Below B w w') : SeesV w' B A n vs := h.keep fun _ hp => hb.cell hp
theorem SeesV.int {w : World} {B n j : Nat} {A : Option Addr} {l : List Int} (h : SeesV w B A n (l.map (Value.int .i64))) (hj : j < n) : ∃ b o, A = some ⟨b, o, none⟩ ∧ b < B ∧ w.cell? ⟨b, o + j, none⟩ = some (.int .i64 (l.getD j 0)) := by
  have hl : j < l.length := by rw [h.len, List.length_map] at hj; exact hj
  refine h.cell j _ ?_
  simp [List.getD, List.getElem?_eq_getElem hl]
theorem SeesV.str {w : World} {B n j : Nat} {A : Option Addr} {l : List ByteArray} (h : SeesV w B A n (l.map Value.string)) (hj : j < n) : ∃ b o, A = some ⟨b, o, none⟩ ∧ b < B ∧ w.cell? ⟨b, o + j, none⟩ = some (.string (l.getD j ⟨#[]⟩)) := by
  have hl : j < l.length := by rw [h.len, List.length_map] at hj; exact hj
  refine h.cell j _ ?_
  simp [List.getD, List.getElem?_eq_getElem hl]

theorem cells_i64 : Try.prog.cellsOf 3 = 1 := by kernel_rfl
theorem plain_addr {w : World} {a : Addr} {v : Value} (h : w.cell? (a.add 0) = some v) : a.spot = none := by simpa [Addr.add] using World.cell?_spot h

section
variable {H : Type} {enc : TypeId × Value → H}
theorem open_ints_ {W : World} {base : Nat} {v : Value} {d : DataW H} {p : List MemPlace} (hval : Value.okWide Try.prog W .any base 26 v) (h : DataW.Trod enc Try.prog W 0 (fun _ => true) true 26 v d p) :
    ∃ (A : Option Addr) (n c : Nat) (l : List Int), v = .slice A n c ∧ (SeesV W W.heap.size A n (l.map (Value.int .i64)) ∧ ∀ x ∈ l, -9223372036854775808 ≤ x ∧ x ≤ 9223372036854775807) ∧ n ≤ c ∧ c ≤ maxLen := by
  obtain ⟨a1, len, cap, rfl⟩ := okWide_slice Try.underlying26 hval
  obtain ⟨fuel, hf⟩ := h
  rcases open_ints Try.underlying26 Try.underlying3 cells_i64 hf with ⟨hcs, _⟩ | ⟨a, len', cap', zs, hcs, _, hl, hm, hz, _, hcell, hwz⟩
  · simp [Value.cells] at hcs
    obtain ⟨rfl, rfl, rfl⟩ := hcs
    exact ⟨none, 0, 0, [], rfl, ⟨⟨rfl, fun j u h => by simp at h⟩, fun x hx => by cases hx⟩, Nat.le_refl _, Nat.zero_le _⟩
  · simp [Value.cells] at hcs
    obtain ⟨rfl, rfl, rfl⟩ := hcs
    simp only [if_true] at hz
    refine ⟨some a, len, cap, zs.take len, rfl, ⟨⟨by simp; omega, fun j u hu => ?_⟩, fun x hx => ?_⟩, hl, hm⟩
    · have hj : j < len := by
        rcases Nat.lt_or_ge j len with g | g
        · exact g
        · rw [List.getElem?_eq_none (by simp; omega)] at hu; cases hu
      have hcj := hcell j (by omega)
      have hsp := plain_addr (hcell 0 (by omega))
      obtain ⟨ab, ao, sp⟩ := a
      simp only at hsp
      subst hsp
      have hjz : j < zs.length := by omega
      have e : zs.getD j 0 = zs[j] := by simp [List.getD, List.getElem?_eq_getElem hjz]
      rw [List.getElem?_map, List.getElem?_take_of_lt hj, List.getElem?_eq_getElem hjz] at hu
      simp only [Option.map_some, Option.some.injEq] at hu
      subst hu
      rw [Addr.add_lit, e] at hcj
      exact ⟨ab, ao, rfl, block_lt hcj, hcj⟩
    · have hw := hwz x (List.mem_of_mem_take hx)
      simpa [Lit.wf, IntKind.min, IntKind.max, IntKind.signed, IntKind.bits] using hw
theorem cells_str : Try.prog.cellsOf 9 = 1 := by kernel_rfl
theorem open_strs_ {W : World} {base : Nat} {v : Value} {d : DataW H} {p : List MemPlace} (hval : Value.okWide Try.prog W .any base 42 v) (h : DataW.Trod enc Try.prog W 0 (fun _ => true) true 42 v d p) :
    ∃ (A : Option Addr) (n c : Nat) (l : List ByteArray), v = .slice A n c ∧ (SeesV W W.heap.size A n (l.map Value.string) ∧ ∀ x ∈ l, x.size ≤ maxLen) ∧ n ≤ c ∧ c ≤ maxLen := by
  obtain ⟨a1, len, cap, rfl⟩ := okWide_slice Try.underlying42 hval
  obtain ⟨fuel, hf⟩ := h
  rcases open_strings Try.underlying42 Try.underlying9 cells_str hf with ⟨hcs, _⟩ | ⟨a, len', cap', zs, hcs, _, hl, hm, hz, _, hcell, hwz⟩
  · simp [Value.cells] at hcs
    obtain ⟨rfl, rfl, rfl⟩ := hcs
    exact ⟨none, 0, 0, [], rfl, ⟨⟨rfl, fun j u h => by simp at h⟩, fun x hx => by cases hx⟩, Nat.le_refl _, Nat.zero_le _⟩
  · simp [Value.cells] at hcs
    obtain ⟨rfl, rfl, rfl⟩ := hcs
    simp only [if_true] at hz
    refine ⟨some a, len, cap, zs.take len, rfl, ⟨⟨by simp; omega, fun j u hu => ?_⟩, fun x hx => hwz x (List.mem_of_mem_take hx)⟩, hl, hm⟩
    have hj : j < len := by
      rcases Nat.lt_or_ge j len with g | g
      · exact g
      · rw [List.getElem?_eq_none (by simp; omega)] at hu; cases hu
    have hcj := hcell j (by omega)
    have hsp := plain_addr (hcell 0 (by omega))
    obtain ⟨ab, ao, sp⟩ := a
    simp only at hsp
    subst hsp
    have hjz : j < zs.length := by omega
    have e : zs.getD j ByteArray.empty = zs[j] := by simp [List.getD, List.getElem?_eq_getElem hjz]
    rw [List.getElem?_map, List.getElem?_take_of_lt hj, List.getElem?_eq_getElem hjz] at hu
    simp only [Option.map_some, Option.some.injEq] at hu
    subst hu
    rw [Addr.add_lit, e] at hcj
    exact ⟨ab, ao, rfl, block_lt hcj, hcj⟩
end
end Go.Proofs.Ytpaaafdnkehmfaa
