/- A row of strings, sorted, its runs cut to one: slices.Sort, slices.Compact. Conditions: fewer than 2^62 strings. -/
import Derived.Test.YtchoipmfngcdoaaMwLists
import Derived.Test.YtchoipmfngcdoaaShelf2
import Derived.Test.YtchoipmfngcdoaaStack
namespace Go.Proofs.Ytchoipmfngcdoaa
open Go.RowKit
set_option maxRecDepth 100000

def encs (l : List UInt8) : Value := .string ⟨l.toArray⟩
/-- The slice A, N, c is a row of the call's own, of strings ss; or there is none. -/
def Row1 (w : World) (base : Nat) (A : Option Addr) (N c : Nat) (ss : List (List UInt8)) : Prop :=
  N = ss.length ∧ (ss = [] ∨ ∃ g, A = some ⟨g, 0, none⟩ ∧ base ≤ g ∧ g < w.heap.size ∧ N ≤ c ∧ Go.Sort.Holds encStr w g 0 ss.toArray)

theorem Row1.of {w : World} {base N c : Nat} {A : Option Addr} {L : List ByteArray} (h : w.ownsRow base 9 1 (.slice A N c) N (L.map Value.string)) : Row1 w base A N c (L.map (·.data.toList)) := by
  obtain ⟨hr1, hr⟩ := h
  rw [List.length_map, Nat.mul_one] at hr1
  refine ⟨by rw [List.length_map, hr1], ?_⟩
  rcases hr with ⟨_, e⟩ | ⟨g, cap, cur, e, hg, hh, hcap, hmx, hsz, htk⟩
  · left
    rw [List.map_eq_nil_iff]
    exact List.eq_nil_of_length_eq_zero (hr1.trans e)
  · injection e with e1 _ e3
    subst e1; subst e3
    right
    refine ⟨g, rfl, hg, (Array.getElem?_eq_some_iff.1 hh).1, hcap, fun j hj => ⟨?_, by simp [World.frozen?, hh]⟩⟩
    have hjL : j < L.length := by simpa using hj
    rw [cell_of_row w g _ cur _ _ hh, Nat.zero_add]
    have : (cur.toList.take (N * 1))[j]? = some (Value.string L[j]) := by rw [htk, List.getElem?_map, List.getElem?_eq_getElem hjL]; rfl
    rw [List.getElem?_take] at this
    split at this
    · rw [← Array.getElem?_toList, this]
      have e4 : ((L.map (·.data.toList)).toArray)[j]! = L[j].data.toList := by
        rw [getElem!_pos _ j hj]
        simp
      rw [e4]
    · cases this

theorem below_putRow {α : Type} [Inhabited α] (enc : α → Value) {base : Nat} {w : World} {g off : Nat} (d : Array α) (n : Nat) (hg : base ≤ g) : Below base w (Go.Sort.putRow enc (Go.Sort.ahead w n) g off d) := by
  refine ⟨rfl, rfl, rfl, by simp, fun k hk => ?_⟩
  simp only [Go.Sort.putRow, Go.Sort.mapBlock, Array.getElem?_modify]
  rw [if_neg (by omega)]
  rfl
theorem below_grow {base : Nat} {w w' : World} (os : Array Obj) (h : Below base w w') (hb : base ≤ w'.heap.size) : Below base w (Go.Sort.grow w' os) :=
  ⟨h.os, h.tape, h.output, by have := h.size; simp; omega, fun k hk => (Go.Sort.heap_grow_old w' os (by omega)).trans (h.block k hk)⟩

/-- In order, each as often as it stands there. -/
def sorted (ss : List (List UInt8)) : List (List UInt8) := ss.mergeSort fun x y => decide (x ≤ y)
theorem sorted_length (ss : List (List UInt8)) : (sorted ss).length = ss.length := List.length_mergeSort ..

theorem sort_row {w : World} {base N c : Nat} {A : Option Addr} {ss : List (List UInt8)} (h : Row1 w base A N c ss) (hsz : N < 4611686018427387904) :
    Calls Try.prog 54 #[.slice A N c] w fun e w' => e = .returned (.tuple #[]) ∧ Row1 w' base A N c (sorted ss) ∧ Below base w w' := by
  obtain ⟨hN, hs⟩ := h
  subst hN
  by_cases h0 : ss = []
  · subst h0
    refine (Try.slices_Sort_string_none A c w).mono ?_
    rintro e w' ⟨rfl, rfl⟩
    exact ⟨rfl, ⟨by simp [sorted], .inl (by simp [sorted])⟩, Below.refl _ _⟩
  · rcases hs with e | ⟨g, rfl, hg, hgl, hc, hH⟩
    · exact absurd e h0
    · refine (Try.slices_Sort_string g 0 c ss w hH hgl hsz).mono ?_
      rintro e w' ⟨rfl, n, os, rfl⟩
      have hsz2 : (Go.Sort.putRow encStr (Go.Sort.ahead w n) g 0 (sorted ss).toArray).heap.size = w.heap.size := by simp
      refine ⟨rfl, ⟨(sorted_length ss).symm, .inr ⟨g, rfl, hg, ?_, hc, ?_⟩⟩, below_grow os (below_putRow encStr _ n hg) ?_⟩
      · rw [Go.Sort.size_grow]
        have := hsz2
        unfold sorted at this
        omega
      · refine Go.Sort.holds_grow encStr _ os g 0 _ ?_ (Go.Sort.holds_putRow encStr _ g 0 ss.toArray _ hH (by simp))
        simpa using hgl
      · have := hsz2
        unfold sorted at this
        omega

/-- Neighbours that are the same, but for one of them, left out. -/
def once (zs : List (List UInt8)) : List (List UInt8) := Go.Lib.compact zs
theorem once_le (zs : List (List UInt8)) : (once zs).length ≤ zs.length := by
  unfold once Go.Lib.compact Go.Lib.compactUpTo
  rw [List.length_map]
  exact Nat.le_trans (List.length_filter_le ..) (by simp)
theorem compact_row {w : World} {base N c : Nat} {A : Option Addr} {zs : List (List UInt8)} (h : Row1 w base A N c zs) (hsz : N < 4611686018427387904) :
    Calls Try.prog 55 #[.slice A N c] w fun e w' => e = .returned (.slice A (once zs).length c) ∧ SeesV w' w'.heap.size A (once zs).length ((once zs).map encs) ∧ Below base w w' := by
  have hle := once_le zs
  obtain ⟨hN, hs⟩ := h
  subst hN
  by_cases h0 : zs = []
  · subst h0
    have hl : (once []).length = 0 := by simpa using hle
    refine (Try.slices_Compact_string_empty A c w).mono ?_
    rintro e w' ⟨rfl, rfl⟩
    rw [hl]
    refine ⟨rfl, ⟨by rw [List.length_map, hl], fun j u hu => ?_⟩, Below.refl _ _⟩
    rw [List.eq_nil_of_length_eq_zero hl] at hu
    simp at hu
  · rcases hs with e | ⟨g, rfl, hg, hgl, hc, hH⟩
    · exact absurd e h0
    · refine (Try.slices_Compact_string g 0 c zs w hH (by omega) hc).mono ?_
      rintro e w' ⟨rfl, q, rfl⟩
      refine ⟨rfl, ⟨by rw [List.length_map], fun j u hu => ⟨g, 0, rfl, by simpa using hgl, ?_⟩⟩, below_putRow encStr _ q hg⟩
      have hj : j < (once zs).length := by
        rcases Nat.lt_or_ge j (once zs).length with h | h
        · exact h
        · rw [List.getElem?_eq_none (by rw [List.length_map]; exact h)] at hu; cases hu
      have hle' : (Go.Lib.compact zs).length ≤ zs.length := hle
      have hjd : j < (Go.Lib.compact zs ++ List.replicate (zs.length - (Go.Lib.compact zs).length) ([] : List UInt8)).toArray.size := by
        have : j < (Go.Lib.compact zs).length := hj
        simp
        omega
      have hcell := Go.Sort.cell?_putRow encStr (Go.Sort.ahead w q) g 0 zs.toArray _ hH (by simp; omega) j hjd
      rw [hcell, ← hu, List.getElem?_map, List.getElem?_eq_getElem hj, getElem!_pos _ j hjd]
      simp only [Option.map_some, List.getElem_toArray]
      exact congrArg (fun l => some (encs l)) (List.getElem_append_left (show j < (Go.Lib.compact zs).length from hj))
end Go.Proofs.Ytchoipmfngcdoaa
