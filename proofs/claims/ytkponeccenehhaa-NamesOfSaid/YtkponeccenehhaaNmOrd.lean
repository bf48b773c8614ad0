/- names.ordered: what is in a row of strings, in order, each once, in memory of its own; slices.BinarySearch of strings in order. Conditions: fewer than 2^40 strings. -/
import Derived.Test.YtkponeccenehhaaNmMath
import Derived.LoopTactic
import Derived.Deep.QuietTactic
namespace Go.Proofs.Ytkponeccenehhaa.Nm
open Go.RowKit
set_option maxRecDepth 100000

def encL (ss : List (List UInt8)) : List ByteArray := ss.map fun x => ⟨x.toArray⟩
theorem encL_string (ss : List (List UInt8)) : (encL ss).map Value.string = ss.map encs := by
  simp only [encL, List.map_map]; rfl
theorem encL_back (ss : List (List UInt8)) : (encL ss).map (·.data.toList) = ss := by
  simp [encL, Function.comp_def]

theorem Row1.ofv {w : World} {base N : Nat} {v : Value} {L : List ByteArray} (h : w.ownsRow base 9 1 v N (L.map Value.string)) : ∃ A c, v = .slice A N c ∧ Row1 w base A N c (L.map (·.data.toList)) := by
  have h' := h
  obtain ⟨hr1, hr⟩ := h
  rcases hr with ⟨e1, e⟩ | ⟨g, cap, cur, e, _⟩
  · subst e1; subst e
    exact ⟨none, 0, rfl, Row1.of h'⟩
  · subst e
    exact ⟨_, _, rfl, Row1.of h'⟩

theorem clone_row {w : World} {A : Option Addr} {n c : Nat} {ss : List (List UInt8)} (h : SeesV w w.heap.size A n (ss.map encs)) (hn : n ≤ 1099511627776) :
    Calls Try.prog 42 #[.slice A n c] w fun e w' => ∃ A' c', e = .returned (.slice A' n c') ∧ Row1 w' w.heap.size A' n c' ss ∧ Below w.heap.size w w' := by
  have hl := h.len
  rw [List.length_map] at hl
  rcases A with _ | a
  · have h0 : n = 0 := by
      rcases Nat.eq_zero_or_pos n with g | g
      · exact g
      · obtain ⟨b, o, e, _⟩ := h.cell 0 (encs (ss[0]'(by omega))) (by rw [List.getElem?_map, List.getElem?_eq_getElem (by omega)]; rfl)
        cases e
    subst h0
    obtain rfl : ss = [] := List.eq_nil_of_length_eq_zero hl.symm
    refine (Try.slices_Clone_string_nil 0 c w).mono ?_
    rintro e w' ⟨rfl, rfl⟩
    exact ⟨none, 0, rfl, ⟨rfl, .inl rfl⟩, Below.refl _ _⟩
  · rcases Nat.eq_zero_or_pos n with g | g
    · subst g
      obtain rfl : ss = [] := List.eq_nil_of_length_eq_zero hl.symm
      refine (Try.slices_Clone_string_zero a c w).mono ?_
      rintro e w' ⟨v', rfl, ho, _, hb⟩
      obtain ⟨A', c', rfl, hr⟩ := Row1.ofv (L := []) ho
      exact ⟨A', c', rfl, hr, hb⟩
    · obtain ⟨b, o, e, _⟩ := h.cell 0 (encs (ss[0]'(by omega))) (by rw [List.getElem?_map, List.getElem?_eq_getElem (by omega)]; rfl)
      injection e with e
      subst e
      refine (Try.slices_Clone_string b o n c (encL ss) w (by simp [encL]; omega) (by omega) (fun j hj => ?_)).mono ?_
      · have hj' : j < ss.length := by simpa [encL] using hj
        obtain ⟨b', o', e, _, hc⟩ := h.cell j (encs ss[j]) (by rw [List.getElem?_map, List.getElem?_eq_getElem hj']; rfl)
        injection e with e
        cases e
        rw [hc]
        simp [encL, encs, List.getD, List.getElem?_eq_getElem hj']
      · rintro e w' ⟨v', rfl, ho, _, hb⟩
        rw [List.take_of_length_le (by simp [encL]; omega)] at ho
        obtain ⟨A', c', rfl, hr⟩ := Row1.ofv ho
        rw [encL_back] at hr
        exact ⟨A', c', rfl, hr, hb⟩

def Ordered (ss : List (List UInt8)) (w : World) (e : Ending) (w' : World) : Prop :=
  ∃ A' c', e = .returned (.slice A' (ord ss).length c') ∧ SeesV w' w'.heap.size A' (ord ss).length ((ord ss).map encs) ∧ Below w.heap.size w w'

set_option maxHeartbeats 1000000 in
theorem ordered_any (ss : List (List UInt8)) (A : Option Addr) (n c : Nat) (w : World) (h : SeesV w w.heap.size A n (ss.map encs)) (hn : n ≤ 1099511627776) :
    Calls Try.prog 35 #[.slice A n c] w (Ordered ss w) := by
  have HK := Lib.hid (clone_row (c := c) h hn)
  have HS := Lib.hid (fun (W : World) (A : Option Addr) (c : Nat) (h : Row1 W w.heap.size A n c ss) => sort_row h (by omega))
  have HC := Lib.hid (fun (W : World) (A : Option Addr) (c : Nat) (h : Row1 W w.heap.size A n c (sorted ss)) => compact_row h (by omega))
  clear h
  go_enter Try.func35, Try.ntmps35
  go_wp2_with fail
  refine HK.out.mono ?_
  rintro e w1 ⟨A1, c1, rfl, hr1, hb1⟩
  go_wp2_with fail
  refine (HS.out w1 A1 c1 hr1).mono ?_
  rintro e w2 ⟨rfl, hr2, hb2⟩
  go_wp2_with fail
  refine (HC.out w2 A1 c1 hr2).mono ?_
  rintro e w3 ⟨rfl, hs3, hb3⟩
  go_wp2_with fail
  go_ret
  exact ⟨_, _, rfl, hs3, (hb1.trans hb2).trans hb3⟩

theorem isNaN_cmp (x : ByteArray) (w : World) : Calls Try.prog 53 #[.string x] w fun e w' => e = .returned (.bool false) ∧ w = w' := by
  go_enter Try.func53, Try.ntmps53
  go_wp2
  go_ret
  exact ⟨by simp, rfl⟩
theorem isNaN_slices (x : ByteArray) (w : World) : Calls Try.prog 49 #[.string x] w fun e w' => e = .returned (.bool false) ∧ w = w' := by
  go_enter Try.func49, Try.ntmps49
  go_wp2
  go_ret
  exact ⟨by simp, rfl⟩
theorem less_any (x y : ByteArray) (w : World) : Calls Try.prog 48 #[.string x, .string y] w fun e w' => e = .returned (.bool (Op.bytesLess x.toList y.toList)) ∧ w = w' := by
  go_enter Try.func48, Try.ntmps48
  go_wp2_with (go_at_call 53; refine (isNaN_cmp _ _).mono ?_; rintro e w' ⟨rfl, rfl⟩)
  go_ret
  exact ⟨rfl, rfl⟩
end Go.Proofs.Ytkponeccenehhaa.Nm
