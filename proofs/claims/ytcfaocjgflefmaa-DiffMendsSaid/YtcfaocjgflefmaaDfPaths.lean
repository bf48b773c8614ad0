/- diff.Paths, diff.Front; those of the reference. Conditions: at most 1200 edges each, in order; paths of fewer than 2^30 names. -/
import Derived.Test.YtcfaocjgflefmaaDfDiffer
namespace Go.Proofs.Ytcfaocjgflefmaa.Df
open Go.RowKit Go.Proofs.Ytcfaocjgflefmaa.Pt
set_option maxRecDepth 100000

theorem forest_two {w W : World} {A A2 : Option Addr} {n c n2 c2 : Nat} {t u : Tr} (h1 : OkT w A n c t) (h2 : OkT w A2 n2 c2 u) (hb : Below w.heap.size w W) :
    Forest (W.alloc (Obj.cells #[.slice A n c, .slice A2 n2 c2] 26)) (W.alloc (Obj.cells #[.slice A n c, .slice A2 n2 c2] 26)).heap.size (some ⟨W.heap.size, 0, none⟩) [⟨A, n, c, t⟩, ⟨A2, n2, c2, u⟩] := by
  have hk : ∀ p : Addr, p.block < w.heap.size → (W.alloc (Obj.cells #[.slice A n c, .slice A2 n2 c2] 26)).cell? p = w.cell? p := fun p hp =>
    (World.cell?_alloc_lt _ _ _ (Nat.lt_of_lt_of_le hp hb.size)).trans (hb.cell hp)
  have hs := hb.size
  intro j x hx
  refine ⟨_, _, rfl, by simp, ?_, ?_⟩
  · rw [cell_of_row _ _ _ _ _ _ (heap_alloc_new W _), Nat.zero_add]
    match j, hx with
    | 0, hx => cases hx; rfl
    | 1, hx => cases hx; rfl
    | j + 2, hx => simp at hx
  · match j, hx with
    | 0, hx => cases hx; exact (h1.holds.keep hk).more (by simp; omega)
    | 1, hx => cases hx; exact (h2.holds.keep hk).more (by simp; omega)
    | j + 2, hx => simp at hx

set_option maxHeartbeats 1000000 in
theorem paths_any (N : Nat) (hNN : N ≤ 100000) (t u : Tr) (A A2 : Option Addr) (n c n2 c2 : Nat) (w : World) (h1 : OkT w A n c t) (h2 : OkT w A2 n2 c2 u) (hN : t.size + u.size < N) (hz1 : t.size ≤ 1200) (hz2 : u.size ≤ 1200) (ha1 : AscD t) (ha2 : AscD u) :
    Calls Try.prog 11 #[.slice A n c, .slice A2 n2 c2] w (DiffP N t u w) := by
  have hF1 := forest_two h1 h2 (Below.refl _ _)
  have hC1 := bounded_any [⟨A, n, c, t⟩, ⟨A2, n2, c2, u⟩] (some ⟨w.heap.size, 0, none⟩) 2 2 _ _ hF1 rfl (Nat.le_refl _) (by simp) (fun x hx => by
    rw [List.mem_cons, List.mem_singleton] at hx
    rcases hx with rfl | rfl
    · exact hz1
    · exact hz2)
  have HC1 := Lib.hid hC1
  have HD := Lib.hid (fun (W : World) (hb : Below w.heap.size w W) => differ_any N hNN ⟨A, n, c, t⟩ ⟨A2, n2, c2, u⟩ (some ⟨W.heap.size, 0, none⟩) 2 _ hN (show t.size + u.size ≤ 2400 by omega) ha1 ha2 (forest_two h1 h2 hb))
  have hba : Below w.heap.size w (w.alloc (Obj.cells #[.slice A n c, .slice A2 n2 c2] 26)) := (Below.refl _ _).alloc (Nat.le_refl _) _
  have Hba := Lib.hid hba
  clear hF1 hC1 h1 h2 hN hz1 hz2 ha1 ha2 hba
  go_enter Try.func11, Try.ntmps11
  go_wp2_with fail
  (with_reducible refine HC1.out.mono ?_)
  rintro e w1 ⟨rfl, hb1⟩
  have HB1 := Lib.hid (show Below w.heap.size w w1 from Hba.out.trans (hb1.mono Hba.out.size))
  clear hb1
  go_wp2_with fail
  (with_reducible refine (HD.out w1 HB1.out).mono ?_)
  rintro e w2 ⟨A', n', c', xs, rfl, hO, hq, hb2⟩
  have hs1 : w.heap.size ≤ (w1.alloc (Obj.cells #[.slice A n c, .slice A2 n2 c2] 26)).heap.size := by have := HB1.out.size; simp; omega
  have HP := Lib.hid (show DiffP N t u w (.returned (.slice A' n' c')) w2 from ⟨A', n', c', xs, rfl, hO.less hs1, hq, (HB1.out.alloc HB1.out.size _).trans (hb2.mono hs1)⟩)
  clear hO hq hb2 hs1
  go_wp2_with fail
  go_ret
  exact HP.out

/-! Front. -/
def fr (p q : List ByteArray) : Bool := decide (p.take q.length = q)
theorem fr_iff {p q : List ByteArray} : fr p q = true ↔ q <+: p := by
  unfold fr
  rw [decide_eq_true_iff, List.prefix_iff_eq_take]
  exact ⟨fun e => e.symm, fun e => e.symm⟩
theorem fr_long {p q : List ByteArray} (h : p.length < q.length) : fr p q = false := by
  cases h1 : fr p q with
  | false => rfl
  | true =>
    have := (fr_iff.1 h1).length_le
    omega
/-- Strings as the shelf asks them. -/
theorem sees_cells {w : World} {B n : Nat} {A : Option Addr} {l : List ByteArray} (h : SeesV w B A n (l.map Value.string)) (hn : 0 < n) : ∃ b o, A = some ⟨b, o, none⟩ ∧ b < B ∧ ∀ j, j < l.length → w.cell? ⟨b, o + j, none⟩ = some (.string (l.getD j ByteArray.empty)) := by
  obtain ⟨b, o, e, hb, _⟩ := h.str hn
  refine ⟨b, o, e, hb, fun j hj => ?_⟩
  have hl := h.len
  rw [List.length_map] at hl
  obtain ⟨b', o', e', _, hc⟩ := h.cell j (.string (l.getD j ByteArray.empty)) (by rw [List.getElem?_map, List.getD_eq_getElem?_getD, List.getElem?_eq_getElem hj]; rfl)
  rw [e] at e'
  injection e' with e'
  injection e' with e1 e2
  subst e1; subst e2
  exact hc

def FrP (v : Bool) (w : World) (e : Ending) (w' : World) : Prop := e = .returned (.bool v) ∧ ∃ q, w' = w.drewN q
theorem equal_any (p q : List ByteArray) (A A2 : Option Addr) (n c n2 c2 B : Nat) (w : World) (h1 : SeesV w B A n (p.map Value.string)) (h2 : SeesV w B A2 n2 (q.map Value.string)) (hn : n = n2) (hb : n ≤ 1073741824) :
    Calls Try.prog 30 #[.slice A n c, .slice A2 n2 c2] w (FrP (decide (p = q)) w) := by
  subst hn
  have hl1 := h1.len
  have hl2 := h2.len
  rw [List.length_map] at hl1 hl2
  rcases Nat.eq_zero_or_pos n with h0 | h0
  · subst h0
    have e1 : p = [] := List.eq_nil_of_length_eq_zero hl1.symm
    have e2 : q = [] := List.eq_nil_of_length_eq_zero hl2.symm
    subst e1; subst e2
    exact (Try.slices_Equal_string_empty A A2 c 0 c2 w (by omega)).mono fun e w' ⟨he, hw⟩ => ⟨by rw [he]; rfl, 0, by rw [hw]; rfl⟩
  · obtain ⟨b, o, rfl, _, hc1⟩ := sees_cells h1 h0
    obtain ⟨b2, o2, rfl, _, hc2⟩ := sees_cells h2 h0
    refine (Try.slices_Equal_string b o n c b2 o2 n c2 p q w (by omega) (by omega) (by omega) (by omega) hc1 hc2).mono fun e w' ⟨he, hw⟩ => ⟨?_, hw⟩
    rw [he, List.take_of_length_le (by omega), List.take_of_length_le (by omega)]

theorem sees_take {w : World} {B n k : Nat} {A : Option Addr} {l : List ByteArray} (h : SeesV w B A n (l.map Value.string)) (hk : k ≤ n) : SeesV w B A k ((l.take k).map Value.string) := by
  have hl := h.len
  rw [List.length_map] at hl
  refine ⟨by rw [List.length_map, List.length_take]; omega, fun j u hu => ?_⟩
  rw [List.map_take, List.getElem?_take] at hu
  split at hu
  · exact h.cell j u hu
  · cases hu
set_option maxHeartbeats 1000000 in
theorem front_any (p q : List ByteArray) (A A2 : Option Addr) (n c n2 c2 B : Nat) (w : World) (h1 : SeesV w B A n (p.map Value.string)) (h2 : SeesV w B A2 n2 (q.map Value.string)) (hn2 : n2 ≤ 1073741824) (hc : n ≤ c) :
    Calls Try.prog 17 #[.slice A n c, .slice A2 n2 c2] w (FrP (fr p q) w) := by
  have hl1 := h1.len
  have hl2 := h2.len
  rw [List.length_map] at hl1 hl2
  by_cases hle : n2 ≤ n
  · unfold fr
    have HC := Lib.hid (equal_any (p.take n2) q A A2 n2 c n2 c2 B w (sees_take h1 hle) h2 rfl hn2)
    rw [← hl2]
    obtain ⟨v, hv⟩ : ∃ v, v = decide (p.take n2 = q) := ⟨_, rfl⟩
    rw [← hv] at HC
    rw [← hv]
    have hle1 : (n2 : Int) ≤ (n : Int) := by omega
    have hle2 : (n2 : Int) ≤ (c : Int) := by omega
    have hle3 : n2 ≤ c := by omega
    clear hv hl1 hl2 h1 h2
    go_enter Try.func17, Try.ntmps17
    go_wp2_with fail
    (with_reducible refine HC.out.mono ?_)
    rintro e w1 ⟨rfl, k, rfl⟩
    go_wp2_with fail
    go_ret
    exact ⟨rfl, k, rfl⟩
  · rw [fr_long (by omega)]
    have hle1 : ¬ ((n2 : Int) ≤ (n : Int)) := by omega
    have hle2 : ¬ (n2 ≤ n) := by omega
    clear hl1 hl2 h1 h2 hle
    go_enter Try.func17, Try.ntmps17
    go_wp2_with fail
    go_ret
    exact ⟨rfl, 0, rfl⟩
end Go.Proofs.Ytcfaocjgflefmaa.Df
