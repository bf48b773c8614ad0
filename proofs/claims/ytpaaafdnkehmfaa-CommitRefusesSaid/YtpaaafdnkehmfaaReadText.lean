/- next, with a text's set. -/
import Derived.Test.YtpaaafdnkehmfaaReader
namespace Go.Proofs.Ytpaaafdnkehmfaa
open Go.RowKit

theorem Sees.drop_map {w : World} {B n k c : Nat} {A : Option Addr} {l : List UInt8} (h : Sees w B A n l) (hk : k ≤ n) (hc : n ≤ c) (hne : ¬ c = k) : Sees w B (A.map (·.add k)) (n - k) (l.drop k) := by
  have hd := h.drop hk hc
  rw [if_neg hne] at hd
  exact hd

set_option maxHeartbeats 1000000 in
theorem nextText (g q n c k : Nat) (A : Option Addr) (l L : List UInt8) (V x : ByteArray) (w : World) (h : Rd w g A n c l 0) (hk : k ≤ n) (hc : w.cell? ⟨q, 0, none⟩ = some (.string x)) (hf : w.frozen? ⟨q, 0, none⟩ = false)
    (hq : q ≠ g) (hL : Hid (L = l.drop k)) (hV : Hid (V = ⟨(l.take k).toArray⟩)) :
    Calls Try.prog 96 #[.pointer (some ⟨g, 0, none⟩), .int .i64 k, .func (.func 98) #[.pointer (some ⟨q, 0, none⟩)] #[]] w fun e w' =>
      e = .returned (.tuple #[]) ∧ Nexted w (w.setCell ⟨q, 0, none⟩ (.string V)) w' g (n - k) L := by
  have h0 := h.rest
  have h1 := h.err
  have f0 := h.free 0
  have hcap := h.cap
  have hs := h.sees.take hk
  have h' := h
  clear h
  go_enter Try.func96, Try.ntmps96
  go_wp2_with (go_at_call 98; refine (setText_any q k c g A _ x _ hs hc hf).mono ?_; rw [← hV.out]; rintro e w' ⟨rfl, rfl⟩)
  all_goals
    go_end0
    first
    | exact ⟨rfl, _, _, rfl, by rw [hL.out]; exact h'.sees.drop_map hk hcap (by assumption), by omega⟩
    | exact ⟨rfl, _, _, rfl, by rw [hL.out]; exact h'.sees.drop_end hk hcap (by assumption), by omega⟩

theorem Rd.alloc {w : World} {g n c : Nat} {A : Option Addr} {l : List UInt8} {e : Int} (h : Rd w g A n c l e) (o : Obj) : Rd (w.alloc o) g A n c l e := h.keep ((Below.refl _ _).alloc (Nat.le_refl _) o)

/-- What a question of k bytes answers (0, where there is an error), and what is left: the bytes, the error. -/
def rdStep (k : Nat) (l : List UInt8) (e : Int) : Nat × List UInt8 × Int := if e ≠ 0 then (0, l, e) else if l.length < k then (0, l, 8) else (valB (l.take k), l.drop k, 0)
theorem rdStep_lt (k : Nat) (l : List UInt8) (e : Int) : (rdStep k l e).1 < 2 ^ (8 * k) := by
  unfold rdStep
  have h0 : 0 < 2 ^ (8 * k) := Nat.pow_pos (by omega)
  split
  · exact h0
  · split
    · exact h0
    · exact Nat.lt_of_lt_of_le (valB_lt _) (Nat.pow_le_pow_right (by omega) (by rw [List.length_take]; omega))
theorem rdStep_err {k : Nat} {l : List UInt8} {e : Int} (h : ¬ e = 0) : rdStep k l e = (0, l, e) := by unfold rdStep; rw [if_pos h]
theorem rdStep_short {k : Nat} {l : List UInt8} (h : l.length < k) : rdStep k l 0 = (0, l, 8) := by unfold rdStep; rw [if_neg (by simp), if_pos h]
theorem rdStep_yes {k : Nat} {l : List UInt8} (h : ¬ l.length < k) : rdStep k l 0 = (valB (l.take k), l.drop k, 0) := by unfold rdStep; rw [if_neg (by simp), if_neg h]

/-- What a call on the Reader in block g leaves: the Reader, and all else as it was. -/
def ReadPost (w w' : World) (g : Nat) (l : List UInt8) (e : Int) : Prop := (∃ A n c, Rd w' g A n c l e) ∧ w.grownBy w' (some g)

theorem Grow2.alloc2 (w : World) (a b : Obj) (row : Option Nat) : w.grownBy ((w.alloc a).alloc b) row := ⟨rfl, rfl, rfl, by simp; omega, fun i hi _ => (Below.heap_alloc _ b i (by simp; omega)).trans (Below.heap_alloc w a i hi)⟩
theorem grown_set {w w' : World} {g : Nat} (h : w.grownBy w' (some g)) {p : Addr} (hp : p.block = g ∨ w.heap.size ≤ p.block) (u : Value) : w.grownBy (w'.setCell p u) (some g) :=
  ⟨h.os, h.tape, h.output, by simpa [World.setCell] using h.size, fun i hi hne => (Below.heap_setCell w' p u i (by
    rintro rfl
    rcases hp with hp | hp
    · exact hne (by rw [hp])
    · omega)).trans (h.block i hi hne)⟩

theorem box_err {w : World} {g : Nat} (hne : w.heap.size ≠ g) (o : Obj) (z : Value) (t : TypeId) (x : Value) : (((w.alloc (.cells #[z] t)).alloc o).setCell ⟨g, 1, none⟩ x).cell? ⟨w.heap.size, 0, none⟩ = some z := by
  rw [World.cell?_setCell_other _ _ _ _ (by intro e; injection e with e1; exact hne e1.symm), World.cell?_alloc_lt _ _ _ (by simp)]
  exact cell_of_row _ _ 0 #[z] t (0, 0) (at_new w _)
theorem box_next {w : World} {g : Nat} (hne : w.heap.size ≠ g) (o : Obj) (z V : Value) (t : TypeId) (x : Value) : ((((w.alloc (.cells #[z] t)).alloc o).setCell ⟨w.heap.size, 0, none⟩ V).setCell ⟨g, 0, none⟩ x).cell? ⟨w.heap.size, 0, none⟩ = some V := by
  rw [World.cell?_setCell_other _ _ _ _ (by intro e; injection e with e1; exact hne e1.symm)]
  refine World.cell?_setCell_same _ _ V (u := z) ?_
  rw [World.cell?_alloc_lt _ _ _ (by simp)]
  exact cell_of_row _ _ 0 #[z] t (0, 0) (at_new w _)
theorem ReadPost.same {w w2 : World} {g n c : Nat} {A : Option Addr} {l : List UInt8} {e : Int} (h : Rd w2 g A n c l e) (hg : w.grownBy w2 (some g)) : ReadPost w w2 g l e := ⟨⟨A, n, c, h⟩, hg⟩
theorem ReadPost.err {w w2 : World} {g n c : Nat} {A : Option Addr} {l : List UInt8} {e : Int} (h : Rd w2 g A n c l e) (x : Int) (hg : w.grownBy w2 (some g)) : ReadPost w (w2.setCell ⟨g, 1, none⟩ (.int .i64 x)) g l x :=
  ⟨⟨A, n, c, heap_setCell_same w2 g 1 _ _ _ h.row, h.sees.setCell (p := ⟨g, 1, none⟩) (Nat.le_refl _) _, h.cap⟩, grown_set hg (.inl rfl) _⟩
theorem ReadPost.next {w w2 : World} {q g n m c c' : Nat} {A A' : Option Addr} {l L : List UInt8} {V : Value} (h : Rd w2 g A n c l 0) (hs : Sees w2 g A' m L) (hc : m ≤ c') (hg : w.grownBy w2 (some g)) (hq : q ≠ g) (hq2 : w.heap.size ≤ q) (hgq : g ≤ q) :
    ReadPost w ((w2.setCell ⟨q, 0, none⟩ V).setCell ⟨g, 0, none⟩ (.slice A' m c')) g L 0 := by
  have hrow : (w2.setCell ⟨q, 0, none⟩ V).heap[g]? = some (.cells #[.slice A n c, .int .i64 0] 142 (0, 0)) := (Below.heap_setCell w2 ⟨q, 0, none⟩ V g (fun e => hq e.symm)).trans h.row
  refine ⟨⟨A', m, c', heap_setCell_same _ g 0 _ _ _ hrow, (hs.setCell (p := ⟨q, 0, none⟩) hgq V).setCell (p := ⟨g, 0, none⟩) (Nat.le_refl _) _, hc⟩, grown_set (grown_set hg (.inr hq2) _) (.inl rfl) _⟩

set_option maxHeartbeats 1000000 in
set_option maxHeartbeats 1000000 in
theorem read8_any (g n c : Nat) (A : Option Addr) (l : List UInt8) (e : Int) (w : World) (h : Rd w g A n c l e) : Calls Try.prog 95 #[.pointer (some ⟨g, 0, none⟩)] w fun en w' =>
    en = .returned (.int .u8 ((rdStep 1 l e).1 : Nat)) ∧ ReadPost w w' g (rdStep 1 l e).2.1 (rdStep 1 l e).2.2 := by
  have h2 : Rd ((w.alloc (.cells #[.int .u8 0] 130)).alloc (.cells #[.int .u8 0] 130)) g A n c l e := (h.alloc _).alloc _
  have hlen := h.sees.len
  have hg := h.lt
  by_cases he : e = 0
  · subst he
    by_cases hk : n < 1
    · have hst : Hid (rdStep 1 l 0 = (0, l, 8)) := rdStep_short (by omega)
      rw [hst.out]
      clear hlen
      go_enter Try.func95, Try.ntmps95
      go_wp2_with (go_at_call 92; refine (width8 _ _).mono ?_; rintro e w' ⟨rfl, rfl⟩)
      refine (next_short g n c 1 A l _ _ h2 hk).mono ?_
      rintro e w' ⟨rfl, hx⟩
      have hne : w.heap.size ≠ g := by omega
      have hp := ReadPost.err h2 8 (Grow2.alloc2 w _ _ _)
      have hbox := box_err (w := w) (g := g) hne (.cells #[(.int .u8 0)] 130) (.int .u8 0) 130 (.int .i64 8)
      rw [← hx] at hp hbox
      clear hx
      go_wp2_with fail
      go_ret
      exact ⟨rfl, hp⟩
    · have hst : Hid (rdStep 1 l 0 = (valB (l.take 1), l.drop 1, 0)) := rdStep_yes (by omega)
      rw [hst.out]
      clear hlen
      obtain ⟨V, hV⟩ : ∃ V, V = valB (l.take 1) := ⟨_, rfl⟩
      obtain ⟨L, hL⟩ : ∃ L, L = l.drop 1 := ⟨_, rfl⟩
      rw [← hV, ← hL]
      have HV := Lib.hid hV
      have HL := Lib.hid hL
      clear hV hL
      have hk' : 1 ≤ n := by omega
      have hne : w.heap.size ≠ g := by omega
      go_enter Try.func95, Try.ntmps95
      go_wp2_with (go_at_call 92; refine (width8 _ _).mono ?_; rintro e w' ⟨rfl, rfl⟩)
      refine (next8 g w.heap.size n c A l L V 0 _ h2 hk' (by go_simp) (by go_simp) hne HL HV).mono ?_
      rintro e w' ⟨rfl, A', c', hx, hs', hc'⟩
      have hp := ReadPost.next (V := (.int .u8 V)) h2 hs' hc' (Grow2.alloc2 w _ _ _) hne (Nat.le_refl _) (by omega)
      have hbox := box_next (w := w) (g := g) hne (.cells #[(.int .u8 0)] 130) (.int .u8 0) (.int .u8 V) 130 (.slice A' (n - 1) c')
      rw [← hx] at hp hbox
      clear hx hs'
      go_wp2_with fail
      go_ret
      exact ⟨rfl, hp⟩
  · have hst : Hid (rdStep 1 l e = (0, l, e)) := rdStep_err he
    rw [hst.out]
    clear hlen
    go_enter Try.func95, Try.ntmps95
    go_wp2_with (go_at_call 92; refine (width8 _ _).mono ?_; rintro e w' ⟨rfl, rfl⟩)
    refine (next_err g n c 1 A l e _ _ h2 he).mono ?_
    rintro e w' ⟨rfl, rfl⟩
    go_wp2_with fail
    go_ret
    exact ⟨rfl, ReadPost.same h2 (Grow2.alloc2 w _ _ _)⟩

set_option maxHeartbeats 1000000 in
theorem read16_any (g n c : Nat) (A : Option Addr) (l : List UInt8) (e : Int) (w : World) (h : Rd w g A n c l e) : Calls Try.prog 97 #[.pointer (some ⟨g, 0, none⟩)] w fun en w' =>
    en = .returned (.int .u16 ((rdStep 2 l e).1 : Nat)) ∧ ReadPost w w' g (rdStep 2 l e).2.1 (rdStep 2 l e).2.2 := by
  have h2 : Rd ((w.alloc (.cells #[.int .u16 0] 134)).alloc (.cells #[.int .u16 0] 134)) g A n c l e := (h.alloc _).alloc _
  have hlen := h.sees.len
  have hg := h.lt
  by_cases he : e = 0
  · subst he
    by_cases hk : n < 2
    · have hst : Hid (rdStep 2 l 0 = (0, l, 8)) := rdStep_short (by omega)
      rw [hst.out]
      clear hlen
      go_enter Try.func97, Try.ntmps97
      go_wp2_with (go_at_call 93; refine (width16 _ _).mono ?_; rintro e w' ⟨rfl, rfl⟩)
      refine (next_short g n c 2 A l _ _ h2 hk).mono ?_
      rintro e w' ⟨rfl, hx⟩
      have hne : w.heap.size ≠ g := by omega
      have hp := ReadPost.err h2 8 (Grow2.alloc2 w _ _ _)
      have hbox := box_err (w := w) (g := g) hne (.cells #[(.int .u16 0)] 134) (.int .u16 0) 134 (.int .i64 8)
      rw [← hx] at hp hbox
      clear hx
      go_wp2_with fail
      go_ret
      exact ⟨rfl, hp⟩
    · have hst : Hid (rdStep 2 l 0 = (valB (l.take 2), l.drop 2, 0)) := rdStep_yes (by omega)
      rw [hst.out]
      clear hlen
      obtain ⟨V, hV⟩ : ∃ V, V = valB (l.take 2) := ⟨_, rfl⟩
      obtain ⟨L, hL⟩ : ∃ L, L = l.drop 2 := ⟨_, rfl⟩
      rw [← hV, ← hL]
      have HV := Lib.hid hV
      have HL := Lib.hid hL
      clear hV hL
      have hk' : 2 ≤ n := by omega
      have hne : w.heap.size ≠ g := by omega
      go_enter Try.func97, Try.ntmps97
      go_wp2_with (go_at_call 93; refine (width16 _ _).mono ?_; rintro e w' ⟨rfl, rfl⟩)
      refine (next16 g w.heap.size n c A l L V 0 _ h2 hk' (by go_simp) (by go_simp) hne HL HV).mono ?_
      rintro e w' ⟨rfl, A', c', hx, hs', hc'⟩
      have hp := ReadPost.next (V := (.int .u16 V)) h2 hs' hc' (Grow2.alloc2 w _ _ _) hne (Nat.le_refl _) (by omega)
      have hbox := box_next (w := w) (g := g) hne (.cells #[(.int .u16 0)] 134) (.int .u16 0) (.int .u16 V) 134 (.slice A' (n - 2) c')
      rw [← hx] at hp hbox
      clear hx hs'
      go_wp2_with fail
      go_ret
      exact ⟨rfl, hp⟩
  · have hst : Hid (rdStep 2 l e = (0, l, e)) := rdStep_err he
    rw [hst.out]
    clear hlen
    go_enter Try.func97, Try.ntmps97
    go_wp2_with (go_at_call 93; refine (width16 _ _).mono ?_; rintro e w' ⟨rfl, rfl⟩)
    refine (next_err g n c 2 A l e _ _ h2 he).mono ?_
    rintro e w' ⟨rfl, rfl⟩
    go_wp2_with fail
    go_ret
    exact ⟨rfl, ReadPost.same h2 (Grow2.alloc2 w _ _ _)⟩
end Go.Proofs.Ytpaaafdnkehmfaa
