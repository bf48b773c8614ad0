/- Boxes: blocks of one value's cells, read and written whole. No conditions. · Kid of the reference, with what is below; Path: a path by numbers. Conditions: fewer than 2^30 edges beside one another; names of at most 30 bytes. · Trees and paths as a law's walk hands them on. Conditions: fewer than 2^20 edges. · merge: a tree or nothing as it lies; whether two are the same; anew; what is below a name. Conditions: fewer than 2^38 edges, in order. · merge: the rules by which one tree is taken. Conditions: fewer than 2^38 edges, in order. -/
import Derived.Test.YtchoipmfngcdoaaMwScMath
import Derived.Test.YtchoipmfngcdoaaMwTSame
import Derived.Test.YtchoipmfngcdoaaMwLists
import Derived.Test.YtchoipmfngcdoaaMwSame
import Derived.Test.YtchoipmfngcdoaaMake
import Derived.Outline
import Derived.Deep.RegionHeld3
namespace Go.Proofs.Ytchoipmfngcdoaa.Mg
open Go.RowKit
set_option maxRecDepth 100000

/-- The block has these cells. -/
def Bx (w : World) (g : Nat) (vs : List Value) (T : TypeId) : Prop := w.heap[g]? = some (.cells vs.toArray T (0, 0))
theorem Bx.lt {w : World} {g : Nat} {vs : List Value} {T : TypeId} (h : Bx w g vs T) : g < w.heap.size := (Array.getElem?_eq_some_iff.1 h).1
theorem Bx.cells {w : World} {g : Nat} {vs : List Value} {T : TypeId} (h : Bx w g vs T) (j : Nat) : w.cell? ⟨g, j, none⟩ = vs[j]? := by
  rw [cell_of_row _ _ _ _ _ _ h]
  simp
theorem Bx.free {w : World} {g : Nat} {vs : List Value} {T : TypeId} (h : Bx w g vs T) (j : Nat) : w.frozen? ⟨g, j, none⟩ = false := by
  have h' : w.heap[g]? = some (.cells vs.toArray T (0, 0)) := h
  simp [World.frozen?, h']
theorem Bx.set {w : World} {g : Nat} {vs : List Value} {T : TypeId} (h : Bx w g vs T) (j : Nat) (v : Value) : Bx (w.setCell ⟨g, j, none⟩ v) g (vs.set j v) T := by
  unfold Bx
  rw [heap_setCell_same w g j _ _ _ h]
  simp
theorem Bx.below {w w' : World} {g B : Nat} {vs : List Value} {T : TypeId} (h : Bx w g vs T) (hb : Below B w w') (hg : g < B) : Bx w' g vs T := (hb.block _ hg).trans h
theorem Bx.new (w : World) (vs : List Value) (T : TypeId) : Bx (w.alloc (Obj.cells vs.toArray T)) w.heap.size vs T := heap_alloc_new w _
theorem Bx.alloc {w : World} {g : Nat} {vs : List Value} {T : TypeId} (h : Bx w g vs T) (o : Obj) : Bx (w.alloc o) g vs T := by
  unfold Bx
  rw [heap_alloc_old w o h.lt]
  exact h
/-- Two boxes, one behind the other. -/
theorem boxes2 (w : World) (us vs : List Value) (T U : TypeId) : ∃ W, W = (w.alloc (Obj.cells us.toArray T)).alloc (Obj.cells vs.toArray U) ∧ Below w.heap.size w W ∧ W.heap.size = w.heap.size + 2 ∧ Bx W w.heap.size us T ∧ Bx W (w.heap.size + 1) vs U := by
  refine ⟨_, rfl, ((Below.refl _ _).alloc (Nat.le_refl _) _).alloc (by simp) _, by simp, (Bx.new w us T).alloc _, ?_⟩
  have := Bx.new (w.alloc (Obj.cells us.toArray T)) vs U
  simpa using this
theorem Bx.c2 {w : World} {g : Nat} {a0 a1 : Value} {T : TypeId} (h : Bx w g [a0, a1] T) : w.cell? ⟨g, 0, none⟩ = some a0 ∧ w.cell? ⟨g, 1, none⟩ = some a1 := ⟨h.cells 0, h.cells 1⟩
theorem Bx.f2 {w : World} {g : Nat} {a0 a1 : Value} {T : TypeId} (h : Bx w g [a0, a1] T) : w.frozen? ⟨g, 0, none⟩ = false ∧ w.frozen? ⟨g, 1, none⟩ = false := ⟨h.free 0, h.free 1⟩
abbrev st2 (w : World) (g : Nat) (b0 b1 : Value) : World := ((w.setCell ⟨g, 0, none⟩ b0).setCell ⟨g, 1, none⟩ b1)
theorem Bx.s2 {w : World} {g : Nat} {a0 a1 : Value} {T : TypeId} (h : Bx w g [a0, a1] T) (b0 b1 : Value) : Bx (st2 w g b0 b1) g [b0, b1] T := ((((h).set 0 b0)).set 1 b1)
theorem below_s2 {B : Nat} {w0 w : World} {g : Nat} (h : Below B w0 w) (hg : B ≤ g) (b0 b1 : Value) : Below B w0 (st2 w g b0 b1) := ((((h).setCell (p := ⟨g, 0, none⟩) hg b0)).setCell (p := ⟨g, 1, none⟩) hg b1)
theorem Bx.c6 {w : World} {g : Nat} {a0 a1 a2 a3 a4 a5 : Value} {T : TypeId} (h : Bx w g [a0, a1, a2, a3, a4, a5] T) : w.cell? ⟨g, 0, none⟩ = some a0 ∧ w.cell? ⟨g, 1, none⟩ = some a1 ∧ w.cell? ⟨g, 2, none⟩ = some a2 ∧ w.cell? ⟨g, 3, none⟩ = some a3 ∧ w.cell? ⟨g, 4, none⟩ = some a4 ∧ w.cell? ⟨g, 5, none⟩ = some a5 := ⟨h.cells 0, h.cells 1, h.cells 2, h.cells 3, h.cells 4, h.cells 5⟩
theorem Bx.f6 {w : World} {g : Nat} {a0 a1 a2 a3 a4 a5 : Value} {T : TypeId} (h : Bx w g [a0, a1, a2, a3, a4, a5] T) : w.frozen? ⟨g, 0, none⟩ = false ∧ w.frozen? ⟨g, 1, none⟩ = false ∧ w.frozen? ⟨g, 2, none⟩ = false ∧ w.frozen? ⟨g, 3, none⟩ = false ∧ w.frozen? ⟨g, 4, none⟩ = false ∧ w.frozen? ⟨g, 5, none⟩ = false := ⟨h.free 0, h.free 1, h.free 2, h.free 3, h.free 4, h.free 5⟩
abbrev st6 (w : World) (g : Nat) (b0 b1 b2 b3 b4 b5 : Value) : World := ((((((w.setCell ⟨g, 0, none⟩ b0).setCell ⟨g, 1, none⟩ b1).setCell ⟨g, 2, none⟩ b2).setCell ⟨g, 3, none⟩ b3).setCell ⟨g, 4, none⟩ b4).setCell ⟨g, 5, none⟩ b5)
theorem Bx.s6 {w : World} {g : Nat} {a0 a1 a2 a3 a4 a5 : Value} {T : TypeId} (h : Bx w g [a0, a1, a2, a3, a4, a5] T) (b0 b1 b2 b3 b4 b5 : Value) : Bx (st6 w g b0 b1 b2 b3 b4 b5) g [b0, b1, b2, b3, b4, b5] T := ((((((((((((h).set 0 b0)).set 1 b1)).set 2 b2)).set 3 b3)).set 4 b4)).set 5 b5)
theorem below_s6 {B : Nat} {w0 w : World} {g : Nat} (h : Below B w0 w) (hg : B ≤ g) (b0 b1 b2 b3 b4 b5 : Value) : Below B w0 (st6 w g b0 b1 b2 b3 b4 b5) := ((((((((((((h).setCell (p := ⟨g, 0, none⟩) hg b0)).setCell (p := ⟨g, 1, none⟩) hg b1)).setCell (p := ⟨g, 2, none⟩) hg b2)).setCell (p := ⟨g, 3, none⟩) hg b3)).setCell (p := ⟨g, 4, none⟩) hg b4)).setCell (p := ⟨g, 5, none⟩) hg b5)
theorem Bx.c7 {w : World} {g : Nat} {a0 a1 a2 a3 a4 a5 a6 : Value} {T : TypeId} (h : Bx w g [a0, a1, a2, a3, a4, a5, a6] T) : w.cell? ⟨g, 0, none⟩ = some a0 ∧ w.cell? ⟨g, 1, none⟩ = some a1 ∧ w.cell? ⟨g, 2, none⟩ = some a2 ∧ w.cell? ⟨g, 3, none⟩ = some a3 ∧ w.cell? ⟨g, 4, none⟩ = some a4 ∧ w.cell? ⟨g, 5, none⟩ = some a5 ∧ w.cell? ⟨g, 6, none⟩ = some a6 := ⟨h.cells 0, h.cells 1, h.cells 2, h.cells 3, h.cells 4, h.cells 5, h.cells 6⟩
theorem Bx.f7 {w : World} {g : Nat} {a0 a1 a2 a3 a4 a5 a6 : Value} {T : TypeId} (h : Bx w g [a0, a1, a2, a3, a4, a5, a6] T) : w.frozen? ⟨g, 0, none⟩ = false ∧ w.frozen? ⟨g, 1, none⟩ = false ∧ w.frozen? ⟨g, 2, none⟩ = false ∧ w.frozen? ⟨g, 3, none⟩ = false ∧ w.frozen? ⟨g, 4, none⟩ = false ∧ w.frozen? ⟨g, 5, none⟩ = false ∧ w.frozen? ⟨g, 6, none⟩ = false := ⟨h.free 0, h.free 1, h.free 2, h.free 3, h.free 4, h.free 5, h.free 6⟩
abbrev st7 (w : World) (g : Nat) (b0 b1 b2 b3 b4 b5 b6 : Value) : World := (((((((w.setCell ⟨g, 0, none⟩ b0).setCell ⟨g, 1, none⟩ b1).setCell ⟨g, 2, none⟩ b2).setCell ⟨g, 3, none⟩ b3).setCell ⟨g, 4, none⟩ b4).setCell ⟨g, 5, none⟩ b5).setCell ⟨g, 6, none⟩ b6)
theorem Bx.s7 {w : World} {g : Nat} {a0 a1 a2 a3 a4 a5 a6 : Value} {T : TypeId} (h : Bx w g [a0, a1, a2, a3, a4, a5, a6] T) (b0 b1 b2 b3 b4 b5 b6 : Value) : Bx (st7 w g b0 b1 b2 b3 b4 b5 b6) g [b0, b1, b2, b3, b4, b5, b6] T := ((((((((((((((h).set 0 b0)).set 1 b1)).set 2 b2)).set 3 b3)).set 4 b4)).set 5 b5)).set 6 b6)
theorem below_s7 {B : Nat} {w0 w : World} {g : Nat} (h : Below B w0 w) (hg : B ≤ g) (b0 b1 b2 b3 b4 b5 b6 : Value) : Below B w0 (st7 w g b0 b1 b2 b3 b4 b5 b6) := ((((((((((((((h).setCell (p := ⟨g, 0, none⟩) hg b0)).setCell (p := ⟨g, 1, none⟩) hg b1)).setCell (p := ⟨g, 2, none⟩) hg b2)).setCell (p := ⟨g, 3, none⟩) hg b3)).setCell (p := ⟨g, 4, none⟩) hg b4)).setCell (p := ⟨g, 5, none⟩) hg b5)).setCell (p := ⟨g, 6, none⟩) hg b6)
theorem Bx.c9 {w : World} {g : Nat} {a0 a1 a2 a3 a4 a5 a6 a7 a8 : Value} {T : TypeId} (h : Bx w g [a0, a1, a2, a3, a4, a5, a6, a7, a8] T) : w.cell? ⟨g, 0, none⟩ = some a0 ∧ w.cell? ⟨g, 1, none⟩ = some a1 ∧ w.cell? ⟨g, 2, none⟩ = some a2 ∧ w.cell? ⟨g, 3, none⟩ = some a3 ∧ w.cell? ⟨g, 4, none⟩ = some a4 ∧ w.cell? ⟨g, 5, none⟩ = some a5 ∧ w.cell? ⟨g, 6, none⟩ = some a6 ∧ w.cell? ⟨g, 7, none⟩ = some a7 ∧ w.cell? ⟨g, 8, none⟩ = some a8 := ⟨h.cells 0, h.cells 1, h.cells 2, h.cells 3, h.cells 4, h.cells 5, h.cells 6, h.cells 7, h.cells 8⟩
theorem keep_s2 (w : World) {g : Nat} (b0 b1 : Value) (b o : Nat) (h : b ≠ g) : (st2 w g b0 b1).cell? ⟨b, o, none⟩ = w.cell? ⟨b, o, none⟩ := by
  have far : ∀ (V : World) (j : Nat) (v : Value), (V.setCell ⟨g, j, none⟩ v).cell? ⟨b, o, none⟩ = V.cell? ⟨b, o, none⟩ := fun V j v => World.cell?_setCell_far _ _ _ _ (by simp only [ne_eq]; exact fun e => h e.symm)
  simp only [st2, far]
theorem keep_s6 (w : World) {g : Nat} (b0 b1 b2 b3 b4 b5 : Value) (b o : Nat) (h : b ≠ g) : (st6 w g b0 b1 b2 b3 b4 b5).cell? ⟨b, o, none⟩ = w.cell? ⟨b, o, none⟩ := by
  have far : ∀ (V : World) (j : Nat) (v : Value), (V.setCell ⟨g, j, none⟩ v).cell? ⟨b, o, none⟩ = V.cell? ⟨b, o, none⟩ := fun V j v => World.cell?_setCell_far _ _ _ _ (by simp only [ne_eq]; exact fun e => h e.symm)
  simp only [st6, far]
theorem keep_s7 (w : World) {g : Nat} (b0 b1 b2 b3 b4 b5 b6 : Value) (b o : Nat) (h : b ≠ g) : (st7 w g b0 b1 b2 b3 b4 b5 b6).cell? ⟨b, o, none⟩ = w.cell? ⟨b, o, none⟩ := by
  have far : ∀ (V : World) (j : Nat) (v : Value), (V.setCell ⟨g, j, none⟩ v).cell? ⟨b, o, none⟩ = V.cell? ⟨b, o, none⟩ := fun V j v => World.cell?_setCell_far _ _ _ _ (by simp only [ne_eq]; exact fun e => h e.symm)
  simp only [st7, far]
theorem Bx.f9 {w : World} {g : Nat} {a0 a1 a2 a3 a4 a5 a6 a7 a8 : Value} {T : TypeId} (h : Bx w g [a0, a1, a2, a3, a4, a5, a6, a7, a8] T) : w.frozen? ⟨g, 0, none⟩ = false ∧ w.frozen? ⟨g, 1, none⟩ = false ∧ w.frozen? ⟨g, 2, none⟩ = false ∧ w.frozen? ⟨g, 3, none⟩ = false ∧ w.frozen? ⟨g, 4, none⟩ = false ∧ w.frozen? ⟨g, 5, none⟩ = false ∧ w.frozen? ⟨g, 6, none⟩ = false ∧ w.frozen? ⟨g, 7, none⟩ = false ∧ w.frozen? ⟨g, 8, none⟩ = false := ⟨h.free 0, h.free 1, h.free 2, h.free 3, h.free 4, h.free 5, h.free 6, h.free 7, h.free 8⟩
abbrev st9 (w : World) (g : Nat) (b0 b1 b2 b3 b4 b5 b6 b7 b8 : Value) : World := (((((((((w.setCell ⟨g, 0, none⟩ b0).setCell ⟨g, 1, none⟩ b1).setCell ⟨g, 2, none⟩ b2).setCell ⟨g, 3, none⟩ b3).setCell ⟨g, 4, none⟩ b4).setCell ⟨g, 5, none⟩ b5).setCell ⟨g, 6, none⟩ b6).setCell ⟨g, 7, none⟩ b7).setCell ⟨g, 8, none⟩ b8)
theorem Bx.s9 {w : World} {g : Nat} {a0 a1 a2 a3 a4 a5 a6 a7 a8 : Value} {T : TypeId} (h : Bx w g [a0, a1, a2, a3, a4, a5, a6, a7, a8] T) (b0 b1 b2 b3 b4 b5 b6 b7 b8 : Value) : Bx (st9 w g b0 b1 b2 b3 b4 b5 b6 b7 b8) g [b0, b1, b2, b3, b4, b5, b6, b7, b8] T := ((((((((((((((((((h).set 0 b0)).set 1 b1)).set 2 b2)).set 3 b3)).set 4 b4)).set 5 b5)).set 6 b6)).set 7 b7)).set 8 b8)
theorem below_s9 {B : Nat} {w0 w : World} {g : Nat} (h : Below B w0 w) (hg : B ≤ g) (b0 b1 b2 b3 b4 b5 b6 b7 b8 : Value) : Below B w0 (st9 w g b0 b1 b2 b3 b4 b5 b6 b7 b8) := ((((((((((((((((((h).setCell (p := ⟨g, 0, none⟩) hg b0)).setCell (p := ⟨g, 1, none⟩) hg b1)).setCell (p := ⟨g, 2, none⟩) hg b2)).setCell (p := ⟨g, 3, none⟩) hg b3)).setCell (p := ⟨g, 4, none⟩) hg b4)).setCell (p := ⟨g, 5, none⟩) hg b5)).setCell (p := ⟨g, 6, none⟩) hg b6)).setCell (p := ⟨g, 7, none⟩) hg b7)).setCell (p := ⟨g, 8, none⟩) hg b8)
theorem keep_s9 (w : World) {g : Nat} (b0 b1 b2 b3 b4 b5 b6 b7 b8 : Value) (b o : Nat) (h : b ≠ g) : (st9 w g b0 b1 b2 b3 b4 b5 b6 b7 b8).cell? ⟨b, o, none⟩ = w.cell? ⟨b, o, none⟩ := by
  have far : ∀ (V : World) (j : Nat) (v : Value), (V.setCell ⟨g, j, none⟩ v).cell? ⟨b, o, none⟩ = V.cell? ⟨b, o, none⟩ := fun V j v => World.cell?_setCell_far _ _ _ _ (by simp only [ne_eq]; exact fun e => h e.symm)
  simp only [st9, far]
end Go.Proofs.Ytchoipmfngcdoaa.Mg
namespace Go.Proofs.Ytchoipmfngcdoaa.Pt
open Go.RowKit
set_option maxRecDepth 100000

theorem set_drop {name : ByteArray} : ∀ {t : Tr}, t.atIs name = true → ∃ r, t.dropT (t.atN name) = .cons name (kidT t name) r
  | .nil, h => by simp [Tr.atIs, Tr.atN, dropT_zero, Tr.headIs] at h
  | .cons s k r, h => by
    rcases cases3 s name with c1 | ⟨c1, c2⟩ | ⟨c1, c2, _⟩
    · rw [atIs_lt c1] at h
      obtain ⟨r', h2⟩ := set_drop h
      rw [atN_lt c1, kidT_lt c1]
      exact ⟨r', h2⟩
    · have e := names_of_eq c2
      subst e
      rw [atN_ge c1, kidT_eq c1 c2]
      exact ⟨r, by rw [dropT_zero]⟩
    · rw [atIs_ge c1, c2] at h; cases h
def K2P (w : World) (B : Nat) (k : Tr) (v : Bool) (e : Ending) (w' : World) : Prop :=
  ∃ A' n' c', e = .returned (.tuple #[.slice A' n' c', .bool v]) ∧ Holds w B A' n' k ∧ n' ≤ c' ∧ c' ≤ maxLen ∧ ∃ q, w' = w.drewN q

set_option maxHeartbeats 1000000 in
theorem kid2_any (t : Tr) (A : Option Addr) (n c B : Nat) (name : ByteArray) (w : World) (h : Holds w B A n t) (hB : B ≤ w.heap.size) (hn : n ≤ 140737488351232) :
    Calls Try.prog 26 #[.slice A n c, .string name] w (K2P w B (kidT t name) (t.atIs name)) := by
  have HA := Lib.hid (at_any t A n c B name w h hB hn)
  have hl := h.len
  by_cases hi : t.atIs name = true
  · obtain ⟨r, hdr⟩ := set_drop hi
    have hlt := drop_lt hdr
    rw [hi] at HA ⊢
    obtain ⟨k, hk⟩ : ∃ k, k = t.atN name := ⟨_, rfl⟩
    rw [← hk] at HA hlt hdr
    obtain ⟨b, o, s, kt, r', A', n', c', rfl, hb, hs, hc, hn', hc', hk', hr, hd, hd2⟩ := h.split k (by omega)
    have hkn : (k : Int) < (n : Int) := by omega
    have hk0 : (0 : Int) ≤ (k : Int) := by omega
    have e : kt = kidT t name := by
      rw [hdr] at hd
      injection hd with _ h2 _
      exact h2.symm
    rw [e] at hk'
    clear hk hd hd2 hi hl hdr e
    go_enter Try.func26, Try.ntmps26
    go_wp2_with fail
    refine HA.out.mono ?_
    rintro e _ ⟨rfl, q, rfl⟩
    go_wp2_with fail
    go_ret2
    exact ⟨A', n', c', rfl, hk', hn', hc', q, rfl⟩
  · have hi2 : t.atIs name = false := by simpa using hi
    have hkn := kidT_not hi2
    rw [hi2] at HA ⊢
    rw [hkn]
    obtain ⟨k, hk⟩ : ∃ k, k = t.atN name := ⟨_, rfl⟩
    rw [← hk] at HA
    clear hi hi2 hk h hl hn hkn
    go_enter Try.func26, Try.ntmps26
    go_wp2_with fail
    refine HA.out.mono ?_
    rintro e _ ⟨rfl, q, rfl⟩
    go_wp2_with fail
    go_ret2
    exact ⟨none, 0, 0, rfl, rfl, Nat.le_refl _, Nat.zero_le _, q, rfl⟩

/-- Names of at most 30 bytes. -/
def Short : Tr → Prop
  | .nil => True
  | .cons s k r => s.size ≤ 30 ∧ Short k ∧ Short r
theorem short_kid : ∀ {t : Tr} {name : ByteArray}, Short t → Short (kidT t name)
  | .nil, _, _ => trivial
  | .cons s k r, name, ⟨_, h2, h3⟩ => by
    rcases cases3 s name with c1 | ⟨c1, c2⟩ | ⟨c1, c2, _⟩
    · rw [kidT_lt c1]; exact short_kid h3
    · rw [kidT_eq c1 c2]; exact h2
    · rw [kidT_gt c1 c2]; trivial
theorem short_drop : ∀ {t : Tr} (i : Nat), Short t → Short (t.dropT i)
  | t, 0, h => by rw [dropT_zero]; exact h
  | .nil, _ + 1, _ => trivial
  | .cons _ _ _, i + 1, h => short_drop i h.2.2
theorem src_str (W : World) (s : ByteArray) (g : Nat) (hg : g = W.heap.size) : Src Try.prog 1 35 (.slice (some ⟨g, 0, none⟩) 1 1) 1 (strs [s]) (W.alloc (Obj.cells #[Value.string s] 9)) :=
  hg ▸ Src.laid Try.underlying35 rfl (fun j u hu => by rw [cell_of_row _ _ _ _ _ _ (heap_alloc_new W _), ← hu]; simp [strs]) (strs_one _)
theorem tdiv7_wf {x : Int} (h1 : -9223372036854775808 ≤ x) (h2 : x ≤ 9223372036854775807) : (Lit.int .i64 (x.tdiv 7)).wf = true := by
  refine WalkArith.wf_i64 ?_
  rcases Int.le_total 0 x with h | h
  · rw [Int.tdiv_eq_ediv_of_nonneg h]; omega
  · have e : x.tdiv 7 = -((-x) / 7) := by
      rw [← Int.tdiv_eq_ediv_of_nonneg (by omega), Int.neg_tdiv, Int.neg_neg]
    rw [e]; omega
/-- A path: at most six names. -/
def PathP (w : World) (e : Ending) (w' : World) : Prop :=
  ∃ (A' : Option Addr) (n' c' : Nat) (ps : List ByteArray), e = .returned (.slice A' n' c') ∧ ps.length ≤ 6 ∧ n' ≤ c' ∧ SeesV w' w'.heap.size A' n' (ps.map Value.string) ∧ (∀ s ∈ ps, s.size ≤ 30) ∧ Below w.heap.size w w'
structure PathI (w wr : World) (Au Ap : Option Addr) (nu cu k cp : Nat) (u : Tr) (ps : List ByteArray) : Prop where
  holds : Holds wr w.heap.size Au nu u
  short : Short u
  size : u.size ≤ 1000
  row : wr.ownsRow w.heap.size 9 1 (.slice Ap k cp) k (strs ps)
  small : ∀ s ∈ ps, s.size ≤ 30
  below : Below w.heap.size w wr
theorem PathI.len {w wr : World} {Au Ap : Option Addr} {nu cu k cp : Nat} {u : Tr} {ps : List ByteArray} (h : PathI w wr Au Ap nu cu k cp u ps) : nu ≤ 1000 := by
  have := h.holds.len
  have := u.len_size
  have := h.size
  omega
theorem PathI.drew {w wr : World} {Au Ap : Option Addr} {nu cu k cp : Nat} {u : Tr} {ps : List ByteArray} (h : PathI w wr Au Ap nu cu k cp u ps) (q : Nat) : PathI w (wr.drewN q) Au Ap nu cu k cp u ps :=
  ⟨h.holds.drewN q, h.short, h.size, by exact h.row, h.small, below_drewN h.below q⟩

theorem PathI.push {w wr W w4 : World} {Au Ap A4 : Option Addr} {nu cu k cp c4 : Nat} {u : Tr} {ps : List ByteArray} {s : ByteArray} (h : PathI w wr Au Ap nu cu k cp u ps) (hW : Below wr.heap.size wr W) (ho : w4.ownsRow w.heap.size 9 1 (.slice A4 (k + 1) c4) (k + 1) (strs ps ++ strs [s])) (hg : W.grownBy w4 (Value.slice Ap k cp).ownBlock) (hs : s.size ≤ 30) :
    PathI w w4 Au A4 nu cu (k + 1) c4 u (ps ++ [s]) ∧ ∃ g4, A4 = some ⟨g4, 0, none⟩ ∧ g4 < w4.heap.size ∧ w4.cell? ⟨g4, k, none⟩ = some (.string s) := by
  have hp := h.row.1
  rw [strs, List.length_map, Nat.mul_one] at hp
  have hb : Below w.heap.size w w4 := (h.below.trans (hW.mono h.below.size)).grown hg (Nat.le_trans h.below.size hW.size) (fun q hq => (h.row.lt q hq).1)
  have hbr : Below w.heap.size wr w4 := (hW.mono h.below.size).grown hg (Nat.le_trans h.below.size hW.size) (fun q hq => (h.row.lt q hq).1)
  have hst : strs ps ++ strs [s] = strs (ps ++ [s]) := by simp [strs]
  refine ⟨⟨h.holds.below hbr, h.short, h.size, by rw [← hst]; exact ho, fun x hx => ?_, hb⟩, ?_⟩
  · rcases List.mem_append.1 hx with hx | hx
    · exact h.small x hx
    · simp only [List.mem_cons, List.not_mem_nil, or_false] at hx
      rw [hx]; exact hs
  · rcases ho.2 with ⟨e1, e2⟩ | ⟨g, cap, cur, e1, hg1, hh, hcap, hmx, hsz, htk⟩
    · omega
    · injection e1 with a1 a2 a3
      subst a1
      refine ⟨g, rfl, (Array.getElem?_eq_some_iff.1 hh).1, ?_⟩
      have := rowCells ho k (.string s) (by rw [hst, strs, List.getElem?_map, List.getElem?_append_right (by omega)]; simp [hp])
      rw [Addr.add_lit, Nat.zero_add] at this
      exact this
theorem PathI.kid {w wr : World} {Au Ap A5 : Option Addr} {nu cu k cp n5 c5 : Nat} {u v : Tr} {ps : List ByteArray} (h : PathI w wr Au Ap nu cu k cp u ps) (q : Nat) (hv : Holds wr w.heap.size A5 n5 v) (hs : Short v) (hz : v.size ≤ 1000) : PathI w (wr.drewN q) A5 Ap n5 c5 k cp v ps :=
  ⟨hv.drewN q, hs, hz, by exact h.row, h.small, below_drewN h.below q⟩

end Go.Proofs.Ytchoipmfngcdoaa.Pt
namespace Go.Proofs.Ytchoipmfngcdoaa.Pt
open Go.RowKit
set_option maxRecDepth 100000

theorem low_size : ∀ t : Tr, t.size ≤ 140737488351232 → t.Low
  | .nil, _ => trivial
  | .cons _ k r, h => by
    simp only [Tr.size] at h
    have := k.len_size
    exact ⟨by omega, low_size k (by omega), low_size r (by omega)⟩
structure OkT (W : World) (A : Option Addr) (n c : Nat) (t : Tr) : Prop where
  holds : Holds W W.heap.size A n t
  cap : n ≤ c ∧ c ≤ maxLen
theorem OkT.below {w w' : World} {A : Option Addr} {n c : Nat} {t : Tr} (h : OkT w A n c t) (hb : Below w.heap.size w w') : OkT w' A n c t := ⟨(h.holds.below hb).more hb.size, h.cap⟩
structure Pth (W : World) (A : Option Addr) (n c : Nat) (ps : List ByteArray) : Prop where
  sees : SeesV W W.heap.size A n (ps.map Value.string)
  cap : n ≤ c
  few : ps.length ≤ 6
theorem seesV_more {w : World} {B B' n : Nat} {A : Option Addr} {vs : List Value} (h : SeesV w B A n vs) (hB : B ≤ B') : SeesV w B' A n vs :=
  ⟨h.len, fun j u hu => by
    obtain ⟨b, o, e, hb, hc⟩ := h.cell j u hu
    exact ⟨b, o, e, Nat.lt_of_lt_of_le hb hB, hc⟩⟩
theorem Pth.below {w w' : World} {A : Option Addr} {n c : Nat} {ps : List ByteArray} (h : Pth w A n c ps) (hb : Below w.heap.size w w') : Pth w' A n c ps := ⟨seesV_more (h.sees.below hb) hb.size, h.cap, h.few⟩
theorem Pth.len {w : World} {A : Option Addr} {n c : Nat} {ps : List ByteArray} (h : Pth w A n c ps) : n = ps.length := by have := h.sees.len; rwa [List.length_map] at this

theorem withT_size {name : ByteArray} {x : Tr} : ∀ {t : Tr}, (t.withT name x).size ≤ t.size + x.size + 1
  | .nil => by simp [Tr.withT, Tr.size]
  | .cons s k r => by
    have := withT_size (name := name) (x := x) (t := r)
    unfold Tr.withT
    split
    · simp only [Tr.size]; omega
    · split
      · simp only [Tr.size]; omega
      · simp only [Tr.size]; omega
theorem putT_size {x : Tr} : ∀ (ps : List ByteArray) (t : Tr) (N : Nat), t.size ≤ N → (putT t ps x).size ≤ ps.length * (N + 1) + x.size
  | [], _, _, _ => by simp [putT]
  | p :: ps, t, N, h => by
    have h1 := putT_size (x := x) ps (kidT t p) N (Nat.le_trans (kidT_size t p) h)
    have h2 := withT_size (name := p) (x := putT (kidT t p) ps x) (t := t)
    rw [putT]
    simp only [List.length_cons, Nat.add_mul, Nat.one_mul] at h1 ⊢
    omega
theorem withoutT_size {name : ByteArray} : ∀ {t : Tr}, (withoutT t name).size ≤ t.size
  | .nil => Nat.le_refl _
  | .cons s k r => by
    have := withoutT_size (name := name) (t := r)
    rcases cases3 s name with c1 | ⟨c1, c2⟩ | ⟨c1, c2, _⟩
    · rw [withoutT_lt c1]; simp only [Tr.size]; omega
    · rw [withoutT_eq c1 c2]; simp only [Tr.size]; omega
    · rw [withoutT_gt c1 c2]; exact Nat.le_refl _
theorem dropP_size : ∀ (ps : List ByteArray) (t : Tr) (N : Nat), t.size ≤ N → (dropP t ps).size ≤ ps.length * (N + 1)
  | [], _, _, _ => by simp [dropP, Tr.size]
  | [p], t, N, h => by
    have := withoutT_size (name := p) (t := t)
    unfold dropP
    simp only [List.length_cons, List.length_nil, Nat.zero_add, Nat.one_mul]
    split <;> omega
  | p :: q :: ps, t, N, h => by
    have h1 := dropP_size (q :: ps) (kidT t p) N (Nat.le_trans (kidT_size t p) h)
    have h2 := withT_size (name := p) (x := dropP (kidT t p) (q :: ps)) (t := t)
    unfold dropP
    simp only [List.length_cons, Nat.add_mul, Nat.one_mul] at h1 ⊢
    split <;> omega
theorem mul_few {a b N : Nat} (h : a ≤ 6) (hb : b ≤ N) : a * (b + 1) ≤ 6 * (N + 1) := Nat.mul_le_mul h (by omega)
theorem makeT_ascD (W : Nat) : ∀ (t : Tr) (l d : Nat) (acc : Tr), AscD acc → AscD (t.makeT W l d acc)
  | .nil, _, _, _, h => by simpa [Tr.makeT] using h
  | .cons s k r, l, d, acc, h => by
    unfold Tr.makeT
    split
    · exact h
    · exact makeT_ascD W r _ _ _ (withT_ascD (makeT_ascD W k _ _ .nil trivial) h)
theorem withT_short {s : ByteArray} {x : Tr} (hs : s.size ≤ 30) (hx : Short x) : ∀ {t : Tr}, Short t → Short (t.withT s x)
  | .nil, _ => ⟨hs, hx, trivial⟩
  | .cons s0 k r, ⟨h1, h2, h3⟩ => by
    unfold Tr.withT
    split
    · exact ⟨h1, h2, withT_short hs hx h3⟩
    · split
      · exact ⟨hs, hx, h3⟩
      · exact ⟨hs, hx, h1, h2, h3⟩
theorem cut30_short (s : ByteArray) : (cut30 s).size ≤ 30 := by
  unfold cut30
  rw [ByteArray.size_extract]
  omega
theorem makeT_short (W : Nat) : ∀ (t : Tr) (l d : Nat) (acc : Tr), Short acc → Short (t.makeT W l d acc)
  | .nil, _, _, _, h => by simpa [Tr.makeT] using h
  | .cons s k r, l, d, acc, h => by
    unfold Tr.makeT
    split
    · exact h
    · exact makeT_short W r _ _ _ (withT_short (cut30_short s) (makeT_short W k _ _ .nil trivial) h)

/-! The contracts in these words. -/
section
variable {W : World} {A A2 Ap An : Option Addr} {n c n2 c2 np cp nn cn : Nat} {t u : Tr} {ps : List ByteArray} {ns : List Int}
def OkP (W : World) (t : Tr) (e : Ending) (w' : World) : Prop := ∃ A' n' c', e = .returned (.slice A' n' c') ∧ OkT w' A' n' c' t ∧ Below W.heap.size W w'
def OkG (W : World) (t : Tr) (v : Bool) (e : Ending) (w' : World) : Prop := ∃ A' n' c', e = .returned (.tuple #[.slice A' n' c', .bool v]) ∧ OkT w' A' n' c' t ∧ Below W.heap.size W w'
theorem same_ok (h : OkT W A n c t) (h2 : OkT W A2 n2 c2 u) (hz : t.size ≤ 1000000) (hz2 : u.size ≤ 1000000) {v : Bool} (hv : t.same u = v) : Calls Try.prog 19 #[.slice A n c, .slice A2 n2 c2] W fun e w' => e = .returned (.bool v) ∧ Below W.heap.size W w' := by
  have h1 := h.holds.len
  have h3 := h2.holds.len
  have := t.len_size
  have := u.len_size
  have := rsame_any t.size t u A A2 n n2 c c2 W.heap.size W (Nat.le_refl _) h.holds h2.holds (Nat.le_refl _) (by omega) (by omega) (low_size t (by omega)) (low_size u (by omega))
  rw [hv] at this
  exact this.mono fun _ _ ⟨e, q, hq⟩ => ⟨e, hq ▸ below_drewN (Below.refl _ _) q⟩
def OkN (W : World) (e : Ending) (w' : World) : Prop := ∃ (A' : Option Addr) (n' c' : Nat) (ps : List ByteArray), e = .returned (.slice A' n' c') ∧ Pth w' A' n' c' ps ∧ (∀ s ∈ ps, s.size ≤ 30) ∧ Below W.heap.size W w'
end
end Go.Proofs.Ytchoipmfngcdoaa.Pt
namespace Go.Proofs.Ytchoipmfngcdoaa.Mg
open Go.RowKit Go.Proofs.Ytchoipmfngcdoaa.Pt Go.Proofs.Ytchoipmfngcdoaa.Df Go.Proofs.Ytchoipmfngcdoaa.Sc Go.Proofs.Ytchoipmfngcdoaa.Cl
set_option maxRecDepth 100000

/-- The slice reads as the tree, in blocks that P picks. -/
structure OpP (w : World) (P : Nat → Prop) (A : Option Addr) (n c : Nat) (x : Op) : Prop where
  holds : HoldsP w P A n x.t
  cap : n ≤ c ∧ c ≤ maxLen
theorem OpP.keep {w w' : World} {P : Nat → Prop} {A : Option Addr} {n c : Nat} {x : Op} (h : OpP w P A n c x) (hk : ∀ b o, P b → w'.cell? ⟨b, o, none⟩ = w.cell? ⟨b, o, none⟩) : OpP w' P A n c x := ⟨h.holds.keep hk, h.cap⟩
theorem OpP.more {w : World} {P P' : Nat → Prop} {A : Option Addr} {n c : Nat} {x : Op} (h : OpP w P A n c x) (hP : ∀ b, P b → P' b) : OpP w P' A n c x := ⟨h.holds.more hP, h.cap⟩
/-- It lies below a block. -/
abbrev OpB (w : World) (B : Nat) (A : Option Addr) (n c : Nat) (x : Op) : Prop := OpP w (· < B) A n c x
theorem OpP.toB {w : World} {B : Nat} {P : Nat → Prop} {A : Option Addr} {n c : Nat} {x : Op} (h : OpP w P A n c x) (hP : ∀ b, P b → b < B) : OpB w B A n c x := h.more hP
theorem OpP.below {w w' : World} {B : Nat} {A : Option Addr} {n c : Nat} {x : Op} (h : OpB w B A n c x) (hb : Below B w w') : OpB w' B A n c x := h.keep fun b o hp => hb.cell (p := ⟨b, o, none⟩) hp
theorem OpP.hold {w : World} {B : Nat} {A : Option Addr} {n c : Nat} {x : Op} (h : OpB w B A n c x) : Holds w B A n x.t := h.holds.to fun _ hb => hb
/-- New: it lies in blocks of the call's own. -/
abbrev OpN (w w' : World) (A : Option Addr) (n c : Nat) (x : Op) : Prop := OpP w' (fun b => w.heap.size ≤ b ∧ b < w'.heap.size) A n c x
/-- Few edges, in order; nothing has none. -/
structure OpK (x : Op) : Prop where
  asc : AscD x.t
  size : x.t.size ≤ 100000
  nil : x.is = false → x.t = .nil
theorem OpK.below {x : Op} (h : OpK x) (s : ByteArray) : OpK (x.below s) :=
  ⟨kidT_asc h.asc, Nat.le_trans (kidT_size x.t s) h.size, fun e => kidT_not e⟩
def opv (x : Op) (A : Option Addr) (n c : Nat) : Value := .agg #[.bool x.is, .slice A n c]

set_option maxHeartbeats 1000000 in
theorem osame_any (x y : Op) (A A2 : Option Addr) (n c n2 c2 B : Nat) (w : World) (h : OpB w B A n c x) (h2 : OpB w B A2 n2 c2 y) (hB : B ≤ w.heap.size) (hz : x.t.size ≤ 100000) :
    Calls Try.prog 39 #[.agg #[.bool x.is, .slice A n c], .agg #[.bool y.is, .slice A2 n2 c2]] w fun e w' => e = .returned (.bool (x.same y)) ∧ Below w.heap.size w w' := by
  obtain ⟨W1, hW1⟩ : ∃ W, W = w.alloc (Obj.cells #[.bool x.is, .slice A n c] 61) := ⟨_, rfl⟩
  obtain ⟨W2, hW2⟩ : ∃ W, W = W1.alloc (Obj.cells #[.bool y.is, .slice A2 n2 c2] 61) := ⟨_, rfl⟩
  have hb1 : Below w.heap.size w W1 := by rw [hW1]; exact (Below.refl _ _).alloc (Nat.le_refl _) _
  have hg1 : W1.heap[w.heap.size]? = some (Obj.cells #[.bool x.is, .slice A n c] 61) := by rw [hW1]; exact heap_alloc_new w _
  have hz1 : W1.heap.size = w.heap.size + 1 := by rw [hW1]; simp
  have hb2 : Below W1.heap.size W1 W2 := by rw [hW2]; exact (Below.refl _ _).alloc (Nat.le_refl _) _
  have hg2 : W2.heap[w.heap.size + 1]? = some (Obj.cells #[.bool y.is, .slice A2 n2 c2] 61) := by rw [hW2, ← hz1]; exact heap_alloc_new W1 _
  have hg1' : W2.heap[w.heap.size]? = some (Obj.cells #[.bool x.is, .slice A n c] 61) := (hb2.block _ (by omega)).trans hg1
  have c1 : W2.cell? ⟨w.heap.size, 0, none⟩ = some (.bool x.is) := by rw [cell_of_row _ _ _ _ _ _ hg1']; rfl
  have c2' : W2.cell? ⟨w.heap.size, 1, none⟩ = some (.slice A n c) := by rw [cell_of_row _ _ _ _ _ _ hg1']; rfl
  have c3 : W2.cell? ⟨w.heap.size + 1, 0, none⟩ = some (.bool y.is) := by rw [cell_of_row _ _ _ _ _ _ hg2]; rfl
  have c4 : W2.cell? ⟨w.heap.size + 1, 1, none⟩ = some (.slice A2 n2 c2) := by rw [cell_of_row _ _ _ _ _ _ hg2]; rfl
  have hb12 : Below w.heap.size w W2 := hb1.trans (hb2.mono hb1.size)
  have HB := Lib.hid hb12
  have HS := Lib.hid (tsame_any x.t y.t A A2 n n2 c c2 w.heap.size W2 (((h.toB fun _ hp => Nat.lt_of_lt_of_le hp hB).below hb12).hold) (((h2.toB fun _ hp => Nat.lt_of_lt_of_le hp hB).below hb12).hold) hb12.size (by omega))
  obtain ⟨xi, xt⟩ := x
  obtain ⟨yi, yt⟩ := y
  simp only at *
  have hv : ∃ v, v = xt.same yt := ⟨_, rfl⟩
  obtain ⟨v, hv⟩ := hv
  rw [← hv] at HS
  have Hv := Lib.hid hv
  clear h h2 hb1 hg1 hb2 hg2 hg1' hb12 hv hz1
  have Hb := Lib.hid HB.out
  cases hxy : (xi == yi) with
  | true =>
    have e : (Op.mk xi xt).same (Op.mk yi yt) = v := by simp [Op.same, hxy, Hv.out]
    rw [e]
    clear e
    go_enter Try.func39, Try.ntmps39
    go_wp2_with fail
    rw [← hW1, ← hW2]
    go_wp2_with fail
    (with_reducible refine HS.out.mono ?_)
    rintro e w5 ⟨rfl, h5⟩
    have H5 := Lib.hid (HB.out.trans h5)
    clear h5
    go_wp2_with fail
    go_ret
    exact ⟨rfl, H5.out⟩
  | false =>
    have e : (Op.mk xi xt).same (Op.mk yi yt) = false := by simp [Op.same, hxy]
    rw [e]
    clear e
    go_enter Try.func39, Try.ntmps39
    go_wp2_with fail
    rw [← hW1, ← hW2]
    go_wp2_with fail
    go_ret
    exact ⟨rfl, HB.out⟩

/-- The answer lies in new memory. -/
def FreshP (w : World) (x : Op) (e : Ending) (w' : World) : Prop := ∃ A' n' c', e = .returned (opv x A' n' c') ∧ OpN w w' A' n' c' x ∧ Below w.heap.size w w'
set_option maxHeartbeats 1000000 in
theorem fresh_any (x : Op) (A : Option Addr) (n c : Nat) (w : World) (h : OpB w w.heap.size A n c x) (hx : OpK x) :
    Calls Try.prog 51 #[opv x A n c] w (FreshP w x) := by
  obtain ⟨W2, hW2, hb, hz, g1, g2⟩ := boxes2 w [.bool x.is, .slice A n c] [.bool false, .slice none 0 0] 61 61
  obtain ⟨c1, c2⟩ := g1.c2
  have HB := Lib.hid hb
  have HG := Lib.hid (get_any x.t [] A none n c 0 0 W2 (((h.below hb).toB fun _ hp => Nat.lt_of_lt_of_le hp hb.size).hold) ⟨rfl, fun k u hk => by simp at hk⟩ hx.asc (by have := hx.size; omega) (by simp))
  have Hz := Lib.hid hz
  have HG2 := Lib.hid g2
  clear h hb g1 g2 hz
  unfold opv
  go_enter Try.func51, Try.ntmps51
  go_wp2_with fail
  rw [← hW2]
  go_wp2_with fail
  refine HG.out.mono ?_
  rintro e w5 ⟨A', n', c', rfl, hn', hc', hh, hb5⟩
  have c3 := (hb5.cell (p := ⟨w.heap.size, 0, none⟩) (by have := Hz.out; simp only; omega)).trans c1
  have g3 := HG2.out.below hb5 (by have := Hz.out; omega)
  obtain ⟨d0, d1⟩ := g3.c2
  obtain ⟨z0, z1⟩ := g3.f2
  have HG3 := Lib.hid g3
  have HH := Lib.hid hh
  have H5 := Lib.hid hb5
  have Hnc := Lib.hid (show n' ≤ c' ∧ c' ≤ maxLen from ⟨hn', hc'⟩)
  clear hh hb5 hn' hc' c1 c2 g3
  go_wp2_with fail
  obtain ⟨e0, e1⟩ := (HG3.out.s2 (.bool x.is) (.slice A' n' c')).c2
  refine bodyPost_ret (v := .agg #[.bool x.is, .slice A' n' c']) (by simp [results, Try.results51, go_sem, e0, e1]) rfl ?_
  have hz := Hz.out
  have h5s := H5.out.size
  refine ⟨A', n', c', rfl, ⟨?_, Hnc.out⟩, below_s2 (HB.out.trans (H5.out.mono HB.out.size)) (by omega) _ _⟩
  exact (HH.out.keep fun b o hp => keep_s2 w5 _ _ b o (by omega)).more fun b hp => ⟨by omega, by simpa using hp.2⟩

/-- A slice. -/
structure Sl where
  A : Option Addr
  n : Nat
  c : Nat
abbrev o3v (x y z : Op) (s1 s2 s3 : Sl) : Value := .agg #[.bool x.is, .slice s1.A s1.n s1.c, .bool y.is, .slice s2.A s2.n s2.c, .bool z.is, .slice s3.A s3.n s3.c]
abbrev OpN3 (w w' : World) (x y z : Op) (s1 s2 s3 : Sl) : Prop := OpN w w' s1.A s1.n s1.c x ∧ OpN w w' s2.A s2.n s2.c y ∧ OpN w w' s3.A s3.n s3.c z
def ThreeP (w : World) (x y z : Op) (e : Ending) (w' : World) : Prop := ∃ s1 s2 s3, e = .returned (o3v x y z s1 s2 s3) ∧ OpN3 w w' x y z s1 s2 s3 ∧ Below w.heap.size w w'
theorem OpN.grow {w w1 w2 w3 : World} {A : Option Addr} {n c : Nat} {x : Op} (h : OpN w1 w2 A n c x) (h1 : w.heap.size ≤ w1.heap.size) (hb : Below w2.heap.size w2 w3) : OpN w w3 A n c x :=
  (h.keep fun b o hp => hb.cell (p := ⟨b, o, none⟩) hp.2).more fun _ hp => ⟨Nat.le_trans h1 hp.1, Nat.lt_of_lt_of_le hp.2 hb.size⟩
/-- A store into a block older than the answer. -/
theorem OpN.s6 {w w1 w2 : World} {A : Option Addr} {n c g : Nat} {x : Op} (h : OpN w1 w2 A n c x) (h1 : w.heap.size ≤ w1.heap.size) (hg : g < w1.heap.size) (b0 b1 b2 b3 b4 b5 : Value) : OpN w (st6 w2 g b0 b1 b2 b3 b4 b5) A n c x :=
  (h.keep fun b o hp => keep_s6 w2 _ _ _ _ _ _ b o (by omega)).more fun _ hp => ⟨Nat.le_trans h1 hp.1, by simpa using hp.2⟩
theorem OpN.s7 {w w1 w2 : World} {A : Option Addr} {n c g : Nat} {x : Op} (h : OpN w1 w2 A n c x) (h1 : w.heap.size ≤ w1.heap.size) (hg : g < w1.heap.size) (b0 b1 b2 b3 b4 b5 b6 : Value) : OpN w (st7 w2 g b0 b1 b2 b3 b4 b5 b6) A n c x :=
  (h.keep fun b o hp => keep_s7 w2 _ _ _ _ _ _ _ b o (by omega)).more fun _ hp => ⟨Nat.le_trans h1 hp.1, by simpa using hp.2⟩
theorem box1 (w : World) (us : List Value) (T : TypeId) : ∃ W, W = w.alloc (Obj.cells us.toArray T) ∧ Below w.heap.size w W ∧ W.heap.size = w.heap.size + 1 ∧ Bx W w.heap.size us T :=
  ⟨_, rfl, (Below.refl _ _).alloc (Nat.le_refl _) _, by simp, Bx.new w us T⟩

set_option maxHeartbeats 1000000 in
theorem alike_any (x : Op) (A : Option Addr) (n c : Nat) (w : World) (h : OpB w w.heap.size A n c x) (hx : OpK x) :
    Calls Try.prog 50 #[.func (.func 51) #[.agg #[.bool x.is, .slice A n c]] #[]] w (ThreeP w x x x) := by
  obtain ⟨W1, hW1, hb, hz, g1⟩ := box1 w [.bool false, .slice none 0 0, .bool false, .slice none 0 0, .bool false, .slice none 0 0] 63
  have HF := Lib.hid (fun (W : World) (hW : Below w.heap.size w W) => fresh_any x A n c W ((h.toB fun _ hp => hp).below hW |>.toB fun _ hp => Nat.lt_of_lt_of_le hp hW.size) hx)
  have H1 := Lib.hid (HF.out W1 hb)
  have HB := Lib.hid hb
  have Hz := Lib.hid hz
  have HG1 := Lib.hid g1
  clear h hb g1 hz
  unfold opv at H1
  go_enter Try.func50, Try.ntmps50
  go_wp2_with fail
  try rw [← hW1]
  go_wp2_with fail
  refine H1.out.mono ?_
  rintro e w2 ⟨A2, n2, c2, rfl, h2, hb2⟩
  have HN2 := Lib.hid h2
  have HB2 := Lib.hid (HB.out.trans (hb2.mono HB.out.size))
  have HL2 := Lib.hid hb2
  have H2 := Lib.hid (HF.out w2 HB2.out)
  clear h2 hb2 H1
  unfold opv at H2 ⊢
  go_wp2_with fail
  refine H2.out.mono ?_
  rintro e w3 ⟨A3, n3, c3, rfl, h3, hb3⟩
  have HN3 := Lib.hid h3
  have HB3 := Lib.hid (HB2.out.trans (hb3.mono HB2.out.size))
  have HL3 := Lib.hid hb3
  have H3 := Lib.hid (HF.out w3 HB3.out)
  clear h3 hb3 H2
  unfold opv at H3 ⊢
  go_wp2_with fail
  refine H3.out.mono ?_
  rintro e w4 ⟨A4, n4, c4, rfl, h4, hb4⟩
  have HN4 := Lib.hid h4
  have HL4 := Lib.hid hb4
  have g4 := ((HG1.out.below HL2.out (by have := Hz.out; omega)).below HL3.out (by have := Hz.out; have := HL2.out.size; omega)).below hb4 (by have := Hz.out; have := HL2.out.size; have := HL3.out.size; omega)
  obtain ⟨z0, z1, z2, z3, z4, z5⟩ := g4.f6
  obtain ⟨d0, d1, d2, d3, d4, d5⟩ := g4.c6
  have HG4 := Lib.hid g4
  clear h4 hb4 H3 g4
  unfold opv
  go_wp2_with fail
  have hz := Hz.out
  have s2 := HL2.out.size
  have s3 := HL3.out.size
  have s4 := HL4.out.size
  obtain ⟨e0, e1, e2, e3, e4, e5⟩ := (HG4.out.s6 (.bool x.is) (.slice A2 n2 c2) (.bool x.is) (.slice A3 n3 c3) (.bool x.is) (.slice A4 n4 c4)).c6
  refine bodyPost_ret (v := o3v x x x ⟨A2, n2, c2⟩ ⟨A3, n3, c3⟩ ⟨A4, n4, c4⟩) (by simp [results, Try.results50, go_sem, e0, e1, e2, e3, e4, e5]) rfl ?_
  have n2' := OpN.grow HN2.out (Nat.le_refl _) (HL3.out.trans (HL4.out.mono s3))
  have n3' := OpN.grow HN3.out s2 HL4.out
  have n4' := OpN.grow HN4.out (Nat.le_trans s2 s3) (Below.refl _ _)
  refine ⟨⟨A2, n2, c2⟩, ⟨A3, n3, c3⟩, ⟨A4, n4, c4⟩, rfl, ⟨OpN.s6 n2' (by omega) (by omega) .., OpN.s6 n3' (by omega) (by omega) .., OpN.s6 n4' (by omega) (by omega) ..⟩, below_s6 (HB3.out.trans (HL4.out.mono HB3.out.size)) (by omega) ..⟩
end Go.Proofs.Ytchoipmfngcdoaa.Mg
namespace Go.Proofs.Ytchoipmfngcdoaa.Mg
open Go.RowKit Go.Proofs.Ytchoipmfngcdoaa.Pt Go.Proofs.Ytchoipmfngcdoaa.Df Go.Proofs.Ytchoipmfngcdoaa.Sc Go.Proofs.Ytchoipmfngcdoaa.Cl
set_option maxRecDepth 100000

abbrev outv (x y z : Op) (s1 s2 s3 s4 : Sl) : Value := .agg #[.bool x.is, .slice s1.A s1.n s1.c, .bool y.is, .slice s2.A s2.n s2.c, .bool z.is, .slice s3.A s3.n s3.c, .slice s4.A s4.n s4.c]
abbrev zs7 : List Value := [.bool false, .slice none 0 0, .bool false, .slice none 0 0, .bool false, .slice none 0 0, .slice none 0 0]
abbrev nil4 : Sl := ⟨none, 0, 0⟩
abbrev zerov : Value := .agg #[.bool false, .slice none 0 0, .bool false, .slice none 0 0, .bool false, .slice none 0 0, .slice none 0 0]
/-- x is taken, or it is not. -/
def TakenP (w : World) (x : Op) (v : Bool) (e : Ending) (w' : World) : Prop :=
  ∃ (y : Op) (s1 s2 s3 : Sl), e = .returned (.tuple #[outv y y y s1 s2 s3 nil4, .bool v]) ∧ (v = true → y = x ∧ OpN3 w w' x x x s1 s2 s3) ∧ Below w.heap.size w w'

set_option maxHeartbeats 1000000 in
theorem taken_any (x : Op) (v : Bool) (A : Option Addr) (n c : Nat) (w : World) (h : OpB w w.heap.size A n c x) (hx : OpK x) :
    Calls Try.prog 38 #[.agg #[.bool x.is, .slice A n c], .bool v] w (TakenP w x v) := by
  obtain ⟨W2, hW2, hb, hz, g1, g2⟩ := boxes2 w [.bool x.is, .slice A n c] zs7 61 73
  obtain ⟨c1, c2⟩ := g1.c2
  have HA := Lib.hid (alike_any x A n c W2 (((h.below hb).toB fun _ hp => Nat.lt_of_lt_of_le hp hb.size)) hx)
  have HB := Lib.hid hb
  have Hz := Lib.hid hz
  have HG2 := Lib.hid g2
  clear h hb g1 hz
  cases v with
  | true =>
    clear g2
    go_enter Try.func38, Try.ntmps38
    go_wp2_with fail
    rw [← hW2]
    go_wp2_with fail
    refine HA.out.mono ?_
    rintro e w5 ⟨s1, s2, s3, rfl, hn, hb5⟩
    have g3 := HG2.out.below hb5 (by have := Hz.out; omega)
    obtain ⟨d0, d1, d2, d3, d4, d5, d6⟩ := g3.c7
    obtain ⟨z0, z1, z2, z3, z4, z5, z6⟩ := g3.f7
    have HG3 := Lib.hid g3
    have HN := Lib.hid hn
    have H5 := Lib.hid hb5
    clear hn hb5 c1 c2 g3
    obtain ⟨A1, n1, m1⟩ := s1
    obtain ⟨A2, n2, m2⟩ := s2
    obtain ⟨A3, n3, m3⟩ := s3
    go_wp2_with fail
    obtain ⟨e0, e1, e2, e3, e4, e5, e6⟩ := (HG3.out.s7 (.bool x.is) (.slice A1 n1 m1) (.bool x.is) (.slice A2 n2 m2) (.bool x.is) (.slice A3 n3 m3) (.slice none 0 0)).c7
    refine bodyPost_ret (v := .tuple #[outv x x x ⟨A1, n1, m1⟩ ⟨A2, n2, m2⟩ ⟨A3, n3, m3⟩ nil4, .bool true]) (by simp [results, Try.results38, go_sem, e0, e1, e2, e3, e4, e5, e6]) rfl ?_
    have hz := Hz.out
    have hbs := HB.out.size
    refine ⟨x, _, _, _, rfl, fun _ => ⟨rfl, HN.out.1.s7 hbs (by omega) .., HN.out.2.1.s7 hbs (by omega) .., HN.out.2.2.s7 hbs (by omega) ..⟩, below_s7 (HB.out.trans (H5.out.mono hbs)) (by omega) ..⟩
  | false =>
    obtain ⟨d0, d1, d2, d3, d4, d5, d6⟩ := g2.c7
    obtain ⟨z0, z1, z2, z3, z4, z5, z6⟩ := g2.f7
    clear g2
    go_enter Try.func38, Try.ntmps38
    go_wp2_with fail
    rw [← hW2]
    go_wp2_with fail
    refine bodyPost_ret (v := .tuple #[zerov, .bool false]) (by simp [results, Try.results38, go_sem, d0, d1, d2, d3, d4, d5, d6]) rfl ?_
    exact ⟨⟨false, .nil⟩, nil4, nil4, nil4, rfl, (fun e => by cases e), HB.out⟩

abbrev plc (S P : Sl) (d : Int) (o a b : Op) (so sa sb : Sl) : List Value := [.slice S.A S.n S.c, .slice P.A P.n P.c, .int .i64 d, .bool o.is, .slice so.A so.n so.c, .bool a.is, .slice sa.A sa.n sa.c, .bool b.is, .slice sb.A sb.n sb.c]
abbrev plv (S P : Sl) (d : Int) (o a b : Op) (so sa sb : Sl) : Value := .agg #[.slice S.A S.n S.c, .slice P.A P.n P.c, .int .i64 d, .bool o.is, .slice so.A so.n so.c, .bool a.is, .slice sa.A sa.n sa.c, .bool b.is, .slice sb.A sb.n sb.c]
/-- What a place has lies below a block. -/
structure Pl3 (w : World) (B : Nat) (o a b : Op) (so sa sb : Sl) : Prop where
  ho : OpB w B so.A so.n so.c o
  ha : OpB w B sa.A sa.n sa.c a
  hb : OpB w B sb.A sb.n sb.c b
theorem Pl3.below {w w' : World} {B : Nat} {o a b : Op} {so sa sb : Sl} (h : Pl3 w B o a b so sa sb) (hb : Below B w w') : Pl3 w' B o a b so sa sb := ⟨h.ho.below hb, h.ha.below hb, h.hb.below hb⟩
theorem Pl3.more {w : World} {B B' : Nat} {o a b : Op} {so sa sb : Sl} (h : Pl3 w B o a b so sa sb) (hB : B ≤ B') : Pl3 w B' o a b so sa sb := ⟨h.ho.toB fun _ h => Nat.lt_of_lt_of_le h hB, h.ha.toB fun _ h => Nat.lt_of_lt_of_le h hB, h.hb.toB fun _ h => Nat.lt_of_lt_of_le h hB⟩
structure K3 (o a b : Op) : Prop where
  o : OpK o
  a : OpK a
  b : OpK b

set_option maxHeartbeats 4000000 in
theorem equal_any (S P : Sl) (d : Int) (o a b : Op) (so sa sb : Sl) (w : World) (h : Pl3 w w.heap.size o a b so sa sb) (hk : K3 o a b) :
    Calls Try.prog 31 #[plv S P d o a b so sa sb] w (TakenP w a (a.same b)) := by
  obtain ⟨W2, hW2, hb, hz, g1, g2⟩ := boxes2 w (plc S P d o a b so sa sb) zs7 75 73
  have HL := Lib.hid (fun (W : World) (hW : Below W2.heap.size W2 W) => Bx.c9 (g1.below hW (by omega)))
  have HS := Lib.hid (fun (W : World) (hW : Below W2.heap.size W2 W) => osame_any a b sa.A sb.A sa.n sa.c sb.n sb.c w.heap.size W ((h.ha.below hb).below (hW.mono hb.size)) ((h.hb.below hb).below (hW.mono hb.size)) (Nat.le_trans hb.size hW.size) hk.a.size)
  have HT := Lib.hid (fun (W : World) (hW : Below W2.heap.size W2 W) => taken_any a (a.same b) sa.A sa.n sa.c W (((h.ha.below hb).below (hW.mono hb.size)).toB fun _ hp => Nat.lt_of_lt_of_le hp (Nat.le_trans hb.size hW.size)) hk.a)
  obtain ⟨v, hv⟩ : ∃ v, v = a.same b := ⟨_, rfl⟩
  have HB := Lib.hid hb
  have Hz := Lib.hid hz
  have HG2 := Lib.hid g2
  have hl0 := HL.out W2.drew (Below.refl _ _).drew
  rw [← hv] at HS HT ⊢
  clear h hb g1 hz g2 hk hv
  obtain ⟨oi, ot⟩ := o
  obtain ⟨ai, at_⟩ := a
  obtain ⟨bi, bt⟩ := b
  obtain ⟨SA, Sn, Sc⟩ := S
  obtain ⟨PA, Pn, Pc⟩ := P
  obtain ⟨oA, on, oc⟩ := so
  obtain ⟨aA, an, ac⟩ := sa
  obtain ⟨bA, bn, bc⟩ := sb
  simp only at hl0 HS HT HL
  go_enter Try.func31, Try.ntmps31
  go_wp2_with fail
  rw [← hW2]
  clear hW2
  have HK := Lib.hid (fun (W W' : World) (hl : W.cell? ⟨w.heap.size, 3, none⟩ = some (.bool oi) ∧ W.cell? ⟨w.heap.size, 4, none⟩ = some (.slice oA on oc) ∧ W.cell? ⟨w.heap.size, 5, none⟩ = some (.bool ai) ∧ W.cell? ⟨w.heap.size, 6, none⟩ = some (.slice aA an ac) ∧ W.cell? ⟨w.heap.size, 7, none⟩ = some (.bool bi) ∧ W.cell? ⟨w.heap.size, 8, none⟩ = some (.slice bA bn bc)) (hw : ∀ j, W'.cell? ⟨w.heap.size, j, none⟩ = W.cell? ⟨w.heap.size, j, none⟩) => (⟨(hw 3).trans hl.1, (hw 4).trans hl.2.1, (hw 5).trans hl.2.2.1, (hw 6).trans hl.2.2.2.1, (hw 7).trans hl.2.2.2.2.1, (hw 8).trans hl.2.2.2.2.2⟩ : W'.cell? ⟨w.heap.size, 3, none⟩ = some (.bool oi) ∧ W'.cell? ⟨w.heap.size, 4, none⟩ = some (.slice oA on oc) ∧ W'.cell? ⟨w.heap.size, 5, none⟩ = some (.bool ai) ∧ W'.cell? ⟨w.heap.size, 6, none⟩ = some (.slice aA an ac) ∧ W'.cell? ⟨w.heap.size, 7, none⟩ = some (.bool bi) ∧ W'.cell? ⟨w.heap.size, 8, none⟩ = some (.slice bA bn bc)))
  go_upto_region 1 with (fail)
  go_region_held3 (fun W => W.cell? ⟨w.heap.size, 3, none⟩ = some (.bool oi) ∧ W.cell? ⟨w.heap.size, 4, none⟩ = some (.slice oA on oc) ∧ W.cell? ⟨w.heap.size, 5, none⟩ = some (.bool ai) ∧ W.cell? ⟨w.heap.size, 6, none⟩ = some (.slice aA an ac) ∧ W.cell? ⟨w.heap.size, 7, none⟩ = some (.bool bi) ∧ W.cell? ⟨w.heap.size, 8, none⟩ = some (.slice bA bn bc))
    (first | with_reducible exact hl0.2.2.2 | with_reducible exact hl3.2.2.2 | with_reducible exact hl4.2.2.2 | exact HK.out _ _ hl4.2.2.2 (fun j => keep_s7 _ _ _ _ _ _ _ _ _ j (Nat.ne_of_lt (Nat.lt_succ_self _))))
    (first
    | (go_at_call 39; refine (HS.out _ ((Below.refl _ _).drew)).mono ?_; rintro e w3 ⟨rfl, hb3⟩; have HB3 := Lib.hid (show Below W2.heap.size W2 w3 from (Below.refl W2.heap.size W2).drew.trans hb3); have hl3 := HL.out w3 HB3.out; clear hb3)
    | (go_at_call 38; refine (HT.out _ HB3.out).mono ?_; rintro e w4 ⟨y, s1, s2, s3, rfl, hn, hb4⟩; have HB4 := Lib.hid (show Below W2.heap.size W2 w4 from HB3.out.trans (hb4.mono HB3.out.size)); have hl4 := HL.out w4 HB4.out; have g4 := HG2.out.below HB4.out HG2.out.lt; obtain ⟨d0, d1, d2, d3, d4, d5, d6⟩ := g4.c7; obtain ⟨z0, z1, z2, z3, z4, z5, z6⟩ := g4.f7; have HG4 := Lib.hid g4; have HN4 := Lib.hid hn; clear hb4 g4 hn; obtain ⟨yi, yt⟩ := y; obtain ⟨A1, n1, m1⟩ := s1; obtain ⟨A2, n2, m2⟩ := s2; obtain ⟨A3, n3, m3⟩ := s3))
  all_goals
    go_wp2_with fail
    obtain ⟨e0, e1, e2, e3, e4, e5, e6⟩ := (HG4.out.s7 (.bool yi) (.slice A1 n1 m1) (.bool yi) (.slice A2 n2 m2) (.bool yi) (.slice A3 n3 m3) (.slice none 0 0)).c7
    refine bodyPost_ret (v := .tuple #[outv ⟨yi, yt⟩ ⟨yi, yt⟩ ⟨yi, yt⟩ ⟨A1, n1, m1⟩ ⟨A2, n2, m2⟩ ⟨A3, n3, m3⟩ nil4, .bool v]) (by simp [results, Try.results31, go_sem, e0, e1, e2, e3, e4, e5, e6]) rfl ?_
    have hz := Hz.out
    have hbs := HB.out.size
    have h3s := HB3.out.size
    refine ⟨⟨yi, yt⟩, ⟨A1, n1, m1⟩, ⟨A2, n2, m2⟩, ⟨A3, n3, m3⟩, rfl, fun hv => ?_, below_s7 (HB.out.trans (HB4.out.mono hbs)) (by omega) ..⟩
    obtain ⟨he, h1, h2, h3⟩ := HN4.out hv
    exact ⟨he, h1.s7 (Nat.le_trans hbs h3s) (by omega) .., h2.s7 (Nat.le_trans hbs h3s) (by omega) .., h3.s7 (Nat.le_trans hbs h3s) (by omega) ..⟩

set_option maxHeartbeats 4000000 in
theorem aun_any (S P : Sl) (d : Int) (o a b : Op) (so sa sb : Sl) (w : World) (h : Pl3 w w.heap.size o a b so sa sb) (hk : K3 o a b) :
    Calls Try.prog 32 #[plv S P d o a b so sa sb] w (TakenP w b (a.same o)) := by
  obtain ⟨W2, hW2, hb, hz, g1, g2⟩ := boxes2 w (plc S P d o a b so sa sb) zs7 75 73
  have HL := Lib.hid (fun (W : World) (hW : Below W2.heap.size W2 W) => Bx.c9 (g1.below hW (by omega)))
  have HS := Lib.hid (fun (W : World) (hW : Below W2.heap.size W2 W) => osame_any a o sa.A so.A sa.n sa.c so.n so.c w.heap.size W ((h.ha.below hb).below (hW.mono hb.size)) ((h.ho.below hb).below (hW.mono hb.size)) (Nat.le_trans hb.size hW.size) hk.a.size)
  have HT := Lib.hid (fun (W : World) (hW : Below W2.heap.size W2 W) => taken_any b (a.same o) sb.A sb.n sb.c W (((h.hb.below hb).below (hW.mono hb.size)).toB fun _ hp => Nat.lt_of_lt_of_le hp (Nat.le_trans hb.size hW.size)) hk.b)
  obtain ⟨v, hv⟩ : ∃ v, v = a.same o := ⟨_, rfl⟩
  have HB := Lib.hid hb
  have Hz := Lib.hid hz
  have HG2 := Lib.hid g2
  have hl0 := HL.out W2.drew (Below.refl _ _).drew
  rw [← hv] at HS HT ⊢
  clear h hb g1 hz g2 hk hv
  obtain ⟨oi, ot⟩ := o
  obtain ⟨ai, at_⟩ := a
  obtain ⟨bi, bt⟩ := b
  obtain ⟨SA, Sn, Sc⟩ := S
  obtain ⟨PA, Pn, Pc⟩ := P
  obtain ⟨oA, on, oc⟩ := so
  obtain ⟨aA, an, ac⟩ := sa
  obtain ⟨bA, bn, bc⟩ := sb
  simp only at hl0 HS HT HL
  go_enter Try.func32, Try.ntmps32
  go_wp2_with fail
  rw [← hW2]
  clear hW2
  have HK := Lib.hid (fun (W W' : World) (hl : W.cell? ⟨w.heap.size, 3, none⟩ = some (.bool oi) ∧ W.cell? ⟨w.heap.size, 4, none⟩ = some (.slice oA on oc) ∧ W.cell? ⟨w.heap.size, 5, none⟩ = some (.bool ai) ∧ W.cell? ⟨w.heap.size, 6, none⟩ = some (.slice aA an ac) ∧ W.cell? ⟨w.heap.size, 7, none⟩ = some (.bool bi) ∧ W.cell? ⟨w.heap.size, 8, none⟩ = some (.slice bA bn bc)) (hw : ∀ j, W'.cell? ⟨w.heap.size, j, none⟩ = W.cell? ⟨w.heap.size, j, none⟩) => (⟨(hw 3).trans hl.1, (hw 4).trans hl.2.1, (hw 5).trans hl.2.2.1, (hw 6).trans hl.2.2.2.1, (hw 7).trans hl.2.2.2.2.1, (hw 8).trans hl.2.2.2.2.2⟩ : W'.cell? ⟨w.heap.size, 3, none⟩ = some (.bool oi) ∧ W'.cell? ⟨w.heap.size, 4, none⟩ = some (.slice oA on oc) ∧ W'.cell? ⟨w.heap.size, 5, none⟩ = some (.bool ai) ∧ W'.cell? ⟨w.heap.size, 6, none⟩ = some (.slice aA an ac) ∧ W'.cell? ⟨w.heap.size, 7, none⟩ = some (.bool bi) ∧ W'.cell? ⟨w.heap.size, 8, none⟩ = some (.slice bA bn bc)))
  go_upto_region 1 with (fail)
  go_region_held3 (fun W => W.cell? ⟨w.heap.size, 3, none⟩ = some (.bool oi) ∧ W.cell? ⟨w.heap.size, 4, none⟩ = some (.slice oA on oc) ∧ W.cell? ⟨w.heap.size, 5, none⟩ = some (.bool ai) ∧ W.cell? ⟨w.heap.size, 6, none⟩ = some (.slice aA an ac) ∧ W.cell? ⟨w.heap.size, 7, none⟩ = some (.bool bi) ∧ W.cell? ⟨w.heap.size, 8, none⟩ = some (.slice bA bn bc))
    (first | with_reducible exact hl0.2.2.2 | with_reducible exact hl3.2.2.2 | with_reducible exact hl4.2.2.2 | exact HK.out _ _ hl4.2.2.2 (fun j => keep_s7 _ _ _ _ _ _ _ _ _ j (Nat.ne_of_lt (Nat.lt_succ_self _))))
    (first
    | (go_at_call 39; refine (HS.out _ ((Below.refl _ _).drew)).mono ?_; rintro e w3 ⟨rfl, hb3⟩; have HB3 := Lib.hid (show Below W2.heap.size W2 w3 from (Below.refl W2.heap.size W2).drew.trans hb3); have hl3 := HL.out w3 HB3.out; clear hb3)
    | (go_at_call 38; refine (HT.out _ HB3.out).mono ?_; rintro e w4 ⟨y, s1, s2, s3, rfl, hn, hb4⟩; have HB4 := Lib.hid (show Below W2.heap.size W2 w4 from HB3.out.trans (hb4.mono HB3.out.size)); have hl4 := HL.out w4 HB4.out; have g4 := HG2.out.below HB4.out HG2.out.lt; obtain ⟨d0, d1, d2, d3, d4, d5, d6⟩ := g4.c7; obtain ⟨z0, z1, z2, z3, z4, z5, z6⟩ := g4.f7; have HG4 := Lib.hid g4; have HN4 := Lib.hid hn; clear hb4 g4 hn; obtain ⟨yi, yt⟩ := y; obtain ⟨A1, n1, m1⟩ := s1; obtain ⟨A2, n2, m2⟩ := s2; obtain ⟨A3, n3, m3⟩ := s3))
  all_goals
    go_wp2_with fail
    obtain ⟨e0, e1, e2, e3, e4, e5, e6⟩ := (HG4.out.s7 (.bool yi) (.slice A1 n1 m1) (.bool yi) (.slice A2 n2 m2) (.bool yi) (.slice A3 n3 m3) (.slice none 0 0)).c7
    refine bodyPost_ret (v := .tuple #[outv ⟨yi, yt⟩ ⟨yi, yt⟩ ⟨yi, yt⟩ ⟨A1, n1, m1⟩ ⟨A2, n2, m2⟩ ⟨A3, n3, m3⟩ nil4, .bool v]) (by simp [results, Try.results32, go_sem, e0, e1, e2, e3, e4, e5, e6]) rfl ?_
    have hz := Hz.out
    have hbs := HB.out.size
    have h3s := HB3.out.size
    refine ⟨⟨yi, yt⟩, ⟨A1, n1, m1⟩, ⟨A2, n2, m2⟩, ⟨A3, n3, m3⟩, rfl, fun hv => ?_, below_s7 (HB.out.trans (HB4.out.mono hbs)) (by omega) ..⟩
    obtain ⟨he, h1, h2, h3⟩ := HN4.out hv
    exact ⟨he, h1.s7 (Nat.le_trans hbs h3s) (by omega) .., h2.s7 (Nat.le_trans hbs h3s) (by omega) .., h3.s7 (Nat.le_trans hbs h3s) (by omega) ..⟩

set_option maxHeartbeats 4000000 in
theorem bun_any (S P : Sl) (d : Int) (o a b : Op) (so sa sb : Sl) (w : World) (h : Pl3 w w.heap.size o a b so sa sb) (hk : K3 o a b) :
    Calls Try.prog 33 #[plv S P d o a b so sa sb] w (TakenP w a (b.same o)) := by
  obtain ⟨W2, hW2, hb, hz, g1, g2⟩ := boxes2 w (plc S P d o a b so sa sb) zs7 75 73
  have HL := Lib.hid (fun (W : World) (hW : Below W2.heap.size W2 W) => Bx.c9 (g1.below hW (by omega)))
  have HS := Lib.hid (fun (W : World) (hW : Below W2.heap.size W2 W) => osame_any b o sb.A so.A sb.n sb.c so.n so.c w.heap.size W ((h.hb.below hb).below (hW.mono hb.size)) ((h.ho.below hb).below (hW.mono hb.size)) (Nat.le_trans hb.size hW.size) hk.b.size)
  have HT := Lib.hid (fun (W : World) (hW : Below W2.heap.size W2 W) => taken_any a (b.same o) sa.A sa.n sa.c W (((h.ha.below hb).below (hW.mono hb.size)).toB fun _ hp => Nat.lt_of_lt_of_le hp (Nat.le_trans hb.size hW.size)) hk.a)
  obtain ⟨v, hv⟩ : ∃ v, v = b.same o := ⟨_, rfl⟩
  have HB := Lib.hid hb
  have Hz := Lib.hid hz
  have HG2 := Lib.hid g2
  have hl0 := HL.out W2.drew (Below.refl _ _).drew
  rw [← hv] at HS HT ⊢
  clear h hb g1 hz g2 hk hv
  obtain ⟨oi, ot⟩ := o
  obtain ⟨ai, at_⟩ := a
  obtain ⟨bi, bt⟩ := b
  obtain ⟨SA, Sn, Sc⟩ := S
  obtain ⟨PA, Pn, Pc⟩ := P
  obtain ⟨oA, on, oc⟩ := so
  obtain ⟨aA, an, ac⟩ := sa
  obtain ⟨bA, bn, bc⟩ := sb
  simp only at hl0 HS HT HL
  go_enter Try.func33, Try.ntmps33
  go_wp2_with fail
  rw [← hW2]
  clear hW2
  have HK := Lib.hid (fun (W W' : World) (hl : W.cell? ⟨w.heap.size, 3, none⟩ = some (.bool oi) ∧ W.cell? ⟨w.heap.size, 4, none⟩ = some (.slice oA on oc) ∧ W.cell? ⟨w.heap.size, 5, none⟩ = some (.bool ai) ∧ W.cell? ⟨w.heap.size, 6, none⟩ = some (.slice aA an ac) ∧ W.cell? ⟨w.heap.size, 7, none⟩ = some (.bool bi) ∧ W.cell? ⟨w.heap.size, 8, none⟩ = some (.slice bA bn bc)) (hw : ∀ j, W'.cell? ⟨w.heap.size, j, none⟩ = W.cell? ⟨w.heap.size, j, none⟩) => (⟨(hw 3).trans hl.1, (hw 4).trans hl.2.1, (hw 5).trans hl.2.2.1, (hw 6).trans hl.2.2.2.1, (hw 7).trans hl.2.2.2.2.1, (hw 8).trans hl.2.2.2.2.2⟩ : W'.cell? ⟨w.heap.size, 3, none⟩ = some (.bool oi) ∧ W'.cell? ⟨w.heap.size, 4, none⟩ = some (.slice oA on oc) ∧ W'.cell? ⟨w.heap.size, 5, none⟩ = some (.bool ai) ∧ W'.cell? ⟨w.heap.size, 6, none⟩ = some (.slice aA an ac) ∧ W'.cell? ⟨w.heap.size, 7, none⟩ = some (.bool bi) ∧ W'.cell? ⟨w.heap.size, 8, none⟩ = some (.slice bA bn bc)))
  go_upto_region 1 with (fail)
  go_region_held3 (fun W => W.cell? ⟨w.heap.size, 3, none⟩ = some (.bool oi) ∧ W.cell? ⟨w.heap.size, 4, none⟩ = some (.slice oA on oc) ∧ W.cell? ⟨w.heap.size, 5, none⟩ = some (.bool ai) ∧ W.cell? ⟨w.heap.size, 6, none⟩ = some (.slice aA an ac) ∧ W.cell? ⟨w.heap.size, 7, none⟩ = some (.bool bi) ∧ W.cell? ⟨w.heap.size, 8, none⟩ = some (.slice bA bn bc))
    (first | with_reducible exact hl0.2.2.2 | with_reducible exact hl3.2.2.2 | with_reducible exact hl4.2.2.2 | exact HK.out _ _ hl4.2.2.2 (fun j => keep_s7 _ _ _ _ _ _ _ _ _ j (Nat.ne_of_lt (Nat.lt_succ_self _))))
    (first
    | (go_at_call 39; refine (HS.out _ ((Below.refl _ _).drew)).mono ?_; rintro e w3 ⟨rfl, hb3⟩; have HB3 := Lib.hid (show Below W2.heap.size W2 w3 from (Below.refl W2.heap.size W2).drew.trans hb3); have hl3 := HL.out w3 HB3.out; clear hb3)
    | (go_at_call 38; refine (HT.out _ HB3.out).mono ?_; rintro e w4 ⟨y, s1, s2, s3, rfl, hn, hb4⟩; have HB4 := Lib.hid (show Below W2.heap.size W2 w4 from HB3.out.trans (hb4.mono HB3.out.size)); have hl4 := HL.out w4 HB4.out; have g4 := HG2.out.below HB4.out HG2.out.lt; obtain ⟨d0, d1, d2, d3, d4, d5, d6⟩ := g4.c7; obtain ⟨z0, z1, z2, z3, z4, z5, z6⟩ := g4.f7; have HG4 := Lib.hid g4; have HN4 := Lib.hid hn; clear hb4 g4 hn; obtain ⟨yi, yt⟩ := y; obtain ⟨A1, n1, m1⟩ := s1; obtain ⟨A2, n2, m2⟩ := s2; obtain ⟨A3, n3, m3⟩ := s3))
  all_goals
    go_wp2_with fail
    obtain ⟨e0, e1, e2, e3, e4, e5, e6⟩ := (HG4.out.s7 (.bool yi) (.slice A1 n1 m1) (.bool yi) (.slice A2 n2 m2) (.bool yi) (.slice A3 n3 m3) (.slice none 0 0)).c7
    refine bodyPost_ret (v := .tuple #[outv ⟨yi, yt⟩ ⟨yi, yt⟩ ⟨yi, yt⟩ ⟨A1, n1, m1⟩ ⟨A2, n2, m2⟩ ⟨A3, n3, m3⟩ nil4, .bool v]) (by simp [results, Try.results33, go_sem, e0, e1, e2, e3, e4, e5, e6]) rfl ?_
    have hz := Hz.out
    have hbs := HB.out.size
    have h3s := HB3.out.size
    refine ⟨⟨yi, yt⟩, ⟨A1, n1, m1⟩, ⟨A2, n2, m2⟩, ⟨A3, n3, m3⟩, rfl, fun hv => ?_, below_s7 (HB.out.trans (HB4.out.mono hbs)) (by omega) ..⟩
    obtain ⟨he, h1, h2, h3⟩ := HN4.out hv
    exact ⟨he, h1.s7 (Nat.le_trans hbs h3s) (by omega) .., h2.s7 (Nat.le_trans hbs h3s) (by omega) .., h3.s7 (Nat.le_trans hbs h3s) (by omega) ..⟩
end Go.Proofs.Ytchoipmfngcdoaa.Mg
