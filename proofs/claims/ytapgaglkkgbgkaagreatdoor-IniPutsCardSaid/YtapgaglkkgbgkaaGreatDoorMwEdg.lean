/- A row of edges of one's own, being grown: what stands below its edges lies in other rows. No conditions. · With and Make of the law, told with the blocks that their answers lie in. Conditions: as With's and Make's. · strings.IndexRune in the text "\n\r" at a rune from 128 on: there is none. · strings.IndexAny of a line's end in a text of any bytes, eight at most: where the first one stands, or there is none. · strings.IndexRune in the text of two brackets at a rune from 128 on: there is none. · strings.IndexAny of a bracket in a text of any bytes, eight at most: where the first one stands, or there is none. -/
import Derived.Test.YtapgaglkkgbgkaaGreatDoorMwClHold
import Derived.Test.YtapgaglkkgbgkaaGreatDoorWithW
import Derived.Test.YtapgaglkkgbgkaaGreatDoorMwTextWords
import Derived.Test.YtapgaglkkgbgkaaGreatDoorMake
import Derived.Deep.RegionHeld3
import Derived.IntWalk
import Derived.Outline
import Derived.Test.YtapgaglkkgbgkaaGreatDoorShelf
import Derived.Laws.RangeAny
import Derived.Laws.Runes
import Derived.WalkMore
import Derived.BigQuiet
import Derived.Shelf.Small.Utf8
import Derived.Lib.OthersKept
import Derived.Lib.IndexAny
import Derived.Shelf.Strings.IndexAnyAll
namespace Go.Proofs.YtapgaglkkgbgkaaGreatDoor.Jd
open Go.RowKit Go.Proofs.YtapgaglkkgbgkaaGreatDoor.Cl
set_option maxRecDepth 100000

def appT : Tr → Tr → Tr
  | .nil, u => u
  | .cons s k r, u => .cons s k (appT r u)
theorem low_size : ∀ t : Tr, t.size ≤ 140737488351232 → t.Low
  | .nil, _ => trivial
  | .cons _ k r, h => by
    simp only [Tr.size] at h
    have := k.len_size
    exact ⟨by omega, low_size k (by omega), low_size r (by omega)⟩

def RowP (w : World) (P : Nat → Prop) : List Value → Tr → Prop
  | [], .nil => True
  | .string s :: .slice A n c :: vs, .cons s' k r => s = s' ∧ n ≤ c ∧ c ≤ maxLen ∧ HoldsP w P A n k ∧ RowP w P vs r
  | _, _ => False
section
variable {w w' : World} {P P' : Nat → Prop}
theorem RowP.keep (hk : ∀ b o, P b → w'.cell? ⟨b, o, none⟩ = w.cell? ⟨b, o, none⟩) : ∀ {vs : List Value} {t : Tr}, RowP w P vs t → RowP w' P vs t
  | [], .nil, _ => trivial
  | .string _ :: .slice _ _ _ :: _, .cons _ _ _, ⟨h1, h2, h3, h4, h5⟩ => ⟨h1, h2, h3, h4.keep hk, RowP.keep hk h5⟩
theorem RowP.more (hP : ∀ b, P b → P' b) : ∀ {vs : List Value} {t : Tr}, RowP w P vs t → RowP w P' vs t
  | [], .nil, _ => trivial
  | .string _ :: .slice _ _ _ :: _, .cons _ _ _, ⟨h1, h2, h3, h4, h5⟩ => ⟨h1, h2, h3, h4.more hP, RowP.more hP h5⟩
theorem RowP.app : ∀ {vs us : List Value} {t u : Tr}, RowP w P vs t → RowP w P us u → RowP w P (vs ++ us) (appT t u)
  | [], _, .nil, _, _, h2 => h2
  | .string _ :: .slice _ _ _ :: _, _, .cons _ _ _, _, ⟨h1, h2, h3, h4, h5⟩, h6 => ⟨h1, h2, h3, h4, RowP.app h5 h6⟩
theorem RowP.length : ∀ {vs : List Value} {t : Tr}, RowP w P vs t → vs.length = t.len * 2
  | [], .nil, _ => rfl
  | .string _ :: .slice _ _ _ :: _, .cons _ _ _, ⟨_, _, _, _, h5⟩ => by
    have := RowP.length h5
    simp only [List.length_cons, Tr.len]
    omega
theorem RowP.one {n c : Nat} {s : ByteArray} {A : Option Addr} {k : Tr} (h : HoldsP w P A n k) (h1 : n ≤ c) (h2 : c ≤ maxLen) : RowP w P [.string s, .slice A n c] (.cons s k .nil) := ⟨rfl, h1, h2, h, trivial⟩
theorem RowP.holds {g : Nat} (hg : P g) : ∀ {vs : List Value} {t : Tr} {o : Nat}, RowP w P vs t → (∀ j u, vs[j]? = some u → w.cell? ⟨g, o + j, none⟩ = some u) → HoldsP w P (some ⟨g, o, none⟩) t.len t
  | [], .nil, _, _, _ => rfl
  | .string s :: .slice A n c :: vs, .cons s' k r, o, ⟨h1, h2, h3, h4, h5⟩, hc => by
    subst h1
    have e0 := hc 0 _ rfl
    have e1 := hc 1 _ rfl
    rw [Nat.add_zero] at e0
    exact ⟨g, o, rfl, hg, e0, ⟨A, n, c, e1, h2, h3, h4⟩, r.len, rfl, RowP.holds hg h5 (fun j u hu => by
      have := hc (j + 2) u (by simpa using hu)
      rw [show o + 2 + j = o + (j + 2) by omega]
      exact this)⟩
end

structure Edg (w : World) (base lo : Nat) (A : Option Addr) (n c : Nat) (t : Tr) (vs : List Value) : Prop where
  own : w.ownsRow base 56 2 (.slice A n c) n vs
  row : RowP w (fun b => lo ≤ b ∧ b < w.heap.size ∧ some b ≠ (Value.slice A n c).ownBlock) vs t
section
variable {w w' : World} {base lo n c : Nat} {A : Option Addr} {t : Tr} {vs : List Value}
theorem Edg.nil (w : World) (base lo : Nat) : Edg w base lo none 0 0 .nil [] := ⟨World.ownsRow_nil w base _ _, trivial⟩
theorem Edg.len (h : Edg w base lo A n c t vs) : n = t.len := by
  have h1 := h.own.1
  have h2 := h.row.length
  omega
theorem Edg.cap (h : Edg w base lo A n c t vs) : n ≤ c ∧ c ≤ maxLen := own_cap h.own
theorem Edg.below (h : Edg w base lo A n c t vs) (hb : Below w.heap.size w w') : Edg w' base lo A n c t vs := by
  refine ⟨h.own.kept (row := none) ⟨hb.os, hb.tape, hb.output, hb.size, fun i hi _ => hb.block i hi⟩ (by cases hv : (Value.slice A n c).ownBlock <;> simp), ?_⟩
  refine (h.row.keep (w' := w') fun b o hb1 => hb.cell (p := ⟨b, o, none⟩) hb1.2.1).more fun b hb1 => ⟨hb1.1, Nat.lt_of_lt_of_le hb1.2.1 hb.size, hb1.2.2⟩
theorem Edg.holdsP (h : Edg w base lo A n c t vs) (hl : lo ≤ base) : HoldsP w (fun b => lo ≤ b ∧ b < w.heap.size) A n t := by
  have hn := h.len
  rcases h.own.2 with ⟨e1, e2⟩ | ⟨g, cap, cur, e1, hg, hh, hcap, hmx, hsz, htk⟩
  · subst e2
    cases t with
    | nil => rfl
    | cons _ _ _ => simp [Tr.len] at hn
  · injection e1 with a1 a2 a3
    subst a1
    have hc : ∀ j u, vs[j]? = some u → w.cell? ⟨g, 0 + j, none⟩ = some u := fun j u hu => by
      have := rowCells h.own j u hu
      rw [Addr.add_lit] at this
      exact this
    have hrow := (h.row.more (P' := fun b => lo ≤ b ∧ b < w.heap.size) fun b hb => ⟨hb.1, hb.2.1⟩).holds (g := g) ⟨by omega, (Array.getElem?_eq_some_iff.1 hh).1⟩ hc
    rw [hn]
    exact hrow
theorem Edg.holds (h : Edg w base lo A n c t vs) (hl : lo ≤ base) : Holds w w.heap.size A n t := (h.holdsP hl).to (fun _ hb => hb.2)
theorem Edg.push {m c2 : Nat} {A2 : Option Addr} {u : Tr} {us : List Value} (h : Edg w base lo A n c t vs) (hu : RowP w (fun b => lo ≤ b ∧ b < w.heap.size ∧ some b ≠ (Value.slice A n c).ownBlock) us u)
    (ho : w'.ownsRow base 56 2 (.slice A2 m c2) m (vs ++ us)) (hg : w.grownBy w' (Value.slice A n c).ownBlock) (hat : ∀ a, A2 = some a → w.heap.size ≤ a.block ∨ some a.block = (Value.slice A n c).ownBlock) :
    Edg w' base lo A2 m c2 (appT t u) (vs ++ us) := by
  refine ⟨ho, ?_⟩
  refine ((h.row.app hu).keep (w' := w') fun b o hb => World.cell?_of_block (hg.block b hb.2.1 hb.2.2)).more fun b hb => ⟨hb.1, Nat.lt_of_lt_of_le hb.2.1 hg.size, fun e => ?_⟩
  cases A2 with
  | none => cases e
  | some a =>
    have e : b = a.block := by injection e
    rcases hat a rfl with h1 | h1
    · have := hb.2.1; omega
    · exact hb.2.2 (by rw [e]; exact h1)
end
theorem src_edge (W : World) (s : ByteArray) (A : Option Addr) (n c g : Nat) (hg : g = W.heap.size) : Src Tryz.prog 2 30 (.slice (some ⟨g, 0, none⟩) 1 1) 1 [.string s, .slice A n c] (W.alloc (Obj.cells #[Value.string s, Value.slice A n c] 56)) := by
  subst hg
  exact src_edges rfl (fun j u hu => by
    rw [cell_of_row _ _ _ _ _ _ (heap_alloc_new W _), Nat.zero_add, ← hu]
    match j, hu with
    | 0, _ => rfl
    | 1, _ => rfl
    | j + 2, hu => simp at hu) (fun u hu => by simp only [List.mem_cons, List.not_mem_nil, or_false] at hu; rcases hu with rfl | rfl <;> rfl)
end Go.Proofs.YtapgaglkkgbgkaaGreatDoor.Jd
namespace Go.Proofs.YtapgaglkkgbgkaaGreatDoor.Pt
open Go.RowKit Go.Proofs.YtapgaglkkgbgkaaGreatDoor.Cl
set_option maxRecDepth 100000

def Mine (base : Nat) (w : World) (b : Nat) : Prop := base ≤ b ∧ ∃ cs E, w.heap[b]? = some (.cells cs E (0, 0))
theorem Mine.lt {base b : Nat} {w : World} (h : Mine base w b) : b < w.heap.size := by
  obtain ⟨_, cs, E, h⟩ := h
  exact (Array.getElem?_eq_some_iff.1 h).1
theorem Mine.more {base base' b : Nat} {w : World} (h : Mine base' w b) (hb : base ≤ base') : Mine base w b := ⟨Nat.le_trans hb h.1, h.2⟩
theorem Mine.below {base b : Nat} {w w' : World} (h : Mine base w b) (hb : Below w.heap.size w w') : Mine base w' b := by
  have := hb.block b h.lt
  obtain ⟨h1, cs, E, h2⟩ := h
  exact ⟨h1, cs, E, by rw [this]; exact h2⟩
def RowP (w : World) (P : Nat → Prop) : List Value → Tr → Prop
  | [], .nil => True
  | .string s' :: .slice A n c :: vs, .cons s k r => s' = s ∧ n ≤ c ∧ c ≤ maxLen ∧ HoldsP w P A n k ∧ RowP w P vs r
  | _, _ => False
section
variable {w w' : World} {P P' : Nat → Prop}
theorem RowP.keep (hk : ∀ b o, P b → w'.cell? ⟨b, o, none⟩ = w.cell? ⟨b, o, none⟩) : ∀ {vs : List Value} {t : Tr}, RowP w P vs t → RowP w' P vs t
  | [], .nil, h => h
  | .string _ :: .slice _ _ _ :: _, .cons _ _ _, ⟨h1, h2, h3, h4, h5⟩ => ⟨h1, h2, h3, h4.keep hk, RowP.keep hk h5⟩
theorem RowP.more (hP : ∀ b, P b → P' b) : ∀ {vs : List Value} {t : Tr}, RowP w P vs t → RowP w P' vs t
  | [], .nil, h => h
  | .string _ :: .slice _ _ _ :: _, .cons _ _ _, ⟨h1, h2, h3, h4, h5⟩ => ⟨h1, h2, h3, h4.more hP, RowP.more hP h5⟩
theorem RowP.length : ∀ {vs : List Value} {t : Tr}, RowP w P vs t → vs.length = t.len * 2
  | [], .nil, _ => rfl
  | .string _ :: .slice _ _ _ :: vs, .cons _ _ _, ⟨_, _, _, _, h5⟩ => by simp only [List.length_cons, Tr.len, RowP.length h5]; omega
theorem RowP.one : ∀ {vs : List Value} {t : Tr}, RowP w P vs t → ∀ u ∈ vs, u.oneCell' = true
  | [], .nil, _, u, hu => by cases hu
  | .string _ :: .slice _ _ _ :: vs, .cons _ _ _, ⟨_, _, _, _, h5⟩, u, hu => by
    simp only [List.mem_cons] at hu
    rcases hu with rfl | rfl | hu
    · rfl
    · rfl
    · exact RowP.one h5 u hu
theorem holds_rowP : ∀ {t : Tr} {A : Option Addr} {n : Nat}, HoldsP w P A n t → ∃ vs, RowP w P vs t ∧ (∀ b o, A = some ⟨b, o, none⟩ → ∀ j u, vs[j]? = some u → w.cell? ⟨b, o + j, none⟩ = some u) ∧ (0 < n → ∃ b o, A = some ⟨b, o, none⟩ ∧ P b)
  | .nil, _, _, h => ⟨[], trivial, fun _ _ _ j u hu => by simp at hu, fun hn => by rw [show _ = 0 from h] at hn; omega⟩
  | .cons s k r, _, _, ⟨b, o, e, hb, hs, ⟨A', n', c', hc, hn, hm, hk⟩, m, hm1, hr⟩ => by
    obtain ⟨vs, h1, h2, _⟩ := holds_rowP hr
    refine ⟨.string s :: .slice A' n' c' :: vs, ⟨rfl, hn, hm, hk, h1⟩, ?_, fun _ => ⟨b, o, e, hb⟩⟩
    intro b' o' e' j u hu
    rw [e] at e'
    cases e'
    match j with
    | 0 => simp at hu; subst hu; exact hs
    | 1 => simp at hu; subst hu; exact hc
    | j + 2 =>
      have := h2 b (o + 2) rfl j u (by simpa using hu)
      rw [show o + (j + 2) = o + 2 + j by omega]
      exact this
theorem RowP.holds : ∀ {vs : List Value} {t : Tr} {b o : Nat}, RowP w P vs t → P b → (∀ j u, vs[j]? = some u → w.cell? ⟨b, o + j, none⟩ = some u) → HoldsP w P (some ⟨b, o, none⟩) t.len t
  | [], .nil, _, _, _, _, _ => rfl
  | .string _ :: .slice A n c :: vs, .cons _ k r, b, o, ⟨h1, h2, h3, h4, h5⟩, hb, hc => by
    subst h1
    refine ⟨b, o, rfl, hb, hc 0 _ rfl, ⟨A, n, c, hc 1 _ rfl, h2, h3, h4⟩, r.len, rfl, RowP.holds h5 hb (fun j u hu => ?_)⟩
    have := hc (j + 2) u (by simpa using hu)
    rw [show o + 2 + j = o + (j + 2) by omega]
    exact this
end

theorem RowP.with_ {w : World} {P : Nat → Prop} {name : ByteArray} {x : Tr} {Ax : Option Addr} {nx cx : Nat} (hx : HoldsP w P Ax nx x) (hn : nx ≤ cx) (hm : cx ≤ maxLen) : ∀ {vs : List Value} {t : Tr}, RowP w P vs t →
    RowP w P (vs.take (t.atN name * 2) ++ [.string name, .slice Ax nx cx] ++ vs.drop ((t.atN name + (t.atIs name).toNat) * 2)) (t.withT name x)
  | [], .nil, _ => ⟨rfl, hn, hm, hx, trivial⟩
  | .string s :: .slice A n c :: vs, .cons _ k r, ⟨h1, h2, h3, h4, h5⟩ => by
    subst h1
    by_cases hl : Op.bytesLess s.toList name.toList = true
    · have ih := RowP.with_ (name := name) hx hn hm h5
      have e1 : (Tr.cons s k r).atN name = r.atN name + 1 := by simp only [Tr.atN]; rw [if_pos hl]
      have e2 : (Tr.cons s k r).atIs name = r.atIs name := by unfold Tr.atIs; rw [e1]; rfl
      have e3 : (Tr.cons s k r).withT name x = .cons s k (r.withT name x) := by simp only [Tr.withT]; rw [if_pos hl]
      rw [e1, e2, e3, show (r.atN name + 1) * 2 = r.atN name * 2 + 1 + 1 by omega, show (r.atN name + 1 + (r.atIs name).toNat) * 2 = (r.atN name + (r.atIs name).toNat) * 2 + 1 + 1 by omega]
      exact ⟨rfl, h2, h3, h4, ih⟩
    · have e1 : (Tr.cons s k r).atN name = 0 := by simp only [Tr.atN]; rw [if_neg hl]
      have e2 : (Tr.cons s k r).atIs name = (s.toList == name.toList) := by unfold Tr.atIs; rw [e1]; rfl
      rw [e1, e2]
      by_cases he : (s.toList == name.toList) = true
      · have e3 : (Tr.cons s k r).withT name x = .cons name x r := by simp only [Tr.withT]; rw [if_neg hl, if_pos he]
        rw [he, e3]
        exact ⟨rfl, hn, hm, hx, h5⟩
      · have e3 : (Tr.cons s k r).withT name x = .cons name x (.cons s k r) := by simp only [Tr.withT]; rw [if_neg hl, if_neg he]
        rw [e3]
        have he2 : (s.toList == name.toList) = false := by simpa using he
        rw [he2]
        exact ⟨rfl, hn, hm, hx, rfl, h2, h3, h4, h5⟩

theorem own_holdsP {P : Nat → Prop} {w : World} {base n c : Nat} {A : Option Addr} {e : TypeId} {vs : List Value} {t : Tr} (ho : w.ownsRow base e 2 (.slice A n c) n vs) (hr : RowP w (fun b => P b ∨ Mine base w b) vs t) : HoldsP w (fun b => P b ∨ Mine base w b) A n t := by
  have hl := hr.length
  have hl2 := ho.1
  have hn : n = t.len := by omega
  rcases ho.2 with ⟨e1, hn0⟩ | ⟨g, cap, cur, e1, hbg, hh, _⟩
  · subst hn0
    cases t with
    | nil => rfl
    | cons _ _ _ => simp [Tr.len] at hn
  · injection e1 with e1 e2 e3
    subst e1
    subst hn
    exact hr.holds (.inr ⟨hbg, _, _, hh⟩) (fun j u hu => by
      have := rowCells ho j u hu
      rw [Addr.add_lit] at this
      exact this)

set_option maxHeartbeats 2000000 in
theorem withP_any {P : Nat → Prop} (t x : Tr) (A Ax : Option Addr) (n c nx cx : Nat) (name : ByteArray) (w : World) (h : HoldsP w P A n t) (hx : HoldsP w P Ax nx x) (hP : ∀ b, P b → b < w.heap.size) (hn : n ≤ 549755813888) (hc : n ≤ c) (hcx : nx ≤ cx) (hmx : cx ≤ maxLen) :
    Calls Tryz.prog 34 #[.slice A n c, .string name, .slice Ax nx cx] w fun e w' => ∃ A' n' c', e = .returned (.slice A' n' c') ∧ HoldsP w' (fun b => P b ∨ Mine w.heap.size w' b) A' n' (t.withT name x) ∧ n' ≤ c' ∧ c' ≤ maxLen ∧ Below w.heap.size w w' := by
  have Hn := Lib.hid h.len
  have Hat := Lib.hid (at_any t A n c w.heap.size name w (h.to hP) (Nat.le_refl _) (by omega))
  have hle := atN_le name t
  rw [← Hn.out] at hle
  obtain ⟨k, hk⟩ : ∃ k, k = t.atN name := ⟨_, rfl⟩
  obtain ⟨is, his⟩ : ∃ b, b = t.atIs name := ⟨_, rfl⟩
  rw [← hk] at hle Hat
  rw [← his] at Hat
  have Hk := Lib.hid hk
  have His := Lib.hid his
  clear hk his
  cases t with
  | nil =>
    obtain rfl : n = 0 := h
    obtain rfl : k = 0 := by omega
    obtain rfl : is = false := His.out
    go_enter Tryz.func34, Tryz.ntmps34
    go_wp2_with fail
    refine Hat.out.mono ?_
    rintro e w1 ⟨rfl, q, rfl⟩
    have hlx : (0 : Nat) < 1 := by omega
    have hsx : ∀ W : World, Src Tryz.prog 2 30 (.slice (some ⟨W.heap.size, 0, none⟩) 1 1) 1 [.string name, .slice Ax nx cx] (W.alloc (.cells #[.string name, .slice Ax nx cx] 56)) := fun W => src_edges rfl (fun j u hu => by rw [cell_of_row _ _ _ _ _ _ (heap_alloc_new W _)]; rw [← hu]; simp) (by simp [Value.oneCell'])
    have Hsx := Lib.hid hsx
    clear hsx hlx
    go_wp2_with (first
      | (at_builtin; refine wpList_append_row rfl (.tmp 16) (.tmp 19) _ _ rfl elem_edge rfl rfl (World.ownsRow_nil _ w.heap.size _ _) (src_none _ _ _) (by omega) (Nat.le_refl _) ?_; intro A1 c1 w1 ho1 hg1 hat1)
      | (at_builtin; refine wpList_append_row rfl (.tmp 21) (.tmp 25) _ _ rfl elem_edge rfl rfl (ho1.alloc _) (Hsx.out w1) (by omega) (by have := hg1.size; simp at this ⊢; omega) ?_; intro A2 c2 w2 ho2 hg2 hat2; have hz2 : w.heap.size ≤ w2.heap.size := (by have h1 := hg1.size; have h2 := hg2.size; simp at h1 h2; omega))
      | (at_builtin; refine wpList_append_row rfl (.tmp 30) (.tmp 33) _ _ rfl elem_edge rfl rfl ho2 (src_none _ _ _) (by omega) hz2 ?_; intro A3 c3 w3 ho3 hg3 hat3))
    go_ret
    have hb1 : Below w.heap.size w w1 := (below_drewN (Below.refl _ w) q).grown hg1 (Nat.le_refl _) (by simp [Value.ownBlock])
    have hb2 : Below w.heap.size w w2 := (hb1.alloc hb1.size _).grown hg2 (by have := hb1.size; simp; omega) (fun k hk => (ho1.lt k hk).1)
    have hb3 : Below w.heap.size w w3 := hb2.grown hg3 hz2 (fun k hk => (ho2.lt k hk).1)
    refine ⟨A3, _, c3, rfl, own_holdsP ho3 ⟨rfl, hcx, hmx, (hx.keep (fun b o hb => hb3.cell (hP b hb))).more (fun _ => Or.inl), trivial⟩, (own_cap ho3).1, (own_cap ho3).2, hb3⟩
  | cons s kt r =>
    obtain ⟨b, o, rfl, hbB⟩ : ∃ b o, A = some ⟨b, o, none⟩ ∧ b < w.heap.size := by obtain ⟨b, o, e, hb, _⟩ := h; exact ⟨b, o, e, hP b hb⟩
    obtain ⟨vs, hr, hcell, _⟩ := holds_rowP h
    have hvl := hr.length
    rw [← Hn.out] at hvl
    have hcl := hcell b o rfl
    have hone := hr.one
    have hsx : ∀ W : World, Src Tryz.prog 2 30 (.slice (some ⟨W.heap.size, 0, none⟩) 1 1) 1 [.string name, .slice Ax nx cx] (W.alloc (.cells #[.string name, .slice Ax nx cx] 56)) := fun W => src_edges rfl (fun j u hu => by rw [cell_of_row _ _ _ _ _ _ (heap_alloc_new W _)]; rw [← hu]; simp) (by simp [Value.oneCell'])
    have Hsx := Lib.hid hsx
    have h1 : ∀ W : World, Below w.heap.size w W → Src Tryz.prog 2 30 (.slice (some ⟨b, o, none⟩) k c) k (vs.take (k * 2)) W := fun W hW => src_edges (by rw [List.length_take]; omega) (fun j u hu => by
      rw [List.getElem?_take] at hu
      split at hu
      · exact (hW.cell (p := ⟨b, o + j, none⟩) (by simp only; omega)).trans (hcl j u hu)
      · cases hu) (fun u hu => hone u (List.mem_of_mem_take hu))
    have H1 := Lib.hid h1
    have h3 : ∀ k', k' ≤ n → ∀ W : World, Below w.heap.size w W → Src Tryz.prog 2 30 (.slice (if c = k' then some ⟨b, o, none⟩ else some ⟨b, o + k' * 2, none⟩) (n - k') (c - k')) (n - k') (vs.drop (k' * 2)) W := by
      intro k' hk' W hW
      by_cases e : c = k'
      · have e0 : n - k' = 0 := by omega
        rw [e0, List.drop_of_length_le (by omega)]
        exact src_none _ _ _
      · rw [if_neg e]
        exact src_edges (by rw [List.length_drop]; omega) (fun j u hu => by
          rw [List.getElem?_drop] at hu
          rw [show o + k' * 2 + j = o + (k' * 2 + j) by omega]
          exact (hW.cell (p := ⟨b, o + (k' * 2 + j), none⟩) (by simp only; omega)).trans (hcl _ u hu)) (fun u hu => hone u (List.mem_of_mem_drop hu))
    have hkn : (k : Int) ≤ (n : Int) := by omega
    have hcn : (n : Int) ≤ (c : Int) := by omega
    have hkc : (k : Int) ≤ (c : Int) := by omega
    have hk0 : (0 : Int) ≤ (k : Int) := by omega
    cases is with
    | false =>
      have H3 := Lib.hid (h3 k hle)
      clear h3 h1 hsx hcl hcell hvl hone
      go_enter Tryz.func34, Tryz.ntmps34
      go_wp2_with fail
      refine Hat.out.mono ?_
      rintro e w1' ⟨rfl, q, rfl⟩
      go_wp2_with (first
        | (at_builtin; refine wpList_append_row rfl (.tmp 16) (.tmp 19) _ _ rfl elem_edge rfl rfl (World.ownsRow_nil _ w.heap.size _ _) (H1.out _ (below_drewN (Below.refl _ w) q)) (by omega) (Nat.le_refl _) ?_; intro A1 c1 w1 ho1 hg1 hat1; simp only [Nat.zero_add, List.nil_append] at ho1)
        | (at_builtin; refine wpList_append_row rfl (.tmp 21) (.tmp 25) _ _ rfl elem_edge rfl rfl (ho1.alloc _) (Hsx.out w1) (by omega) (by have := hg1.size; simp at this ⊢; omega) ?_; intro A2 c2 w2 ho2 hg2 hat2; have hz2 : w.heap.size ≤ w2.heap.size := (by have h1 := hg1.size; have h2 := hg2.size; simp at h1 h2; omega); have hb1 : Below w.heap.size w w1 := (below_drewN (Below.refl _ w) q).grown hg1 (Nat.le_refl _) (by simp [Value.ownBlock]); have hb2 : Below w.heap.size w w2 := (hb1.alloc hb1.size _).grown hg2 (by have := hb1.size; simp; omega) (fun k hk => (ho1.lt k hk).1); have hs3 := H3.out w2 hb2)
        | (at_builtin; refine wpList_append_row rfl (.tmp 30) (.tmp 33) _ _ rfl elem_edge rfl rfl ho2 hs3 (by omega) hz2 ?_; intro A3 c3 w3 ho3 hg3 hat3))
      all_goals
        go_ret
        have hb3 : Below w.heap.size w w3 := hb2.grown hg3 hz2 (fun k hk => (ho2.lt k hk).1)
        have hrow := (RowP.with_ (name := name) hx hcx hmx hr)
        rw [← Hk.out, ← His.out] at hrow
        refine ⟨A3, _, c3, rfl, own_holdsP ho3 ?_, (own_cap ho3).1, (own_cap ho3).2, hb3⟩
        have := (hrow.keep (w' := w3) (fun b o hb => hb3.cell (hP b hb))).more (P' := fun b => P b ∨ Mine w.heap.size w3 b) (fun _ h => .inl h)
        simpa using this
    | true =>
      have hlt : k < n := by
        have := atIs_lt His.out.symm
        rw [← Hk.out, ← Hn.out] at this
        exact this
      have H3 := Lib.hid (h3 (k + 1) hlt)
      have hkn1 : (k : Int) + 1 ≤ (n : Int) := by omega
      clear h3 h1 hsx hcl hcell hvl hone
      go_enter Tryz.func34, Tryz.ntmps34
      go_wp2_with fail
      refine Hat.out.mono ?_
      rintro e w1' ⟨rfl, q, rfl⟩
      go_wp2_with (first
        | (at_builtin; refine wpList_append_row rfl (.tmp 16) (.tmp 19) _ _ rfl elem_edge rfl rfl (World.ownsRow_nil _ w.heap.size _ _) (H1.out _ (below_drewN (Below.refl _ w) q)) (by omega) (Nat.le_refl _) ?_; intro A1 c1 w1 ho1 hg1 hat1; simp only [Nat.zero_add, List.nil_append] at ho1)
        | (at_builtin; refine wpList_append_row rfl (.tmp 21) (.tmp 25) _ _ rfl elem_edge rfl rfl (ho1.alloc _) (Hsx.out w1) (by omega) (by have := hg1.size; simp at this ⊢; omega) ?_; intro A2 c2 w2 ho2 hg2 hat2; have hz2 : w.heap.size ≤ w2.heap.size := (by have h1 := hg1.size; have h2 := hg2.size; simp at h1 h2; omega); have hb1 : Below w.heap.size w w1 := (below_drewN (Below.refl _ w) q).grown hg1 (Nat.le_refl _) (by simp [Value.ownBlock]); have hb2 : Below w.heap.size w w2 := (hb1.alloc hb1.size _).grown hg2 (by have := hb1.size; simp; omega) (fun k hk => (ho1.lt k hk).1); have hs3 := H3.out w2 hb2)
        | (at_builtin; refine wpList_append_row rfl (.tmp 30) (.tmp 33) _ _ rfl elem_edge rfl rfl ho2 hs3 (by omega) hz2 ?_; intro A3 c3 w3 ho3 hg3 hat3))
      all_goals
        go_ret
        have hb3 : Below w.heap.size w w3 := hb2.grown hg3 hz2 (fun k hk => (ho2.lt k hk).1)
        have hrow := (RowP.with_ (name := name) hx hcx hmx hr)
        rw [← Hk.out, ← His.out] at hrow
        refine ⟨A3, _, c3, rfl, own_holdsP ho3 ?_, (own_cap ho3).1, (own_cap ho3).2, hb3⟩
        have := (hrow.keep (w' := w3) (fun b o hb => hb3.cell (hP b hb))).more (P' := fun b => P b ∨ Mine w.heap.size w3 b) (fun _ h => .inl h)
        simpa using this
end Go.Proofs.YtapgaglkkgbgkaaGreatDoor.Pt
namespace Go.Proofs.YtapgaglkkgbgkaaGreatDoor.Cv
open Go.RowKit
set_option maxRecDepth 100000

theorem ascii_nl : ∀ (j : Nat) b, (ByteArray.mk #[10, 13]).data.toList[j]? = some b → b.toNat < 128 := by
  intro j b h
  match j, h with
  | 0, h => simp at h; subst h; decide
  | 1, h => simp at h; subst h; decide
  | j + 2, h => simp at h
theorem encode_sorts {r : Int} (h : 128 ≤ r) (hv : Utf8.valid r = true) : (∃ a b : UInt8, Utf8.encode r = ⟨#[a, b]⟩ ∧ 128 ≤ b.toNat) ∨ (∃ a b c : UInt8, Utf8.encode r = ⟨#[a, b, c]⟩) ∨ (∃ a b c d : UInt8, Utf8.encode r = ⟨#[a, b, c, d]⟩) := by
  unfold Utf8.encode
  rw [if_pos hv]
  have h1 : ¬ r.toNat < 128 := by omega
  rw [if_neg h1]
  by_cases h2 : r.toNat < 2048
  · rw [if_pos h2]
    refine .inl ⟨_, _, rfl, ?_⟩
    rw [UInt8.toNat_ofNat']
    have := Nat.mod_lt r.toNat (show 0 < 64 by decide)
    rw [Nat.mod_eq_of_lt (by omega)]; omega
  · rw [if_neg h2]
    by_cases h3 : r.toNat < 65536
    · rw [if_pos h3]; exact .inr (.inl ⟨_, _, _, rfl⟩)
    · rw [if_neg h3]; exact .inr (.inr ⟨_, _, _, _, rfl⟩)
theorem valid_same (r : Int) : Lib.validRune r = Utf8.valid r := by
  unfold Lib.validRune Utf8.valid
  rw [Bool.eq_iff_iff]
  simp only [decide_eq_true_eq, Bool.or_eq_true, Bool.and_eq_true]
  omega
theorem validR (r : Int) (w : World) : Calls Tryz.prog 146 #[.int .i32 r] w fun e w' => e = .returned (.bool (Utf8.valid r)) ∧ w' = w := by
  have h := Any.utf8_ValidRune (ρ := Tryz.lays150_ren) { Tryz.lays150 with } r w
  rw [valid_same] at h
  exact h
theorem byteAt (s : ByteArray) (c : Int) (w : World) : Calls Tryz.prog 145 #[.string s, .int .u8 c] w fun e w' => e = .returned (.int .i64 (Lib.indexByte s.data.toList c.toNat.toUInt8)) ∧ w' = w :=
  Any.strings_IndexByte (ρ := Tryz.lays150_ren) { Tryz.lays150 with } s c w

set_option maxHeartbeats 1000000 in
theorem indexRune_nr (r : Int) (w : World) (h : 128 ≤ r) : Calls Tryz.prog 116 #[.string ⟨#[10, 13]⟩, .int .i32 r] w fun e w' => e = .returned (.int .i64 (-1)) ∧ Below w.heap.size w w' := by
  by_cases he : r = 65533
  · subst he
    have HB : ∀ i, Below w.heap.size w (w.iter ⟨#[10, 13]⟩ i) := fun i => (Below.refl _ _).alloc (Nat.le_refl _) _
    have n0 := fun ty => run_next_ascii (P := Tryz.prog) w ⟨#[10, 13]⟩ 0 ty (by decide) (by decide)
    have n1 := fun ty => run_next_ascii (P := Tryz.prog) w ⟨#[10, 13]⟩ 1 ty (by decide) (by decide)
    have n2 := fun ty => run_next_end (P := Tryz.prog) w ⟨#[10, 13]⟩ 2 ty (by decide)
    go_enter Tryz.func116, Tryz.ntmps116
    go_wp2_with fail
    go_loopg [5, 6] 2 (fun g _ _ wx => ∃ i : Nat, i + g = 2 ∧ wx = w.iter ⟨#[10, 13]⟩ i)
    case atStart => exact ⟨0, by omega, rfl⟩
    case round =>
      obtain ⟨i, hig, rfl⟩ := hrel
      cases gk with
      | zero =>
        obtain rfl : i = 2 := by omega
        go_wp2_with fail
        go_ret
        exact ⟨rfl, HB _⟩
      | succ g =>
        by_cases h0 : i = 0
        · subst h0
          go_wp2_with fail
          go_roundg g
          case measure => omega
          case rel => exact ⟨1, by omega, rfl⟩
        · obtain rfl : i = 1 := by omega
          go_wp2_with fail
          go_roundg g
          case measure => omega
          case rel => exact ⟨2, by omega, rfl⟩
  · have he' : ((r : Int) == 65533) = false := beq_eq_false_iff_ne.2 he
    have H0 : ((0 : Int) ≤ r) := by omega
    have H1 : ¬ (r < 128) := by omega
    cases hv : Utf8.valid r
    · have HV := Lib.hid (validR r w)
      rw [hv] at HV
      go_enter Tryz.func116, Tryz.ntmps116
      go_wp2_with fail
      (with_reducible refine HV.out.mono ?_)
      rintro e w1 ⟨rfl, rfl⟩
      go_wp2_with fail
      go_ret
      exact ⟨rfl, Below.refl _ _⟩
    · have HV := Lib.hid (validR r w)
      rw [hv] at HV
      have hcv : ∀ W, (convert 21 9 (.int .i32 r)).run Tryz.prog W = .ok (.string (Utf8.encode r)) W := fun W => run_convert_int_string W 21 9 .i32 r rfl rfl
      rcases encode_sorts h hv with ⟨a, b, hab, hb⟩ | ⟨a, b, c, hab⟩ | ⟨a, b, c, d, hab⟩
      · rw [hab] at hcv
        have HI : Hid (∀ W, Calls Tryz.prog 145 #[.string ⟨#[]⟩, .int .u8 b.toNat] W fun e w' => e = .returned (.int .i64 (-1)) ∧ w' = W) := Lib.hid fun W => byteAt ⟨#[]⟩ b.toNat W
        have hsl : ∀ W, (Instr.slice 9 (.string ⟨#[10, 13]⟩) (some (.int .i64 2)) none none).run Tryz.prog W = .ok (.string ⟨#[]⟩) W := by
          intro W
          first | rfl | exact run_slice_string_l (P := Tryz.prog) W 9 ⟨#[10, 13]⟩ rfl .i64 2 (by decide) (by decide) | simp
        have hne : ((((ByteArray.mk #[10, 13])[1]'(by decide)).toNat : Int) != (((ByteArray.mk #[a, b])[1]'(by show 1 < 2; decide)).toNat : Int)) = true := by
          show ((13 : Int) != (b.toNat : Int)) = true
          exact bne_iff_ne.2 (by omega)
        go_enter Tryz.func116, Tryz.ntmps116
        go_wp2_with fail
        (with_reducible refine HV.out.mono ?_)
        rintro e w1 ⟨rfl, rfl⟩
        go_wp2_with fail
        go_step3
        go_wp2_with fail
        go_loopg [9] 1 (fun g i wx => g = 1 ∧ i = .int .i64 1 ∧ wx = w1)
        case atStart => exact ⟨rfl, rfl, rfl⟩
        case round =>
          obtain ⟨rfl, rfl, rfl⟩ := hrel
          go_wp2_with fail
          go_step3
          go_wp2_with fail
          go_quiet (fail)
          go_wp2_with fail
          go_quiet ((refine Calls.mono (HI.out _) ?_; rintro e w' ⟨rfl, rfl⟩; exact ⟨rfl, _, rfl⟩))
          go_wp2_with fail
          rw [Exit.noGoto_ret]
          simp only [Exit.inBlock, Exit.then, Exit.noGoto_ret]
          go_ret
          exact ⟨rfl, below_drewN (Below.refl _ _) _⟩
      · rw [hab] at hcv
        go_enter Tryz.func116, Tryz.ntmps116
        go_wp2_with fail
        (with_reducible refine HV.out.mono ?_)
        rintro e w1 ⟨rfl, rfl⟩
        go_wp2_with fail
        go_step3
        go_wp2_with fail
        go_loopg [9] 1 (fun g i wx => g = 1 ∧ i = .int .i64 2 ∧ wx = w1)
        case atStart => exact ⟨rfl, rfl, rfl⟩
        case round =>
          obtain ⟨rfl, rfl, rfl⟩ := hrel
          go_wp2_with fail
          rw [Exit.noGoto_ret]
          go_ret
          exact ⟨rfl, Below.refl _ _⟩
      · rw [hab] at hcv
        go_enter Tryz.func116, Tryz.ntmps116
        go_wp2_with fail
        (with_reducible refine HV.out.mono ?_)
        rintro e w1 ⟨rfl, rfl⟩
        go_wp2_with fail
        go_step3
        go_wp2_with fail
        go_loopg [9] 1 (fun g i wx => g = 1 ∧ i = .int .i64 3 ∧ wx = w1)
        case atStart => exact ⟨rfl, rfl, rfl⟩
        case round =>
          obtain ⟨rfl, rfl, rfl⟩ := hrel
          go_wp2_with fail
          rw [Exit.noGoto_ret]
          go_ret
          exact ⟨rfl, Below.refl _ _⟩
end Go.Proofs.YtapgaglkkgbgkaaGreatDoor.Cv
namespace Go.Proofs.YtapgaglkkgbgkaaGreatDoor.Cv
open Go.RowKit Go.Lib
set_option maxRecDepth 100000

theorem decode_skip (s : ByteArray) (pos j : Nat) (h1 : pos < j) (h2 : j < pos + (Utf8.decode s pos).2) : j < s.size ∧ 128 ≤ (s.get! j).toNat := by
  have hw : (Utf8.decode s pos).2 ≤ 4 ∧ (2 ≤ (Utf8.decode s pos).2 → pos + 1 < s.size ∧ (s.get! (pos + 1)).toNat / 64 = 2) ∧ (3 ≤ (Utf8.decode s pos).2 → pos + 2 < s.size ∧ (s.get! (pos + 2)).toNat / 64 = 2) ∧ (4 ≤ (Utf8.decode s pos).2 → pos + 3 < s.size ∧ (s.get! (pos + 3)).toNat / 64 = 2) := by
    simp only [Utf8.decode]
    repeat' split
    all_goals simp_all
  obtain ⟨k4, k1, k2, k3⟩ := hw
  have hj : j = pos + 1 ∨ j = pos + 2 ∨ j = pos + 3 := by omega
  rcases hj with rfl | rfl | rfl
  · obtain ⟨a, b⟩ := k1 (by omega); exact ⟨a, by omega⟩
  · obtain ⟨a, b⟩ := k2 (by omega); exact ⟨a, by omega⟩
  · obtain ⟨a, b⟩ := k3 (by omega); exact ⟨a, by omega⟩
theorem nr_high {b : UInt8} (h : 128 ≤ b.toNat) : ([10, 13] : List UInt8).contains b = false := by
  rw [Bool.eq_false_iff]
  intro hc
  simp at hc
  rcases hc with rfl | rfl <;> simp at h
theorem noAny_jump {s : ByteArray} {i : Nat} (h : NoAny s.data.toList [10, 13] i) (hi : i < s.size) (hx : 128 ≤ (s[i]'hi).toNat) : NoAny s.data.toList [10, 13] (i + (Utf8.decode s i).2) := by
  intro j b hj hb
  rcases Nat.lt_trichotomy j i with hl | rfl | hg
  · exact h j b hl hb
  · have := Lib.data_getElem? s j hi
    rw [this] at hb; cases hb
    exact nr_high hx
  · obtain ⟨hs, hh⟩ := decode_skip s i j hg hj
    have := Lib.data_getElem? s j hs
    rw [this] at hb; cases hb
    refine nr_high ?_
    have e : s.get! j = s[j]'hs := by simp [ByteArray.get!, getElem!_pos, hs]; rfl
    rwa [e] at hh

set_option maxHeartbeats 1000000 in
theorem indexAny_nr (s : ByteArray) (w : World) (h8 : s.size ≤ 8) : Calls Tryz.prog 99 #[.string s, .string ⟨#[10, 13]⟩] w fun e w' => e = .returned (.int .i64 (Lib.indexAny s.data.toList [10, 13])) ∧ Below w.heap.size w w' := by
  have HU : Hid (∀ W, Calls Tryz.prog 117 #[.int .i64 s.size] W fun e w' => e = .returned (.bool (decide ((8 : Int) < (s.size : Int)))) ∧ w' = W) := Lib.hid fun W => Any.strings_shouldUseASCIISet (ρ := Tryz.lays150_ren) { Tryz.lays150 with } s.size W
  have h8z : decide ((8 : Int) < (s.size : Int)) = false := decide_eq_false (by omega)
  rw [h8z] at HU
  go_enter Tryz.func99, Tryz.ntmps99
  go_wp2_with fail
  (with_reducible refine (HU.out _).mono ?_)
  rintro e w1 ⟨rfl, rfl⟩
  go_wp2_with fail
  go_loopg [9, 10] s.size (fun g _ _ wx => ∃ i : Nat, i + g = s.size ∧ Hid (wx.heap[w1.heap.size]? = some (.stringIter s i)) ∧ Hid (Below w1.heap.size w1 wx) ∧ Hid (NoAny s.data.toList [10, 13] i))
  case atStart => exact ⟨0, by omega, Lib.hid (World.iter_heap w1 s 0), Lib.hid ((Below.refl _ _).alloc (Nat.le_refl _) _), Lib.hid (NoAny.zero _ _)⟩
  case round =>
    obtain ⟨i, hig, HK, HB, HN⟩ := hrel
    cases gk with
    | zero =>
      obtain rfl : i = s.size := by omega
      have hnx := fun ty => run_next_end_at (P := Tryz.prog) wr w1.heap.size s s.size ty HK.out (by omega)
      go_wp2_with fail
      go_ret
      exact ⟨by rw [Lib.indexAny_none (by rw [← Lib.size_eq]; exact HN.out)]; rfl, HB.out⟩
    | succ g =>
      have hi : i < s.size := by omega
      obtain ⟨x, hx⟩ : ∃ x : UInt8, s[i]'hi = x := ⟨_, rfl⟩
      have Hx : Hid (s.data.toList[i]? = some x) := Lib.hid (by rw [← hx]; exact Lib.data_getElem? s i hi)
      by_cases hlt : x.toNat < 128
      · have hnx := fun ty => run_next_ascii_at (P := Tryz.prog) wr w1.heap.size s i ty HK.out hi (by rw [hx]; exact hlt)
        rw [hx] at hnx
        have HK2 := Lib.hid (Lib.iterAt_heap wr w1.heap.size s i (i + 1) HK.out)
        have HB2 := Lib.hid (Lib.below_iterAt HB.out (k := w1.heap.size) (Nat.le_refl _) s (i + 1))
        obtain ⟨W, hW⟩ : ∃ W, wr.iterAt w1.heap.size s (i + 1) = W := ⟨_, rfl⟩
        rw [hW] at hnx HK2 HB2
        have HR : Hid (Calls Tryz.prog 116 #[.string ⟨#[10, 13]⟩, .int .i32 x.toNat] W fun e w' => e = .returned (.int .i64 (Lib.indexByte [10, 13] x)) ∧ w' = W) := Lib.hid (by
          have h := Any.strings_IndexRune_ascii (ρ := Tryz.lays150_ren) { Tryz.lays150 with } ⟨#[10, 13]⟩ x.toNat W (by omega) (by omega)
          have hb : ((x.toNat : Int)).toNat.toUInt8 = x := by simp
          rw [hb] at h; exact h)
        have hcon := Lib.contains_iff_indexByte [10, 13] x
        clear hx hW
        cases hin : ([10, 13] : List UInt8).contains x
        · rw [hin] at hcon
          have hge : ¬ ((0 : Int) ≤ Lib.indexByte [10, 13] x) := of_decide_eq_false hcon.symm
          clear hcon
          go_wp2_with fail
          (with_reducible refine HR.out.mono ?_)
          rintro e w2 ⟨rfl, rfl⟩
          go_wp2_with fail
          go_roundg g
          case measure => omega
          case rel => exact ⟨i + 1, by omega, HK2, HB2, Lib.hid (HN.out.succ Hx.out hin)⟩
        · rw [hin] at hcon
          have hge : (0 : Int) ≤ Lib.indexByte [10, 13] x := of_decide_eq_true hcon.symm
          clear hcon
          go_wp2_with fail
          (with_reducible refine HR.out.mono ?_)
          rintro e w2 ⟨rfl, rfl⟩
          go_wp2_with fail
          go_ret
          exact ⟨by rw [Lib.indexAny_hit HN.out Hx.out hin]; rfl, HB2.out⟩
      · have hnx := fun ty => run_next_any_at (P := Tryz.prog) wr w1.heap.size s i ty HK.out hi
        have hhi := decode_high s i hi (by rw [hx]; omega)
        have HN2 := Lib.hid (noAny_jump HN.out hi (by rw [hx]; omega))
        have hle : i + (Utf8.decode s i).2 ≤ s.size := by
          by_cases h1 : (Utf8.decode s i).2 = 1
          · omega
          · have := (decode_skip s i (i + (Utf8.decode s i).2 - 1) (by omega) (by omega)).1; omega
        obtain ⟨r, hr⟩ : ∃ r : Nat, (Utf8.decode s i).1 = r := ⟨_, rfl⟩
        obtain ⟨k, hk⟩ : ∃ k : Nat, (Utf8.decode s i).2 = k := ⟨_, rfl⟩
        rw [hr, hk] at hnx hhi
        rw [hk] at HN2 hle
        obtain ⟨hr128, hk1⟩ := hhi
        have HK2 := Lib.hid (Lib.iterAt_heap wr w1.heap.size s i (i + k) HK.out)
        have HB2 := Lib.hid (Lib.below_iterAt HB.out (k := w1.heap.size) (Nat.le_refl _) s (i + k))
        obtain ⟨W, hW⟩ : ∃ W, wr.iterAt w1.heap.size s (i + k) = W := ⟨_, rfl⟩
        rw [hW] at hnx HK2 HB2
        have HR := Lib.hid (indexRune_nr (r : Int) W (by omega))
        clear hx hW hr hk
        go_wp2_with fail
        (with_reducible refine HR.out.mono ?_)
        rintro e w2 ⟨rfl, hb2⟩
        go_wp2_with fail
        go_roundg (s.size - (i + k))
        case measure => omega
        case rel => exact ⟨i + k, by omega, Lib.hid ((hb2.block _ (Array.getElem?_eq_some_iff.1 HK2.out).1).trans HK2.out), Lib.hid (HB2.out.trans (hb2.mono HB2.out.size)), HN2⟩

theorem indexAny_all (s : ByteArray) (w : World) (hs : s.size < 4294967281) : Calls Tryz.prog 99 #[.string s, .string ⟨#[10, 13]⟩] w fun e w' => e = .returned (.int .i64 (Lib.indexAny s.data.toList [10, 13])) ∧ Below w.heap.size w w' := by
  by_cases h8 : s.size ≤ 8
  · exact indexAny_nr s w h8
  · have h116 : (Tryz.prog.info? (Tryz.lays150_ren.t 116)).map (fun i => (i.zero, i.size)) = some (some (.agg (Array.replicate 256 (.bool false))), 256) := by kernel_rfl
    have h := Any.strings_IndexAny_long (ρ := Tryz.lays150_ren) { Tryz.lays150 with } (zero_of_info h116).1 (zero_of_info h116).2 s ⟨#[10, 13]⟩ w (by decide) (by omega) hs (by decide) ascii_nl
    exact h.mono fun e w' k => ⟨k.1, by rw [k.2]; exact ((Below.refl _ _).alloc (Nat.le_refl _) _).alloc (by show w.heap.size ≤ (w.heap.push _).size; simp) _⟩

theorem containsAny_nr (s : ByteArray) (w : World) (hs : s.size < 4294967281) : Calls Tryz.prog 78 #[.string s, .string ⟨#[10, 13]⟩] w fun e w' => e = .returned (.bool (Lib.containsAny s.data.toList [10, 13])) ∧ Below w.heap.size w w' := by
  have H := Lib.hid (indexAny_all s w hs)
  have HV : Lib.containsAny s.data.toList [10, 13] = decide ((0 : Int) ≤ Lib.indexAny s.data.toList [10, 13]) := rfl
  rw [HV]
  clear HV hs
  obtain ⟨v, hv⟩ : ∃ v, v = Lib.indexAny s.data.toList [10, 13] := ⟨_, rfl⟩
  rw [← hv] at H ⊢
  go_enter Tryz.func78, Tryz.ntmps78
  go_wp2_with fail
  (with_reducible refine H.out.mono ?_)
  rintro e w1 ⟨rfl, hb⟩
  go_wp2_with fail
  go_ret
  exact ⟨by rw [hv]; rfl, hb⟩
end Go.Proofs.YtapgaglkkgbgkaaGreatDoor.Cv
namespace Go.Proofs.YtapgaglkkgbgkaaGreatDoor.Cv
open Go.RowKit
set_option maxRecDepth 100000

theorem ascii_br : ∀ (j : Nat) b, (ByteArray.mk #[91, 93]).data.toList[j]? = some b → b.toNat < 128 := by
  intro j b h
  match j, h with
  | 0, h => simp at h; subst h; decide
  | 1, h => simp at h; subst h; decide
  | j + 2, h => simp at h
set_option maxHeartbeats 1000000 in
theorem indexRune_br (r : Int) (w : World) (h : 128 ≤ r) : Calls Tryz.prog 116 #[.string ⟨#[91, 93]⟩, .int .i32 r] w fun e w' => e = .returned (.int .i64 (-1)) ∧ Below w.heap.size w w' := by
  by_cases he : r = 65533
  · subst he
    have HB : ∀ i, Below w.heap.size w (w.iter ⟨#[91, 93]⟩ i) := fun i => (Below.refl _ _).alloc (Nat.le_refl _) _
    have n0 := fun ty => run_next_ascii (P := Tryz.prog) w ⟨#[91, 93]⟩ 0 ty (by decide) (by decide)
    have n1 := fun ty => run_next_ascii (P := Tryz.prog) w ⟨#[91, 93]⟩ 1 ty (by decide) (by decide)
    have n2 := fun ty => run_next_end (P := Tryz.prog) w ⟨#[91, 93]⟩ 2 ty (by decide)
    go_enter Tryz.func116, Tryz.ntmps116
    go_wp2_with fail
    go_loopg [5, 6] 2 (fun g _ _ wx => ∃ i : Nat, i + g = 2 ∧ wx = w.iter ⟨#[91, 93]⟩ i)
    case atStart => exact ⟨0, by omega, rfl⟩
    case round =>
      obtain ⟨i, hig, rfl⟩ := hrel
      cases gk with
      | zero =>
        obtain rfl : i = 2 := by omega
        go_wp2_with fail
        go_ret
        exact ⟨rfl, HB _⟩
      | succ g =>
        by_cases h0 : i = 0
        · subst h0
          go_wp2_with fail
          go_roundg g
          case measure => omega
          case rel => exact ⟨1, by omega, rfl⟩
        · obtain rfl : i = 1 := by omega
          go_wp2_with fail
          go_roundg g
          case measure => omega
          case rel => exact ⟨2, by omega, rfl⟩
  · have he' : ((r : Int) == 65533) = false := beq_eq_false_iff_ne.2 he
    have H0 : ((0 : Int) ≤ r) := by omega
    have H1 : ¬ (r < 128) := by omega
    cases hv : Utf8.valid r
    · have HV := Lib.hid (validR r w)
      rw [hv] at HV
      go_enter Tryz.func116, Tryz.ntmps116
      go_wp2_with fail
      (with_reducible refine HV.out.mono ?_)
      rintro e w1 ⟨rfl, rfl⟩
      go_wp2_with fail
      go_ret
      exact ⟨rfl, Below.refl _ _⟩
    · have HV := Lib.hid (validR r w)
      rw [hv] at HV
      have hcv : ∀ W, (convert 21 9 (.int .i32 r)).run Tryz.prog W = .ok (.string (Utf8.encode r)) W := fun W => run_convert_int_string W 21 9 .i32 r rfl rfl
      rcases encode_sorts h hv with ⟨a, b, hab, hb⟩ | ⟨a, b, c, hab⟩ | ⟨a, b, c, d, hab⟩
      · rw [hab] at hcv
        have HI : Hid (∀ W, Calls Tryz.prog 145 #[.string ⟨#[]⟩, .int .u8 b.toNat] W fun e w' => e = .returned (.int .i64 (-1)) ∧ w' = W) := Lib.hid fun W => byteAt ⟨#[]⟩ b.toNat W
        have hsl : ∀ W, (Instr.slice 9 (.string ⟨#[91, 93]⟩) (some (.int .i64 2)) none none).run Tryz.prog W = .ok (.string ⟨#[]⟩) W := by
          intro W
          first | rfl | exact run_slice_string_l (P := Tryz.prog) W 9 ⟨#[91, 93]⟩ rfl .i64 2 (by decide) (by decide) | simp
        have hne : ((((ByteArray.mk #[91, 93])[1]'(by decide)).toNat : Int) != (((ByteArray.mk #[a, b])[1]'(by show 1 < 2; decide)).toNat : Int)) = true := by
          show ((93 : Int) != (b.toNat : Int)) = true
          exact bne_iff_ne.2 (by omega)
        go_enter Tryz.func116, Tryz.ntmps116
        go_wp2_with fail
        (with_reducible refine HV.out.mono ?_)
        rintro e w1 ⟨rfl, rfl⟩
        go_wp2_with fail
        go_step3
        go_wp2_with fail
        go_loopg [9] 1 (fun g i wx => g = 1 ∧ i = .int .i64 1 ∧ wx = w1)
        case atStart => exact ⟨rfl, rfl, rfl⟩
        case round =>
          obtain ⟨rfl, rfl, rfl⟩ := hrel
          go_wp2_with fail
          go_step3
          go_wp2_with fail
          go_quiet (fail)
          go_wp2_with fail
          go_quiet ((refine Calls.mono (HI.out _) ?_; rintro e w' ⟨rfl, rfl⟩; exact ⟨rfl, _, rfl⟩))
          go_wp2_with fail
          rw [Exit.noGoto_ret]
          simp only [Exit.inBlock, Exit.then, Exit.noGoto_ret]
          go_ret
          exact ⟨rfl, below_drewN (Below.refl _ _) _⟩
      · rw [hab] at hcv
        go_enter Tryz.func116, Tryz.ntmps116
        go_wp2_with fail
        (with_reducible refine HV.out.mono ?_)
        rintro e w1 ⟨rfl, rfl⟩
        go_wp2_with fail
        go_step3
        go_wp2_with fail
        go_loopg [9] 1 (fun g i wx => g = 1 ∧ i = .int .i64 2 ∧ wx = w1)
        case atStart => exact ⟨rfl, rfl, rfl⟩
        case round =>
          obtain ⟨rfl, rfl, rfl⟩ := hrel
          go_wp2_with fail
          rw [Exit.noGoto_ret]
          go_ret
          exact ⟨rfl, Below.refl _ _⟩
      · rw [hab] at hcv
        go_enter Tryz.func116, Tryz.ntmps116
        go_wp2_with fail
        (with_reducible refine HV.out.mono ?_)
        rintro e w1 ⟨rfl, rfl⟩
        go_wp2_with fail
        go_step3
        go_wp2_with fail
        go_loopg [9] 1 (fun g i wx => g = 1 ∧ i = .int .i64 3 ∧ wx = w1)
        case atStart => exact ⟨rfl, rfl, rfl⟩
        case round =>
          obtain ⟨rfl, rfl, rfl⟩ := hrel
          go_wp2_with fail
          rw [Exit.noGoto_ret]
          go_ret
          exact ⟨rfl, Below.refl _ _⟩
end Go.Proofs.YtapgaglkkgbgkaaGreatDoor.Cv
namespace Go.Proofs.YtapgaglkkgbgkaaGreatDoor.Cv
open Go.RowKit Go.Lib
set_option maxRecDepth 100000

theorem br_high {b : UInt8} (h : 128 ≤ b.toNat) : ([91, 93] : List UInt8).contains b = false := by
  rw [Bool.eq_false_iff]
  intro hc
  simp at hc
  rcases hc with rfl | rfl <;> simp at h
theorem noAny_jump_br {s : ByteArray} {i : Nat} (h : NoAny s.data.toList [91, 93] i) (hi : i < s.size) (hx : 128 ≤ (s[i]'hi).toNat) : NoAny s.data.toList [91, 93] (i + (Utf8.decode s i).2) := by
  intro j b hj hb
  rcases Nat.lt_trichotomy j i with hl | rfl | hg
  · exact h j b hl hb
  · have := Lib.data_getElem? s j hi
    rw [this] at hb; cases hb
    exact br_high hx
  · obtain ⟨hs, hh⟩ := decode_skip s i j hg hj
    have := Lib.data_getElem? s j hs
    rw [this] at hb; cases hb
    refine br_high ?_
    have e : s.get! j = s[j]'hs := by simp [ByteArray.get!, getElem!_pos, hs]; rfl
    rwa [e] at hh

set_option maxHeartbeats 1000000 in
theorem indexAny_br (s : ByteArray) (w : World) (h8 : s.size ≤ 8) : Calls Tryz.prog 99 #[.string s, .string ⟨#[91, 93]⟩] w fun e w' => e = .returned (.int .i64 (Lib.indexAny s.data.toList [91, 93])) ∧ Below w.heap.size w w' := by
  have HU : Hid (∀ W, Calls Tryz.prog 117 #[.int .i64 s.size] W fun e w' => e = .returned (.bool (decide ((8 : Int) < (s.size : Int)))) ∧ w' = W) := Lib.hid fun W => Any.strings_shouldUseASCIISet (ρ := Tryz.lays150_ren) { Tryz.lays150 with } s.size W
  have h8z : decide ((8 : Int) < (s.size : Int)) = false := decide_eq_false (by omega)
  rw [h8z] at HU
  go_enter Tryz.func99, Tryz.ntmps99
  go_wp2_with fail
  (with_reducible refine (HU.out _).mono ?_)
  rintro e w1 ⟨rfl, rfl⟩
  go_wp2_with fail
  go_loopg [9, 10] s.size (fun g _ _ wx => ∃ i : Nat, i + g = s.size ∧ Hid (wx.heap[w1.heap.size]? = some (.stringIter s i)) ∧ Hid (Below w1.heap.size w1 wx) ∧ Hid (NoAny s.data.toList [91, 93] i))
  case atStart => exact ⟨0, by omega, Lib.hid (World.iter_heap w1 s 0), Lib.hid ((Below.refl _ _).alloc (Nat.le_refl _) _), Lib.hid (NoAny.zero _ _)⟩
  case round =>
    obtain ⟨i, hig, HK, HB, HN⟩ := hrel
    cases gk with
    | zero =>
      obtain rfl : i = s.size := by omega
      have hnx := fun ty => run_next_end_at (P := Tryz.prog) wr w1.heap.size s s.size ty HK.out (by omega)
      go_wp2_with fail
      go_ret
      exact ⟨by rw [Lib.indexAny_none (by rw [← Lib.size_eq]; exact HN.out)]; rfl, HB.out⟩
    | succ g =>
      have hi : i < s.size := by omega
      obtain ⟨x, hx⟩ : ∃ x : UInt8, s[i]'hi = x := ⟨_, rfl⟩
      have Hx : Hid (s.data.toList[i]? = some x) := Lib.hid (by rw [← hx]; exact Lib.data_getElem? s i hi)
      by_cases hlt : x.toNat < 128
      · have hnx := fun ty => run_next_ascii_at (P := Tryz.prog) wr w1.heap.size s i ty HK.out hi (by rw [hx]; exact hlt)
        rw [hx] at hnx
        have HK2 := Lib.hid (Lib.iterAt_heap wr w1.heap.size s i (i + 1) HK.out)
        have HB2 := Lib.hid (Lib.below_iterAt HB.out (k := w1.heap.size) (Nat.le_refl _) s (i + 1))
        obtain ⟨W, hW⟩ : ∃ W, wr.iterAt w1.heap.size s (i + 1) = W := ⟨_, rfl⟩
        rw [hW] at hnx HK2 HB2
        have HR : Hid (Calls Tryz.prog 116 #[.string ⟨#[91, 93]⟩, .int .i32 x.toNat] W fun e w' => e = .returned (.int .i64 (Lib.indexByte [91, 93] x)) ∧ w' = W) := Lib.hid (by
          have h := Any.strings_IndexRune_ascii (ρ := Tryz.lays150_ren) { Tryz.lays150 with } ⟨#[91, 93]⟩ x.toNat W (by omega) (by omega)
          have hb : ((x.toNat : Int)).toNat.toUInt8 = x := by simp
          rw [hb] at h; exact h)
        have hcon := Lib.contains_iff_indexByte [91, 93] x
        clear hx hW
        cases hin : ([91, 93] : List UInt8).contains x
        · rw [hin] at hcon
          have hge : ¬ ((0 : Int) ≤ Lib.indexByte [91, 93] x) := of_decide_eq_false hcon.symm
          clear hcon
          go_wp2_with fail
          (with_reducible refine HR.out.mono ?_)
          rintro e w2 ⟨rfl, rfl⟩
          go_wp2_with fail
          go_roundg g
          case measure => omega
          case rel => exact ⟨i + 1, by omega, HK2, HB2, Lib.hid (HN.out.succ Hx.out hin)⟩
        · rw [hin] at hcon
          have hge : (0 : Int) ≤ Lib.indexByte [91, 93] x := of_decide_eq_true hcon.symm
          clear hcon
          go_wp2_with fail
          (with_reducible refine HR.out.mono ?_)
          rintro e w2 ⟨rfl, rfl⟩
          go_wp2_with fail
          go_ret
          exact ⟨by rw [Lib.indexAny_hit HN.out Hx.out hin]; rfl, HB2.out⟩
      · have hnx := fun ty => run_next_any_at (P := Tryz.prog) wr w1.heap.size s i ty HK.out hi
        have hhi := decode_high s i hi (by rw [hx]; omega)
        have HN2 := Lib.hid (noAny_jump_br HN.out hi (by rw [hx]; omega))
        have hle : i + (Utf8.decode s i).2 ≤ s.size := by
          by_cases h1 : (Utf8.decode s i).2 = 1
          · omega
          · have := (decode_skip s i (i + (Utf8.decode s i).2 - 1) (by omega) (by omega)).1; omega
        obtain ⟨r, hr⟩ : ∃ r : Nat, (Utf8.decode s i).1 = r := ⟨_, rfl⟩
        obtain ⟨k, hk⟩ : ∃ k : Nat, (Utf8.decode s i).2 = k := ⟨_, rfl⟩
        rw [hr, hk] at hnx hhi
        rw [hk] at HN2 hle
        obtain ⟨hr128, hk1⟩ := hhi
        have HK2 := Lib.hid (Lib.iterAt_heap wr w1.heap.size s i (i + k) HK.out)
        have HB2 := Lib.hid (Lib.below_iterAt HB.out (k := w1.heap.size) (Nat.le_refl _) s (i + k))
        obtain ⟨W, hW⟩ : ∃ W, wr.iterAt w1.heap.size s (i + k) = W := ⟨_, rfl⟩
        rw [hW] at hnx HK2 HB2
        have HR := Lib.hid (indexRune_br (r : Int) W (by omega))
        clear hx hW hr hk
        go_wp2_with fail
        (with_reducible refine HR.out.mono ?_)
        rintro e w2 ⟨rfl, hb2⟩
        go_wp2_with fail
        go_roundg (s.size - (i + k))
        case measure => omega
        case rel => exact ⟨i + k, by omega, Lib.hid ((hb2.block _ (Array.getElem?_eq_some_iff.1 HK2.out).1).trans HK2.out), Lib.hid (HB2.out.trans (hb2.mono HB2.out.size)), HN2⟩

theorem indexAny_all_br (s : ByteArray) (w : World) (hs : s.size < 4294967281) : Calls Tryz.prog 99 #[.string s, .string ⟨#[91, 93]⟩] w fun e w' => e = .returned (.int .i64 (Lib.indexAny s.data.toList [91, 93])) ∧ Below w.heap.size w w' := by
  by_cases h8 : s.size ≤ 8
  · exact indexAny_br s w h8
  · have h116 : (Tryz.prog.info? (Tryz.lays150_ren.t 116)).map (fun i => (i.zero, i.size)) = some (some (.agg (Array.replicate 256 (.bool false))), 256) := by kernel_rfl
    have h := Any.strings_IndexAny_long (ρ := Tryz.lays150_ren) { Tryz.lays150 with } (zero_of_info h116).1 (zero_of_info h116).2 s ⟨#[91, 93]⟩ w (by decide) (by omega) hs (by decide) ascii_br
    exact h.mono fun e w' k => ⟨k.1, by rw [k.2]; exact ((Below.refl _ _).alloc (Nat.le_refl _) _).alloc (by show w.heap.size ≤ (w.heap.push _).size; simp) _⟩

theorem containsAny_br (s : ByteArray) (w : World) (hs : s.size < 4294967281) : Calls Tryz.prog 78 #[.string s, .string ⟨#[91, 93]⟩] w fun e w' => e = .returned (.bool (Lib.containsAny s.data.toList [91, 93])) ∧ Below w.heap.size w w' := by
  have H := Lib.hid (indexAny_all_br s w hs)
  have HV : Lib.containsAny s.data.toList [91, 93] = decide ((0 : Int) ≤ Lib.indexAny s.data.toList [91, 93]) := rfl
  rw [HV]
  clear HV hs
  obtain ⟨v, hv⟩ : ∃ v, v = Lib.indexAny s.data.toList [91, 93] := ⟨_, rfl⟩
  rw [← hv] at H ⊢
  go_enter Tryz.func78, Tryz.ntmps78
  go_wp2_with fail
  (with_reducible refine H.out.mono ?_)
  rintro e w1 ⟨rfl, hb⟩
  go_wp2_with fail
  go_ret
  exact ⟨by rw [hv]; rfl, hb⟩
end Go.Proofs.YtapgaglkkgbgkaaGreatDoor.Cv
