/- With and Make of the law, told with the blocks that their answers lie in. Conditions: as With's and Make's. · The document's own Split: what it makes of any text. Conditions: fewer than 2^38 bytes. · Two trees: whether all is the same; Same of the reference. Conditions: fewer edges than 2^47. · A row's frame where the row lists variables and the walk asks the world's shape. No conditions. -/
import Derived.Test.YtkgpjohfkfbfhaaGreatDoorMwCvGrow
import Derived.Test.YtkgpjohfkfbfhaaGreatDoorMake
import Derived.Deep.RegionHeld3
import Derived.IntWalk
import Derived.Outline
import Derived.Test.YtkgpjohfkfbfhaaGreatDoorMwCwSay
import Derived.Deep.LoopGhost
import Derived.Test.YtkgpjohfkfbfhaaGreatDoorMwWords
import Derived.Test.YtkgpjohfkfbfhaaGreatDoorWith
import Derived.Deep.QuietTactic
import Derived.BigQuiet
import Derived.Test.YtkgpjohfkfbfhaaGreatDoorMwCvField
import Derived.Handed
import Derived.ShapedOpen
import Derived.Shelf.LaysM
namespace Go.Proofs.YtkgpjohfkfbfhaaGreatDoor.Pt
open Go.RowKit Go.Proofs.YtkgpjohfkfbfhaaGreatDoor.Cl
set_option maxRecDepth 100000

/-- A block of one's own, from base on. -/
def Mine (base : Nat) (w : World) (b : Nat) : Prop := base ≤ b ∧ ∃ cs E, w.heap[b]? = some (.cells cs E (0, 0))
theorem Mine.lt {base b : Nat} {w : World} (h : Mine base w b) : b < w.heap.size := by
  obtain ⟨_, cs, E, h⟩ := h
  exact (Array.getElem?_eq_some_iff.1 h).1
theorem Mine.more {base base' b : Nat} {w : World} (h : Mine base' w b) (hb : base ≤ base') : Mine base w b := ⟨Nat.le_trans hb h.1, h.2⟩
theorem Mine.below {base b : Nat} {w w' : World} (h : Mine base w b) (hb : Below w.heap.size w w') : Mine base w' b := by
  have := hb.block b h.lt
  obtain ⟨h1, cs, E, h2⟩ := h
  exact ⟨h1, cs, E, by rw [this]; exact h2⟩
theorem mine_keep {base n : Nat} {w w' : World} {A : Option Addr} {t : Tr} (h : HoldsP w (Mine base w) A n t) (hb : Below w.heap.size w w') : HoldsP w' (Mine base w') A n t :=
  (h.keep fun _ _ hm => hb.cell hm.lt).more fun _ hm => hm.below hb
theorem mine_or {base n : Nat} {w w' : World} {A : Option Addr} {t : Tr} (h : HoldsP w' (fun b => Mine base w b ∨ Mine w.heap.size w' b) A n t) (hb : Below w.heap.size w w') (hs : base ≤ w.heap.size) : HoldsP w' (Mine base w') A n t :=
  h.more fun _ hm => hm.elim (fun h => h.below hb) (fun h => h.more hs)

/-- The cells of a slice of edges read as a tree. -/
def RowP (w : World) (P : Nat → Prop) : List Value → Tr → Prop
  | [], .nil => True
  | .string s' :: .slice A n c :: vs, .cons s k r => s' = s ∧ n ≤ c ∧ c ≤ maxLen ∧ HoldsP w P A n k ∧ RowP w P vs r
  | _, _ => False
section
variable {w w' : World} {P P' : Nat → Prop}
theorem RowP.keep (hk : ∀ b o, P b → w'.cell? ⟨b, o, none⟩ = w.cell? ⟨b, o, none⟩) : ∀ {vs : List Value} {t : Tr}, RowP w P vs t → RowP w' P vs t
  | [], .nil, h => h
  | .string _ :: .slice _ _ _ :: _, .cons _ _ _, ⟨h1, h2, h3, h4, h5⟩ => ⟨h1, h2, h3, h4.keep hk, RowP.keep hk h5⟩
theorem RowP.more (hP : ∀ b, P b → P' b) : ∀ {vs : List Value} {t : Tr}, RowP w P vs t → RowP w P' vs t
  | [], .nil, h => h
  | .string _ :: .slice _ _ _ :: _, .cons _ _ _, ⟨h1, h2, h3, h4, h5⟩ => ⟨h1, h2, h3, h4.more hP, RowP.more hP h5⟩
theorem RowP.length : ∀ {vs : List Value} {t : Tr}, RowP w P vs t → vs.length = t.len * 2
  | [], .nil, _ => rfl
  | .string _ :: .slice _ _ _ :: vs, .cons _ _ _, ⟨_, _, _, _, h5⟩ => by simp only [List.length_cons, Tr.len, RowP.length h5]; omega
theorem RowP.one : ∀ {vs : List Value} {t : Tr}, RowP w P vs t → ∀ u ∈ vs, u.oneCell' = true
  | [], .nil, _, u, hu => by cases hu
  | .string _ :: .slice _ _ _ :: vs, .cons _ _ _, ⟨_, _, _, _, h5⟩, u, hu => by
    simp only [List.mem_cons] at hu
    rcases hu with rfl | rfl | hu
    · rfl
    · rfl
    · exact RowP.one h5 u hu
/-- What lies in memory as a tree has its cells. -/
theorem holds_rowP : ∀ {t : Tr} {A : Option Addr} {n : Nat}, HoldsP w P A n t → ∃ vs, RowP w P vs t ∧ (∀ b o, A = some ⟨b, o, none⟩ → ∀ j u, vs[j]? = some u → w.cell? ⟨b, o + j, none⟩ = some u) ∧ (0 < n → ∃ b o, A = some ⟨b, o, none⟩ ∧ P b)
  | .nil, _, _, h => ⟨[], trivial, fun _ _ _ j u hu => by simp at hu, fun hn => by rw [show _ = 0 from h] at hn; omega⟩
  | .cons s k r, _, _, ⟨b, o, e, hb, hs, ⟨A', n', c', hc, hn, hm, hk⟩, m, hm1, hr⟩ => by
    obtain ⟨vs, h1, h2, _⟩ := holds_rowP hr
    refine ⟨.string s :: .slice A' n' c' :: vs, ⟨rfl, hn, hm, hk, h1⟩, ?_, fun _ => ⟨b, o, e, hb⟩⟩
    intro b' o' e' j u hu
    rw [e] at e'
    cases e'
    match j with
    | 0 => simp at hu; subst hu; exact hs
    | 1 => simp at hu; subst hu; exact hc
    | j + 2 =>
      have := h2 b (o + 2) rfl j u (by simpa using hu)
      rw [show o + (j + 2) = o + 2 + j by omega]
      exact this
/-- Cells that read as a tree, at an address. -/
theorem RowP.holds : ∀ {vs : List Value} {t : Tr} {b o : Nat}, RowP w P vs t → P b → (∀ j u, vs[j]? = some u → w.cell? ⟨b, o + j, none⟩ = some u) → HoldsP w P (some ⟨b, o, none⟩) t.len t
  | [], .nil, _, _, _, _, _ => rfl
  | .string _ :: .slice A n c :: vs, .cons _ k r, b, o, ⟨h1, h2, h3, h4, h5⟩, hb, hc => by
    subst h1
    refine ⟨b, o, rfl, hb, hc 0 _ rfl, ⟨A, n, c, hc 1 _ rfl, h2, h3, h4⟩, r.len, rfl, RowP.holds h5 hb (fun j u hu => ?_)⟩
    have := hc (j + 2) u (by simpa using hu)
    rw [show o + 2 + j = o + (j + 2) by omega]
    exact this
end

/-- The cells of With's answer. -/
theorem RowP.with_ {w : World} {P : Nat → Prop} {name : ByteArray} {x : Tr} {Ax : Option Addr} {nx cx : Nat} (hx : HoldsP w P Ax nx x) (hn : nx ≤ cx) (hm : cx ≤ maxLen) : ∀ {vs : List Value} {t : Tr}, RowP w P vs t →
    RowP w P (vs.take (t.atN name * 2) ++ [.string name, .slice Ax nx cx] ++ vs.drop ((t.atN name + (t.atIs name).toNat) * 2)) (t.withT name x)
  | [], .nil, _ => ⟨rfl, hn, hm, hx, trivial⟩
  | .string s :: .slice A n c :: vs, .cons _ k r, ⟨h1, h2, h3, h4, h5⟩ => by
    subst h1
    by_cases hl : Op.bytesLess s.toList name.toList = true
    · have ih := RowP.with_ (name := name) hx hn hm h5
      have e1 : (Tr.cons s k r).atN name = r.atN name + 1 := by simp only [Tr.atN]; rw [if_pos hl]
      have e2 : (Tr.cons s k r).atIs name = r.atIs name := by unfold Tr.atIs; rw [e1]; rfl
      have e3 : (Tr.cons s k r).withT name x = .cons s k (r.withT name x) := by simp only [Tr.withT]; rw [if_pos hl]
      rw [e1, e2, e3, show (r.atN name + 1) * 2 = r.atN name * 2 + 1 + 1 by omega, show (r.atN name + 1 + (r.atIs name).toNat) * 2 = (r.atN name + (r.atIs name).toNat) * 2 + 1 + 1 by omega]
      exact ⟨rfl, h2, h3, h4, ih⟩
    · have e1 : (Tr.cons s k r).atN name = 0 := by simp only [Tr.atN]; rw [if_neg hl]
      have e2 : (Tr.cons s k r).atIs name = (s.toList == name.toList) := by unfold Tr.atIs; rw [e1]; rfl
      rw [e1, e2]
      by_cases he : (s.toList == name.toList) = true
      · have e3 : (Tr.cons s k r).withT name x = .cons name x r := by simp only [Tr.withT]; rw [if_neg hl, if_pos he]
        rw [he, e3]
        exact ⟨rfl, hn, hm, hx, h5⟩
      · have e3 : (Tr.cons s k r).withT name x = .cons name x (.cons s k r) := by simp only [Tr.withT]; rw [if_neg hl, if_neg he]
        rw [e3]
        have he2 : (s.toList == name.toList) = false := by simpa using he
        rw [he2]
        exact ⟨rfl, hn, hm, hx, rfl, h2, h3, h4, h5⟩

theorem own_holdsP {P : Nat → Prop} {w : World} {base n c : Nat} {A : Option Addr} {e : TypeId} {vs : List Value} {t : Tr} (ho : w.ownsRow base e 2 (.slice A n c) n vs) (hr : RowP w (fun b => P b ∨ Mine base w b) vs t) : HoldsP w (fun b => P b ∨ Mine base w b) A n t := by
  have hl := hr.length
  have hl2 := ho.1
  have hn : n = t.len := by omega
  rcases ho.2 with ⟨e1, hn0⟩ | ⟨g, cap, cur, e1, hbg, hh, _⟩
  · subst hn0
    cases t with
    | nil => rfl
    | cons _ _ _ => simp [Tr.len] at hn
  · injection e1 with e1 e2 e3
    subst e1
    subst hn
    exact hr.holds (.inr ⟨hbg, _, _, hh⟩) (fun j u hu => by
      have := rowCells ho j u hu
      rw [Addr.add_lit] at this
      exact this)

set_option maxHeartbeats 2000000 in
theorem withP_any {P : Nat → Prop} (t x : Tr) (A Ax : Option Addr) (n c nx cx : Nat) (name : ByteArray) (w : World) (h : HoldsP w P A n t) (hx : HoldsP w P Ax nx x) (hP : ∀ b, P b → b < w.heap.size) (hn : n ≤ 549755813888) (hc : n ≤ c) (hcx : nx ≤ cx) (hmx : cx ≤ maxLen) :
    Calls Tryz.prog 31 #[.slice A n c, .string name, .slice Ax nx cx] w fun e w' => ∃ A' n' c', e = .returned (.slice A' n' c') ∧ HoldsP w' (fun b => P b ∨ Mine w.heap.size w' b) A' n' (t.withT name x) ∧ n' ≤ c' ∧ c' ≤ maxLen ∧ Below w.heap.size w w' := by
  have Hn := Lib.hid h.len
  have Hat := Lib.hid (at_any t A n c w.heap.size name w (h.to hP) (Nat.le_refl _) (by omega))
  have hle := atN_le name t
  rw [← Hn.out] at hle
  obtain ⟨k, hk⟩ : ∃ k, k = t.atN name := ⟨_, rfl⟩
  obtain ⟨is, his⟩ : ∃ b, b = t.atIs name := ⟨_, rfl⟩
  rw [← hk] at hle Hat
  rw [← his] at Hat
  have Hk := Lib.hid hk
  have His := Lib.hid his
  clear hk his
  cases t with
  | nil =>
    obtain rfl : n = 0 := h
    obtain rfl : k = 0 := by omega
    obtain rfl : is = false := His.out
    go_enter Tryz.func31, Tryz.ntmps31
    go_wp2_with fail
    refine Hat.out.mono ?_
    rintro e w1 ⟨rfl, q, rfl⟩
    have hlx : (0 : Nat) < 1 := by omega
    have hsx : ∀ W : World, Src Tryz.prog 2 30 (.slice (some ⟨W.heap.size, 0, none⟩) 1 1) 1 [.string name, .slice Ax nx cx] (W.alloc (.cells #[.string name, .slice Ax nx cx] 53)) := fun W => src_edges rfl (fun j u hu => by rw [cell_of_row _ _ _ _ _ _ (heap_alloc_new W _)]; rw [← hu]; simp) (by simp [Value.oneCell'])
    have Hsx := Lib.hid hsx
    clear hsx hlx
    go_wp2_with (first
      | (at_builtin; refine wpList_append_row rfl (.tmp 16) (.tmp 19) _ _ rfl elem_edge rfl rfl (World.ownsRow_nil _ w.heap.size _ _) (src_none _ _ _) (by omega) (Nat.le_refl _) ?_; intro A1 c1 w1 ho1 hg1 hat1)
      | (at_builtin; refine wpList_append_row rfl (.tmp 21) (.tmp 25) _ _ rfl elem_edge rfl rfl (ho1.alloc _) (Hsx.out w1) (by omega) (by have := hg1.size; simp at this ⊢; omega) ?_; intro A2 c2 w2 ho2 hg2 hat2; have hz2 : w.heap.size ≤ w2.heap.size := (by have h1 := hg1.size; have h2 := hg2.size; simp at h1 h2; omega))
      | (at_builtin; refine wpList_append_row rfl (.tmp 30) (.tmp 33) _ _ rfl elem_edge rfl rfl ho2 (src_none _ _ _) (by omega) hz2 ?_; intro A3 c3 w3 ho3 hg3 hat3))
    go_ret
    have hb1 : Below w.heap.size w w1 := (below_drewN (Below.refl _ w) q).grown hg1 (Nat.le_refl _) (by simp [Value.ownBlock])
    have hb2 : Below w.heap.size w w2 := (hb1.alloc hb1.size _).grown hg2 (by have := hb1.size; simp; omega) (fun k hk => (ho1.lt k hk).1)
    have hb3 : Below w.heap.size w w3 := hb2.grown hg3 hz2 (fun k hk => (ho2.lt k hk).1)
    refine ⟨A3, _, c3, rfl, own_holdsP ho3 ⟨rfl, hcx, hmx, (hx.keep (fun b o hb => hb3.cell (hP b hb))).more (fun _ => Or.inl), trivial⟩, (own_cap ho3).1, (own_cap ho3).2, hb3⟩
  | cons s kt r =>
    obtain ⟨b, o, rfl, hbB⟩ : ∃ b o, A = some ⟨b, o, none⟩ ∧ b < w.heap.size := by obtain ⟨b, o, e, hb, _⟩ := h; exact ⟨b, o, e, hP b hb⟩
    obtain ⟨vs, hr, hcell, _⟩ := holds_rowP h
    have hvl := hr.length
    rw [← Hn.out] at hvl
    have hcl := hcell b o rfl
    have hone := hr.one
    have hsx : ∀ W : World, Src Tryz.prog 2 30 (.slice (some ⟨W.heap.size, 0, none⟩) 1 1) 1 [.string name, .slice Ax nx cx] (W.alloc (.cells #[.string name, .slice Ax nx cx] 53)) := fun W => src_edges rfl (fun j u hu => by rw [cell_of_row _ _ _ _ _ _ (heap_alloc_new W _)]; rw [← hu]; simp) (by simp [Value.oneCell'])
    have Hsx := Lib.hid hsx
    have h1 : ∀ W : World, Below w.heap.size w W → Src Tryz.prog 2 30 (.slice (some ⟨b, o, none⟩) k c) k (vs.take (k * 2)) W := fun W hW => src_edges (by rw [List.length_take]; omega) (fun j u hu => by
      rw [List.getElem?_take] at hu
      split at hu
      · exact (hW.cell (p := ⟨b, o + j, none⟩) (by simp only; omega)).trans (hcl j u hu)
      · cases hu) (fun u hu => hone u (List.mem_of_mem_take hu))
    have H1 := Lib.hid h1
    have h3 : ∀ k', k' ≤ n → ∀ W : World, Below w.heap.size w W → Src Tryz.prog 2 30 (.slice (if c = k' then some ⟨b, o, none⟩ else some ⟨b, o + k' * 2, none⟩) (n - k') (c - k')) (n - k') (vs.drop (k' * 2)) W := by
      intro k' hk' W hW
      by_cases e : c = k'
      · have e0 : n - k' = 0 := by omega
        rw [e0, List.drop_of_length_le (by omega)]
        exact src_none _ _ _
      · rw [if_neg e]
        exact src_edges (by rw [List.length_drop]; omega) (fun j u hu => by
          rw [List.getElem?_drop] at hu
          rw [show o + k' * 2 + j = o + (k' * 2 + j) by omega]
          exact (hW.cell (p := ⟨b, o + (k' * 2 + j), none⟩) (by simp only; omega)).trans (hcl _ u hu)) (fun u hu => hone u (List.mem_of_mem_drop hu))
    have hkn : (k : Int) ≤ (n : Int) := by omega
    have hcn : (n : Int) ≤ (c : Int) := by omega
    have hkc : (k : Int) ≤ (c : Int) := by omega
    have hk0 : (0 : Int) ≤ (k : Int) := by omega
    cases is with
    | false =>
      have H3 := Lib.hid (h3 k hle)
      clear h3 h1 hsx hcl hcell hvl hone
      go_enter Tryz.func31, Tryz.ntmps31
      go_wp2_with fail
      refine Hat.out.mono ?_
      rintro e w1' ⟨rfl, q, rfl⟩
      go_wp2_with (first
        | (at_builtin; refine wpList_append_row rfl (.tmp 16) (.tmp 19) _ _ rfl elem_edge rfl rfl (World.ownsRow_nil _ w.heap.size _ _) (H1.out _ (below_drewN (Below.refl _ w) q)) (by omega) (Nat.le_refl _) ?_; intro A1 c1 w1 ho1 hg1 hat1; simp only [Nat.zero_add, List.nil_append] at ho1)
        | (at_builtin; refine wpList_append_row rfl (.tmp 21) (.tmp 25) _ _ rfl elem_edge rfl rfl (ho1.alloc _) (Hsx.out w1) (by omega) (by have := hg1.size; simp at this ⊢; omega) ?_; intro A2 c2 w2 ho2 hg2 hat2; have hz2 : w.heap.size ≤ w2.heap.size := (by have h1 := hg1.size; have h2 := hg2.size; simp at h1 h2; omega); have hb1 : Below w.heap.size w w1 := (below_drewN (Below.refl _ w) q).grown hg1 (Nat.le_refl _) (by simp [Value.ownBlock]); have hb2 : Below w.heap.size w w2 := (hb1.alloc hb1.size _).grown hg2 (by have := hb1.size; simp; omega) (fun k hk => (ho1.lt k hk).1); have hs3 := H3.out w2 hb2)
        | (at_builtin; refine wpList_append_row rfl (.tmp 30) (.tmp 33) _ _ rfl elem_edge rfl rfl ho2 hs3 (by omega) hz2 ?_; intro A3 c3 w3 ho3 hg3 hat3))
      all_goals
        go_ret
        have hb3 : Below w.heap.size w w3 := hb2.grown hg3 hz2 (fun k hk => (ho2.lt k hk).1)
        have hrow := (RowP.with_ (name := name) hx hcx hmx hr)
        rw [← Hk.out, ← His.out] at hrow
        refine ⟨A3, _, c3, rfl, own_holdsP ho3 ?_, (own_cap ho3).1, (own_cap ho3).2, hb3⟩
        have := (hrow.keep (w' := w3) (fun b o hb => hb3.cell (hP b hb))).more (P' := fun b => P b ∨ Mine w.heap.size w3 b) (fun _ h => .inl h)
        simpa using this
    | true =>
      have hlt : k < n := by
        have := atIs_lt His.out.symm
        rw [← Hk.out, ← Hn.out] at this
        exact this
      have H3 := Lib.hid (h3 (k + 1) hlt)
      have hkn1 : (k : Int) + 1 ≤ (n : Int) := by omega
      clear h3 h1 hsx hcl hcell hvl hone
      go_enter Tryz.func31, Tryz.ntmps31
      go_wp2_with fail
      refine Hat.out.mono ?_
      rintro e w1' ⟨rfl, q, rfl⟩
      go_wp2_with (first
        | (at_builtin; refine wpList_append_row rfl (.tmp 16) (.tmp 19) _ _ rfl elem_edge rfl rfl (World.ownsRow_nil _ w.heap.size _ _) (H1.out _ (below_drewN (Below.refl _ w) q)) (by omega) (Nat.le_refl _) ?_; intro A1 c1 w1 ho1 hg1 hat1; simp only [Nat.zero_add, List.nil_append] at ho1)
        | (at_builtin; refine wpList_append_row rfl (.tmp 21) (.tmp 25) _ _ rfl elem_edge rfl rfl (ho1.alloc _) (Hsx.out w1) (by omega) (by have := hg1.size; simp at this ⊢; omega) ?_; intro A2 c2 w2 ho2 hg2 hat2; have hz2 : w.heap.size ≤ w2.heap.size := (by have h1 := hg1.size; have h2 := hg2.size; simp at h1 h2; omega); have hb1 : Below w.heap.size w w1 := (below_drewN (Below.refl _ w) q).grown hg1 (Nat.le_refl _) (by simp [Value.ownBlock]); have hb2 : Below w.heap.size w w2 := (hb1.alloc hb1.size _).grown hg2 (by have := hb1.size; simp; omega) (fun k hk => (ho1.lt k hk).1); have hs3 := H3.out w2 hb2)
        | (at_builtin; refine wpList_append_row rfl (.tmp 30) (.tmp 33) _ _ rfl elem_edge rfl rfl ho2 hs3 (by omega) hz2 ?_; intro A3 c3 w3 ho3 hg3 hat3))
      all_goals
        go_ret
        have hb3 : Below w.heap.size w w3 := hb2.grown hg3 hz2 (fun k hk => (ho2.lt k hk).1)
        have hrow := (RowP.with_ (name := name) hx hcx hmx hr)
        rw [← Hk.out, ← His.out] at hrow
        refine ⟨A3, _, c3, rfl, own_holdsP ho3 ?_, (own_cap ho3).1, (own_cap ho3).2, hb3⟩
        have := (hrow.keep (w' := w3) (fun b o hb => hb3.cell (hP b hb))).more (P' := fun b => P b ∨ Mine w.heap.size w3 b) (fun _ h => .inl h)
        simpa using this
end Go.Proofs.YtkgpjohfkfbfhaaGreatDoor.Pt
namespace Go.Proofs.YtkgpjohfkfbfhaaGreatDoor.Li
open Go.RowKit
set_option maxRecDepth 100000
attribute [local go_sem ↓] Go.wp_at_zero Go.wp_at_succ

theorem lo_same {s : Bs} {f j : Nat} (h : ¬ f < j) : lo s f j = j := by
  unfold lo
  rw [if_neg]
  intro e
  exact h (cr_pos e)
theorem lo_13 {b : ByteArray} {f i : Nat} (h : f ≤ i) (hi : i < b.size) (h13 : b[i] = 13) : lo b.data.toList f (i + 1) = i := by
  have hl : i < b.data.toList.length := hi
  unfold lo
  rw [if_pos, Nat.add_sub_cancel]
  rw [cr_snoc h hl]
  exact decide_eq_true h13
theorem lo_no {b : ByteArray} {f i : Nat} (h : f ≤ i) (hi : i < b.size) (h13 : b[i] ≠ 13) : lo b.data.toList f (i + 1) = i + 1 := by
  have hl : i < b.data.toList.length := hi
  unfold lo
  rw [if_neg]
  rw [cr_snoc h hl]
  exact fun e => h13 (of_decide_eq_true e)
theorem Sofar.skip {b : ByteArray} {w wr : World} {A : Option Addr} {N c f j : Nat} {ls : List Ln} (h : Sofar b w wr A N c f j ls) (hj : j < b.size) (h10 : b[j] ≠ 10) : Sofar b w wr A N c f (j + 1) ls :=
  ⟨h.inv.other (show j < b.data.toList.length from hj) h10, h.own, h.len, h.keep⟩
theorem Sofar.line2 {b : ByteArray} {w wr w4 : World} {A A4 : Option Addr} {N c c4 f j k : Nat} {ls : List Ln} {o : Obj} (h : Sofar b w wr A N c f j ls) (hj : j < b.size) (h10 : b[j] = 10) (hk : lo b.data.toList f j = k)
    (ho : w4.ownsRow w.heap.size 86 2 (.slice A4 (N + 1) c4) (N + 1) (lcells ls ++ [encs (sl b.data.toList f k), encs (sl b.data.toList k (j + 1))]))
    (hg : (wr.alloc o).drew.grownBy w4 (Value.slice A N c).ownBlock) : Sofar b w w4 A4 (N + 1) c4 (j + 1) (j + 1) (ls ++ [(sl b.data.toList f k, sl b.data.toList k (j + 1))]) := by
  subst hk
  exact h.line hj h10 ho hg

set_option maxHeartbeats 2000000 in
theorem rsplit_any (b : ByteArray) (w : World) (hb : b.size ≤ 274877906944) : Calls Tryz.prog 27 #[.string b] w (Lines w.heap.size w (split b.data.toList)) := by
  have hlen : b.data.toList.length = b.size := Array.length_toList
  go_enter Tryz.func27, Tryz.ntmps27
  go_wp2
  go_loopw [3, 4, 5] (fun v f i wr => ∃ (A : Option Addr) (N c f' j : Nat) (ls : List Ln), Sofar b w wr A N c f' j ls ∧ v = .slice A N c ∧ f = .int .i64 f' ∧ i = .int .i64 j) (fun _ _ i _ => b.size - (intOf i).toNat)
  case atStart => exact ⟨none, 0, 0, 0, 0, [], ⟨Inv.start _, World.ownsRow_nil _ _ _ _, rfl, Below.refl _ _⟩, rfl, rfl, rfl⟩
  case round =>
    obtain ⟨A, N, c, f, j, ls, hS, rfl, rfl, rfl⟩ := hrel
    have hjb : j ≤ b.size := by have := hS.inv.2.1; omega
    have hfj := hS.inv.1
    by_cases hlt : j < b.size
    · have b5 : (j : Int) + 1 ≤ (b.size : Int) := by omega
      by_cases h10 : b[j] = 10
      · have q2 : ((b[j].toNat : Int) != 10) = false := by rw [h10]; rfl
        have Hg := Lib.hid h10
        have HS := Lib.hid hS
        have hN46 : N + 1 ≤ 1099511627776 := by have := hS.len; have := hS.inv.le; omega
        clear h10 hS
        have b1 : (0 : Int) ≤ (f : Int) := by omega
        by_cases hf : f < j
        · obtain ⟨i, rfl⟩ : ∃ i, j = i + 1 := ⟨j - 1, by omega⟩
          have q3 : (f : Int) < (i : Int) + 1 := by omega
          have q3' : (f : Int) < ((i + 1 : Nat) : Int) := by omega
          have b6 : (0 : Int) ≤ (i : Int) := by omega
          have hib : i < b.size := by omega
          have b3 : (i : Int) ≤ (b.size : Int) := by omega
          have b7 : (f : Int) ≤ (i : Int) := by omega
          by_cases h13 : b[i] = 13
          · have q4 : ((b[i].toNat : Int) == 13) = true := by rw [h13]; rfl
            have HL := Lib.hid (lo_13 (by omega : f ≤ i) hib h13)
            clear h13
            have x1 : (f : Int) ≤ (i : Int) + 1 := by omega
            have x2 : (i : Int) + 1 ≤ (b.size : Int) := by omega
            have x3 : (i : Int) ≤ (i : Int) + 1 + 1 := by omega
            have x4 : (i : Int) + 1 ≤ (i : Int) + 1 + 1 := by omega
            have x5 : (i : Int) + 1 + 1 ≤ (b.size : Int) := by omega
            have x6 : (0 : Int) ≤ (i : Int) + 1 := by omega
            have x7 : (0 : Int) ≤ (i : Int) + 1 + 1 := by omega
            have x8 : ((i : Int) + 1).toNat = i + 1 := by omega
            have x9 : ((i : Int) + 1 + 1).toNat = i + 1 + 1 := by omega
            have hsz : w.heap.size ≤ (wr.heap.size) + 1 := by have := HS.out.keep.size; omega
            have y1 : IntKind.i64.wrap ((i : Int) + 1 + 1) = (i : Int) + 1 + 1 := IntWalk.i64_in _ (by omega)
            go_wp2_with fail
            go_region_held3 (fun _ => True) (trivial) ((refine step_append_row rfl (.tmp 30) (.tmp 41) _ _ rfl elem_line rfl rfl ((HS.out.own.alloc _).drew) (src_line_d _ (sl b.data.toList f (i)) (sl b.data.toList (i) ((i + 1) + 1)) _ (by rw [← ext_sl, ← ext_sl]) _ rfl) hN46 (by have := HS.out.keep.size; simp; omega) ?_; intro A4 c4 w4 ho4 hg4 hat4))
            clear y1
            have HP := Lib.hid (HS.out.line2 (by omega) Hg.out HL.out ho4 hg4)
            clear ho4 hg4 hat4
            go_wp2_with fail
            go_roundw
            case rel => exact ⟨A4, N + 1, c4, (i + 1) + 1, (i + 1) + 1, _, HP.out, rfl, by go_num, by go_num⟩
            case measure => simp [intOf]; omega
          · have n13 : b[i].toNat ≠ 13 := fun e => h13 (UInt8.toNat_inj.1 e)
            have q4 : ((b[i].toNat : Int) == 13) = false := by simp; omega
            have HL := Lib.hid (lo_no (by omega : f ≤ i) hib h13)
            clear h13
            have x1 : (f : Int) ≤ (i : Int) + 1 := by omega
            have x2 : (i : Int) + 1 ≤ (b.size : Int) := by omega
            have x3 : (i : Int) ≤ (i : Int) + 1 + 1 := by omega
            have x4 : (i : Int) + 1 ≤ (i : Int) + 1 + 1 := by omega
            have x5 : (i : Int) + 1 + 1 ≤ (b.size : Int) := by omega
            have x6 : (0 : Int) ≤ (i : Int) + 1 := by omega
            have x7 : (0 : Int) ≤ (i : Int) + 1 + 1 := by omega
            have x8 : ((i : Int) + 1).toNat = i + 1 := by omega
            have x9 : ((i : Int) + 1 + 1).toNat = i + 1 + 1 := by omega
            have hsz : w.heap.size ≤ (wr.heap.size) + 1 := by have := HS.out.keep.size; omega
            have y1 : IntKind.i64.wrap ((i : Int) + 1 + 1) = (i : Int) + 1 + 1 := IntWalk.i64_in _ (by omega)
            go_wp2_with fail
            go_region_held3 (fun _ => True) (trivial) ((refine step_append_row rfl (.tmp 30) (.tmp 41) _ _ rfl elem_line rfl rfl ((HS.out.own.alloc _).drew) (src_line_d _ (sl b.data.toList f (i + 1)) (sl b.data.toList (i + 1) (i + 1 + 1)) _ (by rw [← ext_sl, ← ext_sl]) _ rfl) hN46 (by have := HS.out.keep.size; simp; omega) ?_; intro A4 c4 w4 ho4 hg4 hat4))
            clear y1
            have HP := Lib.hid (HS.out.line2 (by omega) Hg.out HL.out ho4 hg4)
            clear ho4 hg4 hat4
            go_wp2_with fail
            go_roundw
            case rel => exact ⟨A4, N + 1, c4, i + 1 + 1, i + 1 + 1, _, HP.out, rfl, by go_num, by go_num⟩
            case measure => simp [intOf]; omega
        · have q3 : (j : Int) ≤ (f : Int) := by omega
          have HL := Lib.hid (lo_same (s := b.data.toList) hf)
          have x3 : (j : Int) ≤ (j : Int) + 1 := by omega
          have x4 : (f : Int) ≤ (j : Int) := by omega
          have x5 : (j : Int) ≤ (b.size : Int) := by omega
          have x6 : (0 : Int) ≤ (j : Int) := by omega
          have x7 : (0 : Int) ≤ (j : Int) + 1 := by omega
          have x8 : ((j : Int) + 1).toNat = j + 1 := by omega
          have y1 : IntKind.i64.wrap ((j : Int) + 1) = (j : Int) + 1 := IntWalk.i64_in _ (by omega)
          go_wp2_with fail
          go_region_held3 (fun _ => True) (trivial) ((refine step_append_row rfl (.tmp 30) (.tmp 41) _ _ rfl elem_line rfl rfl ((HS.out.own.alloc _).drew) (src_line_d _ (sl b.data.toList f (j)) (sl b.data.toList (j) (j + 1)) _ (by rw [← ext_sl, ← ext_sl]) _ rfl) hN46 (by have := HS.out.keep.size; simp; omega) ?_; intro A4 c4 w4 ho4 hg4 hat4))
          clear y1
          have HP := Lib.hid (HS.out.line2 (by omega) Hg.out HL.out ho4 hg4)
          clear ho4 hg4 hat4
          go_wp2_with fail
          go_roundw
          case rel => exact ⟨A4, N + 1, c4, j + 1, j + 1, _, HP.out, rfl, by go_num, by go_num⟩
          case measure => simp [intOf]; omega
      · have n10 : b[j].toNat ≠ 10 := fun e => h10 (UInt8.toNat_inj.1 e)
        have q2 : ((b[j].toNat : Int) != 10) = true := by simp; omega
        have HS := Lib.hid (hS.skip hlt h10)
        clear hS h10
        go_wp2_with fail
        go_roundw
        case rel => exact ⟨A, N, c, f, j + 1, ls, HS.out, rfl, rfl, by go_num⟩
        case measure => simp [intOf]; omega
    · obtain rfl : j = b.size := by omega
      have hl := hS.inv.last hlen.symm
      have hN := hS.len
      rw [hlen] at hl
      by_cases hlt : f < b.size
      · have q0 : (f : Int) < (b.size : Int) := by omega
        rw [if_pos hlt] at hl
        have HL := Lib.hid hl
        have HS := Lib.hid hS
        have HN := Lib.hid hN
        have hN46 : N + 1 ≤ 1099511627776 := by have := hS.inv.le; omega
        clear hl hS hN
        go_wp2_with (at_builtin; refine wpList_append_row rfl (.tmp 49) (.tmp 54) _ _ rfl elem_line rfl rfl (HS.out.own.alloc _) (src_line _ (sl b.data.toList f b.size) [] _ (by rw [← ext_sl]; rfl) _ rfl) hN46 (by have := HS.out.keep.size; simp; omega) ?_; intro A4 c4 w4 ho4 hg4 hat4)
        go_ret
        refine ⟨A4, c4, ?_, ?_, ?_⟩
        · rw [HL.out, List.length_append, ← HN.out]; rfl
        · rw [HL.out, OwnL, lcells_append, List.length_append, ← HN.out]; exact ho4
        · exact (HS.out.keep.alloc HS.out.keep.size _).grown hg4 (by have := HS.out.keep.size; simp; omega) (fun k hk => (HS.out.own.lt k hk).1)
      · have q0 : ¬ (f : Int) < (b.size : Int) := by omega
        rw [if_neg hlt] at hl
        have HL := Lib.hid hl
        have HN := Lib.hid hN
        clear hl hN
        go_wp2_with fail
        go_ret
        refine ⟨A, c, ?_, ?_, hS.keep⟩
        · rw [HL.out, ← HN.out]; rfl
        · rw [HL.out, ← HN.out]; exact hS.own
end Go.Proofs.YtkgpjohfkfbfhaaGreatDoor.Li
namespace Go.Proofs.YtkgpjohfkfbfhaaGreatDoor
open Go.RowKit
set_option maxRecDepth 100000

def Tr.same : Tr → Tr → Bool
  | .nil, .nil => true
  | .cons s k r, .cons s' k' r' => (s.toList == s'.toList) && k.same k' && r.same r'
  | _, _ => false
theorem same_len : ∀ {t u : Tr}, t.same u = true → t.len = u.len
  | .nil, .nil, _ => rfl
  | .cons s k r, .cons s' k' r', h => by
    simp only [Tr.same, Bool.and_eq_true] at h
    simp only [Tr.len, same_len h.2]
  | .nil, .cons _ _ _, h => by simp [Tr.same] at h
  | .cons _ _ _, .nil, h => by simp [Tr.same] at h
theorem same_refl (t : Tr) : t.same t = true := by
  induction t with
  | nil => rfl
  | cons s k r ihk ihr => simp [Tr.same, ihk, ihr]

set_option maxHeartbeats 1000000 in
theorem rsame_any (N : Nat) : ∀ (t u : Tr) (A A2 : Option Addr) (n n2 c c2 B : Nat) (w : World), t.size ≤ N → Holds w B A n t → Holds w B A2 n2 u → B ≤ w.heap.size → n ≤ 140737488351232 → n2 ≤ 140737488351232 → t.Low → u.Low →
    Calls Tryz.prog 20 #[.slice A n c, .slice A2 n2 c2] w fun e w' => e = .returned (.bool (t.same u)) ∧ ∃ q, w' = w.drewN q := by
  induction N with
  | zero =>
    intro t u A A2 n n2 c c2 B w hN h h2 hB hn hn2 hl hl2
    cases t with
    | cons s k r => simp [Tr.size] at hN
    | nil =>
      obtain rfl : n = 0 := h
      have Hl2 := Lib.hid h2.len
      by_cases h0 : n2 = 0
      · subst h0
        have hu : u = .nil := by
          cases u with
          | nil => rfl
          | cons _ _ _ => have := Hl2.out; simp [Tr.len] at this
        subst hu
        go_enter Tryz.func20, Tryz.ntmps20
        go_wp2_with fail
        go_loop [5] (fun i => i = .int .i64 0) (fun _ => 0)
        case atStart => rfl
        case round =>
          subst hrel
          go_wp2_with fail
          go_ret
          exact ⟨rfl, 0, rfl⟩
      · have hne : ((0 : Int) != (n2 : Int)) = true := by rw [bne_iff_ne]; omega
        have hs : Tr.nil.same u = false := by
          cases u with
          | nil => exact absurd Hl2.out (by simpa [Tr.len] using h0)
          | cons _ _ _ => rfl
        have Hs := Lib.hid hs
        clear hs
        go_enter Tryz.func20, Tryz.ntmps20
        go_wp2_with fail
        go_ret
        exact ⟨by rw [Hs.out]; rfl, 0, rfl⟩
  | succ N ih =>
    intro t u A A2 n n2 c c2 B w hN h h2 hB hn hn2 hl hl2
    have Hl := Lib.hid h.len
    have Hl2 := Lib.hid h2.len
    by_cases h0 : n = n2
    · subst h0
      have hne : ((n : Int) != (n : Int)) = false := by simp
      go_enter Tryz.func20, Tryz.ntmps20
      go_wp2_with fail
      go_loopw [5] (fun i wr => ∃ (k : Nat), k ≤ n ∧ i = .int .i64 k ∧ Holds wr B A n t ∧ Holds wr B A2 n u ∧ B ≤ wr.heap.size ∧ Hid (∃ q, wr = w.drewN q) ∧ Hid ((t.dropT k).same (u.dropT k) = t.same u)) (fun i _ => n - (intOf i).toNat)
      case atStart => exact ⟨0, by omega, rfl, h, h2, hB, Lib.hid ⟨0, rfl⟩, by rw [dropT_zero, dropT_zero]; exact Lib.hid rfl⟩
      case round =>
        obtain ⟨k, hk, rfl, hw1, hw2, hBr, Hq, He⟩ := hrel
        by_cases hlt : k < n
        · obtain ⟨b, o, s, kt, r, A', n', c', rfl, hb, hs, hc, hn', hc', hk', hr, hd, hd2⟩ := hw1.split k hlt
          obtain ⟨b2, o2, s2, kt2, r2, A2', n2', c2', rfl, hb2, hs2, hc2, hn2', hc2', hk2', hr2, hd3, hd4⟩ := hw2.split k hlt
          have hkn : (k : Int) < (n : Int) := by omega
          have hk0 : (0 : Int) ≤ (k : Int) := by omega
          by_cases hss : s.toList = s2.toList
          · have hq1 : (s.toList != s2.toList) = false := by rw [hss]; simp
            have hsz := size_drop t k
            rw [hd] at hsz
            simp only [Tr.size] at hsz
            have hlk := hl.drop k
            rw [hd] at hlk
            have hlk2 := hl2.drop k
            rw [hd3] at hlk2
            have hkl := hk'.len
            have hkl2 := hk2'.len
            have HC := Lib.hid (fun (W : World) (h1 : Holds W B A' n' kt) (h2 : Holds W B A2' n2' kt2) (hW : B ≤ W.heap.size) => ih kt kt2 A' A2' n' n2' c' c2' B W (by omega) h1 h2 hW (by have := hlk.1; omega) (by have := hlk2.1; omega) hlk.2.1 hlk2.2.1)
            have He2 : Hid (t.same u = (kt.same kt2 && (t.dropT (k + 1)).same (u.dropT (k + 1)))) := by
              have := He.out
              rw [hd, hd3] at this
              simp only [Tr.same] at this
              rw [hd2, hd4, ← this, hss]
              exact Lib.hid (by simp)
            obtain ⟨v, hv⟩ : ∃ v, v = kt.same kt2 := ⟨_, rfl⟩
            rw [← hv] at HC He2
            clear hv hq1 hd hd2 hd3 hd4 He hsz hlk hlk2 hkl hkl2 hN
            cases v with
            | true =>
              go_wp2_with fail
              go_quiet ((go_at_call 20; exact Calls.quiet_of (HC.out _ (hk'.drewN _) (hk2'.drewN _) hBr)))
              go_wp2_with fail
              go_roundw
              case rel => exact ⟨k + 1, by omega, by go_num, hw1.drewN _, hw2.drewN _, hBr, Lib.hid (by obtain ⟨q, hq⟩ := Hq.out; rw [hq]; exact ⟨_, World.drewN_drewN _ _ _⟩), by have := He2.out; rw [Bool.true_and] at this; exact Lib.hid this.symm⟩
              case measure => simp [intOf]; omega
            | false =>
              go_wp2_with fail
              go_quiet ((go_at_call 20; exact Calls.quiet_of (HC.out _ (hk'.drewN _) (hk2'.drewN _) hBr)))
              go_wp2_with fail
              go_ret
              exact ⟨by rw [He2.out]; rfl, by obtain ⟨q, hq⟩ := Hq.out; rw [hq]; exact ⟨_, World.drewN_drewN _ _ _⟩⟩
          · have hq1 : (s.toList != s2.toList) = true := by simp [hss]
            have He2 : Hid (t.same u = false) := by
              have := He.out
              rw [hd, hd3] at this
              simp only [Tr.same] at this
              rw [← this]
              exact Lib.hid (by simp [hss])
            clear hd hd2 hd3 hd4 He hN
            go_wp2_with fail
            go_quiet (fail)
            go_wp2_with fail
            go_ret
            exact ⟨by rw [He2.out]; rfl, by obtain ⟨q, hq⟩ := Hq.out; rw [hq]; exact ⟨_, World.drewN_drewN _ _ _⟩⟩
        · obtain rfl : k = n := by omega
          have He2 : Hid (t.same u = true) := by
            have := He.out
            rw [drop_len t k (by rw [← Hl.out]; exact Nat.le_refl _), drop_len u k (by rw [← Hl2.out]; exact Nat.le_refl _)] at this
            exact this.symm
          clear He hlt hN
          go_wp2_with fail
          go_ret
          exact ⟨by rw [He2.out]; rfl, Hq.out⟩
    · have hne : ((n : Int) != (n2 : Int)) = true := by rw [bne_iff_ne]; omega
      have hs : t.same u = false := by
        cases hv : t.same u with
        | false => rfl
        | true => exact absurd (same_len hv) (by rw [← Hl.out, ← Hl2.out]; exact h0)
      have Hs := Lib.hid hs
      clear hs h0
      go_enter Tryz.func20, Tryz.ntmps20
      go_wp2_with fail
      go_ret
      exact ⟨by rw [Hs.out]; rfl, 0, rfl⟩
end Go.Proofs.YtkgpjohfkfbfhaaGreatDoor
namespace Go.Proofs.YtkgpjohfkfbfhaaGreatDoor.Cv
open Go.RowKit Go.ChangeShapes Go.WideShapes Go.ChangeAt

theorem of_shape {H : Type} {enc : TypeId × Value → H} {a : Assume} {C : Checked} {os : Os} {f : FuncId} {fn : Func} {s : ChangeSpec} {conds : List PathCond} {apart fresh handsOn again : Bool} {X : World → Prop}
    (own : ownKnob C.prog.godebug = none) (started : os.Started) (noInit : C.prog.inits.idxOf? f = none) (hfn : C.prog.funcs[f]? = some fn)
    (witness : ∃ (w : World) (tape : Tape) (i : Input), w.os = os ∧ (w.forCall tape i).Shaped C.prog ∧ i.vars = [] ∧ Input.okWide C.prog (w.forCall tape i) .any w.heap.size f i ∧
      ((s.pre enc C.prog fn conds apart (w.forCall tape i).memory i.args ∧ X (w.forCall tape i).memory) ∧ sizedMet enc C.prog fn (OpenSpec.ofChange s) apart (w.forCall tape i).memory i.args) ∧ a.holds C.prog (lone (Frame.enter C.prog f i.args .normal) [] (w.forCall tape i)))
    (walk : ∀ (W : World) (base : Nat) (args : Array Value) (ds gs : List (DataW H)) (before : List MemPlace),
      (∀ (j : Nat) t v, fn.params[j]? = some t → args[j]? = some v → Value.okWide C.prog W .any base t v) →
      DataW.Whole enc C.prog fn.params.toList s.vars apart W args.toList ds gs before → W.ShapedOpen C.prog →
      Calls C.prog f args W fun e W' => ∃ v, e = .returned v ∧ s.post enc C.prog fn apart fresh handsOn again W args v W') :
    ReturnsInHanded a C os f .any (fun w args => (s.pre enc C.prog fn conds apart w args ∧ X w) ∧ sizedMet enc C.prog fn (OpenSpec.ofChange s) apart w args) (s.post enc C.prog fn apart fresh handsOn again) := by
  refine returnsInHanded_of_calls own started noInit witness ?_
  intro w tape i _ hsh _ hok hpre _
  obtain ⟨_, _, _, g, hg, _, _, _, _, hval⟩ := hok
  obtain rfl : g = fn := Option.some.inj (hg.symm.trans hfn)
  obtain ⟨⟨⟨ds, gs, before, hw, _⟩, _⟩, _⟩ := hpre
  refine (walk (w.forCall tape i) w.heap.size i.args ds gs before hval (DataW.Whole.of_heap (w' := w.forCall tape i) (by rfl) hw) hsh).mono fun e W' ⟨v, he, hp⟩ => ?_
  subst he
  exact ChangeSpec.post_blind hp
/-- MaxLen's cell out of the world's shape. -/
theorem gl_of {w : World} (h : w.ShapedOpen Tryz.prog) : Gl w := Tryz.laysM219.s1_3 w h
end Go.Proofs.YtkgpjohfkfbfhaaGreatDoor.Cv
