/- With and Make of the law, told with the blocks that their answers lie in. Conditions: as With's and Make's. Make, told with the blocks that its answer lies in. Conditions: as Make's. spoil of the law: names written over, in a tree that lies in blocks of its own. Conditions: fewer edges than 2^39. -/
import Derived.Test.YtkhjpmefekonhaaMgCl
import Derived.Test.YtkhjpmefekonhaaMake
import Derived.Deep.RegionHeld3
import Derived.IntWalk
import Derived.Outline
namespace Go.Proofs.Ytkhjpmefekonhaa.Pt
open Go.RowKit Go.Proofs.Ytkhjpmefekonhaa.Cl
set_option maxRecDepth 100000

/-- A block of one's own, from base on. -/
def Mine (base : Nat) (w : World) (b : Nat) : Prop := base ≤ b ∧ ∃ cs E, w.heap[b]? = some (.cells cs E (0, 0))
theorem Mine.lt {base b : Nat} {w : World} (h : Mine base w b) : b < w.heap.size := by
  obtain ⟨_, cs, E, h⟩ := h
  exact (Array.getElem?_eq_some_iff.1 h).1
theorem Mine.more {base base' b : Nat} {w : World} (h : Mine base' w b) (hb : base ≤ base') : Mine base w b := ⟨Nat.le_trans hb h.1, h.2⟩
theorem Mine.below {base b : Nat} {w w' : World} (h : Mine base w b) (hb : Below w.heap.size w w') : Mine base w' b := by
  have := hb.block b h.lt
  obtain ⟨h1, cs, E, h2⟩ := h
  exact ⟨h1, cs, E, by rw [this]; exact h2⟩
theorem mine_keep {base n : Nat} {w w' : World} {A : Option Addr} {t : Tr} (h : HoldsP w (Mine base w) A n t) (hb : Below w.heap.size w w') : HoldsP w' (Mine base w') A n t :=
  (h.keep fun _ _ hm => hb.cell hm.lt).more fun _ hm => hm.below hb
theorem mine_or {base n : Nat} {w w' : World} {A : Option Addr} {t : Tr} (h : HoldsP w' (fun b => Mine base w b ∨ Mine w.heap.size w' b) A n t) (hb : Below w.heap.size w w') (hs : base ≤ w.heap.size) : HoldsP w' (Mine base w') A n t :=
  h.more fun _ hm => hm.elim (fun h => h.below hb) (fun h => h.more hs)

/-- The cells of a slice of edges read as a tree. -/
def RowP (w : World) (P : Nat → Prop) : List Value → Tr → Prop
  | [], .nil => True
  | .string s' :: .slice A n c :: vs, .cons s k r => s' = s ∧ n ≤ c ∧ c ≤ maxLen ∧ HoldsP w P A n k ∧ RowP w P vs r
  | _, _ => False
section
variable {w w' : World} {P P' : Nat → Prop}
theorem RowP.keep (hk : ∀ b o, P b → w'.cell? ⟨b, o, none⟩ = w.cell? ⟨b, o, none⟩) : ∀ {vs : List Value} {t : Tr}, RowP w P vs t → RowP w' P vs t
  | [], .nil, h => h
  | .string _ :: .slice _ _ _ :: _, .cons _ _ _, ⟨h1, h2, h3, h4, h5⟩ => ⟨h1, h2, h3, h4.keep hk, RowP.keep hk h5⟩
theorem RowP.more (hP : ∀ b, P b → P' b) : ∀ {vs : List Value} {t : Tr}, RowP w P vs t → RowP w P' vs t
  | [], .nil, h => h
  | .string _ :: .slice _ _ _ :: _, .cons _ _ _, ⟨h1, h2, h3, h4, h5⟩ => ⟨h1, h2, h3, h4.more hP, RowP.more hP h5⟩
theorem RowP.length : ∀ {vs : List Value} {t : Tr}, RowP w P vs t → vs.length = t.len * 2
  | [], .nil, _ => rfl
  | .string _ :: .slice _ _ _ :: vs, .cons _ _ _, ⟨_, _, _, _, h5⟩ => by simp only [List.length_cons, Tr.len, RowP.length h5]; omega
theorem RowP.one : ∀ {vs : List Value} {t : Tr}, RowP w P vs t → ∀ u ∈ vs, u.oneCell' = true
  | [], .nil, _, u, hu => by cases hu
  | .string _ :: .slice _ _ _ :: vs, .cons _ _ _, ⟨_, _, _, _, h5⟩, u, hu => by
    simp only [List.mem_cons] at hu
    rcases hu with rfl | rfl | hu
    · rfl
    · rfl
    · exact RowP.one h5 u hu
/-- What lies in memory as a tree has its cells. -/
theorem holds_rowP : ∀ {t : Tr} {A : Option Addr} {n : Nat}, HoldsP w P A n t → ∃ vs, RowP w P vs t ∧ (∀ b o, A = some ⟨b, o, none⟩ → ∀ j u, vs[j]? = some u → w.cell? ⟨b, o + j, none⟩ = some u) ∧ (0 < n → ∃ b o, A = some ⟨b, o, none⟩ ∧ P b)
  | .nil, _, _, h => ⟨[], trivial, fun _ _ _ j u hu => by simp at hu, fun hn => by rw [show _ = 0 from h] at hn; omega⟩
  | .cons s k r, _, _, ⟨b, o, e, hb, hs, ⟨A', n', c', hc, hn, hm, hk⟩, m, hm1, hr⟩ => by
    obtain ⟨vs, h1, h2, _⟩ := holds_rowP hr
    refine ⟨.string s :: .slice A' n' c' :: vs, ⟨rfl, hn, hm, hk, h1⟩, ?_, fun _ => ⟨b, o, e, hb⟩⟩
    intro b' o' e' j u hu
    rw [e] at e'
    cases e'
    match j with
    | 0 => simp at hu; subst hu; exact hs
    | 1 => simp at hu; subst hu; exact hc
    | j + 2 =>
      have := h2 b (o + 2) rfl j u (by simpa using hu)
      rw [show o + (j + 2) = o + 2 + j by omega]
      exact this
/-- Cells that read as a tree, at an address. -/
theorem RowP.holds : ∀ {vs : List Value} {t : Tr} {b o : Nat}, RowP w P vs t → P b → (∀ j u, vs[j]? = some u → w.cell? ⟨b, o + j, none⟩ = some u) → HoldsP w P (some ⟨b, o, none⟩) t.len t
  | [], .nil, _, _, _, _, _ => rfl
  | .string _ :: .slice A n c :: vs, .cons _ k r, b, o, ⟨h1, h2, h3, h4, h5⟩, hb, hc => by
    subst h1
    refine ⟨b, o, rfl, hb, hc 0 _ rfl, ⟨A, n, c, hc 1 _ rfl, h2, h3, h4⟩, r.len, rfl, RowP.holds h5 hb (fun j u hu => ?_)⟩
    have := hc (j + 2) u (by simpa using hu)
    rw [show o + 2 + j = o + (j + 2) by omega]
    exact this
end

/-- The cells of With's answer. -/
theorem RowP.with_ {w : World} {P : Nat → Prop} {name : ByteArray} {x : Tr} {Ax : Option Addr} {nx cx : Nat} (hx : HoldsP w P Ax nx x) (hn : nx ≤ cx) (hm : cx ≤ maxLen) : ∀ {vs : List Value} {t : Tr}, RowP w P vs t →
    RowP w P (vs.take (t.atN name * 2) ++ [.string name, .slice Ax nx cx] ++ vs.drop ((t.atN name + (t.atIs name).toNat) * 2)) (t.withT name x)
  | [], .nil, _ => ⟨rfl, hn, hm, hx, trivial⟩
  | .string s :: .slice A n c :: vs, .cons _ k r, ⟨h1, h2, h3, h4, h5⟩ => by
    subst h1
    by_cases hl : Op.bytesLess s.toList name.toList = true
    · have ih := RowP.with_ (name := name) hx hn hm h5
      have e1 : (Tr.cons s k r).atN name = r.atN name + 1 := by simp only [Tr.atN]; rw [if_pos hl]
      have e2 : (Tr.cons s k r).atIs name = r.atIs name := by unfold Tr.atIs; rw [e1]; rfl
      have e3 : (Tr.cons s k r).withT name x = .cons s k (r.withT name x) := by simp only [Tr.withT]; rw [if_pos hl]
      rw [e1, e2, e3, show (r.atN name + 1) * 2 = r.atN name * 2 + 1 + 1 by omega, show (r.atN name + 1 + (r.atIs name).toNat) * 2 = (r.atN name + (r.atIs name).toNat) * 2 + 1 + 1 by omega]
      exact ⟨rfl, h2, h3, h4, ih⟩
    · have e1 : (Tr.cons s k r).atN name = 0 := by simp only [Tr.atN]; rw [if_neg hl]
      have e2 : (Tr.cons s k r).atIs name = (s.toList == name.toList) := by unfold Tr.atIs; rw [e1]; rfl
      rw [e1, e2]
      by_cases he : (s.toList == name.toList) = true
      · have e3 : (Tr.cons s k r).withT name x = .cons name x r := by simp only [Tr.withT]; rw [if_neg hl, if_pos he]
        rw [he, e3]
        exact ⟨rfl, hn, hm, hx, h5⟩
      · have e3 : (Tr.cons s k r).withT name x = .cons name x (.cons s k r) := by simp only [Tr.withT]; rw [if_neg hl, if_neg he]
        rw [e3]
        have he2 : (s.toList == name.toList) = false := by simpa using he
        rw [he2]
        exact ⟨rfl, hn, hm, hx, rfl, h2, h3, h4, h5⟩

theorem own_holdsP {P : Nat → Prop} {w : World} {base n c : Nat} {A : Option Addr} {e : TypeId} {vs : List Value} {t : Tr} (ho : w.ownsRow base e 2 (.slice A n c) n vs) (hr : RowP w (fun b => P b ∨ Mine base w b) vs t) : HoldsP w (fun b => P b ∨ Mine base w b) A n t := by
  have hl := hr.length
  have hl2 := ho.1
  have hn : n = t.len := by omega
  rcases ho.2 with ⟨e1, hn0⟩ | ⟨g, cap, cur, e1, hbg, hh, _⟩
  · subst hn0
    cases t with
    | nil => rfl
    | cons _ _ _ => simp [Tr.len] at hn
  · injection e1 with e1 e2 e3
    subst e1
    subst hn
    exact hr.holds (.inr ⟨hbg, _, _, hh⟩) (fun j u hu => by
      have := rowCells ho j u hu
      rw [Addr.add_lit] at this
      exact this)

set_option maxHeartbeats 2000000 in
theorem withP_any {P : Nat → Prop} (t x : Tr) (A Ax : Option Addr) (n c nx cx : Nat) (name : ByteArray) (w : World) (h : HoldsP w P A n t) (hx : HoldsP w P Ax nx x) (hP : ∀ b, P b → b < w.heap.size) (hn : n ≤ 549755813888) (hc : n ≤ c) (hcx : nx ≤ cx) (hmx : cx ≤ maxLen) :
    Calls Try.prog 46 #[.slice A n c, .string name, .slice Ax nx cx] w fun e w' => ∃ A' n' c', e = .returned (.slice A' n' c') ∧ HoldsP w' (fun b => P b ∨ Mine w.heap.size w' b) A' n' (t.withT name x) ∧ n' ≤ c' ∧ c' ≤ maxLen ∧ Below w.heap.size w w' := by
  have Hn := Lib.hid h.len
  have Hat := Lib.hid (at_any t A n c w.heap.size name w (h.to hP) (Nat.le_refl _) (by omega))
  have hle := atN_le name t
  rw [← Hn.out] at hle
  obtain ⟨k, hk⟩ : ∃ k, k = t.atN name := ⟨_, rfl⟩
  obtain ⟨is, his⟩ : ∃ b, b = t.atIs name := ⟨_, rfl⟩
  rw [← hk] at hle Hat
  rw [← his] at Hat
  have Hk := Lib.hid hk
  have His := Lib.hid his
  clear hk his
  cases t with
  | nil =>
    obtain rfl : n = 0 := h
    obtain rfl : k = 0 := by omega
    obtain rfl : is = false := His.out
    go_enter Try.func46, Try.ntmps46
    go_wp2_with fail
    refine Hat.out.mono ?_
    rintro e w1 ⟨rfl, q, rfl⟩
    have hlx : (0 : Nat) < 1 := by omega
    have hsx : ∀ W : World, Src Try.prog 2 27 (.slice (some ⟨W.heap.size, 0, none⟩) 1 1) 1 [.string name, .slice Ax nx cx] (W.alloc (.cells #[.string name, .slice Ax nx cx] 32)) := fun W => src_edges rfl (fun j u hu => by rw [cell_of_row _ _ _ _ _ _ (heap_alloc_new W _)]; rw [← hu]; simp) (by simp [Value.oneCell'])
    have Hsx := Lib.hid hsx
    clear hsx hlx
    go_wp2_with (first
      | (at_builtin; refine wpList_append_row rfl (.tmp 16) (.tmp 19) _ _ rfl elem_edge rfl rfl (World.ownsRow_nil _ w.heap.size _ _) (src_none _ _ _) (by omega) (Nat.le_refl _) ?_; intro A1 c1 w1 ho1 hg1 hat1)
      | (at_builtin; refine wpList_append_row rfl (.tmp 21) (.tmp 25) _ _ rfl elem_edge rfl rfl (ho1.alloc _) (Hsx.out w1) (by omega) (by have := hg1.size; simp at this ⊢; omega) ?_; intro A2 c2 w2 ho2 hg2 hat2; have hz2 : w.heap.size ≤ w2.heap.size := (by have h1 := hg1.size; have h2 := hg2.size; simp at h1 h2; omega))
      | (at_builtin; refine wpList_append_row rfl (.tmp 30) (.tmp 33) _ _ rfl elem_edge rfl rfl ho2 (src_none _ _ _) (by omega) hz2 ?_; intro A3 c3 w3 ho3 hg3 hat3))
    go_ret
    have hb1 : Below w.heap.size w w1 := (below_drewN (Below.refl _ w) q).grown hg1 (Nat.le_refl _) (by simp [Value.ownBlock])
    have hb2 : Below w.heap.size w w2 := (hb1.alloc hb1.size _).grown hg2 (by have := hb1.size; simp; omega) (fun k hk => (ho1.lt k hk).1)
    have hb3 : Below w.heap.size w w3 := hb2.grown hg3 hz2 (fun k hk => (ho2.lt k hk).1)
    refine ⟨A3, _, c3, rfl, own_holdsP ho3 ⟨rfl, hcx, hmx, (hx.keep (fun b o hb => hb3.cell (hP b hb))).more (fun _ => Or.inl), trivial⟩, (own_cap ho3).1, (own_cap ho3).2, hb3⟩
  | cons s kt r =>
    obtain ⟨b, o, rfl, hbB⟩ : ∃ b o, A = some ⟨b, o, none⟩ ∧ b < w.heap.size := by obtain ⟨b, o, e, hb, _⟩ := h; exact ⟨b, o, e, hP b hb⟩
    obtain ⟨vs, hr, hcell, _⟩ := holds_rowP h
    have hvl := hr.length
    rw [← Hn.out] at hvl
    have hcl := hcell b o rfl
    have hone := hr.one
    have hsx : ∀ W : World, Src Try.prog 2 27 (.slice (some ⟨W.heap.size, 0, none⟩) 1 1) 1 [.string name, .slice Ax nx cx] (W.alloc (.cells #[.string name, .slice Ax nx cx] 32)) := fun W => src_edges rfl (fun j u hu => by rw [cell_of_row _ _ _ _ _ _ (heap_alloc_new W _)]; rw [← hu]; simp) (by simp [Value.oneCell'])
    have Hsx := Lib.hid hsx
    have h1 : ∀ W : World, Below w.heap.size w W → Src Try.prog 2 27 (.slice (some ⟨b, o, none⟩) k c) k (vs.take (k * 2)) W := fun W hW => src_edges (by rw [List.length_take]; omega) (fun j u hu => by
      rw [List.getElem?_take] at hu
      split at hu
      · exact (hW.cell (p := ⟨b, o + j, none⟩) (by simp only; omega)).trans (hcl j u hu)
      · cases hu) (fun u hu => hone u (List.mem_of_mem_take hu))
    have H1 := Lib.hid h1
    have h3 : ∀ k', k' ≤ n → ∀ W : World, Below w.heap.size w W → Src Try.prog 2 27 (.slice (if c = k' then some ⟨b, o, none⟩ else some ⟨b, o + k' * 2, none⟩) (n - k') (c - k')) (n - k') (vs.drop (k' * 2)) W := by
      intro k' hk' W hW
      by_cases e : c = k'
      · have e0 : n - k' = 0 := by omega
        rw [e0, List.drop_of_length_le (by omega)]
        exact src_none _ _ _
      · rw [if_neg e]
        exact src_edges (by rw [List.length_drop]; omega) (fun j u hu => by
          rw [List.getElem?_drop] at hu
          rw [show o + k' * 2 + j = o + (k' * 2 + j) by omega]
          exact (hW.cell (p := ⟨b, o + (k' * 2 + j), none⟩) (by simp only; omega)).trans (hcl _ u hu)) (fun u hu => hone u (List.mem_of_mem_drop hu))
    have hkn : (k : Int) ≤ (n : Int) := by omega
    have hcn : (n : Int) ≤ (c : Int) := by omega
    have hkc : (k : Int) ≤ (c : Int) := by omega
    have hk0 : (0 : Int) ≤ (k : Int) := by omega
    cases is with
    | false =>
      have H3 := Lib.hid (h3 k hle)
      clear h3 h1 hsx hcl hcell hvl hone
      go_enter Try.func46, Try.ntmps46
      go_wp2_with fail
      refine Hat.out.mono ?_
      rintro e w1' ⟨rfl, q, rfl⟩
      go_wp2_with (first
        | (at_builtin; refine wpList_append_row rfl (.tmp 16) (.tmp 19) _ _ rfl elem_edge rfl rfl (World.ownsRow_nil _ w.heap.size _ _) (H1.out _ (below_drewN (Below.refl _ w) q)) (by omega) (Nat.le_refl _) ?_; intro A1 c1 w1 ho1 hg1 hat1; simp only [Nat.zero_add, List.nil_append] at ho1)
        | (at_builtin; refine wpList_append_row rfl (.tmp 21) (.tmp 25) _ _ rfl elem_edge rfl rfl (ho1.alloc _) (Hsx.out w1) (by omega) (by have := hg1.size; simp at this ⊢; omega) ?_; intro A2 c2 w2 ho2 hg2 hat2; have hz2 : w.heap.size ≤ w2.heap.size := (by have h1 := hg1.size; have h2 := hg2.size; simp at h1 h2; omega); have hb1 : Below w.heap.size w w1 := (below_drewN (Below.refl _ w) q).grown hg1 (Nat.le_refl _) (by simp [Value.ownBlock]); have hb2 : Below w.heap.size w w2 := (hb1.alloc hb1.size _).grown hg2 (by have := hb1.size; simp; omega) (fun k hk => (ho1.lt k hk).1); have hs3 := H3.out w2 hb2)
        | (at_builtin; refine wpList_append_row rfl (.tmp 30) (.tmp 33) _ _ rfl elem_edge rfl rfl ho2 hs3 (by omega) hz2 ?_; intro A3 c3 w3 ho3 hg3 hat3))
      all_goals
        go_ret
        have hb3 : Below w.heap.size w w3 := hb2.grown hg3 hz2 (fun k hk => (ho2.lt k hk).1)
        have hrow := (RowP.with_ (name := name) hx hcx hmx hr)
        rw [← Hk.out, ← His.out] at hrow
        refine ⟨A3, _, c3, rfl, own_holdsP ho3 ?_, (own_cap ho3).1, (own_cap ho3).2, hb3⟩
        have := (hrow.keep (w' := w3) (fun b o hb => hb3.cell (hP b hb))).more (P' := fun b => P b ∨ Mine w.heap.size w3 b) (fun _ h => .inl h)
        simpa using this
    | true =>
      have hlt : k < n := by
        have := atIs_lt His.out.symm
        rw [← Hk.out, ← Hn.out] at this
        exact this
      have H3 := Lib.hid (h3 (k + 1) hlt)
      have hkn1 : (k : Int) + 1 ≤ (n : Int) := by omega
      clear h3 h1 hsx hcl hcell hvl hone
      go_enter Try.func46, Try.ntmps46
      go_wp2_with fail
      refine Hat.out.mono ?_
      rintro e w1' ⟨rfl, q, rfl⟩
      go_wp2_with (first
        | (at_builtin; refine wpList_append_row rfl (.tmp 16) (.tmp 19) _ _ rfl elem_edge rfl rfl (World.ownsRow_nil _ w.heap.size _ _) (H1.out _ (below_drewN (Below.refl _ w) q)) (by omega) (Nat.le_refl _) ?_; intro A1 c1 w1 ho1 hg1 hat1; simp only [Nat.zero_add, List.nil_append] at ho1)
        | (at_builtin; refine wpList_append_row rfl (.tmp 21) (.tmp 25) _ _ rfl elem_edge rfl rfl (ho1.alloc _) (Hsx.out w1) (by omega) (by have := hg1.size; simp at this ⊢; omega) ?_; intro A2 c2 w2 ho2 hg2 hat2; have hz2 : w.heap.size ≤ w2.heap.size := (by have h1 := hg1.size; have h2 := hg2.size; simp at h1 h2; omega); have hb1 : Below w.heap.size w w1 := (below_drewN (Below.refl _ w) q).grown hg1 (Nat.le_refl _) (by simp [Value.ownBlock]); have hb2 : Below w.heap.size w w2 := (hb1.alloc hb1.size _).grown hg2 (by have := hb1.size; simp; omega) (fun k hk => (ho1.lt k hk).1); have hs3 := H3.out w2 hb2)
        | (at_builtin; refine wpList_append_row rfl (.tmp 30) (.tmp 33) _ _ rfl elem_edge rfl rfl ho2 hs3 (by omega) hz2 ?_; intro A3 c3 w3 ho3 hg3 hat3))
      all_goals
        go_ret
        have hb3 : Below w.heap.size w w3 := hb2.grown hg3 hz2 (fun k hk => (ho2.lt k hk).1)
        have hrow := (RowP.with_ (name := name) hx hcx hmx hr)
        rw [← Hk.out, ← His.out] at hrow
        refine ⟨A3, _, c3, rfl, own_holdsP ho3 ?_, (own_cap ho3).1, (own_cap ho3).2, hb3⟩
        have := (hrow.keep (w' := w3) (fun b o hb => hb3.cell (hP b hb))).more (P' := fun b => P b ∨ Mine w.heap.size w3 b) (fun _ h => .inl h)
        simpa using this
end Go.Proofs.Ytkhjpmefekonhaa.Pt

namespace Go.Proofs.Ytkhjpmefekonhaa.Pt
open Go.RowKit Go.Proofs.Ytkhjpmefekonhaa.Cl
set_option maxRecDepth 100000

set_option maxHeartbeats 2000000 in
theorem makeM_any (N : Nat) : ∀ (t : Tr) (A : Option Addr) (n c B : Nat) (W D : Int) (w : World), t.size ≤ N → Holds w B A n t → B ≤ w.heap.size → n ≤ c → c ≤ maxLen → t.size ≤ 400 → 0 ≤ W → W ≤ 100 → 0 ≤ D → D ≤ 100 →
    Calls Try.prog 14 #[.slice A n c, .int .i64 W, .int .i64 D] w fun e w' => ∃ A' n' c', e = .returned (.slice A' n' c') ∧ HoldsP w' (Mine w.heap.size w') A' n' (t.makeT W.toNat W.toNat D.toNat .nil) ∧ n' ≤ c' ∧ c' ≤ maxLen ∧ Below w.heap.size w w' := by
  induction N with
  | zero =>
    intro t A n c B W D w hN h hB hc hm h4 hW hW2 hD hD2
    cases t with
    | nil =>
      obtain rfl : n = 0 := h
      go_enter Try.func14, Try.ntmps14
      go_wp2_with fail
      go_loop [7, 8] (fun v i => v = .slice none 0 0 ∧ i = .int .i64 0) (fun _ _ => 0)
      case atStart => exact ⟨rfl, rfl⟩
      case round =>
        obtain ⟨rfl, rfl⟩ := hrel
        go_wp2_with fail
        go_ret
        exact ⟨none, 0, 0, rfl, rfl, Nat.le_refl _, Nat.zero_le _, Below.refl _ _⟩
    | cons s k r => simp [Tr.size] at hN
  | succ N ih =>
    intro t A n c B W D w hN h hB hc hm h4 hW hW2 hD hD2
    have Hn := Lib.hid h.len
    have hn4 : n ≤ 400 := by have := t.len_size; have := Hn.out; omega
    go_enter Try.func14, Try.ntmps14
    go_wp2_with fail
    go_loopw [7, 8] (fun v i wr => ∃ (k : Nat) (acc : Tr) (At : Option Addr) (nt ct : Nat), k ≤ n ∧ i = .int .i64 k ∧ v = .slice At nt ct ∧ HoldsP wr (Mine w.heap.size wr) At nt acc ∧ nt ≤ ct ∧ ct ≤ maxLen ∧ nt ≤ k ∧ Below w.heap.size w wr ∧
      Hid ((t.dropT k).makeT W.toNat (W.toNat - k) D.toNat acc = t.makeT W.toNat W.toNat D.toNat .nil)) (fun _ i _ => n - (intOf i).toNat)
    case atStart => exact ⟨0, .nil, none, 0, 0, by omega, rfl, rfl, rfl, Nat.le_refl _, Nat.zero_le _, Nat.le_refl _, Below.refl _ _, by rw [dropT_zero]; exact Lib.hid rfl⟩
    case round =>
      obtain ⟨k, acc, At, nt, ct, hk, rfl, rfl, hacc, hnt, hct, hnk, hbw, He⟩ := hrel
      by_cases hlt : k < n
      · obtain ⟨b, o, s, kt, r, A', n', c', rfl, hb, hs, hcl, hn', hc', hk', hr, hd, hd2⟩ := h.split k hlt
        by_cases hkW : (k : Int) < W
        · by_cases hD0 : 0 < D
          · have hs1 := (hbw.cell (p := ⟨b, o + k * 2, none⟩) (by simp only; omega)).trans hs
            have hc1 := (hbw.cell (p := ⟨b, o + k * 2 + 1, none⟩) (by simp only; omega)).trans hcl
            have hbl : b < wr.heap.size := by have := hbw.size; omega
            have hkn : (k : Int) < (n : Int) := by omega
            have hk0 : (0 : Int) ≤ (k : Int) := by omega
            have hD1 : IntKind.i64.wrap (D - 1) = D - 1 := IntWalk.i64_in _ (by omega)
            have hs0 : (0 : Int) ≤ (s.size : Int) := by omega
            have hbw2 : Below w.heap.size w wr.drew := hbw.drew
            have hkt : Holds wr.drew B A' n' kt := (hk'.below (hbw.mono hB)).drew
            have hszk := size_drop t k
            rw [hd] at hszk
            simp only [Tr.size] at hszk
            have hBr : B ≤ wr.drew.heap.size := by have := hbw.size; simp; omega
            have hacc0 : HoldsP wr.drew (Mine w.heap.size wr.drew) At nt acc := (HoldsP.keep (w := wr) (w' := wr.drew) (P := Mine w.heap.size wr) (fun _ _ _ => rfl) hacc).more (fun _ hm => ⟨hm.1, hm.2⟩)
            have HC := Lib.hid (ih kt A' n' c' B W (D - 1) wr.drew (by omega) hkt hBr hn' hc' (by omega) hW hW2 (by omega) (by omega))
            have He2 : Hid ((t.dropT (k + 1)).makeT W.toNat (W.toNat - (k + 1)) D.toNat (acc.withT (cut30 s) (kt.makeT W.toNat W.toNat (D - 1).toNat .nil)) = t.makeT W.toNat W.toNat D.toNat .nil) := by
              have := He.out
              rw [hd] at this
              simp only [Tr.makeT] at this
              rw [if_neg (by omega)] at this
              rw [hd2, show W.toNat - (k + 1) = W.toNat - k - 1 by omega, show (D - 1).toNat = D.toNat - 1 by omega]
              exact this
            obtain ⟨x, hx⟩ : ∃ x, x = kt.makeT W.toNat W.toNat (D - 1).toNat .nil := ⟨_, rfl⟩
            rw [← hx] at HC He2
            have hnt5 : nt ≤ 549755813888 := by omega
            clear hx hd hd2 He hszk hN hs hcl
            by_cases h30 : (s.size : Int) ≤ 30
            · have h31 : (30 < (s.size : Int)) = False := by simp; omega
              have hcut : cut30 s = s := by
                unfold cut30
                apply ByteArray.ext
                have : s.data.size = s.size := rfl
                simp [ByteArray.data_extract]
                omega
              rw [hcut] at He2
              clear hcut
              go_wp2_with fail
              go_region_held3 (fun w' => w'.cell? ⟨b, o + k * 2, none⟩ = some (.string s) ∧ w'.cell? ⟨b, o + k * 2 + 1, none⟩ = some (.slice A' n' c')) (first | exact ⟨hs1, hc1⟩ | exact ⟨hs3, hc3⟩ | exact ⟨hs4, hc4⟩)
                (first
                | (go_at_call 14; refine HC.out.mono ?_; rintro e w3 ⟨A3, n3, c3, rfl, hx3, hn3, hm3, hb3⟩; have hs3 := (hb3.cell (p := ⟨b, o + k * 2, none⟩) hbl).trans hs1; have hc3 := (hb3.cell (p := ⟨b, o + k * 2 + 1, none⟩) hbl).trans hc1; have hacc3 := mine_keep hacc0 hb3)
                | (go_at_call 46; refine (withP_any acc x At A3 nt ct n3 c3 s w3 hacc3 (hx3.more fun _ hm => hm.more hbw2.size) (fun _ hm => hm.lt) hnt5 hnt hn3 hm3).mono ?_; rintro e w4 ⟨A4, n5, c4, rfl, hx4, hn5, hm4, hb4⟩; have hs4 := (hb4.cell (p := ⟨b, o + k * 2, none⟩) (Nat.lt_of_lt_of_le hbl hb3.size)).trans hs3; have hc4 := (hb4.cell (p := ⟨b, o + k * 2 + 1, none⟩) (Nat.lt_of_lt_of_le hbl hb3.size)).trans hc3))
              all_goals
                go_wp2_with fail
                go_roundw
                case rel => exact ⟨k + 1, acc.withT s x, A4, n5, c4, by omega, by go_num, rfl, mine_or hx4 hb4 (Nat.le_trans hbw2.size hb3.size), hn5, hm4, by have h1 := hx4.len; have h2 := withT_len s x acc; have h3 := hacc.len; omega, (hbw2.trans (hb3.mono hbw2.size)).trans (hb4.mono (Nat.le_trans hbw2.size hb3.size)), He2⟩
                case measure => simp [intOf]; omega
            · have h31 : (30 < (s.size : Int)) = True := by simp; omega
              have h30' : (30 : Int) ≤ (s.size : Int) := by omega
              rw [show cut30 s = s.extract 0 30 from rfl] at He2
              go_wp2_with fail
              go_region_held3 (fun w' => w'.cell? ⟨b, o + k * 2, none⟩ = some (.string s) ∧ w'.cell? ⟨b, o + k * 2 + 1, none⟩ = some (.slice A' n' c')) (first | exact ⟨hs1, hc1⟩ | exact ⟨hs3, hc3⟩ | exact ⟨hs4, hc4⟩)
                (first
                | (go_at_call 14; refine HC.out.mono ?_; rintro e w3 ⟨A3, n3, c3, rfl, hx3, hn3, hm3, hb3⟩; have hs3 := (hb3.cell (p := ⟨b, o + k * 2, none⟩) hbl).trans hs1; have hc3 := (hb3.cell (p := ⟨b, o + k * 2 + 1, none⟩) hbl).trans hc1; have hacc3 := mine_keep hacc0 hb3)
                | (go_at_call 46; refine (withP_any acc x At A3 nt ct n3 c3 (s.extract 0 30) w3 hacc3 (hx3.more fun _ hm => hm.more hbw2.size) (fun _ hm => hm.lt) hnt5 hnt hn3 hm3).mono ?_; rintro e w4 ⟨A4, n5, c4, rfl, hx4, hn5, hm4, hb4⟩; have hs4 := (hb4.cell (p := ⟨b, o + k * 2, none⟩) (Nat.lt_of_lt_of_le hbl hb3.size)).trans hs3; have hc4 := (hb4.cell (p := ⟨b, o + k * 2 + 1, none⟩) (Nat.lt_of_lt_of_le hbl hb3.size)).trans hc3))
              all_goals
                go_wp2_with fail
                go_roundw
                case rel => exact ⟨k + 1, acc.withT (s.extract 0 30) x, A4, n5, c4, by omega, by go_num, rfl, mine_or hx4 hb4 (Nat.le_trans hbw2.size hb3.size), hn5, hm4, by have h1 := hx4.len; have h2 := withT_len (s.extract 0 30) x acc; have h3 := hacc.len; omega, (hbw2.trans (hb3.mono hbw2.size)).trans (hb4.mono (Nat.le_trans hbw2.size hb3.size)), He2⟩
                case measure => simp [intOf]; omega
          · have hD2' : D ≤ 0 := by omega
            have He2 : Hid (acc = t.makeT W.toNat W.toNat D.toNat .nil) := by
              have := He.out
              rw [hd] at this
              simp only [Tr.makeT] at this
              rw [if_pos (by omega)] at this
              exact this
            clear He hd hd2 hD0
            go_wp2_with fail
            go_ret
            exact ⟨At, nt, ct, rfl, by rw [← He2.out]; exact hacc, hnt, hct, hbw⟩
        · have hkW2 : W ≤ (k : Int) := by omega
          have He2 : Hid (acc = t.makeT W.toNat W.toNat D.toNat .nil) := by
            have := He.out
            rw [hd] at this
            simp only [Tr.makeT] at this
            rw [if_pos (by omega)] at this
            exact this
          clear He hd hd2 hkW
          go_wp2_with fail
          go_ret
          exact ⟨At, nt, ct, rfl, by rw [← He2.out]; exact hacc, hnt, hct, hbw⟩
      · obtain rfl : k = n := by omega
        have He2 : Hid (acc = t.makeT W.toNat W.toNat D.toNat .nil) := by
          have := He.out
          rw [drop_len t k (by rw [← Hn.out]; exact Nat.le_refl _)] at this
          exact this
        clear He hlt
        go_wp2_with fail
        go_ret
        exact ⟨At, nt, ct, rfl, by rw [← He2.out]; exact hacc, hnt, hct, hbw⟩
end Go.Proofs.Ytkhjpmefekonhaa.Pt

namespace Go.Proofs.Ytkhjpmefekonhaa.Pt
open Go.RowKit Go.Proofs.Ytkhjpmefekonhaa.Cl
set_option maxRecDepth 100000

theorem splitP {w : World} {P : Nat → Prop} : ∀ {t : Tr} {A : Option Addr} {n : Nat} (i : Nat), HoldsP w P A n t → i < n →
    ∃ (b o : Nat) (s : ByteArray) (k : Tr) (A' : Option Addr) (n' c' : Nat), A = some ⟨b, o, none⟩ ∧ P b ∧ w.cell? ⟨b, o + i * 2, none⟩ = some (.string s) ∧ w.cell? ⟨b, o + i * 2 + 1, none⟩ = some (.slice A' n' c') ∧ n' ≤ c' ∧ c' ≤ maxLen ∧
      HoldsP w P A' n' k ∧ k.size + 1 ≤ t.size
  | .nil, _, _, i, h, hi => by rw [show _ = 0 from h] at hi; omega
  | .cons s k r, _, n, 0, ⟨b, o, e, hb, hs, ⟨A', n', c', hc, hn, hm, hk⟩, m, hm1, hr⟩, _ => by
    subst hm1
    exact ⟨b, o, s, k, A', n', c', e, hb, by simpa using hs, by simpa using hc, hn, hm, hk, by simp only [Tr.size]; omega⟩
  | .cons s k r, _, n, i + 1, ⟨b, o, e, hb, hs, ⟨A', n', c', hc, hn, hm, hk⟩, m, hm1, hr⟩, hi => by
    subst hm1
    obtain ⟨b', o', s', k', A2, n2, c2, e2, hb2, h1, h2, h3, h4, h5, h6⟩ := splitP i hr (by omega)
    cases e2
    refine ⟨b, o, s', k', A2, n2, c2, e, hb, ?_, ?_, h3, h4, h5, by simp only [Tr.size]; omega⟩
    · rw [show o + (i + 1) * 2 = o + 2 + i * 2 by omega]; exact h1
    · rw [show o + (i + 1) * 2 + 1 = o + 2 + i * 2 + 1 by omega]; exact h2

/-- Names written over in what P picks: all else as it lay. -/
structure Spo (P : Nat → Prop) (w w' : World) : Prop where
  os : w'.os = w.os
  tape : w'.tape = w.tape
  output : w'.output = w.output
  size : w'.heap.size = w.heap.size
  out : ∀ b : Nat, ¬ P b → w'.heap[b]? = w.heap[b]?
  row : ∀ (b : Nat) (cs : Array Value) (E : TypeId), w.heap[b]? = some (Obj.cells cs E (0, 0)) → ∃ cs' : Array Value, w'.heap[b]? = some (Obj.cells cs' E (0, 0))
  str : ∀ p s, w.cell? p = some (.string s) → ∃ s', w'.cell? p = some (.string s')
  slc : ∀ p A n c, w.cell? p = some (.slice A n c) → w'.cell? p = some (.slice A n c)
theorem Spo.refl (P : Nat → Prop) (w : World) : Spo P w w := ⟨rfl, rfl, rfl, rfl, fun _ _ => rfl, fun _ cs _ h => ⟨cs, h⟩, fun _ s h => ⟨s, h⟩, fun _ _ _ _ h => h⟩
theorem Spo.trans {P : Nat → Prop} {a b c : World} (h : Spo P a b) (g : Spo P b c) : Spo P a c :=
  ⟨g.os.trans h.os, g.tape.trans h.tape, g.output.trans h.output, g.size.trans h.size, fun k hk => (g.out k hk).trans (h.out k hk),
   fun k cs E hk => by obtain ⟨cs', h'⟩ := h.row k cs E hk; exact g.row k cs' E h',
   fun p s hp => by obtain ⟨s', h'⟩ := h.str p s hp; exact g.str p s' h',
   fun p A n c hp => g.slc p A n c (h.slc p A n c hp)⟩
theorem Spo.set {P : Nat → Prop} {w : World} {b o : Nat} {s s' : ByteArray} {cs : Array Value} {E : TypeId} (hh : w.heap[b]? = some (.cells cs E (0, 0))) (hc : w.cell? ⟨b, o, none⟩ = some (.string s)) (hP : P b) : Spo P w (w.setCell ⟨b, o, none⟩ (.string s')) := by
  refine ⟨by simp [World.setCell], by simp [World.setCell], by simp [World.setCell], by simp [World.setCell], fun k hk => heap_setCell_other _ _ _ _ (fun e => hk (e ▸ hP)), fun k cs2 E2 hk => ?_, fun p s2 hp => ?_, fun p A n c hp => ?_⟩
  · by_cases e : k = b
    · subst e
      rw [hh] at hk
      injection hk with hk
      injection hk with h1 h2 h3
      subst h2
      exact ⟨_, heap_setCell_same w k o cs E _ hh⟩
    · exact ⟨cs2, by rw [heap_setCell_other _ _ _ _ e]; exact hk⟩
  · by_cases e : (⟨b, o, none⟩ : Addr) = p
    · subst e
      exact ⟨s', World.cell?_setCell_same _ _ _ hc⟩
    · exact ⟨s2, by rw [World.cell?_setCell_other _ _ _ _ e]; exact hp⟩
  · rw [World.cell?_setCell_other _ _ _ _ (fun e => by rw [← e, hc] at hp; cases hp)]
    exact hp
/-- It is a tree of the same size still. -/
theorem Spo.tree {P Q : Nat → Prop} {w w' : World} (h : Spo P w w') : ∀ {t : Tr} {A : Option Addr} {n : Nat}, HoldsP w Q A n t → ∃ t', HoldsP w' Q A n t' ∧ t'.size = t.size
  | .nil, _, _, h => ⟨.nil, h, rfl⟩
  | .cons s k r, A, n, ⟨b, o, e, hb, hs, ⟨A', n', c', hc, hn, hm, hk⟩, m, hm1, hr⟩ => by
    obtain ⟨s', hs'⟩ := h.str _ _ hs
    obtain ⟨k', hk', ek⟩ := Spo.tree h hk
    obtain ⟨r', hr', er⟩ := Spo.tree h hr
    exact ⟨.cons s' k' r', ⟨b, o, e, hb, hs', ⟨A', n', c', h.slc _ _ _ _ hc, hn, hm, hk'⟩, m, hm1, hr'⟩, by simp only [Tr.size, ek, er]⟩

set_option maxHeartbeats 2000000 in
theorem spoil_any (N : Nat) (P : Nat → Prop) : ∀ (t : Tr) (A : Option Addr) (n c : Nat) (w : World), t.size ≤ N → HoldsP w P A n t → (∀ b, P b → ∃ (cs : Array Value) (E : TypeId), w.heap[b]? = some (Obj.cells cs E (0, 0))) → t.size ≤ 549755813888 →
    Calls Try.prog 38 #[.slice A n c] w fun e w' => (∃ v, e = .returned v) ∧ Spo P w w' := by
  induction N with
  | zero =>
    intro t A n c w hN h hP hsz
    cases t with
    | cons s k r => simp [Tr.size] at hN
    | nil =>
      obtain rfl : n = 0 := h
      go_enter Try.func38, Try.ntmps38
      go_wp2_with fail
      go_loop [2] (fun i => i = .int .i64 0) (fun _ => 0)
      case atStart => rfl
      case round =>
        obtain rfl := hrel
        go_wp2_with fail
        go_end0
        exact ⟨⟨_, rfl⟩, Spo.refl _ _⟩
  | succ N ih =>
    intro t A n c w hN h hP hsz
    have hnl := h.len
    have hls := t.len_size
    have hnb : n ≤ 549755813888 := by omega
    have HN := Lib.hid hN
    have Hsz := Lib.hid hsz
    have HP := Lib.hid hP
    have HT := Lib.hid h
    clear hnl hls hN hsz hP h
    go_enter Try.func38, Try.ntmps38
    go_wp2_with fail
    go_loopw [2] (fun i wr => ∃ (k : Nat), k ≤ n ∧ i = .int .i64 k ∧ Spo P w wr) (fun i _ => n - (intOf i).toNat)
    case atStart => exact ⟨0, Nat.zero_le _, rfl, Spo.refl _ _⟩
    case round =>
      obtain ⟨k, hk, rfl, hS⟩ := hrel
      by_cases hlt : k < n
      · obtain ⟨u, hu, hus⟩ := hS.tree HT.out
        obtain ⟨b, o, s, kt, A', n', c', rfl, hb, hs, hc, hn', hc', hk', hsk⟩ := splitP k hu hlt
        have hkn : (k : Int) < (n : Int) := by omega
        have hk0 : (0 : Int) ≤ (k : Int) := by omega
        obtain ⟨cs, E, hh0⟩ := HP.out b hb
        obtain ⟨cs1, hh1⟩ := hS.row b cs E hh0
        have HC := Lib.hid (ih kt A' n' c' wr (by have := HN.out; omega) hk' (fun b hb => by obtain ⟨cs, E, h0⟩ := HP.out b hb; obtain ⟨cs', h1⟩ := hS.row b cs E h0; exact ⟨cs', E, h1⟩) (by have := Hsz.out; omega))
        have Hl := Lib.hid hlt
        have Hh1 := Lib.hid hh1
        have HS := Lib.hid hS
        have hbl : b < wr.heap.size := (Array.getElem?_eq_some_iff.1 hh1).1
        clear hu hus hk' hsk hh0 hh1 hS hlt
        go_wp2_with (go_at_call 38; refine HC.out.mono ?_; rintro e w1 ⟨⟨v1, rfl⟩, hS1⟩; obtain ⟨s1, hs1⟩ := hS1.str _ _ hs; obtain ⟨cs2, hh2⟩ := hS1.row b cs1 E Hh1.out; have hf2 := frozen_of_row w1 b (o + k * 2) cs2 E hh2; have Hh2 := Lib.hid hh2; have HS1 := Lib.hid hS1; clear hh2 hS1)
        go_roundw
        case rel => exact ⟨k + 1, by have := Hl.out; omega, by go_num, (HS.out.trans HS1.out).trans (Spo.set Hh2.out hs1 hb)⟩
        case measure => have := Hl.out; simp [intOf]; omega
      · obtain rfl : k = n := by omega
        clear hlt
        go_wp2_with fail
        go_end0
        exact ⟨⟨_, rfl⟩, hS⟩
end Go.Proofs.Ytkhjpmefekonhaa.Pt
