/- With and Make of the law, told with the blocks that their answers lie in. Conditions: as With's and Make's. -/
import Derived.Test.YtlcbhooiinaalaaGreatDoorClHold
import Derived.Test.YtlcbhooiinaalaaGreatDoorMake
import Derived.Deep.RegionHeld3
import Derived.IntWalk
import Derived.Outline
namespace Go.Proofs.YtlcbhooiinaalaaGreatDoor.Pt
open Go.RowKit Go.Proofs.YtlcbhooiinaalaaGreatDoor.Cl
set_option maxRecDepth 100000

/-- A block of one's own, from base on. -/
def Mine (base : Nat) (w : World) (b : Nat) : Prop := base ≤ b ∧ ∃ cs E, w.heap[b]? = some (.cells cs E (0, 0))
theorem Mine.lt {base b : Nat} {w : World} (h : Mine base w b) : b < w.heap.size := by
  obtain ⟨_, cs, E, h⟩ := h
  exact (Array.getElem?_eq_some_iff.1 h).1
theorem Mine.more {base base' b : Nat} {w : World} (h : Mine base' w b) (hb : base ≤ base') : Mine base w b := ⟨Nat.le_trans hb h.1, h.2⟩
theorem Mine.below {base b : Nat} {w w' : World} (h : Mine base w b) (hb : Below w.heap.size w w') : Mine base w' b := by
  have := hb.block b h.lt
  obtain ⟨h1, cs, E, h2⟩ := h
  exact ⟨h1, cs, E, by rw [this]; exact h2⟩
theorem mine_keep {base n : Nat} {w w' : World} {A : Option Addr} {t : Tr} (h : HoldsP w (Mine base w) A n t) (hb : Below w.heap.size w w') : HoldsP w' (Mine base w') A n t :=
  (h.keep fun _ _ hm => hb.cell hm.lt).more fun _ hm => hm.below hb
theorem mine_or {base n : Nat} {w w' : World} {A : Option Addr} {t : Tr} (h : HoldsP w' (fun b => Mine base w b ∨ Mine w.heap.size w' b) A n t) (hb : Below w.heap.size w w') (hs : base ≤ w.heap.size) : HoldsP w' (Mine base w') A n t :=
  h.more fun _ hm => hm.elim (fun h => h.below hb) (fun h => h.more hs)

/-- The cells of a slice of edges read as a tree. -/
def RowP (w : World) (P : Nat → Prop) : List Value → Tr → Prop
  | [], .nil => True
  | .string s' :: .slice A n c :: vs, .cons s k r => s' = s ∧ n ≤ c ∧ c ≤ maxLen ∧ HoldsP w P A n k ∧ RowP w P vs r
  | _, _ => False
section
variable {w w' : World} {P P' : Nat → Prop}
theorem RowP.keep (hk : ∀ b o, P b → w'.cell? ⟨b, o, none⟩ = w.cell? ⟨b, o, none⟩) : ∀ {vs : List Value} {t : Tr}, RowP w P vs t → RowP w' P vs t
  | [], .nil, h => h
  | .string _ :: .slice _ _ _ :: _, .cons _ _ _, ⟨h1, h2, h3, h4, h5⟩ => ⟨h1, h2, h3, h4.keep hk, RowP.keep hk h5⟩
theorem RowP.more (hP : ∀ b, P b → P' b) : ∀ {vs : List Value} {t : Tr}, RowP w P vs t → RowP w P' vs t
  | [], .nil, h => h
  | .string _ :: .slice _ _ _ :: _, .cons _ _ _, ⟨h1, h2, h3, h4, h5⟩ => ⟨h1, h2, h3, h4.more hP, RowP.more hP h5⟩
theorem RowP.length : ∀ {vs : List Value} {t : Tr}, RowP w P vs t → vs.length = t.len * 2
  | [], .nil, _ => rfl
  | .string _ :: .slice _ _ _ :: vs, .cons _ _ _, ⟨_, _, _, _, h5⟩ => by simp only [List.length_cons, Tr.len, RowP.length h5]; omega
theorem RowP.one : ∀ {vs : List Value} {t : Tr}, RowP w P vs t → ∀ u ∈ vs, u.oneCell' = true
  | [], .nil, _, u, hu => by cases hu
  | .string _ :: .slice _ _ _ :: vs, .cons _ _ _, ⟨_, _, _, _, h5⟩, u, hu => by
    simp only [List.mem_cons] at hu
    rcases hu with rfl | rfl | hu
    · rfl
    · rfl
    · exact RowP.one h5 u hu
/-- What lies in memory as a tree has its cells. -/
theorem holds_rowP : ∀ {t : Tr} {A : Option Addr} {n : Nat}, HoldsP w P A n t → ∃ vs, RowP w P vs t ∧ (∀ b o, A = some ⟨b, o, none⟩ → ∀ j u, vs[j]? = some u → w.cell? ⟨b, o + j, none⟩ = some u) ∧ (0 < n → ∃ b o, A = some ⟨b, o, none⟩ ∧ P b)
  | .nil, _, _, h => ⟨[], trivial, fun _ _ _ j u hu => by simp at hu, fun hn => by rw [show _ = 0 from h] at hn; omega⟩
  | .cons s k r, _, _, ⟨b, o, e, hb, hs, ⟨A', n', c', hc, hn, hm, hk⟩, m, hm1, hr⟩ => by
    obtain ⟨vs, h1, h2, _⟩ := holds_rowP hr
    refine ⟨.string s :: .slice A' n' c' :: vs, ⟨rfl, hn, hm, hk, h1⟩, ?_, fun _ => ⟨b, o, e, hb⟩⟩
    intro b' o' e' j u hu
    rw [e] at e'
    cases e'
    match j with
    | 0 => simp at hu; subst hu; exact hs
    | 1 => simp at hu; subst hu; exact hc
    | j + 2 =>
      have := h2 b (o + 2) rfl j u (by simpa using hu)
      rw [show o + (j + 2) = o + 2 + j by omega]
      exact this
/-- Cells that read as a tree, at an address. -/
theorem RowP.holds : ∀ {vs : List Value} {t : Tr} {b o : Nat}, RowP w P vs t → P b → (∀ j u, vs[j]? = some u → w.cell? ⟨b, o + j, none⟩ = some u) → HoldsP w P (some ⟨b, o, none⟩) t.len t
  | [], .nil, _, _, _, _, _ => rfl
  | .string _ :: .slice A n c :: vs, .cons _ k r, b, o, ⟨h1, h2, h3, h4, h5⟩, hb, hc => by
    subst h1
    refine ⟨b, o, rfl, hb, hc 0 _ rfl, ⟨A, n, c, hc 1 _ rfl, h2, h3, h4⟩, r.len, rfl, RowP.holds h5 hb (fun j u hu => ?_)⟩
    have := hc (j + 2) u (by simpa using hu)
    rw [show o + 2 + j = o + (j + 2) by omega]
    exact this
end

/-- The cells of With's answer. -/
theorem RowP.with_ {w : World} {P : Nat → Prop} {name : ByteArray} {x : Tr} {Ax : Option Addr} {nx cx : Nat} (hx : HoldsP w P Ax nx x) (hn : nx ≤ cx) (hm : cx ≤ maxLen) : ∀ {vs : List Value} {t : Tr}, RowP w P vs t →
    RowP w P (vs.take (t.atN name * 2) ++ [.string name, .slice Ax nx cx] ++ vs.drop ((t.atN name + (t.atIs name).toNat) * 2)) (t.withT name x)
  | [], .nil, _ => ⟨rfl, hn, hm, hx, trivial⟩
  | .string s :: .slice A n c :: vs, .cons _ k r, ⟨h1, h2, h3, h4, h5⟩ => by
    subst h1
    by_cases hl : Op.bytesLess s.toList name.toList = true
    · have ih := RowP.with_ (name := name) hx hn hm h5
      have e1 : (Tr.cons s k r).atN name = r.atN name + 1 := by simp only [Tr.atN]; rw [if_pos hl]
      have e2 : (Tr.cons s k r).atIs name = r.atIs name := by unfold Tr.atIs; rw [e1]; rfl
      have e3 : (Tr.cons s k r).withT name x = .cons s k (r.withT name x) := by simp only [Tr.withT]; rw [if_pos hl]
      rw [e1, e2, e3, show (r.atN name + 1) * 2 = r.atN name * 2 + 1 + 1 by omega, show (r.atN name + 1 + (r.atIs name).toNat) * 2 = (r.atN name + (r.atIs name).toNat) * 2 + 1 + 1 by omega]
      exact ⟨rfl, h2, h3, h4, ih⟩
    · have e1 : (Tr.cons s k r).atN name = 0 := by simp only [Tr.atN]; rw [if_neg hl]
      have e2 : (Tr.cons s k r).atIs name = (s.toList == name.toList) := by unfold Tr.atIs; rw [e1]; rfl
      rw [e1, e2]
      by_cases he : (s.toList == name.toList) = true
      · have e3 : (Tr.cons s k r).withT name x = .cons name x r := by simp only [Tr.withT]; rw [if_neg hl, if_pos he]
        rw [he, e3]
        exact ⟨rfl, hn, hm, hx, h5⟩
      · have e3 : (Tr.cons s k r).withT name x = .cons name x (.cons s k r) := by simp only [Tr.withT]; rw [if_neg hl, if_neg he]
        rw [e3]
        have he2 : (s.toList == name.toList) = false := by simpa using he
        rw [he2]
        exact ⟨rfl, hn, hm, hx, rfl, h2, h3, h4, h5⟩

theorem own_holdsP {P : Nat → Prop} {w : World} {base n c : Nat} {A : Option Addr} {e : TypeId} {vs : List Value} {t : Tr} (ho : w.ownsRow base e 2 (.slice A n c) n vs) (hr : RowP w (fun b => P b ∨ Mine base w b) vs t) : HoldsP w (fun b => P b ∨ Mine base w b) A n t := by
  have hl := hr.length
  have hl2 := ho.1
  have hn : n = t.len := by omega
  rcases ho.2 with ⟨e1, hn0⟩ | ⟨g, cap, cur, e1, hbg, hh, _⟩
  · subst hn0
    cases t with
    | nil => rfl
    | cons _ _ _ => simp [Tr.len] at hn
  · injection e1 with e1 e2 e3
    subst e1
    subst hn
    exact hr.holds (.inr ⟨hbg, _, _, hh⟩) (fun j u hu => by
      have := rowCells ho j u hu
      rw [Addr.add_lit] at this
      exact this)

set_option maxHeartbeats 2000000 in
theorem withP_any {P : Nat → Prop} (t x : Tr) (A Ax : Option Addr) (n c nx cx : Nat) (name : ByteArray) (w : World) (h : HoldsP w P A n t) (hx : HoldsP w P Ax nx x) (hP : ∀ b, P b → b < w.heap.size) (hn : n ≤ 549755813888) (hc : n ≤ c) (hcx : nx ≤ cx) (hmx : cx ≤ maxLen) :
    Calls Tryz.prog 35 #[.slice A n c, .string name, .slice Ax nx cx] w fun e w' => ∃ A' n' c', e = .returned (.slice A' n' c') ∧ HoldsP w' (fun b => P b ∨ Mine w.heap.size w' b) A' n' (t.withT name x) ∧ n' ≤ c' ∧ c' ≤ maxLen ∧ Below w.heap.size w w' := by
  have Hn := Lib.hid h.len
  have Hat := Lib.hid (at_any t A n c w.heap.size name w (h.to hP) (Nat.le_refl _) (by omega))
  have hle := atN_le name t
  rw [← Hn.out] at hle
  obtain ⟨k, hk⟩ : ∃ k, k = t.atN name := ⟨_, rfl⟩
  obtain ⟨is, his⟩ : ∃ b, b = t.atIs name := ⟨_, rfl⟩
  rw [← hk] at hle Hat
  rw [← his] at Hat
  have Hk := Lib.hid hk
  have His := Lib.hid his
  clear hk his
  cases t with
  | nil =>
    obtain rfl : n = 0 := h
    obtain rfl : k = 0 := by omega
    obtain rfl : is = false := His.out
    go_enter Tryz.func35, Tryz.ntmps35
    go_wp2_with fail
    refine Hat.out.mono ?_
    rintro e w1 ⟨rfl, q, rfl⟩
    have hlx : (0 : Nat) < 1 := by omega
    have hsx : ∀ W : World, Src Tryz.prog 2 30 (.slice (some ⟨W.heap.size, 0, none⟩) 1 1) 1 [.string name, .slice Ax nx cx] (W.alloc (.cells #[.string name, .slice Ax nx cx] 55)) := fun W => src_edges rfl (fun j u hu => by rw [cell_of_row _ _ _ _ _ _ (heap_alloc_new W _)]; rw [← hu]; simp) (by simp [Value.oneCell'])
    have Hsx := Lib.hid hsx
    clear hsx hlx
    go_wp2_with (first
      | (at_builtin; refine wpList_append_row rfl (.tmp 16) (.tmp 19) _ _ rfl elem_edge rfl rfl (World.ownsRow_nil _ w.heap.size _ _) (src_none _ _ _) (by omega) (Nat.le_refl _) ?_; intro A1 c1 w1 ho1 hg1 hat1)
      | (at_builtin; refine wpList_append_row rfl (.tmp 21) (.tmp 25) _ _ rfl elem_edge rfl rfl (ho1.alloc _) (Hsx.out w1) (by omega) (by have := hg1.size; simp at this ⊢; omega) ?_; intro A2 c2 w2 ho2 hg2 hat2; have hz2 : w.heap.size ≤ w2.heap.size := (by have h1 := hg1.size; have h2 := hg2.size; simp at h1 h2; omega))
      | (at_builtin; refine wpList_append_row rfl (.tmp 30) (.tmp 33) _ _ rfl elem_edge rfl rfl ho2 (src_none _ _ _) (by omega) hz2 ?_; intro A3 c3 w3 ho3 hg3 hat3))
    go_ret
    have hb1 : Below w.heap.size w w1 := (below_drewN (Below.refl _ w) q).grown hg1 (Nat.le_refl _) (by simp [Value.ownBlock])
    have hb2 : Below w.heap.size w w2 := (hb1.alloc hb1.size _).grown hg2 (by have := hb1.size; simp; omega) (fun k hk => (ho1.lt k hk).1)
    have hb3 : Below w.heap.size w w3 := hb2.grown hg3 hz2 (fun k hk => (ho2.lt k hk).1)
    refine ⟨A3, _, c3, rfl, own_holdsP ho3 ⟨rfl, hcx, hmx, (hx.keep (fun b o hb => hb3.cell (hP b hb))).more (fun _ => Or.inl), trivial⟩, (own_cap ho3).1, (own_cap ho3).2, hb3⟩
  | cons s kt r =>
    obtain ⟨b, o, rfl, hbB⟩ : ∃ b o, A = some ⟨b, o, none⟩ ∧ b < w.heap.size := by obtain ⟨b, o, e, hb, _⟩ := h; exact ⟨b, o, e, hP b hb⟩
    obtain ⟨vs, hr, hcell, _⟩ := holds_rowP h
    have hvl := hr.length
    rw [← Hn.out] at hvl
    have hcl := hcell b o rfl
    have hone := hr.one
    have hsx : ∀ W : World, Src Tryz.prog 2 30 (.slice (some ⟨W.heap.size, 0, none⟩) 1 1) 1 [.string name, .slice Ax nx cx] (W.alloc (.cells #[.string name, .slice Ax nx cx] 55)) := fun W => src_edges rfl (fun j u hu => by rw [cell_of_row _ _ _ _ _ _ (heap_alloc_new W _)]; rw [← hu]; simp) (by simp [Value.oneCell'])
    have Hsx := Lib.hid hsx
    have h1 : ∀ W : World, Below w.heap.size w W → Src Tryz.prog 2 30 (.slice (some ⟨b, o, none⟩) k c) k (vs.take (k * 2)) W := fun W hW => src_edges (by rw [List.length_take]; omega) (fun j u hu => by
      rw [List.getElem?_take] at hu
      split at hu
      · exact (hW.cell (p := ⟨b, o + j, none⟩) (by simp only; omega)).trans (hcl j u hu)
      · cases hu) (fun u hu => hone u (List.mem_of_mem_take hu))
    have H1 := Lib.hid h1
    have h3 : ∀ k', k' ≤ n → ∀ W : World, Below w.heap.size w W → Src Tryz.prog 2 30 (.slice (if c = k' then some ⟨b, o, none⟩ else some ⟨b, o + k' * 2, none⟩) (n - k') (c - k')) (n - k') (vs.drop (k' * 2)) W := by
      intro k' hk' W hW
      by_cases e : c = k'
      · have e0 : n - k' = 0 := by omega
        rw [e0, List.drop_of_length_le (by omega)]
        exact src_none _ _ _
      · rw [if_neg e]
        exact src_edges (by rw [List.length_drop]; omega) (fun j u hu => by
          rw [List.getElem?_drop] at hu
          rw [show o + k' * 2 + j = o + (k' * 2 + j) by omega]
          exact (hW.cell (p := ⟨b, o + (k' * 2 + j), none⟩) (by simp only; omega)).trans (hcl _ u hu)) (fun u hu => hone u (List.mem_of_mem_drop hu))
    have hkn : (k : Int) ≤ (n : Int) := by omega
    have hcn : (n : Int) ≤ (c : Int) := by omega
    have hkc : (k : Int) ≤ (c : Int) := by omega
    have hk0 : (0 : Int) ≤ (k : Int) := by omega
    cases is with
    | false =>
      have H3 := Lib.hid (h3 k hle)
      clear h3 h1 hsx hcl hcell hvl hone
      go_enter Tryz.func35, Tryz.ntmps35
      go_wp2_with fail
      refine Hat.out.mono ?_
      rintro e w1' ⟨rfl, q, rfl⟩
      go_wp2_with (first
        | (at_builtin; refine wpList_append_row rfl (.tmp 16) (.tmp 19) _ _ rfl elem_edge rfl rfl (World.ownsRow_nil _ w.heap.size _ _) (H1.out _ (below_drewN (Below.refl _ w) q)) (by omega) (Nat.le_refl _) ?_; intro A1 c1 w1 ho1 hg1 hat1; simp only [Nat.zero_add, List.nil_append] at ho1)
        | (at_builtin; refine wpList_append_row rfl (.tmp 21) (.tmp 25) _ _ rfl elem_edge rfl rfl (ho1.alloc _) (Hsx.out w1) (by omega) (by have := hg1.size; simp at this ⊢; omega) ?_; intro A2 c2 w2 ho2 hg2 hat2; have hz2 : w.heap.size ≤ w2.heap.size := (by have h1 := hg1.size; have h2 := hg2.size; simp at h1 h2; omega); have hb1 : Below w.heap.size w w1 := (below_drewN (Below.refl _ w) q).grown hg1 (Nat.le_refl _) (by simp [Value.ownBlock]); have hb2 : Below w.heap.size w w2 := (hb1.alloc hb1.size _).grown hg2 (by have := hb1.size; simp; omega) (fun k hk => (ho1.lt k hk).1); have hs3 := H3.out w2 hb2)
        | (at_builtin; refine wpList_append_row rfl (.tmp 30) (.tmp 33) _ _ rfl elem_edge rfl rfl ho2 hs3 (by omega) hz2 ?_; intro A3 c3 w3 ho3 hg3 hat3))
      all_goals
        go_ret
        have hb3 : Below w.heap.size w w3 := hb2.grown hg3 hz2 (fun k hk => (ho2.lt k hk).1)
        have hrow := (RowP.with_ (name := name) hx hcx hmx hr)
        rw [← Hk.out, ← His.out] at hrow
        refine ⟨A3, _, c3, rfl, own_holdsP ho3 ?_, (own_cap ho3).1, (own_cap ho3).2, hb3⟩
        have := (hrow.keep (w' := w3) (fun b o hb => hb3.cell (hP b hb))).more (P' := fun b => P b ∨ Mine w.heap.size w3 b) (fun _ h => .inl h)
        simpa using this
    | true =>
      have hlt : k < n := by
        have := atIs_lt His.out.symm
        rw [← Hk.out, ← Hn.out] at this
        exact this
      have H3 := Lib.hid (h3 (k + 1) hlt)
      have hkn1 : (k : Int) + 1 ≤ (n : Int) := by omega
      clear h3 h1 hsx hcl hcell hvl hone
      go_enter Tryz.func35, Tryz.ntmps35
      go_wp2_with fail
      refine Hat.out.mono ?_
      rintro e w1' ⟨rfl, q, rfl⟩
      go_wp2_with (first
        | (at_builtin; refine wpList_append_row rfl (.tmp 16) (.tmp 19) _ _ rfl elem_edge rfl rfl (World.ownsRow_nil _ w.heap.size _ _) (H1.out _ (below_drewN (Below.refl _ w) q)) (by omega) (Nat.le_refl _) ?_; intro A1 c1 w1 ho1 hg1 hat1; simp only [Nat.zero_add, List.nil_append] at ho1)
        | (at_builtin; refine wpList_append_row rfl (.tmp 21) (.tmp 25) _ _ rfl elem_edge rfl rfl (ho1.alloc _) (Hsx.out w1) (by omega) (by have := hg1.size; simp at this ⊢; omega) ?_; intro A2 c2 w2 ho2 hg2 hat2; have hz2 : w.heap.size ≤ w2.heap.size := (by have h1 := hg1.size; have h2 := hg2.size; simp at h1 h2; omega); have hb1 : Below w.heap.size w w1 := (below_drewN (Below.refl _ w) q).grown hg1 (Nat.le_refl _) (by simp [Value.ownBlock]); have hb2 : Below w.heap.size w w2 := (hb1.alloc hb1.size _).grown hg2 (by have := hb1.size; simp; omega) (fun k hk => (ho1.lt k hk).1); have hs3 := H3.out w2 hb2)
        | (at_builtin; refine wpList_append_row rfl (.tmp 30) (.tmp 33) _ _ rfl elem_edge rfl rfl ho2 hs3 (by omega) hz2 ?_; intro A3 c3 w3 ho3 hg3 hat3))
      all_goals
        go_ret
        have hb3 : Below w.heap.size w w3 := hb2.grown hg3 hz2 (fun k hk => (ho2.lt k hk).1)
        have hrow := (RowP.with_ (name := name) hx hcx hmx hr)
        rw [← Hk.out, ← His.out] at hrow
        refine ⟨A3, _, c3, rfl, own_holdsP ho3 ?_, (own_cap ho3).1, (own_cap ho3).2, hb3⟩
        have := (hrow.keep (w' := w3) (fun b o hb => hb3.cell (hP b hb))).more (P' := fun b => P b ∨ Mine w.heap.size w3 b) (fun _ h => .inl h)
        simpa using this
end Go.Proofs.YtlcbhooiinaalaaGreatDoor.Pt
