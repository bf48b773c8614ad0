/- With of the reference, walked. Conditions: fewer edges than 2^39. -/
import Derived.Test.YtchoipmfngcdoaaWith
import Derived.Outline
namespace Go.Proofs.Ytchoipmfngcdoaa
open Go.RowKit
set_option maxRecDepth 100000

theorem elem_edge : Elem Try.prog 24 51 (.agg #[.string ⟨#[]⟩, .slice none 0 0]) 2 40 := ⟨Try.underlying24, by kernel_rfl, rfl, by omega⟩
theorem src_edges {w : World} {b o n c : Nat} {vs : List Value} (hl : vs.length = n * 2) (hc : ∀ j u, vs[j]? = some u → w.cell? ⟨b, o + j, none⟩ = some u) (h1 : ∀ u ∈ vs, u.oneCell' = true) : Src Try.prog 2 24 (.slice (some ⟨b, o, none⟩) n c) n vs w :=
  Src.ofSlice w Try.underlying24 ⟨b, o, none⟩ n c vs hl (fun j u hu => by rw [Addr.add_lit]; exact hc j u hu) h1
theorem src_none (w : World) (A : Option Addr) (c : Nat) : Src Try.prog 2 24 (.slice A 0 c) 0 [] w := by
  cases A with
  | none => exact Src.ofNil w Try.underlying24 c
  | some a => exact Src.ofSlice w Try.underlying24 a 0 c [] rfl (fun j u hu => by simp at hu) (fun u hu => by cases hu)

theorem below_drewN {B : Nat} {a w : World} (h : Below B a w) (n : Nat) : Below B a (w.drewN n) := ⟨h.os, h.tape, h.output, h.size, h.block⟩
theorem atIs_lt {name : ByteArray} {t : Tr} (h : t.atIs name = true) : t.atN name < t.len := by
  rcases Nat.lt_or_ge (t.atN name) t.len with g | g
  · exact g
  · unfold Tr.atIs at h
    rw [drop_len t _ g] at h
    cases h
/-- A row of edges of the call's own is a tree in memory. -/
theorem own_holds {w : World} {base n c : Nat} {A : Option Addr} {e : TypeId} {vs : List Value} {t : Tr} (ho : w.ownsRow base e 2 (.slice A n c) n vs) (hr : RowT w w.heap.size vs t) : Holds w w.heap.size A n t := by
  have hl := hr.length
  have hl2 := ho.1
  have hn : n = t.len := by omega
  rcases ho.2 with ⟨e1, hn0⟩ | ⟨g, cap, cur, e1, _, hh, _⟩
  · subst hn0
    cases t with
    | nil => rfl
    | cons _ _ _ => simp [Tr.len] at hn
  · injection e1 with e1 e2 e3
    subst e1
    subst hn
    exact hr.holds (Array.getElem?_eq_some_iff.1 hh).1 (fun j u hu => by
      have := rowCells ho j u hu
      rw [Addr.add_lit] at this
      exact this)
theorem own_cap {w : World} {base n c size : Nat} {A : Option Addr} {e : TypeId} {vs : List Value} (ho : w.ownsRow base e size (.slice A n c) n vs) : n ≤ c ∧ c ≤ maxLen := by
  rcases ho.2 with ⟨e1, hn0⟩ | ⟨g, cap, cur, e1, _, _, h1, h2, _⟩
  · injection e1 with _ e2 e3
    subst e2; subst e3
    exact ⟨Nat.le_refl _, Nat.zero_le _⟩
  · injection e1 with _ _ e3
    subst e3
    exact ⟨h1, h2⟩

set_option maxHeartbeats 2000000 in
theorem with_any (t x : Tr) (A Ax : Option Addr) (n c nx cx B : Nat) (name : ByteArray) (w : World) (h : Holds w B A n t) (hx : Holds w B Ax nx x) (hB : B ≤ w.heap.size) (hn : n ≤ 549755813888) (hc : n ≤ c) (hcx : nx ≤ cx) (hmx : cx ≤ maxLen) :
    Calls Try.prog 16 #[.slice A n c, .string name, .slice Ax nx cx] w fun e w' => ∃ A' n' c', e = .returned (.slice A' n' c') ∧ Holds w' w'.heap.size A' n' (t.withT name x) ∧ n' ≤ c' ∧ c' ≤ maxLen ∧ Below w.heap.size w w' := by
  have Hn := Lib.hid h.len
  have Hat := Lib.hid (at_any t A n c B name w h hB (by omega))
  have hle := atN_le name t
  rw [← Hn.out] at hle
  obtain ⟨k, hk⟩ : ∃ k, k = t.atN name := ⟨_, rfl⟩
  obtain ⟨is, his⟩ : ∃ b, b = t.atIs name := ⟨_, rfl⟩
  rw [← hk] at hle Hat
  rw [← his] at Hat
  have Hk := Lib.hid hk
  have His := Lib.hid his
  clear hk his
  cases t with
  | nil =>
    obtain rfl : n = 0 := h
    obtain rfl : k = 0 := by omega
    obtain rfl : is = false := His.out
    go_enter Try.func16, Try.ntmps16
    go_wp2_with fail
    refine Hat.out.mono ?_
    rintro e w1 ⟨rfl, q, rfl⟩
    have hlx : (0 : Nat) < 1 := by omega
    have hsx : ∀ W : World, Src Try.prog 2 24 (.slice (some ⟨W.heap.size, 0, none⟩) 1 1) 1 [.string name, .slice Ax nx cx] (W.alloc (.cells #[.string name, .slice Ax nx cx] 51)) := fun W => src_edges rfl (fun j u hu => by rw [cell_of_row _ _ _ _ _ _ (heap_alloc_new W _)]; rw [← hu]; simp) (by simp [Value.oneCell'])
    have Hsx := Lib.hid hsx
    clear hsx hlx
    go_wp2_with (first
      | (at_builtin; refine wpList_append_row rfl (.tmp 16) (.tmp 19) _ _ rfl elem_edge rfl rfl (World.ownsRow_nil _ w.heap.size _ _) (src_none _ _ _) (by omega) (Nat.le_refl _) ?_; intro A1 c1 w1 ho1 hg1 hat1)
      | (at_builtin; refine wpList_append_row rfl (.tmp 21) (.tmp 25) _ _ rfl elem_edge rfl rfl (ho1.alloc _) (Hsx.out w1) (by omega) (by have := hg1.size; simp at this ⊢; omega) ?_; intro A2 c2 w2 ho2 hg2 hat2; have hz2 : w.heap.size ≤ w2.heap.size := (by have h1 := hg1.size; have h2 := hg2.size; simp at h1 h2; omega))
      | (at_builtin; refine wpList_append_row rfl (.tmp 30) (.tmp 33) _ _ rfl elem_edge rfl rfl ho2 (src_none _ _ _) (by omega) hz2 ?_; intro A3 c3 w3 ho3 hg3 hat3))
    go_ret
    have hb1 : Below w.heap.size w w1 := (below_drewN (Below.refl _ w) q).grown hg1 (Nat.le_refl _) (by simp [Value.ownBlock])
    have hb2 : Below w.heap.size w w2 := (hb1.alloc hb1.size _).grown hg2 (by have := hb1.size; simp; omega) (fun k hk => (ho1.lt k hk).1)
    have hb3 : Below w.heap.size w w3 := hb2.grown hg3 hz2 (fun k hk => (ho2.lt k hk).1)
    refine ⟨A3, _, c3, rfl, own_holds ho3 ⟨rfl, hcx, hmx, (hx.below (hb3.mono hB)).more (Nat.le_trans hB hb3.size), trivial⟩, (own_cap ho3).1, (own_cap ho3).2, hb3⟩
  | cons s kt r =>
    obtain ⟨b, o, rfl, hbB⟩ : ∃ b o, A = some ⟨b, o, none⟩ ∧ b < B := by obtain ⟨b, o, e, hb, _⟩ := h; exact ⟨b, o, e, hb⟩
    obtain ⟨vs, hr, hcell, _⟩ := h.rowT
    have hvl := hr.length
    rw [← Hn.out] at hvl
    have hcl := hcell b o rfl
    have hone := hr.one
    have hsx : ∀ W : World, Src Try.prog 2 24 (.slice (some ⟨W.heap.size, 0, none⟩) 1 1) 1 [.string name, .slice Ax nx cx] (W.alloc (.cells #[.string name, .slice Ax nx cx] 51)) := fun W => src_edges rfl (fun j u hu => by rw [cell_of_row _ _ _ _ _ _ (heap_alloc_new W _)]; rw [← hu]; simp) (by simp [Value.oneCell'])
    have Hsx := Lib.hid hsx
    have h1 : ∀ W : World, Below w.heap.size w W → Src Try.prog 2 24 (.slice (some ⟨b, o, none⟩) k c) k (vs.take (k * 2)) W := fun W hW => src_edges (by rw [List.length_take]; omega) (fun j u hu => by
      rw [List.getElem?_take] at hu
      split at hu
      · exact (hW.cell (p := ⟨b, o + j, none⟩) (by simp only; omega)).trans (hcl j u hu)
      · cases hu) (fun u hu => hone u (List.mem_of_mem_take hu))
    have H1 := Lib.hid h1
    have h3 : ∀ k', k' ≤ n → ∀ W : World, Below w.heap.size w W → Src Try.prog 2 24 (.slice (if c = k' then some ⟨b, o, none⟩ else some ⟨b, o + k' * 2, none⟩) (n - k') (c - k')) (n - k') (vs.drop (k' * 2)) W := by
      intro k' hk' W hW
      by_cases e : c = k'
      · have e0 : n - k' = 0 := by omega
        rw [e0, List.drop_of_length_le (by omega)]
        exact src_none _ _ _
      · rw [if_neg e]
        exact src_edges (by rw [List.length_drop]; omega) (fun j u hu => by
          rw [List.getElem?_drop] at hu
          rw [show o + k' * 2 + j = o + (k' * 2 + j) by omega]
          exact (hW.cell (p := ⟨b, o + (k' * 2 + j), none⟩) (by simp only; omega)).trans (hcl _ u hu)) (fun u hu => hone u (List.mem_of_mem_drop hu))
    have hkn : (k : Int) ≤ (n : Int) := by omega
    have hcn : (n : Int) ≤ (c : Int) := by omega
    have hkc : (k : Int) ≤ (c : Int) := by omega
    have hk0 : (0 : Int) ≤ (k : Int) := by omega
    cases is with
    | false =>
      have H3 := Lib.hid (h3 k hle)
      clear h3 h1 hsx hcl hcell hvl hone
      go_enter Try.func16, Try.ntmps16
      go_wp2_with fail
      refine Hat.out.mono ?_
      rintro e w1' ⟨rfl, q, rfl⟩
      go_wp2_with (first
        | (at_builtin; refine wpList_append_row rfl (.tmp 16) (.tmp 19) _ _ rfl elem_edge rfl rfl (World.ownsRow_nil _ w.heap.size _ _) (H1.out _ (below_drewN (Below.refl _ w) q)) (by omega) (Nat.le_refl _) ?_; intro A1 c1 w1 ho1 hg1 hat1; simp only [Nat.zero_add, List.nil_append] at ho1)
        | (at_builtin; refine wpList_append_row rfl (.tmp 21) (.tmp 25) _ _ rfl elem_edge rfl rfl (ho1.alloc _) (Hsx.out w1) (by omega) (by have := hg1.size; simp at this ⊢; omega) ?_; intro A2 c2 w2 ho2 hg2 hat2; have hz2 : w.heap.size ≤ w2.heap.size := (by have h1 := hg1.size; have h2 := hg2.size; simp at h1 h2; omega); have hb1 : Below w.heap.size w w1 := (below_drewN (Below.refl _ w) q).grown hg1 (Nat.le_refl _) (by simp [Value.ownBlock]); have hb2 : Below w.heap.size w w2 := (hb1.alloc hb1.size _).grown hg2 (by have := hb1.size; simp; omega) (fun k hk => (ho1.lt k hk).1); have hs3 := H3.out w2 hb2)
        | (at_builtin; refine wpList_append_row rfl (.tmp 30) (.tmp 33) _ _ rfl elem_edge rfl rfl ho2 hs3 (by omega) hz2 ?_; intro A3 c3 w3 ho3 hg3 hat3))
      all_goals
        go_ret
        have hb3 : Below w.heap.size w w3 := hb2.grown hg3 hz2 (fun k hk => (ho2.lt k hk).1)
        have hrow := (RowT.with_ (name := name) hx hcx hmx hr)
        rw [← Hk.out, ← His.out] at hrow
        refine ⟨A3, _, c3, rfl, own_holds ho3 ?_, (own_cap ho3).1, (own_cap ho3).2, hb3⟩
        have := (hrow.keep (w' := w3) (fun p hp => hb3.cell (Nat.lt_of_lt_of_le hp hB))).more (Nat.le_trans hB hb3.size)
        simpa using this
    | true =>
      have hlt : k < n := by
        have := atIs_lt His.out.symm
        rw [← Hk.out, ← Hn.out] at this
        exact this
      have H3 := Lib.hid (h3 (k + 1) hlt)
      have hkn1 : (k : Int) + 1 ≤ (n : Int) := by omega
      clear h3 h1 hsx hcl hcell hvl hone
      go_enter Try.func16, Try.ntmps16
      go_wp2_with fail
      refine Hat.out.mono ?_
      rintro e w1' ⟨rfl, q, rfl⟩
      go_wp2_with (first
        | (at_builtin; refine wpList_append_row rfl (.tmp 16) (.tmp 19) _ _ rfl elem_edge rfl rfl (World.ownsRow_nil _ w.heap.size _ _) (H1.out _ (below_drewN (Below.refl _ w) q)) (by omega) (Nat.le_refl _) ?_; intro A1 c1 w1 ho1 hg1 hat1; simp only [Nat.zero_add, List.nil_append] at ho1)
        | (at_builtin; refine wpList_append_row rfl (.tmp 21) (.tmp 25) _ _ rfl elem_edge rfl rfl (ho1.alloc _) (Hsx.out w1) (by omega) (by have := hg1.size; simp at this ⊢; omega) ?_; intro A2 c2 w2 ho2 hg2 hat2; have hz2 : w.heap.size ≤ w2.heap.size := (by have h1 := hg1.size; have h2 := hg2.size; simp at h1 h2; omega); have hb1 : Below w.heap.size w w1 := (below_drewN (Below.refl _ w) q).grown hg1 (Nat.le_refl _) (by simp [Value.ownBlock]); have hb2 : Below w.heap.size w w2 := (hb1.alloc hb1.size _).grown hg2 (by have := hb1.size; simp; omega) (fun k hk => (ho1.lt k hk).1); have hs3 := H3.out w2 hb2)
        | (at_builtin; refine wpList_append_row rfl (.tmp 30) (.tmp 33) _ _ rfl elem_edge rfl rfl ho2 hs3 (by omega) hz2 ?_; intro A3 c3 w3 ho3 hg3 hat3))
      all_goals
        go_ret
        have hb3 : Below w.heap.size w w3 := hb2.grown hg3 hz2 (fun k hk => (ho2.lt k hk).1)
        have hrow := (RowT.with_ (name := name) hx hcx hmx hr)
        rw [← Hk.out, ← His.out] at hrow
        refine ⟨A3, _, c3, rfl, own_holds ho3 ?_, (own_cap ho3).1, (own_cap ho3).2, hb3⟩
        have := (hrow.keep (w' := w3) (fun p hp => hb3.cell (Nat.lt_of_lt_of_le hp hB))).more (Nat.le_trans hB hb3.size)
        simpa using this
end Go.Proofs.Ytchoipmfngcdoaa
