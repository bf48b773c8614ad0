/- Without of the reference. Conditions: fewer edges than 2^39. -/
import Derived.Test.YtchoipmfngcdoaaRGet
import Derived.Outline
namespace Go.Proofs.Ytchoipmfngcdoaa.Pt
open Go.RowKit
set_option maxRecDepth 100000

theorem withoutT_not : ∀ {t : Tr} {name : ByteArray}, t.atIs name = false → withoutT t name = t
  | .nil, _, _ => rfl
  | .cons s k r, name, h => by
    rcases cases3 s name with c1 | ⟨c1, c2⟩ | ⟨c1, c2, _⟩
    · rw [withoutT_lt c1, withoutT_not (by rw [← h, Pt.atIs_lt c1])]
    · rw [atIs_ge c1, c2] at h; cases h
    · exact withoutT_gt c1 c2
theorem RowT_without {w : World} {B : Nat} {name : ByteArray} : ∀ {vs : List Value} {t : Tr}, RowT w B vs t → t.atIs name = true →
    RowT w B (vs.take (t.atN name * 2) ++ vs.drop ((t.atN name + 1) * 2)) (withoutT t name)
  | [], .nil, _, h => by simp [Tr.atIs, Tr.atN, dropT_zero, Tr.headIs] at h
  | .string s :: .slice A n c :: vs, .cons _ k r, ⟨h1, h2, h3, h4, h5⟩, h => by
    subst h1
    rcases cases3 s name with c1 | ⟨c1, c2⟩ | ⟨c1, c2, _⟩
    · rw [Pt.atIs_lt c1] at h
      have ih := RowT_without h5 h
      rw [withoutT_lt c1, atN_lt c1, show (r.atN name + 1) * 2 = r.atN name * 2 + 1 + 1 by omega, show (r.atN name + 1 + 1) * 2 = (r.atN name + 1) * 2 + 1 + 1 by omega]
      exact ⟨rfl, h2, h3, h4, ih⟩
    · rw [withoutT_eq c1 c2, atN_ge c1]
      simpa using h5
    · rw [atIs_ge c1, c2] at h; cases h

set_option maxHeartbeats 2000000 in
theorem rwithout_any (t : Tr) (A : Option Addr) (n c : Nat) (name : ByteArray) (w : World) (h : OkT w A n c t) (hn : n ≤ 549755813888) :
    Calls Try.prog 17 #[.slice A n c, .string name] w (OkP w (withoutT t name)) := by
  have Hn := Lib.hid h.holds.len
  have Hat := Lib.hid (at_any t A n c w.heap.size name w h.holds (Nat.le_refl _) (by omega))
  have hc := h.cap.1
  by_cases hi : t.atIs name = true
  · have hlt : t.atN name < t.len := by
      rcases Nat.lt_or_ge (t.atN name) t.len with g | g
      · exact g
      · unfold Tr.atIs at hi
        rw [drop_len t _ g] at hi
        cases hi
    rw [← Hn.out] at hlt
    obtain ⟨vs, hr, hcell, hpos⟩ := h.holds.rowT
    obtain ⟨b, o, rfl, hbB⟩ := hpos (by omega)
    have hrow := RowT_without hr hi
    rw [hi] at Hat
    obtain ⟨k, hk⟩ : ∃ k, k = t.atN name := ⟨_, rfl⟩
    rw [← hk] at hlt Hat hrow
    have hvl := hr.length
    rw [← Hn.out] at hvl
    have hcl := hcell b o rfl
    have hone := hr.one
    have h1 : ∀ W : World, Below w.heap.size w W → Src Try.prog 2 24 (.slice (some ⟨b, o, none⟩) k c) k (vs.take (k * 2)) W := fun W hW => src_edges (by rw [List.length_take]; omega) (fun j u hu => by
      rw [List.getElem?_take] at hu
      split at hu
      · exact (hW.cell (p := ⟨b, o + j, none⟩) (by simp only; omega)).trans (hcl j u hu)
      · cases hu) (fun u hu => hone u (List.mem_of_mem_take hu))
    have H1 := Lib.hid h1
    have h3 : ∀ W : World, Below w.heap.size w W → Src Try.prog 2 24 (.slice (if c = k + 1 then some ⟨b, o, none⟩ else some ⟨b, o + (k + 1) * 2, none⟩) (n - (k + 1)) (c - (k + 1))) (n - (k + 1)) (vs.drop ((k + 1) * 2)) W := by
      intro W hW
      by_cases e : c = k + 1
      · have e0 : n - (k + 1) = 0 := by omega
        rw [e0, List.drop_of_length_le (by omega)]
        exact src_none _ _ _
      · rw [if_neg e]
        exact src_edges (by rw [List.length_drop]; omega) (fun j u hu => by
          rw [List.getElem?_drop] at hu
          rw [show o + (k + 1) * 2 + j = o + ((k + 1) * 2 + j) by omega]
          exact (hW.cell (p := ⟨b, o + ((k + 1) * 2 + j), none⟩) (by simp only; omega)).trans (hcl _ u hu)) (fun u hu => hone u (List.mem_of_mem_drop hu))
    have H3 := Lib.hid h3
    have hkn : (k : Int) ≤ (n : Int) := by omega
    have hcn : (n : Int) ≤ (c : Int) := by omega
    have hkc : (k : Int) ≤ (c : Int) := by omega
    have hk0 : (0 : Int) ≤ (k : Int) := by omega
    have hkn1 : (k : Int) + 1 ≤ (n : Int) := by omega
    have Hrow := Lib.hid hrow
    clear h3 h1 hcl hcell hvl hone hk hr hrow hpos hi
    go_enter Try.func17, Try.ntmps17
    go_wp2_with fail
    refine Hat.out.mono ?_
    rintro e w1' ⟨rfl, q, rfl⟩
    go_wp2_with (first
      | (at_builtin; refine wpList_append_row rfl (.tmp 17) (.tmp 20) _ _ rfl elem_edge rfl rfl (World.ownsRow_nil _ w.heap.size _ _) (H1.out _ (below_drewN (Below.refl _ w) q)) (by omega) (Nat.le_refl _) ?_; intro A1 c1 w1 ho1 hg1 hat1; simp only [Nat.zero_add, List.nil_append] at ho1; have hb1 : Below w.heap.size w w1 := (below_drewN (Below.refl _ w) q).grown hg1 (Nat.le_refl _) (by simp [Value.ownBlock]); have hz1 := hb1.size; have hs3 := H3.out w1 hb1)
      | (at_builtin; refine wpList_append_row rfl (.tmp 22) (.tmp 26) _ _ rfl elem_edge rfl rfl ho1 hs3 (by omega) hz1 ?_; intro A3 c3 w3 ho3 hg3 hat3))
    all_goals
      go_ret
      have hb3 : Below w.heap.size w w3 := hb1.grown hg3 hz1 (fun k hk => (ho1.lt k hk).1)
      refine ⟨A3, _, c3, rfl, ⟨own_holds ho3 ?_, (own_cap ho3).1, (own_cap ho3).2⟩, hb3⟩
      exact (Hrow.out.keep (w' := w3) (fun p hp => hb3.cell hp)).more hb3.size
  · have hi2 : t.atIs name = false := by simpa using hi
    rw [hi2] at Hat
    rw [withoutT_not hi2]
    obtain ⟨k, hk⟩ : ∃ k, k = t.atN name := ⟨_, rfl⟩
    rw [← hk] at Hat
    have HO := Lib.hid h
    clear hi hi2 hk h
    go_enter Try.func17, Try.ntmps17
    go_wp2_with fail
    refine Hat.out.mono ?_
    rintro e w1' ⟨rfl, q, rfl⟩
    go_wp2_with fail
    go_ret
    exact ⟨A, n, c, rfl, HO.out.below (below_drewN (Below.refl _ w) q), below_drewN (Below.refl _ w) q⟩
end Go.Proofs.Ytchoipmfngcdoaa.Pt
