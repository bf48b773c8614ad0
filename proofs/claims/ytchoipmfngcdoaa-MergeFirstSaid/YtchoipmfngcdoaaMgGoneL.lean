/- MergeGone. No conditions. -/
import Derived.Test.YtchoipmfngcdoaaMwMgWide
import Derived.Test.YtchoipmfngcdoaaMwMgFrom
import Derived.Test.YtchoipmfngcdoaaDfSmall
import Derived.Test.YtchoipmfngcdoaaMwWords
namespace Go.Proofs.Ytchoipmfngcdoaa.Mg
open Go.RowKit Go.Proofs.Ytchoipmfngcdoaa.Pt Go.Proofs.Ytchoipmfngcdoaa.Df Go.Proofs.Ytchoipmfngcdoaa.Sc Go.Proofs.Ytchoipmfngcdoaa.Cl
set_option maxRecDepth 100000

theorem dep_eq : ∀ t : Tr, depS t = dep t
  | .nil => rfl
  | .cons _ k r => by simp only [depS, dep, dep_eq k, dep_eq r]
theorem fit_lowM : ∀ {t : Tr}, t.Fit → t.Low
  | .nil, _ => trivial
  | .cons _ _ _, ⟨_, h2, h3, h4⟩ => ⟨h2, fit_lowM h3, fit_lowM h4⟩
abbrev kz (k : Tr) : Tr := .cons ⟨#[107]⟩ k (.cons ⟨#[122]⟩ .nil .nil)
abbrev zz : Tr := .cons ⟨#[122]⟩ .nil .nil
theorem zz_asc : AscD zz := ⟨by unfold Tr.Asc; simp [Tr.bn, Tr.names], trivial, trivial⟩
theorem kz_asc {k : Tr} (h : AscD k) : AscD (kz k) := ⟨by
  unfold Tr.Asc
  simp only [Tr.bn, Tr.names, List.map_cons, List.map_nil, List.pairwise_cons, List.mem_cons, List.not_mem_nil, or_false, forall_eq, List.Pairwise.nil, and_true]
  exact ⟨by decide, fun _ h => h.elim⟩, h, zz_asc⟩
theorem kz_k {k : Tr} (h : AscD k) (hs : k.size ≤ 200) : OpK ⟨true, kz k⟩ := ⟨kz_asc h, by simp only [Tr.size]; omega, fun e => by cases e⟩
theorem kz_bd {k : Tr} (hs : k.size ≤ 200) (hd : depS k ≤ 4) : Bd ⟨true, kz k⟩ := ⟨by simp only [Tr.size]; omega, by rw [← dep_eq]; simp only [depS]; omega⟩
theorem zz_k : OpK ⟨true, zz⟩ := ⟨zz_asc, by simp [Tr.size], fun e => by cases e⟩
theorem zz_bd : Bd ⟨true, zz⟩ := ⟨by simp [Tr.size], by simp [dep]⟩
theorem zz_no : (zz : Tr).atIs ⟨#[107]⟩ = false := by
  rcases cases3 ⟨#[122]⟩ ⟨#[107]⟩ with c1 | ⟨c1, c2⟩ | ⟨c1, c2, _⟩
  · rw [ByteArray.toList_eq, ByteArray.toList_eq] at c1
    exact absurd c1 (by decide)
  · rw [ByteArray.toList_eq, ByteArray.toList_eq] at c2
    exact absurd c2 (by decide)
  · rw [atIs_ge c1, c2]
theorem holds_kz {w : World} {B g n c : Nat} {A : Option Addr} {k : Tr} {T : TypeId} (h : Bx w g [.string ⟨#[107]⟩, .slice A n c, .string ⟨#[122]⟩, .slice none 0 0] T) (hg : g < B) (hk : Holds w B A n k) (hc : n ≤ c) (hm : c ≤ maxLen) : Holds w B (some ⟨g, 0, none⟩) 2 (kz k) :=
  ⟨g, 0, rfl, hg, h.cells 0, ⟨A, n, c, h.cells 1, hc, hm, hk⟩, 1, rfl, ⟨g, 2, rfl, hg, h.cells 2, ⟨none, 0, 0, h.cells 3, Nat.le_refl _, Nat.zero_le _, rfl⟩, 0, rfl, rfl⟩⟩
theorem holds_zz {w : World} {B g : Nat} {T : TypeId} (h : Bx w g [.string ⟨#[122]⟩, .slice none 0 0] T) (hg : g < B) : Holds w B (some ⟨g, 0, none⟩) 1 zz :=
  ⟨g, 0, rfl, hg, h.cells 0, ⟨none, 0, 0, h.cells 1, Nat.le_refl _, Nat.zero_le _, rfl⟩, 0, rfl, rfl⟩
theorem ok_op {w : World} {A : Option Addr} {n c : Nat} {t : Tr} (h : OkT w A n c t) (v : Bool) : OpB w w.heap.size A n c ⟨v, t⟩ := ⟨HoldsP.of h.holds, h.cap⟩
theorem op_ok {w w' : World} {A : Option Addr} {n c : Nat} {x : Op} (h : OpN w w' A n c x) : OkT w' A n c x.t := ⟨h.holds.to (fun _ hb => hb.2), h.cap⟩
end Go.Proofs.Ytchoipmfngcdoaa.Mg
