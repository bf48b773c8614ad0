/- MergeGone: for every input it returns true, and each argument reads behind the call as it did ahead of it. No conditions. -/
import Derived.Test.YtchoipmfngcdoaaMgGoneW
import Derived.Test.YtchoipmfngcdoaaMwTSame
import Derived.Test.YtchoipmfngcdoaaMwLists
import Derived.Test.YtchoipmfngcdoaaMwWords
import Derived.SizedLaws
namespace Go.Proofs.Ytchoipmfngcdoaa.mergeGoneLaw
open Go.ChangeShapes Go.WideShapes Go.ChangeAt Go.RowKit
open Go.ChangeMaps (open_string)

theorem walk (A : Option Addr) (n c : Nat) (r : Tr) (A2 : Option Addr) (n2 c2 : Nat) (s : Tr) (left : Bool) (w : World) (h : Holds w w.heap.size A n r) (hc : n ≤ c) (hm : c ≤ maxLen) (hr : r.len ≤ 140737488351232 ∧ r.Fit) (h2 : Holds w w.heap.size A2 n2 s) (hc2 : n2 ≤ c2) (hm2 : c2 ≤ maxLen) (hs : s.len ≤ 140737488351232 ∧ s.Fit) :
    Calls Try.prog 6 #[.slice A n c, .slice A2 n2 c2, .bool left] w fun e w' => e = .returned (.bool true) ∧ Below w.heap.size w w' :=
  Mg.gone_walk r s left A A2 n n2 c c2 w h h2 hc hm hc2 hm2 hr hs

set_option maxRecDepth 100000 in
theorem lifted (os : Os) (started : os.Started) (H : Type) (enc : TypeId × Value → H) :
    ReturnsInHanded {} Try.checked os 6 .any (Rows.mergeGoneSpec.pre6 enc Try.prog Try.f6 Rows.mergeGoneRow.domain false) (Rows.mergeGoneSpec.post enc Try.prog Try.f6 false true false false) := by
  refine returnsInHanded_of_change_sized (C := Try.checked) own_ started (by kernel_rfl) Try.func6
    (ChangeSpec.witness6 (enc := enc) (C := Try.checked) false ⟨#[], #[.slice none 0 0, .slice none 0 0, .bool false], []⟩ 8 (by kernel_rfl) (by kernel_rfl) (by kernel_rfl) (by kernel_rfl)) ?_
  intro W base args ds gs before hval0 hW hcnd hweigh _
  have hval : ∀ (j : Nat) t v, Try.f6.params[j]? = some t → args[j]? = some v → Value.okWide Try.prog W .any base t v := hval0
  have hW' := hW
  obtain ⟨p, q, hA0, hV, rfl, _, _⟩ := hW
  have hA : DataW.TrodAll enc Try.prog W 0 (fun _ => true) true Try.f6.params.toList args.toList ds p := hA0
  rw [Try.params6] at hA hval
  obtain ⟨v0, vs0, d0, ds0, p0, q0, hargs, rfl, rfl, h0, r0⟩ := trodAll_cons hA
  obtain ⟨v1, vs1, d1, ds1, p1, q1, rfl, rfl, rfl, h1, r1⟩ := trodAll_cons r0
  obtain ⟨v2, vs2, d2, ds2, p2, q2, rfl, rfl, rfl, h2, r2⟩ := trodAll_cons r1
  obtain ⟨rfl, rfl, rfl⟩ := trodAll_nil r2
  obtain rfl : args = #[v0, v1, v2] := by cases args; simp_all
  obtain ⟨A0, n0, c0, t0, rfl, hh0, hw0, hnc0, hcm0⟩ := open_raws (hval 0 40 v0 rfl rfl) h0
  obtain ⟨A1, n1, c1, t1, rfl, hh1, hw1, hnc1, hcm1⟩ := open_raws (hval 1 40 v1 rfl rfl) h1
  obtain ⟨a2, rfl, rfl, rfl⟩ := open_bool Try.underlying4 (hval 2 4 v2 rfl rfl) h2
  have hre0 := hw0 (fun m hm => (of_decide_eq_true (List.all_eq_true.1 hweigh m (DataW.weights_mem_each (j := 0) (t := 40) (d := d0) (by rw [Try.params6]; rfl) (by rfl) m hm)) : m ≤ reachBytes))
  have hre1 := hw1 (fun m hm => (of_decide_eq_true (List.all_eq_true.1 hweigh m (DataW.weights_mem_each (j := 1) (t := 40) (d := d1) (by rw [Try.params6]; rfl) (by rfl) m hm)) : m ≤ reachBytes))
  refine (walk A0 n0 c0 t0 A1 n1 c1 t1 a2 W hh0 hnc0 hcm0 hre0 hh1 hnc1 hcm1 hre1).mono fun e W' ⟨he, hb⟩ => ?_
  subst he
  exact ⟨_, rfl, law_post (tb := 4) laidOut_ (by rw [Try.params6]; exact of_decide_eq_true (by kernel_rfl)) (by kernel_rfl) Try.underlying4 rfl hW' rfl hb⟩

theorem proved : Rows.MergeGoneSaid :=
  OpenClaim.holds_of_wide 6 Try.f6 rfl rfl rfl rfl rfl rfl rfl ⟨rfl, rfl, rfl, rfl, rfl⟩ rfl rfl rfl rfl rfl (by kernel_rfl) Try.func6 (by kernel_rfl)
    (of_decide_eq_true (by kernel_rfl)) (by unfold Func.isWrapper; first | (rw [if_pos (by decide +kernel)]; kernel_rfl) | (rw [if_neg (by decide +kernel)]; exact ⟨rfl, rfl⟩))
    (fun os started H enc _ => lifted os started H enc)
end Go.Proofs.Ytchoipmfngcdoaa.mergeGoneLaw
