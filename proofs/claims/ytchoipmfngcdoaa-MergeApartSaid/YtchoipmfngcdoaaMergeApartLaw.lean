/- MergeApart: for every input it returns true, and each argument reads behind the call as it did ahead of it. No conditions. -/
import Derived.Test.YtchoipmfngcdoaaMgApartW
import Derived.Test.YtchoipmfngcdoaaMwTSame
import Derived.Test.YtchoipmfngcdoaaMwLists
import Derived.Test.YtchoipmfngcdoaaMwWords
import Derived.SizedLaws
namespace Go.Proofs.Ytchoipmfngcdoaa.mergeApartLaw
open Go.ChangeShapes Go.WideShapes Go.ChangeAt Go.RowKit
open Go.ChangeMaps (open_string)

theorem walk (A : Option Addr) (n c : Nat) (o : Tr) (A2 : Option Addr) (n2 c2 : Nat) (a : Tr) (A3 : Option Addr) (n3 c3 : Nat) (b : Tr) (A4 : Option Addr) (n4 c4 : Nat) (l : List Int) (w : World) (h : Holds w w.heap.size A n o) (hc : n ≤ c) (hm : c ≤ maxLen) (hr : o.len ≤ 140737488351232 ∧ o.Fit) (h2 : Holds w w.heap.size A2 n2 a) (hc2 : n2 ≤ c2) (hm2 : c2 ≤ maxLen) (hr2 : a.len ≤ 140737488351232 ∧ a.Fit) (h3 : Holds w w.heap.size A3 n3 b) (hc3 : n3 ≤ c3) (hm3 : c3 ≤ maxLen) (hr3 : b.len ≤ 140737488351232 ∧ b.Fit) (h4 : SeesV w w.heap.size A4 n4 (l.map (Value.int .i64)) ∧ ∀ x ∈ l, -9223372036854775808 ≤ x ∧ x ≤ 9223372036854775807) (_ : n4 ≤ c4) (_ : c4 ≤ maxLen) :
    Calls Try.prog 4 #[.slice A n c, .slice A2 n2 c2, .slice A3 n3 c3, .slice A4 n4 c4] w fun e w' => e = .returned (.bool true) ∧ Below w.heap.size w w' :=
  Mg.apart_walk o a b l A A2 A3 A4 n n2 n3 n4 c c2 c3 c4 w h hc hm hr h2 hc2 hm2 hr2 h3 hc3 hm3 hr3 h4

set_option maxRecDepth 100000 in
theorem lifted (os : Os) (started : os.Started) (H : Type) (enc : TypeId × Value → H) :
    ReturnsInHanded {} Try.checked os 4 .any (Rows.mergeApartSpec.pre6 enc Try.prog Try.f4 Rows.mergeApartRow.domain false) (Rows.mergeApartSpec.post enc Try.prog Try.f4 false true false false) := by
  refine returnsInHanded_of_change_sized (C := Try.checked) own_ started (by kernel_rfl) Try.func4
    (ChangeSpec.witness6 (enc := enc) (C := Try.checked) false ⟨#[], #[.slice none 0 0, .slice none 0 0, .slice none 0 0, .slice none 0 0], []⟩ 8 (by kernel_rfl) (by kernel_rfl) (by kernel_rfl) (by kernel_rfl)) ?_
  intro W base args ds gs before hval0 hW hcnd hweigh _
  have hval : ∀ (j : Nat) t v, Try.f4.params[j]? = some t → args[j]? = some v → Value.okWide Try.prog W .any base t v := hval0
  have hW' := hW
  obtain ⟨p, q, hA0, hV, rfl, _, _⟩ := hW
  have hA : DataW.TrodAll enc Try.prog W 0 (fun _ => true) true Try.f4.params.toList args.toList ds p := hA0
  rw [Try.params4] at hA hval
  obtain ⟨v0, vs0, d0, ds0, p0, q0, hargs, rfl, rfl, h0, r0⟩ := trodAll_cons hA
  obtain ⟨v1, vs1, d1, ds1, p1, q1, rfl, rfl, rfl, h1, r1⟩ := trodAll_cons r0
  obtain ⟨v2, vs2, d2, ds2, p2, q2, rfl, rfl, rfl, h2, r2⟩ := trodAll_cons r1
  obtain ⟨v3, vs3, d3, ds3, p3, q3, rfl, rfl, rfl, h3, r3⟩ := trodAll_cons r2
  obtain ⟨rfl, rfl, rfl⟩ := trodAll_nil r3
  obtain rfl : args = #[v0, v1, v2, v3] := by cases args; simp_all
  obtain ⟨A0, n0, c0, t0, rfl, hh0, hw0, hnc0, hcm0⟩ := open_raws (hval 0 40 v0 rfl rfl) h0
  obtain ⟨A1, n1, c1, t1, rfl, hh1, hw1, hnc1, hcm1⟩ := open_raws (hval 1 40 v1 rfl rfl) h1
  obtain ⟨A2, n2, c2, t2, rfl, hh2, hw2, hnc2, hcm2⟩ := open_raws (hval 2 40 v2 rfl rfl) h2
  obtain ⟨A3, n3, c3, l3, rfl, hs3, hnc3, hcm3⟩ := open_ints_ (hval 3 41 v3 rfl rfl) h3
  have hre0 := hw0 (fun m hm => (of_decide_eq_true (List.all_eq_true.1 hweigh m (DataW.weights_mem_each (j := 0) (t := 40) (d := d0) (by rw [Try.params4]; rfl) (by rfl) m hm)) : m ≤ reachBytes))
  have hre1 := hw1 (fun m hm => (of_decide_eq_true (List.all_eq_true.1 hweigh m (DataW.weights_mem_each (j := 1) (t := 40) (d := d1) (by rw [Try.params4]; rfl) (by rfl) m hm)) : m ≤ reachBytes))
  have hre2 := hw2 (fun m hm => (of_decide_eq_true (List.all_eq_true.1 hweigh m (DataW.weights_mem_each (j := 2) (t := 40) (d := d2) (by rw [Try.params4]; rfl) (by rfl) m hm)) : m ≤ reachBytes))
  refine (walk A0 n0 c0 t0 A1 n1 c1 t1 A2 n2 c2 t2 A3 n3 c3 l3 W hh0 hnc0 hcm0 hre0 hh1 hnc1 hcm1 hre1 hh2 hnc2 hcm2 hre2 hs3 hnc3 hcm3).mono fun e W' ⟨he, hb⟩ => ?_
  subst he
  exact ⟨_, rfl, law_post (tb := 4) laidOut_ (by rw [Try.params4]; exact of_decide_eq_true (by kernel_rfl)) (by kernel_rfl) Try.underlying4 rfl hW' rfl hb⟩

theorem proved : Rows.MergeApartSaid :=
  OpenClaim.holds_of_wide 4 Try.f4 rfl rfl rfl rfl rfl rfl rfl ⟨rfl, rfl, rfl, rfl, rfl⟩ rfl rfl rfl rfl rfl (by kernel_rfl) Try.func4 (by kernel_rfl)
    (of_decide_eq_true (by kernel_rfl)) (by unfold Func.isWrapper; first | (rw [if_pos (by decide +kernel)]; kernel_rfl) | (rw [if_neg (by decide +kernel)]; exact ⟨rfl, rfl⟩))
    (fun os started H enc _ => lifted os started H enc)
end Go.Proofs.Ytchoipmfngcdoaa.mergeApartLaw
