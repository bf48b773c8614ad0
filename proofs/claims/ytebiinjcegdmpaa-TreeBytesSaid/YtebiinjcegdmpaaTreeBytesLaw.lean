/- TreeBytes: for every input it returns true, and each argument reads behind the call as it did ahead of it. No conditions. -/
import Derived.Test.YtebiinjcegdmpaaTyW
import Derived.Test.YtebiinjcegdmpaaOpen
import Derived.SizedLaws
namespace Go.Proofs.Ytebiinjcegdmpaa.treeBytesLaw
open Go.ChangeShapes Go.WideShapes Go.ChangeAt Go.RowKit
open Go.ChangeMaps (open_string)

theorem walk (A0 : Option Addr) (n0 c0 : Nat) (t0 : Tr) (A1 : Option Addr) (n1 c1 : Nat) (l1 : List Int) (A2 : Option Addr) (n2 c2 : Nat) (l2 : List UInt8) (a3 : Int) (A4 : Option Addr) (n4 c4 : Nat) (l4 : List UInt8) (w : World) (h0 : Holds w w.heap.size A0 n0 t0) (hc0 : n0 ≤ c0) (hm0 : c0 ≤ maxLen) (hr0 : t0.len ≤ 140737488351232 ∧ t0.Fit) (hs1 : SeesV w w.heap.size A1 n1 (l1.map (Value.int .i64)) ∧ ∀ x ∈ l1, -9223372036854775808 ≤ x ∧ x ≤ 9223372036854775807) (_ : n1 ≤ c1) (_ : c1 ≤ maxLen) (hs2 : Sees w w.heap.size A2 n2 l2) (_ : n2 ≤ c2) (_ : c2 ≤ maxLen) (w3 : (Lit.int .i64 a3).wf = true) (hs4 : Sees w w.heap.size A4 n4 l4) (hc4 : n4 ≤ c4) (hm4 : c4 ≤ maxLen) :
    Calls Try.prog 3 #[.slice A0 n0 c0, .slice A1 n1 c1, .slice A2 n2 c2, .int .i64 a3, .slice A4 n4 c4] w fun e w' => e = .returned (.bool true) ∧ Below w.heap.size w w' :=
  Ps.treeBytes_walk t0 A0 n0 c0 A1 n1 c1 l1 A2 n2 c2 l2 a3 A4 n4 c4 l4 w h0 hc0 hm0 hr0 hs1 hs2 w3 hs4 hc4 hm4

set_option maxRecDepth 100000 in
theorem lifted (os : Os) (started : os.Started) (H : Type) (enc : TypeId × Value → H) :
    ReturnsInHanded {} Try.checked os 3 .any (Rows.treeBytesSpec.pre6 enc Try.prog Try.f3 Rows.treeBytesRow.domain false) (Rows.treeBytesSpec.post enc Try.prog Try.f3 false true false false) := by
  refine returnsInHanded_of_change_sized (C := Try.checked) own_ started (by kernel_rfl) Try.func3
    (ChangeSpec.witness6 (enc := enc) (C := Try.checked) false ⟨#[], #[.slice none 0 0, .slice none 0 0, .slice none 0 0, .int .i64 0, .slice none 0 0], []⟩ 8 (by kernel_rfl) (by kernel_rfl) (by kernel_rfl) (by kernel_rfl)) ?_
  intro W base args ds gs before hval0 hW hcnd hweigh _
  have hval : ∀ (j : Nat) t v, Try.f3.params[j]? = some t → args[j]? = some v → Value.okWide Try.prog W .any base t v := hval0
  have hW' := hW
  obtain ⟨p, q, hA0, hV, rfl, _, _⟩ := hW
  have hA : DataW.TrodAll enc Try.prog W 0 (fun _ => true) true Try.f3.params.toList args.toList ds p := hA0
  rw [Try.params3] at hA hval
  obtain ⟨v0, vs0, d0, ds0, p0, q0, hargs, rfl, rfl, h0, r0⟩ := trodAll_cons hA
  obtain ⟨v1, vs1, d1, ds1, p1, q1, rfl, rfl, rfl, h1, r1⟩ := trodAll_cons r0
  obtain ⟨v2, vs2, d2, ds2, p2, q2, rfl, rfl, rfl, h2, r2⟩ := trodAll_cons r1
  obtain ⟨v3, vs3, d3, ds3, p3, q3, rfl, rfl, rfl, h3, r3⟩ := trodAll_cons r2
  obtain ⟨v4, vs4, d4, ds4, p4, q4, rfl, rfl, rfl, h4, r4⟩ := trodAll_cons r3
  obtain ⟨rfl, rfl, rfl⟩ := trodAll_nil r4
  obtain rfl : args = #[v0, v1, v2, v3, v4] := by cases args; simp_all
  obtain ⟨A0, n0, c0, t0, rfl, hh0, hw0, hnc0, hcm0⟩ := open_raws (hval 0 22 v0 rfl rfl) h0
  obtain ⟨A1, n1, c1, l1, rfl, hs1, hnc1, hcm1⟩ := open_ints_ (hval 1 23 v1 rfl rfl) h1
  obtain ⟨A2, n2, c2, l2, rfl, hs2, hnc2, hcm2⟩ := open_bytes (hval 2 24 v2 rfl rfl) h2
  obtain ⟨a3, rfl, rfl, rfl, w3⟩ := open_int Try.underlying3 (hval 3 3 v3 rfl rfl) h3
  obtain ⟨A4, n4, c4, l4, rfl, hs4, hnc4, hcm4⟩ := open_bytes (hval 4 24 v4 rfl rfl) h4
  have hre0 := hw0 (fun m hm => (of_decide_eq_true (List.all_eq_true.1 hweigh m (DataW.weights_mem_each (j := 0) (t := 22) (d := d0) (by rw [Try.params3]; rfl) (by rfl) m hm)) : m ≤ reachBytes))
  refine (walk A0 n0 c0 t0 A1 n1 c1 l1 A2 n2 c2 l2 a3 A4 n4 c4 l4 W hh0 hnc0 hcm0 hre0 hs1 hnc1 hcm1 hs2 hnc2 hcm2 w3 hs4 hnc4 hcm4).mono fun e W' ⟨he, hb⟩ => ?_
  subst he
  exact ⟨_, rfl, law_post (tb := 4) laidOut_ (by rw [Try.params3]; exact of_decide_eq_true (by kernel_rfl)) (by kernel_rfl) Try.underlying4 rfl hW' rfl hb⟩

theorem proved : Rows.TreeBytesSaid :=
  OpenClaim.holds_of_wide 3 Try.f3 rfl rfl rfl rfl rfl rfl rfl ⟨rfl, rfl, rfl, rfl, rfl⟩ rfl rfl rfl rfl rfl (by kernel_rfl) Try.func3 (by kernel_rfl)
    (of_decide_eq_true (by kernel_rfl)) (by unfold Func.isWrapper; first | (rw [if_pos (by decide +kernel)]; kernel_rfl) | (rw [if_neg (by decide +kernel)]; exact ⟨rfl, rfl⟩))
    (fun os started H enc _ => lifted os started H enc)
end Go.Proofs.Ytebiinjcegdmpaa.treeBytesLaw
