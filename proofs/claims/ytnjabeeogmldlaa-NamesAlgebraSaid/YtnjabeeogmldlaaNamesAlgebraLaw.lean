/- NamesAlgebra: for every input it returns true, and each argument reads behind the call as it did ahead of it. No conditions. -/
import Derived.Test.YtnjabeeogmldlaaNmAlgebra
import Derived.Test.YtnjabeeogmldlaaOpen
namespace Go.Proofs.Ytnjabeeogmldlaa.namesAlgebraLaw
open Go.ChangeShapes Go.WideShapes Go.ChangeAt Go.RowKit
open Go.ChangeMaps (open_string)

theorem walk (a : Nm.St) (A : Option Addr) (n c : Nat) (b : Nm.St) (A2 : Option Addr) (n2 c2 : Nat) (z : Nm.St) (A3 : Option Addr) (n3 c3 : Nat) (q : ByteArray) (w : World) (h : Nm.In w a A n) (hc : n ≤ c) (hm : c ≤ maxLen) (hl : ∀ x ∈ a.l, x.length ≤ maxLen) (h2 : Nm.In w b A2 n2) (hc2 : n2 ≤ c2) (hm2 : c2 ≤ maxLen) (hl2 : ∀ x ∈ b.l, x.length ≤ maxLen) (h3 : Nm.In w z A3 n3) (hc3 : n3 ≤ c3) (hm3 : c3 ≤ maxLen) (hl3 : ∀ x ∈ z.l, x.length ≤ maxLen) (_ : q.size ≤ maxLen) :
    Calls Try.prog 13 #[.agg #[.bool a.all, .slice A n c], .agg #[.bool b.all, .slice A2 n2 c2], .agg #[.bool z.all, .slice A3 n3 c3], .string q] w fun e w' => e = .returned (.bool true) ∧ Below w.heap.size w w' :=
  Nm.alg_walk a b z A A2 A3 n c n2 c2 n3 c3 q w h h2 h3 hl hl2 hl3 (Nat.le_trans hc hm) (Nat.le_trans hc2 hm2) (Nat.le_trans hc3 hm3)

set_option maxRecDepth 100000 in
theorem lifted (os : Os) (started : os.Started) (H : Type) (enc : TypeId × Value → H) :
    ReturnsInHanded {} Try.checked os 13 .any (Rows.namesAlgebraSpec.pre6 enc Try.prog Try.f13 Rows.namesAlgebraRow.domain false) (Rows.namesAlgebraSpec.post enc Try.prog Try.f13 false true false false) := by
  refine returnsInHanded_of_change (C := Try.checked) own_ started (by kernel_rfl) Try.func13
    (ChangeSpec.witness6 (enc := enc) (C := Try.checked) false ⟨#[], #[.agg #[.bool false, .slice none 0 0], .agg #[.bool false, .slice none 0 0], .agg #[.bool false, .slice none 0 0], .string ⟨#[]⟩], []⟩ 8 (by kernel_rfl) (by kernel_rfl) (by kernel_rfl) (by kernel_rfl)) ?_
  intro W base args ds gs before hval0 hW hcnd _
  have hval : ∀ (j : Nat) t v, Try.f13.params[j]? = some t → args[j]? = some v → Value.okWide Try.prog W .any base t v := hval0
  have hW' := hW
  obtain ⟨p, q, hA0, hV, rfl, _, _⟩ := hW
  have hA : DataW.TrodAll enc Try.prog W 0 (fun _ => true) true Try.f13.params.toList args.toList ds p := hA0
  rw [Try.params13] at hA hval
  obtain ⟨v0, vs0, d0, ds0, p0, q0, hargs, rfl, rfl, h0, r0⟩ := trodAll_cons hA
  obtain ⟨v1, vs1, d1, ds1, p1, q1, rfl, rfl, rfl, h1, r1⟩ := trodAll_cons r0
  obtain ⟨v2, vs2, d2, ds2, p2, q2, rfl, rfl, rfl, h2, r2⟩ := trodAll_cons r1
  obtain ⟨v3, vs3, d3, ds3, p3, q3, rfl, rfl, rfl, h3, r3⟩ := trodAll_cons r2
  obtain ⟨rfl, rfl, rfl⟩ := trodAll_nil r3
  obtain rfl : args = #[v0, v1, v2, v3] := by cases args; simp_all
  obtain ⟨s0, A0, n0, c0, rfl, hs0, hnc0, hcm0, hl0⟩ := Nm.open_names (hval 0 65 v0 rfl rfl) h0
  obtain ⟨s1, A1, n1, c1, rfl, hs1, hnc1, hcm1, hl1⟩ := Nm.open_names (hval 1 65 v1 rfl rfl) h1
  obtain ⟨s2, A2, n2, c2, rfl, hs2, hnc2, hcm2, hl2⟩ := Nm.open_names (hval 2 65 v2 rfl rfl) h2
  obtain ⟨s3, rfl, rfl, rfl, hsz3⟩ := open_string Try.underlying9 (hval 3 9 v3 rfl rfl) h3
  refine (walk s0 A0 n0 c0 s1 A1 n1 c1 s2 A2 n2 c2 s3 W hs0 hnc0 hcm0 hl0 hs1 hnc1 hcm1 hl1 hs2 hnc2 hcm2 hl2 hsz3).mono fun e W' ⟨he, hb⟩ => ?_
  subst he
  exact ⟨_, rfl, law_post (tb := 4) laidOut_ (by rw [Try.params13]; exact of_decide_eq_true (by kernel_rfl)) (by kernel_rfl) Try.underlying4 rfl hW' rfl hb⟩

theorem proved : Rows.NamesAlgebraSaid :=
  OpenClaim.holds_of_wide 13 Try.f13 rfl rfl rfl rfl rfl rfl rfl ⟨rfl, rfl, rfl, rfl, rfl⟩ rfl rfl rfl rfl rfl (by kernel_rfl) Try.func13 (by kernel_rfl)
    (of_decide_eq_true (by kernel_rfl)) (by unfold Func.isWrapper; first | (rw [if_pos (by decide +kernel)]; kernel_rfl) | (rw [if_neg (by decide +kernel)]; exact ⟨rfl, rfl⟩))
    (fun os started H enc _ => lifted os started H enc)
end Go.Proofs.Ytnjabeeogmldlaa.namesAlgebraLaw
