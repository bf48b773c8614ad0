/- CommitWhole: for every input it returns true, and each argument reads behind the call as it did ahead of it. No conditions. -/
import Derived.Test.YtpaaafdnkehmfaaCmWholeW
import Derived.Test.YtpaaafdnkehmfaaOpen
namespace Go.Proofs.Ytpaaafdnkehmfaa.commitWholeLaw
open Go.ChangeShapes Go.WideShapes Go.ChangeAt Go.RowKit
open Go.ChangeMaps (open_string)

theorem walk (A : Option Addr) (n c : Nat) (l : Vf.FL) (A2 : Option Addr) (n2 c2 : Nat) (l2 : Vf.FL) (a : Int) (Ak : Option Addr) (nk ck : Nat) (kl : List Int) (As : Option Addr) (ns cs : Nat) (sl : List Int) (Ar : Option Addr) (nr cr : Nat) (rl : List Int) (w : World)
    (hF : Vf.Fr w (fun g => g < w.heap.size) A n l) (h1 : n ≤ c) (h2 : c ≤ maxLen) (hF2 : Vf.Fr w (fun g => g < w.heap.size) A2 n2 l2) (h3 : n2 ≤ c2) (h4 : c2 ≤ maxLen) (ha : (Lit.int .i64 a).wf = true)
    (hK : SeesV w w.heap.size Ak nk (kl.map (Value.int .i64)) ∧ ∀ x ∈ kl, -9223372036854775808 ≤ x ∧ x ≤ 9223372036854775807) (_ : nk ≤ ck) (_ : ck ≤ maxLen) (hS : SeesV w w.heap.size As ns (sl.map (Value.int .i64)) ∧ ∀ x ∈ sl, -9223372036854775808 ≤ x ∧ x ≤ 9223372036854775807) (_ : ns ≤ cs) (_ : cs ≤ maxLen) (hR : SeesV w w.heap.size Ar nr (rl.map (Value.int .i64)) ∧ ∀ x ∈ rl, -9223372036854775808 ≤ x ∧ x ≤ 9223372036854775807) (_ : nr ≤ cr) (_ : cr ≤ maxLen) :
    Calls Try.prog 5 #[.slice A n c, .slice A2 n2 c2, .int .i64 a, .slice Ak nk ck, .slice As ns cs, .slice Ar nr cr] w fun e w' => e = .returned (.bool true) ∧ Below w.heap.size w w' := by
  have hx : -9223372036854775808 ≤ a ∧ a ≤ 9223372036854775807 := by simpa [Lit.wf, IntKind.min, IntKind.max, IntKind.signed, IntKind.bits] using ha
  exact Vf.commitWhole_walk A n c l A2 n2 c2 l2 a Ak nk ck kl As ns cs sl Ar nr cr rl w hF (Nat.le_trans h1 h2) hF2 (Nat.le_trans h3 h4) hx hK.1 hS.1 hS.2 hR.1

set_option maxRecDepth 100000 in
theorem lifted (os : Os) (started : os.Started) (H : Type) (enc : TypeId × Value → H) :
    ReturnsInHanded {} Try.checked os 5 .any (Rows.commitWholeSpec.pre6 enc Try.prog Try.f5 Rows.commitWholeRow.domain false) (Rows.commitWholeSpec.post enc Try.prog Try.f5 false true false false) := by
  refine returnsInHanded_of_change (C := Try.checked) own_ started (by kernel_rfl) Try.func5
    (ChangeSpec.witness6 (enc := enc) (C := Try.checked) false ⟨#[], #[.slice none 0 0, .slice none 0 0, .int .i64 0, .slice none 0 0, .slice none 0 0, .slice none 0 0], []⟩ 8 (by kernel_rfl) (by kernel_rfl) (by kernel_rfl) (by kernel_rfl)) ?_
  intro W base args ds gs before hval0 hW hcnd _
  have hval : ∀ (j : Nat) t v, Try.f5.params[j]? = some t → args[j]? = some v → Value.okWide Try.prog W .any base t v := hval0
  have hW' := hW
  obtain ⟨p, q, hA0, hV, rfl, _, _⟩ := hW
  have hA : DataW.TrodAll enc Try.prog W 0 (fun _ => true) true Try.f5.params.toList args.toList ds p := hA0
  rw [Try.params5] at hA hval
  obtain ⟨v0, vs0, d0, ds0, p0, q0, hargs, rfl, rfl, h0, r0⟩ := trodAll_cons hA
  obtain ⟨v1, vs1, d1, ds1, p1, q1, rfl, rfl, rfl, h1, r1⟩ := trodAll_cons r0
  obtain ⟨v2, vs2, d2, ds2, p2, q2, rfl, rfl, rfl, h2, r2⟩ := trodAll_cons r1
  obtain ⟨v3, vs3, d3, ds3, p3, q3, rfl, rfl, rfl, h3, r3⟩ := trodAll_cons r2
  obtain ⟨v4, vs4, d4, ds4, p4, q4, rfl, rfl, rfl, h4, r4⟩ := trodAll_cons r3
  obtain ⟨v5, vs5, d5, ds5, p5, q5, rfl, rfl, rfl, h5, r5⟩ := trodAll_cons r4
  obtain ⟨rfl, rfl, rfl⟩ := trodAll_nil r5
  obtain rfl : args = #[v0, v1, v2, v3, v4, v5] := by cases args; simp_all
  obtain ⟨A0, n0, c0, l0, rfl, hs0, hnc0, hcm0⟩ := Vf.open_files (hval 0 47 v0 rfl rfl) h0
  obtain ⟨A1, n1, c1, l1, rfl, hs1, hnc1, hcm1⟩ := Vf.open_files (hval 1 47 v1 rfl rfl) h1
  obtain ⟨a2, rfl, rfl, rfl, w2⟩ := open_int Try.underlying3 (hval 2 3 v2 rfl rfl) h2
  obtain ⟨A3, n3, c3, l3, rfl, hs3, hnc3, hcm3⟩ := open_ints_ (hval 3 26 v3 rfl rfl) h3
  obtain ⟨A4, n4, c4, l4, rfl, hs4, hnc4, hcm4⟩ := open_ints_ (hval 4 26 v4 rfl rfl) h4
  obtain ⟨A5, n5, c5, l5, rfl, hs5, hnc5, hcm5⟩ := open_ints_ (hval 5 26 v5 rfl rfl) h5
  refine (walk A0 n0 c0 l0 A1 n1 c1 l1 a2 A3 n3 c3 l3 A4 n4 c4 l4 A5 n5 c5 l5 W hs0 hnc0 hcm0 hs1 hnc1 hcm1 w2 hs3 hnc3 hcm3 hs4 hnc4 hcm4 hs5 hnc5 hcm5).mono fun e W' ⟨he, hb⟩ => ?_
  subst he
  exact ⟨_, rfl, law_post (tb := 4) laidOut_ (by rw [Try.params5]; exact of_decide_eq_true (by kernel_rfl)) (by kernel_rfl) Try.underlying4 rfl hW' rfl hb⟩

theorem proved : Rows.CommitWholeSaid :=
  OpenClaim.holds_of_wide 5 Try.f5 rfl rfl rfl rfl rfl rfl rfl ⟨rfl, rfl, rfl, rfl, rfl⟩ rfl rfl rfl rfl rfl (by kernel_rfl) Try.func5 (by kernel_rfl)
    (of_decide_eq_true (by kernel_rfl)) (by unfold Func.isWrapper; first | (rw [if_pos (by decide +kernel)]; kernel_rfl) | (rw [if_neg (by decide +kernel)]; exact ⟨rfl, rfl⟩))
    (fun os started H enc _ => lifted os started H enc)
end Go.Proofs.Ytpaaafdnkehmfaa.commitWholeLaw
