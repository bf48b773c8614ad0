/- LinesParts: for every input it returns true, and each argument reads behind the call as it did ahead of it. No conditions. -/
import Derived.Test.YtcnadiddgllejaaLiPartsW
import Derived.Test.YtcnadiddgllejaaLists
import Derived.Test.YtcnadiddgllejaaOpen
import Derived.SizedLaws
namespace Go.Proofs.Ytcnadiddgllejaa.linesPartsLaw
open Go.ChangeShapes Go.WideShapes Go.ChangeAt Go.RowKit
open Go.ChangeMaps (open_string)

theorem walk (A : Option Addr) (n c : Nat) (l : List Int) (a : Int) (r : ByteArray) (w : World) (h : SeesV w w.heap.size A n (l.map (Value.int .i64)) ∧ ∀ x ∈ l, -9223372036854775808 ≤ x ∧ x ≤ 9223372036854775807) (hc : n ≤ c) (hm : c ≤ maxLen) (wf : (Lit.int .i64 a).wf = true) (hrs : r.data.toList.length ≤ reachBytes) :
    Calls Try.prog 4 #[.slice A n c, .int .i64 a, .string r] w fun e w' => e = .returned (.bool true) ∧ Below w.heap.size w w' :=
  Li.parts_walk A n c l a r w h.1 h.2 hc hm (by simpa [Lit.wf, IntKind.min, IntKind.max, IntKind.signed, IntKind.bits] using wf) (by
    have h1 : r.data.toList.length = r.size := Array.length_toList
    have h2 : reachBytes = 140737488351232 := by decide
    omega)

set_option maxRecDepth 100000 in
theorem lifted (os : Os) (started : os.Started) (H : Type) (enc : TypeId × Value → H) :
    ReturnsInHanded {} Try.checked os 4 .any (Rows.linesPartsSpec.pre6 enc Try.prog Try.f4 Rows.linesPartsRow.domain false) (Rows.linesPartsSpec.post enc Try.prog Try.f4 false true false false) := by
  refine returnsInHanded_of_change_sized (C := Try.checked) own_ started (by kernel_rfl) Try.func4
    (ChangeSpec.witness6 (enc := enc) (C := Try.checked) false ⟨#[], #[.slice none 0 0, .int .i64 0, .string ⟨#[]⟩], []⟩ 8 (by kernel_rfl) (by kernel_rfl) (by kernel_rfl) (by kernel_rfl)) ?_
  intro W base args ds gs before hval0 hW hcnd hweigh _
  have hval : ∀ (j : Nat) t v, Try.f4.params[j]? = some t → args[j]? = some v → Value.okWide Try.prog W .any base t v := hval0
  have hW' := hW
  obtain ⟨p, q, hA0, hV, rfl, _, _⟩ := hW
  have hA : DataW.TrodAll enc Try.prog W 0 (fun _ => true) true Try.f4.params.toList args.toList ds p := hA0
  rw [Try.params4] at hA hval
  obtain ⟨v0, vs0, d0, ds0, p0, q0, hargs, rfl, rfl, h0, r0⟩ := trodAll_cons hA
  obtain ⟨v1, vs1, d1, ds1, p1, q1, rfl, rfl, rfl, h1, r1⟩ := trodAll_cons r0
  obtain ⟨v2, vs2, d2, ds2, p2, q2, rfl, rfl, rfl, h2, r2⟩ := trodAll_cons r1
  obtain ⟨rfl, rfl, rfl⟩ := trodAll_nil r2
  obtain rfl : args = #[v0, v1, v2] := by cases args; simp_all
  obtain ⟨A0, n0, c0, l0, rfl, hs0, hnc0, hcm0⟩ := open_ints_ (hval 0 22 v0 rfl rfl) h0
  obtain ⟨a1, rfl, rfl, rfl, w1⟩ := open_int Try.underlying3 (hval 1 3 v1 rfl rfl) h1
  obtain ⟨s2, rfl, rfl, rfl, hsz2⟩ := open_string Try.underlying9 (hval 2 9 v2 rfl rfl) h2
  have hre2 := sized_string hweigh (j := 2) (t := 9) (by rw [Try.params4]; rfl) (by rfl)
  refine (walk A0 n0 c0 l0 a1 s2 W hs0 hnc0 hcm0 w1 hre2).mono fun e W' ⟨he, hb⟩ => ?_
  subst he
  exact ⟨_, rfl, law_post (tb := 4) laidOut_ (by rw [Try.params4]; exact of_decide_eq_true (by kernel_rfl)) (by kernel_rfl) Try.underlying4 rfl hW' rfl hb⟩

theorem proved : Rows.LinesPartsSaid :=
  OpenClaim.holds_of_wide 4 Try.f4 rfl rfl rfl rfl rfl rfl rfl ⟨rfl, rfl, rfl, rfl, rfl⟩ rfl rfl rfl rfl rfl (by kernel_rfl) Try.func4 (by kernel_rfl)
    (of_decide_eq_true (by kernel_rfl)) (by unfold Func.isWrapper; first | (rw [if_pos (by decide +kernel)]; kernel_rfl) | (rw [if_neg (by decide +kernel)]; exact ⟨rfl, rfl⟩))
    (fun os started H enc _ => lifted os started H enc)
end Go.Proofs.Ytcnadiddgllejaa.linesPartsLaw
