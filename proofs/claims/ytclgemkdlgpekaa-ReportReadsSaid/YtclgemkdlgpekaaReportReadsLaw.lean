/- ReportReads: for every input it returns true, and each argument reads behind the call as it did ahead of it. No conditions. -/
import Derived.Test.YtclgemkdlgpekaaReReadsW
import Derived.Test.YtclgemkdlgpekaaLists
import Derived.Test.YtclgemkdlgpekaaOpen
namespace Go.Proofs.Ytclgemkdlgpekaa.reportReadsLaw
open Go.ChangeShapes Go.WideShapes Go.ChangeAt Go.RowKit
open Go.ChangeMaps (open_string)

theorem walk (A : Option Addr) (n c : Nat) (p : List ByteArray) (a by_ wd : Int) (raw : ByteArray) (w : World) (h : SeesV w w.heap.size A n (p.map Value.string) ∧ ∀ x ∈ p, x.size ≤ maxLen) (hc : n ≤ c) (hm : c ≤ maxLen) (ha : (Lit.int .i64 a).wf = true) (hb : (Lit.int .u8 by_).wf = true) (hw : (Lit.int .i64 wd).wf = true) (_ : raw.size ≤ maxLen) :
    Calls Try.prog 4 #[.slice A n c, .int .i64 a, .int .u8 by_, .int .i64 wd, .string raw] w fun e w' => e = .returned (.bool true) ∧ Below w.heap.size w w' :=
  Re.reads_walk p a by_ wd raw A n c w h.1 hc hm ha hb hw

set_option maxRecDepth 100000 in
theorem lifted (os : Os) (started : os.Started) (H : Type) (enc : TypeId × Value → H) :
    ReturnsInHanded {} Try.checked os 4 .any (Rows.reportReadsSpec.pre6 enc Try.prog Try.f4 Rows.reportReadsRow.domain false) (Rows.reportReadsSpec.post enc Try.prog Try.f4 false true false false) := by
  refine returnsInHanded_of_change (C := Try.checked) own_ started (by kernel_rfl) Try.func4
    (ChangeSpec.witness6 (enc := enc) (C := Try.checked) false ⟨#[], #[.slice none 0 0, .int .i64 0, .int .u8 0, .int .i64 0, .string ⟨#[]⟩], []⟩ 8 (by kernel_rfl) (by kernel_rfl) (by kernel_rfl) (by kernel_rfl)) ?_
  intro W base args ds gs before hval0 hW hcnd _
  have hval : ∀ (j : Nat) t v, Try.f4.params[j]? = some t → args[j]? = some v → Value.okWide Try.prog W .any base t v := hval0
  have hW' := hW
  obtain ⟨p, q, hA0, hV, rfl, _, _⟩ := hW
  have hA : DataW.TrodAll enc Try.prog W 0 (fun _ => true) true Try.f4.params.toList args.toList ds p := hA0
  rw [Try.params4] at hA hval
  obtain ⟨v0, vs0, d0, ds0, p0, q0, hargs, rfl, rfl, h0, r0⟩ := trodAll_cons hA
  obtain ⟨v1, vs1, d1, ds1, p1, q1, rfl, rfl, rfl, h1, r1⟩ := trodAll_cons r0
  obtain ⟨v2, vs2, d2, ds2, p2, q2, rfl, rfl, rfl, h2, r2⟩ := trodAll_cons r1
  obtain ⟨v3, vs3, d3, ds3, p3, q3, rfl, rfl, rfl, h3, r3⟩ := trodAll_cons r2
  obtain ⟨v4, vs4, d4, ds4, p4, q4, rfl, rfl, rfl, h4, r4⟩ := trodAll_cons r3
  obtain ⟨rfl, rfl, rfl⟩ := trodAll_nil r4
  obtain rfl : args = #[v0, v1, v2, v3, v4] := by cases args; simp_all
  obtain ⟨A0, n0, c0, l0, rfl, hs0, hnc0, hcm0⟩ := open_strs_ (hval 0 22 v0 rfl rfl) h0
  obtain ⟨a1, rfl, rfl, rfl, w1⟩ := open_int Try.underlying3 (hval 1 3 v1 rfl rfl) h1
  obtain ⟨a2, rfl, rfl, rfl, w2⟩ := open_int Try.underlying5 (hval 2 5 v2 rfl rfl) h2
  obtain ⟨a3, rfl, rfl, rfl, w3⟩ := open_int Try.underlying3 (hval 3 3 v3 rfl rfl) h3
  obtain ⟨s4, rfl, rfl, rfl, hsz4⟩ := open_string Try.underlying9 (hval 4 9 v4 rfl rfl) h4
  refine (walk A0 n0 c0 l0 a1 a2 a3 s4 W hs0 hnc0 hcm0 w1 w2 w3 hsz4).mono fun e W' ⟨he, hb⟩ => ?_
  subst he
  exact ⟨_, rfl, law_post (tb := 4) laidOut_ (by rw [Try.params4]; exact of_decide_eq_true (by kernel_rfl)) (by kernel_rfl) Try.underlying4 rfl hW' rfl hb⟩

theorem proved : Rows.ReportReadsSaid :=
  OpenClaim.holds_of_wide 4 Try.f4 rfl rfl rfl rfl rfl rfl rfl ⟨rfl, rfl, rfl, rfl, rfl⟩ rfl rfl rfl rfl rfl (by kernel_rfl) Try.func4 (by kernel_rfl)
    (of_decide_eq_true (by kernel_rfl)) (by unfold Func.isWrapper; first | (rw [if_pos (by decide +kernel)]; kernel_rfl) | (rw [if_neg (by decide +kernel)]; exact ⟨rfl, rfl⟩))
    (fun os started H enc _ => lifted os started H enc)
end Go.Proofs.Ytclgemkdlgpekaa.reportReadsLaw
