/- IniPuts: for every input it returns true, and each argument reads behind the call as it did ahead of it; the card, tied. Conditions: those of the row: its listed variables hold what the program's text lays. -/
import Derived.Test.YtapgaglkkgbgkaaGreatDoorInPutsW
import Derived.Test.YtapgaglkkgbgkaaGreatDoorMwLists
import Derived.Test.YtapgaglkkgbgkaaGreatDoorMwRQuote
import Derived.Test.YtapgaglkkgbgkaaGreatDoorMwWords
import Derived.Test.YtapgaglkkgbgkaaGreatDoorTie
import Derived.Test.YtapgaglkkgbgkaaGreatDoorCards
import Derived.OpenShut
import Derived.LaidMore
import Derived.Lay
import Derived.SevenTiedAt
import Derived.Stop.Joined
namespace Go.Proofs.YtapgaglkkgbgkaaGreatDoor.iniPutsLaw
open Go.ChangeShapes Go.WideShapes Go.ChangeAt Go.RowKit
open Go.ChangeMaps (open_string)

theorem lim {a : Int} (h : (Lit.int .i64 a).wf = true) : -9223372036854775808 ≤ a ∧ a ≤ 9223372036854775807 := by simpa [Lit.wf, IntKind.min, IntKind.max, IntKind.signed, IntKind.bits] using h
theorem lim8 {a : Int} (h : (Lit.int .u8 a).wf = true) : 0 ≤ a ∧ a ≤ 255 := by simpa [Lit.wf, IntKind.min, IntKind.max, IntKind.signed, IntKind.bits] using h
set_option maxRecDepth 100000 in
theorem lifted (os : Os) (started : os.Started) (H : Type) (enc : TypeId × Value → H) :
    ReturnsInHanded {} Tryz.checked os 4 .any (fun w args => (Rows.iniPutsSpec.pre enc Tryz.prog Tryz.f4 Rows.iniPutsRow.domain false w args ∧ laidMetH Tryz.prog Rows.iniPutsRow.laid w) ∧ sizedMet enc Tryz.prog Tryz.f4 (OpenSpec.ofChange Rows.iniPutsSpec) false w args) (Rows.iniPutsSpec.post enc Tryz.prog Tryz.f4 false true false false) := by
  refine In.of_shape_sized (C := Tryz.checked) (X := fun w => laidMetH Tryz.prog Rows.iniPutsRow.laid w) own_ started (by kernel_rfl) Tryz.func4
    (ChangeSpec.witness_shaped (enc := enc) (C := Tryz.checked) (os := os) (X := fun w _ => laidMetH Tryz.prog Rows.iniPutsRow.laid w) false (World.laidAll Tryz.prog os Rows.iniPutsRow.laid) #[.slice none 0 0, .slice none 0 0, .slice none 0 0, .int .i64 0, .int .u8 0] 8 (World.laidAll_os _ _ _)
      (World.shaped_of_ZipB (by kernel_rfl) (by kernel_rfl)) (by kernel_rfl) (by kernel_rfl) (by kernel_rfl)
      (by rw [MakeChecks.laidMetH_plain _ _ _ (by kernel_rfl)]; exact laidMet_laidAll _ (by kernel_rfl) (by kernel_rfl))) ?_
  intro W base args ds gs before hval0 hW hsh hsz
  have hval : ∀ (j : Nat) t v, Tryz.f4.params[j]? = some t → args[j]? = some v → Value.okWide Tryz.prog W .any base t v := hval0
  have hW' := hW
  obtain ⟨p, q, hA0, hV, rfl, _, _⟩ := hW
  have hA : DataW.TrodAll enc Tryz.prog W 0 (fun _ => true) true Tryz.f4.params.toList args.toList ds p := hA0
  rw [Tryz.params4] at hA hval
  obtain ⟨v0, vs0, d0, ds0, p0, q0, hargs, rfl, rfl, h0, r0⟩ := trodAll_cons hA
  obtain ⟨v1, vs1, d1, ds1, p1, q1, rfl, rfl, rfl, h1, r1⟩ := trodAll_cons r0
  obtain ⟨v2, vs2, d2, ds2, p2, q2, rfl, rfl, rfl, h2, r2⟩ := trodAll_cons r1
  obtain ⟨v3, vs3, d3, ds3, p3, q3, rfl, rfl, rfl, h3, r3⟩ := trodAll_cons r2
  obtain ⟨v4, vs4, d4, ds4, p4, q4, rfl, rfl, rfl, h4, r4⟩ := trodAll_cons r3
  obtain ⟨rfl, rfl, rfl⟩ := trodAll_nil r4
  obtain rfl : args = #[v0, v1, v2, v3, v4] := by cases args; simp_all
  obtain ⟨A0, n0, c0, l0, rfl, hs0, hnc0, hcm0⟩ := open_ints_ (hval 0 22 v0 rfl rfl) h0
  obtain ⟨A1, n1, c1, l1, rfl, hs1, hnc1, hcm1⟩ := open_ints_ (hval 1 22 v1 rfl rfl) h1
  obtain ⟨A2, n2, c2, t2, rfl, hh2, hw2, hnc2, hcm2⟩ := open_raws (hval 2 38 v2 rfl rfl) h2
  obtain ⟨a3, rfl, rfl, rfl, w3⟩ := open_int Tryz.underlying3 (hval 3 3 v3 rfl rfl) h3
  obtain ⟨a4, rfl, rfl, rfl, w4⟩ := open_int Tryz.underlying5 (hval 4 5 v4 rfl rfl) h4
  obtain ⟨ts, hweigh⟩ := hsz
  have hre2 := hw2 (fun m hm => (of_decide_eq_true (List.all_eq_true.1 hweigh m (DataW.weights_mem_each (j := 2) (t := 38) (d := d2) (by rw [Tryz.params4]; rfl) (by rfl) m hm)) : m ≤ reachBytes))
  refine (In.puts_walk A0 n0 c0 l0 A1 n1 c1 l1 A2 n2 c2 t2 a3 a4 W hs0.1 hs0.2 hnc0 hcm0 hs1.1 hs1.2 hnc1 hcm1 hh2 hnc2 hcm2 hre2 (lim w3) (lim8 w4) (Cv.gl_of hsh)).mono fun e W' ⟨he, hb⟩ => ?_
  subst he
  exact ⟨_, rfl, law_post (tb := 4) laidOut_ (by rw [Tryz.params4]; exact of_decide_eq_true (by kernel_rfl)) (by kernel_rfl) Tryz.underlying4 rfl hW' rfl hb⟩

theorem holds : Rows.IniPutsSaid :=
  OpenClaim.holds_of_wide 4 Tryz.f4 rfl rfl rfl rfl rfl rfl rfl ⟨rfl, rfl, rfl, rfl, rfl⟩ rfl rfl rfl rfl rfl (by kernel_rfl) Tryz.func4 (by kernel_rfl)
    (of_decide_eq_true (by kernel_rfl)) (by unfold Func.isWrapper; first | (rw [if_pos (by decide +kernel)]; kernel_rfl) | (rw [if_neg (by decide +kernel)]; exact ⟨rfl, rfl⟩))
    (fun os started H enc _ => lifted os started H enc)
theorem proved : Rows.IniPutsCardSaid :=
  Claim7.holds_tied_plain_at .later [] [.data, .pinned] true (true, "490dd7949b75f56fdd0fd5ee8d7ae58e17ecdcc941267eefa57f07d8645739df") false holds (fun _ h => by cases h) (by kernel_rfl) (fun _ h => by cases h) iniPuts_row_tie rfl ⟨rfl, rfl⟩ (by kernel_rfl) rfl
    (fun f fn hf hfn => by
      obtain rfl : f = 4 := Option.some.inj ((show Tryz.prog.funcNamed Rows.iniPutsRow.func = some 4 by kernel_rfl).symm.trans hf) |>.symm
      obtain rfl : fn = Tryz.f4 := (Option.some.inj (Tryz.func4.symm.trans hfn)).symm
      exact ⟨by kernel_rfl, fun j t ht => by
        rw [Tryz.params4] at ht
        have hm : t ∈ [22, 22, 38, 3, 5] := by simpa using Array.mem_of_getElem? ht
        have hall : ([22, 22, 38, 3, 5].all fun u => !Tryz.prog.wantsStandIn u) = true := by kernel_rfl
        exact (show Tryz.prog.wantsStandIn t = false by simpa using List.all_eq_true.1 hall t hm)⟩)
    (by kernel_rfl)
end Go.Proofs.YtapgaglkkgbgkaaGreatDoor.iniPutsLaw
