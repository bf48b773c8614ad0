import Derived.Test.YtapgaglkkgbgkaaGreatDoorInRPut6
import Derived.Test.YtapgaglkkgbgkaaGreatDoorMwInTnM
import Derived.Test.YtapgaglkkgbgkaaGreatDoorInTurn
import Derived.Test.YtapgaglkkgbgkaaGreatDoorInRFits
import Derived.Test.YtapgaglkkgbgkaaGreatDoorMwInRRows
import Derived.Test.YtapgaglkkgbgkaaGreatDoorMake
import Derived.Test.YtapgaglkkgbgkaaGreatDoorMwWords
import Derived.Test.YtapgaglkkgbgkaaGreatDoorRaws
import Derived.Test.YtapgaglkkgbgkaaGreatDoorMwRQuote
/- The reference's Put and Create of ini, of any tree into any file. Conditions: the tree's size; its names' sizes. -/
namespace Go.Proofs.YtapgaglkkgbgkaaGreatDoor.In
open Go.RowKit Go.Proofs.YtapgaglkkgbgkaaGreatDoor.Jd Go.Proofs.YtapgaglkkgbgkaaGreatDoor.Li Go.Proofs.YtapgaglkkgbgkaaGreatDoor.Cl Go.Proofs.YtapgaglkkgbgkaaGreatDoor.Pt Go.Proofs.YtapgaglkkgbgkaaGreatDoor.Cv
set_option maxRecDepth 100000

set_option maxHeartbeats 4000000 in
theorem rput_bad (s : ByteArray) (R : Tr × Nat × Int) (A : Option Addr) (n c : Nat) (w : World) (hz : s.size ≤ 274877906944) (hR : readI s.data.toList = R) (he : R.2.2 ≠ 0) :
    Calls Tryz.prog 21 #[.slice A n c, .string s] w fun e w' => e = .returned (.tuple #[.string (mkB []), .int .i64 R.2.2]) ∧ Below w.heap.size w w' := by
  have HL := Lib.hid (rload_any s w hz)
  rw [hR] at HL
  obtain ⟨T, l, ee⟩ := R
  have he2 : (ee == 0) = false := beq_eq_false_iff_ne.2 he
  have he3 : (ee != 0) = true := bne_iff_ne.2 he
  clear he hR
  go_enter Tryz.func21, Tryz.ntmps21
  go_wp2_with fail
  (with_reducible refine HL.out.mono ?_)
  rintro e w1 ⟨At, nt, ct, rfl, _, _, _, hb⟩
  go_wp2_with fail
  refine bodyPost_ret (v := .tuple #[.string ⟨#[]⟩, .int .i64 ee]) (by simp [results, Tryz.results21, go_sem]) rfl ?_
  exact ⟨rfl, hb⟩
set_option maxHeartbeats 4000000 in
theorem rput_unfit (s : ByteArray) (T t : Tr) (A : Option Addr) (n c : Nat) (w : World) (hz : s.size ≤ 274877906944) (hR : readI s.data.toList = (T, 0, 0)) (he : fitsM t ≠ 0) (hsz : t.size ≤ 17179869184) (hnm : Tr.Nm t) (ht : OkT w A n c t) :
    Calls Tryz.prog 21 #[.slice A n c, .string s] w fun e w' => e = .returned (.tuple #[.string (mkB []), .int .i64 (fitsM t)]) ∧ Below w.heap.size w w' := by
  have HL := Lib.hid (rload_any s w hz)
  rw [hR] at HL
  have HFi := Lib.hid (fun (W : World) (hW : Below w.heap.size w W) => rfits_any t A n c W (ht.below hW).holds hsz hnm)
  obtain ⟨ee, hee⟩ : ∃ x, x = fitsM t := ⟨_, rfl⟩
  rw [← hee] at HFi he ⊢
  have he3 : (ee != 0) = true := bne_iff_ne.2 he
  clear he hR ht hee
  go_enter Tryz.func21, Tryz.ntmps21
  go_wp2_with fail
  (with_reducible refine HL.out.mono ?_)
  rintro e w1 ⟨At, nt, ct, rfl, _, _, _, hb⟩
  have HB := Lib.hid hb
  have HF1 := Lib.hid (HFi.out w1 hb)
  clear hb
  go_wp2_with fail
  (with_reducible refine HF1.out.mono ?_)
  rintro e w2 ⟨rfl, hb2⟩
  have HB2 := Lib.hid (HB.out.trans (hb2.mono HB.out.size))
  clear hb2
  go_wp2_with fail
  refine bodyPost_ret (v := .tuple #[.string ⟨#[]⟩, .int .i64 ee]) (by simp [results, Tryz.results21, go_sem]) rfl ?_
  exact ⟨rfl, HB2.out⟩
/-- cadenceref6.Put. -/
theorem rputR_any (s : ByteArray) (t : Tr) (A : Option Addr) (n c : Nat) (w : World) (hz : s.size ≤ 274877906944) (hsz : t.size ≤ 17179869184) (hnm : Tr.Nm t) (ht : OkT w A n c t) :
    Calls Tryz.prog 21 #[.slice A n c, .string s] w fun e w' => e = .returned (.tuple #[.string (mkB (putM t s.data.toList).1), .int .i64 (putM t s.data.toList).2]) ∧ Below w.heap.size w w' := by
  by_cases h1 : (readI s.data.toList).2.2 ≠ 0
  · have e : putM t s.data.toList = ([], (readI s.data.toList).2.2) := by unfold putM; rw [if_pos h1]
    rw [e]
    exact rput_bad s _ A n c w hz rfl h1
  have h1' : (readI s.data.toList).2.2 = 0 := Decidable.not_not.1 h1
  obtain ⟨T, hT⟩ : ∃ T, T = (readI s.data.toList).1 := ⟨_, rfl⟩
  have hR : readI s.data.toList = (T, 0, 0) := by rw [hT, (read_fits h1').1]
  by_cases h2 : fitsM t ≠ 0
  · have e : putM t s.data.toList = ([], fitsM t) := by unfold putM; rw [if_neg h1, if_pos h2]
    rw [e]
    exact rput_unfit s T t A n c w hz hR h2 hsz hnm ht
  exact rput_sound s T t A n c w hR (Decidable.not_not.1 h2) hsz hnm ht
/-- cadenceref6.Create. -/
theorem rcreateR_any (t : Tr) (A : Option Addr) (n c : Nat) (w : World) (hsz : t.size ≤ 17179869184) (hnm : Tr.Nm t) (ht : OkT w A n c t) :
    Calls Tryz.prog 23 #[.slice A n c] w fun e w' => e = .returned (.tuple #[.string (mkB (putM t []).1), .int .i64 (putM t []).2]) ∧ Below w.heap.size w w' := by
  have HP := Lib.hid (rputR_any ⟨#[]⟩ t A n c w (by decide) hsz hnm ht)
  rw [show (ByteArray.mk #[]).data.toList = [] from rfl] at HP
  obtain ⟨z, hz⟩ : ∃ z, z = putM t [] := ⟨_, rfl⟩
  rw [← hz] at HP ⊢
  clear hz ht
  go_enter Tryz.func23, Tryz.ntmps23
  go_wp2_with fail
  (with_reducible refine HP.out.mono ?_)
  rintro e w1 ⟨rfl, hb⟩
  go_wp2_with fail
  refine bodyPost_ret (v := .tuple #[.string (mkB z.1), .int .i64 z.2]) (by simp [results, Tryz.results23, go_sem]) rfl ?_
  exact ⟨rfl, hb⟩
end Go.Proofs.YtapgaglkkgbgkaaGreatDoor.In
/- IniPuts: trees made of raw edges; rows of trees and of files; an argument of raw edges in a row that lists variables. No conditions. -/
namespace Go.Proofs.YtapgaglkkgbgkaaGreatDoor.In
open Go.RowKit Go.Proofs.YtapgaglkkgbgkaaGreatDoor.Jd Go.Proofs.YtapgaglkkgbgkaaGreatDoor.Li Go.Proofs.YtapgaglkkgbgkaaGreatDoor.Cl Go.Proofs.YtapgaglkkgbgkaaGreatDoor.Pt Go.Proofs.YtapgaglkkgbgkaaGreatDoor.Cv
set_option maxRecDepth 100000

theorem rfit_low : ∀ {t : Tr}, t.Fit → t.Low
  | .nil, _ => trivial
  | .cons _ _ _, ⟨_, h2, h3, h4⟩ => ⟨h2, rfit_low h3, rfit_low h4⟩
theorem cut30_sz (s : ByteArray) : (cut30 s).size ≤ 140737488351232 := by
  unfold cut30
  rw [ByteArray.size_extract]
  omega
theorem mk_nm (W : Nat) : ∀ (t : Tr) (l d : Nat) (acc : Tr), Tr.Nm acc → Tr.Nm (t.makeT W l d acc)
  | .nil, _, _, _, h => by simpa [Tr.makeT] using h
  | .cons s k r, l, d, acc, h => by
    unfold Tr.makeT
    split
    · exact h
    · exact mk_nm W r _ _ _ (with_nm2 (cut30_sz s) (mk_nm W k _ _ .nil trivial) h)
theorem mkT_size (W : Nat) : ∀ (t : Tr) (l d : Nat) (acc : Tr), (t.makeT W l d acc).size ≤ acc.size + t.size
  | .nil, _, _, acc => by simp [Tr.makeT]
  | .cons s k r, l, d, acc => by
    unfold Tr.makeT
    split
    · simp only [Tr.size]; omega
    · have h1 := mkT_size W r (l - 1) d (acc.withT (cut30 s) (k.makeT W W (d - 1) .nil))
      have h2 := mkT_size W k W (d - 1) .nil
      have h3 := with_size2 (name := cut30 s) (x := k.makeT W W (d - 1) .nil) (t := acc)
      simp only [Tr.size] at h2 ⊢
      omega
/-- A tree in a row of trees, of few edges. -/
def TrPu (w : World) (g k : Nat) : Prop := ∃ (A : Option Addr) (n c : Nat) (t : Tr), w.cell? ⟨g, k, none⟩ = some (.slice A n c) ∧ OkT w A n c t ∧ Tn 430 t
theorem TrPu.below {w w' : World} {g k : Nat} (h : TrPu w g k) (hg : g < w.heap.size) (hb : Below w.heap.size w w') : TrPu w' g k := by
  obtain ⟨A, n, c, t, h1, h2, h3⟩ := h
  exact ⟨A, n, c, t, (hb.cell (p := ⟨g, k, none⟩) hg).trans h1, h2.below hb, h3⟩
def TrV (w : World) (v : Value) : Prop := ∃ (A : Option Addr) (n c : Nat) (t : Tr), v = .slice A n c ∧ OkT w A n c t ∧ Tn 430 t
theorem trp5 {w : World} {a b c d e : Value} {g : Nat} {E : TypeId} (hg : w.heap[g]? = some (Obj.cells #[a, b, c, d, e] E (0, 0))) (h1 : TrV w a) (h2 : TrV w b) (h3 : TrV w c) (h4 : TrV w d) (h5 : TrV w e) (k : Nat) (hk : k < 5) : TrPu w g k := by
  have hc := fun i => cell_of_row _ _ i _ _ _ hg
  match k, hk with
  | 0, _ => obtain ⟨A, n, c, t, rfl, x, y⟩ := h1; exact ⟨A, n, c, t, hc 0, x, y⟩
  | 1, _ => obtain ⟨A, n, c, t, rfl, x, y⟩ := h2; exact ⟨A, n, c, t, hc 1, x, y⟩
  | 2, _ => obtain ⟨A, n, c, t, rfl, x, y⟩ := h3; exact ⟨A, n, c, t, hc 2, x, y⟩
  | 3, _ => obtain ⟨A, n, c, t, rfl, x, y⟩ := h4; exact ⟨A, n, c, t, hc 3, x, y⟩
  | 4, _ => obtain ⟨A, n, c, t, rfl, x, y⟩ := h5; exact ⟨A, n, c, t, hc 4, x, y⟩
theorem fil3 {w : World} {a b c : ByteArray} {g : Nat} {E : TypeId} (hg : w.heap[g]? = some (Obj.cells #[.string a, .string b, .string c] E (0, 0))) (h1 : a.size ≤ 4000) (h2 : b.size ≤ 4000) (h3 : c.size ≤ 4000) (k : Nat) (hk : k < 3) : ∃ x : ByteArray, w.cell? ⟨g, k, none⟩ = some (.string x) ∧ x.size ≤ 4000 := by
  have hc := fun i => cell_of_row _ _ i _ _ _ hg
  match k, hk with
  | 0, _ => exact ⟨a, hc 0, h1⟩
  | 1, _ => exact ⟨b, hc 1, h2⟩
  | 2, _ => exact ⟨c, hc 2, h3⟩
open Go.ChangeShapes Go.WideShapes Go.ChangeAt in
theorem of_shape_sized {H : Type} {enc : TypeId × Value → H} {a : Assume} {C : Checked} {os : Os} {f : FuncId} {fn : Func} {s : ChangeSpec} {conds : List PathCond} {apart fresh handsOn again : Bool} {X : World → Prop}
    (own : ownKnob C.prog.godebug = none) (started : os.Started) (noInit : C.prog.inits.idxOf? f = none) (hfn : C.prog.funcs[f]? = some fn)
    (witness : ∃ (w : World) (tape : Tape) (i : Input), w.os = os ∧ (w.forCall tape i).Shaped C.prog ∧ i.vars = [] ∧ Input.okWide C.prog (w.forCall tape i) .any w.heap.size f i ∧
      ((s.pre enc C.prog fn conds apart (w.forCall tape i).memory i.args ∧ X (w.forCall tape i).memory) ∧ sizedMet enc C.prog fn (OpenSpec.ofChange s) apart (w.forCall tape i).memory i.args) ∧ a.holds C.prog (lone (Frame.enter C.prog f i.args .normal) [] (w.forCall tape i)))
    (walk : ∀ (W : World) (base : Nat) (args : Array Value) (ds gs : List (DataW H)) (before : List MemPlace),
      (∀ (j : Nat) t v, fn.params[j]? = some t → args[j]? = some v → Value.okWide C.prog W .any base t v) →
      DataW.Whole enc C.prog fn.params.toList s.vars apart W args.toList ds gs before → W.ShapedOpen C.prog →
      (∃ ts, (DataW.weightsEach C.prog (fn.params.toList ++ ts) (ds ++ gs)).all (· ≤ reachBytes) = true) →
      Calls C.prog f args W fun e W' => ∃ v, e = .returned v ∧ s.post enc C.prog fn apart fresh handsOn again W args v W') :
    ReturnsInHanded a C os f .any (fun w args => (s.pre enc C.prog fn conds apart w args ∧ X w) ∧ sizedMet enc C.prog fn (OpenSpec.ofChange s) apart w args) (s.post enc C.prog fn apart fresh handsOn again) := by
  refine returnsInHanded_of_calls own started noInit witness ?_
  intro w tape i _ hsh _ hok hpre _
  obtain ⟨_, _, _, g, hg, _, _, _, _, hval⟩ := hok
  obtain rfl : g = fn := Option.some.inj (hg.symm.trans hfn)
  obtain ⟨⟨⟨ds, gs, before, hw, _⟩, _⟩, hz⟩ := hpre
  refine (walk (w.forCall tape i) w.heap.size i.args ds gs before hval (DataW.Whole.of_heap (w' := w.forCall tape i) (by rfl) hw) hsh ⟨_, hz.weights hw⟩).mono fun e W' ⟨v, he, hp⟩ => ?_
  subst he
  exact ChangeSpec.post_blind hp
end Go.Proofs.YtapgaglkkgbgkaaGreatDoor.In
