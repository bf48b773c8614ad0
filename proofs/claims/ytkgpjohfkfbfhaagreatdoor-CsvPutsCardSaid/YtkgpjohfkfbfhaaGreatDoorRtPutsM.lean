/- CsvPuts: trees made of raw edges; rows of trees and of files; an argument of raw edges in a row that lists variables. No conditions. -/
import Derived.Test.YtkgpjohfkfbfhaaGreatDoorRpPutR
import Derived.Test.YtkgpjohfkfbfhaaGreatDoorMwRtTurnM
import Derived.Test.YtkgpjohfkfbfhaaGreatDoorRtTurn
import Derived.Test.YtkgpjohfkfbfhaaGreatDoorMwRtFits
import Derived.Test.YtkgpjohfkfbfhaaGreatDoorRcFile
import Derived.Test.YtkgpjohfkfbfhaaGreatDoorRcLoadsW
import Derived.Test.YtkgpjohfkfbfhaaGreatDoorMake
import Derived.Test.YtkgpjohfkfbfhaaGreatDoorMwWords
import Derived.Test.YtkgpjohfkfbfhaaGreatDoorRaws
import Derived.Test.YtkgpjohfkfbfhaaGreatDoorMwOwnWith
namespace Go.Proofs.YtkgpjohfkfbfhaaGreatDoor.Cv
open Go.RowKit Go.Proofs.YtkgpjohfkfbfhaaGreatDoor.Jd Go.Proofs.YtkgpjohfkfbfhaaGreatDoor.Li Go.Proofs.YtkgpjohfkfbfhaaGreatDoor.Cl Go.Proofs.YtkgpjohfkfbfhaaGreatDoor.Pt
set_option maxRecDepth 100000

theorem rfit_low : ∀ {t : Tr}, t.Fit → t.Low
  | .nil, _ => trivial
  | .cons _ _ _, ⟨_, h2, h3, h4⟩ => ⟨h2, rfit_low h3, rfit_low h4⟩
theorem cut30_sz (s : ByteArray) : (cut30 s).size ≤ 140737488351232 := by
  unfold cut30
  rw [ByteArray.size_extract]
  omega
theorem mk_nm (W : Nat) : ∀ (t : Tr) (l d : Nat) (acc : Tr), Tr.Nm acc → Tr.Nm (t.makeT W l d acc)
  | .nil, _, _, _, h => by simpa [Tr.makeT] using h
  | .cons s k r, l, d, acc, h => by
    unfold Tr.makeT
    split
    · exact h
    · exact mk_nm W r _ _ _ (with_nm2 (cut30_sz s) (mk_nm W k _ _ .nil trivial) h)
theorem mk_size (W : Nat) : ∀ (t : Tr) (l d : Nat) (acc : Tr), (t.makeT W l d acc).size ≤ acc.size + t.size
  | .nil, _, _, acc => by simp [Tr.makeT]
  | .cons s k r, l, d, acc => by
    unfold Tr.makeT
    split
    · simp only [Tr.size]; omega
    · have h1 := mk_size W r (l - 1) d (acc.withT (cut30 s) (k.makeT W W (d - 1) .nil))
      have h2 := mk_size W k W (d - 1) .nil
      have h3 := with_size2 (name := cut30 s) (x := k.makeT W W (d - 1) .nil) (t := acc)
      simp only [Tr.size] at h2 ⊢
      omega
theorem gcreate_any (t : Tr) (A : Option Addr) (n c : Nat) (w : World) (ht : OkT w A n c t) (hsz : t.size ≤ 17179869184) (hnm : Tr.Nm t) (hG : Gl w) :
    Calls Tryz.prog 17 #[.slice A n c] w fun e w' => e = .returned (.tuple #[.string (mkB (putR t [107, 101, 121, 10]).1), .int .i64 (putR t [107, 101, 121, 10]).2]) ∧ Below w.heap.size w w' := by
  have HP := Lib.hid (putR_any ⟨#[107, 101, 121, 10]⟩ t A n c w hsz hnm ht.holds ht.cap.1 ht.cap.2 hG)
  rw [show (ByteArray.mk #[107, 101, 121, 10]).data.toList = [107, 101, 121, 10] from rfl] at HP
  obtain ⟨z, hz⟩ : ∃ z, z = putR t [107, 101, 121, 10] := ⟨_, rfl⟩
  rw [← hz] at HP ⊢
  clear hz ht hG
  go_enter Tryz.func17, Tryz.ntmps17
  go_wp2_with fail
  (with_reducible refine HP.out.mono ?_)
  rintro e w1 ⟨rfl, hb⟩
  go_wp2_with fail
  refine bodyPost_ret (v := .tuple #[.string (mkB z.1), .int .i64 z.2]) (by simp [results, Tryz.results17, go_sem]) rfl ?_
  exact ⟨rfl, hb⟩
def TrP (w : World) (g k : Nat) : Prop := ∃ (A : Option Addr) (n c : Nat) (t : Tr), w.cell? ⟨g, k, none⟩ = some (.slice A n c) ∧ OkT w A n c t ∧ Tn 430 t
theorem TrP.below {w w' : World} {g k : Nat} (h : TrP w g k) (hg : g < w.heap.size) (hb : Below w.heap.size w w') : TrP w' g k := by
  obtain ⟨A, n, c, t, h1, h2, h3⟩ := h
  exact ⟨A, n, c, t, (hb.cell (p := ⟨g, k, none⟩) hg).trans h1, h2.below hb, h3⟩
def TrV (w : World) (v : Value) : Prop := ∃ (A : Option Addr) (n c : Nat) (t : Tr), v = .slice A n c ∧ OkT w A n c t ∧ Tn 430 t
theorem trp5 {w : World} {a b c d e : Value} {g : Nat} {E : TypeId} (hg : w.heap[g]? = some (Obj.cells #[a, b, c, d, e] E (0, 0))) (h1 : TrV w a) (h2 : TrV w b) (h3 : TrV w c) (h4 : TrV w d) (h5 : TrV w e) (k : Nat) (hk : k < 5) : TrP w g k := by
  have hc := fun i => cell_of_row _ _ i _ _ _ hg
  match k, hk with
  | 0, _ => obtain ⟨A, n, c, t, rfl, x, y⟩ := h1; exact ⟨A, n, c, t, hc 0, x, y⟩
  | 1, _ => obtain ⟨A, n, c, t, rfl, x, y⟩ := h2; exact ⟨A, n, c, t, hc 1, x, y⟩
  | 2, _ => obtain ⟨A, n, c, t, rfl, x, y⟩ := h3; exact ⟨A, n, c, t, hc 2, x, y⟩
  | 3, _ => obtain ⟨A, n, c, t, rfl, x, y⟩ := h4; exact ⟨A, n, c, t, hc 3, x, y⟩
  | 4, _ => obtain ⟨A, n, c, t, rfl, x, y⟩ := h5; exact ⟨A, n, c, t, hc 4, x, y⟩
theorem fil3 {w : World} {a b c : ByteArray} {g : Nat} {E : TypeId} (hg : w.heap[g]? = some (Obj.cells #[.string a, .string b, .string c] E (0, 0))) (h1 : a.size ≤ 4000) (h2 : b.size ≤ 4000) (h3 : c.size ≤ 4000) (k : Nat) (hk : k < 3) : ∃ x : ByteArray, w.cell? ⟨g, k, none⟩ = some (.string x) ∧ x.size ≤ 4000 := by
  have hc := fun i => cell_of_row _ _ i _ _ _ hg
  match k, hk with
  | 0, _ => exact ⟨a, hc 0, h1⟩
  | 1, _ => exact ⟨b, hc 1, h2⟩
  | 2, _ => exact ⟨c, hc 2, h3⟩
open Go.ChangeShapes Go.WideShapes Go.ChangeAt in
theorem of_shape_sized {H : Type} {enc : TypeId × Value → H} {a : Assume} {C : Checked} {os : Os} {f : FuncId} {fn : Func} {s : ChangeSpec} {conds : List PathCond} {apart fresh handsOn again : Bool} {X : World → Prop}
    (own : ownKnob C.prog.godebug = none) (started : os.Started) (noInit : C.prog.inits.idxOf? f = none) (hfn : C.prog.funcs[f]? = some fn)
    (witness : ∃ (w : World) (tape : Tape) (i : Input), w.os = os ∧ (w.forCall tape i).Shaped C.prog ∧ i.vars = [] ∧ Input.okWide C.prog (w.forCall tape i) .any w.heap.size f i ∧
      ((s.pre enc C.prog fn conds apart (w.forCall tape i).memory i.args ∧ X (w.forCall tape i).memory) ∧ sizedMet enc C.prog fn (OpenSpec.ofChange s) apart (w.forCall tape i).memory i.args) ∧ a.holds C.prog (lone (Frame.enter C.prog f i.args .normal) [] (w.forCall tape i)))
    (walk : ∀ (W : World) (base : Nat) (args : Array Value) (ds gs : List (DataW H)) (before : List MemPlace),
      (∀ (j : Nat) t v, fn.params[j]? = some t → args[j]? = some v → Value.okWide C.prog W .any base t v) →
      DataW.Whole enc C.prog fn.params.toList s.vars apart W args.toList ds gs before → W.ShapedOpen C.prog →
      (∃ ts, (DataW.weightsEach C.prog (fn.params.toList ++ ts) (ds ++ gs)).all (· ≤ reachBytes) = true) →
      Calls C.prog f args W fun e W' => ∃ v, e = .returned v ∧ s.post enc C.prog fn apart fresh handsOn again W args v W') :
    ReturnsInHanded a C os f .any (fun w args => (s.pre enc C.prog fn conds apart w args ∧ X w) ∧ sizedMet enc C.prog fn (OpenSpec.ofChange s) apart w args) (s.post enc C.prog fn apart fresh handsOn again) := by
  refine returnsInHanded_of_calls own started noInit witness ?_
  intro w tape i _ hsh _ hok hpre _
  obtain ⟨_, _, _, g, hg, _, _, _, _, hval⟩ := hok
  obtain rfl : g = fn := Option.some.inj (hg.symm.trans hfn)
  obtain ⟨⟨⟨ds, gs, before, hw, _⟩, _⟩, hz⟩ := hpre
  refine (walk (w.forCall tape i) w.heap.size i.args ds gs before hval (DataW.Whole.of_heap (w' := w.forCall tape i) (by rfl) hw) hsh ⟨_, hz.weights hw⟩).mono fun e W' ⟨v, he, hp⟩ => ?_
  subst he
  exact ChangeSpec.post_blind hp
end Go.Proofs.YtkgpjohfkfbfhaaGreatDoor.Cv
