/- bytes.Clone: the same bytes in memory of its own. Conditions: fewer than 2^40 bytes. -/
import Derived.Test.YtpaaafdnkehmfaaVfDo
namespace Go.Proofs.Ytpaaafdnkehmfaa.Vf
open Go.RowKit
set_option maxRecDepth 100000

set_option maxHeartbeats 1000000 in
theorem clone_any {w : World} {A : Option Addr} {n c : Nat} {l : BS} (h : Sees w w.heap.size A n l) (hn : n ≤ 1099511627776) :
    Calls Try.prog 52 #[.slice A n c] w fun e w' => ∃ A' n' c', e = .returned (.slice A' n' c') ∧ n' = l.length ∧ w'.ownsRow w.heap.size 5 1 (.slice A' n' c') n' (byts l) ∧ Bz w' w.heap.size (.slice A' n' c') l ∧ Below w.heap.size w w' := by
  have q := fun (w : World) (a : Option Addr) (n c n' c' : Nat) => Lib.run_eql_slice_nil (P := Try.prog) w _ _ a n c n' c' Try.underlying31
  cases A with
  | none =>
    obtain ⟨rfl, rfl⟩ := h.empty
    go_enter Try.func52, Try.ntmps52
    go_wp2_with fail
    go_ret
    exact ⟨none, 0, 0, rfl, rfl, by simpa [byts] using World.ownsRow_nil _ _ _ _, Bz.nil _ _, Below.refl _ _⟩
  | some a =>
    have hl := h.len
    have ho : Own (w.alloc (Obj.cells #[] 5)) w.heap.size (some ⟨w.heap.size, 0, none⟩) 0 0 [] := Own.lit w [] 0 (Nat.le_refl _) (Nat.zero_le _) rfl
    have hf : From Try.prog (w.alloc (Obj.cells #[] 5)) 31 (.slice (some a) n c) n l := From.sees (h.alloc (Nat.le_refl _) _)
    have HO := Lib.hid ho
    have HF := Lib.hid hf
    have HL := Lib.hid hl
    have HN := Lib.hid hn
    clear ho hf h hl hn
    go_enter Try.func52, Try.ntmps52
    go_wp2_with (at_builtin; refine wpList_append_from rfl (.tmp 5) (.tmp 6) 31 rfl rfl rfl HO.out HF.out (by have := HN.out; omega) (by simp) ?_; intro A' N c' w' ho' hg' hat')
    go_ret
    have e := ho'.len
    rw [List.nil_append] at ho' e
    refine ⟨A', N, c', rfl, e, ho'.row, Bz.of_own ho'.row, ?_⟩
    exact ((Below.refl _ _).alloc (Nat.le_refl _) _).grown hg' (by simp) (fun k hk => (HO.out.lt k hk).1)
end Go.Proofs.Ytpaaafdnkehmfaa.Vf
