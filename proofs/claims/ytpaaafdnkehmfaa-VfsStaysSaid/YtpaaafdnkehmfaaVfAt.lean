/- vfs: a file by its name; a file set, or taken away. No conditions but that there is no more than 2^40 of anything. -/
import Derived.Test.YtpaaafdnkehmfaaVfSmall
namespace Go.Proofs.Ytpaaafdnkehmfaa.Vf
open Go.RowKit
set_option maxRecDepth 100000

section
variable {w : World} {B p N : Nat} {mv : Value} {l : FL} {s : ByteArray}
/-- What the map says of a name, in whatever world in which the map lies as it lay. -/
theorem look (hF : Fs w B mv l) (hs : s.size ≤ maxLen) : ∃ v, Bz w B v ((fnd l s.data.toList).getD []) ∧ (fnd l s.data.toList = none → v = .slice none 0 0) ∧
    ∀ W : World, (∀ b, mv = .map (some b) → W.heap[b]? = w.heap[b]?) → (Instr.lookup 67 mv (.string s) true).run Try.prog W = .ok (.tuple #[v, .bool (fnd l s.data.toList).isSome]) W ∧
      (Instr.lookup 67 mv (.string s) false).run Try.prog W = .ok v W := by
  have hkey : keyOf Try.prog 9 (.string s) = some (.string s.data.toList) := Go.WideMaps.keyOf_string_mk Try.underlying9 hs
  rcases hF with ⟨rfl, rfl⟩ | ⟨b, D, rfl, hB, ho, hF⟩
  · refine ⟨.slice none 0 0, Bz.nil w _, fun _ => rfl, fun W _ => ⟨?_, ?_⟩⟩
    · exact Maps.look_nil true lawK Try.underlying67 (Try.zeroValue31 W) hkey
    · exact Maps.look_nil false lawK Try.underlying67 (Try.zeroValue31 W) hkey
  · have run : ∀ (v : Value), D.atKey (.string s.data.toList) (.held (.slice none 0 0)) = .held v → ∀ W : World, (∀ b', Value.map (some b) = .map (some b') → W.heap[b']? = w.heap[b']?) → (Instr.lookup 67 (.map (some b)) (.string s) true).run Try.prog W = .ok (.tuple #[v, .bool (fnd l s.data.toList).isSome]) W ∧
      (Instr.lookup 67 (.map (some b)) (.string s) false).run Try.prog W = .ok v W := by
      intro v hv W hW
      have hoW := ho.eq (hW b rfl)
      obtain ⟨v1, ps1, r1, h1⟩ := World.ownsMap.look_ok hoW lawK Try.underlying67 (Try.zeroValue31 W) (zd := .held (.slice none 0 0)) (zp := []) rfl hkey
      obtain ⟨v2, ps2, r2, h2⟩ := World.ownsMap.lookup hoW lawK Try.underlying67 (Try.zeroValue31 W) (zd := .held (.slice none 0 0)) (zp := []) rfl hkey
      rw [hv] at h1 h2
      simp only [Rv, Option.some.injEq, Prod.mk.injEq, DataW.held.injEq] at h1 h2
      rw [h1.1, hF.has] at r1
      rw [h2.1] at r2
      exact ⟨r1, r2⟩
    cases hf : fnd l s.data.toList with
    | none =>
      rw [hf] at run
      refine ⟨.slice none 0 0, Bz.nil w _, fun _ => rfl, run _ ?_⟩
      exact Maps.atKey_of_not_has (by rw [hF.has, hf]; rfl) _
    | some c =>
      rw [hf] at run
      obtain ⟨v, h1, h2⟩ := hF.at_ _ c hf
      exact ⟨v, h2, (fun e => by cases e), run v (h1 _)⟩

theorem at_any {o : Nat} (hc : w.cell? ⟨p, o, none⟩ = some mv) (hF : Fs w B mv l) (hs : s.size ≤ maxLen) :
    Calls Try.prog 50 #[.pointer (some ⟨p, o, none⟩), .string s] w fun e w' => ∃ v, e = .returned (.agg #[.string s, v, .bool (fnd l s.data.toList).isNone]) ∧ Bz w B v ((fnd l s.data.toList).getD []) ∧ (fnd l s.data.toList = none → v = .slice none 0 0) ∧ Below w.heap.size w w' := by
  obtain ⟨v, hb, hn, hr⟩ := look hF hs
  obtain ⟨A, n, c, rfl, hS, h1, h2⟩ := hb.sees
  have hrun : ∀ x, (Instr.lookup 67 mv (.string s) true).run Try.prog (w.alloc x) = .ok (.tuple #[.slice A n c, .bool (fnd l s.data.toList).isSome]) (w.alloc x) := fun x => (hr _ fun b e => by
    rcases hF with ⟨h, _⟩ | ⟨b', D, e', _, ho, _⟩
    · rw [h] at e; cases e
    · rw [e] at e'; cases e'
      exact heap_alloc_old w x (World.ownsMap.lt ho)).1
  have hbl : p < w.heap.size := block_lt hc
  have hc' : ∀ x, (w.alloc x).cell? ⟨p, o, none⟩ = some mv := fun x => (World.cell?_alloc_lt w x _ hbl).trans hc
  have HB := Lib.hid hb
  have HN := Lib.hid hn
  have he : (!(fnd l s.data.toList).isSome) = (fnd l s.data.toList).isNone := by cases fnd l s.data.toList <;> rfl
  generalize (fnd l s.data.toList).isSome = g1 at hrun he
  generalize (fnd l s.data.toList).isNone = g2 at he ⊢
  subst he
  clear hb hr hS hn
  go_enter Try.func50, Try.ntmps50
  go_wp2_with fail
  have hx := Bx.new w [.string s, .slice A n c, .bool !g1] 84
  have c0 := hx.cells 0
  have c1 := hx.cells 1
  have c2 := hx.cells 2
  simp only [List.getElem?_cons_zero, List.getElem?_cons_succ] at c0 c1 c2
  refine bodyPost_ret (v := .agg #[.string s, .slice A n c, .bool !g1]) (by simp [results, Try.results50, go_sem]) rfl ?_
  exact ⟨_, rfl, HB.out, HN.out, (Below.refl _ _).alloc (Nat.le_refl _) _⟩
end
end Go.Proofs.Ytpaaafdnkehmfaa.Vf
