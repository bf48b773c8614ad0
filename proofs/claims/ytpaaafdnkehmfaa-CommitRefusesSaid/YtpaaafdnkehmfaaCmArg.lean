/- commit's laws: an argument that is a row of files, opened; what a law's calls leave. No conditions. -/
import Derived.Test.YtpaaafdnkehmfaaCmIs
import Derived.Test.YtpaaafdnkehmfaaVfRows
namespace Go.Proofs.Ytpaaafdnkehmfaa.Vf
open Go.ChangeShapes Go.WideShapes Go.ChangeAt Go.RowKit
set_option maxRecDepth 100000

theorem cells_cfile : Try.prog.cellsOf 56 = 2 := by kernel_rfl
theorem cells_cstr : Try.prog.cellsOf 9 = 1 := by kernel_rfl
structure Cf where
  s : BS
  x : Bf
theorem list_cf {P : Nat → Cf → Prop} : ∀ n : Nat, (∀ i, i < n → ∃ x, P i x) → ∃ l : List Cf, l.length = n ∧ ∀ i x, l[i]? = some x → P i x
  | 0, _ => ⟨[], rfl, fun i x h => by simp at h⟩
  | n + 1, h => by
    obtain ⟨l, hl, hp⟩ := list_cf n (fun i hi => h i (by omega))
    obtain ⟨x, hx⟩ := h n (Nat.lt_succ_self n)
    refine ⟨l ++ [x], by simp [hl], fun i y hy => ?_⟩
    rcases Nat.lt_or_ge i l.length with g | g
    · rw [List.getElem?_append_left g] at hy
      exact hp i y hy
    · rw [List.getElem?_append_right g] at hy
      have hi : i - l.length = 0 := by
        rcases Nat.eq_zero_or_pos (i - l.length) with e | e
        · exact e
        · rw [List.getElem?_eq_none (by simp; omega)] at hy; cases hy
      rw [hi] at hy
      simp only [List.getElem?_cons_zero, Option.some.injEq] at hy
      subst hy
      rw [show i = n by omega]
      exact hx
section
variable {H : Type} {enc : TypeId × Value → H} {W : World}
theorem open_files {base : Nat} {v : Value} {d : DataW H} {p : List MemPlace} (hval : Value.okWide Try.prog W .any base 47 v) (h : DataW.Trod enc Try.prog W 0 (fun _ => true) true 47 v d p) :
    ∃ (A : Option Addr) (n c : Nat) (l : FL), v = .slice A n c ∧ Fr W (fun g => g < W.heap.size) A n l ∧ n ≤ c ∧ c ≤ maxLen := by
  obtain ⟨a1, ln, cap, rfl⟩ := okWide_slice Try.underlying47 hval
  obtain ⟨fuel, hf⟩ := h
  rcases DataW.trod_slice Try.underlying47 hf with ⟨hcs, _⟩ | ⟨a, len, cap', elems, rest, n, hfu, hcs, hx, _, hl, hm, hlen, hel, _, _⟩
  · simp [Value.cells] at hcs
    obtain ⟨rfl, rfl, rfl⟩ := hcs
    exact ⟨none, 0, 0, [], rfl, fr_nil _ _ _, Nat.le_refl _, Nat.zero_le _⟩
  · simp [Value.cells] at hcs
    obtain ⟨rfl, rfl, rfl⟩ := hcs
    rw [cells_cfile] at hel
    have one : ∀ i, i < ln → ∃ x : Cf, W.cell? (a.add (i * 2)) = some (.string ⟨x.s.toArray⟩) ∧ W.cell? (a.add (i * 2 + 1)) = some (.slice x.x.A x.x.n x.x.c) ∧ Sees W W.heap.size x.x.A x.x.n x.x.l ∧ x.x.n ≤ x.x.c ∧ x.x.c ≤ maxLen := by
      intro i hi
      have he := hel i hi
      rw [List.getElem?_eq_getElem (by omega)] at he
      obtain ⟨cs', hc, ht⟩ := Option.bind_eq_some_iff.1 he
      obtain ⟨_, hcl, hat⟩ := World.cells?_some hc
      obtain ⟨ys, n2, hn2, hyx, _, hyl, hfs⟩ := DataW.trod_struct Try.underlying56 ht
      match cs', hcl with
      | [v0, v1], _ =>
        have h0 : DataW.trod enc Try.prog W 0 (fun _ => true) true n2 9 (([v0, v1].drop 0).take (Try.prog.cellsOf 9)) = ys[0]? := hfs 0 _ rfl
        have h1 : DataW.trod enc Try.prog W 0 (fun _ => true) true n2 31 (([v0, v1].drop 1).take (Try.prog.cellsOf 31)) = ys[1]? := hfs 1 _ rfl
        rw [cells_cstr, List.getElem?_eq_getElem (by rw [hyl]; decide)] at h0
        rw [cells_bss, List.getElem?_eq_getElem (by rw [hyl]; decide)] at h1
        obtain ⟨s, hs, hsd, hsz⟩ := DataW.trod_string Try.underlying9 h0
        obtain ⟨A', n', c', l', hk, h2, h3, h4⟩ := bytes_of h1
        have e0 : v0 = .string s := by simpa using hs
        have e1 : v1 = .slice A' n' c' := by simpa using hk
        have c0 := hat 0 (by omega)
        have c1 := hat 1 (by omega)
        rw [addr_add] at c0 c1
        subst e0; subst e1
        refine ⟨⟨s.data.toList, A', n', c', l'⟩, ?_, by simpa using c1, h2, h3, h4⟩
        have es : (⟨s.data.toList.toArray⟩ : ByteArray) = s := by apply ByteArray.ext; simp
        show W.cell? (a.add (i * 2)) = some (.string ⟨s.data.toList.toArray⟩)
        rw [es]
        simpa using c0
    obtain ⟨l, hll, hp⟩ := list_cf ln one
    refine ⟨some a, ln, cap, l.map fun x => (x.s, x.x.l), rfl, ⟨by rw [List.length_map]; exact hll.symm, fun k x hx => ?_⟩, hl, hm⟩
    rw [List.getElem?_map] at hx
    obtain ⟨y, hy, rfl⟩ := Option.map_eq_some_iff.1 hx
    obtain ⟨h1, h2, h3, h4, h5⟩ := hp k y hy
    have hjl : k < l.length := (List.getElem?_eq_some_iff.1 hy).1
    have hsp := plain_addr (hp 0 _ (List.getElem?_eq_getElem (by omega))).1
    obtain ⟨ab, ao, sp⟩ := a
    have hsp' : sp = none := by simpa [Addr.add] using hsp
    subst hsp'
    rw [Addr.add_lit] at h1 h2
    exact ⟨ab, ao, y.x.A, y.x.n, y.x.c, rfl, block_lt h1, h1, by rw [show ao + k * 2 + 1 = ao + (k * 2 + 1) by omega]; exact h2, SeesP.of h3, h4, h5⟩
end
end Go.Proofs.Ytpaaafdnkehmfaa.Vf
