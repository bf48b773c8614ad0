/- An argument that is a row of byte slices, opened. No conditions. -/
import Derived.Test.YtpaaafdnkehmfaaVfLem
import Derived.Test.YtpaaafdnkehmfaaLists
namespace Go.Proofs.Ytpaaafdnkehmfaa.Vf
open Go.ChangeShapes Go.WideShapes Go.ChangeAt Go.RowKit
set_option maxRecDepth 100000

structure Bf where
  A : Option Addr
  n : Nat
  c : Nat
  l : BS
theorem list_of {P : Nat → Bf → Prop} : ∀ n : Nat, (∀ i, i < n → ∃ x, P i x) → ∃ l : List Bf, l.length = n ∧ ∀ i x, l[i]? = some x → P i x
  | 0, _ => ⟨[], rfl, fun i x h => by simp at h⟩
  | n + 1, h => by
    obtain ⟨l, hl, hp⟩ := list_of n (fun i hi => h i (by omega))
    obtain ⟨x, hx⟩ := h n (Nat.lt_succ_self n)
    refine ⟨l ++ [x], by simp [hl], fun i y hy => ?_⟩
    rcases Nat.lt_or_ge i l.length with g | g
    · rw [List.getElem?_append_left g] at hy
      exact hp i y hy
    · rw [List.getElem?_append_right g] at hy
      have hi : i - l.length = 0 := by
        rcases Nat.eq_zero_or_pos (i - l.length) with e | e
        · exact e
        · rw [List.getElem?_eq_none (by simp; omega)] at hy; cases hy
      rw [hi] at hy
      simp only [List.getElem?_cons_zero, Option.some.injEq] at hy
      subst hy
      rw [show i = n by omega]
      exact hx
/-- A row of byte slices below B. -/
structure BRow (w : World) (B : Nat) (A : Option Addr) (n : Nat) (l : List Bf) : Prop where
  len : n = l.length
  cell : ∀ (j : Nat) (x : Bf), l[j]? = some x → ∃ b o, A = some ⟨b, o, none⟩ ∧ b < B ∧ w.cell? ⟨b, o + j, none⟩ = some (.slice x.A x.n x.c)
  row : ∀ x ∈ l, Sees w B x.A x.n x.l ∧ x.n ≤ x.c ∧ x.c ≤ maxLen
theorem BRow.below {w w' : World} {B n : Nat} {A : Option Addr} {l : List Bf} (h : BRow w B A n l) (hb : Below B w w') : BRow w' B A n l :=
  ⟨h.len, fun j x hx => by
    obtain ⟨b, o, e, hb', h1⟩ := h.cell j x hx
    exact ⟨b, o, e, hb', (hb.cell (p := ⟨b, o + j, none⟩) hb').trans h1⟩, fun x hx => ⟨(h.row x hx).1.below hb, (h.row x hx).2⟩⟩
theorem cells_bss : Try.prog.cellsOf 31 = 1 := by kernel_rfl
section
variable {H : Type} {enc : TypeId × Value → H} {W : World}
theorem bytes_of {fuel : Nat} {cs : List Value} {x : DataW H × List MemPlace} (h : DataW.trod enc Try.prog W 0 (fun _ => true) true fuel 31 cs = some x) :
    ∃ (A : Option Addr) (n c : Nat) (l : BS), cs = [.slice A n c] ∧ Sees W W.heap.size A n l ∧ n ≤ c ∧ c ≤ maxLen := by
  rcases open_ints Try.underlying31 Try.underlying5 cells_u8 h with ⟨hcs, _⟩ | ⟨a, len, cap, zs, hcs, _, hl, hm, hz, _, hcell, hwz⟩
  · exact ⟨none, 0, 0, [], hcs, Sees.none_ _ _ _, Nat.le_refl _, Nat.zero_le _⟩
  · simp only [if_true] at hz
    refine ⟨some a, len, cap, (zs.take len).map fun n => UInt8.ofNat n.toNat, hcs, ⟨by simp; omega, fun j u hu => ⟨a, rfl, ?_, ?_⟩⟩, hl, hm⟩
    all_goals
      have hj : j < len := by
        rcases Nat.lt_or_ge j len with g | g
        · exact g
        · rw [List.getElem?_eq_none (by simp; omega)] at hu; cases hu
      have hcj := hcell j (by omega)
    · have := block_lt hcj
      rwa [addr_block] at this
    · rw [hcj]
      have hjz : j < zs.length := by omega
      have e : zs.getD j 0 = zs[j] := by simp [List.getD, List.getElem?_eq_getElem hjz]
      have hw := hwz zs[j] (List.getElem_mem hjz)
      have hr : 0 ≤ zs[j] ∧ zs[j] ≤ 255 := by simpa [Lit.wf, IntKind.min, IntKind.max, IntKind.signed, IntKind.bits] using hw
      rw [List.getElem?_map, List.getElem?_take_of_lt hj, List.getElem?_eq_getElem hjz] at hu
      simp only [Option.map_some, Option.some.injEq] at hu
      subst hu
      rw [e]
      simp only [byt, UInt8.toNat_ofNat']
      congr 2
      omega
theorem open_rows {base : Nat} {v : Value} {d : DataW H} {p : List MemPlace} (hval : Value.okWide Try.prog W .any base 36 v) (h : DataW.Trod enc Try.prog W 0 (fun _ => true) true 36 v d p) :
    ∃ (A : Option Addr) (n c : Nat) (l : List Bf), v = .slice A n c ∧ BRow W W.heap.size A n l ∧ n ≤ c ∧ c ≤ maxLen := by
  obtain ⟨a1, ln, cap, rfl⟩ := okWide_slice Try.underlying36 hval
  obtain ⟨fuel, hf⟩ := h
  rcases DataW.trod_slice Try.underlying36 hf with ⟨hcs, _⟩ | ⟨a, len, cap', elems, rest, n, hfu, hcs, hx, _, hl, hm, hlen, hel, _, _⟩
  · simp [Value.cells] at hcs
    obtain ⟨rfl, rfl, rfl⟩ := hcs
    exact ⟨none, 0, 0, [], rfl, ⟨rfl, fun j x h => by simp at h, fun x h => by cases h⟩, Nat.le_refl _, Nat.zero_le _⟩
  · simp [Value.cells] at hcs
    obtain ⟨rfl, rfl, rfl⟩ := hcs
    rw [cells_bss] at hel
    have one : ∀ i, i < ln → ∃ x : Bf, W.cell? (a.add i) = some (.slice x.A x.n x.c) ∧ Sees W W.heap.size x.A x.n x.l ∧ x.n ≤ x.c ∧ x.c ≤ maxLen := by
      intro i hi
      have he := hel i hi
      rw [List.getElem?_eq_getElem (by omega)] at he
      obtain ⟨cs', hc, ht⟩ := Option.bind_eq_some_iff.1 he
      obtain ⟨_, hcl, hat⟩ := World.cells?_some hc
      match cs', hcl with
      | [v0], _ =>
        obtain ⟨A', n', c', l', h1, h2, h3, h4⟩ := bytes_of ht
        have e0 : v0 = .slice A' n' c' := by simpa using h1
        have c0 := hat 0 (by omega)
        rw [addr_add] at c0
        subst e0
        exact ⟨⟨A', n', c', l'⟩, by simpa using c0, h2, h3, h4⟩
    obtain ⟨l, hll, hp⟩ := list_of ln one
    refine ⟨some a, ln, cap, l, rfl, ⟨hll.symm, fun j x hx => ?_, fun x hx => ?_⟩, hl, hm⟩
    · have hc := (hp j x hx).1
      have hjl : j < l.length := (List.getElem?_eq_some_iff.1 hx).1
      have hsp := plain_addr (hp 0 _ (List.getElem?_eq_getElem (by omega))).1
      obtain ⟨ab, ao, sp⟩ := a
      simp only at hsp
      subst hsp
      rw [Addr.add_lit] at hc
      exact ⟨ab, ao, rfl, block_lt hc, hc⟩
    · obtain ⟨j, hj⟩ := List.getElem?_of_mem hx
      exact (hp j x hj).2
end
end Go.Proofs.Ytpaaafdnkehmfaa.Vf
