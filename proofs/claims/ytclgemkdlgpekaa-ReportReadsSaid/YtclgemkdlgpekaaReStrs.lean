/- Rows of names of one's own. No conditions. -/
import Derived.Test.YtclgemkdlgpekaaReMath
import Derived.Test.YtclgemkdlgpekaaLists
import Derived.Test.YtclgemkdlgpekaaStack
namespace Go.Proofs.Ytclgemkdlgpekaa.Re
open Go.RowKit
set_option maxRecDepth 100000

def strs (l : List ByteArray) : List Value := l.map Value.string
theorem elem_str : Elem Try.prog 22 9 (.string ⟨#[]⟩) 1 16 := ⟨Try.underlying22, by kernel_rfl, rfl, by omega⟩
theorem strs_one (l : List ByteArray) : ∀ u ∈ strs l, u.oneCell' = true := by
  intro u hu
  simp only [strs, List.mem_map] at hu
  obtain ⟨x, _, rfl⟩ := hu
  rfl
theorem strs_app (l m : List ByteArray) : strs (l ++ m) = strs l ++ strs m := by simp [strs]
theorem own_seesV {w : World} {base n c : Nat} {A : Option Addr} {e : TypeId} {vs : List Value} (ho : w.ownsRow base e 1 (.slice A n c) n vs) : SeesV w w.heap.size A n vs := by
  have hl := ho.1
  refine ⟨by omega, fun j u hu => ?_⟩
  rcases ho.2 with ⟨e1, hn0⟩ | ⟨g, cap, cur, e1, _, hh, _⟩
  · obtain rfl : vs = [] := List.length_eq_zero_iff.1 (by omega)
    cases hu
  · injection e1 with e1 e2 e3
    subst e1
    have := rowCells ho j u hu
    rw [Addr.add_lit] at this
    exact ⟨g, 0, rfl, (Array.getElem?_eq_some_iff.1 hh).1, this⟩

theorem src_str (W : World) (s : ByteArray) (g : Nat) (hg : g = W.heap.size) : Src Try.prog 1 22 (.slice (some ⟨g, 0, none⟩) 1 1) 1 (strs [s]) (W.alloc (Obj.cells #[Value.string s] 9)) :=
  hg ▸ Src.laid Try.underlying22 rfl (fun j u hu => by rw [cell_of_row _ _ _ _ _ _ (heap_alloc_new W _), ← hu]; simp [strs]) (strs_one _)
theorem own_cap {w : World} {base n c size : Nat} {A : Option Addr} {e : TypeId} {vs : List Value} (ho : w.ownsRow base e size (.slice A n c) n vs) : n ≤ c ∧ c ≤ maxLen := by
  rcases ho.2 with ⟨e1, hn0⟩ | ⟨g, cap, cur, e1, _, _, h1, h2, _⟩
  · injection e1 with _ e2 e3
    subst e2; subst e3
    exact ⟨Nat.le_refl _, Nat.zero_le _⟩
  · injection e1 with _ _ e3
    subst e3
    exact ⟨h1, h2⟩

theorem src_sees {w : World} {B n c : Nat} {A : Option Addr} {l : List ByteArray} (h : SeesV w B A n (l.map Value.string)) : Src Try.prog 1 22 (.slice A n c) n (strs l) w := by
  have hl := h.len
  rw [List.length_map] at hl
  rcases Nat.eq_zero_or_pos n with h0 | h0
  · subst h0
    have e : l = [] := List.eq_nil_of_length_eq_zero hl.symm
    subst e
    cases A with
    | none => exact Src.ofNil w Try.underlying22 c
    | some a => exact Src.ofSlice w Try.underlying22 a 0 c [] rfl (fun j u hu => by simp at hu) (by simp)
  · obtain ⟨b, o, rfl, hb, _⟩ := h.str h0
    exact Src.laid Try.underlying22 (by rw [strs, List.length_map, Nat.mul_one]; exact hl.symm) (fun j u hu => by
      obtain ⟨b', o', e, _, hc⟩ := h.cell j u hu
      injection e with e
      injection e with e1 e2
      subst e1; subst e2
      exact hc) (strs_one _)

section
variable {P : Program} {w : World} {ops : Array Oper} {rest : List Oper} {o : Oper} {a : Act} {Q : Exit → Act → World → Prop}
/-- append at an operation whose guard says that it is wanted. -/
theorem wpList_append_rowG (hw : Region.wanted o (yielded ops a.tmps) = true) (s x : Operand) (t tx : TypeId) (hop : o.op = .call { callee := .builtin .append, args := #[s, x], argTypes := #[t, tx] })
    {base n c m size bytes : Nat} {A : Option Addr} {xs ys : List Value} {e : TypeId} {z vx : Value} (he : Elem P t e z size bytes)
    (hs : a.eval s = .slice A n c) (hxv : a.eval x = vx) (ho : w.ownsRow base e size (.slice A n c) n xs) (hx : Src P size tx vx m ys w) (h46 : n + m ≤ 1099511627776) (hbase : base ≤ w.heap.size)
    (h : ∀ A' c' w', w'.ownsRow base e size (.slice A' (n + m) c') (n + m) (xs ++ ys) → w.grownBy w' (Value.slice A n c).ownBlock → (∀ a, A' = some a → a.block = w.heap.size ∨ some a.block = (Value.slice A n c).ownBlock) →
      wpList P ops Q rest (a.put o.dst (.slice A' (n + m) c')) w') : wpList P ops Q (o :: rest) a w := by
  obtain ⟨A', c', w', hr, h1, h2, h3⟩ := run_append_row o.type he ho hx h46 hbase
  exact wpList_step fun K hK => by
    rw [if_pos hw]
    exact Lib.wp_append_run w s x _ _ hop _ _ hs hxv _ _ hr (hK _ _ (h A' c' w' h1 h2 h3))
end


/-- A row of names of one's own, behind base. -/
abbrev OwnS (w : World) (base : Nat) (A : Option Addr) (n c : Nat) (l : List ByteArray) : Prop := w.ownsRow base 9 1 (.slice A n c) n (strs l)
theorem OwnS.len {w : World} {base n c : Nat} {A : Option Addr} {l : List ByteArray} (h : OwnS w base A n c l) : n = l.length := by
  have := h.1
  rw [strs, List.length_map, Nat.mul_one] at this
  exact this.symm
theorem OwnS.sees {w : World} {base n c : Nat} {A : Option Addr} {l : List ByteArray} (h : OwnS w base A n c l) : SeesV w w.heap.size A n (l.map Value.string) := own_seesV h
theorem OwnS.nil (w : World) (base : Nat) : OwnS w base none 0 0 [] := World.ownsRow_nil _ _ _ _
theorem OwnS.keptBy {w w' : World} {base n c b : Nat} {A : Option Addr} {l : List ByteArray} (h : OwnS w base A n c l) (hg : w.grownBy w' (some b)) (hb : b < base) : OwnS w' base A n c l := by
  refine h.kept hg ?_
  cases he : (Value.slice A n c).ownBlock with
  | none => exact .inl rfl
  | some g =>
    refine .inr fun e => ?_
    injection e with e
    have := (h.lt g he).1
    omega
theorem OwnS.below {w w' : World} {base n c : Nat} {A : Option Addr} {l : List ByteArray} (h : OwnS w base A n c l) (hb : Below w.heap.size w w') : OwnS w' base A n c l := by
  refine h.kept (row := none) ⟨hb.os, hb.tape, hb.output, hb.size, fun k hk _ => hb.block k hk⟩ ?_
  cases (Value.slice A n c).ownBlock with
  | none => exact .inl rfl
  | some g => exact .inr (by simp)
theorem seesV_more {w : World} {B B' n : Nat} {A : Option Addr} {vs : List Value} (h : SeesV w B A n vs) (hB : B ≤ B') : SeesV w B' A n vs :=
  ⟨h.len, fun j u hu => by
    obtain ⟨b, o, e, hb, hc⟩ := h.cell j u hu
    exact ⟨b, o, e, Nat.lt_of_lt_of_le hb hB, hc⟩⟩
end Go.Proofs.Ytclgemkdlgpekaa.Re
