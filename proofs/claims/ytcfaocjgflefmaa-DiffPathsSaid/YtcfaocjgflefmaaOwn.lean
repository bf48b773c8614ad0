/- A row of bytes of the call's own, and append of bytes onto it: from a slice, from a text, from make; at an operation of the walk. No conditions but that lengths stay below 2^46. -/
import Derived.Test.YtcfaocjgflefmaaWords
import Derived.Deep.AppendSrc
namespace Go.Proofs.Ytcfaocjgflefmaa
open Go.RowKit

theorem info_u8 : (Try.prog.info? 5).map (fun i => (i.zero, i.size, i.bytes)) = some (some (.int .u8 0), 1, 1) := by kernel_rfl

/-- The slice with address A, n elements, capacity c is a row of the call's own (in a block from base on, not frozen), and reads as the bytes l. -/
structure Own (w : World) (base : Nat) (A : Option Addr) (n c : Nat) (l : List UInt8) : Prop where
  row : w.ownsRow base 5 1 (.slice A n c) n (byts l)

section
variable {w w' : World} {base n c : Nat} {A : Option Addr} {l : List UInt8}
theorem Own.nil (w : World) (base : Nat) : Own w base none 0 0 [] := ⟨by simp [byts], .inl ⟨rfl, rfl⟩⟩
theorem Own.len (h : Own w base A n c l) : n = l.length := by have := h.row.1; rw [byts_length] at this; omega
theorem Own.sees (h : Own w base A n c l) : Sees w w.heap.size A n l := Sees.of_own h.row
theorem Own.lt (h : Own w base A n c l) : ∀ k, (Value.slice A n c).ownBlock = some k → base ≤ k ∧ k < w.heap.size := h.row.lt
theorem Own.cap (h : Own w base A n c l) : n ≤ c ∧ c ≤ maxLen := by
  rcases h.row.2 with ⟨e, _⟩ | ⟨g, cap, cur, e, _, _, hn, hm, _⟩
  · injection e with _ h1 h2
    subst h1; subst h2
    exact ⟨Nat.le_refl _, Nat.zero_le _⟩
  · injection e with _ _ h2
    subst h2
    exact ⟨hn, hm⟩
theorem Own.keep (h : Own w base A n c l) (hb : Below w.heap.size w w') : Own w' base A n c l :=
  ⟨h.row.kept (row := none) ⟨hb.os, hb.tape, hb.output, hb.size, fun i hi _ => hb.block i hi⟩ (by cases hv : (Value.slice A n c).ownBlock <;> simp)⟩
theorem Own.alloc (h : Own w base A n c l) (o : Obj) : Own (w.alloc o) base A n c l := ⟨h.row.alloc o⟩
theorem Own.drew (h : Own w base A n c l) : Own w.drew base A n c l := ⟨h.row.drew⟩
theorem Own.less {base' : Nat} (h : Own w base A n c l) (hb : base' ≤ base) : Own w base' A n c l := by
  refine ⟨⟨h.row.1, ?_⟩⟩
  rcases h.row.2 with e | ⟨g, cap, cur, e, hg, rest⟩
  · exact .inl e
  · exact .inr ⟨g, cap, cur, e, Nat.le_trans hb hg, rest⟩
theorem Own.below (h : Own w base A n c l) (hg : w.grownBy w' (Value.slice A n c).ownBlock) (hbase : base ≤ w.heap.size) : Below base w w' :=
  (Below.refl base w).grown hg hbase (fun k hk => (h.lt k hk).1)
/-- Seen from a block below which the row lies. -/
theorem Own.sees_below {B : Nat} (h : Own w base A n c l) (hb : ∀ a, A = some a → a.block < B) : Sees w B A n l :=
  ⟨h.len, fun j u hu => by
    obtain ⟨a, ha, _, hc⟩ := h.sees.cell j u hu
    exact ⟨a, ha, hb a ha, hc⟩⟩
/-- A row just laid whole. -/
theorem Own.lit (w : World) (l : List UInt8) (n : Nat) (hb : base ≤ w.heap.size) (hm : n ≤ maxLen) (hn : l.length = n) : Own (w.alloc (.cells (byts l).toArray 5)) base (some ⟨w.heap.size, 0, none⟩) n n l := by
  have h := World.ownsRow_lit (base := base) (e := 5) (size := 1) w (byts l).toArray n hb hm (by simp [byts_length, hn])
  exact ⟨by simpa using h⟩
end

/-- A source of bytes: what append takes behind its first argument. -/
structure From (P : Program) (w : World) (tx : TypeId) (x : Value) (m : Nat) (l : List UInt8) : Prop where
  len : m = l.length
  src : Src P 1 tx x m (byts l) w

theorem From.text (w : World) (s : ByteArray) : From Try.prog w 9 (.string s) s.size s.data.toList :=
  ⟨rfl, Src.ofString w Try.underlying9 s⟩

theorem heap_cells (g : Nat) : ∀ (vs : List Value) (o : Nat) (w : World) (cur : Array Value) (e : TypeId), w.heap[g]? = some (.cells cur e (0, 0)) → o + vs.length ≤ cur.size →
    (w.setCells g o vs).heap[g]? = some (.cells (cur.toList.take o ++ vs ++ cur.toList.drop (o + vs.length)).toArray e (0, 0))
  | [], o, w, cur, e, h, hl => by
    simp only [World.setCells, List.append_nil, List.length_nil, Nat.add_zero, List.take_append_drop]
    rw [h]
  | v :: r, o, w, cur, e, h, hl => by
    simp only [List.length_cons] at hl
    rw [World.setCells, heap_cells g r (o + 1) _ (cur.setIfInBounds o v) e (heap_setCell_same w g o cur e v h) (by simp; omega)]
    congr 3
    have ho : o < cur.toList.length := by simp; omega
    rw [Array.toList_setIfInBounds, List.take_succ_eq_append_getElem (by simpa using ho)]
    rw [List.take_set_of_le (Nat.le_refl o), List.getElem_set_self, List.drop_set_of_lt (by omega)]
    simp only [List.append_assoc, List.singleton_append, List.length_cons]
    rw [show o + 1 + r.length = o + (r.length + 1) by omega]
theorem heap_cells_far (g k : Nat) (hk : k ≠ g) : ∀ (vs : List Value) (o : Nat) (w : World), (w.setCells g o vs).heap[k]? = w.heap[k]?
  | [], _, _ => rfl
  | v :: r, o, w => by rw [World.setCells, heap_cells_far g k hk r (o + 1), heap_setCell_other _ _ _ _ hk]
theorem setCells_os (g : Nat) : ∀ (vs : List Value) (o : Nat) (w : World), (w.setCells g o vs).os = w.os ∧ (w.setCells g o vs).tape = w.tape ∧ (w.setCells g o vs).output = w.output ∧ (w.setCells g o vs).heap.size = w.heap.size
  | [], _, _ => ⟨rfl, rfl, rfl, rfl⟩
  | v :: r, o, w => by
    obtain ⟨a, b, c, d⟩ := setCells_os g r (o + 1) (w.setCell ⟨g, o, none⟩ v)
    rw [World.setCells]
    exact ⟨a, b, c, by rw [d]; simp [World.setCell]⟩

end Go.Proofs.Ytcfaocjgflefmaa
