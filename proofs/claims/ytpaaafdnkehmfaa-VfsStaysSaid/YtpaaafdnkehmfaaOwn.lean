/- A row of bytes of the call's own, and append of bytes onto it: from a slice, from a text, from make; at an operation of the walk. No conditions but that lengths stay below 2^46. -/
import Derived.Test.YtpaaafdnkehmfaaWords
import Derived.Deep.AppendSrc
namespace Go.Proofs.Ytpaaafdnkehmfaa
open Go.RowKit

theorem info_u8 : (Try.prog.info? 5).map (fun i => (i.zero, i.size, i.bytes)) = some (some (.int .u8 0), 1, 1) := by kernel_rfl

/-- The slice with address A, n elements, capacity c is a row of the call's own (in a block from base on, not frozen), and reads as the bytes l. -/
structure Own (w : World) (base : Nat) (A : Option Addr) (n c : Nat) (l : List UInt8) : Prop where
  row : w.ownsRow base 5 1 (.slice A n c) n (byts l)

section
variable {w w' : World} {base n c : Nat} {A : Option Addr} {l : List UInt8}
theorem Own.nil (w : World) (base : Nat) : Own w base none 0 0 [] := ⟨by simp [byts], .inl ⟨rfl, rfl⟩⟩
theorem Own.len (h : Own w base A n c l) : n = l.length := by have := h.row.1; rw [byts_length] at this; omega
theorem Own.sees (h : Own w base A n c l) : Sees w w.heap.size A n l := Sees.of_own h.row
theorem Own.lt (h : Own w base A n c l) : ∀ k, (Value.slice A n c).ownBlock = some k → base ≤ k ∧ k < w.heap.size := h.row.lt
theorem Own.cap (h : Own w base A n c l) : n ≤ c ∧ c ≤ maxLen := by
  rcases h.row.2 with ⟨e, _⟩ | ⟨g, cap, cur, e, _, _, hn, hm, _⟩
  · injection e with _ h1 h2
    subst h1; subst h2
    exact ⟨Nat.le_refl _, Nat.zero_le _⟩
  · injection e with _ _ h2
    subst h2
    exact ⟨hn, hm⟩
theorem Own.keep (h : Own w base A n c l) (hb : Below w.heap.size w w') : Own w' base A n c l :=
  ⟨h.row.kept (row := none) ⟨hb.os, hb.tape, hb.output, hb.size, fun i hi _ => hb.block i hi⟩ (by cases hv : (Value.slice A n c).ownBlock <;> simp)⟩
theorem Own.alloc (h : Own w base A n c l) (o : Obj) : Own (w.alloc o) base A n c l := ⟨h.row.alloc o⟩
theorem Own.drew (h : Own w base A n c l) : Own w.drew base A n c l := ⟨h.row.drew⟩
theorem Own.less {base' : Nat} (h : Own w base A n c l) (hb : base' ≤ base) : Own w base' A n c l := by
  refine ⟨⟨h.row.1, ?_⟩⟩
  rcases h.row.2 with e | ⟨g, cap, cur, e, hg, rest⟩
  · exact .inl e
  · exact .inr ⟨g, cap, cur, e, Nat.le_trans hb hg, rest⟩
theorem Own.below (h : Own w base A n c l) (hg : w.grownBy w' (Value.slice A n c).ownBlock) (hbase : base ≤ w.heap.size) : Below base w w' :=
  (Below.refl base w).grown hg hbase (fun k hk => (h.lt k hk).1)
/-- Seen from a block below which the row lies. -/
theorem Own.sees_below {B : Nat} (h : Own w base A n c l) (hb : ∀ a, A = some a → a.block < B) : Sees w B A n l :=
  ⟨h.len, fun j u hu => by
    obtain ⟨a, ha, _, hc⟩ := h.sees.cell j u hu
    exact ⟨a, ha, hb a ha, hc⟩⟩
/-- A row just laid whole. -/
theorem Own.lit (w : World) (l : List UInt8) (n : Nat) (hb : base ≤ w.heap.size) (hm : n ≤ maxLen) (hn : l.length = n) : Own (w.alloc (.cells (byts l).toArray 5)) base (some ⟨w.heap.size, 0, none⟩) n n l := by
  have h := World.ownsRow_lit (base := base) (e := 5) (size := 1) w (byts l).toArray n hb hm (by simp [byts_length, hn])
  exact ⟨by simpa using h⟩
end

/-- A source of bytes: what append takes behind its first argument. -/
structure From (P : Program) (w : World) (tx : TypeId) (x : Value) (m : Nat) (l : List UInt8) : Prop where
  len : m = l.length
  src : Src P 1 tx x m (byts l) w

theorem From.sees {w : World} {B m c : Nat} {A : Option Addr} {l : List UInt8} (h : Sees w B A m l) : From Try.prog w 31 (.slice A m c) m l := by
  refine ⟨h.len, ?_⟩
  cases A with
  | none =>
    obtain ⟨rfl, rfl⟩ := h.empty
    exact Src.ofNil w Try.underlying31 c
  | some a => exact Src.ofSlice w Try.underlying31 a m c (byts l) (by rw [byts_length, h.len, Nat.mul_one]) h.cells (byts_one l)
theorem From.text (w : World) (s : ByteArray) : From Try.prog w 9 (.string s) s.size s.data.toList :=
  ⟨rfl, Src.ofString w Try.underlying9 s⟩

theorem heap_cells (g : Nat) : ∀ (vs : List Value) (o : Nat) (w : World) (cur : Array Value) (e : TypeId), w.heap[g]? = some (.cells cur e (0, 0)) → o + vs.length ≤ cur.size →
    (w.setCells g o vs).heap[g]? = some (.cells (cur.toList.take o ++ vs ++ cur.toList.drop (o + vs.length)).toArray e (0, 0))
  | [], o, w, cur, e, h, hl => by
    simp only [World.setCells, List.append_nil, List.length_nil, Nat.add_zero, List.take_append_drop]
    rw [h]
  | v :: r, o, w, cur, e, h, hl => by
    simp only [List.length_cons] at hl
    rw [World.setCells, heap_cells g r (o + 1) _ (cur.setIfInBounds o v) e (heap_setCell_same w g o cur e v h) (by simp; omega)]
    congr 3
    have ho : o < cur.toList.length := by simp; omega
    rw [Array.toList_setIfInBounds, List.take_succ_eq_append_getElem (by simpa using ho)]
    rw [List.take_set_of_le (Nat.le_refl o), List.getElem_set_self, List.drop_set_of_lt (by omega)]
    simp only [List.append_assoc, List.singleton_append, List.length_cons]
    rw [show o + 1 + r.length = o + (r.length + 1) by omega]
theorem heap_cells_far (g k : Nat) (hk : k ≠ g) : ∀ (vs : List Value) (o : Nat) (w : World), (w.setCells g o vs).heap[k]? = w.heap[k]?
  | [], _, _ => rfl
  | v :: r, o, w => by rw [World.setCells, heap_cells_far g k hk r (o + 1), heap_setCell_other _ _ _ _ hk]
theorem setCells_os (g : Nat) : ∀ (vs : List Value) (o : Nat) (w : World), (w.setCells g o vs).os = w.os ∧ (w.setCells g o vs).tape = w.tape ∧ (w.setCells g o vs).output = w.output ∧ (w.setCells g o vs).heap.size = w.heap.size
  | [], _, _ => ⟨rfl, rfl, rfl, rfl⟩
  | v :: r, o, w => by
    obtain ⟨a, b, c, d⟩ := setCells_os g r (o + 1) (w.setCell ⟨g, o, none⟩ v)
    rw [World.setCells]
    exact ⟨a, b, c, by rw [d]; simp [World.setCell]⟩

set_option maxRecDepth 100000 in
/-- append onto a row of the call's own, whatever the source. -/
theorem run_append_from {w : World} {base n c m : Nat} {A : Option Addr} {l l2 : List UInt8} {tx : TypeId} {x : Value} (ty : TypeId) (ho : Own w base A n c l) (hx : From Try.prog w tx x m l2) (h46 : n + m ≤ 70368744177664) (hbase : base ≤ w.heap.size) :
    ∃ A' N c' w', (Builtin.append_ #[31, tx] ty #[.slice A n c, x]).run Try.prog w = .ok (.slice A' N c') w' ∧ Own w' base A' N c' (l ++ l2) ∧ w.grownBy w' (Value.slice A n c).ownBlock ∧
      (∀ a, A' = some a → a.block = w.heap.size ∨ some a.block = (Value.slice A n c).ownBlock) := by
  obtain ⟨i, hi, hz, hs, hb⟩ := info_parts info_u8
  have hzs : (Value.int IntKind.u8 0).cells.size = 1 := rfl
  have hsrc := hx.src
  rw [← hs] at hsrc
  have hlen := ho.len
  have hlen2 := hx.len
  -- there is none
  have grows : ∀ (hg : c < n + m), ∃ A' N c' w', (Builtin.append_ #[31, tx] ty #[.slice A n c, x]).run Try.prog w = .ok (.slice A' N c') w' ∧ Own w' base A' N c' (l ++ l2) ∧ w.grownBy w' (Value.slice A n c).ownBlock ∧
      (∀ a, A' = some a → a.block = w.heap.size ∨ some a.block = (Value.slice A n c).ownBlock) := by
    intro hg
    have hold : (Builtin.firstCells i.size n (.slice A n c)).run Try.prog w.drew = .ok (byts l).toArray w.drew := by
      rcases A with _ | a
      · obtain ⟨rfl, rfl⟩ := ho.sees.empty
        exact run_firstCells_none w.drew i.size 0 0 c
      · exact run_firstCells_some w.drew i.size n a n c (byts l) (by rw [byts_length, hs]; omega) (by simpa using ho.sees.cells)
    have hr := run_append_grow_src (P := Try.prog) w 31 tx ty 5 i (.int .u8 0) Try.underlying31 hi hz A n c (byts l) hold x m (byts l2) hsrc hg (by omega) (growslice_fits hg (by rw [hb]; omega))
    have hge := grownCap_ge w (n + m) c 5
    have hcm := grownCap_le_maxLen w (n + m) c 5 (by simp only [maxLen]; omega)
    refine ⟨_, _, _, _, hr, ⟨⟨by rw [byts_length, List.length_append]; omega, .inr ⟨w.heap.size, _, _, rfl, hbase, heap_alloc_new w.drew _, hge, hcm, ?_, ?_⟩⟩⟩, ⟨rfl, rfl, rfl, by simp, fun k hk _ => heap_alloc_old w.drew _ hk⟩, fun a ha => .inl (by injection ha with ha; rw [← ha])⟩
    · simp only [Array.size_append, List.size_toArray, size_zeroCells, hzs, List.length_append, byts_length]
      omega
    · simp only [Array.toList_append, byts_append]
      rw [List.take_append_of_le_length (by simp [byts_length]; omega), List.take_of_length_le (by simp [byts_length]; omega)]
  rcases ho.row.2 with ⟨e, hn0⟩ | ⟨g, cap, cur, e, hbg, hg, hnc, hcm, hcs, htake⟩
  · injection e with e1 e2 e3
    subst e1; subst e2; subst e3
    obtain ⟨rfl, _⟩ := ho.sees.empty
    by_cases hm : m = 0
    · subst hm
      have h2 : l2 = [] := List.eq_nil_of_length_eq_zero hlen2.symm
      subst h2
      refine ⟨none, 0, 0, w, ?_, Own.nil w base, World.grownBy.refl w _, fun a ha => by cases ha⟩
      rcases hsrc.kind with ⟨e', hk⟩ | hk <;> simp [Builtin.append_, run_underlying Try.underlying31, run_underlying hk, sizeOf, typeInfo, hi, hsrc.len, hsrc.cells, byts]
    · exact grows (by omega)
  · injection e with e1 e2 e3
    subst e1; subst e3
    by_cases hroom : n + m ≤ c
    · have hl : (byts l2).length = m := by rw [byts_length]; omega
      have hr := run_append_room_src (P := Try.prog) w 31 tx ty 5 i Try.underlying31 hi g 0 n c x m (byts l2) hsrc hroom
        (fun j hj => by rw [cell_of_row w g _ cur _ _ hg, hs, Array.getElem?_eq_getElem (by omega)]; rfl) (fun j hj => by simp [World.frozen?, hg])
      rw [hs] at hr
      have hh := heap_cells g (byts l2) (0 + n * 1) w cur 5 hg (by omega)
      obtain ⟨o1, o2, o3, o4⟩ := setCells_os g (byts l2) (0 + n * 1) w
      have htl : (cur.toList.take (0 + n * 1)) = byts l := by rw [Nat.zero_add]; exact htake
      rw [htl] at hh
      refine ⟨_, _, _, _, hr, ⟨⟨by rw [byts_length, List.length_append]; omega, .inr ⟨g, c, _, rfl, hbg, hh, hroom, hcm, ?_, ?_⟩⟩⟩, ⟨o1, o2, o3, by rw [o4]; exact Nat.le_refl _, fun k _ hk => heap_cells_far g k (fun e => hk (by simp [Value.ownBlock, e])) _ _ _⟩, fun a ha => .inr (by injection ha with ha; rw [← ha]; rfl)⟩
      · simp only [List.size_toArray, List.length_append, List.length_drop, Array.length_toList, byts_length]
        omega
      · simp only [byts_append]
        rw [List.take_append_of_le_length (by simp [byts_length]; omega), List.take_of_length_le (by simp [byts_length]; omega)]
    · exact grows (by omega)

set_option maxRecDepth 100000 in
/-- The same at the walk's operation: behind it 'intro A' N c' w' ho' hg' hat''. -/
theorem wpList_append_from {w : World} {ops : Array Oper} {rest : List Oper} {o : Oper} {a : Act} {Q : Exit → Act → World → Prop} (hgd : o.guard = none) (s x : Operand) (tx : TypeId)
    (hop : o.op = .call { callee := .builtin .append, args := #[s, x], argTypes := #[31, tx] })
    {base n c m : Nat} {A : Option Addr} {l l2 : List UInt8} {vx : Value} (hs : a.eval s = .slice A n c) (hxv : a.eval x = vx) (ho : Own w base A n c l) (hx : From Try.prog w tx vx m l2) (h46 : n + m ≤ 70368744177664) (hbase : base ≤ w.heap.size)
    (h : ∀ A' N c' w', Own w' base A' N c' (l ++ l2) → w.grownBy w' (Value.slice A n c).ownBlock → (∀ a, A' = some a → a.block = w.heap.size ∨ some a.block = (Value.slice A n c).ownBlock) → wpList Try.prog ops Q rest (a.put o.dst (.slice A' N c')) w') :
    wpList Try.prog ops Q (o :: rest) a w := by
  obtain ⟨A', N, c', w', hr, h1, h2, h3⟩ := run_append_from o.type ho hx h46 hbase
  exact Lib.wpList_append_run w hgd s x _ _ hop _ _ hs hxv _ _ hr (h A' N c' w' h1 h2 h3)
end Go.Proofs.Ytpaaafdnkehmfaa
