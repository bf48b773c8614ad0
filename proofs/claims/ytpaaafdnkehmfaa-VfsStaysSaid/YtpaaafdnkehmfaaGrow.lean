/- append onto a row of the call's own, elements of any number of cells, whatever the source; at an operation of the walk, plain or inside a fence. Conditions: lengths below 2^40, elements of at most 64 bytes. -/
import Derived.Test.YtpaaafdnkehmfaaOwn
import Derived.OwnWalkIn
namespace Go.Proofs.Ytpaaafdnkehmfaa
open Go.RowKit
set_option maxRecDepth 100000

/-- The element type's row of the table: its zero value, cells, bytes. -/
structure Elem (P : Program) (t e : TypeId) (z : Value) (size bytes : Nat) : Prop where
  slice : P.underlying t = some (.slice e)
  info : (P.info? e).map (fun i => (i.zero, i.size, i.bytes)) = some (some z, size, bytes)
  cells : z.cells.size = size
  small : bytes ≤ 64

theorem rowCells {w : World} {base n c size : Nat} {e : TypeId} {a : Addr} {xs : List Value} (h : w.ownsRow base e size (.slice (some a) n c) n xs) : ∀ j u, xs[j]? = some u → w.cell? (a.add j) = some u := by
  intro j u hu
  rcases h.2 with ⟨e1, _⟩ | ⟨g, cap, cur, e1, _, hh, _, _, _, htk⟩
  · cases e1
  · injection e1 with e1
    cases e1
    rw [Addr.add_lit, Nat.zero_add, cell_of_row w g j cur _ _ hh]
    rw [← htk, List.getElem?_take] at hu
    split at hu
    · simpa using hu
    · cases hu

theorem run_append_row {P : Program} {w : World} {base n c m size bytes : Nat} {A : Option Addr} {xs ys : List Value} {t tx e : TypeId} {z x : Value} (ty : TypeId) (he : Elem P t e z size bytes)
    (ho : w.ownsRow base e size (.slice A n c) n xs) (hx : Src P size tx x m ys w) (h46 : n + m ≤ 1099511627776) (hbase : base ≤ w.heap.size) :
    ∃ A' c' w', (Builtin.append_ #[t, tx] ty #[.slice A n c, x]).run P w = .ok (.slice A' (n + m) c') w' ∧ w'.ownsRow base e size (.slice A' (n + m) c') (n + m) (xs ++ ys) ∧ w.grownBy w' (Value.slice A n c).ownBlock ∧
      (∀ a, A' = some a → a.block = w.heap.size ∨ some a.block = (Value.slice A n c).ownBlock) := by
  obtain ⟨i, hi, hz, hs, hb⟩ := info_parts he.info
  have hzs := he.cells
  have hsrc := hx
  rw [← hs] at hsrc
  have hlen := ho.1
  have hlen2 := hx.newsLen
  have hbb : (n + m) * bytes ≤ 1099511627776 * 64 := Nat.mul_le_mul h46 he.small
  have grows : ∀ (hg : c < n + m), ∃ A' c' w', (Builtin.append_ #[t, tx] ty #[.slice A n c, x]).run P w = .ok (.slice A' (n + m) c') w' ∧ w'.ownsRow base e size (.slice A' (n + m) c') (n + m) (xs ++ ys) ∧ w.grownBy w' (Value.slice A n c).ownBlock ∧
      (∀ a, A' = some a → a.block = w.heap.size ∨ some a.block = (Value.slice A n c).ownBlock) := by
    intro hg
    have hold : (Builtin.firstCells i.size n (.slice A n c)).run P w.drew = .ok xs.toArray w.drew := by
      rcases A with _ | a
      · rcases ho.2 with ⟨e1, e2⟩ | ⟨g, cap, cur, e1, _⟩
        · subst e2
          obtain rfl : xs = [] := List.eq_nil_of_length_eq_zero (by omega)
          injection e1 with _ _ e3
          exact run_firstCells_none w.drew i.size 0 0 c
        · cases e1
      · exact run_firstCells_some w.drew i.size n a n c xs (by rw [hlen, hs]) (by simpa using rowCells ho)
    have hr := run_append_grow_src (P := P) w t tx ty e i z he.slice hi hz A n c xs hold x m ys hsrc hg (by omega) (growslice_fits hg (by rw [hb]; omega))
    have hge := grownCap_ge w (n + m) c e
    have hcm := grownCap_le_maxLen w (n + m) c e (by simp only [maxLen]; omega)
    refine ⟨_, _, _, hr, ⟨by rw [List.length_append, hlen, hlen2, Nat.add_mul], .inr ⟨w.heap.size, _, _, rfl, hbase, heap_alloc_new w.drew _, hge, hcm, ?_, ?_⟩⟩, ⟨rfl, rfl, rfl, by simp, fun k hk _ => heap_alloc_old w.drew _ hk⟩, fun a ha => .inl (by injection ha with ha; rw [← ha])⟩
    · simp only [Array.size_append, List.size_toArray, size_zeroCells, hzs, List.length_append, hlen, hlen2]
      rw [← Nat.add_mul, ← Nat.add_mul]
      congr 1
      omega
    · simp only [Array.toList_append]
      have : (n + m) * size = (xs ++ ys).length := by rw [List.length_append, hlen, hlen2, Nat.add_mul]
      rw [this, List.take_append_of_le_length (Nat.le_refl _), List.take_of_length_le (Nat.le_refl _)]
  rcases ho.2 with ⟨e1, hn0⟩ | ⟨g, cap, cur, e1, hbg, hg, hnc, hcm, hcs, htake⟩
  · injection e1 with e1 e2 e3
    subst e1; subst e2; subst e3
    obtain rfl : xs = [] := List.eq_nil_of_length_eq_zero (by omega)
    by_cases hm : m = 0
    · subst hm
      have h2 : ys = [] := List.eq_nil_of_length_eq_zero (by omega)
      subst h2
      refine ⟨none, 0, w, ?_, ⟨by simp, .inl ⟨rfl, rfl⟩⟩, World.grownBy.refl w _, fun a ha => by cases ha⟩
      rcases hsrc.kind with ⟨e', hk⟩ | hk <;> simp [Builtin.append_, run_underlying he.slice, run_underlying hk, sizeOf, typeInfo, hi, hsrc.len, hsrc.cells]
    · exact grows (by omega)
  · injection e1 with e1 e2 e3
    subst e1; subst e3
    by_cases hroom : n + m ≤ c
    · have hmul : (n + m) * size ≤ c * size := Nat.mul_le_mul_right _ hroom
      rw [Nat.add_mul] at hmul
      have hr := run_append_room_src (P := P) w t tx ty e i he.slice hi g 0 n c x m ys hsrc hroom
        (fun j hj => by rw [cell_of_row w g _ cur _ _ hg, hs, Array.getElem?_eq_getElem (by omega)]; rfl) (fun j hj => by simp [World.frozen?, hg])
      rw [hs] at hr
      have hh := heap_cells g ys (0 + n * size) w cur e hg (by omega)
      obtain ⟨o1, o2, o3, o4⟩ := setCells_os g ys (0 + n * size) w
      have htl : (cur.toList.take (0 + n * size)) = xs := by rw [Nat.zero_add]; exact htake
      rw [htl] at hh
      refine ⟨_, _, _, hr, ⟨by rw [List.length_append, hlen, hlen2, Nat.add_mul], .inr ⟨g, c, _, rfl, hbg, hh, hroom, hcm, ?_, ?_⟩⟩, ⟨o1, o2, o3, by rw [o4]; exact Nat.le_refl _, fun k _ hk => heap_cells_far g k (fun e => hk (by simp [Value.ownBlock, e])) _ _ _⟩, fun a ha => .inr (by injection ha with ha; rw [← ha]; rfl)⟩
      · simp only [List.size_toArray, List.length_append, List.length_drop, Array.length_toList]
        omega
      · have : (n + m) * size = (xs ++ ys).length := by rw [List.length_append, hlen, hlen2, Nat.add_mul]
        rw [this]
        rw [List.take_append_of_le_length (Nat.le_refl _), List.take_of_length_le (Nat.le_refl _)]
    · exact grows (by omega)

section
variable {P : Program} {w : World} {ops : Array Oper} {rest : List Oper} {o : Oper} {a : Act} {Q : Exit → Act → World → Prop}
/-- At the walk's operation: behind it 'intro A' c' w' ho' hg' hat''. -/
theorem wpList_append_row (hgd : o.guard = none) (s x : Operand) (t tx : TypeId) (hop : o.op = .call { callee := .builtin .append, args := #[s, x], argTypes := #[t, tx] })
    {base n c m size bytes : Nat} {A : Option Addr} {xs ys : List Value} {e : TypeId} {z vx : Value} (he : Elem P t e z size bytes)
    (hs : a.eval s = .slice A n c) (hxv : a.eval x = vx) (ho : w.ownsRow base e size (.slice A n c) n xs) (hx : Src P size tx vx m ys w) (h46 : n + m ≤ 1099511627776) (hbase : base ≤ w.heap.size)
    (h : ∀ A' c' w', w'.ownsRow base e size (.slice A' (n + m) c') (n + m) (xs ++ ys) → w.grownBy w' (Value.slice A n c).ownBlock → (∀ a, A' = some a → a.block = w.heap.size ∨ some a.block = (Value.slice A n c).ownBlock) →
      wpList P ops Q rest (a.put o.dst (.slice A' (n + m) c')) w') : wpList P ops Q (o :: rest) a w := by
  obtain ⟨A', c', w', hr, h1, h2, h3⟩ := run_append_row o.type he ho hx h46 hbase
  exact Lib.wpList_append_run w hgd s x _ _ hop _ _ hs hxv _ _ hr (h A' c' w' h1 h2 h3)

/-- An append by its run, inside a fence. -/
theorem wpListIn_append_run {F : Fence} {n : Nat} (hgd : o.guard = none) (s x : Operand) (t tn : TypeId)
    (hop : o.op = .call { callee := .builtin .append, args := #[s, x], argTypes := #[t, tn] }) (vs vx : Value) (hs : a.eval s = vs) (hx : a.eval x = vx)
    (v' : Value) (w' : World) (hr : (Builtin.append_ #[t, tn] o.type #[vs, vx]).run P w = .ok v' w') (h : wpListIn F n P ops Q rest (a.put o.dst v') w') : wpListIn F n P ops Q (o :: rest) a w := by
  refine wpListIn_plain hgd fun K hK' => ?_
  unfold Oper.wpIn
  refine ⟨?_, ?_⟩
  · simp [Oper.about, hop, resolve, Target.leads, Sem.run_pure]
  · rw [Oper.semAt_plain F _ _ (by rw [hop]; intro c hc'; cases hc')]
    simp [execOp, hop, resolve, invoke, builtin, hs, hx, hr, Result.andThen]
    exact hK' _ _ h
end
section
variable {w : World} {ops : Array Oper} {rest : List Oper} {o : Oper} {a : Act} {Q : Exit → Act → World → Prop}
theorem wpListIn_append_from {F : Fence} {k : Nat} (hgd : o.guard = none) (s x : Operand) (tx : TypeId)
    (hop : o.op = .call { callee := .builtin .append, args := #[s, x], argTypes := #[31, tx] })
    {base n c m : Nat} {A : Option Addr} {l l2 : List UInt8} {vx : Value} (hs : a.eval s = .slice A n c) (hxv : a.eval x = vx) (ho : Own w base A n c l) (hx : From Try.prog w tx vx m l2) (h46 : n + m ≤ 70368744177664) (hbase : base ≤ w.heap.size)
    (h : ∀ A' N c' w', Own w' base A' N c' (l ++ l2) → w.grownBy w' (Value.slice A n c).ownBlock → (∀ a, A' = some a → a.block = w.heap.size ∨ some a.block = (Value.slice A n c).ownBlock) → wpListIn F k Try.prog ops Q rest (a.put o.dst (.slice A' N c')) w') :
    wpListIn F k Try.prog ops Q (o :: rest) a w := by
  obtain ⟨A', N, c', w', hr, h1, h2, h3⟩ := run_append_from o.type ho hx h46 hbase
  exact wpListIn_append_run hgd s x _ _ hop _ _ hs hxv _ _ hr (h A' N c' w' h1 h2 h3)
/-- The same in a region that draws its order. -/
theorem step_append_from {K : Act → World → Prop} {E : Prop} (hgd : o.guard = none) (s x : Operand) (tx : TypeId)
    (hop : o.op = .call { callee := .builtin .append, args := #[s, x], argTypes := #[31, tx] })
    {base n c m : Nat} {A : Option Addr} {l l2 : List UInt8} {vx : Value} (hs : a.eval s = .slice A n c) (hxv : a.eval x = vx) (ho : Own w base A n c l) (hx : From Try.prog w tx vx m l2) (h46 : n + m ≤ 70368744177664) (hbase : base ≤ w.heap.size)
    (h : ∀ A' N c' w', Own w' base A' N c' (l ++ l2) → w.grownBy w' (Value.slice A n c).ownBlock → (∀ a, A' = some a → a.block = w.heap.size ∨ some a.block = (Value.slice A n c).ownBlock) → K (a.put o.dst (.slice A' N c')) w') :
    if Region.wanted o (yielded ops a.tmps) = true then Oper.wp Try.prog o a w K Q else E := by
  have hw : Region.wanted o (yielded ops a.tmps) = true := by simp [Region.wanted, hgd]
  rw [if_pos hw]
  obtain ⟨A', N, c', w', hr, h1, h2, h3⟩ := run_append_from o.type ho hx h46 hbase
  unfold Oper.wp
  simp [execOp, hop, resolve, invoke, builtin, hs, hxv, hr, Result.andThen]
  exact h A' N c' w' h1 h2 h3
theorem step_append_row {P : Program} {K : Act → World → Prop} {E : Prop} (hgd : o.guard = none) (s x : Operand) (t tx : TypeId) (hop : o.op = .call { callee := .builtin .append, args := #[s, x], argTypes := #[t, tx] })
    {base n c m size bytes : Nat} {A : Option Addr} {xs ys : List Value} {e : TypeId} {z vx : Value} (he : Elem P t e z size bytes)
    (hs : a.eval s = .slice A n c) (hxv : a.eval x = vx) (ho : w.ownsRow base e size (.slice A n c) n xs) (hx : Src P size tx vx m ys w) (h46 : n + m ≤ 1099511627776) (hbase : base ≤ w.heap.size)
    (h : ∀ A' c' w', w'.ownsRow base e size (.slice A' (n + m) c') (n + m) (xs ++ ys) → w.grownBy w' (Value.slice A n c).ownBlock → (∀ a, A' = some a → a.block = w.heap.size ∨ some a.block = (Value.slice A n c).ownBlock) →
      K (a.put o.dst (.slice A' (n + m) c')) w') :
    if Region.wanted o (yielded ops a.tmps) = true then Oper.wp P o a w K Q else E := by
  have hw : Region.wanted o (yielded ops a.tmps) = true := by simp [Region.wanted, hgd]
  rw [if_pos hw]
  obtain ⟨A', c', w', hr, h1, h2, h3⟩ := run_append_row o.type he ho hx h46 hbase
  unfold Oper.wp
  simp [execOp, hop, resolve, invoke, builtin, hs, hxv, hr, Result.andThen]
  exact h A' c' w' h1 h2 h3
end
end Go.Proofs.Ytpaaafdnkehmfaa
