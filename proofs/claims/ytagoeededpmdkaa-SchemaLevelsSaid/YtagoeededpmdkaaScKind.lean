/- append onto a row of the call's own, with the kinds of its cells. Conditions: lengths below 2^40, elements of at most 64 bytes. -/
import Derived.Test.YtagoeededpmdkaaScRows
namespace Go.Proofs.Ytagoeededpmdkaa.Sc
open Go.RowKit Go.Proofs.Ytagoeededpmdkaa.Nm
set_option maxRecDepth 100000

theorem zero_kind {K : Value → Prop} {z : Array Value} (h : ∀ u ∈ z, K u) : ∀ (m : Nat), ∀ u ∈ Builtin.zeroCells z m, K u := by
  intro m u hu
  unfold Builtin.zeroCells at hu
  rw [Array.mem_map] at hu
  obtain ⟨i, hi, rfl⟩ := hu
  rw [Array.mem_range] at hi
  have hz : 0 < z.size := by
    rcases Nat.eq_zero_or_pos z.size with g | g
    · rw [g, Nat.mul_zero] at hi; omega
    · exact g
  have := Nat.mod_lt i hz
  rw [getElem!_pos z (i % z.size) this]
  exact h _ (Array.getElem_mem this)
theorem cells_kind {K : Value → Prop} {xs ys : List Value} {z : Array Value} {k j : Nat} {u : Value} (h1 : ∀ u ∈ xs ++ ys, K u) (hz : ∀ u ∈ z, K u) (h : ((xs ++ ys).toArray ++ Builtin.zeroCells z k)[j]? = some u) : K u := by
  have hm := Array.mem_of_getElem? h
  rw [Array.mem_append] at hm
  rcases hm with hm | hm
  · exact h1 u (by simpa using hm)
  · exact zero_kind hz k u hm
theorem run_append_rowK {P : Program} {w : World} {base n c m size bytes : Nat} {A : Option Addr} {xs ys : List Value} {t tx e : TypeId} {z x : Value} (ty : TypeId) (he : Elem P t e z size bytes)
    (ho : w.ownsRow base e size (.slice A n c) n xs) (hx : Src P size tx x m ys w) (h46 : n + m ≤ 1099511627776) (hbase : base ≤ w.heap.size)
    (K : Value → Prop) (hK : ∀ g, (Value.slice A n c).ownBlock = some g → ∀ j u, w.cell? ⟨g, j, none⟩ = some u → K u) (hKx : ∀ u ∈ xs, K u) (hKy : ∀ u ∈ ys, K u) (hKz : ∀ u ∈ z.cells, K u) :
    ∃ A' c' w', (Builtin.append_ #[t, tx] ty #[.slice A n c, x]).run P w = .ok (.slice A' (n + m) c') w' ∧ w'.ownsRow base e size (.slice A' (n + m) c') (n + m) (xs ++ ys) ∧ w.grownBy w' (Value.slice A n c).ownBlock ∧
      (∀ a, A' = some a → a.block = w.heap.size ∨ some a.block = (Value.slice A n c).ownBlock) ∧ ∀ g, (Value.slice A' (n + m) c').ownBlock = some g → ∀ j u, w'.cell? ⟨g, j, none⟩ = some u → K u := by
  obtain ⟨i, hi, hz, hs, hb⟩ := info_parts he.info
  have hzs := he.cells
  have hsrc := hx
  rw [← hs] at hsrc
  have hlen := ho.1
  have hlen2 := hx.newsLen
  have hbb : (n + m) * bytes ≤ 1099511627776 * 64 := Nat.mul_le_mul h46 he.small
  have grows : ∀ (hg : c < n + m), ∃ A' c' w', (Builtin.append_ #[t, tx] ty #[.slice A n c, x]).run P w = .ok (.slice A' (n + m) c') w' ∧ w'.ownsRow base e size (.slice A' (n + m) c') (n + m) (xs ++ ys) ∧ w.grownBy w' (Value.slice A n c).ownBlock ∧
      (∀ a, A' = some a → a.block = w.heap.size ∨ some a.block = (Value.slice A n c).ownBlock) ∧ ∀ g, (Value.slice A' (n + m) c').ownBlock = some g → ∀ j u, w'.cell? ⟨g, j, none⟩ = some u → K u := by
    intro hg
    have hold : (Builtin.firstCells i.size n (.slice A n c)).run P w.drew = .ok xs.toArray w.drew := by
      rcases A with _ | a
      · rcases ho.2 with ⟨e1, e2⟩ | ⟨g, cap, cur, e1, _⟩
        · subst e2
          obtain rfl : xs = [] := List.eq_nil_of_length_eq_zero (by omega)
          injection e1 with _ _ e3
          exact run_firstCells_none w.drew i.size 0 0 c
        · cases e1
      · exact run_firstCells_some w.drew i.size n a n c xs (by rw [hlen, hs]) (by simpa using rowCells ho)
    have hr := run_append_grow_src (P := P) w t tx ty e i z he.slice hi hz A n c xs hold x m ys hsrc hg (by omega) (growslice_fits hg (by rw [hb]; omega))
    have hge := grownCap_ge w (n + m) c e
    have hcm := grownCap_le_maxLen w (n + m) c e (by simp only [maxLen]; omega)
    refine ⟨_, _, _, hr, ⟨by rw [List.length_append, hlen, hlen2, Nat.add_mul], .inr ⟨w.heap.size, _, _, rfl, hbase, heap_alloc_new w.drew _, hge, hcm, ?_, ?_⟩⟩, ⟨rfl, rfl, rfl, by simp, fun k hk _ => heap_alloc_old w.drew _ hk⟩, fun a ha => .inl (by injection ha with ha; rw [← ha]), fun g hg' j u hu => ?_⟩
    · simp only [Array.size_append, List.size_toArray, size_zeroCells, hzs, List.length_append, hlen, hlen2]
      rw [← Nat.add_mul, ← Nat.add_mul]
      congr 1
      omega
    · simp only [Array.toList_append]
      have : (n + m) * size = (xs ++ ys).length := by rw [List.length_append, hlen, hlen2, Nat.add_mul]
      rw [this, List.take_append_of_le_length (Nat.le_refl _), List.take_of_length_le (Nat.le_refl _)]
    · simp only [Value.ownBlock, Option.some.injEq] at hg'
      subst hg'
      have hh := heap_alloc_new w.drew (.cells ((xs ++ ys).toArray ++ Builtin.zeroCells z.cells (grownCap w (n + m) c e - (n + m))) e)
      have hu2 := (cell_of_row _ _ j _ _ _ hh).symm.trans hu
      exact cells_kind (List.forall_mem_append.2 ⟨hKx, hKy⟩) hKz hu2
  rcases ho.2 with ⟨e1, hn0⟩ | ⟨g, cap, cur, e1, hbg, hg, hnc, hcm, hcs, htake⟩
  · injection e1 with e1 e2 e3
    subst e1; subst e2; subst e3
    obtain rfl : xs = [] := List.eq_nil_of_length_eq_zero (by omega)
    by_cases hm : m = 0
    · subst hm
      have h2 : ys = [] := List.eq_nil_of_length_eq_zero (by omega)
      subst h2
      refine ⟨none, 0, w, ?_, ⟨by simp, .inl ⟨rfl, rfl⟩⟩, World.grownBy.refl w _, (fun a ha => by cases ha), (fun g hg' => by cases hg')⟩
      rcases hsrc.kind with ⟨e', hk⟩ | hk <;> simp [Builtin.append_, run_underlying he.slice, run_underlying hk, sizeOf, typeInfo, hi, hsrc.len, hsrc.cells]
    · exact grows (by omega)
  · injection e1 with e1 e2 e3
    subst e1; subst e3
    by_cases hroom : n + m ≤ c
    · have hmul : (n + m) * size ≤ c * size := Nat.mul_le_mul_right _ hroom
      rw [Nat.add_mul] at hmul
      have hr := run_append_room_src (P := P) w t tx ty e i he.slice hi g 0 n c x m ys hsrc hroom
        (fun j hj => by rw [cell_of_row w g _ cur _ _ hg, hs, Array.getElem?_eq_getElem (by omega)]; rfl) (fun j hj => by simp [World.frozen?, hg])
      rw [hs] at hr
      have hh := heap_cells g ys (0 + n * size) w cur e hg (by omega)
      obtain ⟨o1, o2, o3, o4⟩ := setCells_os g ys (0 + n * size) w
      have htl : (cur.toList.take (0 + n * size)) = xs := by rw [Nat.zero_add]; exact htake
      rw [htl] at hh
      refine ⟨_, _, _, hr, ⟨by rw [List.length_append, hlen, hlen2, Nat.add_mul], .inr ⟨g, c, _, rfl, hbg, hh, hroom, hcm, ?_, ?_⟩⟩, ⟨o1, o2, o3, by rw [o4]; exact Nat.le_refl _, fun k _ hk => heap_cells_far g k (fun e => hk (by simp [Value.ownBlock, e])) _ _ _⟩, fun a ha => .inr (by injection ha with ha; rw [← ha]; rfl), fun g' hg' j u hu => ?_⟩
      · simp only [List.size_toArray, List.length_append, List.length_drop, Array.length_toList]
        omega
      · have : (n + m) * size = (xs ++ ys).length := by rw [List.length_append, hlen, hlen2, Nat.add_mul]
        rw [this]
        rw [List.take_append_of_le_length (Nat.le_refl _), List.take_of_length_le (Nat.le_refl _)]
      · simp only [Value.ownBlock, Option.some.injEq] at hg'
        subst hg'
        rw [cell_of_row _ _ _ _ _ _ hh] at hu
        have hm := Array.mem_of_getElem? hu
        simp only [List.mem_toArray, List.mem_append] at hm
        rcases hm with (hm | hm) | hm
        · exact hKx u hm
        · exact hKy u hm
        · obtain ⟨q, hq, e⟩ := List.getElem_of_mem (List.mem_of_mem_drop hm)
          refine hK g rfl q u ?_
          rw [cell_of_row w g q cur _ _ hg, ← e]
          simp at hq ⊢
    · exact grows (by omega)


section
variable {P : Program} {w : World} {ops : Array Oper} {rest : List Oper} {o : Oper} {a : Act} {Q : Exit → Act → World → Prop}
/-- At the walk's operation: behind it 'intro A' c' w' ho' hg' hat' hk''. -/
theorem wpList_append_rowK (hgd : o.guard = none) (s x : Operand) (t tx : TypeId) (hop : o.op = .call { callee := .builtin .append, args := #[s, x], argTypes := #[t, tx] })
    {base n c m size bytes : Nat} {A : Option Addr} {xs ys : List Value} {e : TypeId} {z vx : Value} (he : Elem P t e z size bytes)
    (hs : a.eval s = .slice A n c) (hxv : a.eval x = vx) (ho : w.ownsRow base e size (.slice A n c) n xs) (hx : Src P size tx vx m ys w) (h46 : n + m ≤ 1099511627776) (hbase : base ≤ w.heap.size)
    (K : Value → Prop) (hK : ∀ g, (Value.slice A n c).ownBlock = some g → ∀ j u, w.cell? ⟨g, j, none⟩ = some u → K u) (hKx : ∀ u ∈ xs, K u) (hKy : ∀ u ∈ ys, K u) (hKz : ∀ u ∈ z.cells, K u)
    (h : ∀ A' c' w', w'.ownsRow base e size (.slice A' (n + m) c') (n + m) (xs ++ ys) → w.grownBy w' (Value.slice A n c).ownBlock → (∀ a, A' = some a → a.block = w.heap.size ∨ some a.block = (Value.slice A n c).ownBlock) →
      (∀ g, (Value.slice A' (n + m) c').ownBlock = some g → ∀ j u, w'.cell? ⟨g, j, none⟩ = some u → K u) → wpList P ops Q rest (a.put o.dst (.slice A' (n + m) c')) w') : wpList P ops Q (o :: rest) a w := by
  obtain ⟨A', c', w', hr, h1, h2, h3, h4⟩ := run_append_rowK o.type he ho hx h46 hbase K hK hKx hKy hKz
  exact Lib.wpList_append_run w hgd s x _ _ hop _ _ hs hxv _ _ hr (h A' c' w' h1 h2 h3 h4)
theorem step_append_rowK {K' : Act → World → Prop} {E : Prop} (hgd : o.guard = none) (s x : Operand) (t tx : TypeId) (hop : o.op = .call { callee := .builtin .append, args := #[s, x], argTypes := #[t, tx] })
    {base n c m size bytes : Nat} {A : Option Addr} {xs ys : List Value} {e : TypeId} {z vx : Value} (he : Elem P t e z size bytes)
    (hs : a.eval s = .slice A n c) (hxv : a.eval x = vx) (ho : w.ownsRow base e size (.slice A n c) n xs) (hx : Src P size tx vx m ys w) (h46 : n + m ≤ 1099511627776) (hbase : base ≤ w.heap.size)
    (K : Value → Prop) (hK : ∀ g, (Value.slice A n c).ownBlock = some g → ∀ j u, w.cell? ⟨g, j, none⟩ = some u → K u) (hKx : ∀ u ∈ xs, K u) (hKy : ∀ u ∈ ys, K u) (hKz : ∀ u ∈ z.cells, K u)
    (h : ∀ A' c' w', w'.ownsRow base e size (.slice A' (n + m) c') (n + m) (xs ++ ys) → w.grownBy w' (Value.slice A n c).ownBlock → (∀ a, A' = some a → a.block = w.heap.size ∨ some a.block = (Value.slice A n c).ownBlock) →
      (∀ g, (Value.slice A' (n + m) c').ownBlock = some g → ∀ j u, w'.cell? ⟨g, j, none⟩ = some u → K u) → K' (a.put o.dst (.slice A' (n + m) c')) w') :
    if Region.wanted o (yielded ops a.tmps) = true then Oper.wp P o a w K' Q else E := by
  have hw : Region.wanted o (yielded ops a.tmps) = true := by simp [Region.wanted, hgd]
  rw [if_pos hw]
  obtain ⟨A', c', w', hr, h1, h2, h3, h4⟩ := run_append_rowK o.type he ho hx h46 hbase K hK hKx hKy hKz
  unfold Oper.wp
  simp [execOp, hop, resolve, invoke, builtin, hs, hxv, hr, Result.andThen]
  exact h A' c' w' h1 h2 h3 h4
end

/-- No texts; no texts and no numbers. -/
def NoS (u : Value) : Prop := ∀ s, u ≠ .string s
def NoSI (u : Value) : Prop := (∀ s, u ≠ .string s) ∧ ∀ k i, u ≠ .int k i
/-- Kinds of the cells of a row's own block. -/
def Kin (K : Value → Prop) (w : World) (v : Value) : Prop := ∀ g, v.ownBlock = some g → ∀ j u, w.cell? ⟨g, j, none⟩ = some u → K u
theorem Kin.nil (K : Value → Prop) (w : World) : Kin K w (.slice none 0 0) := fun g hg => by cases hg
theorem Kin.keep {K : Value → Prop} {w w' : World} {base N size : Nat} {e : TypeId} {v : Value} {vs : List Value} (h : Kin K w v) (hr : w.ownsRow base e size v N vs) (hb : Below w.heap.size w w') : Kin K w' v := fun g hg j u hu =>
  h g hg j u ((hb.cell (p := ⟨g, j, none⟩) ((hr.lt g hg).2)).symm.trans hu)
section
variable {w w' : World} {B : Nat} {v : Value} {K : Value → Prop}
theorem cell_grown (hg : w.grownBy w' v.ownBlock) (hk : Kin K w v) {b o : Nat} {u : Value} (h : w.cell? ⟨b, o, none⟩ = some u) (hu : ¬ K u) : w'.cell? ⟨b, o, none⟩ = some u := by
  refine hg.cell h (fun e => hu (hk b e.symm o u h))
theorem SeesV.grown {A : Option Addr} {n : Nat} {l : List (List UInt8)} (hg : w.grownBy w' v.ownBlock) (hk : Kin NoS w v) (h : SeesV w B A n (l.map encs)) : SeesV w' B A n (l.map encs) :=
  ⟨h.len, fun j u hu => by
    obtain ⟨b, o, e, hb, hc⟩ := h.cell j u hu
    refine ⟨b, o, e, hb, cell_grown hg hk hc (fun hn => ?_)⟩
    rw [List.getElem?_map, Option.map_eq_some_iff] at hu
    obtain ⟨x, _, rfl⟩ := hu
    exact hn _ rfl⟩
theorem Kin.weak (h : Kin NoSI w v) : Kin NoS w v := fun g hg j u hu => (h g hg j u hu).1
theorem Fs.grown {A : Option Addr} {n : Nat} {fs : List Fld} (hg : w.grownBy w' v.ownBlock) (hk : Kin NoSI w v) (h : Fs w B A n fs) : Fs w' B A n fs :=
  ⟨h.len, fun j f hf => by
    obtain ⟨b, o, e, hb, A2, n2, c2, h1, h2, h3, h4, h5, h6⟩ := h.cell j f hf
    have hne : v.ownBlock ≠ some b := fun e => (hk b e _ _ h3).2 _ _ rfl
    have hcell : ∀ q u, w.cell? ⟨b, q, none⟩ = some u → w'.cell? ⟨b, q, none⟩ = some u := fun q u hq => hg.cell hq (fun e => hne e.symm)
    exact ⟨b, o, e, hb, A2, n2, c2, hcell _ _ h1, hcell _ _ h2, hcell _ _ h3, hcell _ _ h4, SeesV.grown hg hk.weak h5, h6⟩⟩
theorem RowF.grown (hg : w.grownBy w' v.ownBlock) (hk : Kin NoS w v) : ∀ {vs : List Value} {fs : List Fld}, RowF w B vs fs → RowF w' B vs fs
  | [], [], h => h
  | .bool _ :: .slice _ _ _ :: .int .i64 _ :: .bool _ :: _, _ :: _, ⟨h1, h2, h3, h4, h5, h6, h7⟩ => ⟨h1, h2, h3, SeesV.grown hg hk h4, h5, h6, RowF.grown hg hk h7⟩
theorem RowD.grown (hg : w.grownBy w' v.ownBlock) (hk : Kin NoSI w v) : ∀ {vs : List Value} {fs : List Df}, RowD w B vs fs → RowD w' B vs fs
  | [], [], h => h
  | .slice _ _ _ :: .bool _ :: .bool _ :: _, _ :: _, ⟨h1, h2, h3, h4, h5, h6⟩ => ⟨h1, h2, Fs.grown hg hk h3, h4, h5, RowD.grown hg hk h6⟩
end
theorem RowF.kinds {w : World} {B : Nat} : ∀ {vs : List Value} {fs : List Fld}, RowF w B vs fs → ∀ u ∈ vs, NoS u
  | [], [], _, u, hu => by cases hu
  | .bool _ :: .slice _ _ _ :: .int .i64 _ :: .bool _ :: _, _ :: _, ⟨_, _, _, _, _, _, h7⟩, u, hu => by
    simp only [List.mem_cons] at hu
    rcases hu with rfl | rfl | rfl | rfl | hu
    · exact fun s h => by cases h
    · exact fun s h => by cases h
    · exact fun s h => by cases h
    · exact fun s h => by cases h
    · exact RowF.kinds h7 u hu
theorem RowD.kinds {w : World} {B : Nat} : ∀ {vs : List Value} {fs : List Df}, RowD w B vs fs → ∀ u ∈ vs, NoSI u
  | [], [], _, u, hu => by cases hu
  | .slice _ _ _ :: .bool _ :: .bool _ :: _, _ :: _, ⟨_, _, _, _, _, h7⟩, u, hu => by
    simp only [List.mem_cons] at hu
    rcases hu with rfl | rfl | rfl | hu
    · exact ⟨fun s h => (by cases h), fun k i h => (by cases h)⟩
    · exact ⟨fun s h => (by cases h), fun k i h => (by cases h)⟩
    · exact ⟨fun s h => (by cases h), fun k i h => (by cases h)⟩
    · exact RowD.kinds h7 u hu
theorem zero_field : ∀ u ∈ (Value.agg #[.bool false, .slice none 0 0, .int .i64 0, .bool false]).cells, NoS u := by
  intro u hu
  simp [Value.cells] at hu
  rcases hu with rfl | rfl | rfl | rfl <;> exact fun s h => by cases h
theorem zero_def : ∀ u ∈ (Value.agg #[.slice none 0 0, .bool false, .bool false]).cells, NoSI u := by
  intro u hu
  simp [Value.cells] at hu
  rcases hu with rfl | rfl | rfl <;> exact ⟨fun s h => (by cases h), fun k i h => (by cases h)⟩
end Go.Proofs.Ytagoeededpmdkaa.Sc
