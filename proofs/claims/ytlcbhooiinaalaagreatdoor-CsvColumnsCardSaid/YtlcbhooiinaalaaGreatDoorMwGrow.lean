/- append onto a row of the call's own, elements of any number of cells, whatever the source; at an operation of the walk, plain or inside a fence. Conditions: lengths below 2^40, elements of at most 64 bytes. · With of the reference: a tree, with something below a name. Conditions: fewer edges than 2^39. -/
import Derived.Test.YtlcbhooiinaalaaGreatDoorMwCount
import Derived.OwnWalkIn
namespace Go.Proofs.YtlcbhooiinaalaaGreatDoor
open Go.RowKit
set_option maxRecDepth 100000

/-- The element type's row of the table: its zero value, cells, bytes. -/
structure Elem (P : Program) (t e : TypeId) (z : Value) (size bytes : Nat) : Prop where
  slice : P.underlying t = some (.slice e)
  info : (P.info? e).map (fun i => (i.zero, i.size, i.bytes)) = some (some z, size, bytes)
  cells : z.cells.size = size
  small : bytes ≤ 64

theorem rowCells {w : World} {base n c size : Nat} {e : TypeId} {a : Addr} {xs : List Value} (h : w.ownsRow base e size (.slice (some a) n c) n xs) : ∀ j u, xs[j]? = some u → w.cell? (a.add j) = some u := by
  intro j u hu
  rcases h.2 with ⟨e1, _⟩ | ⟨g, cap, cur, e1, _, hh, _, _, _, htk⟩
  · cases e1
  · injection e1 with e1
    cases e1
    rw [Addr.add_lit, Nat.zero_add, cell_of_row w g j cur _ _ hh]
    rw [← htk, List.getElem?_take] at hu
    split at hu
    · simpa using hu
    · cases hu

theorem run_append_row {P : Program} {w : World} {base n c m size bytes : Nat} {A : Option Addr} {xs ys : List Value} {t tx e : TypeId} {z x : Value} (ty : TypeId) (he : Elem P t e z size bytes)
    (ho : w.ownsRow base e size (.slice A n c) n xs) (hx : Src P size tx x m ys w) (h46 : n + m ≤ 1099511627776) (hbase : base ≤ w.heap.size) :
    ∃ A' c' w', (Builtin.append_ #[t, tx] ty #[.slice A n c, x]).run P w = .ok (.slice A' (n + m) c') w' ∧ w'.ownsRow base e size (.slice A' (n + m) c') (n + m) (xs ++ ys) ∧ w.grownBy w' (Value.slice A n c).ownBlock ∧
      (∀ a, A' = some a → a.block = w.heap.size ∨ some a.block = (Value.slice A n c).ownBlock) := by
  obtain ⟨i, hi, hz, hs, hb⟩ := info_parts he.info
  have hzs := he.cells
  have hsrc := hx
  rw [← hs] at hsrc
  have hlen := ho.1
  have hlen2 := hx.newsLen
  have hbb : (n + m) * bytes ≤ 1099511627776 * 64 := Nat.mul_le_mul h46 he.small
  have grows : ∀ (hg : c < n + m), ∃ A' c' w', (Builtin.append_ #[t, tx] ty #[.slice A n c, x]).run P w = .ok (.slice A' (n + m) c') w' ∧ w'.ownsRow base e size (.slice A' (n + m) c') (n + m) (xs ++ ys) ∧ w.grownBy w' (Value.slice A n c).ownBlock ∧
      (∀ a, A' = some a → a.block = w.heap.size ∨ some a.block = (Value.slice A n c).ownBlock) := by
    intro hg
    have hold : (Builtin.firstCells i.size n (.slice A n c)).run P w.drew = .ok xs.toArray w.drew := by
      rcases A with _ | a
      · rcases ho.2 with ⟨e1, e2⟩ | ⟨g, cap, cur, e1, _⟩
        · subst e2
          obtain rfl : xs = [] := List.eq_nil_of_length_eq_zero (by omega)
          injection e1 with _ _ e3
          exact run_firstCells_none w.drew i.size 0 0 c
        · cases e1
      · exact run_firstCells_some w.drew i.size n a n c xs (by rw [hlen, hs]) (by simpa using rowCells ho)
    have hr := run_append_grow_src (P := P) w t tx ty e i z he.slice hi hz A n c xs hold x m ys hsrc hg (by omega) (growslice_fits hg (by rw [hb]; omega))
    have hge := grownCap_ge w (n + m) c e
    have hcm := grownCap_le_maxLen w (n + m) c e (by simp only [maxLen]; omega)
    refine ⟨_, _, _, hr, ⟨by rw [List.length_append, hlen, hlen2, Nat.add_mul], .inr ⟨w.heap.size, _, _, rfl, hbase, heap_alloc_new w.drew _, hge, hcm, ?_, ?_⟩⟩, ⟨rfl, rfl, rfl, by simp, fun k hk _ => heap_alloc_old w.drew _ hk⟩, fun a ha => .inl (by injection ha with ha; rw [← ha])⟩
    · simp only [Array.size_append, List.size_toArray, size_zeroCells, hzs, List.length_append, hlen, hlen2]
      rw [← Nat.add_mul, ← Nat.add_mul]
      congr 1
      omega
    · simp only [Array.toList_append]
      have : (n + m) * size = (xs ++ ys).length := by rw [List.length_append, hlen, hlen2, Nat.add_mul]
      rw [this, List.take_append_of_le_length (Nat.le_refl _), List.take_of_length_le (Nat.le_refl _)]
  rcases ho.2 with ⟨e1, hn0⟩ | ⟨g, cap, cur, e1, hbg, hg, hnc, hcm, hcs, htake⟩
  · injection e1 with e1 e2 e3
    subst e1; subst e2; subst e3
    obtain rfl : xs = [] := List.eq_nil_of_length_eq_zero (by omega)
    by_cases hm : m = 0
    · subst hm
      have h2 : ys = [] := List.eq_nil_of_length_eq_zero (by omega)
      subst h2
      refine ⟨none, 0, w, ?_, ⟨by simp, .inl ⟨rfl, rfl⟩⟩, World.grownBy.refl w _, fun a ha => by cases ha⟩
      rcases hsrc.kind with ⟨e', hk⟩ | hk <;> simp [Builtin.append_, run_underlying he.slice, run_underlying hk, sizeOf, typeInfo, hi, hsrc.len, hsrc.cells]
    · exact grows (by omega)
  · injection e1 with e1 e2 e3
    subst e1; subst e3
    by_cases hroom : n + m ≤ c
    · have hmul : (n + m) * size ≤ c * size := Nat.mul_le_mul_right _ hroom
      rw [Nat.add_mul] at hmul
      have hr := run_append_room_src (P := P) w t tx ty e i he.slice hi g 0 n c x m ys hsrc hroom
        (fun j hj => by rw [cell_of_row w g _ cur _ _ hg, hs, Array.getElem?_eq_getElem (by omega)]; rfl) (fun j hj => by simp [World.frozen?, hg])
      rw [hs] at hr
      have hh := heap_cells g ys (0 + n * size) w cur e hg (by omega)
      obtain ⟨o1, o2, o3, o4⟩ := setCells_os g ys (0 + n * size) w
      have htl : (cur.toList.take (0 + n * size)) = xs := by rw [Nat.zero_add]; exact htake
      rw [htl] at hh
      refine ⟨_, _, _, hr, ⟨by rw [List.length_append, hlen, hlen2, Nat.add_mul], .inr ⟨g, c, _, rfl, hbg, hh, hroom, hcm, ?_, ?_⟩⟩, ⟨o1, o2, o3, by rw [o4]; exact Nat.le_refl _, fun k _ hk => heap_cells_far g k (fun e => hk (by simp [Value.ownBlock, e])) _ _ _⟩, fun a ha => .inr (by injection ha with ha; rw [← ha]; rfl)⟩
      · simp only [List.size_toArray, List.length_append, List.length_drop, Array.length_toList]
        omega
      · have : (n + m) * size = (xs ++ ys).length := by rw [List.length_append, hlen, hlen2, Nat.add_mul]
        rw [this]
        rw [List.take_append_of_le_length (Nat.le_refl _), List.take_of_length_le (Nat.le_refl _)]
    · exact grows (by omega)

section
variable {P : Program} {w : World} {ops : Array Oper} {rest : List Oper} {o : Oper} {a : Act} {Q : Exit → Act → World → Prop}
/-- At the walk's operation: behind it 'intro A' c' w' ho' hg' hat''. -/
theorem wpList_append_row (hgd : o.guard = none) (s x : Operand) (t tx : TypeId) (hop : o.op = .call { callee := .builtin .append, args := #[s, x], argTypes := #[t, tx] })
    {base n c m size bytes : Nat} {A : Option Addr} {xs ys : List Value} {e : TypeId} {z vx : Value} (he : Elem P t e z size bytes)
    (hs : a.eval s = .slice A n c) (hxv : a.eval x = vx) (ho : w.ownsRow base e size (.slice A n c) n xs) (hx : Src P size tx vx m ys w) (h46 : n + m ≤ 1099511627776) (hbase : base ≤ w.heap.size)
    (h : ∀ A' c' w', w'.ownsRow base e size (.slice A' (n + m) c') (n + m) (xs ++ ys) → w.grownBy w' (Value.slice A n c).ownBlock → (∀ a, A' = some a → a.block = w.heap.size ∨ some a.block = (Value.slice A n c).ownBlock) →
      wpList P ops Q rest (a.put o.dst (.slice A' (n + m) c')) w') : wpList P ops Q (o :: rest) a w := by
  obtain ⟨A', c', w', hr, h1, h2, h3⟩ := run_append_row o.type he ho hx h46 hbase
  exact Lib.wpList_append_run w hgd s x _ _ hop _ _ hs hxv _ _ hr (h A' c' w' h1 h2 h3)

/-- An append by its run, inside a fence. -/
theorem wpListIn_append_run {F : Fence} {n : Nat} (hgd : o.guard = none) (s x : Operand) (t tn : TypeId)
    (hop : o.op = .call { callee := .builtin .append, args := #[s, x], argTypes := #[t, tn] }) (vs vx : Value) (hs : a.eval s = vs) (hx : a.eval x = vx)
    (v' : Value) (w' : World) (hr : (Builtin.append_ #[t, tn] o.type #[vs, vx]).run P w = .ok v' w') (h : wpListIn F n P ops Q rest (a.put o.dst v') w') : wpListIn F n P ops Q (o :: rest) a w := by
  refine wpListIn_plain hgd fun K hK' => ?_
  unfold Oper.wpIn
  refine ⟨?_, ?_⟩
  · simp [Oper.about, hop, resolve, Target.leads, Sem.run_pure]
  · rw [Oper.semAt_plain F _ _ (by rw [hop]; intro c hc'; cases hc')]
    simp [execOp, hop, resolve, invoke, builtin, hs, hx, hr, Result.andThen]
    exact hK' _ _ h
end
section
variable {w : World} {ops : Array Oper} {rest : List Oper} {o : Oper} {a : Act} {Q : Exit → Act → World → Prop}
theorem wpListIn_append_from {F : Fence} {k : Nat} (hgd : o.guard = none) (s x : Operand) (tx : TypeId)
    (hop : o.op = .call { callee := .builtin .append, args := #[s, x], argTypes := #[26, tx] })
    {base n c m : Nat} {A : Option Addr} {l l2 : List UInt8} {vx : Value} (hs : a.eval s = .slice A n c) (hxv : a.eval x = vx) (ho : Own w base A n c l) (hx : From Tryz.prog w tx vx m l2) (h46 : n + m ≤ 70368744177664) (hbase : base ≤ w.heap.size)
    (h : ∀ A' N c' w', Own w' base A' N c' (l ++ l2) → w.grownBy w' (Value.slice A n c).ownBlock → (∀ a, A' = some a → a.block = w.heap.size ∨ some a.block = (Value.slice A n c).ownBlock) → wpListIn F k Tryz.prog ops Q rest (a.put o.dst (.slice A' N c')) w') :
    wpListIn F k Tryz.prog ops Q (o :: rest) a w := by
  obtain ⟨A', N, c', w', hr, h1, h2, h3⟩ := run_append_from o.type ho hx h46 hbase
  exact wpListIn_append_run hgd s x _ _ hop _ _ hs hxv _ _ hr (h A' N c' w' h1 h2 h3)
/-- The same in a region that draws its order. -/
theorem step_append_from {K : Act → World → Prop} {E : Prop} (hgd : o.guard = none) (s x : Operand) (tx : TypeId)
    (hop : o.op = .call { callee := .builtin .append, args := #[s, x], argTypes := #[26, tx] })
    {base n c m : Nat} {A : Option Addr} {l l2 : List UInt8} {vx : Value} (hs : a.eval s = .slice A n c) (hxv : a.eval x = vx) (ho : Own w base A n c l) (hx : From Tryz.prog w tx vx m l2) (h46 : n + m ≤ 70368744177664) (hbase : base ≤ w.heap.size)
    (h : ∀ A' N c' w', Own w' base A' N c' (l ++ l2) → w.grownBy w' (Value.slice A n c).ownBlock → (∀ a, A' = some a → a.block = w.heap.size ∨ some a.block = (Value.slice A n c).ownBlock) → K (a.put o.dst (.slice A' N c')) w') :
    if Region.wanted o (yielded ops a.tmps) = true then Oper.wp Tryz.prog o a w K Q else E := by
  have hw : Region.wanted o (yielded ops a.tmps) = true := by simp [Region.wanted, hgd]
  rw [if_pos hw]
  obtain ⟨A', N, c', w', hr, h1, h2, h3⟩ := run_append_from o.type ho hx h46 hbase
  unfold Oper.wp
  simp [execOp, hop, resolve, invoke, builtin, hs, hxv, hr, Result.andThen]
  exact h A' N c' w' h1 h2 h3
theorem step_append_row {P : Program} {K : Act → World → Prop} {E : Prop} (hgd : o.guard = none) (s x : Operand) (t tx : TypeId) (hop : o.op = .call { callee := .builtin .append, args := #[s, x], argTypes := #[t, tx] })
    {base n c m size bytes : Nat} {A : Option Addr} {xs ys : List Value} {e : TypeId} {z vx : Value} (he : Elem P t e z size bytes)
    (hs : a.eval s = .slice A n c) (hxv : a.eval x = vx) (ho : w.ownsRow base e size (.slice A n c) n xs) (hx : Src P size tx vx m ys w) (h46 : n + m ≤ 1099511627776) (hbase : base ≤ w.heap.size)
    (h : ∀ A' c' w', w'.ownsRow base e size (.slice A' (n + m) c') (n + m) (xs ++ ys) → w.grownBy w' (Value.slice A n c).ownBlock → (∀ a, A' = some a → a.block = w.heap.size ∨ some a.block = (Value.slice A n c).ownBlock) →
      K (a.put o.dst (.slice A' (n + m) c')) w') :
    if Region.wanted o (yielded ops a.tmps) = true then Oper.wp P o a w K Q else E := by
  have hw : Region.wanted o (yielded ops a.tmps) = true := by simp [Region.wanted, hgd]
  rw [if_pos hw]
  obtain ⟨A', c', w', hr, h1, h2, h3⟩ := run_append_row o.type he ho hx h46 hbase
  unfold Oper.wp
  simp [execOp, hop, resolve, invoke, builtin, hs, hxv, hr, Result.andThen]
  exact h A' c' w' h1 h2 h3
end
end Go.Proofs.YtlcbhooiinaalaaGreatDoor
namespace Go.Proofs.YtlcbhooiinaalaaGreatDoor
open Go.RowKit
set_option maxRecDepth 100000

theorem Holds.drew {w : World} {B n : Nat} {A : Option Addr} {t : Tr} (h : Holds w B A n t) : Holds w.drew B A n t := Holds.keep (w := w) (w' := w.drew) (fun _ _ => rfl) h
theorem Holds.drewN {w : World} {B n : Nat} {A : Option Addr} {t : Tr} (h : Holds w B A n t) (q : Nat) : Holds (w.drewN q) B A n t := Holds.keep (w := w) (w' := w.drewN q) (fun _ _ => rfl) h

/-- The cells of a slice of edges read as a tree. -/
def RowT (w : World) (B : Nat) : List Value → Tr → Prop
  | [], .nil => True
  | .string s' :: .slice A n c :: vs, .cons s k r => s' = s ∧ n ≤ c ∧ c ≤ maxLen ∧ Holds w B A n k ∧ RowT w B vs r
  | _, _ => False
section
variable {w w' : World} {B B' : Nat}
theorem RowT.keep (hk : ∀ p : Addr, p.block < B → w'.cell? p = w.cell? p) : ∀ {vs : List Value} {t : Tr}, RowT w B vs t → RowT w' B vs t
  | [], .nil, h => h
  | .string _ :: .slice _ _ _ :: _, .cons _ _ _, ⟨h1, h2, h3, h4, h5⟩ => ⟨h1, h2, h3, h4.keep hk, RowT.keep hk h5⟩
theorem RowT.more (hB : B ≤ B') : ∀ {vs : List Value} {t : Tr}, RowT w B vs t → RowT w B' vs t
  | [], .nil, h => h
  | .string _ :: .slice _ _ _ :: _, .cons _ _ _, ⟨h1, h2, h3, h4, h5⟩ => ⟨h1, h2, h3, h4.more hB, RowT.more hB h5⟩
theorem RowT.length : ∀ {vs : List Value} {t : Tr}, RowT w B vs t → vs.length = t.len * 2
  | [], .nil, _ => rfl
  | .string _ :: .slice _ _ _ :: vs, .cons _ _ _, ⟨_, _, _, _, h5⟩ => by simp only [List.length_cons, Tr.len, RowT.length h5]; omega
theorem RowT.one : ∀ {vs : List Value} {t : Tr}, RowT w B vs t → ∀ u ∈ vs, u.oneCell' = true
  | [], .nil, _, u, hu => by cases hu
  | .string _ :: .slice _ _ _ :: vs, .cons _ _ _, ⟨_, _, _, _, h5⟩, u, hu => by
    simp only [List.mem_cons] at hu
    rcases hu with rfl | rfl | hu
    · rfl
    · rfl
    · exact RowT.one h5 u hu
/-- What lies in memory as a tree has its cells. -/
theorem Holds.rowT : ∀ {t : Tr} {A : Option Addr} {n : Nat}, Holds w B A n t → ∃ vs, RowT w B vs t ∧ (∀ b o, A = some ⟨b, o, none⟩ → ∀ j u, vs[j]? = some u → w.cell? ⟨b, o + j, none⟩ = some u) ∧ (0 < n → ∃ b o, A = some ⟨b, o, none⟩ ∧ b < B)
  | .nil, _, _, h => ⟨[], trivial, fun _ _ _ j u hu => by simp at hu, fun hn => by rw [show _ = 0 from h] at hn; omega⟩
  | .cons s k r, _, _, ⟨b, o, e, hb, hs, ⟨A', n', c', hc, hn, hm, hk⟩, m, hm1, hr⟩ => by
    obtain ⟨vs, h1, h2, _⟩ := hr.rowT
    refine ⟨.string s :: .slice A' n' c' :: vs, ⟨rfl, hn, hm, hk, h1⟩, ?_, fun _ => ⟨b, o, e, hb⟩⟩
    intro b' o' e' j u hu
    rw [e] at e'
    cases e'
    match j with
    | 0 => simp at hu; subst hu; exact hs
    | 1 => simp at hu; subst hu; exact hc
    | j + 2 =>
      have := h2 b (o + 2) rfl j u (by simpa using hu)
      rw [show o + (j + 2) = o + 2 + j by omega]
      exact this
/-- Cells that read as a tree, at an address. -/
theorem RowT.holds : ∀ {vs : List Value} {t : Tr} {b o : Nat}, RowT w B vs t → b < B → (∀ j u, vs[j]? = some u → w.cell? ⟨b, o + j, none⟩ = some u) → Holds w B (some ⟨b, o, none⟩) t.len t
  | [], .nil, _, _, _, _, _ => rfl
  | .string _ :: .slice A n c :: vs, .cons _ k r, b, o, ⟨h1, h2, h3, h4, h5⟩, hb, hc => by
    subst h1
    refine ⟨b, o, rfl, hb, hc 0 _ rfl, ⟨A, n, c, hc 1 _ rfl, h2, h3, h4⟩, r.len, rfl, RowT.holds h5 hb (fun j u hu => ?_)⟩
    have := hc (j + 2) u (by simpa using hu)
    rw [show o + 2 + j = o + (j + 2) by omega]
    exact this
theorem RowT.take : ∀ {vs : List Value} {t : Tr} (i : Nat), RowT w B vs t → i ≤ t.len → ∃ t1, RowT w B (vs.take (i * 2)) t1 ∧ t1.len = i
  | _, .nil, 0, h, _ => ⟨.nil, by cases ‹List Value› <;> simp_all [RowT], rfl⟩
  | _, .nil, _ + 1, _, hi => by simp [Tr.len] at hi
  | _, .cons _ _ _, 0, _, _ => ⟨.nil, by simp [RowT], rfl⟩
  | .string s :: .slice A n c :: vs, .cons _ k r, i + 1, ⟨h1, h2, h3, h4, h5⟩, hi => by
    obtain ⟨t1, ht, hl⟩ := h5.take i (by simp only [Tr.len] at hi; omega)
    refine ⟨.cons s k t1, ?_, by simp only [Tr.len, hl]⟩
    rw [show (i + 1) * 2 = i * 2 + 1 + 1 by omega]
    exact ⟨rfl, h2, h3, h4, ht⟩
end

/-- With. -/
def Tr.withT : Tr → ByteArray → Tr → Tr
  | .nil, name, x => .cons name x .nil
  | .cons s k r, name, x => if Op.bytesLess s.toList name.toList = true then .cons s k (r.withT name x) else if (s.toList == name.toList) = true then .cons name x r else .cons name x (.cons s k r)

/-- The cells of With's answer. -/
theorem RowT.with_ {w : World} {B : Nat} {name : ByteArray} {x : Tr} {Ax : Option Addr} {nx cx : Nat} (hx : Holds w B Ax nx x) (hn : nx ≤ cx) (hm : cx ≤ maxLen) : ∀ {vs : List Value} {t : Tr}, RowT w B vs t →
    RowT w B (vs.take (t.atN name * 2) ++ [.string name, .slice Ax nx cx] ++ vs.drop ((t.atN name + (t.atIs name).toNat) * 2)) (t.withT name x)
  | [], .nil, _ => ⟨rfl, hn, hm, hx, trivial⟩
  | .string s :: .slice A n c :: vs, .cons _ k r, ⟨h1, h2, h3, h4, h5⟩ => by
    subst h1
    by_cases hl : Op.bytesLess s.toList name.toList = true
    · have ih := RowT.with_ (name := name) hx hn hm h5
      have e1 : (Tr.cons s k r).atN name = r.atN name + 1 := by simp only [Tr.atN]; rw [if_pos hl]
      have e2 : (Tr.cons s k r).atIs name = r.atIs name := by unfold Tr.atIs; rw [e1]; rfl
      have e3 : (Tr.cons s k r).withT name x = .cons s k (r.withT name x) := by simp only [Tr.withT]; rw [if_pos hl]
      rw [e1, e2, e3, show (r.atN name + 1) * 2 = r.atN name * 2 + 1 + 1 by omega, show (r.atN name + 1 + (r.atIs name).toNat) * 2 = (r.atN name + (r.atIs name).toNat) * 2 + 1 + 1 by omega]
      exact ⟨rfl, h2, h3, h4, ih⟩
    · have e1 : (Tr.cons s k r).atN name = 0 := by simp only [Tr.atN]; rw [if_neg hl]
      have e2 : (Tr.cons s k r).atIs name = (s.toList == name.toList) := by unfold Tr.atIs; rw [e1]; rfl
      rw [e1, e2]
      by_cases he : (s.toList == name.toList) = true
      · have e3 : (Tr.cons s k r).withT name x = .cons name x r := by simp only [Tr.withT]; rw [if_neg hl, if_pos he]
        rw [he, e3]
        exact ⟨rfl, hn, hm, hx, h5⟩
      · have e3 : (Tr.cons s k r).withT name x = .cons name x (.cons s k r) := by simp only [Tr.withT]; rw [if_neg hl, if_neg he]
        rw [e3]
        have he2 : (s.toList == name.toList) = false := by simpa using he
        rw [he2]
        exact ⟨rfl, hn, hm, hx, rfl, h2, h3, h4, h5⟩
theorem withT_len (name : ByteArray) (x t : Tr) : (t.withT name x).len + (t.atIs name).toNat = t.len + 1 := by
  induction t with
  | nil => rfl
  | cons s k r _ ih =>
    by_cases hl : Op.bytesLess s.toList name.toList = true
    · have e1 : (Tr.cons s k r).atN name = r.atN name + 1 := by simp only [Tr.atN]; rw [if_pos hl]
      have e2 : (Tr.cons s k r).atIs name = r.atIs name := by unfold Tr.atIs; rw [e1]; rfl
      rw [e2]
      simp only [Tr.withT]
      rw [if_pos hl]
      simp only [Tr.len]
      omega
    · have e1 : (Tr.cons s k r).atN name = 0 := by simp only [Tr.atN]; rw [if_neg hl]
      have e2 : (Tr.cons s k r).atIs name = (s.toList == name.toList) := by unfold Tr.atIs; rw [e1]; rfl
      rw [e2]
      simp only [Tr.withT]
      rw [if_neg hl]
      by_cases he : (s.toList == name.toList) = true
      · rw [if_pos he, he]; simp [Tr.len]
      · rw [if_neg he]
        have he2 : (s.toList == name.toList) = false := by simpa using he
        rw [he2]
        simp [Tr.len]
end Go.Proofs.YtlcbhooiinaalaaGreatDoor
