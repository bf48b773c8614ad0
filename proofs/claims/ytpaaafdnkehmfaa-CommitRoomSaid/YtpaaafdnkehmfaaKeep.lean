/- The second writer (by itself): Int, Byte, Text onto a row of one's own, which stays what it was. -/
import Derived.Test.YtpaaafdnkehmfaaKnown
namespace Go.Proofs.Ytpaaafdnkehmfaa
open Go.RowKit

/-- append onto a row of the call's own, whatever the source: the first argument stays what it was. -/
theorem run_append_keep {w : World} {base n c m : Nat} {A : Option Addr} {l l2 : List UInt8} {tx : TypeId} {x : Value} (ty : TypeId) (ho : Own w base A n c l) (hx : From Try.prog w tx x m l2) (h46 : n + m ≤ 70368744177664) (hbase : base ≤ w.heap.size) :
    ∃ A' N c' w', (Builtin.append_ #[31, tx] ty #[.slice A n c, x]).run Try.prog w = .ok (.slice A' N c') w' ∧ Own w' base A' N c' (l ++ l2) ∧ w.grownBy w' (Value.slice A n c).ownBlock ∧
      (A' = A ∧ c' = c ∨ ∀ a, A' = some a → w.heap.size ≤ a.block) ∧ Own w' base A n c l := by
  obtain ⟨i, hi, hz, hs, hb⟩ := info_parts info_u8
  have hzs : (Value.int IntKind.u8 0).cells.size = 1 := rfl
  have hsrc := hx.src
  rw [← hs] at hsrc
  have hlen := ho.len
  have hlen2 := hx.len
  -- there is none
  have grows : ∀ (hg : c < n + m), ∃ A' N c' w', (Builtin.append_ #[31, tx] ty #[.slice A n c, x]).run Try.prog w = .ok (.slice A' N c') w' ∧ Own w' base A' N c' (l ++ l2) ∧ w.grownBy w' (Value.slice A n c).ownBlock ∧
      (A' = A ∧ c' = c ∨ ∀ a, A' = some a → w.heap.size ≤ a.block) ∧ Own w' base A n c l := by
    intro hg
    have hold : (Builtin.firstCells i.size n (.slice A n c)).run Try.prog w.drew = .ok (byts l).toArray w.drew := by
      rcases A with _ | a
      · obtain ⟨rfl, rfl⟩ := ho.sees.empty
        exact run_firstCells_none w.drew i.size 0 0 c
      · exact run_firstCells_some w.drew i.size n a n c (byts l) (by rw [byts_length, hs]; omega) (by simpa using ho.sees.cells)
    have hr := run_append_grow_src (P := Try.prog) w 31 tx ty 5 i (.int .u8 0) Try.underlying31 hi hz A n c (byts l) hold x m (byts l2) hsrc hg (by omega) (growslice_fits hg (by rw [hb]; omega))
    have hge := grownCap_ge w (n + m) c 5
    have hcm := grownCap_le_maxLen w (n + m) c 5 (by simp only [maxLen]; omega)
    refine ⟨_, _, _, _, hr, ⟨⟨by rw [byts_length, List.length_append]; omega, .inr ⟨w.heap.size, _, _, rfl, hbase, heap_alloc_new w.drew _, hge, hcm, ?_, ?_⟩⟩⟩, ⟨rfl, rfl, rfl, by simp, fun k hk _ => heap_alloc_old w.drew _ hk⟩, Or.inr (fun a ha => by injection ha with ha; rw [← ha]; exact Nat.le_refl _), (ho.drew).alloc _⟩
    · simp only [Array.size_append, List.size_toArray, size_zeroCells, hzs, List.length_append, byts_length]
      omega
    · simp only [Array.toList_append, byts_append]
      rw [List.take_append_of_le_length (by simp [byts_length]; omega), List.take_of_length_le (by simp [byts_length]; omega)]
  rcases ho.row.2 with ⟨e, hn0⟩ | ⟨g, cap, cur, e, hbg, hg, hnc, hcm, hcs, htake⟩
  · injection e with e1 e2 e3
    subst e1; subst e2; subst e3
    obtain ⟨rfl, _⟩ := ho.sees.empty
    by_cases hm : m = 0
    · subst hm
      have h2 : l2 = [] := List.eq_nil_of_length_eq_zero hlen2.symm
      subst h2
      refine ⟨none, 0, 0, w, ?_, Own.nil w base, World.grownBy.refl w _, Or.inl ⟨rfl, rfl⟩, ho⟩
      rcases hsrc.kind with ⟨e', hk⟩ | hk <;> simp [Builtin.append_, run_underlying Try.underlying31, run_underlying hk, sizeOf, typeInfo, hi, hsrc.len, hsrc.cells, byts]
    · exact grows (by omega)
  · injection e with e1 e2 e3
    subst e1; subst e3
    by_cases hroom : n + m ≤ c
    · have hl : (byts l2).length = m := by rw [byts_length]; omega
      have hr := run_append_room_src (P := Try.prog) w 31 tx ty 5 i Try.underlying31 hi g 0 n c x m (byts l2) hsrc hroom
        (fun j hj => by rw [cell_of_row w g _ cur _ _ hg, hs, Array.getElem?_eq_getElem (by omega)]; rfl) (fun j hj => by simp [World.frozen?, hg])
      rw [hs] at hr
      have hh := heap_cells g (byts l2) (0 + n * 1) w cur 5 hg (by omega)
      obtain ⟨o1, o2, o3, o4⟩ := setCells_os g (byts l2) (0 + n * 1) w
      have htl : (cur.toList.take (0 + n * 1)) = byts l := by rw [Nat.zero_add]; exact htake
      rw [htl] at hh
      refine ⟨_, _, _, _, hr, ⟨⟨by rw [byts_length, List.length_append]; omega, .inr ⟨g, c, _, rfl, hbg, hh, hroom, hcm, ?_, ?_⟩⟩⟩, ⟨o1, o2, o3, by rw [o4]; exact Nat.le_refl _, fun k _ hk => heap_cells_far g k (fun e => hk (by simp [Value.ownBlock, e])) _ _ _⟩, Or.inl ⟨rfl, rfl⟩, ⟨⟨by rw [byts_length]; omega, .inr ⟨g, c, _, rfl, hbg, hh, hnc, hcm, ?_, ?_⟩⟩⟩⟩
      · simp only [List.size_toArray, List.length_append, List.length_drop, Array.length_toList, byts_length]
        omega
      · simp only [byts_append]
        rw [List.take_append_of_le_length (by simp [byts_length]; omega), List.take_of_length_le (by simp [byts_length]; omega)]
      · simp only [List.size_toArray, List.length_append, List.length_drop, Array.length_toList, byts_length]
        omega
      · rw [List.append_assoc, List.take_append_of_le_length (by simp [byts_length]; omega), List.take_of_length_le (by simp [byts_length]; omega)]
    · exact grows (by omega)

theorem wpList_append_keep {w : World} {ops : Array Oper} {rest : List Oper} {o : Oper} {a : Act} {Q : Exit → Act → World → Prop} (hgd : o.guard = none) (s x : Operand) (tx : TypeId)
    (hop : o.op = .call { callee := .builtin .append, args := #[s, x], argTypes := #[31, tx] })
    {base n c m : Nat} {A : Option Addr} {l l2 : List UInt8} {vx : Value} (hs : a.eval s = .slice A n c) (hxv : a.eval x = vx) (ho : Own w base A n c l) (hx : From Try.prog w tx vx m l2) (h46 : n + m ≤ 70368744177664) (hbase : base ≤ w.heap.size)
    (h : ∀ A' N c' w', Own w' base A' N c' (l ++ l2) → w.grownBy w' (Value.slice A n c).ownBlock → (A' = A ∧ c' = c ∨ ∀ a, A' = some a → w.heap.size ≤ a.block) → Own w' base A n c l → wpList Try.prog ops Q rest (a.put o.dst (.slice A' N c')) w') :
    wpList Try.prog ops Q (o :: rest) a w := by
  obtain ⟨A', N, c', w', hr, h1, h2, h3, h4⟩ := run_append_keep o.type ho hx h46 hbase
  exact Lib.wpList_append_run w hgd s x _ _ hop _ _ hs hxv _ _ hr (h A' N c' w' h1 h2 h3 h4)

theorem Own.prefix_ {w : World} {base n N c : Nat} {A : Option Addr} {l m : List UInt8} (h : Own w base A N c (l ++ m)) (hn : n = l.length) (hA : A = none → c = 0) : Own w base A n c l := by
  have hlen := h.len
  rw [List.length_append] at hlen
  rcases h.row.2 with ⟨e, hN⟩ | ⟨g, cap, cur, e, hbg, hg, hnc, hcm, hcs, htake⟩
  · injection e with e1 e2 e3
    subst e1; subst e3
    refine ⟨⟨by rw [byts_length]; omega, .inl ⟨?_, by omega⟩⟩⟩
    rw [show n = 0 by omega]
  · injection e with e1 e2 e3
    subst e1; subst e3
    refine ⟨⟨by rw [byts_length]; omega, .inr ⟨g, c, cur, rfl, hbg, hg, by omega, hcm, hcs, ?_⟩⟩⟩
    have h2 : (cur.toList.take (N * 1)).take n = byts l := by
      rw [htake, byts_append, List.take_append_of_le_length (by rw [byts_length]; omega), List.take_of_length_le (by rw [byts_length]; omega)]
    rw [List.take_take, Nat.min_eq_left (by omega)] at h2
    rw [Nat.mul_one]
    exact h2

/-- Where a row came from the first one: at its place, or in memory that is newer than w0. -/
def Near (w0 : World) (A : Option Addr) (c : Nat) (A1 : Option Addr) (c1 : Nat) : Prop := A1 = A ∧ c1 = c ∨ ∀ a, A1 = some a → w0.heap.size ≤ a.block

/-- One append more onto what came from the first row: the first row stays, and only its block, or newer ones, are other ones. -/
theorem near_step {w0 wr w' : World} {base n c N1 c1 c' : Nat} {A A1 A' : Option Addr} {l l1 : List UInt8} (ho0 : Own w0 base A n c l) (ho : Own wr base A n c l) (hn : Near w0 A c A1 c1) (hg0 : w0.grownBy wr (Value.slice A n c).ownBlock)
    (hg : wr.grownBy w' (Value.slice A1 N1 c1).ownBlock) (hA' : A' = A1 ∧ c' = c1 ∨ ∀ a, A' = some a → wr.heap.size ≤ a.block) (ho1 : Own w' base A1 N1 c1 (l ++ l1)) :
    Own w' base A n c l ∧ Near w0 A c A' c' ∧ w0.grownBy w' (Value.slice A n c).ownBlock := by
  have hnl := ho0.len
  have hN : Near w0 A c A' c' := by
    rcases hA' with ⟨rfl, rfl⟩ | h
    · exact hn
    · exact .inr fun a ha => Nat.le_trans hg0.size (h a ha)
  rcases hn with ⟨rfl, rfl⟩ | h
  · refine ⟨ho1.prefix_ hnl (fun e => ?_), hN, World.grownBy.trans hg0 (by cases A1 <;> exact hg)⟩
    subst e
    rcases ho0.row.2 with ⟨e, _⟩ | ⟨g, cap, cur, e, _⟩
    · injection e
    · injection e with e1; cases e1
  · have hb : ∀ k, (Value.slice A1 N1 c1).ownBlock = some k → w0.heap.size ≤ k := by
      intro k hk
      cases A1 with
      | none => cases hk
      | some a => injection hk with hk; rw [← hk]; exact h a rfl
    refine ⟨⟨ho.row.kept hg ?_⟩, hN, ⟨hg.os.trans hg0.os, hg.tape.trans hg0.tape, hg.output.trans hg0.output, Nat.le_trans hg0.size hg.size, fun i hi hne => (hg.block i (Nat.lt_of_lt_of_le hi hg0.size) (fun e => by have := hb i e.symm; omega)).trans (hg0.block i hi hne)⟩⟩
    cases hv : (Value.slice A n c).ownBlock with
    | none => exact .inl rfl
    | some k =>
      refine .inr fun e => ?_
      have h1 := (ho0.lt k hv).2
      have h2 := hb k e.symm
      omega
end Go.Proofs.Ytpaaafdnkehmfaa
