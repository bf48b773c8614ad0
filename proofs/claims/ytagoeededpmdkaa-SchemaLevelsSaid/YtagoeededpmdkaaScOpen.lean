/- An argument that is a schema, opened. No conditions. -/
import Derived.Test.YtagoeededpmdkaaScFew
import Derived.Test.YtagoeededpmdkaaOpen
namespace Go.Proofs.Ytagoeededpmdkaa.Sc
set_option maxRecDepth 100000
open Go.ChangeShapes Go.WideShapes Go.ChangeAt Go.RowKit Go.Proofs.Ytagoeededpmdkaa.Nm

theorem cells_def : Try.prog.cellsOf 80 = 3 := by kernel_rfl
theorem cells_field : Try.prog.cellsOf 83 = 4 := by kernel_rfl
theorem cells_names : Try.prog.cellsOf 60 = 2 := by kernel_rfl
theorem cells_fields : Try.prog.cellsOf 78 = 1 := by kernel_rfl
theorem cells_strs : Try.prog.cellsOf 49 = 1 := by kernel_rfl
theorem cells_bool : Try.prog.cellsOf 4 = 1 := by kernel_rfl
theorem cells_int : Try.prog.cellsOf 3 = 1 := by kernel_rfl

section
variable {H : Type} {enc : TypeId × Value → H} {W : World}

theorem strs_of {n : Nat} {cs : List Value} {x : DataW H × List MemPlace} (h : DataW.trod enc Try.prog W 0 (fun _ => true) true n 49 cs = some x) :
    ∃ (A : Option Addr) (k c : Nat) (l : List (List UInt8)), cs = [.slice A k c] ∧ SeesV W W.heap.size A k (l.map encs) ∧ k ≤ c ∧ c ≤ maxLen ∧ ∀ x ∈ l, x.length ≤ maxLen := by
  rcases open_strings Try.underlying49 Try.underlying9 cells_str h with ⟨hcs, _⟩ | ⟨a, len, cap, zs, hcs, _, hl, hm, hz, _, hcell, hwz⟩
  · exact ⟨none, 0, 0, [], hcs, ⟨rfl, fun j u h => by simp at h⟩, Nat.le_refl _, Nat.zero_le _, fun x hx => by cases hx⟩
  · simp only [if_true] at hz
    refine ⟨some a, len, cap, (zs.take len).map (·.data.toList), hcs, ⟨by simp; omega, fun j u hu => ?_⟩, hl, hm, fun x hx => ?_⟩
    · have hj : j < len := by
        rcases Nat.lt_or_ge j len with g | g
        · exact g
        · rw [List.getElem?_eq_none (by simp; omega)] at hu; cases hu
      have hcj := hcell j (by omega)
      have hsp := plain_addr (hcell 0 (by omega))
      obtain ⟨ab, ao, sp⟩ := a
      simp only at hsp
      subst hsp
      have hjz : j < zs.length := by omega
      have e : zs.getD j ByteArray.empty = zs[j] := by simp [List.getD, List.getElem?_eq_getElem hjz]
      rw [List.map_map, List.getElem?_map, List.getElem?_take_of_lt hj, List.getElem?_eq_getElem hjz] at hu
      simp only [Option.map_some, Option.some.injEq] at hu
      subst hu
      rw [Addr.add_lit, e] at hcj
      exact ⟨ab, ao, rfl, block_lt hcj, by rw [hcj]; rfl⟩
    · obtain ⟨z, hz', rfl⟩ := List.mem_map.1 hx
      exact hwz z (List.mem_of_mem_take hz')

/-- Names in memory no longer than memory can hold. -/
def Held (s : List Df) : Prop := ∀ d ∈ s, ∀ f ∈ d.fs, (∀ x ∈ f.n.l, x.length ≤ maxLen) ∧ -9223372036854775808 ≤ f.to ∧ f.to ≤ 9223372036854775807
def HeldF (fs : List Fld) : Prop := ∀ f ∈ fs, (∀ x ∈ f.n.l, x.length ≤ maxLen) ∧ -9223372036854775808 ≤ f.to ∧ f.to ≤ 9223372036854775807

/-- Elements one behind the other: a list of what each reads as. -/
theorem listed {α : Type} {P : Nat → α → Prop} : ∀ (n : Nat), (∀ j, j < n → ∃ x, P j x) → ∃ l : List α, l.length = n ∧ ∀ j x, l[j]? = some x → P j x
  | 0, _ => ⟨[], rfl, fun j x h => by simp at h⟩
  | n + 1, h => by
    obtain ⟨l, hl, hp⟩ := listed n (fun j hj => h j (by omega))
    obtain ⟨x, hx⟩ := h n (by omega)
    refine ⟨l ++ [x], by simp [hl], fun j y hy => ?_⟩
    rcases Nat.lt_or_ge j n with g | g
    · rw [List.getElem?_append_left (by omega)] at hy
      exact hp j y hy
    · rw [List.getElem?_append_right (by omega)] at hy
      have : j - l.length = 0 := by
        rcases Nat.eq_zero_or_pos (j - l.length) with g2 | g2
        · exact g2
        · rw [List.getElem?_eq_none (by simp; omega)] at hy; cases hy
      rw [this] at hy
      simp only [List.getElem?_cons_zero, Option.some.injEq] at hy
      subst hy
      rw [show j = n by omega]
      exact hx

set_option maxHeartbeats 1000000 in
theorem fields_of {n : Nat} {cs : List Value} {x : DataW H × List MemPlace} (h : DataW.trod enc Try.prog W 0 (fun _ => true) true n 78 cs = some x) :
    ∃ (A : Option Addr) (k c : Nat) (fs : List Fld), cs = [.slice A k c] ∧ Fs W W.heap.size A k fs ∧ k ≤ c ∧ c ≤ maxLen ∧ HeldF fs := by
  rcases DataW.trod_slice Try.underlying78 h with ⟨rfl, _⟩ | ⟨a, len, cap, elems, rest, n1, hf, rfl, hx, _, hl, hm, hlen, hel, _, _⟩
  · exact ⟨none, 0, 0, [], rfl, Fs.none_ _ _ _, Nat.le_refl _, Nat.zero_le _, fun f hf => by cases hf⟩
  rw [cells_field] at hel
  have hspot : 0 < len → a.spot = none := by
    intro h0
    have he := hel 0 h0
    rw [List.getElem?_eq_getElem (by omega)] at he
    obtain ⟨cs', hc, ht⟩ := Option.bind_eq_some_iff.1 he
    obtain ⟨_, hcl, hat⟩ := World.cells?_some hc
    have c0 := hat 0 (by omega)
    rw [addr_add] at c0
    match cs', hcl with
    | v0 :: _, _ => exact plain_addr (v := v0) (by simpa using c0)
  have one : ∀ i, i < len → ∃ f : Fld, ∃ b o, a = ⟨b, o, none⟩ ∧ b < W.heap.size ∧ FldAt W W.heap.size b (o + i * 4) f ∧ (∀ x ∈ f.n.l, x.length ≤ maxLen) ∧ -9223372036854775808 ≤ f.to ∧ f.to ≤ 9223372036854775807 := by
    intro i hi
    have he := hel i hi
    rw [List.getElem?_eq_getElem (by omega)] at he
    obtain ⟨cs', hc, ht⟩ := Option.bind_eq_some_iff.1 he
    obtain ⟨_, hcl, hat⟩ := World.cells?_some hc
    obtain ⟨ys, n2, hn2, hyx, _, hyl, hfs⟩ := DataW.trod_struct Try.underlying83 ht
    match cs', hcl with
    | [v0, v1, v2, v3], _ =>
      have h0 : DataW.trod enc Try.prog W 0 (fun _ => true) true n2 60 (([v0, v1, v2, v3].drop 0).take (Try.prog.cellsOf 60)) = ys[0]? := hfs 0 _ rfl
      have h1 : DataW.trod enc Try.prog W 0 (fun _ => true) true n2 3 (([v0, v1, v2, v3].drop 2).take (Try.prog.cellsOf 3)) = ys[1]? := hfs 1 _ rfl
      have h2 : DataW.trod enc Try.prog W 0 (fun _ => true) true n2 4 (([v0, v1, v2, v3].drop 3).take (Try.prog.cellsOf 4)) = ys[2]? := hfs 2 _ rfl
      rw [cells_names, List.getElem?_eq_getElem (by rw [hyl]; decide)] at h0
      rw [cells_int, List.getElem?_eq_getElem (by rw [hyl]; decide)] at h1
      rw [cells_bool, List.getElem?_eq_getElem (by rw [hyl]; decide)] at h2
      obtain ⟨zs, n3, hn3, hzx, _, hzl, hgs⟩ := DataW.trod_struct Try.underlying60 h0
      have k0 : DataW.trod enc Try.prog W 0 (fun _ => true) true n3 4 ([v0].take (Try.prog.cellsOf 4)) = zs[0]? := hgs 0 _ rfl
      have k1 : DataW.trod enc Try.prog W 0 (fun _ => true) true n3 49 ([v1].take (Try.prog.cellsOf 49)) = zs[1]? := hgs 1 _ rfl
      rw [cells_bool, List.getElem?_eq_getElem (by rw [hzl]; decide)] at k0
      rw [cells_strs, List.getElem?_eq_getElem (by rw [hzl]; decide)] at k1
      obtain ⟨q0, e0, _⟩ := DataW.trod_bool Try.underlying4 k0
      obtain ⟨A', k', c', l', e1, hs, hk1, hk2, hk3⟩ := strs_of k1
      obtain ⟨t, e2, _, hw⟩ := DataW.trod_int Try.underlying3 h1
      obtain ⟨q3, e3, _⟩ := DataW.trod_bool Try.underlying4 h2
      have d0 : v0 = .bool q0 := by simpa using e0
      have d1 : v1 = .slice A' k' c' := by simpa using e1
      have d2 : v2 = .int .i64 t := by simpa using e2
      have d3 : v3 = .bool q3 := by simpa using e3
      clear e0 e1 e2 e3 h0 h1 h2 k0 k1 hfs hgs
      subst d0; subst d1; subst d2; subst d3
      have c0 := hat 0 (by omega)
      have c1 := hat 1 (by omega)
      have c2 := hat 2 (by omega)
      have c3 := hat 3 (by omega)
      rw [addr_add] at c0 c1 c2 c3
      have hb : (a.add (i * 4 + 0)).block < W.heap.size := block_lt c0
      rw [addr_block] at hb
      have hsp2 := hspot (by omega)
      obtain ⟨b, o, sp⟩ := a
      simp only at hsp2
      subst hsp2
      rw [Addr.add_lit] at c0 c1 c2 c3
      have hwt : -9223372036854775808 ≤ t ∧ t ≤ 9223372036854775807 := by simpa [Lit.wf, IntKind.min, IntKind.max, IntKind.signed, IntKind.bits] using hw
      exact ⟨⟨⟨q0, l'⟩, t, q3⟩, b, o, rfl, hb, ⟨A', k', c', by simpa using c0, by simpa [Nat.add_assoc] using c1, by simpa [Nat.add_assoc] using c2, by simpa [Nat.add_assoc] using c3, hs, Nat.le_trans hk1 hk2, Nat.zero_le _⟩, hk3, hwt⟩
  obtain ⟨fs, hfl, hfp⟩ := listed len one
  refine ⟨some a, len, cap, fs, rfl, ⟨hfl.symm, fun j f hj => ?_⟩, hl, hm, fun f hf => ?_⟩
  · obtain ⟨b, o, e, hb, hc, _⟩ := hfp j f hj
    exact ⟨b, o, by rw [e], hb, hc⟩
  · obtain ⟨j, hj⟩ := List.getElem?_of_mem hf
    obtain ⟨_, _, _, _, _, hh⟩ := hfp j f hj
    exact hh

set_option maxHeartbeats 1000000 in
theorem defs_of {n : Nat} {cs : List Value} {x : DataW H × List MemPlace} (h : DataW.trod enc Try.prog W 0 (fun _ => true) true n 72 cs = some x) :
    ∃ (A : Option Addr) (k c : Nat) (s : List Df), cs = [.slice A k c] ∧ Ds W W.heap.size A k s ∧ k ≤ c ∧ c ≤ maxLen ∧ Held s := by
  rcases DataW.trod_slice Try.underlying72 h with ⟨rfl, _⟩ | ⟨a, len, cap, elems, rest, n1, hf, rfl, hx, _, hl, hm, hlen, hel, _, _⟩
  · exact ⟨none, 0, 0, [], rfl, ⟨rfl, fun j d h => by simp at h⟩, Nat.le_refl _, Nat.zero_le _, fun f hf => by cases hf⟩
  rw [cells_def] at hel
  have hspot : 0 < len → a.spot = none := by
    intro h0
    have he := hel 0 h0
    rw [List.getElem?_eq_getElem (by omega)] at he
    obtain ⟨cs', hc, ht⟩ := Option.bind_eq_some_iff.1 he
    obtain ⟨_, hcl, hat⟩ := World.cells?_some hc
    have c0 := hat 0 (by omega)
    rw [addr_add] at c0
    match cs', hcl with
    | v0 :: _, _ => exact plain_addr (v := v0) (by simpa using c0)
  have one : ∀ i, i < len → ∃ d : Df, ∃ b o, a = ⟨b, o, none⟩ ∧ b < W.heap.size ∧ DfAt W W.heap.size b (o + i * 3) d ∧ HeldF d.fs := by
    intro i hi
    have he := hel i hi
    rw [List.getElem?_eq_getElem (by omega)] at he
    obtain ⟨cs', hc, ht⟩ := Option.bind_eq_some_iff.1 he
    obtain ⟨_, hcl, hat⟩ := World.cells?_some hc
    obtain ⟨ys, n2, hn2, hyx, _, hyl, hfs⟩ := DataW.trod_struct Try.underlying80 ht
    match cs', hcl with
    | [v0, v1, v2], _ =>
      have h0 : DataW.trod enc Try.prog W 0 (fun _ => true) true n2 78 (([v0, v1, v2].drop 0).take (Try.prog.cellsOf 78)) = ys[0]? := hfs 0 _ rfl
      have h1 : DataW.trod enc Try.prog W 0 (fun _ => true) true n2 4 (([v0, v1, v2].drop 1).take (Try.prog.cellsOf 4)) = ys[1]? := hfs 1 _ rfl
      have h2 : DataW.trod enc Try.prog W 0 (fun _ => true) true n2 4 (([v0, v1, v2].drop 2).take (Try.prog.cellsOf 4)) = ys[2]? := hfs 2 _ rfl
      rw [cells_fields, List.getElem?_eq_getElem (by rw [hyl]; decide)] at h0
      rw [cells_bool, List.getElem?_eq_getElem (by rw [hyl]; decide)] at h1
      rw [cells_bool, List.getElem?_eq_getElem (by rw [hyl]; decide)] at h2
      obtain ⟨A', k', c', fs, e0, hF, hk1, hk2, hk3⟩ := fields_of h0
      obtain ⟨q1, e1, _⟩ := DataW.trod_bool Try.underlying4 h1
      obtain ⟨q2, e2, _⟩ := DataW.trod_bool Try.underlying4 h2
      have d0 : v0 = .slice A' k' c' := by simpa using e0
      have d1 : v1 = .bool q1 := by simpa using e1
      have d2 : v2 = .bool q2 := by simpa using e2
      clear e0 e1 e2 h0 h1 h2 hfs
      subst d0; subst d1; subst d2
      have c0 := hat 0 (by omega)
      have c1 := hat 1 (by omega)
      have c2 := hat 2 (by omega)
      rw [addr_add] at c0 c1 c2
      have hb : (a.add (i * 3 + 0)).block < W.heap.size := block_lt c0
      rw [addr_block] at hb
      have hsp2 := hspot (by omega)
      obtain ⟨b, o, sp⟩ := a
      simp only at hsp2
      subst hsp2
      rw [Addr.add_lit] at c0 c1 c2
      exact ⟨⟨fs, q1, q2⟩, b, o, rfl, hb, ⟨A', k', c', by simpa using c0, by simpa [Nat.add_assoc] using c1, by simpa [Nat.add_assoc] using c2, hF, hk1, hk2⟩, hk3⟩
  obtain ⟨s, hsl, hsp⟩ := listed len one
  refine ⟨some a, len, cap, s, rfl, ⟨hsl.symm, fun j d hj => ?_⟩, hl, hm, fun d hd => ?_⟩
  · obtain ⟨b, o, e, hb, hc, _⟩ := hsp j d hj
    exact ⟨b, o, by rw [e], hb, hc⟩
  · obtain ⟨j, hj⟩ := List.getElem?_of_mem hd
    obtain ⟨_, _, _, _, _, hh⟩ := hsp j d hj
    exact hh

theorem open_schema {base : Nat} {v : Value} {d : DataW H} {p : List MemPlace} (hval : Value.okWide Try.prog W .any base 72 v) (h : DataW.Trod enc Try.prog W 0 (fun _ => true) true 72 v d p) :
    ∃ (A : Option Addr) (n c : Nat) (s : List Df), v = .slice A n c ∧ Ds W W.heap.size A n s ∧ n ≤ c ∧ c ≤ maxLen ∧ Held s := by
  obtain ⟨a1, len, cap, rfl⟩ := okWide_slice Try.underlying72 hval
  obtain ⟨fuel, hf⟩ := h
  obtain ⟨A, n, c, s, hcs, hh, hn, hc, hs⟩ := defs_of hf
  simp [Value.cells] at hcs
  obtain ⟨rfl, rfl, rfl⟩ := hcs
  exact ⟨_, _, _, s, rfl, hh, hn, hc, hs⟩
end
end Go.Proofs.Ytagoeededpmdkaa.Sc
