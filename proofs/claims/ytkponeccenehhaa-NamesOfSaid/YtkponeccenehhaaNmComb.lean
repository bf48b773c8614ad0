/- names.combine with and: what is combined of two sets. Conditions: lists in order, fewer than 2^38 strings. -/
import Derived.Test.YtkponeccenehhaaNmConcat
import Derived.Deep.RegionHeld3
import Derived.Outline
namespace Go.Proofs.Ytkponeccenehhaa.Nm
open Go.RowKit
set_option maxRecDepth 100000

theorem and_any (x y : Bool) (w : World) : Calls Try.prog 30 #[.bool x, .bool y] w fun e w' => e = .returned (.bool (x && y)) ∧ w = w' := by
  cases x <;> cases y <;> (go_enter Try.func30, Try.ntmps30; go_wp2; go_ret; exact ⟨rfl, rfl⟩)
theorem or_any (x y : Bool) (w : World) : Calls Try.prog 31 #[.bool x, .bool y] w fun e w' => e = .returned (.bool (x || y)) ∧ w = w' := by
  cases x <;> cases y <;> (go_enter Try.func31, Try.ntmps31; go_wp2; go_ret; exact ⟨rfl, rfl⟩)
theorem differ_any (x y : Bool) (w : World) : Calls Try.prog 33 #[.bool x, .bool y] w fun e w' => e = .returned (.bool (x != y)) ∧ w = w' := by
  cases x <;> cases y <;> (go_enter Try.func33, Try.ntmps33; go_wp2; go_ret; exact ⟨rfl, rfl⟩)

def Told (s : St) (w : World) (e : Ending) (w' : World) : Prop :=
  ∃ A c, e = .returned (.agg #[.bool s.all, .slice A s.l.length c]) ∧ SeesV w' w'.heap.size A s.l.length (s.l.map encs) ∧ Below w.heap.size w w'

/-- Within combine's loop: boxes, the row, all that lay there ahead. -/
structure Cst (T : TypeId) (G W5 : Nat) (w5 : World) (c0 : Bool) (R : Option Addr) (N cR : Nat) (ys : List (List UInt8)) (wr : World) : Prop where
  keep : ∀ k, k < W5 → k ≠ G → wr.heap[k]? = w5.heap[k]?
  size : W5 ≤ wr.heap.size
  os : wr.os = w5.os
  tape : wr.tape = w5.tape
  output : wr.output = w5.output
  boxc : wr.heap[G]? = some (.cells #[.bool c0, .slice R N cR] T (0, 0))
  row : wr.ownsRow W5 9 1 (.slice R N cR) N (ys.map encs)

/-- Five blocks laid one behind the other. -/
theorem five (w : World) (o0 o1 o2 o3 o4 : Obj) : ∃ W, W = ((((w.alloc o0).alloc o1).alloc o2).alloc o3).alloc o4 ∧ W.heap[w.heap.size]? = some o0 ∧ W.heap[w.heap.size + 1]? = some o1 ∧ W.heap[w.heap.size + 1 + 1]? = some o2 ∧ W.heap[w.heap.size + 1 + 1 + 1]? = some o3 ∧ W.heap[w.heap.size + 1 + 1 + 1 + 1]? = some o4 ∧ W.heap.size = w.heap.size + 5 ∧ Below w.heap.size w W := by
  have new : ∀ (W : World) (o : Obj) (k : Nat), k = W.heap.size → (W.alloc o).heap[k]? = some o := fun W o k h => h ▸ heap_alloc_new W o
  have old : ∀ (W : World) (o : Obj) (k : Nat), k < W.heap.size → (W.alloc o).heap[k]? = W.heap[k]? := fun W o k h => Below.heap_alloc W o k h
  refine ⟨_, rfl, ?_, ?_, ?_, ?_, ?_, by simp, (((((Below.refl _ _).alloc (Nat.le_refl _) _).alloc (by simp) _).alloc (by simp; omega) _).alloc (by simp; omega) _).alloc (by simp; omega) _⟩
  · rw [old _ _ _ (by simp; omega), old _ _ _ (by simp <;> omega), old _ _ _ (by simp <;> omega), old _ _ _ (by simp <;> omega), new _ _ _ rfl]
  · rw [old _ _ _ (by simp <;> omega), old _ _ _ (by simp <;> omega), old _ _ _ (by simp <;> omega), new _ _ _ (by simp)]
  · rw [old _ _ _ (by simp <;> omega), old _ _ _ (by simp <;> omega), new _ _ _ (by simp)]
  · rw [old _ _ _ (by simp), new _ _ _ (by simp)]
  · rw [new _ _ _ (by simp)]

theorem box2 {w : World} {g : Nat} {u v : Value} {T : TypeId} (h : w.heap[g]? = some (.cells #[u, v] T (0, 0))) : w.cell? ⟨g, 0, none⟩ = some u ∧ w.cell? ⟨g, 1, none⟩ = some v ∧ w.frozen? ⟨g, 0, none⟩ = false ∧ w.frozen? ⟨g, 1, none⟩ = false :=
  ⟨by rw [cell_of_row w g 0 _ _ _ h]; rfl, by rw [cell_of_row w g 1 _ _ _ h]; rfl, by simp [World.frozen?, h], by simp [World.frozen?, h]⟩
theorem box2_str {w : World} {g : Nat} {u v : Value} {T : TypeId} {x : ByteArray} (h : w.heap[g]? = some (.cells #[u, v] T (0, 0))) (hu : ∀ x, u ≠ .string x) (hv : ∀ x, v ≠ .string x) (q : Nat) : w.cell? ⟨g, q, none⟩ ≠ some (.string x) := by
  rw [cell_of_row w g q _ _ _ h]
  match q with
  | 0 => simpa using hu x
  | 1 => simpa using hv x
  | q + 2 => simp
theorem take_filter {l : List (List UInt8)} {k : Nat} {x : List UInt8} (h : l[k]? = some x) (f : List UInt8 → Bool) : (l.take (k + 1)).filter f = (l.take k).filter f ++ if f x then [x] else [] := by
  rw [List.take_add_one, h, List.filter_append]
  cases hf : f x <;> simp [hf]

theorem Cst.filter_skip {T : TypeId} {G W5 : Nat} {w5 wr wr' : World} {c0 : Bool} {R : Option Addr} {N cR : Nat} {ys : List (List UInt8)} (h : Cst T G W5 w5 c0 R N cR ys wr) (hG : G < wr.heap.size) (hb : Below wr.heap.size wr wr') : Cst T G W5 w5 c0 R N cR ys wr' where
  keep := fun k hk hg => (hb.block k (Nat.lt_of_lt_of_le hk h.size)).trans (h.keep k hk hg)
  size := Nat.le_trans h.size hb.size
  os := hb.os.trans h.os
  tape := hb.tape.trans h.tape
  output := hb.output.trans h.output
  boxc := (hb.block G hG).trans h.boxc
  row := h.row.kept (row := none) ⟨hb.os, hb.tape, hb.output, hb.size, fun i hi _ => hb.block i hi⟩ (by cases hv : (Value.slice R N cR).ownBlock <;> simp)

theorem set_box2 {w : World} {g : Nat} {u v v' : Value} {T : TypeId} (h : w.heap[g]? = some (.cells #[u, v] T (0, 0))) : (w.setCell ⟨g, 1, none⟩ v').heap[g]? = some (.cells #[u, v'] T (0, 0)) := by
  rw [heap_setCell_same w g 1 _ _ _ h]
  rfl
theorem grown_set (w : World) (a : Addr) (v : Value) : w.grownBy (w.setCell a v) (some a.block) :=
  ⟨rfl, rfl, rfl, by simp [World.setCell], fun k _ hk => Below.heap_setCell w a v k (fun e => hk (by rw [e]))⟩
theorem Cst.push {T : TypeId} {G W5 : Nat} {w5 w w4 : World} {c0 : Bool} {R A4 : Option Addr} {N cR c4 : Nat} {ys zs : List (List UInt8)} {o : Obj} (h : Cst T G W5 w5 c0 R N cR ys w) (hG : G < W5) (hg : (w.alloc o).grownBy w4 (Value.slice R N cR).ownBlock)
    (ho4 : w4.ownsRow W5 9 1 (.slice A4 (N + 1) c4) (N + 1) (zs.map encs)) (hat : ∀ a, A4 = some a → a.block = (w.alloc o).heap.size ∨ some a.block = (Value.slice R N cR).ownBlock) :
    w4.heap[G]? = some (.cells #[.bool c0, .slice R N cR] T (0, 0)) ∧ Cst T G W5 w5 c0 A4 (N + 1) c4 zs (w4.setCell ⟨G, 1, none⟩ (.slice A4 (N + 1) c4)) := by
  have hlt := h.row.lt
  have hsz := h.size
  have far : ∀ k, k < W5 → some k ≠ (Value.slice R N cR).ownBlock := fun k hk e => by have := (hlt k e.symm).1; omega
  have old : ∀ k, k < W5 → w4.heap[k]? = w.heap[k]? := fun k hk => (hg.block k (by simp; omega) (far k hk)).trans (Below.heap_alloc w o k (by omega))
  have hb4 := (old G hG).trans h.boxc
  have hsz4 := hg.size
  simp at hsz4
  refine ⟨hb4, ⟨fun k hk hk2 => ?_, ?_, ?_, ?_, ?_, set_box2 hb4, ?_⟩⟩
  · rw [Below.heap_setCell w4 ⟨G, 1, none⟩ _ k hk2, old k hk, h.keep k hk hk2]
  · simp [World.setCell]; omega
  · exact hg.os.trans h.os
  · exact hg.tape.trans h.tape
  · exact hg.output.trans h.output
  · refine ho4.kept (grown_set w4 ⟨G, 1, none⟩ _) (.inr ?_)
    cases A4 with
    | none => simp [Value.ownBlock]
    | some a =>
      simp only [Value.ownBlock, ne_eq, Option.some.injEq]
      rcases hat a rfl with e | e
      · simp at e; omega
      · intro e2
        exact far G hG (by rw [← e, e2])
theorem src_lit (W : World) (g : Nat) (x : ByteArray) (hg : g = W.heap.size) : Src Try.prog 1 23 (.slice (some ⟨g, 0, none⟩) 1 1) 1 ([x.data.toList].map encs) (W.alloc (Obj.cells #[Value.string x] 9)) := by
  subst hg
  refine src_strs (B := W.heap.size + 1) ⟨rfl, fun j u hu => ⟨W.heap.size, 0, rfl, by omega, ?_⟩⟩
  rw [cell_of_row _ _ _ _ _ _ (heap_alloc_new W _), ← hu]
  simp [encs]
theorem Cst.less {T : TypeId} {G W5 B : Nat} {w5 w : World} {c0 : Bool} {R : Option Addr} {N cR : Nat} {ys : List (List UInt8)} (h : Cst T G W5 w5 c0 R N cR ys w) (h1 : B ≤ W5) (h2 : B ≤ G) (h3 : w5.heap.size = W5) : Below B w5 w :=
  ⟨h.os, h.tape, h.output, by rw [h3]; exact h.size, fun k hk => h.keep k (by omega) (by omega)⟩
theorem Cst.seen {T : TypeId} {G W5 : Nat} {w5 w : World} {c0 : Bool} {R : Option Addr} {N cR : Nat} {ys : List (List UInt8)} (h : Cst T G W5 w5 c0 R N cR ys w) : N = ys.length ∧ SeesV w w.heap.size R N (ys.map encs) := by
  have := h.row.1
  rw [List.length_map, Nat.mul_one] at this
  exact ⟨this.symm, sees_own h.row⟩

set_option maxHeartbeats 4000000 in
theorem comb_and (a b : St) (hpa : a.l.Pairwise (· < ·)) (hpb : b.l.Pairwise (· < ·)) (A A2 : Option Addr) (n c n2 c2 : Nat) (w : World) (ha : SeesV w w.heap.size A n (a.l.map encs)) (hb : SeesV w w.heap.size A2 n2 (b.l.map encs)) (hn : n ≤ 274877906944) (hn2 : n2 ≤ 274877906944) :
    Calls Try.prog 29 #[.agg #[.bool a.all, .slice A n c], .agg #[.bool b.all, .slice A2 n2 c2], .func (.func 30) #[] #[]] w (Told (comb (· && ·) a b) w) := by
  obtain ⟨Z, hZ⟩ : ∃ Z, Z = ord (a.l ++ b.l) := ⟨_, rfl⟩
  obtain ⟨f, hf⟩ : ∃ f : List UInt8 → Bool, f = fun x => (a.mem x && b.mem x) != (a.all && b.all) := ⟨_, rfl⟩
  have HT : Hid ((comb (· && ·) a b) = ⟨a.all && b.all, Z.filter f⟩) := by rw [hZ, hf]; exact Lib.hid rfl
  have Hf : Hid (∀ x, f x = ((a.mem x && b.mem x) != (a.all && b.all))) := by rw [hf]; exact Lib.hid fun x => rfl
  have hla := ha.len
  have hlb := hb.len
  rw [List.length_map] at hla hlb
  have hZl : Z.length ≤ 549755813888 := by
    have := ord_le (a.l ++ b.l)
    rw [← hZ, List.length_append] at this
    omega
  have HZ : Hid (([a.l, b.l] : List (List (List UInt8))).flatten = a.l ++ b.l) := by exact Lib.hid (by simp)
  have HZ2 := Lib.hid hZ
  have Hla := Lib.hid hla
  have Hlb := Lib.hid hlb
  clear hf hZ hla hlb
  go_enter Try.func29, Try.ntmps29
  go_wp2_with (go_at_call 30; refine (and_any _ _ _).mono ?_; rintro e w' ⟨rfl, rfl⟩)
  obtain ⟨W1, hW1, g0, g1, g2, g3, g4, gs, gb⟩ := five w (Obj.cells #[Value.bool a.all, Value.slice A n c] 49) (Obj.cells #[Value.bool b.all, Value.slice A2 n2 c2] 49) (Obj.cells #[Value.bool false, Value.slice none 0 0] 49) (Obj.cells #[Value.bool (a.all && b.all), Value.slice none 0 0] 49) (Obj.cells #[Value.slice A n c, Value.slice A2 n2 c2] 23)
  rw [← hW1]
  have hsa : SeesV W1 W1.heap.size A n (a.l.map encs) := by
    refine ⟨ha.len, fun j u hu => ?_⟩
    obtain ⟨b, o, e, hb', hc⟩ := ha.cell j u hu
    exact ⟨b, o, e, by omega, (gb.cell (p := ⟨b, o + j, none⟩) hb').trans hc⟩
  have hsb : SeesV W1 W1.heap.size A2 n2 (b.l.map encs) := by
    refine ⟨hb.len, fun j u hu => ?_⟩
    obtain ⟨b, o, e, hb', hc⟩ := hb.cell j u hu
    exact ⟨b, o, e, by omega, (gb.cell (p := ⟨b, o + j, none⟩) hb').trans hc⟩
  obtain ⟨L, hL⟩ : ∃ L, L = a.l ++ b.l := ⟨_, rfl⟩
  have hLl : L.length ≤ 549755813888 := by rw [hL, List.length_append, ← Hla.out, ← Hlb.out]; omega
  have HJ := Lib.hid (concat_any (w.heap.size + 1 + 1 + 1 + 1) 2 [.slice A n c, .slice A2 n2 c2] [a.l, b.l] W1 (Parts.two g4 hsa hsb) rfl (by omega) (by rw [HZ.out, List.length_append, ← Hla.out, ← Hlb.out]; omega) (by omega))
  rw [HZ.out, ← hL] at HJ
  rw [← hL] at HZ2
  clear hL
  refine HJ.out.mono ?_
  rintro e w1 ⟨A1, c1, rfl, hs1, hb1⟩
  go_wp2_with fail
  refine (ordered_any L _ _ _ _ hs1 (by omega)).mono ?_
  rintro e w2 ⟨A3, c3, rfl, hs2, hb2⟩
  rw [← HZ2.out] at hs2 ⊢
  have hb12 : Below W1.heap.size W1 w2 := hb1.trans (hb2.mono hb1.size)
  have k0 := (hb12.block w.heap.size (by omega)).trans g0
  have k1 := (hb12.block (w.heap.size + 1) (by omega)).trans g1
  have k2 := (hb12.block (w.heap.size + 1 + 1) (by omega)).trans g2
  have k3 := (hb12.block (w.heap.size + 1 + 1 + 1) (by omega)).trans g3
  have hsz := hb12.size
  have hW2 : w.heap.size + 5 ≤ w2.heap.size := by omega
  have hw2 : Below w.heap.size w w2 := gb.trans (hb12.mono (by omega))
  have hla := Hla.out
  have hlb := Hlb.out
  obtain ⟨m, hm⟩ : ∃ m, m = Z.length := ⟨_, rfl⟩
  rw [← hm] at hZl hs2 ⊢
  have Hm := Lib.hid hm
  have hsa2 : SeesV w2 w.heap.size A n (a.l.map encs) := by
    refine ⟨ha.len, fun j u hu => ?_⟩
    obtain ⟨b, o, e, hb', hc⟩ := ha.cell j u hu
    exact ⟨b, o, e, by omega, (hw2.cell (p := ⟨b, o + j, none⟩) hb').trans hc⟩
  have hsb2 : SeesV w2 w.heap.size A2 n2 (b.l.map encs) := by
    refine ⟨hb.len, fun j u hu => ?_⟩
    obtain ⟨b, o, e, hb', hc⟩ := hb.cell j u hu
    exact ⟨b, o, e, by omega, (hw2.cell (p := ⟨b, o + j, none⟩) hb').trans hc⟩
  obtain ⟨c0, hc0⟩ : ∃ c0, c0 = (a.all && b.all) := ⟨_, rfl⟩
  rw [← hc0] at k3 HT Hf ⊢
  clear hm hs1 hsa hsb g0 g1 g2 g3 g4 gb gs hb1 hb2 hb12 hsz hla hlb hW1 hc0 ha hb
  go_wp2_with fail
  go_loopw [25] (fun i wr => ∃ (k : Nat) (R : Option Addr) (N cR : Nat), k ≤ m ∧ i = .int .i64 k ∧ Cst 49 (w.heap.size + 1 + 1 + 1) w2.heap.size w2 c0 R N cR ((Z.take k).filter f) wr) (fun i _ => m - (intOf i).toNat)
  case atStart => exact ⟨0, none, 0, 0, Nat.zero_le _, rfl, fun k hk _ => rfl, Nat.le_refl _, rfl, rfl, rfl, k3, World.ownsRow_nil _ _ _ _⟩
  case round =>
    obtain ⟨k, R, N, cR, hk, rfl, hC⟩ := hrel
    obtain ⟨q0, q1, _, _⟩ := box2 ((hC.keep w.heap.size (by omega) (by omega)).trans k0)
    obtain ⟨q2, q3, _, _⟩ := box2 ((hC.keep (w.heap.size + 1) (by omega) (by omega)).trans k1)
    obtain ⟨q4, q5, q6, q7⟩ := box2 ((hC.keep (w.heap.size + 1 + 1) (by omega) (by omega)).trans k2)
    obtain ⟨q8, q9, q10, q11⟩ := box2 hC.boxc
    have Hk := Lib.hid hk
    by_cases hlt : k < m
    · have hkZ : k < Z.length := by rw [← Hm.out]; exact hlt
      obtain ⟨b3, o3, rfl, hb3, hc3⟩ := hs2.cell k (encs Z[k]) (by rw [List.getElem?_map, List.getElem?_eq_getElem hkZ]; rfl)
      obtain ⟨x, hx⟩ : ∃ x : ByteArray, x = ⟨Z[k].toArray⟩ := ⟨_, rfl⟩
      have hc3' : w2.cell? ⟨b3, o3 + k, none⟩ = some (.string x) := by rw [hc3, hx]; rfl
      have hb33 : b3 ≠ w.heap.size + 1 + 1 + 1 := by
        rintro rfl
        exact box2_str k3 (fun x e => by cases e) (fun x e => by cases e) _ hc3'
      have hcx : wr.cell? ⟨b3, o3 + k, none⟩ = some (.string x) := (World.cell?_of_block (hC.keep b3 hb3 hb33)).trans hc3'
      have hxd : x.data.toList = Z[k] := by rw [hx]
      have Hfk : Hid (((Z.take (k + 1)).filter f) = (Z.take k).filter f ++ if ((a.mem x.data.toList && b.mem x.data.toList) != c0) then [x.data.toList] else []) := by
        rw [take_filter (List.getElem?_eq_getElem hkZ) f, Hf.out, hxd]
        exact Lib.hid rfl
      have hB3 := hC.size
      have HA := Lib.hid (fun W (hb : Below wr.heap.size wr W) => has_any a hpa A n c w.heap.size x W (hsa2.keep fun p hp => (hb.cell (p := p) (by omega)).trans (World.cell?_of_block (hC.keep p.block (by omega) (by omega)))) (by have := hb.size; omega) (by omega) |>.mono (fun e w' h => (⟨h.1, hb.trans (h.2.mono hb.size)⟩ : e = .returned (.bool (a.mem x.data.toList)) ∧ Below wr.heap.size wr w')))
      have HB := Lib.hid (fun W (hb : Below wr.heap.size wr W) => has_any b hpb A2 n2 c2 w.heap.size x W (hsb2.keep fun p hp => (hb.cell (p := p) (by omega)).trans (World.cell?_of_block (hC.keep p.block (by omega) (by omega)))) (by have := hb.size; omega) (by omega) |>.mono (fun e w' h => (⟨h.1, hb.trans (h.2.mono hb.size)⟩ : e = .returned (.bool (b.mem x.data.toList)) ∧ Below wr.heap.size wr w')))
      obtain ⟨pa, hpa'⟩ : ∃ pa, pa = a.mem x.data.toList := ⟨_, rfl⟩
      obtain ⟨pb, hpb'⟩ : ∃ pb, pb = b.mem x.data.toList := ⟨_, rfl⟩
      rw [← hpa'] at HA Hfk
      rw [← hpb'] at HB Hfk
      have HO : Hid (∀ W, Calls Try.prog 30 #[.bool pa, .bool pb] W fun e w' => e = .returned (.bool (pa && pb)) ∧ W = w') := Lib.hid fun W => and_any pa pb W
      obtain ⟨d, hd⟩ : ∃ d, d = (pa && pb) := ⟨_, rfl⟩
      rw [← hd] at HO Hfk
      clear hpa' hpb' hd hx hxd hc3 hc3' hb33 hkZ q4 q5 q6 q7
      have hx0 : w.heap.size < wr.heap.size := by omega
      have hx1 : w.heap.size + 1 < wr.heap.size := by omega
      have hx3 : w.heap.size + 1 + 1 + 1 < wr.heap.size := by omega
      have hk0 : (0 : Int) ≤ (k : Int) := by omega
      have hkm : (k : Int) < (m : Int) := by omega
      have HC := Lib.hid hC
      have hb0 : Below wr.heap.size wr wr.drew := (Below.refl _ _).drew
      have HP := Lib.hid (fun W (hb : Below wr.heap.size wr W) => (⟨hb, (hb.cell (p := ⟨w.heap.size, 0, none⟩) hx0).trans q0, (hb.cell (p := ⟨w.heap.size, 1, none⟩) hx0).trans q1, (hb.cell (p := ⟨w.heap.size + 1, 0, none⟩) hx1).trans q2, (hb.cell (p := ⟨w.heap.size + 1, 1, none⟩) hx1).trans q3, (hb.cell (p := ⟨w.heap.size + 1 + 1 + 1, 0, none⟩) hx3).trans q8⟩ : Below wr.heap.size wr W ∧ W.cell? ⟨w.heap.size, 0, none⟩ = some (.bool a.all) ∧ W.cell? ⟨w.heap.size, 1, none⟩ = some (.slice A n c) ∧ W.cell? ⟨w.heap.size + 1, 0, none⟩ = some (.bool b.all) ∧ W.cell? ⟨w.heap.size + 1, 1, none⟩ = some (.slice A2 n2 c2) ∧ W.cell? ⟨w.heap.size + 1 + 1 + 1, 0, none⟩ = some (.bool c0)))
      clear hC
      go_wp2_with fail
      go_region_held3 (fun w' => Below wr.heap.size wr w' ∧ w'.cell? ⟨w.heap.size, 0, none⟩ = some (.bool a.all) ∧ w'.cell? ⟨w.heap.size, 1, none⟩ = some (.slice A n c) ∧ w'.cell? ⟨w.heap.size + 1, 0, none⟩ = some (.bool b.all) ∧ w'.cell? ⟨w.heap.size + 1, 1, none⟩ = some (.slice A2 n2 c2) ∧ w'.cell? ⟨w.heap.size + 1 + 1 + 1, 0, none⟩ = some (.bool c0))
        (first | exact HP.out _ hb12 | exact HP.out _ hb11 | exact HP.out _ hb0)
        (first
        | (go_at_call 26; (with_reducible refine (HA.out _ hb0).mono ?_); rintro e w11 ⟨rfl, hb11⟩)
        | (go_at_call 26; (with_reducible refine (HB.out _ hb11).mono ?_); rintro e w12 ⟨rfl, hb12⟩)
        | (go_at_call 30; (with_reducible refine (HO.out _).mono ?_); rintro e w' ⟨rfl, rfl⟩))
      all_goals
        have C12 := HC.out.filter_skip hx3 hb12
        obtain ⟨r8, r9, r10, r11⟩ := box2 C12.boxc
        have ho := C12.row
        have hN2 : N + 1 ≤ 1099511627776 := by
          have h1 := ho.1
          have h2 := List.length_filter_le f (Z.take k)
          rw [List.length_map] at h1
          rw [List.length_take] at h2
          omega
        have hGW : w.heap.size + 1 + 1 + 1 < w2.heap.size := by omega
        have hsz12 := C12.size
        have HC12 := Lib.hid C12
        clear C12 HA HB HO HP HC hk hlt
        cases hdc : (d == c0) with
        | true =>
          have hne : (d != c0) = false := by simp [bne, hdc]
          rw [hne, if_neg (by simp), List.append_nil] at Hfk
          clear hne
          go_wp2_with fail
          go_roundw
          case rel => exact ⟨k + 1, R, N, cR, by have := Hk.out; omega, by go_num, by rw [Hfk.out]; exact HC12.out⟩
          case measure => simp [intOf]; omega
        | false =>
          have hne : (d != c0) = true := by simp [bne, hdc]
          rw [hne, if_pos rfl] at Hfk
          clear hne
          go_wp2_with (at_builtin; refine wpList_append_row rfl (.tmp 41) (.tmp 43) _ _ rfl elem_s rfl rfl (ho.alloc _) (src_lit _ _ _ (by simp)) hN2 (by simp; omega) ?_; intro A4 c4 w4 ho4 hg4 hat4; rw [← List.map_append] at ho4; have hP := HC12.out.push hGW hg4 ho4 hat4; obtain ⟨s8, s9, s10, s11⟩ := box2 hP.1; have HP := Lib.hid hP; clear hP ho4)
          go_roundw
          case rel => exact ⟨k + 1, A4, N + 1, c4, by have := Hk.out; omega, by go_num, by rw [Hfk.out]; exact HP.out.2⟩
          case measure => simp [intOf]; omega
    · obtain rfl : k = m := by omega
      have hZt : Z.take k = Z := List.take_of_length_le (by rw [← Hm.out]; exact Nat.le_refl _)
      rw [hZt] at hC
      obtain ⟨hNl, hsee⟩ := hC.seen
      have HC := Lib.hid hC
      have HNl := Lib.hid hNl
      have hsz2 := hC.size
      clear hC hZt hNl
      have hW := hw2.trans (HC.out.less (B := w.heap.size) (by omega) (by omega) rfl)
      have HW := Lib.hid hW
      clear hW hw2 hsa2 hsb2
      go_wp2_with fail
      rw [HT.out]
      refine bodyPost_ret (v := .agg #[.bool c0, .slice R N cR]) (by simp [results, Try.results29, go_sem, q4, q5]) rfl ?_
      have hne : (Value.slice R N cR).ownBlock ≠ some (w.heap.size + 1 + 1) := fun e => by have := (HC.out.row.lt _ e).1; omega
      have h1 := (HC.out.row.kept (grown_set wr ⟨w.heap.size + 1 + 1, 0, none⟩ (Value.bool c0)) (.inr hne)).kept (grown_set _ ⟨w.heap.size + 1 + 1, 1, none⟩ (Value.slice R N cR)) (.inr hne)
      refine ⟨R, cR, ?_, ?_, (HW.out.setCell (by simp only; omega) _).setCell (by simp only; omega) _⟩
      · simp only [← HNl.out]
      · simp only [← HNl.out]
        exact sees_own h1

set_option maxHeartbeats 4000000 in
theorem comb_or (a b : St) (hpa : a.l.Pairwise (· < ·)) (hpb : b.l.Pairwise (· < ·)) (A A2 : Option Addr) (n c n2 c2 : Nat) (w : World) (ha : SeesV w w.heap.size A n (a.l.map encs)) (hb : SeesV w w.heap.size A2 n2 (b.l.map encs)) (hn : n ≤ 274877906944) (hn2 : n2 ≤ 274877906944) :
    Calls Try.prog 29 #[.agg #[.bool a.all, .slice A n c], .agg #[.bool b.all, .slice A2 n2 c2], .func (.func 31) #[] #[]] w (Told (comb (· || ·) a b) w) := by
  obtain ⟨Z, hZ⟩ : ∃ Z, Z = ord (a.l ++ b.l) := ⟨_, rfl⟩
  obtain ⟨f, hf⟩ : ∃ f : List UInt8 → Bool, f = fun x => (a.mem x || b.mem x) != (a.all || b.all) := ⟨_, rfl⟩
  have HT : Hid ((comb (· || ·) a b) = ⟨a.all || b.all, Z.filter f⟩) := by rw [hZ, hf]; exact Lib.hid rfl
  have Hf : Hid (∀ x, f x = ((a.mem x || b.mem x) != (a.all || b.all))) := by rw [hf]; exact Lib.hid fun x => rfl
  have hla := ha.len
  have hlb := hb.len
  rw [List.length_map] at hla hlb
  have hZl : Z.length ≤ 549755813888 := by
    have := ord_le (a.l ++ b.l)
    rw [← hZ, List.length_append] at this
    omega
  have HZ : Hid (([a.l, b.l] : List (List (List UInt8))).flatten = a.l ++ b.l) := by exact Lib.hid (by simp)
  have HZ2 := Lib.hid hZ
  have Hla := Lib.hid hla
  have Hlb := Lib.hid hlb
  clear hf hZ hla hlb
  go_enter Try.func29, Try.ntmps29
  go_wp2_with (go_at_call 31; refine (or_any _ _ _).mono ?_; rintro e w' ⟨rfl, rfl⟩)
  obtain ⟨W1, hW1, g0, g1, g2, g3, g4, gs, gb⟩ := five w (Obj.cells #[Value.bool a.all, Value.slice A n c] 49) (Obj.cells #[Value.bool b.all, Value.slice A2 n2 c2] 49) (Obj.cells #[Value.bool false, Value.slice none 0 0] 49) (Obj.cells #[Value.bool (a.all || b.all), Value.slice none 0 0] 49) (Obj.cells #[Value.slice A n c, Value.slice A2 n2 c2] 23)
  rw [← hW1]
  have hsa : SeesV W1 W1.heap.size A n (a.l.map encs) := by
    refine ⟨ha.len, fun j u hu => ?_⟩
    obtain ⟨b, o, e, hb', hc⟩ := ha.cell j u hu
    exact ⟨b, o, e, by omega, (gb.cell (p := ⟨b, o + j, none⟩) hb').trans hc⟩
  have hsb : SeesV W1 W1.heap.size A2 n2 (b.l.map encs) := by
    refine ⟨hb.len, fun j u hu => ?_⟩
    obtain ⟨b, o, e, hb', hc⟩ := hb.cell j u hu
    exact ⟨b, o, e, by omega, (gb.cell (p := ⟨b, o + j, none⟩) hb').trans hc⟩
  obtain ⟨L, hL⟩ : ∃ L, L = a.l ++ b.l := ⟨_, rfl⟩
  have hLl : L.length ≤ 549755813888 := by rw [hL, List.length_append, ← Hla.out, ← Hlb.out]; omega
  have HJ := Lib.hid (concat_any (w.heap.size + 1 + 1 + 1 + 1) 2 [.slice A n c, .slice A2 n2 c2] [a.l, b.l] W1 (Parts.two g4 hsa hsb) rfl (by omega) (by rw [HZ.out, List.length_append, ← Hla.out, ← Hlb.out]; omega) (by omega))
  rw [HZ.out, ← hL] at HJ
  rw [← hL] at HZ2
  clear hL
  refine HJ.out.mono ?_
  rintro e w1 ⟨A1, c1, rfl, hs1, hb1⟩
  go_wp2_with fail
  refine (ordered_any L _ _ _ _ hs1 (by omega)).mono ?_
  rintro e w2 ⟨A3, c3, rfl, hs2, hb2⟩
  rw [← HZ2.out] at hs2 ⊢
  have hb12 : Below W1.heap.size W1 w2 := hb1.trans (hb2.mono hb1.size)
  have k0 := (hb12.block w.heap.size (by omega)).trans g0
  have k1 := (hb12.block (w.heap.size + 1) (by omega)).trans g1
  have k2 := (hb12.block (w.heap.size + 1 + 1) (by omega)).trans g2
  have k3 := (hb12.block (w.heap.size + 1 + 1 + 1) (by omega)).trans g3
  have hsz := hb12.size
  have hW2 : w.heap.size + 5 ≤ w2.heap.size := by omega
  have hw2 : Below w.heap.size w w2 := gb.trans (hb12.mono (by omega))
  have hla := Hla.out
  have hlb := Hlb.out
  obtain ⟨m, hm⟩ : ∃ m, m = Z.length := ⟨_, rfl⟩
  rw [← hm] at hZl hs2 ⊢
  have Hm := Lib.hid hm
  have hsa2 : SeesV w2 w.heap.size A n (a.l.map encs) := by
    refine ⟨ha.len, fun j u hu => ?_⟩
    obtain ⟨b, o, e, hb', hc⟩ := ha.cell j u hu
    exact ⟨b, o, e, by omega, (hw2.cell (p := ⟨b, o + j, none⟩) hb').trans hc⟩
  have hsb2 : SeesV w2 w.heap.size A2 n2 (b.l.map encs) := by
    refine ⟨hb.len, fun j u hu => ?_⟩
    obtain ⟨b, o, e, hb', hc⟩ := hb.cell j u hu
    exact ⟨b, o, e, by omega, (hw2.cell (p := ⟨b, o + j, none⟩) hb').trans hc⟩
  obtain ⟨c0, hc0⟩ : ∃ c0, c0 = (a.all || b.all) := ⟨_, rfl⟩
  rw [← hc0] at k3 HT Hf ⊢
  clear hm hs1 hsa hsb g0 g1 g2 g3 g4 gb gs hb1 hb2 hb12 hsz hla hlb hW1 hc0 ha hb
  go_wp2_with fail
  go_loopw [25] (fun i wr => ∃ (k : Nat) (R : Option Addr) (N cR : Nat), k ≤ m ∧ i = .int .i64 k ∧ Cst 49 (w.heap.size + 1 + 1 + 1) w2.heap.size w2 c0 R N cR ((Z.take k).filter f) wr) (fun i _ => m - (intOf i).toNat)
  case atStart => exact ⟨0, none, 0, 0, Nat.zero_le _, rfl, fun k hk _ => rfl, Nat.le_refl _, rfl, rfl, rfl, k3, World.ownsRow_nil _ _ _ _⟩
  case round =>
    obtain ⟨k, R, N, cR, hk, rfl, hC⟩ := hrel
    obtain ⟨q0, q1, _, _⟩ := box2 ((hC.keep w.heap.size (by omega) (by omega)).trans k0)
    obtain ⟨q2, q3, _, _⟩ := box2 ((hC.keep (w.heap.size + 1) (by omega) (by omega)).trans k1)
    obtain ⟨q4, q5, q6, q7⟩ := box2 ((hC.keep (w.heap.size + 1 + 1) (by omega) (by omega)).trans k2)
    obtain ⟨q8, q9, q10, q11⟩ := box2 hC.boxc
    have Hk := Lib.hid hk
    by_cases hlt : k < m
    · have hkZ : k < Z.length := by rw [← Hm.out]; exact hlt
      obtain ⟨b3, o3, rfl, hb3, hc3⟩ := hs2.cell k (encs Z[k]) (by rw [List.getElem?_map, List.getElem?_eq_getElem hkZ]; rfl)
      obtain ⟨x, hx⟩ : ∃ x : ByteArray, x = ⟨Z[k].toArray⟩ := ⟨_, rfl⟩
      have hc3' : w2.cell? ⟨b3, o3 + k, none⟩ = some (.string x) := by rw [hc3, hx]; rfl
      have hb33 : b3 ≠ w.heap.size + 1 + 1 + 1 := by
        rintro rfl
        exact box2_str k3 (fun x e => by cases e) (fun x e => by cases e) _ hc3'
      have hcx : wr.cell? ⟨b3, o3 + k, none⟩ = some (.string x) := (World.cell?_of_block (hC.keep b3 hb3 hb33)).trans hc3'
      have hxd : x.data.toList = Z[k] := by rw [hx]
      have Hfk : Hid (((Z.take (k + 1)).filter f) = (Z.take k).filter f ++ if ((a.mem x.data.toList || b.mem x.data.toList) != c0) then [x.data.toList] else []) := by
        rw [take_filter (List.getElem?_eq_getElem hkZ) f, Hf.out, hxd]
        exact Lib.hid rfl
      have hB3 := hC.size
      have HA := Lib.hid (fun W (hb : Below wr.heap.size wr W) => has_any a hpa A n c w.heap.size x W (hsa2.keep fun p hp => (hb.cell (p := p) (by omega)).trans (World.cell?_of_block (hC.keep p.block (by omega) (by omega)))) (by have := hb.size; omega) (by omega) |>.mono (fun e w' h => (⟨h.1, hb.trans (h.2.mono hb.size)⟩ : e = .returned (.bool (a.mem x.data.toList)) ∧ Below wr.heap.size wr w')))
      have HB := Lib.hid (fun W (hb : Below wr.heap.size wr W) => has_any b hpb A2 n2 c2 w.heap.size x W (hsb2.keep fun p hp => (hb.cell (p := p) (by omega)).trans (World.cell?_of_block (hC.keep p.block (by omega) (by omega)))) (by have := hb.size; omega) (by omega) |>.mono (fun e w' h => (⟨h.1, hb.trans (h.2.mono hb.size)⟩ : e = .returned (.bool (b.mem x.data.toList)) ∧ Below wr.heap.size wr w')))
      obtain ⟨pa, hpa'⟩ : ∃ pa, pa = a.mem x.data.toList := ⟨_, rfl⟩
      obtain ⟨pb, hpb'⟩ : ∃ pb, pb = b.mem x.data.toList := ⟨_, rfl⟩
      rw [← hpa'] at HA Hfk
      rw [← hpb'] at HB Hfk
      have HO : Hid (∀ W, Calls Try.prog 31 #[.bool pa, .bool pb] W fun e w' => e = .returned (.bool (pa || pb)) ∧ W = w') := Lib.hid fun W => or_any pa pb W
      obtain ⟨d, hd⟩ : ∃ d, d = (pa || pb) := ⟨_, rfl⟩
      rw [← hd] at HO Hfk
      clear hpa' hpb' hd hx hxd hc3 hc3' hb33 hkZ q4 q5 q6 q7
      have hx0 : w.heap.size < wr.heap.size := by omega
      have hx1 : w.heap.size + 1 < wr.heap.size := by omega
      have hx3 : w.heap.size + 1 + 1 + 1 < wr.heap.size := by omega
      have hk0 : (0 : Int) ≤ (k : Int) := by omega
      have hkm : (k : Int) < (m : Int) := by omega
      have HC := Lib.hid hC
      have hb0 : Below wr.heap.size wr wr.drew := (Below.refl _ _).drew
      have HP := Lib.hid (fun W (hb : Below wr.heap.size wr W) => (⟨hb, (hb.cell (p := ⟨w.heap.size, 0, none⟩) hx0).trans q0, (hb.cell (p := ⟨w.heap.size, 1, none⟩) hx0).trans q1, (hb.cell (p := ⟨w.heap.size + 1, 0, none⟩) hx1).trans q2, (hb.cell (p := ⟨w.heap.size + 1, 1, none⟩) hx1).trans q3, (hb.cell (p := ⟨w.heap.size + 1 + 1 + 1, 0, none⟩) hx3).trans q8⟩ : Below wr.heap.size wr W ∧ W.cell? ⟨w.heap.size, 0, none⟩ = some (.bool a.all) ∧ W.cell? ⟨w.heap.size, 1, none⟩ = some (.slice A n c) ∧ W.cell? ⟨w.heap.size + 1, 0, none⟩ = some (.bool b.all) ∧ W.cell? ⟨w.heap.size + 1, 1, none⟩ = some (.slice A2 n2 c2) ∧ W.cell? ⟨w.heap.size + 1 + 1 + 1, 0, none⟩ = some (.bool c0)))
      clear hC
      go_wp2_with fail
      go_region_held3 (fun w' => Below wr.heap.size wr w' ∧ w'.cell? ⟨w.heap.size, 0, none⟩ = some (.bool a.all) ∧ w'.cell? ⟨w.heap.size, 1, none⟩ = some (.slice A n c) ∧ w'.cell? ⟨w.heap.size + 1, 0, none⟩ = some (.bool b.all) ∧ w'.cell? ⟨w.heap.size + 1, 1, none⟩ = some (.slice A2 n2 c2) ∧ w'.cell? ⟨w.heap.size + 1 + 1 + 1, 0, none⟩ = some (.bool c0))
        (first | exact HP.out _ hb12 | exact HP.out _ hb11 | exact HP.out _ hb0)
        (first
        | (go_at_call 26; (with_reducible refine (HA.out _ hb0).mono ?_); rintro e w11 ⟨rfl, hb11⟩)
        | (go_at_call 26; (with_reducible refine (HB.out _ hb11).mono ?_); rintro e w12 ⟨rfl, hb12⟩)
        | (go_at_call 31; (with_reducible refine (HO.out _).mono ?_); rintro e w' ⟨rfl, rfl⟩))
      all_goals
        have C12 := HC.out.filter_skip hx3 hb12
        obtain ⟨r8, r9, r10, r11⟩ := box2 C12.boxc
        have ho := C12.row
        have hN2 : N + 1 ≤ 1099511627776 := by
          have h1 := ho.1
          have h2 := List.length_filter_le f (Z.take k)
          rw [List.length_map] at h1
          rw [List.length_take] at h2
          omega
        have hGW : w.heap.size + 1 + 1 + 1 < w2.heap.size := by omega
        have hsz12 := C12.size
        have HC12 := Lib.hid C12
        clear C12 HA HB HO HP HC hk hlt
        cases hdc : (d == c0) with
        | true =>
          have hne : (d != c0) = false := by simp [bne, hdc]
          rw [hne, if_neg (by simp), List.append_nil] at Hfk
          clear hne
          go_wp2_with fail
          go_roundw
          case rel => exact ⟨k + 1, R, N, cR, by have := Hk.out; omega, by go_num, by rw [Hfk.out]; exact HC12.out⟩
          case measure => simp [intOf]; omega
        | false =>
          have hne : (d != c0) = true := by simp [bne, hdc]
          rw [hne, if_pos rfl] at Hfk
          clear hne
          go_wp2_with (at_builtin; refine wpList_append_row rfl (.tmp 41) (.tmp 43) _ _ rfl elem_s rfl rfl (ho.alloc _) (src_lit _ _ _ (by simp)) hN2 (by simp; omega) ?_; intro A4 c4 w4 ho4 hg4 hat4; rw [← List.map_append] at ho4; have hP := HC12.out.push hGW hg4 ho4 hat4; obtain ⟨s8, s9, s10, s11⟩ := box2 hP.1; have HP := Lib.hid hP; clear hP ho4)
          go_roundw
          case rel => exact ⟨k + 1, A4, N + 1, c4, by have := Hk.out; omega, by go_num, by rw [Hfk.out]; exact HP.out.2⟩
          case measure => simp [intOf]; omega
    · obtain rfl : k = m := by omega
      have hZt : Z.take k = Z := List.take_of_length_le (by rw [← Hm.out]; exact Nat.le_refl _)
      rw [hZt] at hC
      obtain ⟨hNl, hsee⟩ := hC.seen
      have HC := Lib.hid hC
      have HNl := Lib.hid hNl
      have hsz2 := hC.size
      clear hC hZt hNl
      have hW := hw2.trans (HC.out.less (B := w.heap.size) (by omega) (by omega) rfl)
      have HW := Lib.hid hW
      clear hW hw2 hsa2 hsb2
      go_wp2_with fail
      rw [HT.out]
      refine bodyPost_ret (v := .agg #[.bool c0, .slice R N cR]) (by simp [results, Try.results29, go_sem, q4, q5]) rfl ?_
      have hne : (Value.slice R N cR).ownBlock ≠ some (w.heap.size + 1 + 1) := fun e => by have := (HC.out.row.lt _ e).1; omega
      have h1 := (HC.out.row.kept (grown_set wr ⟨w.heap.size + 1 + 1, 0, none⟩ (Value.bool c0)) (.inr hne)).kept (grown_set _ ⟨w.heap.size + 1 + 1, 1, none⟩ (Value.slice R N cR)) (.inr hne)
      refine ⟨R, cR, ?_, ?_, (HW.out.setCell (by simp only; omega) _).setCell (by simp only; omega) _⟩
      · simp only [← HNl.out]
      · simp only [← HNl.out]
        exact sees_own h1

set_option maxHeartbeats 4000000 in
theorem comb_ne (a b : St) (hpa : a.l.Pairwise (· < ·)) (hpb : b.l.Pairwise (· < ·)) (A A2 : Option Addr) (n c n2 c2 : Nat) (w : World) (ha : SeesV w w.heap.size A n (a.l.map encs)) (hb : SeesV w w.heap.size A2 n2 (b.l.map encs)) (hn : n ≤ 274877906944) (hn2 : n2 ≤ 274877906944) :
    Calls Try.prog 29 #[.agg #[.bool a.all, .slice A n c], .agg #[.bool b.all, .slice A2 n2 c2], .func (.func 33) #[] #[]] w (Told (comb (· != ·) a b) w) := by
  obtain ⟨Z, hZ⟩ : ∃ Z, Z = ord (a.l ++ b.l) := ⟨_, rfl⟩
  obtain ⟨f, hf⟩ : ∃ f : List UInt8 → Bool, f = fun x => (a.mem x != b.mem x) != (a.all != b.all) := ⟨_, rfl⟩
  have HT : Hid ((comb (· != ·) a b) = ⟨a.all != b.all, Z.filter f⟩) := by rw [hZ, hf]; exact Lib.hid rfl
  have Hf : Hid (∀ x, f x = ((a.mem x != b.mem x) != (a.all != b.all))) := by rw [hf]; exact Lib.hid fun x => rfl
  have hla := ha.len
  have hlb := hb.len
  rw [List.length_map] at hla hlb
  have hZl : Z.length ≤ 549755813888 := by
    have := ord_le (a.l ++ b.l)
    rw [← hZ, List.length_append] at this
    omega
  have HZ : Hid (([a.l, b.l] : List (List (List UInt8))).flatten = a.l ++ b.l) := by exact Lib.hid (by simp)
  have HZ2 := Lib.hid hZ
  have Hla := Lib.hid hla
  have Hlb := Lib.hid hlb
  clear hf hZ hla hlb
  go_enter Try.func29, Try.ntmps29
  go_wp2_with (go_at_call 33; refine (differ_any _ _ _).mono ?_; rintro e w' ⟨rfl, rfl⟩)
  obtain ⟨W1, hW1, g0, g1, g2, g3, g4, gs, gb⟩ := five w (Obj.cells #[Value.bool a.all, Value.slice A n c] 49) (Obj.cells #[Value.bool b.all, Value.slice A2 n2 c2] 49) (Obj.cells #[Value.bool false, Value.slice none 0 0] 49) (Obj.cells #[Value.bool (a.all != b.all), Value.slice none 0 0] 49) (Obj.cells #[Value.slice A n c, Value.slice A2 n2 c2] 23)
  rw [← hW1]
  have hsa : SeesV W1 W1.heap.size A n (a.l.map encs) := by
    refine ⟨ha.len, fun j u hu => ?_⟩
    obtain ⟨b, o, e, hb', hc⟩ := ha.cell j u hu
    exact ⟨b, o, e, by omega, (gb.cell (p := ⟨b, o + j, none⟩) hb').trans hc⟩
  have hsb : SeesV W1 W1.heap.size A2 n2 (b.l.map encs) := by
    refine ⟨hb.len, fun j u hu => ?_⟩
    obtain ⟨b, o, e, hb', hc⟩ := hb.cell j u hu
    exact ⟨b, o, e, by omega, (gb.cell (p := ⟨b, o + j, none⟩) hb').trans hc⟩
  obtain ⟨L, hL⟩ : ∃ L, L = a.l ++ b.l := ⟨_, rfl⟩
  have hLl : L.length ≤ 549755813888 := by rw [hL, List.length_append, ← Hla.out, ← Hlb.out]; omega
  have HJ := Lib.hid (concat_any (w.heap.size + 1 + 1 + 1 + 1) 2 [.slice A n c, .slice A2 n2 c2] [a.l, b.l] W1 (Parts.two g4 hsa hsb) rfl (by omega) (by rw [HZ.out, List.length_append, ← Hla.out, ← Hlb.out]; omega) (by omega))
  rw [HZ.out, ← hL] at HJ
  rw [← hL] at HZ2
  clear hL
  refine HJ.out.mono ?_
  rintro e w1 ⟨A1, c1, rfl, hs1, hb1⟩
  go_wp2_with fail
  refine (ordered_any L _ _ _ _ hs1 (by omega)).mono ?_
  rintro e w2 ⟨A3, c3, rfl, hs2, hb2⟩
  rw [← HZ2.out] at hs2 ⊢
  have hb12 : Below W1.heap.size W1 w2 := hb1.trans (hb2.mono hb1.size)
  have k0 := (hb12.block w.heap.size (by omega)).trans g0
  have k1 := (hb12.block (w.heap.size + 1) (by omega)).trans g1
  have k2 := (hb12.block (w.heap.size + 1 + 1) (by omega)).trans g2
  have k3 := (hb12.block (w.heap.size + 1 + 1 + 1) (by omega)).trans g3
  have hsz := hb12.size
  have hW2 : w.heap.size + 5 ≤ w2.heap.size := by omega
  have hw2 : Below w.heap.size w w2 := gb.trans (hb12.mono (by omega))
  have hla := Hla.out
  have hlb := Hlb.out
  obtain ⟨m, hm⟩ : ∃ m, m = Z.length := ⟨_, rfl⟩
  rw [← hm] at hZl hs2 ⊢
  have Hm := Lib.hid hm
  have hsa2 : SeesV w2 w.heap.size A n (a.l.map encs) := by
    refine ⟨ha.len, fun j u hu => ?_⟩
    obtain ⟨b, o, e, hb', hc⟩ := ha.cell j u hu
    exact ⟨b, o, e, by omega, (hw2.cell (p := ⟨b, o + j, none⟩) hb').trans hc⟩
  have hsb2 : SeesV w2 w.heap.size A2 n2 (b.l.map encs) := by
    refine ⟨hb.len, fun j u hu => ?_⟩
    obtain ⟨b, o, e, hb', hc⟩ := hb.cell j u hu
    exact ⟨b, o, e, by omega, (hw2.cell (p := ⟨b, o + j, none⟩) hb').trans hc⟩
  obtain ⟨c0, hc0⟩ : ∃ c0, c0 = (a.all != b.all) := ⟨_, rfl⟩
  rw [← hc0] at k3 HT Hf ⊢
  clear hm hs1 hsa hsb g0 g1 g2 g3 g4 gb gs hb1 hb2 hb12 hsz hla hlb hW1 hc0 ha hb
  go_wp2_with fail
  go_loopw [25] (fun i wr => ∃ (k : Nat) (R : Option Addr) (N cR : Nat), k ≤ m ∧ i = .int .i64 k ∧ Cst 49 (w.heap.size + 1 + 1 + 1) w2.heap.size w2 c0 R N cR ((Z.take k).filter f) wr) (fun i _ => m - (intOf i).toNat)
  case atStart => exact ⟨0, none, 0, 0, Nat.zero_le _, rfl, fun k hk _ => rfl, Nat.le_refl _, rfl, rfl, rfl, k3, World.ownsRow_nil _ _ _ _⟩
  case round =>
    obtain ⟨k, R, N, cR, hk, rfl, hC⟩ := hrel
    obtain ⟨q0, q1, _, _⟩ := box2 ((hC.keep w.heap.size (by omega) (by omega)).trans k0)
    obtain ⟨q2, q3, _, _⟩ := box2 ((hC.keep (w.heap.size + 1) (by omega) (by omega)).trans k1)
    obtain ⟨q4, q5, q6, q7⟩ := box2 ((hC.keep (w.heap.size + 1 + 1) (by omega) (by omega)).trans k2)
    obtain ⟨q8, q9, q10, q11⟩ := box2 hC.boxc
    have Hk := Lib.hid hk
    by_cases hlt : k < m
    · have hkZ : k < Z.length := by rw [← Hm.out]; exact hlt
      obtain ⟨b3, o3, rfl, hb3, hc3⟩ := hs2.cell k (encs Z[k]) (by rw [List.getElem?_map, List.getElem?_eq_getElem hkZ]; rfl)
      obtain ⟨x, hx⟩ : ∃ x : ByteArray, x = ⟨Z[k].toArray⟩ := ⟨_, rfl⟩
      have hc3' : w2.cell? ⟨b3, o3 + k, none⟩ = some (.string x) := by rw [hc3, hx]; rfl
      have hb33 : b3 ≠ w.heap.size + 1 + 1 + 1 := by
        rintro rfl
        exact box2_str k3 (fun x e => by cases e) (fun x e => by cases e) _ hc3'
      have hcx : wr.cell? ⟨b3, o3 + k, none⟩ = some (.string x) := (World.cell?_of_block (hC.keep b3 hb3 hb33)).trans hc3'
      have hxd : x.data.toList = Z[k] := by rw [hx]
      have Hfk : Hid (((Z.take (k + 1)).filter f) = (Z.take k).filter f ++ if ((a.mem x.data.toList != b.mem x.data.toList) != c0) then [x.data.toList] else []) := by
        rw [take_filter (List.getElem?_eq_getElem hkZ) f, Hf.out, hxd]
        exact Lib.hid rfl
      have hB3 := hC.size
      have HA := Lib.hid (fun W (hb : Below wr.heap.size wr W) => has_any a hpa A n c w.heap.size x W (hsa2.keep fun p hp => (hb.cell (p := p) (by omega)).trans (World.cell?_of_block (hC.keep p.block (by omega) (by omega)))) (by have := hb.size; omega) (by omega) |>.mono (fun e w' h => (⟨h.1, hb.trans (h.2.mono hb.size)⟩ : e = .returned (.bool (a.mem x.data.toList)) ∧ Below wr.heap.size wr w')))
      have HB := Lib.hid (fun W (hb : Below wr.heap.size wr W) => has_any b hpb A2 n2 c2 w.heap.size x W (hsb2.keep fun p hp => (hb.cell (p := p) (by omega)).trans (World.cell?_of_block (hC.keep p.block (by omega) (by omega)))) (by have := hb.size; omega) (by omega) |>.mono (fun e w' h => (⟨h.1, hb.trans (h.2.mono hb.size)⟩ : e = .returned (.bool (b.mem x.data.toList)) ∧ Below wr.heap.size wr w')))
      obtain ⟨pa, hpa'⟩ : ∃ pa, pa = a.mem x.data.toList := ⟨_, rfl⟩
      obtain ⟨pb, hpb'⟩ : ∃ pb, pb = b.mem x.data.toList := ⟨_, rfl⟩
      rw [← hpa'] at HA Hfk
      rw [← hpb'] at HB Hfk
      have HO : Hid (∀ W, Calls Try.prog 33 #[.bool pa, .bool pb] W fun e w' => e = .returned (.bool (pa != pb)) ∧ W = w') := Lib.hid fun W => differ_any pa pb W
      obtain ⟨d, hd⟩ : ∃ d, d = (pa != pb) := ⟨_, rfl⟩
      rw [← hd] at HO Hfk
      clear hpa' hpb' hd hx hxd hc3 hc3' hb33 hkZ q4 q5 q6 q7
      have hx0 : w.heap.size < wr.heap.size := by omega
      have hx1 : w.heap.size + 1 < wr.heap.size := by omega
      have hx3 : w.heap.size + 1 + 1 + 1 < wr.heap.size := by omega
      have hk0 : (0 : Int) ≤ (k : Int) := by omega
      have hkm : (k : Int) < (m : Int) := by omega
      have HC := Lib.hid hC
      have hb0 : Below wr.heap.size wr wr.drew := (Below.refl _ _).drew
      have HP := Lib.hid (fun W (hb : Below wr.heap.size wr W) => (⟨hb, (hb.cell (p := ⟨w.heap.size, 0, none⟩) hx0).trans q0, (hb.cell (p := ⟨w.heap.size, 1, none⟩) hx0).trans q1, (hb.cell (p := ⟨w.heap.size + 1, 0, none⟩) hx1).trans q2, (hb.cell (p := ⟨w.heap.size + 1, 1, none⟩) hx1).trans q3, (hb.cell (p := ⟨w.heap.size + 1 + 1 + 1, 0, none⟩) hx3).trans q8⟩ : Below wr.heap.size wr W ∧ W.cell? ⟨w.heap.size, 0, none⟩ = some (.bool a.all) ∧ W.cell? ⟨w.heap.size, 1, none⟩ = some (.slice A n c) ∧ W.cell? ⟨w.heap.size + 1, 0, none⟩ = some (.bool b.all) ∧ W.cell? ⟨w.heap.size + 1, 1, none⟩ = some (.slice A2 n2 c2) ∧ W.cell? ⟨w.heap.size + 1 + 1 + 1, 0, none⟩ = some (.bool c0)))
      clear hC
      go_wp2_with fail
      go_region_held3 (fun w' => Below wr.heap.size wr w' ∧ w'.cell? ⟨w.heap.size, 0, none⟩ = some (.bool a.all) ∧ w'.cell? ⟨w.heap.size, 1, none⟩ = some (.slice A n c) ∧ w'.cell? ⟨w.heap.size + 1, 0, none⟩ = some (.bool b.all) ∧ w'.cell? ⟨w.heap.size + 1, 1, none⟩ = some (.slice A2 n2 c2) ∧ w'.cell? ⟨w.heap.size + 1 + 1 + 1, 0, none⟩ = some (.bool c0))
        (first | exact HP.out _ hb12 | exact HP.out _ hb11 | exact HP.out _ hb0)
        (first
        | (go_at_call 26; (with_reducible refine (HA.out _ hb0).mono ?_); rintro e w11 ⟨rfl, hb11⟩)
        | (go_at_call 26; (with_reducible refine (HB.out _ hb11).mono ?_); rintro e w12 ⟨rfl, hb12⟩)
        | (go_at_call 33; (with_reducible refine (HO.out _).mono ?_); rintro e w' ⟨rfl, rfl⟩))
      all_goals
        have C12 := HC.out.filter_skip hx3 hb12
        obtain ⟨r8, r9, r10, r11⟩ := box2 C12.boxc
        have ho := C12.row
        have hN2 : N + 1 ≤ 1099511627776 := by
          have h1 := ho.1
          have h2 := List.length_filter_le f (Z.take k)
          rw [List.length_map] at h1
          rw [List.length_take] at h2
          omega
        have hGW : w.heap.size + 1 + 1 + 1 < w2.heap.size := by omega
        have hsz12 := C12.size
        have HC12 := Lib.hid C12
        clear C12 HA HB HO HP HC hk hlt
        cases hdc : (d == c0) with
        | true =>
          have hne : (d != c0) = false := by simp [bne, hdc]
          rw [hne, if_neg (by simp), List.append_nil] at Hfk
          clear hne
          go_wp2_with fail
          go_roundw
          case rel => exact ⟨k + 1, R, N, cR, by have := Hk.out; omega, by go_num, by rw [Hfk.out]; exact HC12.out⟩
          case measure => simp [intOf]; omega
        | false =>
          have hne : (d != c0) = true := by simp [bne, hdc]
          rw [hne, if_pos rfl] at Hfk
          clear hne
          go_wp2_with (at_builtin; refine wpList_append_row rfl (.tmp 41) (.tmp 43) _ _ rfl elem_s rfl rfl (ho.alloc _) (src_lit _ _ _ (by simp)) hN2 (by simp; omega) ?_; intro A4 c4 w4 ho4 hg4 hat4; rw [← List.map_append] at ho4; have hP := HC12.out.push hGW hg4 ho4 hat4; obtain ⟨s8, s9, s10, s11⟩ := box2 hP.1; have HP := Lib.hid hP; clear hP ho4)
          go_roundw
          case rel => exact ⟨k + 1, A4, N + 1, c4, by have := Hk.out; omega, by go_num, by rw [Hfk.out]; exact HP.out.2⟩
          case measure => simp [intOf]; omega
    · obtain rfl : k = m := by omega
      have hZt : Z.take k = Z := List.take_of_length_le (by rw [← Hm.out]; exact Nat.le_refl _)
      rw [hZt] at hC
      obtain ⟨hNl, hsee⟩ := hC.seen
      have HC := Lib.hid hC
      have HNl := Lib.hid hNl
      have hsz2 := hC.size
      clear hC hZt hNl
      have hW := hw2.trans (HC.out.less (B := w.heap.size) (by omega) (by omega) rfl)
      have HW := Lib.hid hW
      clear hW hw2 hsa2 hsb2
      go_wp2_with fail
      rw [HT.out]
      refine bodyPost_ret (v := .agg #[.bool c0, .slice R N cR]) (by simp [results, Try.results29, go_sem, q4, q5]) rfl ?_
      have hne : (Value.slice R N cR).ownBlock ≠ some (w.heap.size + 1 + 1) := fun e => by have := (HC.out.row.lt _ e).1; omega
      have h1 := (HC.out.row.kept (grown_set wr ⟨w.heap.size + 1 + 1, 0, none⟩ (Value.bool c0)) (.inr hne)).kept (grown_set _ ⟨w.heap.size + 1 + 1, 1, none⟩ (Value.slice R N cR)) (.inr hne)
      refine ⟨R, cR, ?_, ?_, (HW.out.setCell (by simp only; omega) _).setCell (by simp only; omega) _⟩
      · simp only [← HNl.out]
      · simp only [← HNl.out]
        exact sees_own h1

end Go.Proofs.Ytkponeccenehhaa.Nm
