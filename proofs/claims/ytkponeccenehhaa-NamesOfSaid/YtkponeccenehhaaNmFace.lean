/- names.from, Both, Either, Not, Same, None, Has: what they tell of sets. Conditions: fewer than 2^37 names in each. -/
import Derived.Test.YtkponeccenehhaaNmComb
namespace Go.Proofs.Ytkponeccenehhaa.Nm
open Go.RowKit
set_option maxRecDepth 100000

/-- A set as it is handed in: its names seen. -/
structure In (w : World) (a : St) (A : Option Addr) (n : Nat) : Prop where
  sees : SeesV w w.heap.size A n (a.l.map encs)
theorem In.below {w w' : World} {a : St} {A : Option Addr} {n : Nat} (h : In w a A n) (hb : Below w.heap.size w w') : In w' a A n := by
  refine ⟨⟨h.sees.len, fun j u hu => ?_⟩⟩
  obtain ⟨b, o, e, hb', hc⟩ := h.sees.cell j u hu
  exact ⟨b, o, e, Nat.lt_of_lt_of_le hb' hb.size, (hb.cell (p := ⟨b, o + j, none⟩) hb').trans hc⟩
theorem In.len {w : World} {a : St} {A : Option Addr} {n : Nat} (h : In w a A n) : n = a.l.length := by
  have := h.sees.len
  rwa [List.length_map] at this

theorem two (w : World) (o0 o1 : Obj) : ∃ W, W = (w.alloc o0).alloc o1 ∧ W.heap[w.heap.size]? = some o0 ∧ W.heap[w.heap.size + 1]? = some o1 ∧ W.heap.size = w.heap.size + 2 ∧ Below w.heap.size w W := by
  refine ⟨_, rfl, ?_, ?_, by simp, ((Below.refl _ _).alloc (Nat.le_refl _) _).alloc (by simp) _⟩
  · rw [Below.heap_alloc _ _ _ (by simp), heap_alloc_new]
  · rw [show w.heap.size + 1 = (w.alloc o0).heap.size by simp, heap_alloc_new]
theorem three (w : World) (o0 o1 o2 : Obj) : ∃ W, W = ((w.alloc o0).alloc o1).alloc o2 ∧ W.heap[w.heap.size]? = some o0 ∧ W.heap[w.heap.size + 1]? = some o1 ∧ W.heap[w.heap.size + 1 + 1]? = some o2 ∧ W.heap.size = w.heap.size + 3 ∧ Below w.heap.size w W := by
  obtain ⟨W, hW, g0, g1, gs, gb⟩ := two w o0 o1
  refine ⟨_, rfl, ?_, ?_, ?_, by simp, (((Below.refl _ _).alloc (Nat.le_refl _) _).alloc (by simp) _).alloc (by simp; omega) _⟩
  · rw [← hW, Below.heap_alloc _ _ _ (by omega), g0]
  · rw [← hW, Below.heap_alloc _ _ _ (by omega), g1]
  · rw [← hW, show w.heap.size + 1 + 1 = W.heap.size by omega, heap_alloc_new]
theorem Below.box {w w' : World} {g : Nat} {o : Obj} (hb : Below w.heap.size w w') (h : w.heap[g]? = some o) : w'.heap[g]? = some o := (hb.block g (Array.getElem?_eq_some_iff.1 h).1).trans h

theorem told_put {w w1 : World} {g N c1 : Nat} {A1 : Option Addr} {s : St} {x : Bool} {T : TypeId} (hbox : w1.heap[g]? = some (.cells #[.bool false, .slice none 0 0] T (0, 0))) (hs : SeesV w1 w1.heap.size A1 N (s.l.map encs)) (hN : N = s.l.length) (hb : Below w.heap.size w w1) (hg : w.heap.size ≤ g) (hx : x = s.all) :
    Told s w (.returned (.agg #[.bool x, .slice A1 N c1])) ((w1.setCell ⟨g, 0, none⟩ (.bool x)).setCell ⟨g, 1, none⟩ (.slice A1 N c1)) := by
  subst hx
  refine ⟨A1, c1, by rw [hN], ⟨by rw [List.length_map], fun j u hu => ?_⟩, (hb.setCell (by simpa using hg) _).setCell (by simpa using hg) _⟩
  obtain ⟨b, o, e, hb', hc⟩ := hs.cell j u hu
  have hbg : b ≠ g := by
    rintro rfl
    have : ∃ y : ByteArray, u = .string y := by
      rw [List.getElem?_map, Option.map_eq_some_iff] at hu
      obtain ⟨y, _, rfl⟩ := hu
      exact ⟨_, rfl⟩
    obtain ⟨y, rfl⟩ := this
    exact box2_str hbox (fun x e => by cases e) (fun x e => by cases e) _ hc
  refine ⟨b, o, e, by simpa [World.setCell] using hb', ?_⟩
  rw [World.cell?_setCell_other _ _ _ _ (fun e => hbg (congrArg Addr.block e).symm), World.cell?_setCell_other _ _ _ _ (fun e => hbg (congrArg Addr.block e).symm)]
  exact hc

set_option maxHeartbeats 2000000 in
theorem from_any (a : St) (A : Option Addr) (n c : Nat) (w : World) (h : In w a A n) (hn : n ≤ 274877906944) :
    Calls Try.prog 22 #[.agg #[.bool a.all, .slice A n c]] w (Told (fr a) w) := by
  obtain ⟨W1, hW1, g0, g1, gs, gb⟩ := two w (Obj.cells #[Value.bool a.all, Value.slice A n c] 25) (Obj.cells #[Value.bool false, Value.slice none 0 0] 49)
  have HO : Hid (∀ W, Below W1.heap.size W1 W → Calls Try.prog 35 #[.slice A n c] W fun e w' => ∃ A' c', e = .returned (.slice A' (ord a.l).length c') ∧ SeesV w' w'.heap.size A' (ord a.l).length ((ord a.l).map encs) ∧ Below W1.heap.size W1 w') := by
    refine Lib.hid fun W hb => ?_
    refine (ordered_any a.l A n c W ((h.below gb).below hb).sees (by omega)).mono ?_
    rintro e w' ⟨A', c', rfl, hs, hb'⟩
    exact ⟨A', c', rfl, hs, hb.trans (hb'.mono hb.size)⟩
  obtain ⟨L, hL⟩ : ∃ L, L = ord a.l := ⟨_, rfl⟩
  rw [← hL] at HO
  obtain ⟨N, hN⟩ : ∃ N, N = L.length := ⟨_, rfl⟩
  rw [← hN] at HO
  have HT : Hid (fr a = ⟨a.all, L⟩) := by rw [hL]; exact Lib.hid rfl
  have HN := Lib.hid hN
  obtain ⟨x, hx⟩ : ∃ x, x = a.all := ⟨_, rfl⟩
  rw [← hx] at HT hW1 g0 ⊢
  clear hL hN hx
  have HK := Lib.hid (fun W (hb : Below (w.heap.size + 1) W1 W) => have := box2 ((hb.block w.heap.size (by omega)).trans g0); (⟨hb, this.1, this.2.1⟩ : Below (w.heap.size + 1) W1 W ∧ W.cell? ⟨w.heap.size, 0, none⟩ = some (.bool x) ∧ W.cell? ⟨w.heap.size, 1, none⟩ = some (.slice A n c)))
  have HQ := Lib.hid (fun W (hb : Below W1.heap.size W1 W) => Below.box hb g1)
  have hb0 : Below W1.heap.size W1 W1.drew := (Below.refl _ _).drew
  have hb00 : Below (w.heap.size + 1) W1 W1.drew := hb0.mono (by omega)
  have hsz1 : w.heap.size + 1 ≤ W1.heap.size := by omega
  go_enter Try.func22, Try.ntmps22
  go_wp2_with fail
  rw [← hW1]
  clear hW1
  go_region_held3 (fun w' => Below (w.heap.size + 1) W1 w' ∧ w'.cell? ⟨w.heap.size, 0, none⟩ = some (.bool x) ∧ w'.cell? ⟨w.heap.size, 1, none⟩ = some (.slice A n c))
    (first | exact HK.out _ hb11 | exact HK.out _ ((hb11.setCell (Nat.le_refl _) _).setCell (Nat.le_refl _) _) | exact HK.out _ hb00)
    (first
    | (go_at_call 35; (with_reducible refine (HO.out _ hb0).mono ?_); rintro e w1 ⟨A1, c1, rfl, hs1, hb1⟩; have hbx := HQ.out _ hb1; obtain ⟨r2, r3, r4, r5⟩ := box2 hbx; have hb11 := hb1.mono hsz1))
  all_goals
    go_wp2_with fail
    rw [HT.out]
    refine bodyPost_ret (v := .agg #[.bool x, .slice A1 N c1]) (by simp [results, Try.results22, go_sem, r2, r3]) rfl ?_
    exact told_put hbx hs1 HN.out (gb.trans (hb1.mono (by omega))) (by omega) rfl


theorem Told.alloc {s : St} {w W : World} {e : Ending} (h : Told s w e W) (o : Obj) : Told s w e (W.alloc o) := by
  obtain ⟨A, c, he, hs, hb⟩ := h
  refine ⟨A, c, he, ⟨hs.len, fun j u hu => ?_⟩, hb.alloc hb.size _⟩
  obtain ⟨b, o', e, hb', hc⟩ := hs.cell j u hu
  exact ⟨b, o', e, by simp; omega, (World.cell?_alloc_lt W o ⟨b, o' + j, none⟩ hb').trans hc⟩
theorem told_in {s : St} {w' : World} {A : Option Addr} (h : SeesV w' w'.heap.size A s.l.length (s.l.map encs)) : In w' s A s.l.length := ⟨h⟩

set_option maxHeartbeats 2000000 in
theorem not_any (a : St) (A : Option Addr) (n c : Nat) (w : World) (h : In w a A n) (hn : n ≤ 274877906944) :
    Calls Try.prog 13 #[.agg #[.bool a.all, .slice A n c]] w (Told (nott a) w) := by
  obtain ⟨W1, hW1, g0, g1, gs, gb⟩ := two w (Obj.cells #[Value.bool a.all, Value.slice A n c] 25) (Obj.cells #[Value.bool false, Value.slice none 0 0] 25)
  have HF := Lib.hid (from_any a A n c W1 (h.below gb) hn)
  obtain ⟨p0, p1, _, _⟩ := box2 g0
  have HT : Hid (nott a = ⟨!a.all, (fr a).l⟩ ∧ (fr a).all = a.all) := Lib.hid ⟨rfl, rfl⟩
  obtain ⟨s, hs⟩ : ∃ s, s = fr a := ⟨_, rfl⟩
  rw [← hs] at HF HT
  clear hs
  go_enter Try.func13, Try.ntmps13
  go_wp2_with fail
  rw [← hW1]
  clear hW1
  refine HF.out.mono ?_
  rintro e w1 ⟨A1, c1, rfl, hs1, hb1⟩
  have hbx := Below.box hb1 g1
  obtain ⟨r2, r3, r4, r5⟩ := box2 hbx
  have hsz1 := hb1.size
  have hne : w.heap.size + 1 < w1.heap.size := by omega
  rw [HT.out.2]
  go_wp2_with fail
  have HT1 := HT.out.1
  rw [HT1]
  refine bodyPost_ret (v := .agg #[.bool !a.all, .slice A1 s.l.length c1]) (by simp [results, Try.results13, go_sem, r2, r3, hne]) rfl ?_
  exact Told.alloc (told_put (s := ⟨!a.all, s.l⟩) hbx hs1 rfl (gb.trans (hb1.mono (by omega))) (by omega) rfl) _

theorem none_any (a : Bool) (A : Option Addr) (n c : Nat) (w : World) :
    Calls Try.prog 32 #[.agg #[.bool a, .slice A n c]] w fun e w' => e = .returned (.bool (!a && decide (n = 0))) ∧ Below w.heap.size w w' := by
  have hd : ((n : Int) == 0) = decide (n = 0) := by rw [Bool.eq_iff_iff]; simp
  have Hd := Lib.hid hd
  clear hd
  cases a with
  | true =>
    go_enter Try.func32, Try.ntmps32
    go_wp2_with fail
    go_ret
    exact ⟨by simp, (Below.refl _ _).alloc (Nat.le_refl _) _⟩
  | false =>
    go_enter Try.func32, Try.ntmps32
    go_wp2_with fail
    go_ret
    exact ⟨by simp [Hd.out], (Below.refl _ _).alloc (Nat.le_refl _) _⟩


set_option maxHeartbeats 4000000 in
theorem both_any (a b : St) (A A2 : Option Addr) (n c n2 c2 : Nat) (w : World) (h : In w a A n) (h2 : In w b A2 n2) (hn : n ≤ 274877906944) (hn2 : n2 ≤ 274877906944) :
    Calls Try.prog 16 #[.agg #[.bool a.all, .slice A n c], .agg #[.bool b.all, .slice A2 n2 c2]] w (Told (both a b) w) := by
  obtain ⟨W1, hW1, g0, g1, g2, gs, gb⟩ := three w (Obj.cells #[Value.bool a.all, Value.slice A n c] 25) (Obj.cells #[Value.bool b.all, Value.slice A2 n2 c2] 25) (Obj.cells #[Value.bool false, Value.slice none 0 0] 25)
  have hl1 := fr_le a
  have hl2 := fr_le b
  rw [← h.len] at hl1
  rw [← h2.len] at hl2
  have HF : Hid (∀ W, Below W1.heap.size W1 W → Calls Try.prog 22 #[.agg #[.bool a.all, .slice A n c]] W fun e w' => ∃ A' c', e = .returned (.agg #[.bool (fr a).all, .slice A' (fr a).l.length c']) ∧ In w' (fr a) A' (fr a).l.length ∧ Below W1.heap.size W1 w') := by
    refine Lib.hid fun W hb => (from_any a A n c W ((h.below gb).below hb) hn).mono ?_
    rintro e w' ⟨A', c', rfl, hs, hb'⟩
    exact ⟨A', c', rfl, told_in hs, hb.trans (hb'.mono hb.size)⟩
  have HG : Hid (∀ W A1 (c1 : Nat), In W (fr a) A1 (fr a).l.length → Below W1.heap.size W1 W → Calls Try.prog 22 #[.agg #[.bool b.all, .slice A2 n2 c2]] W fun e w' => ∃ A' c', e = .returned (.agg #[.bool (fr b).all, .slice A' (fr b).l.length c']) ∧ In w' (fr a) A1 (fr a).l.length ∧ In w' (fr b) A' (fr b).l.length ∧ Below W1.heap.size W1 w') := by
    refine Lib.hid fun W A1 c1 hi hb => (from_any b A2 n2 c2 W ((h2.below gb).below hb) hn2).mono ?_
    rintro e w' ⟨A', c', rfl, hs, hb'⟩
    exact ⟨A', c', rfl, hi.below hb', told_in hs, hb.trans (hb'.mono hb.size)⟩
  have HC : Hid (∀ W A1 c1 A2 c2, In W (fr a) A1 (fr a).l.length → In W (fr b) A2 (fr b).l.length → Below W1.heap.size W1 W → Calls Try.prog 29 #[.agg #[.bool (fr a).all, .slice A1 (fr a).l.length c1], .agg #[.bool (fr b).all, .slice A2 (fr b).l.length c2], .func (.func 30) #[] #[]] W fun e w' => ∃ A' c', e = .returned (.agg #[.bool (both a b).all, .slice A' (both a b).l.length c']) ∧ SeesV w' w'.heap.size A' (both a b).l.length ((both a b).l.map encs) ∧ Below W1.heap.size W1 w') := by
    refine Lib.hid fun W A1 c1 A2 c2 i1 i2 hb => (comb_and (fr a) (fr b) (ord_pair _) (ord_pair _) A1 A2 _ c1 _ c2 W i1.sees i2.sees (by omega) (by omega)).mono ?_
    rintro e w' ⟨A', c', rfl, hs, hb'⟩
    exact ⟨A', c', rfl, hs, hb.trans (hb'.mono hb.size)⟩
  obtain ⟨s1, hs1⟩ : ∃ s, s = fr a := ⟨_, rfl⟩
  obtain ⟨s2, hs2⟩ : ∃ s, s = fr b := ⟨_, rfl⟩
  obtain ⟨s, hs⟩ : ∃ s, s = both a b := ⟨_, rfl⟩
  rw [← hs1] at HF HG
  rw [← hs2] at HG
  rw [← hs] at HC ⊢
  rw [← hs1, ← hs2] at HC
  clear hs1 hs2 hs hl1 hl2
  have HK := Lib.hid (fun W (hb : Below (w.heap.size + 2) W1 W) => have t0 := box2 ((hb.block w.heap.size (by omega)).trans g0); have t1 := box2 ((hb.block (w.heap.size + 1) (by omega)).trans g1); (⟨hb, t0.1, t0.2.1, t1.1, t1.2.1⟩ : Below (w.heap.size + 2) W1 W ∧ W.cell? ⟨w.heap.size, 0, none⟩ = some (.bool a.all) ∧ W.cell? ⟨w.heap.size, 1, none⟩ = some (.slice A n c) ∧ W.cell? ⟨w.heap.size + 1, 0, none⟩ = some (.bool b.all) ∧ W.cell? ⟨w.heap.size + 1, 1, none⟩ = some (.slice A2 n2 c2)))
  have HQ := Lib.hid (fun W (hb : Below W1.heap.size W1 W) => Below.box hb g2)
  have hb0 : Below W1.heap.size W1 W1.drew := (Below.refl _ _).drew
  have hsz1 : w.heap.size + 2 ≤ W1.heap.size := by omega
  have hb00 : Below (w.heap.size + 2) W1 W1.drew := hb0.mono hsz1
  go_enter Try.func16, Try.ntmps16
  go_wp2_with fail
  rw [← hW1]
  clear hW1
  go_region_held3 (fun w' => Below (w.heap.size + 2) W1 w' ∧ w'.cell? ⟨w.heap.size, 0, none⟩ = some (.bool a.all) ∧ w'.cell? ⟨w.heap.size, 1, none⟩ = some (.slice A n c) ∧ w'.cell? ⟨w.heap.size + 1, 0, none⟩ = some (.bool b.all) ∧ w'.cell? ⟨w.heap.size + 1, 1, none⟩ = some (.slice A2 n2 c2))
    (first | exact HK.out _ (hb3.mono hsz1) | exact HK.out _ (((hb3.mono hsz1).setCell (Nat.le_refl _) _).setCell (Nat.le_refl _) _) | exact HK.out _ (hb2.mono hsz1) | exact HK.out _ (hb1.mono hsz1) | exact HK.out _ hb00)
    (first
    | (go_at_call 22; (with_reducible refine (HF.out _ hb0).mono ?_); rintro e w1 ⟨A3, c3, rfl, hi1, hb1⟩)
    | (go_at_call 22; (with_reducible refine (HG.out _ _ c3 hi1 hb1).mono ?_); rintro e w2 ⟨A4, c4, rfl, hi2, hi3, hb2⟩)
    | (go_at_call 29; (with_reducible refine (HC.out _ _ _ _ _ hi2 hi3 hb2).mono ?_); rintro e w3 ⟨A5, c5, rfl, hs3, hb3⟩; have hbx := HQ.out _ hb3; obtain ⟨r2, r3, r4, r5⟩ := box2 hbx))
  all_goals
    go_wp2_with fail
    refine bodyPost_ret (v := .agg #[.bool s.all, .slice A5 s.l.length c5]) (by simp [results, Try.results16, go_sem, r2, r3]) rfl ?_
    exact told_put hbx hs3 rfl (gb.trans (hb3.mono (by omega))) (by omega) rfl

set_option maxHeartbeats 4000000 in
theorem either_any (a b : St) (A A2 : Option Addr) (n c n2 c2 : Nat) (w : World) (h : In w a A n) (h2 : In w b A2 n2) (hn : n ≤ 274877906944) (hn2 : n2 ≤ 274877906944) :
    Calls Try.prog 17 #[.agg #[.bool a.all, .slice A n c], .agg #[.bool b.all, .slice A2 n2 c2]] w (Told (either a b) w) := by
  obtain ⟨W1, hW1, g0, g1, g2, gs, gb⟩ := three w (Obj.cells #[Value.bool a.all, Value.slice A n c] 25) (Obj.cells #[Value.bool b.all, Value.slice A2 n2 c2] 25) (Obj.cells #[Value.bool false, Value.slice none 0 0] 25)
  have hl1 := fr_le a
  have hl2 := fr_le b
  rw [← h.len] at hl1
  rw [← h2.len] at hl2
  have HF : Hid (∀ W, Below W1.heap.size W1 W → Calls Try.prog 22 #[.agg #[.bool a.all, .slice A n c]] W fun e w' => ∃ A' c', e = .returned (.agg #[.bool (fr a).all, .slice A' (fr a).l.length c']) ∧ In w' (fr a) A' (fr a).l.length ∧ Below W1.heap.size W1 w') := by
    refine Lib.hid fun W hb => (from_any a A n c W ((h.below gb).below hb) hn).mono ?_
    rintro e w' ⟨A', c', rfl, hs, hb'⟩
    exact ⟨A', c', rfl, told_in hs, hb.trans (hb'.mono hb.size)⟩
  have HG : Hid (∀ W A1 (c1 : Nat), In W (fr a) A1 (fr a).l.length → Below W1.heap.size W1 W → Calls Try.prog 22 #[.agg #[.bool b.all, .slice A2 n2 c2]] W fun e w' => ∃ A' c', e = .returned (.agg #[.bool (fr b).all, .slice A' (fr b).l.length c']) ∧ In w' (fr a) A1 (fr a).l.length ∧ In w' (fr b) A' (fr b).l.length ∧ Below W1.heap.size W1 w') := by
    refine Lib.hid fun W A1 c1 hi hb => (from_any b A2 n2 c2 W ((h2.below gb).below hb) hn2).mono ?_
    rintro e w' ⟨A', c', rfl, hs, hb'⟩
    exact ⟨A', c', rfl, hi.below hb', told_in hs, hb.trans (hb'.mono hb.size)⟩
  have HC : Hid (∀ W A1 c1 A2 c2, In W (fr a) A1 (fr a).l.length → In W (fr b) A2 (fr b).l.length → Below W1.heap.size W1 W → Calls Try.prog 29 #[.agg #[.bool (fr a).all, .slice A1 (fr a).l.length c1], .agg #[.bool (fr b).all, .slice A2 (fr b).l.length c2], .func (.func 31) #[] #[]] W fun e w' => ∃ A' c', e = .returned (.agg #[.bool (either a b).all, .slice A' (either a b).l.length c']) ∧ SeesV w' w'.heap.size A' (either a b).l.length ((either a b).l.map encs) ∧ Below W1.heap.size W1 w') := by
    refine Lib.hid fun W A1 c1 A2 c2 i1 i2 hb => (comb_or (fr a) (fr b) (ord_pair _) (ord_pair _) A1 A2 _ c1 _ c2 W i1.sees i2.sees (by omega) (by omega)).mono ?_
    rintro e w' ⟨A', c', rfl, hs, hb'⟩
    exact ⟨A', c', rfl, hs, hb.trans (hb'.mono hb.size)⟩
  obtain ⟨s1, hs1⟩ : ∃ s, s = fr a := ⟨_, rfl⟩
  obtain ⟨s2, hs2⟩ : ∃ s, s = fr b := ⟨_, rfl⟩
  obtain ⟨s, hs⟩ : ∃ s, s = either a b := ⟨_, rfl⟩
  rw [← hs1] at HF HG
  rw [← hs2] at HG
  rw [← hs] at HC ⊢
  rw [← hs1, ← hs2] at HC
  clear hs1 hs2 hs hl1 hl2
  have HK := Lib.hid (fun W (hb : Below (w.heap.size + 2) W1 W) => have t0 := box2 ((hb.block w.heap.size (by omega)).trans g0); have t1 := box2 ((hb.block (w.heap.size + 1) (by omega)).trans g1); (⟨hb, t0.1, t0.2.1, t1.1, t1.2.1⟩ : Below (w.heap.size + 2) W1 W ∧ W.cell? ⟨w.heap.size, 0, none⟩ = some (.bool a.all) ∧ W.cell? ⟨w.heap.size, 1, none⟩ = some (.slice A n c) ∧ W.cell? ⟨w.heap.size + 1, 0, none⟩ = some (.bool b.all) ∧ W.cell? ⟨w.heap.size + 1, 1, none⟩ = some (.slice A2 n2 c2)))
  have HQ := Lib.hid (fun W (hb : Below W1.heap.size W1 W) => Below.box hb g2)
  have hb0 : Below W1.heap.size W1 W1.drew := (Below.refl _ _).drew
  have hsz1 : w.heap.size + 2 ≤ W1.heap.size := by omega
  have hb00 : Below (w.heap.size + 2) W1 W1.drew := hb0.mono hsz1
  go_enter Try.func17, Try.ntmps17
  go_wp2_with fail
  rw [← hW1]
  clear hW1
  go_region_held3 (fun w' => Below (w.heap.size + 2) W1 w' ∧ w'.cell? ⟨w.heap.size, 0, none⟩ = some (.bool a.all) ∧ w'.cell? ⟨w.heap.size, 1, none⟩ = some (.slice A n c) ∧ w'.cell? ⟨w.heap.size + 1, 0, none⟩ = some (.bool b.all) ∧ w'.cell? ⟨w.heap.size + 1, 1, none⟩ = some (.slice A2 n2 c2))
    (first | exact HK.out _ (hb3.mono hsz1) | exact HK.out _ (((hb3.mono hsz1).setCell (Nat.le_refl _) _).setCell (Nat.le_refl _) _) | exact HK.out _ (hb2.mono hsz1) | exact HK.out _ (hb1.mono hsz1) | exact HK.out _ hb00)
    (first
    | (go_at_call 22; (with_reducible refine (HF.out _ hb0).mono ?_); rintro e w1 ⟨A3, c3, rfl, hi1, hb1⟩)
    | (go_at_call 22; (with_reducible refine (HG.out _ _ c3 hi1 hb1).mono ?_); rintro e w2 ⟨A4, c4, rfl, hi2, hi3, hb2⟩)
    | (go_at_call 29; (with_reducible refine (HC.out _ _ _ _ _ hi2 hi3 hb2).mono ?_); rintro e w3 ⟨A5, c5, rfl, hs3, hb3⟩; have hbx := HQ.out _ hb3; obtain ⟨r2, r3, r4, r5⟩ := box2 hbx))
  all_goals
    go_wp2_with fail
    refine bodyPost_ret (v := .agg #[.bool s.all, .slice A5 s.l.length c5]) (by simp [results, Try.results17, go_sem, r2, r3]) rfl ?_
    exact told_put hbx hs3 rfl (gb.trans (hb3.mono (by omega))) (by omega) rfl

set_option maxHeartbeats 4000000 in
theorem same_any (a b : St) (A A2 : Option Addr) (n c n2 c2 : Nat) (w : World) (h : In w a A n) (h2 : In w b A2 n2) (hn : n ≤ 274877906944) (hn2 : n2 ≤ 274877906944) :
    Calls Try.prog 18 #[.agg #[.bool a.all, .slice A n c], .agg #[.bool b.all, .slice A2 n2 c2]] w fun e w' => e = .returned (.bool (same a b)) ∧ Below w.heap.size w w' := by
  obtain ⟨W1, hW1, g0, g1, gs, gb⟩ := two w (Obj.cells #[Value.bool a.all, Value.slice A n c] 25) (Obj.cells #[Value.bool b.all, Value.slice A2 n2 c2] 25)
  have hl1 := fr_le a
  have hl2 := fr_le b
  rw [← h.len] at hl1
  rw [← h2.len] at hl2
  have HF : Hid (∀ W, Below W1.heap.size W1 W → Calls Try.prog 22 #[.agg #[.bool a.all, .slice A n c]] W fun e w' => ∃ A' c', e = .returned (.agg #[.bool (fr a).all, .slice A' (fr a).l.length c']) ∧ In w' (fr a) A' (fr a).l.length ∧ Below W1.heap.size W1 w') := by
    refine Lib.hid fun W hb => (from_any a A n c W ((h.below gb).below hb) hn).mono ?_
    rintro e w' ⟨A', c', rfl, hs, hb'⟩
    exact ⟨A', c', rfl, told_in hs, hb.trans (hb'.mono hb.size)⟩
  have HG : Hid (∀ W A1 (c1 : Nat), In W (fr a) A1 (fr a).l.length → Below W1.heap.size W1 W → Calls Try.prog 22 #[.agg #[.bool b.all, .slice A2 n2 c2]] W fun e w' => ∃ A' c', e = .returned (.agg #[.bool (fr b).all, .slice A' (fr b).l.length c']) ∧ In w' (fr a) A1 (fr a).l.length ∧ In w' (fr b) A' (fr b).l.length ∧ Below W1.heap.size W1 w') := by
    refine Lib.hid fun W A1 c1 hi hb => (from_any b A2 n2 c2 W ((h2.below gb).below hb) hn2).mono ?_
    rintro e w' ⟨A', c', rfl, hs, hb'⟩
    exact ⟨A', c', rfl, hi.below hb', told_in hs, hb.trans (hb'.mono hb.size)⟩
  have HC : Hid (∀ W A1 c1 A2 c2, In W (fr a) A1 (fr a).l.length → In W (fr b) A2 (fr b).l.length → Below W1.heap.size W1 W → Calls Try.prog 29 #[.agg #[.bool (fr a).all, .slice A1 (fr a).l.length c1], .agg #[.bool (fr b).all, .slice A2 (fr b).l.length c2], .func (.func 33) #[] #[]] W fun e w' => ∃ A' c', e = .returned (.agg #[.bool (comb (· != ·) (fr a) (fr b)).all, .slice A' (comb (· != ·) (fr a) (fr b)).l.length c']) ∧ SeesV w' w'.heap.size A' (comb (· != ·) (fr a) (fr b)).l.length ((comb (· != ·) (fr a) (fr b)).l.map encs) ∧ Below W1.heap.size W1 w') := by
    refine Lib.hid fun W A1 c1 A2 c2 i1 i2 hb => (comb_ne (fr a) (fr b) (ord_pair _) (ord_pair _) A1 A2 _ c1 _ c2 W i1.sees i2.sees (by omega) (by omega)).mono ?_
    rintro e w' ⟨A', c', rfl, hs, hb'⟩
    exact ⟨A', c', rfl, hs, hb.trans (hb'.mono hb.size)⟩
  obtain ⟨s1, hs1⟩ : ∃ s, s = fr a := ⟨_, rfl⟩
  obtain ⟨s2, hs2⟩ : ∃ s, s = fr b := ⟨_, rfl⟩
  obtain ⟨s, hs⟩ : ∃ s, s = comb (· != ·) (fr a) (fr b) := ⟨_, rfl⟩
  rw [← hs1] at HF HG
  rw [← hs2] at HG
  rw [← hs] at HC
  rw [← hs1, ← hs2] at HC
  have HT : Hid (same a b = s.none) := by rw [hs]; exact Lib.hid rfl
  have HN : Hid (∀ W A c, Below W1.heap.size W1 W → Calls Try.prog 32 #[.agg #[.bool s.all, .slice A s.l.length c]] W fun e w' => e = .returned (.bool s.none) ∧ Below W1.heap.size W1 w') := Lib.hid fun W A c hb => (none_any s.all A s.l.length c W).mono fun e w' h => ⟨h.1, hb.trans (h.2.mono hb.size)⟩
  clear hs1 hs2 hs hl1 hl2
  have HK := Lib.hid (fun W (hb : Below (w.heap.size + 2) W1 W) => have t0 := box2 ((hb.block w.heap.size (by omega)).trans g0); have t1 := box2 ((hb.block (w.heap.size + 1) (by omega)).trans g1); (⟨hb, t0.1, t0.2.1, t1.1, t1.2.1⟩ : Below (w.heap.size + 2) W1 W ∧ W.cell? ⟨w.heap.size, 0, none⟩ = some (.bool a.all) ∧ W.cell? ⟨w.heap.size, 1, none⟩ = some (.slice A n c) ∧ W.cell? ⟨w.heap.size + 1, 0, none⟩ = some (.bool b.all) ∧ W.cell? ⟨w.heap.size + 1, 1, none⟩ = some (.slice A2 n2 c2)))
  have hb0 : Below W1.heap.size W1 W1.drew := (Below.refl _ _).drew
  have hsz1 : w.heap.size + 2 ≤ W1.heap.size := by omega
  have hb00 : Below (w.heap.size + 2) W1 W1.drew := hb0.mono hsz1
  go_enter Try.func18, Try.ntmps18
  go_wp2_with fail
  rw [← hW1]
  clear hW1
  go_region_held3 (fun w' => Below (w.heap.size + 2) W1 w' ∧ w'.cell? ⟨w.heap.size, 0, none⟩ = some (.bool a.all) ∧ w'.cell? ⟨w.heap.size, 1, none⟩ = some (.slice A n c) ∧ w'.cell? ⟨w.heap.size + 1, 0, none⟩ = some (.bool b.all) ∧ w'.cell? ⟨w.heap.size + 1, 1, none⟩ = some (.slice A2 n2 c2))
    (first | exact HK.out _ (hb4.mono hsz1) | exact HK.out _ (hb3.mono hsz1) | exact HK.out _ (hb2.mono hsz1) | exact HK.out _ (hb1.mono hsz1) | exact HK.out _ hb00)
    (first
    | (go_at_call 22; (with_reducible refine (HF.out _ hb0).mono ?_); rintro e w1 ⟨A3, c3, rfl, hi1, hb1⟩)
    | (go_at_call 22; (with_reducible refine (HG.out _ _ c3 hi1 hb1).mono ?_); rintro e w2 ⟨A4, c4, rfl, hi2, hi3, hb2⟩)
    | (go_at_call 29; (with_reducible refine (HC.out _ _ _ _ _ hi2 hi3 hb2).mono ?_); rintro e w3 ⟨A5, c5, rfl, _, hb3⟩)
    | (go_at_call 32; (with_reducible refine (HN.out _ _ _ hb3).mono ?_); rintro e w4 ⟨rfl, hb4⟩))
  all_goals
    go_wp2_with fail
    go_ret
    exact ⟨by rw [HT.out]; rfl, gb.trans (hb4.mono (by omega))⟩
end Go.Proofs.Ytkponeccenehhaa.Nm
