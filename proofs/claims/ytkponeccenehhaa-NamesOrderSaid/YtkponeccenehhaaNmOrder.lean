/- NamesOrder: what the names' functions hand back is in order, and no order of the given names changes it: the law's walk. No conditions. -/
import Derived.Test.YtkponeccenehhaaNmMake
import Derived.Test.YtkponeccenehhaaNmRef1
import Derived.Deep.CutRange
import Derived.BigQuiet
import Derived.Deep.QuietTactic
import Derived.IntWalk
namespace Go.Proofs.Ytkponeccenehhaa.Nm
open Go.RowKit
set_option maxRecDepth 100000

theorem seesF {w : World} {B n : Nat} {A : Option Addr} {ss : List (List UInt8)} {g i : Nat} {u v v' : Value} {T : TypeId} (hbox : w.heap[g]? = some (.cells #[u, v] T (0, 0))) (hu : ∀ x, u ≠ .string x) (hv : ∀ x, v ≠ .string x) (hs : SeesV w B A n (ss.map encs)) :
    SeesV (w.setCell ⟨g, i, none⟩ v') B A n (ss.map encs) := by
  refine ⟨hs.len, fun j q hq => ?_⟩
  obtain ⟨b, o, e, hb', hc⟩ := hs.cell j q hq
  have hbg : b ≠ g := by
    rintro rfl
    rw [List.getElem?_map, Option.map_eq_some_iff] at hq
    obtain ⟨y, _, rfl⟩ := hq
    exact box2_str hbox hu hv _ hc
  refine ⟨b, o, e, hb', ?_⟩
  rw [World.cell?_setCell_other _ _ _ _ (fun e => hbg (congrArg Addr.block e).symm)]
  exact hc
theorem one (V : World) (o : Obj) : ∃ U, U = V.alloc o ∧ U.heap[V.heap.size]? = some o ∧ V.heap.size < U.heap.size ∧ Below V.heap.size V U :=
  ⟨_, rfl, heap_alloc_new V o, by simp, (Below.refl _ _).alloc (Nat.le_refl _) _⟩
theorem store2 {V : World} {g : Nat} {T : TypeId} (x : Bool) (A : Option Addr) (n c : Nat) (h : V.heap[g]? = some (.cells #[.bool false, .slice none 0 0] T (0, 0))) :
    ∃ U, U = (V.setCell ⟨g, 0, none⟩ (.bool x)).setCell ⟨g, 1, none⟩ (.slice A n c) ∧ U.heap[g]? = some (.cells #[.bool x, .slice A n c] T (0, 0)) ∧ (∀ k, k ≠ g → U.heap[k]? = V.heap[k]?) ∧ U.heap.size = V.heap.size ∧ (∀ s B m, In V s B m → In U s B m) ∧ ∀ base, base ≤ g → Below base V U := by
  have h1 : (V.setCell ⟨g, 0, none⟩ (.bool x)).heap[g]? = some (.cells #[.bool x, .slice none 0 0] T (0, 0)) := by rw [heap_setCell_same V g 0 _ _ _ h]; rfl
  refine ⟨_, rfl, set_box2 h1, fun k hk => ?_, by simp [World.setCell], fun s B m hi => ⟨?_⟩, fun base hb => ((Below.refl base V).setCell hb _).setCell hb _⟩
  · rw [Below.heap_setCell _ ⟨g, 1, none⟩ _ k hk, Below.heap_setCell _ ⟨g, 0, none⟩ _ k hk]
  · have a1 := seesF (i := 0) (v' := .bool x) h (fun x e => by cases e) (fun x e => by cases e) hi.sees
    have a2 := seesF (i := 1) (v' := .slice A n c) h1 (fun x e => by cases e) (fun x e => by cases e) a1
    simpa [World.setCell] using a2

/-- The first k of a list's turns by j. -/
def turned (l : List (List UInt8)) (j k : Nat) : List (List UInt8) := (List.range k).map fun i => l.getD ((i + j) % l.length) []

/-- Two sets made, each in a box. -/
def Made2 (w : World) (p q : Value) (wx : World) : Prop := ∃ (s1 s2 : St) (g1 g2 : Nat) (B1 B2 : Option Addr) (d1 d2 : Nat), p = .pointer (some ⟨g1, 0, none⟩) ∧ q = .pointer (some ⟨g2, 0, none⟩) ∧ g1 ≠ g2 ∧
  s1.l.length ≤ 6 ∧ s2.l.length ≤ 6 ∧ In wx s1 B1 s1.l.length ∧ In wx s2 B2 s2.l.length ∧
  wx.heap[g1]? = some (.cells #[.bool s1.all, .slice B1 s1.l.length d1] 25 (0, 0)) ∧ wx.heap[g2]? = some (.cells #[.bool s2.all, .slice B2 s2.l.length d2] 25 (0, 0)) ∧ Below w.heap.size w wx

theorem ord_same {l m : List (List UInt8)} (h : ∀ x, x ∈ l ↔ x ∈ m) : ord l = ord m :=
  asc_eq (ord_pair _) (ord_pair _) (fun x => by rw [ord_mem, ord_mem]; exact h x)
theorem combF_le (op : Bool → Bool → Bool) (a b : St) : (comb op (fr a) (fr b)).l.length ≤ a.l.length + b.l.length := by
  have h1 := ord_le a.l
  have h2 := ord_le b.l
  have h3 := ord_le ((fr a).l ++ (fr b).l)
  rw [List.length_append] at h3
  have h4 : (comb op (fr a) (fr b)).l.length ≤ (ord ((fr a).l ++ (fr b).l)).length := List.length_filter_le _ _
  have h5 : (fr a).l.length = (ord a.l).length := rfl
  have h6 : (fr b).l.length = (ord b.l).length := rfl
  omega
theorem turned_mem {l : List (List UInt8)} {j : Nat} (hj : 0 < l.length → j < l.length) (x : List UInt8) : x ∈ turned l j (2 * l.length) ↔ x ∈ l := by
  unfold turned
  rw [List.mem_map]
  constructor
  · rintro ⟨i, hi, rfl⟩
    rw [List.mem_range] at hi
    have h0 : 0 < l.length := by omega
    have hm : (i + j) % l.length < l.length := Nat.mod_lt _ h0
    rw [List.getD, List.getElem?_eq_getElem hm]
    exact List.getElem_mem hm
  · intro hx
    obtain ⟨m, hm, rfl⟩ := List.getElem_of_mem hx
    have h0 : 0 < l.length := by omega
    have hj2 := hj h0
    refine ⟨m + l.length - j, by rw [List.mem_range]; omega, ?_⟩
    have e : (m + l.length - j + j) % l.length = m := by
      rw [show m + l.length - j + j = m + l.length by omega, Nat.add_mod_right, Nat.mod_eq_of_lt hm]
    rw [e, List.getD, List.getElem?_eq_getElem hm]
    rfl

/-- Five sets in a row of block G, each in order. -/
def Rows5 (W : World) (G : Nat) : Prop := ∀ i, i < 5 → ∃ (s : St) (A : Option Addr) (c : Nat), W.cell? ⟨G, i * 2, none⟩ = some (.bool s.all) ∧ W.cell? ⟨G, i * 2 + 1, none⟩ = some (.slice A s.l.length c) ∧ In W s A s.l.length ∧ s.l.Pairwise (· < ·) ∧ s.l.length ≤ 50
theorem geq_no (x y : ByteArray) (h : x.data.toList < y.data.toList) (W : World) : (binOp .geq 9 (.string x) (.string y)).run Try.prog W = .ok (.bool false) W := by
  have h1 := (less_iff x y).2 h
  have h2 := Try.underlying9
  simp [go_sem, h1]
theorem below_dN {b : Nat} {w w' : World} (h : Below b w w') (n : Nat) : Below b w (w'.drewN n) := ⟨h.os, h.tape, h.output, h.size, h.block⟩
/-- Between the five sets. -/
def OutR (V : World) (i : Value) (W : World) : Prop := ∃ k : Nat, k ≤ 5 ∧ i = .int .i64 k ∧ Below V.heap.size V W

set_option maxHeartbeats 16000000 in
theorem order_walk (a b : St) (A A2 : Option Addr) (n c n2 c2 : Nat) (q : Int) (w : World) (h : In w a A n) (h2 : In w b A2 n2) (hla : ∀ x ∈ a.l, x.length ≤ maxLen) (hlb : ∀ x ∈ b.l, x.length ≤ maxLen) (hn : n ≤ 9223372036854775807) (hn2 : n2 ≤ 9223372036854775807) (hq : -9223372036854775808 ≤ q ∧ q ≤ 9223372036854775807) :
    Calls Try.prog 4 #[.agg #[.bool a.all, .slice A n c], .agg #[.bool b.all, .slice A2 n2 c2], .int .i64 q] w fun e w' => e = .returned (.bool true) ∧ Below w.heap.size w w' := by
  obtain ⟨W1, hW1, g0, g1, gs, gb⟩ := two w (Obj.cells #[Value.bool a.all, Value.slice A n c] 25) (Obj.cells #[Value.bool b.all, Value.slice A2 n2 c2] 25)
  have hgs : w.heap.size + 2 ≤ W1.heap.size := by omega
  clear gs
  have HMa : Hid (∀ W, Below W1.heap.size W1 W → Calls Try.prog 14 #[.agg #[.bool a.all, .slice A n c]] W (Made W)) := Lib.hid fun W hb => make_any a A n c W ((h.below gb).below hb) hn hla
  have HMb : Hid (∀ W, Below W1.heap.size W1 W → Calls Try.prog 14 #[.agg #[.bool b.all, .slice A2 n2 c2]] W (Made W)) := Lib.hid fun W hb => make_any b A2 n2 c2 W ((h2.below gb).below hb) hn2 hlb
  have HIA := Lib.hid (h.below gb)
  have HIB := Lib.hid (h2.below gb)
  clear h h2 hla hlb hn hn2
  go_enter Try.func4, Try.ntmps4
  go_wp2_with fail
  rw [← hW1]
  clear hW1
  refine (known_any _).mono ?_
  rintro e W2 ⟨rfl, hb1⟩
  have hw2 : w.heap.size ≤ W2.heap.size := Nat.le_trans (by omega) hb1.size
  have HB2 := Lib.hid (gb.trans (hb1.mono (by omega)))
  obtain ⟨p0, p1, p2, p3⟩ := (⟨(box2 (Below.box hb1 g0)).1, (box2 (Below.box hb1 g0)).2.1, (box2 (Below.box hb1 g1)).1, (box2 (Below.box hb1 g1)).2.1⟩ : W2.cell? ⟨w.heap.size, 0, none⟩ = some (.bool a.all) ∧ W2.cell? ⟨w.heap.size, 1, none⟩ = some (.slice A n c) ∧ W2.cell? ⟨w.heap.size + 1, 0, none⟩ = some (.bool b.all) ∧ W2.cell? ⟨w.heap.size + 1, 1, none⟩ = some (.slice A2 n2 c2))
  go_wp2_with fail
  cases hf : decide (n ≤ 25) with
  | false =>
    refine (few_any _ _ _ _ _).mono ?_
    rintro e W3 ⟨rfl, hb3⟩
    rw [hf]
    have HB3 := Lib.hid (HB2.out.trans (hb3.mono hw2))
    obtain ⟨r2, r3⟩ := (⟨(hb3.cell (p := ⟨w.heap.size + 1, 0, none⟩) (by have := hb1.size; simp only; omega)).trans p2, (hb3.cell (p := ⟨w.heap.size + 1, 1, none⟩) (by have := hb1.size; simp only; omega)).trans p3⟩ : W3.cell? ⟨w.heap.size + 1, 0, none⟩ = some (.bool b.all) ∧ W3.cell? ⟨w.heap.size + 1, 1, none⟩ = some (.slice A2 n2 c2))
    go_wp2_with fail
    go_ret
    exact ⟨rfl, HB3.out⟩
  | true =>
    refine (few_any _ _ _ _ _).mono ?_
    rintro e W3a ⟨rfl, hb3⟩
    rw [hf]
    obtain ⟨r2, r3⟩ := (⟨(hb3.cell (p := ⟨w.heap.size + 1, 0, none⟩) (by have := hb1.size; simp only; omega)).trans p2, (hb3.cell (p := ⟨w.heap.size + 1, 1, none⟩) (by have := hb1.size; simp only; omega)).trans p3⟩ : W3a.cell? ⟨w.heap.size + 1, 0, none⟩ = some (.bool b.all) ∧ W3a.cell? ⟨w.heap.size + 1, 1, none⟩ = some (.slice A2 n2 c2))
    go_wp2_with fail
    refine (few_any _ _ _ _ _).mono ?_
    rintro e W3 ⟨rfl, hb4⟩
    have hb23 : Below W1.heap.size W1 W3 := hb1.trans ((hb3.trans (hb4.mono hb3.size)).mono hb1.size)
    have HW3 := Lib.hid (gb.trans (hb23.mono (by omega)))
    have hw3 : w.heap.size ≤ W3.heap.size := Nat.le_trans (by omega) hb23.size
    have hn25 := of_decide_eq_true hf
    clear hb3 hb4 hb1 p0 p1 p2 p3 r2 r3 hw2 HB2 hf
    cases hf2 : decide (n2 ≤ 25) with
    | false =>
      go_wp2_with fail
      go_ret
      exact ⟨rfl, HW3.out⟩
    | true =>
      have hn25' := of_decide_eq_true hf2
      clear hf2
      have HK := Lib.hid (fun W (hb : Below W3.heap.size W3 W) => have t0 := box2 (Below.box hb (Below.box hb23 g0)); have t1 := box2 (Below.box hb (Below.box hb23 g1)); (⟨t0.1, t0.2.1, t1.1, t1.2.1⟩ : W.cell? ⟨w.heap.size, 0, none⟩ = some (.bool a.all) ∧ W.cell? ⟨w.heap.size, 1, none⟩ = some (.slice A n c) ∧ W.cell? ⟨w.heap.size + 1, 0, none⟩ = some (.bool b.all) ∧ W.cell? ⟨w.heap.size + 1, 1, none⟩ = some (.slice A2 n2 c2)))
      have HM1 := Lib.hid (fun W (hb : Below W3.heap.size W3 W) => HMa.out W (hb23.trans (hb.mono hb23.size)))
      have HM2 := Lib.hid (fun W (hb : Below W3.heap.size W3 W) => HMb.out W (hb23.trans (hb.mono hb23.size)))
      have HI1 := Lib.hid (fun W (hb : Below W3.heap.size W3 W) => (HIA.out.below hb23).below hb)
      have HI2 := Lib.hid (fun W (hb : Below W3.heap.size W3 W) => (HIB.out.below hb23).below hb)
      clear HMa HMb HIA HIB g0 g1 gb hb23 hgs
      have bb : Below W3.heap.size W3 W3.drew := (Below.refl _ _).drew
      go_upto_region 5 with (fail)
      go_cut [7, 8] from 24 to 30 (fun p q wx => Made2 W3 p q wx)
      case first =>
        go_wp2_with fail
        refine wp_region_noPanic (wp_region_held_drew (S := fun W => Below W3.heap.size W3 W) (by kernel_rfl) bb (fun hS0 => ?_))
        refine wpAnyH_take (i := 0) (v := .agg #[.bool a.all, .slice A n c]) rfl (by kernel_rfl) (by kernel_rfl) (by kernel_rfl) (fun _ _ _ h => h) (Or.inl ⟨by rfl, ?_⟩) hS0 ?_
        · intro w' hSw
          obtain ⟨p0, p1, p2, p3⟩ := HK.out w' hSw
          go_simp
        simp only [List.getElem_toArray, List.getElem_cons_zero, Act.put, List.setIfInBounds_toArray, List.set_cons_zero, List.set_cons_succ]
        refine wpAnyH_take (i := 2) (v := .agg #[.bool b.all, .slice A2 n2 c2]) rfl (by kernel_rfl) (by kernel_rfl) (by kernel_rfl) (fun _ _ _ h => h) (Or.inl ⟨by rfl, ?_⟩) hS0 ?_
        · intro w' hSw
          obtain ⟨p0, p1, p2, p3⟩ := HK.out w' hSw
          go_simp
        simp only [List.getElem_toArray, List.getElem_cons_succ, List.getElem_cons_zero, Act.put, List.setIfInBounds_toArray, List.set_cons_zero, List.set_cons_succ]
        obtain ⟨U, hU⟩ : ∃ U, U = W3.drew := ⟨_, rfl⟩
        rw [← hU] at bb hS0 ⊢
        clear hU
        refine wpAnyH_ready (rs := [1, 4, 5]) (by kernel_rfl) (by simp) (AllReadyH.cons rfl (fun K hK => ?_) (AllReadyH.cons rfl (fun K hK => ?_) (AllReadyH.cons rfl (fun K hK => ?_) AllReadyH.nil)))
        all_goals
          simp only [List.getElem_toArray, List.getElem_cons_succ, List.getElem_cons_zero]
          go_simp
          first
          | ((with_reducible refine (HM1.out _ bb).mono ?_); rintro e U ⟨m1, l1, B1, d1, rfl, i1, ee⟩; replace bb := bb.trans (ee.mono bb.size); (try replace i1 := i1.below ee); (try replace i2 := i2.below ee); (try replace kA := Below.box ee kA); (try replace kB := Below.box ee kB); refine hK.out _ _ bb (fun hS0 => ?_); clear hK K ee)
          | ((with_reducible refine (HM2.out _ bb).mono ?_); rintro e U ⟨m2, l2, B2, d2, rfl, i2, ee⟩; replace bb := bb.trans (ee.mono bb.size); (try replace i1 := i1.below ee); (try replace i2 := i2.below ee); (try replace kA := Below.box ee kA); (try replace kB := Below.box ee kB); refine hK.out _ _ bb (fun hS0 => ?_); clear hK K ee)
          | (have hAB := Nat.ne_of_lt (Array.getElem?_eq_some_iff.1 kA).1; have lB := bb.size; obtain ⟨U, hU, kB, zz, ee⟩ := one _ (Obj.cells #[Value.bool false, Value.slice none 0 0] 25); rw [← hU]; clear hU zz; replace bb := bb.trans (ee.mono bb.size); (try replace i1 := i1.below ee); (try replace i2 := i2.below ee); (try replace kA := Below.box ee kA); (try replace kB := Below.box ee kB); refine hK.out _ _ bb (fun hS0 => ?_); clear hK K ee)
          | (have lA := bb.size; obtain ⟨U, hU, kA, zz, ee⟩ := one _ (Obj.cells #[Value.bool false, Value.slice none 0 0] 25); rw [← hU]; clear hU zz; replace bb := bb.trans (ee.mono bb.size); (try replace i1 := i1.below ee); (try replace i2 := i2.below ee); (try replace kA := Below.box ee kA); (try replace kB := Below.box ee kB); refine hK.out _ _ bb (fun hS0 => ?_); clear hK K ee)
        refine wpAnyH_ready (rs := [3, 4, 5]) (by kernel_rfl) (by simp) (AllReadyH.cons rfl (fun K hK => ?_) (AllReadyH.cons rfl (fun K hK => ?_) (AllReadyH.cons rfl (fun K hK => ?_) AllReadyH.nil))); rotate_left 3
        refine wpAnyH_ready (rs := [1, 5]) (by kernel_rfl) (by simp) (AllReadyH.cons rfl (fun K hK => ?_) (AllReadyH.cons rfl (fun K hK => ?_) AllReadyH.nil)); rotate_left 2
        refine wpAnyH_ready (rs := [1, 4]) (by kernel_rfl) (by simp) (AllReadyH.cons rfl (fun K hK => ?_) (AllReadyH.cons rfl (fun K hK => ?_) AllReadyH.nil)); rotate_left 2
        all_goals
          simp only [List.getElem_toArray, List.getElem_cons_succ, List.getElem_cons_zero]
          go_simp
          first
          | ((with_reducible refine (HM1.out _ bb).mono ?_); rintro e U ⟨m1, l1, B1, d1, rfl, i1, ee⟩; replace bb := bb.trans (ee.mono bb.size); (try replace i1 := i1.below ee); (try replace i2 := i2.below ee); (try replace kA := Below.box ee kA); (try replace kB := Below.box ee kB); refine hK.out _ _ bb (fun hS0 => ?_); clear hK K ee)
          | ((with_reducible refine (HM2.out _ bb).mono ?_); rintro e U ⟨m2, l2, B2, d2, rfl, i2, ee⟩; replace bb := bb.trans (ee.mono bb.size); (try replace i1 := i1.below ee); (try replace i2 := i2.below ee); (try replace kA := Below.box ee kA); (try replace kB := Below.box ee kB); refine hK.out _ _ bb (fun hS0 => ?_); clear hK K ee)
          | (have hAB := Nat.ne_of_lt (Array.getElem?_eq_some_iff.1 kA).1; have lB := bb.size; obtain ⟨U, hU, kB, zz, ee⟩ := one _ (Obj.cells #[Value.bool false, Value.slice none 0 0] 25); rw [← hU]; clear hU zz; replace bb := bb.trans (ee.mono bb.size); (try replace i1 := i1.below ee); (try replace i2 := i2.below ee); (try replace kA := Below.box ee kA); (try replace kB := Below.box ee kB); refine hK.out _ _ bb (fun hS0 => ?_); clear hK K ee)
          | (have lA := bb.size; obtain ⟨U, hU, kA, zz, ee⟩ := one _ (Obj.cells #[Value.bool false, Value.slice none 0 0] 25); rw [← hU]; clear hU zz; replace bb := bb.trans (ee.mono bb.size); (try replace i1 := i1.below ee); (try replace i2 := i2.below ee); (try replace kA := Below.box ee kA); (try replace kB := Below.box ee kB); refine hK.out _ _ bb (fun hS0 => ?_); clear hK K ee)
        refine wpAnyH_ready (rs := [4, 5]) (by kernel_rfl) (by simp) (AllReadyH.cons rfl (fun K hK => ?_) (AllReadyH.cons rfl (fun K hK => ?_) AllReadyH.nil)); rotate_left 2
        refine wpAnyH_ready (rs := [3, 5]) (by kernel_rfl) (by simp) (AllReadyH.cons rfl (fun K hK => ?_) (AllReadyH.cons rfl (fun K hK => ?_) AllReadyH.nil)); rotate_left 2
        refine wpAnyH_ready (rs := [3, 4]) (by kernel_rfl) (by simp) (AllReadyH.cons rfl (fun K hK => ?_) (AllReadyH.cons rfl (fun K hK => ?_) AllReadyH.nil)); rotate_left 2
        refine wpAnyH_ready (rs := [3, 5]) (by kernel_rfl) (by simp) (AllReadyH.cons rfl (fun K hK => ?_) (AllReadyH.cons rfl (fun K hK => ?_) AllReadyH.nil)); rotate_left 2
        refine wpAnyH_ready (rs := [1]) (by kernel_rfl) (by simp) (AllReadyH.cons rfl (fun K hK => ?_) AllReadyH.nil); rotate_left 1
        refine wpAnyH_ready (rs := [3, 4]) (by kernel_rfl) (by simp) (AllReadyH.cons rfl (fun K hK => ?_) (AllReadyH.cons rfl (fun K hK => ?_) AllReadyH.nil)); rotate_left 2
        refine wpAnyH_ready (rs := [1]) (by kernel_rfl) (by simp) (AllReadyH.cons rfl (fun K hK => ?_) AllReadyH.nil); rotate_left 1
        all_goals
          simp only [List.getElem_toArray, List.getElem_cons_succ, List.getElem_cons_zero]
          go_simp
          first
          | ((with_reducible refine (HM1.out _ bb).mono ?_); rintro e U ⟨m1, l1, B1, d1, rfl, i1, ee⟩; replace bb := bb.trans (ee.mono bb.size); (try replace i1 := i1.below ee); (try replace i2 := i2.below ee); (try replace kA := Below.box ee kA); (try replace kB := Below.box ee kB); refine hK.out _ _ bb (fun hS0 => ?_); clear hK K ee)
          | ((with_reducible refine (HM2.out _ bb).mono ?_); rintro e U ⟨m2, l2, B2, d2, rfl, i2, ee⟩; replace bb := bb.trans (ee.mono bb.size); (try replace i1 := i1.below ee); (try replace i2 := i2.below ee); (try replace kA := Below.box ee kA); (try replace kB := Below.box ee kB); refine hK.out _ _ bb (fun hS0 => ?_); clear hK K ee)
          | (have hAB := Nat.ne_of_lt (Array.getElem?_eq_some_iff.1 kA).1; have lB := bb.size; obtain ⟨U, hU, kB, zz, ee⟩ := one _ (Obj.cells #[Value.bool false, Value.slice none 0 0] 25); rw [← hU]; clear hU zz; replace bb := bb.trans (ee.mono bb.size); (try replace i1 := i1.below ee); (try replace i2 := i2.below ee); (try replace kA := Below.box ee kA); (try replace kB := Below.box ee kB); refine hK.out _ _ bb (fun hS0 => ?_); clear hK K ee)
          | (have lA := bb.size; obtain ⟨U, hU, kA, zz, ee⟩ := one _ (Obj.cells #[Value.bool false, Value.slice none 0 0] 25); rw [← hU]; clear hU zz; replace bb := bb.trans (ee.mono bb.size); (try replace i1 := i1.below ee); (try replace i2 := i2.below ee); (try replace kA := Below.box ee kA); (try replace kB := Below.box ee kB); refine hK.out _ _ bb (fun hS0 => ?_); clear hK K ee)
        refine wpAnyH_ready (rs := [5]) (by kernel_rfl) (by simp) (AllReadyH.cons rfl (fun K hK => ?_) AllReadyH.nil); rotate_left 1
        refine wpAnyH_ready (rs := [4]) (by kernel_rfl) (by simp) (AllReadyH.cons rfl (fun K hK => ?_) AllReadyH.nil); rotate_left 1
        refine wpAnyH_ready (rs := [5]) (by kernel_rfl) (by simp) (AllReadyH.cons rfl (fun K hK => ?_) AllReadyH.nil); rotate_left 1
        refine wpAnyH_ready (rs := [3]) (by kernel_rfl) (by simp) (AllReadyH.cons rfl (fun K hK => ?_) AllReadyH.nil); rotate_left 1
        refine wpAnyH_ready (rs := [4]) (by kernel_rfl) (by simp) (AllReadyH.cons rfl (fun K hK => ?_) AllReadyH.nil); rotate_left 1
        refine wpAnyH_ready (rs := [3]) (by kernel_rfl) (by simp) (AllReadyH.cons rfl (fun K hK => ?_) AllReadyH.nil); rotate_left 1
        refine wpAnyH_ready (rs := [5]) (by kernel_rfl) (by simp) (AllReadyH.cons rfl (fun K hK => ?_) AllReadyH.nil); rotate_left 1
        refine wpAnyH_ready (rs := [3]) (by kernel_rfl) (by simp) (AllReadyH.cons rfl (fun K hK => ?_) AllReadyH.nil); rotate_left 1
        refine wpAnyH_ready (rs := [3]) (by kernel_rfl) (by simp) (AllReadyH.cons rfl (fun K hK => ?_) AllReadyH.nil); rotate_left 1
        refine wpAnyH_ready (rs := [4]) (by kernel_rfl) (by simp) (AllReadyH.cons rfl (fun K hK => ?_) AllReadyH.nil); rotate_left 1
        refine wpAnyH_ready (rs := [3]) (by kernel_rfl) (by simp) (AllReadyH.cons rfl (fun K hK => ?_) AllReadyH.nil); rotate_left 1
        refine wpAnyH_ready (rs := [3]) (by kernel_rfl) (by simp) (AllReadyH.cons rfl (fun K hK => ?_) AllReadyH.nil); rotate_left 1
        all_goals
          simp only [List.getElem_toArray, List.getElem_cons_succ, List.getElem_cons_zero]
          go_simp
          first
          | ((with_reducible refine (HM1.out _ bb).mono ?_); rintro e U ⟨m1, l1, B1, d1, rfl, i1, ee⟩; replace bb := bb.trans (ee.mono bb.size); (try replace i1 := i1.below ee); (try replace i2 := i2.below ee); (try replace kA := Below.box ee kA); (try replace kB := Below.box ee kB); refine hK.out _ _ bb (fun hS0 => ?_); clear hK K ee)
          | ((with_reducible refine (HM2.out _ bb).mono ?_); rintro e U ⟨m2, l2, B2, d2, rfl, i2, ee⟩; replace bb := bb.trans (ee.mono bb.size); (try replace i1 := i1.below ee); (try replace i2 := i2.below ee); (try replace kA := Below.box ee kA); (try replace kB := Below.box ee kB); refine hK.out _ _ bb (fun hS0 => ?_); clear hK K ee)
          | (have hAB := Nat.ne_of_lt (Array.getElem?_eq_some_iff.1 kA).1; have lB := bb.size; obtain ⟨U, hU, kB, zz, ee⟩ := one _ (Obj.cells #[Value.bool false, Value.slice none 0 0] 25); rw [← hU]; clear hU zz; replace bb := bb.trans (ee.mono bb.size); (try replace i1 := i1.below ee); (try replace i2 := i2.below ee); (try replace kA := Below.box ee kA); (try replace kB := Below.box ee kB); refine hK.out _ _ bb (fun hS0 => ?_); clear hK K ee)
          | (have lA := bb.size; obtain ⟨U, hU, kA, zz, ee⟩ := one _ (Obj.cells #[Value.bool false, Value.slice none 0 0] 25); rw [← hU]; clear hU zz; replace bb := bb.trans (ee.mono bb.size); (try replace i1 := i1.below ee); (try replace i2 := i2.below ee); (try replace kA := Below.box ee kA); (try replace kB := Below.box ee kB); refine hK.out _ _ bb (fun hS0 => ?_); clear hK K ee)
        all_goals
          obtain ⟨ra0, ra1, ra2, ra3⟩ := box2 kA
          obtain ⟨rb0, rb1, rb2, rb3⟩ := box2 kB
          refine wpAnyH_ready (rs := [6]) (by kernel_rfl) (by simp) (AllReadyH.cons rfl (fun K hK => ?_) AllReadyH.nil)
          simp only [List.getElem_toArray, List.getElem_cons_succ, List.getElem_cons_zero]
          go_simp
          clear ra0 ra1 ra2 ra3 rb0 rb1 rb2 rb3
          first
          | (obtain ⟨S, hS, kN, hne, hsz, hin, hbl⟩ := store2 m1.all B1 m1.l.length d1 kA; rw [← hS]; clear hS hsz; replace kB := (hne _ hAB.symm).trans kB; replace kA := kN; replace bb := bb.trans (hbl _ lA))
          | (obtain ⟨S, hS, kN, hne, hsz, hin, hbl⟩ := store2 m1.all B1 m1.l.length d1 kB; rw [← hS]; clear hS hsz; replace kA := (hne _ hAB).trans kA; replace kB := kN; replace bb := bb.trans (hbl _ lB))
          replace i1 := hin _ _ _ i1
          replace i2 := hin _ _ _ i2
          refine hK.out _ _ bb (fun hS0 => ?_)
          clear hK K hne hin hbl
          obtain ⟨ra0, ra1, ra2, ra3⟩ := box2 kA
          obtain ⟨rb0, rb1, rb2, rb3⟩ := box2 kB
          refine wpAnyH_ready (rs := [7]) (by kernel_rfl) (by simp) (AllReadyH.cons rfl (fun K hK => ?_) AllReadyH.nil)
          simp only [List.getElem_toArray, List.getElem_cons_succ, List.getElem_cons_zero]
          go_simp
          clear ra0 ra1 ra2 ra3 rb0 rb1 rb2 rb3
          first
          | (obtain ⟨S, hS, kN, hne, hsz, hin, hbl⟩ := store2 m2.all B2 m2.l.length d2 kA; rw [← hS]; clear hS hsz; replace kB := (hne _ hAB.symm).trans kB; replace kA := kN; replace bb := bb.trans (hbl _ lA))
          | (obtain ⟨S, hS, kN, hne, hsz, hin, hbl⟩ := store2 m2.all B2 m2.l.length d2 kB; rw [← hS]; clear hS hsz; replace kA := (hne _ hAB).trans kA; replace kB := kN; replace bb := bb.trans (hbl _ lB))
          replace i1 := hin _ _ _ i1
          replace i2 := hin _ _ _ i2
          refine hK.out _ _ bb (fun hS0 => ?_)
          clear hK K hne hin hbl
          refine wpAnyH_done (by kernel_rfl) ?_ _
          refine NoPanic.normal ?_
          go_wp2_with fail
          go_meet
          case rel => exact ⟨m1, m2, _, _, B1, B2, d1, d2, rfl, rfl, by first | exact hAB | exact hAB.symm, l1, l2, i1, i2, by assumption, by assumption, bb⟩
      case rest =>
        obtain ⟨s1, s2, g1, g2, B1, B2, d1, d2, rfl, rfl, hne, l1, l2, i1, i2, k1, k2, hwx⟩ := hcut
        obtain ⟨wx, hwc⟩ : ∃ wx, wx = wc := ⟨_, rfl⟩
        rw [← hwc] at i1 i2 k1 k2 hwx ⊢
        clear hwc
        obtain ⟨ka0, ka1, ka2, ka3⟩ := box2 k1
        obtain ⟨W4, hW4, kN, hzl, hb4⟩ := one wx (Obj.cells #[Value.bool s1.all, Value.slice none 0 0] 25)
        have hz4 : W4.heap.size = wx.heap.size + 1 := by rw [hW4]; simp
        have hg1 : g1 < wx.heap.size := (Array.getElem?_eq_some_iff.1 k1).1
        have hg2 : g2 < wx.heap.size := (Array.getElem?_eq_some_iff.1 k2).1
        go_wp2_with fail
        rw [← hW4]
        clear hW4 hzl ka0 ka1 ka2 ka3
        obtain ⟨j, HJ⟩ : ∃ j : Nat, Hid (0 < s1.l.length → j < s1.l.length ∧ ∀ W, Calls Try.prog 15 #[.int .i64 q, .int .i64 s1.l.length] W fun e w' => e = .returned (.int .i64 j) ∧ W = w') := by
          by_cases h0 : 0 < s1.l.length
          · obtain ⟨j, hj⟩ := within_nat q s1.l.length h0 (by omega) hq
            exact ⟨j, Lib.hid fun _ => hj⟩
          · exact ⟨0, Lib.hid fun h => absurd h h0⟩
        go_loopw [10] (fun i wr => ∃ (k : Nat) (R : Option Addr) (cR : Nat) (ys : List (List UInt8)), k ≤ 2 * s1.l.length ∧ i = .int .i64 k ∧ Cst 25 wx.heap.size W4.heap.size W4 s1.all R k cR ys wr ∧ Hid (ys = turned s1.l j k)) (fun i _ => 2 * s1.l.length - (intOf i).toNat)
        case atStart => exact ⟨0, none, 0, [], by omega, rfl, ⟨fun k hk _ => rfl, Nat.le_refl _, rfl, rfl, rfl, kN, World.ownsRow_nil _ _ _ _⟩, Lib.hid rfl⟩
        case round =>
          obtain ⟨k, R, cR, ys, hk, rfl, hC, HT⟩ := hrel
          have hsC := hC.size
          obtain ⟨q0, q1, _, _⟩ := box2 (((hC.keep g1 (by omega) (by omega)).trans (hb4.block g1 hg1)).trans k1)
          obtain ⟨q2, q3, q4, q5⟩ := box2 hC.boxc
          by_cases hlt : k < 2 * s1.l.length
          · have hkn : (k : Int) < 2 * (s1.l.length : Int) := by omega
            have hk0 : (0 : Int) ≤ (k : Int) := by omega
            have h0 : 0 < s1.l.length := by omega
            obtain ⟨hj, hcj⟩ := HJ.out h0
            obtain ⟨m, hm⟩ : ∃ m, m = (k + j) % s1.l.length := ⟨_, rfl⟩
            have hmn : m < s1.l.length := by rw [hm]; exact Nat.mod_lt _ h0
            obtain ⟨b3, o3, x, rfl, hb3, hc3, hx3⟩ := nth i1.sees hmn
            have hcx : wr.cell? ⟨b3, o3 + m, none⟩ = some (.string x) := by
              rw [World.cell?_of_block (a := ⟨b3, o3 + m, none⟩) (hC.keep b3 (by omega) (by omega)), hb4.cell (p := ⟨b3, o3 + m, none⟩) hb3, hc3]
            have HJ2 := Lib.hid hcj
            have hmi : Int.tmod ((k : Int) + (j : Int)) (s1.l.length : Int) = (m : Int) := by rw [hm, Int.tmod_eq_emod_of_nonneg (by omega)]; simp
            have hn0 : (s1.l.length : Int) ≠ 0 := by omega
            have hne0 : ¬ s1.l = [] := fun e => by rw [e] at h0; exact Nat.lt_irrefl _ h0
            have hkj0 : (0 : Int) ≤ (k : Int) + (j : Int) := by omega
            have hkj1 : (k : Int) + (j : Int) ≤ 18 := by omega
            have hwr : IntKind.i64.wrap ((k : Int) + (j : Int)) = (k : Int) + (j : Int) := by rw [IntKind.wrap_i64]; omega
            have hm0 : (0 : Int) ≤ (m : Int) := by omega
            have hmn' : (m : Int) < (s1.l.length : Int) := by omega
            have hS : Hid (wr.cell? ⟨g1, 1, none⟩ = some (.slice (some ⟨b3, o3, none⟩) s1.l.length d1) ∧ wr.cell? ⟨b3, o3 + m, none⟩ = some (.string x)) := Lib.hid ⟨q1, hcx⟩
            have HSC : Hid (∀ W R k' cR ys, Cst 25 wx.heap.size W4.heap.size W4 s1.all R k' cR ys W → W.cell? ⟨g1, 1, none⟩ = some (.slice (some ⟨b3, o3, none⟩) s1.l.length d1) ∧ W.cell? ⟨b3, o3 + m, none⟩ = some (.string x)) := Lib.hid fun W R k' cR ys hW => by
              refine ⟨(box2 (((hW.keep g1 (by omega) (by omega)).trans (hb4.block g1 hg1)).trans k1)).2.1, ?_⟩
              rw [World.cell?_of_block (a := ⟨b3, o3 + m, none⟩) (hW.keep b3 (by omega) (by omega)), hb4.cell (p := ⟨b3, o3 + m, none⟩) hb3, hc3]
            have HC := Lib.hid hC
            have hGl : wx.heap.size < wr.heap.size := by omega
            have hT2 : Hid (ys ++ [x.data.toList] = turned s1.l j (k + 1)) := Lib.hid (by rw [HT.out, turned, turned, List.range_succ, List.map_append, List.map_singleton, ← hm, List.getD_eq_getElem?_getD, hx3]; rfl)
            clear hC hcx hc3 hx3 hcj HT hm
            have hSd : Hid (wr.drew.cell? ⟨g1, 1, none⟩ = some (.slice (some ⟨b3, o3, none⟩) s1.l.length d1) ∧ wr.drew.cell? ⟨b3, o3 + m, none⟩ = some (.string x)) := Lib.hid hS.out
            have hSa : Hid ((wr.alloc (Obj.cells #[Value.string x] 9)).drew.cell? ⟨g1, 1, none⟩ = some (.slice (some ⟨b3, o3, none⟩) s1.l.length d1) ∧ (wr.alloc (Obj.cells #[Value.string x] 9)).drew.cell? ⟨b3, o3 + m, none⟩ = some (.string x)) := Lib.hid ⟨(World.cell?_alloc_lt _ _ ⟨g1, 1, none⟩ (by simp only; omega)).trans hS.out.1, (World.cell?_alloc_lt _ _ ⟨b3, o3 + m, none⟩ (by simp only; omega)).trans hS.out.2⟩
            go_wp2_with fail
            refine wp_region_noPanic (wp_region_held_drew (S := fun W => W.cell? ⟨g1, 1, none⟩ = some (.slice (some ⟨b3, o3, none⟩) s1.l.length d1) ∧ W.cell? ⟨b3, o3 + m, none⟩ = some (.string x)) (by kernel_rfl) hSd.out (fun hS0 => ?_))
            refine wpAnyH_take (i := 0) (v := .pointer (some ⟨wx.heap.size, 1, none⟩)) rfl (by kernel_rfl) (by kernel_rfl) (by kernel_rfl) (fun _ _ _ h => h) (Or.inl ⟨by rfl, ?_⟩) hS0 ?_
            · intro w' hSw
              obtain ⟨s0, s1'⟩ := hSw
              go_simp
            simp only [List.getElem_toArray, List.getElem_cons_zero, Act.put, List.setIfInBounds_toArray, List.set_cons_zero, List.set_cons_succ]
            refine wpAnyH_take (i := 2) (v := .pointer (some ⟨g1, 1, none⟩)) rfl (by kernel_rfl) (by kernel_rfl) (by kernel_rfl) (fun _ _ _ h => h) (Or.inl ⟨by rfl, ?_⟩) hS0 ?_
            · intro w' hSw
              obtain ⟨s0, s1'⟩ := hSw
              go_simp
            simp only [List.getElem_toArray, List.getElem_cons_succ, List.getElem_cons_zero, Act.put, List.setIfInBounds_toArray, List.set_cons_zero, List.set_cons_succ]
            refine wpAnyH_take (i := 3) (v := .slice (some ⟨b3, o3, none⟩) s1.l.length d1) rfl (by kernel_rfl) (by kernel_rfl) (by kernel_rfl) (fun _ _ _ h => h) (Or.inl ⟨by rfl, ?_⟩) hS0 ?_
            · intro w' hSw
              obtain ⟨s0, s1'⟩ := hSw
              go_simp
            simp only [List.getElem_toArray, List.getElem_cons_succ, List.getElem_cons_zero, Act.put, List.setIfInBounds_toArray, List.set_cons_zero, List.set_cons_succ]
            refine wpAnyH_take (i := 4) (v := .int .i64 (k : Int)) rfl (by kernel_rfl) (by kernel_rfl) (by kernel_rfl) (fun _ _ _ h => h) (Or.inl ⟨by rfl, ?_⟩) hS0 ?_
            · intro w' hSw
              obtain ⟨s0, s1'⟩ := hSw
              go_simp
            simp only [List.getElem_toArray, List.getElem_cons_succ, List.getElem_cons_zero, Act.put, List.setIfInBounds_toArray, List.set_cons_zero, List.set_cons_succ]
            refine wpAnyH_take (i := 5) (v := .int .i64 q) rfl (by kernel_rfl) (by kernel_rfl) (by kernel_rfl) (fun _ _ _ h => h) (Or.inl ⟨by rfl, ?_⟩) hS0 ?_
            · intro w' hSw
              obtain ⟨s0, s1'⟩ := hSw
              go_simp
            simp only [List.getElem_toArray, List.getElem_cons_succ, List.getElem_cons_zero, Act.put, List.setIfInBounds_toArray, List.set_cons_zero, List.set_cons_succ]
            refine wpAnyH_take (i := 6) (v := .pointer (some ⟨g1, 1, none⟩)) rfl (by kernel_rfl) (by kernel_rfl) (by kernel_rfl) (fun _ _ _ h => h) (Or.inl ⟨by rfl, ?_⟩) hS0 ?_
            · intro w' hSw
              obtain ⟨s0, s1'⟩ := hSw
              go_simp
            simp only [List.getElem_toArray, List.getElem_cons_succ, List.getElem_cons_zero, Act.put, List.setIfInBounds_toArray, List.set_cons_zero, List.set_cons_succ]
            refine wpAnyH_take (i := 7) (v := .slice (some ⟨b3, o3, none⟩) s1.l.length d1) rfl (by kernel_rfl) (by kernel_rfl) (by kernel_rfl) (fun _ _ _ h => h) (Or.inl ⟨by rfl, ?_⟩) hS0 ?_
            · intro w' hSw
              obtain ⟨s0, s1'⟩ := hSw
              go_simp
            simp only [List.getElem_toArray, List.getElem_cons_succ, List.getElem_cons_zero, Act.put, List.setIfInBounds_toArray, List.set_cons_zero, List.set_cons_succ]
            refine wpAnyH_take (i := 8) (v := .int .i64 (s1.l.length : Int)) rfl (by kernel_rfl) (by kernel_rfl) (by kernel_rfl) (fun _ _ _ h => h) (Or.inl ⟨by rfl, ?_⟩) hS0 ?_
            · intro w' hSw
              obtain ⟨s0, s1'⟩ := hSw
              go_simp
            simp only [List.getElem_toArray, List.getElem_cons_succ, List.getElem_cons_zero, Act.put, List.setIfInBounds_toArray, List.set_cons_zero, List.set_cons_succ]
            refine wpAnyH_take (i := 11) (v := .pointer (some ⟨g1, 1, none⟩)) rfl (by kernel_rfl) (by kernel_rfl) (by kernel_rfl) (fun _ _ _ h => h) (Or.inl ⟨by rfl, ?_⟩) hS0 ?_
            · intro w' hSw
              obtain ⟨s0, s1'⟩ := hSw
              go_simp
            simp only [List.getElem_toArray, List.getElem_cons_succ, List.getElem_cons_zero, Act.put, List.setIfInBounds_toArray, List.set_cons_zero, List.set_cons_succ]
            refine wpAnyH_take (i := 12) (v := .slice (some ⟨b3, o3, none⟩) s1.l.length d1) rfl (by kernel_rfl) (by kernel_rfl) (by kernel_rfl) (fun _ _ _ h => h) (Or.inl ⟨by rfl, ?_⟩) hS0 ?_
            · intro w' hSw
              obtain ⟨s0, s1'⟩ := hSw
              go_simp
            simp only [List.getElem_toArray, List.getElem_cons_succ, List.getElem_cons_zero, Act.put, List.setIfInBounds_toArray, List.set_cons_zero, List.set_cons_succ]
            refine wpAnyH_take (i := 13) (v := .int .i64 (s1.l.length : Int)) rfl (by kernel_rfl) (by kernel_rfl) (by kernel_rfl) (fun _ _ _ h => h) (Or.inl ⟨by rfl, ?_⟩) hS0 ?_
            · intro w' hSw
              obtain ⟨s0, s1'⟩ := hSw
              go_simp
            simp only [List.getElem_toArray, List.getElem_cons_succ, List.getElem_cons_zero, Act.put, List.setIfInBounds_toArray, List.set_cons_zero, List.set_cons_succ]
            refine wpAnyH_ready (rs := [1, 9]) (by kernel_rfl) (by simp) (AllReadyH.cons rfl (fun K hK => ?_) (AllReadyH.cons rfl (fun K hK => ?_) AllReadyH.nil))
            · go_simp
              refine hK.out _ _ hSd.out (fun hS0 => ?_)
              clear hK K
              refine wpAnyH_ready (rs := [9]) (by kernel_rfl) (by simp) (AllReadyH.cons rfl (fun K hK => ?_) AllReadyH.nil)
              go_simp
              (with_reducible refine (HJ2.out _).mono ?_)
              rintro e w' ⟨rfl, rfl⟩
              refine hK.out _ _ hSd.out (fun hS0 => ?_)
              clear hK K
              refine wpAnyH_take (i := 10) (v := .int .i64 ((k : Int) + (j : Int))) rfl (by kernel_rfl) (by kernel_rfl) (by kernel_rfl) (fun _ _ _ h => h) (Or.inl ⟨by rfl, ?_⟩) hS0 ?_
              · intro w' hSw
                obtain ⟨s0, s1'⟩ := hSw
                go_simp
              simp only [List.getElem_toArray, List.getElem_cons_succ, List.getElem_cons_zero, Act.put, List.setIfInBounds_toArray, List.set_cons_zero, List.set_cons_succ]
              refine wpAnyH_take (i := 14) (v := .int .i64 (m : Int)) rfl (by kernel_rfl) (by kernel_rfl) (by kernel_rfl) (fun _ _ _ h => h) (Or.inl ⟨by rfl, ?_⟩) hS0 ?_
              · intro w' hSw
                obtain ⟨s0, s1'⟩ := hSw
                go_simp
              simp only [List.getElem_toArray, List.getElem_cons_succ, List.getElem_cons_zero, Act.put, List.setIfInBounds_toArray, List.set_cons_zero, List.set_cons_succ]
              refine wpAnyH_take (i := 15) (v := .pointer (some ⟨b3, o3 + m, none⟩)) rfl (by kernel_rfl) (by kernel_rfl) (by kernel_rfl) (fun _ _ _ h => h) (Or.inl ⟨by rfl, ?_⟩) hS0 ?_
              · intro w' hSw
                obtain ⟨s0, s1'⟩ := hSw
                go_simp
              simp only [List.getElem_toArray, List.getElem_cons_succ, List.getElem_cons_zero, Act.put, List.setIfInBounds_toArray, List.set_cons_zero, List.set_cons_succ]
              refine wpAnyH_take (i := 16) (v := .string x) rfl (by kernel_rfl) (by kernel_rfl) (by kernel_rfl) (fun _ _ _ h => h) (Or.inl ⟨by rfl, ?_⟩) hS0 ?_
              · intro w' hSw
                obtain ⟨s0, s1'⟩ := hSw
                go_simp
              simp only [List.getElem_toArray, List.getElem_cons_succ, List.getElem_cons_zero, Act.put, List.setIfInBounds_toArray, List.set_cons_zero, List.set_cons_succ]
              refine wpAnyH_ready (rs := [17]) (by kernel_rfl) (by simp) (AllReadyH.cons rfl (fun K hK => ?_) AllReadyH.nil)
              go_simp
              refine hK.out _ _ hSa.out (fun hS0 => ?_)
              clear hK K
              refine wpAnyH_ready (rs := [18]) (by kernel_rfl) (by simp) (AllReadyH.cons rfl (fun K hK => ?_) AllReadyH.nil)
              refine step_append_row rfl (.tmp 40) (.tmp 56) _ _ rfl elem_s rfl rfl ((HC.out.row.alloc _).drew) (src_lit2 _ _ _ rfl) (by omega) (by simp; omega) ?_
              intro A4 c4 w4 ho4 hg4 hat4
              rw [← List.map_append] at ho4
              have hP := HC.out.push (by omega) (grown_undrew hg4) ho4 hat4
              obtain ⟨s8, s9, s10, s11⟩ := box2 hP.1
              have HP := Lib.hid hP
              have hS4 : w4.cell? ⟨g1, 1, none⟩ = some (.slice (some ⟨b3, o3, none⟩) s1.l.length d1) ∧ w4.cell? ⟨b3, o3 + m, none⟩ = some (.string x) :=
                ⟨hg4.cell hSa.out.1 (fun e => by have := (HC.out.row.lt _ e.symm).1; simp only at this; omega), hg4.cell hSa.out.2 (fun e => by have := (HC.out.row.lt _ e.symm).1; simp only at this; omega)⟩
              clear hP ho4 hg4 hat4
              refine hK.out _ _ hS4 (fun hS0 => ?_)
              clear hK K
              refine wpAnyH_take (i := 19) (v := .pointer (some ⟨wx.heap.size, 1, none⟩)) rfl (by kernel_rfl) (by kernel_rfl) (by kernel_rfl) (fun _ _ _ h => h) (Or.inl ⟨by rfl, ?_⟩) hS0 ?_
              · intro w' hSw
                obtain ⟨s0, s1'⟩ := hSw
                go_simp
              simp only [List.getElem_toArray, List.getElem_cons_succ, List.getElem_cons_zero, Act.put, List.setIfInBounds_toArray, List.set_cons_zero, List.set_cons_succ]
              refine wpAnyH_ready (rs := [20]) (by kernel_rfl) (by simp) (AllReadyH.cons rfl (fun K hK => ?_) AllReadyH.nil)
              go_simp
              refine hK.out _ _ (HSC.out _ _ _ _ _ HP.out.2) (fun hS0 => ?_)
              clear hK K
              refine wpAnyH_done (by kernel_rfl) ?_ _
              refine NoPanic.normal ?_
              go_wp2_with fail
              go_roundw
              case rel => exact ⟨k + 1, A4, c4, _, by omega, by go_num, HP.out.2, hT2⟩
              case measure => simp [intOf]; omega
            · go_simp
              (with_reducible refine (HJ2.out _).mono ?_)
              rintro e w' ⟨rfl, rfl⟩
              refine hK.out _ _ hSd.out (fun hS0 => ?_)
              clear hK K
              refine wpAnyH_take (i := 10) (v := .int .i64 ((k : Int) + (j : Int))) rfl (by kernel_rfl) (by kernel_rfl) (by kernel_rfl) (fun _ _ _ h => h) (Or.inl ⟨by rfl, ?_⟩) hS0 ?_
              · intro w' hSw
                obtain ⟨s0, s1'⟩ := hSw
                go_simp
              simp only [List.getElem_toArray, List.getElem_cons_succ, List.getElem_cons_zero, Act.put, List.setIfInBounds_toArray, List.set_cons_zero, List.set_cons_succ]
              refine wpAnyH_take (i := 14) (v := .int .i64 (m : Int)) rfl (by kernel_rfl) (by kernel_rfl) (by kernel_rfl) (fun _ _ _ h => h) (Or.inl ⟨by rfl, ?_⟩) hS0 ?_
              · intro w' hSw
                obtain ⟨s0, s1'⟩ := hSw
                go_simp
              simp only [List.getElem_toArray, List.getElem_cons_succ, List.getElem_cons_zero, Act.put, List.setIfInBounds_toArray, List.set_cons_zero, List.set_cons_succ]
              refine wpAnyH_take (i := 15) (v := .pointer (some ⟨b3, o3 + m, none⟩)) rfl (by kernel_rfl) (by kernel_rfl) (by kernel_rfl) (fun _ _ _ h => h) (Or.inl ⟨by rfl, ?_⟩) hS0 ?_
              · intro w' hSw
                obtain ⟨s0, s1'⟩ := hSw
                go_simp
              simp only [List.getElem_toArray, List.getElem_cons_succ, List.getElem_cons_zero, Act.put, List.setIfInBounds_toArray, List.set_cons_zero, List.set_cons_succ]
              refine wpAnyH_take (i := 16) (v := .string x) rfl (by kernel_rfl) (by kernel_rfl) (by kernel_rfl) (fun _ _ _ h => h) (Or.inl ⟨by rfl, ?_⟩) hS0 ?_
              · intro w' hSw
                obtain ⟨s0, s1'⟩ := hSw
                go_simp
              simp only [List.getElem_toArray, List.getElem_cons_succ, List.getElem_cons_zero, Act.put, List.setIfInBounds_toArray, List.set_cons_zero, List.set_cons_succ]
              refine wpAnyH_ready (rs := [1, 17]) (by kernel_rfl) (by simp) (AllReadyH.cons rfl (fun K hK => ?_) (AllReadyH.cons rfl (fun K hK => ?_) AllReadyH.nil))
              · go_simp
                refine hK.out _ _ hSd.out (fun hS0 => ?_)
                clear hK K
                refine wpAnyH_ready (rs := [17]) (by kernel_rfl) (by simp) (AllReadyH.cons rfl (fun K hK => ?_) AllReadyH.nil)
                go_simp
                refine hK.out _ _ hSa.out (fun hS0 => ?_)
                clear hK K
                refine wpAnyH_ready (rs := [18]) (by kernel_rfl) (by simp) (AllReadyH.cons rfl (fun K hK => ?_) AllReadyH.nil)
                refine step_append_row rfl (.tmp 40) (.tmp 56) _ _ rfl elem_s rfl rfl ((HC.out.row.alloc _).drew) (src_lit2 _ _ _ rfl) (by omega) (by simp; omega) ?_
                intro A4 c4 w4 ho4 hg4 hat4
                rw [← List.map_append] at ho4
                have hP := HC.out.push (by omega) (grown_undrew hg4) ho4 hat4
                obtain ⟨s8, s9, s10, s11⟩ := box2 hP.1
                have HP := Lib.hid hP
                have hS4 : w4.cell? ⟨g1, 1, none⟩ = some (.slice (some ⟨b3, o3, none⟩) s1.l.length d1) ∧ w4.cell? ⟨b3, o3 + m, none⟩ = some (.string x) :=
                  ⟨hg4.cell hSa.out.1 (fun e => by have := (HC.out.row.lt _ e.symm).1; simp only at this; omega), hg4.cell hSa.out.2 (fun e => by have := (HC.out.row.lt _ e.symm).1; simp only at this; omega)⟩
                clear hP ho4 hg4 hat4
                refine hK.out _ _ hS4 (fun hS0 => ?_)
                clear hK K
                refine wpAnyH_take (i := 19) (v := .pointer (some ⟨wx.heap.size, 1, none⟩)) rfl (by kernel_rfl) (by kernel_rfl) (by kernel_rfl) (fun _ _ _ h => h) (Or.inl ⟨by rfl, ?_⟩) hS0 ?_
                · intro w' hSw
                  obtain ⟨s0, s1'⟩ := hSw
                  go_simp
                simp only [List.getElem_toArray, List.getElem_cons_succ, List.getElem_cons_zero, Act.put, List.setIfInBounds_toArray, List.set_cons_zero, List.set_cons_succ]
                refine wpAnyH_ready (rs := [20]) (by kernel_rfl) (by simp) (AllReadyH.cons rfl (fun K hK => ?_) AllReadyH.nil)
                go_simp
                refine hK.out _ _ (HSC.out _ _ _ _ _ HP.out.2) (fun hS0 => ?_)
                clear hK K
                refine wpAnyH_done (by kernel_rfl) ?_ _
                refine NoPanic.normal ?_
                go_wp2_with fail
                go_roundw
                case rel => exact ⟨k + 1, A4, c4, _, by omega, by go_num, HP.out.2, hT2⟩
                case measure => simp [intOf]; omega
              · go_simp
                refine hK.out _ _ hSa.out (fun hS0 => ?_)
                clear hK K
                refine wpAnyH_ready (rs := [1]) (by kernel_rfl) (by simp) (AllReadyH.cons rfl (fun K hK => ?_) AllReadyH.nil)
                go_simp
                refine hK.out _ _ hSa.out (fun hS0 => ?_)
                clear hK K
                refine wpAnyH_ready (rs := [18]) (by kernel_rfl) (by simp) (AllReadyH.cons rfl (fun K hK => ?_) AllReadyH.nil)
                refine step_append_row rfl (.tmp 40) (.tmp 56) _ _ rfl elem_s rfl rfl ((HC.out.row.alloc _).drew) (src_lit2 _ _ _ rfl) (by omega) (by simp; omega) ?_
                intro A4 c4 w4 ho4 hg4 hat4
                rw [← List.map_append] at ho4
                have hP := HC.out.push (by omega) (grown_undrew hg4) ho4 hat4
                obtain ⟨s8, s9, s10, s11⟩ := box2 hP.1
                have HP := Lib.hid hP
                have hS4 : w4.cell? ⟨g1, 1, none⟩ = some (.slice (some ⟨b3, o3, none⟩) s1.l.length d1) ∧ w4.cell? ⟨b3, o3 + m, none⟩ = some (.string x) :=
                  ⟨hg4.cell hSa.out.1 (fun e => by have := (HC.out.row.lt _ e.symm).1; simp only at this; omega), hg4.cell hSa.out.2 (fun e => by have := (HC.out.row.lt _ e.symm).1; simp only at this; omega)⟩
                clear hP ho4 hg4 hat4
                refine hK.out _ _ hS4 (fun hS0 => ?_)
                clear hK K
                refine wpAnyH_take (i := 19) (v := .pointer (some ⟨wx.heap.size, 1, none⟩)) rfl (by kernel_rfl) (by kernel_rfl) (by kernel_rfl) (fun _ _ _ h => h) (Or.inl ⟨by rfl, ?_⟩) hS0 ?_
                · intro w' hSw
                  obtain ⟨s0, s1'⟩ := hSw
                  go_simp
                simp only [List.getElem_toArray, List.getElem_cons_succ, List.getElem_cons_zero, Act.put, List.setIfInBounds_toArray, List.set_cons_zero, List.set_cons_succ]
                refine wpAnyH_ready (rs := [20]) (by kernel_rfl) (by simp) (AllReadyH.cons rfl (fun K hK => ?_) AllReadyH.nil)
                go_simp
                refine hK.out _ _ (HSC.out _ _ _ _ _ HP.out.2) (fun hS0 => ?_)
                clear hK K
                refine wpAnyH_done (by kernel_rfl) ?_ _
                refine NoPanic.normal ?_
                go_wp2_with fail
                go_roundw
                case rel => exact ⟨k + 1, A4, c4, _, by omega, by go_num, HP.out.2, hT2⟩
                case measure => simp [intOf]; omega
          · obtain rfl : k = 2 * s1.l.length := by omega
            obtain ⟨V0, rfl⟩ : ∃ V0 : World, V0 = wr := ⟨_, rfl⟩
            have hkk : (2 : Int) * (s1.l.length : Int) ≤ ((2 * s1.l.length : Nat) : Int) := by omega
            have hmem : ∀ x, x ∈ ys ↔ x ∈ s1.l := by rw [HT.out]; exact fun x => turned_mem (fun h0 => (HJ.out h0).1) x
            have hbx : Below wx.heap.size wx V0 := ⟨hC.os.trans hb4.os, hC.tape.trans hb4.tape, hC.output.trans hb4.output, by omega, fun i hi => (hC.keep i (by omega) (by omega)).trans (hb4.block i hi)⟩
            have hst := hC.row
            have hyl : ys.length = 2 * s1.l.length := by rw [HT.out]; simp [turned]
            have j1 := i1.below hbx
            have j2 := i2.below hbx
            have jt : In V0 ⟨s1.all, ys⟩ R (2 * s1.l.length) := ⟨sees_own hst⟩
            have hwr3 := hwx.trans (hbx.mono hwx.size)
            have ja := HI1.out _ hwr3
            have jb := HI2.out _ hwr3
            obtain ⟨e0, e1, e2, e3⟩ := HK.out _ hwr3
            have m1 := box2 (Below.box hbx k1)
            have m2 := box2 (Below.box hbx k2)
            have hgl1 : g1 < V0.heap.size := by omega
            have hgl2 : g2 < V0.heap.size := by omega
            have hglt : wx.heap.size < V0.heap.size := by omega
            have hgla : w.heap.size + 1 < V0.heap.size := by have := hwr3.size; have := block_lt e2; simp only at this; omega
            have hna := ja.len
            have hnb := jb.len
            have HS : Hid (∀ W, Below V0.heap.size V0 W → Below V0.heap.size V0 W ∧ W.cell? ⟨g1, 0, none⟩ = some (.bool s1.all) ∧ W.cell? ⟨g1, 1, none⟩ = some (.slice B1 s1.l.length d1) ∧ W.cell? ⟨g2, 0, none⟩ = some (.bool s2.all) ∧ W.cell? ⟨g2, 1, none⟩ = some (.slice B2 s2.l.length d2) ∧ W.cell? ⟨w.heap.size, 0, none⟩ = some (.bool a.all) ∧ W.cell? ⟨w.heap.size, 1, none⟩ = some (.slice A n c) ∧ W.cell? ⟨w.heap.size + 1, 0, none⟩ = some (.bool b.all) ∧ W.cell? ⟨w.heap.size + 1, 1, none⟩ = some (.slice A2 n2 c2)) := Lib.hid fun W hb =>
              ⟨hb, (hb.cell (p := ⟨g1, 0, none⟩) hgl1).trans m1.1, (hb.cell (p := ⟨g1, 1, none⟩) hgl1).trans m1.2.1, (hb.cell (p := ⟨g2, 0, none⟩) hgl2).trans m2.1, (hb.cell (p := ⟨g2, 1, none⟩) hgl2).trans m2.2.1, (hb.cell (p := ⟨w.heap.size, 0, none⟩) (by simp only; omega)).trans e0, (hb.cell (p := ⟨w.heap.size, 1, none⟩) (by simp only; omega)).trans e1, (hb.cell (p := ⟨w.heap.size + 1, 0, none⟩) hgla).trans e2, (hb.cell (p := ⟨w.heap.size + 1, 1, none⟩) hgla).trans e3⟩
            have HTb : Hid (∀ W, Below V0.heap.size V0 W → W.cell? ⟨wx.heap.size, 0, none⟩ = some (.bool s1.all) ∧ W.cell? ⟨wx.heap.size, 1, none⟩ = some (.slice R (2 * s1.l.length) cR)) := Lib.hid fun W hb => ⟨(hb.cell (p := ⟨wx.heap.size, 0, none⟩) hglt).trans (box2 hC.boxc).1, (hb.cell (p := ⟨wx.heap.size, 1, none⟩) hglt).trans (box2 hC.boxc).2.1⟩
            have HB12 : Hid (∀ W, Below V0.heap.size V0 W → Calls Try.prog 16 #[.agg #[.bool s1.all, .slice B1 s1.l.length d1], .agg #[.bool s2.all, .slice B2 s2.l.length d2]] W (At W (both s1 s2))) := Lib.hid fun W hb => both_at s1 s2 B1 B2 s1.l.length d1 s2.l.length d2 (by omega) (by omega) W (Below.refl _ _) (j1.below hb) (j2.below hb)
            have HE12 : Hid (∀ W, Below V0.heap.size V0 W → Calls Try.prog 17 #[.agg #[.bool s1.all, .slice B1 s1.l.length d1], .agg #[.bool s2.all, .slice B2 s2.l.length d2]] W (At W (either s1 s2))) := Lib.hid fun W hb => either_at s1 s2 B1 B2 s1.l.length d1 s2.l.length d2 (by omega) (by omega) W (Below.refl _ _) (j1.below hb) (j2.below hb)
            have HN1 : Hid (∀ W, Below V0.heap.size V0 W → Calls Try.prog 13 #[.agg #[.bool s1.all, .slice B1 s1.l.length d1]] W (At W (nott s1))) := Lib.hid fun W hb => not_at s1 B1 s1.l.length d1 (by omega) W (Below.refl _ _) (j1.below hb)
            have HBab : Hid (∀ W, Below V0.heap.size V0 W → Calls Try.prog 16 #[.agg #[.bool a.all, .slice A n c], .agg #[.bool b.all, .slice A2 n2 c2]] W (At W (both a b))) := Lib.hid fun W hb => both_at a b A A2 n c n2 c2 (by omega) (by omega) W (Below.refl _ _) (ja.below hb) (jb.below hb)
            have HNa : Hid (∀ W, Below V0.heap.size V0 W → Calls Try.prog 13 #[.agg #[.bool a.all, .slice A n c]] W (At W (nott a))) := Lib.hid fun W hb => not_at a A n c (by omega) W (Below.refl _ _) (ja.below hb)
            have Hlen : Hid ((both s1 s2).l.length ≤ 12 ∧ (either s1 s2).l.length ≤ 12 ∧ (nott s1).l.length ≤ 6 ∧ (both a b).l.length ≤ 50 ∧ (nott a).l.length ≤ 25) := Lib.hid ⟨Nat.le_trans (combF_le _ _ _) (by omega), Nat.le_trans (combF_le _ _ _) (by omega), Nat.le_trans (ord_le _) (by omega), Nat.le_trans (combF_le _ _ _) (by omega), Nat.le_trans (ord_le _) (by omega)⟩
            have hft : fr ⟨s1.all, ys⟩ = fr s1 := by simp only [fr]; rw [ord_same hmem]
            have HBt : Hid (∀ W, Below V0.heap.size V0 W → Calls Try.prog 16 #[.agg #[.bool s1.all, .slice R (2 * s1.l.length) cR], .agg #[.bool s2.all, .slice B2 s2.l.length d2]] W (At W (both s1 s2))) := Lib.hid fun W hb => by
              have := both_at (W1 := W) ⟨s1.all, ys⟩ s2 R B2 (2 * s1.l.length) cR s2.l.length d2 (by omega) (by omega) W (Below.refl _ _) (jt.below hb) (j2.below hb)
              rwa [both, hft] at this
            have HEt : Hid (∀ W, Below V0.heap.size V0 W → Calls Try.prog 17 #[.agg #[.bool s1.all, .slice R (2 * s1.l.length) cR], .agg #[.bool s2.all, .slice B2 s2.l.length d2]] W (At W (either s1 s2))) := Lib.hid fun W hb => by
              have := either_at (W1 := W) ⟨s1.all, ys⟩ s2 R B2 (2 * s1.l.length) cR s2.l.length d2 (by omega) (by omega) W (Below.refl _ _) (jt.below hb) (j2.below hb)
              rwa [either, hft] at this
            have HNt : Hid (∀ W, Below V0.heap.size V0 W → Calls Try.prog 13 #[.agg #[.bool s1.all, .slice R (2 * s1.l.length) cR]] W (At W (nott s1))) := Lib.hid fun W hb => by
              have := not_at (W1 := W) ⟨s1.all, ys⟩ R (2 * s1.l.length) cR (by omega) W (Below.refl _ _) (jt.below hb)
              have e : nott ⟨s1.all, ys⟩ = nott s1 := by simp only [nott]; rw [ord_same hmem]
              rwa [e] at this
            have HSm : Hid (∀ W, Below V0.heap.size V0 W → Calls Try.prog 18 #[.agg #[.bool s1.all, .slice B1 s1.l.length d1], .agg #[.bool s1.all, .slice R (2 * s1.l.length) cR]] W (Is W true)) := Lib.hid fun W hb => by
              have := same_at (W1 := W) s1 ⟨s1.all, ys⟩ B1 R s1.l.length d1 (2 * s1.l.length) cR (by omega) (by omega) W (Below.refl _ _) (j1.below hb) (jt.below hb)
              have e : same s1 ⟨s1.all, ys⟩ = true := (same_iff _ _).2 ⟨rfl, fun x => (hmem x).symm⟩
              rwa [e] at this
            have hb0 := (Below.refl V0.heap.size V0).drew
            have HWr : Hid (Below w.heap.size w V0) := Lib.hid (HW3.out.trans (hwr3.mono hw3))
            have hwb : w.heap.size ≤ V0.heap.size := by omega
            clear hmem hbx hst hyl j1 j2 jt hwr3 ja jb e0 e1 e2 e3 m1 m2 hna hnb hft hC HT HJ i1 i2 k1 k2 kN hb4 HK HM1 HM2 HI1 HI2 HW3 hwx bb q2 q3 q4 q5 hgl1 hgl2 hglt hgla
            go_wp2_with fail
            go_region_held3 (fun W => Below V0.heap.size V0 W ∧ W.cell? ⟨g1, 0, none⟩ = some (.bool s1.all) ∧ W.cell? ⟨g1, 1, none⟩ = some (.slice B1 s1.l.length d1) ∧ W.cell? ⟨g2, 0, none⟩ = some (.bool s2.all) ∧ W.cell? ⟨g2, 1, none⟩ = some (.slice B2 s2.l.length d2) ∧ W.cell? ⟨w.heap.size, 0, none⟩ = some (.bool a.all) ∧ W.cell? ⟨w.heap.size, 1, none⟩ = some (.slice A n c) ∧ W.cell? ⟨w.heap.size + 1, 0, none⟩ = some (.bool b.all) ∧ W.cell? ⟨w.heap.size + 1, 1, none⟩ = some (.slice A2 n2 c2))
              (first | exact HS.out _ (f5.alloc f5.size _) | exact HS.out _ f5 | exact HS.out _ f4 | exact HS.out _ f3 | exact HS.out _ f2 | exact HS.out _ f1 | exact HS.out _ hb0)
              (first
              | (go_at_call 16; (with_reducible refine (HB12.out _ hb0).mono ?_); rintro e v1 ⟨P1, c1, rfl, x1, e1⟩; have f1 := hb0.trans (e1.mono hb0.size))
              | (go_at_call 17; (with_reducible refine (HE12.out _ f1).mono ?_); rintro e v2 ⟨P2, c2', rfl, x2, e2⟩; have f2 := f1.trans (e2.mono f1.size); have x12 := x1.below e2)
              | (go_at_call 13; (with_reducible refine (HN1.out _ f2).mono ?_); rintro e v3 ⟨P3, c3, rfl, x3, e3⟩; have f3 := f2.trans (e3.mono f2.size); have x13 := x12.below e3; have x23 := x2.below e3)
              | (go_at_call 16; (with_reducible refine (HBab.out _ f3).mono ?_); rintro e v4 ⟨P4, c4, rfl, x4, e4⟩; have f4 := f3.trans (e4.mono f3.size); have x14 := x13.below e4; have x24 := x23.below e4; have x34 := x3.below e4)
              | (go_at_call 13; (with_reducible refine (HNa.out _ f4).mono ?_); rintro e v5 ⟨P5, c5, rfl, x5, e5⟩; have f5 := f4.trans (e5.mono f4.size); have x15 := x14.below e5; have x25 := x24.below e5; have x35 := x34.below e5; have x45 := x4.below e5))
            obtain ⟨V6, hV6, kG, hzG, bG⟩ := one v5 (Obj.cells #[.bool (both s1 s2).all, .slice P1 (both s1 s2).l.length c1, .bool (either s1 s2).all, .slice P2 (either s1 s2).l.length c2', .bool (nott s1).all, .slice P3 (nott s1).l.length c3, .bool (both a b).all, .slice P4 (both a b).l.length c4, .bool (nott a).all, .slice P5 (nott a).l.length c5] 25)
            have h06 : Below V0.heap.size V0 V6 := f5.trans (bG.mono f5.size)
            have cG := fun j => cell_of_row _ _ j _ _ _ kG
            have hgG : v5.heap.size < V6.heap.size := hzG
            have HR5 : Hid (Rows5 V6 v5.heap.size) := Lib.hid fun i hi => by
              match i, hi with
              | 0, _ => exact ⟨both s1 s2, P1, c1, cG 0, cG 1, x15.below bG, both_pair _ _, by have := Hlen.out; omega⟩
              | 1, _ => exact ⟨either s1 s2, P2, c2', cG 2, cG 3, x25.below bG, either_pair _ _, by have := Hlen.out; omega⟩
              | 2, _ => exact ⟨nott s1, P3, c3, cG 4, cG 5, x35.below bG, nott_pair _, by have := Hlen.out; omega⟩
              | 3, _ => exact ⟨both a b, P4, c4, cG 6, cG 7, x45.below bG, both_pair _ _, by have := Hlen.out; omega⟩
              | 4, _ => exact ⟨nott a, P5, c5, cG 8, cG 9, x5.below bG, nott_pair _, by have := Hlen.out; omega⟩
            have HS6 : Hid (∀ W, Below V6.heap.size V6 W → Below V6.heap.size V6 W ∧ W.cell? ⟨g1, 0, none⟩ = some (.bool s1.all) ∧ W.cell? ⟨g1, 1, none⟩ = some (.slice B1 s1.l.length d1) ∧ W.cell? ⟨g2, 0, none⟩ = some (.bool s2.all) ∧ W.cell? ⟨g2, 1, none⟩ = some (.slice B2 s2.l.length d2) ∧ W.cell? ⟨wx.heap.size, 0, none⟩ = some (.bool s1.all) ∧ W.cell? ⟨wx.heap.size, 1, none⟩ = some (.slice R (2 * s1.l.length) cR) ∧ W.cell? ⟨v5.heap.size, 0, none⟩ = some (.bool (both s1 s2).all) ∧ W.cell? ⟨v5.heap.size, 1, none⟩ = some (.slice P1 (both s1 s2).l.length c1) ∧ W.cell? ⟨v5.heap.size, 2, none⟩ = some (.bool (either s1 s2).all) ∧ W.cell? ⟨v5.heap.size, 3, none⟩ = some (.slice P2 (either s1 s2).l.length c2') ∧ W.cell? ⟨v5.heap.size, 4, none⟩ = some (.bool (nott s1).all) ∧ W.cell? ⟨v5.heap.size, 5, none⟩ = some (.slice P3 (nott s1).l.length c3)) := Lib.hid fun W hb => by
              have h0 := h06.trans (hb.mono h06.size)
              obtain ⟨_, s0, s1', s2', s3, _⟩ := HS.out W h0
              obtain ⟨t0, t1⟩ := HTb.out W h0
              have cW := fun j => (hb.cell (p := ⟨v5.heap.size, j, none⟩) hgG).trans (cG j)
              exact ⟨hb, s0, s1', s2', s3, t0, t1, cW 0, cW 1, cW 2, cW 3, cW 4, cW 5⟩
            have H06 := Lib.hid h06
            have HX1 : Hid (∀ W P c, Below V6.heap.size V6 W → In W (both s1 s2) P (both s1 s2).l.length → Calls Try.prog 19 #[.agg #[.bool (both s1 s2).all, .slice P (both s1 s2).l.length c], .agg #[.bool (both s1 s2).all, .slice P1 (both s1 s2).l.length c1]] W fun e w' => e = .returned (.bool true) ∧ Below W.heap.size W w') := Lib.hid fun W P c hb hi => exact_yes _ _ P P1 _ c _ c1 W hi ((x15.below bG).below hb) rfl rfl (by have := Hlen.out; omega)
            have HX2 : Hid (∀ W P c, Below V6.heap.size V6 W → In W (either s1 s2) P (either s1 s2).l.length → Calls Try.prog 19 #[.agg #[.bool (either s1 s2).all, .slice P (either s1 s2).l.length c], .agg #[.bool (either s1 s2).all, .slice P2 (either s1 s2).l.length c2']] W fun e w' => e = .returned (.bool true) ∧ Below W.heap.size W w') := Lib.hid fun W P c hb hi => exact_yes _ _ P P2 _ c _ c2' W hi ((x25.below bG).below hb) rfl rfl (by have := Hlen.out; omega)
            have HX3 : Hid (∀ W P c, Below V6.heap.size V6 W → In W (nott s1) P (nott s1).l.length → Calls Try.prog 19 #[.agg #[.bool (nott s1).all, .slice P (nott s1).l.length c], .agg #[.bool (nott s1).all, .slice P3 (nott s1).l.length c3]] W fun e w' => e = .returned (.bool true) ∧ Below W.heap.size W w') := Lib.hid fun W P c hb hi => exact_yes _ _ P P3 _ c _ c3 W hi ((x35.below bG).below hb) rfl rfl (by have := Hlen.out; omega)
            clear kG hzG bG cG h06 x1 x2 x3 x4 x5 x12 x13 x14 x15 x23 x24 x25 x34 x35 x45 e1 e2 e3 e4 e5 f1 f2 f3 f4 f5 hb0
            go_wp2_with fail
            rw [← hV6]
            clear hV6
            go_loopw [12] (fun i W => OutR V6 i W) (fun i _ => 5 - (intOf i).toNat)
            case atStart => exact ⟨0, by omega, rfl, Below.refl _ _⟩
            case round =>
              obtain ⟨i, hi, rfl, hV⟩ := hrel
              obtain ⟨vo, rfl⟩ : ∃ vo : World, vo = wr := ⟨_, rfl⟩
              by_cases hi5 : i < 5
              · obtain ⟨s, P, cP, y0, y1, yin, yp, yl⟩ := HR5.out i hi5
                have w0 : (i : Int) < 5 := by omega
                have w1 : (0 : Int) ≤ (i : Int) := by omega
                obtain ⟨len, hlen⟩ : ∃ len, len = s.l.length := ⟨_, rfl⟩
                rw [← hlen] at y1 yin yl
                have Hlen2 := Lib.hid hlen
                have Hyp := Lib.hid yp
                have Hyin := Lib.hid yin
                clear hlen yp yin y0
                go_wp2_with fail
                go_loopw [13] (fun j W => ∃ m : Nat, 1 ≤ m ∧ m ≤ len + 1 ∧ j = .int .i64 m ∧ Below V6.heap.size V6 W) (fun j _ => len + 1 - (intOf j).toNat)
                case atStart => exact ⟨1, by omega, by omega, rfl, hV⟩
                case round =>
                  obtain ⟨m, hm1, hm2, rfl, hV2⟩ := hrel
                  have y2 : wr.cell? ⟨v5.heap.size, i * 2 + 1, none⟩ = some (.slice P len cP) := (hV2.cell (p := ⟨v5.heap.size, i * 2 + 1, none⟩) hgG).trans y1
                  by_cases hml : m < len
                  · obtain ⟨r, rfl⟩ : ∃ r, m = r + 1 := ⟨m - 1, by omega⟩
                    have w2 : (r : Int) + 1 < (len : Int) := by omega
                    have w3 : (0 : Int) ≤ (r : Int) := by omega
                    have w4' : (r : Int) < (len : Int) := by omega
                    have w5 : (0 : Int) ≤ (r : Int) + 1 := by omega
                    have w6 : ((r : Int) + 1).toNat = r + 1 := by omega
                    have yy := (Hyin.out.below hV2).sees
                    obtain ⟨b6, o6, z0, hP6, _, hc6, hx6⟩ := nth yy (show r < len by omega)
                    obtain ⟨b7, o7, z1, hP7, _, hc7, hx7⟩ := nth yy (show r + 1 < len by omega)
                    rw [hP6] at hP7
                    injection hP7 with hP7
                    injection hP7 with e8 e9
                    subst e8; subst e9
                    subst hP6
                    have hlt2 : z0.data.toList < z1.data.toList := by
                      have h1 := (List.getElem?_eq_some_iff.1 hx6)
                      have h2 := (List.getElem?_eq_some_iff.1 hx7)
                      rw [← h1.2, ← h2.2]
                      exact List.pairwise_iff_getElem.1 Hyp.out r (r + 1) h1.1 h2.1 (by omega)
                    have hge : Op.bytesLess z0.toList z1.toList = true := (less_iff z0 z1).2 hlt2
                    clear yy hx6 hx7 hlt2 y1
                    go_wp2_with fail
                    go_quiet (fail)
                    go_wp2_with fail
                    go_roundw
                    case rel => exact ⟨r + 1 + 1, by omega, by omega, by go_num, below_dN hV2 _⟩
                    case measure => simp [intOf]; omega
                  · have w2 : (len : Int) ≤ (m : Int) := by omega
                    go_wp2_with fail
                    go_roundw
                    case rel => exact ⟨i + 1, by omega, by go_num, hV2⟩
                    case measure => simp [intOf]; omega
              · obtain rfl : i = 5 := by omega
                have bb0 := hV.drew
                go_wp2_with fail
                go_region_held3 (fun W => Below V6.heap.size V6 W ∧ W.cell? ⟨g1, 0, none⟩ = some (.bool s1.all) ∧ W.cell? ⟨g1, 1, none⟩ = some (.slice B1 s1.l.length d1) ∧ W.cell? ⟨g2, 0, none⟩ = some (.bool s2.all) ∧ W.cell? ⟨g2, 1, none⟩ = some (.slice B2 s2.l.length d2) ∧ W.cell? ⟨wx.heap.size, 0, none⟩ = some (.bool s1.all) ∧ W.cell? ⟨wx.heap.size, 1, none⟩ = some (.slice R (2 * s1.l.length) cR) ∧ W.cell? ⟨v5.heap.size, 0, none⟩ = some (.bool (both s1 s2).all) ∧ W.cell? ⟨v5.heap.size, 1, none⟩ = some (.slice P1 (both s1 s2).l.length c1) ∧ W.cell? ⟨v5.heap.size, 2, none⟩ = some (.bool (either s1 s2).all) ∧ W.cell? ⟨v5.heap.size, 3, none⟩ = some (.slice P2 (either s1 s2).l.length c2') ∧ W.cell? ⟨v5.heap.size, 4, none⟩ = some (.bool (nott s1).all) ∧ W.cell? ⟨v5.heap.size, 5, none⟩ = some (.slice P3 (nott s1).l.length c3))
                  (first | exact HS6.out _ p7 | exact HS6.out _ p6 | exact HS6.out _ p5 | exact HS6.out _ p4 | exact HS6.out _ p3 | exact HS6.out _ p2 | exact HS6.out _ p1 | exact HS6.out _ bb0)
                  (first
                  | (go_at_call 18; (with_reducible refine (HSm.out _ (H06.out.trans (bb0.mono H06.out.size))).mono ?_); rintro e u1 ⟨rfl, e1⟩; have p1 := bb0.trans (e1.mono bb0.size))
                  | (go_at_call 16; (with_reducible refine (HBt.out _ (H06.out.trans (p1.mono H06.out.size))).mono ?_); rintro e u2 ⟨Q1, q1, rfl, x1, e2⟩; have p2 := p1.trans (e2.mono p1.size))
                  | (go_at_call 19; (with_reducible refine (HX1.out _ _ _ p2 x1).mono ?_); rintro e u3 ⟨rfl, e3⟩; have p3 := p2.trans (e3.mono p2.size))
                  | (go_at_call 17; (with_reducible refine (HEt.out _ (H06.out.trans (p3.mono H06.out.size))).mono ?_); rintro e u4 ⟨Q2, q2, rfl, x2, e4⟩; have p4 := p3.trans (e4.mono p3.size))
                  | (go_at_call 19; (with_reducible refine (HX2.out _ _ _ p4 x2).mono ?_); rintro e u5 ⟨rfl, e5⟩; have p5 := p4.trans (e5.mono p4.size))
                  | (go_at_call 13; (with_reducible refine (HNt.out _ (H06.out.trans (p5.mono H06.out.size))).mono ?_); rintro e u6 ⟨Q3, q3, rfl, x3, e6⟩; have p6 := p5.trans (e6.mono p5.size))
                  | (go_at_call 19; (with_reducible refine (HX3.out _ _ _ p6 x3).mono ?_); rintro e u7 ⟨rfl, e7⟩; have p7 := p6.trans (e7.mono p6.size)))
                all_goals
                  go_wp2_with fail
                  go_ret
                  exact ⟨rfl, HWr.out.trans ((H06.out.trans (p7.mono H06.out.size)).mono hwb)⟩
end Go.Proofs.Ytkponeccenehhaa.Nm
