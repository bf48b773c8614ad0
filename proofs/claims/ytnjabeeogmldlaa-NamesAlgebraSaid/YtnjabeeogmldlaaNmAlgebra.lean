/- NamesAlgebra: what is in both, in one or both, not in one, is so name by name: the law's walk. No conditions. -/
import Derived.Test.YtnjabeeogmldlaaNmMake
import Derived.Test.YtnjabeeogmldlaaNmHas
import Derived.Deep.CutRange
namespace Go.Proofs.Ytnjabeeogmldlaa.Nm
open Go.RowKit
set_option maxRecDepth 100000

theorem seesF {w : World} {B n : Nat} {A : Option Addr} {ss : List (List UInt8)} {g i : Nat} {u v v' : Value} {T : TypeId} (hbox : w.heap[g]? = some (.cells #[u, v] T (0, 0))) (hu : ∀ x, u ≠ .string x) (hv : ∀ x, v ≠ .string x) (hs : SeesV w B A n (ss.map encs)) :
    SeesV (w.setCell ⟨g, i, none⟩ v') B A n (ss.map encs) := by
  refine ⟨hs.len, fun j q hq => ?_⟩
  obtain ⟨b, o, e, hb', hc⟩ := hs.cell j q hq
  have hbg : b ≠ g := by
    rintro rfl
    rw [List.getElem?_map, Option.map_eq_some_iff] at hq
    obtain ⟨y, _, rfl⟩ := hq
    exact box2_str hbox hu hv _ hc
  refine ⟨b, o, e, hb', ?_⟩
  rw [World.cell?_setCell_other _ _ _ _ (fun e => hbg (congrArg Addr.block e).symm)]
  exact hc
theorem one (V : World) (o : Obj) : ∃ U, U = V.alloc o ∧ U.heap[V.heap.size]? = some o ∧ V.heap.size < U.heap.size ∧ Below V.heap.size V U :=
  ⟨_, rfl, heap_alloc_new V o, by simp, (Below.refl _ _).alloc (Nat.le_refl _) _⟩
theorem store2 {V : World} {g : Nat} {T : TypeId} (x : Bool) (A : Option Addr) (n c : Nat) (h : V.heap[g]? = some (.cells #[.bool false, .slice none 0 0] T (0, 0))) :
    ∃ U, U = (V.setCell ⟨g, 0, none⟩ (.bool x)).setCell ⟨g, 1, none⟩ (.slice A n c) ∧ U.heap[g]? = some (.cells #[.bool x, .slice A n c] T (0, 0)) ∧ (∀ k, k ≠ g → U.heap[k]? = V.heap[k]?) ∧ U.heap.size = V.heap.size ∧ (∀ s B m, In V s B m → In U s B m) ∧ ∀ base, base ≤ g → Below base V U := by
  have h1 : (V.setCell ⟨g, 0, none⟩ (.bool x)).heap[g]? = some (.cells #[.bool x, .slice none 0 0] T (0, 0)) := by rw [heap_setCell_same V g 0 _ _ _ h]; rfl
  refine ⟨_, rfl, set_box2 h1, fun k hk => ?_, by simp [World.setCell], fun s B m hi => ⟨?_⟩, fun base hb => ((Below.refl base V).setCell hb _).setCell hb _⟩
  · rw [Below.heap_setCell _ ⟨g, 1, none⟩ _ k hk, Below.heap_setCell _ ⟨g, 0, none⟩ _ k hk]
  · have a1 := seesF (i := 0) (v' := .bool x) h (fun x e => by cases e) (fun x e => by cases e) hi.sees
    have a2 := seesF (i := 1) (v' := .slice A n c) h1 (fun x e => by cases e) (fun x e => by cases e) a1
    simpa [World.setCell] using a2

/-- Three sets made, each in a box. -/
def Made3 (w : World) (p q r : Value) (wx : World) : Prop := ∃ (s1 s2 s3 : St) (g1 g2 g3 : Nat) (B1 B2 B3 : Option Addr) (d1 d2 d3 : Nat), p = .pointer (some ⟨g1, 0, none⟩) ∧ q = .pointer (some ⟨g2, 0, none⟩) ∧ r = .pointer (some ⟨g3, 0, none⟩) ∧
  s1.l.length ≤ 6 ∧ s2.l.length ≤ 6 ∧ s3.l.length ≤ 6 ∧ In wx s1 B1 s1.l.length ∧ In wx s2 B2 s2.l.length ∧ In wx s3 B3 s3.l.length ∧
  wx.heap[g1]? = some (.cells #[.bool s1.all, .slice B1 s1.l.length d1] 65 (0, 0)) ∧ wx.heap[g2]? = some (.cells #[.bool s2.all, .slice B2 s2.l.length d2] 65 (0, 0)) ∧ wx.heap[g3]? = some (.cells #[.bool s3.all, .slice B3 s3.l.length d3] 65 (0, 0)) ∧ Below w.heap.size w wx

set_option maxHeartbeats 16000000 in
theorem alg_walk (a b c3 : St) (A A2 A3 : Option Addr) (n c n2 c2 n3 cc3 : Nat) (x : ByteArray) (w : World) (h : In w a A n) (h2 : In w b A2 n2) (h3 : In w c3 A3 n3) (hla : ∀ x ∈ a.l, x.length ≤ maxLen) (hlb : ∀ x ∈ b.l, x.length ≤ maxLen) (hlc : ∀ x ∈ c3.l, x.length ≤ maxLen) (hn : n ≤ 9223372036854775807) (hn2 : n2 ≤ 9223372036854775807) (hn3 : n3 ≤ 9223372036854775807) :
    Calls Try.prog 13 #[.agg #[.bool a.all, .slice A n c], .agg #[.bool b.all, .slice A2 n2 c2], .agg #[.bool c3.all, .slice A3 n3 cc3], .string x] w fun e w' => e = .returned (.bool true) ∧ Below w.heap.size w w' := by
  obtain ⟨W1, hW1, g0, g1, g2, gs, gb⟩ := three w (Obj.cells #[Value.bool a.all, Value.slice A n c] 65) (Obj.cells #[Value.bool b.all, Value.slice A2 n2 c2] 65) (Obj.cells #[Value.bool c3.all, Value.slice A3 n3 cc3] 65)
  have hgs : w.heap.size + 3 ≤ W1.heap.size := by omega
  clear gs
  have HMa : Hid (∀ W, Below W1.heap.size W1 W → Calls Try.prog 47 #[.agg #[.bool a.all, .slice A n c]] W (Made W)) := Lib.hid fun W hb => make_any a A n c W ((h.below gb).below hb) hn hla
  have HMb : Hid (∀ W, Below W1.heap.size W1 W → Calls Try.prog 47 #[.agg #[.bool b.all, .slice A2 n2 c2]] W (Made W)) := Lib.hid fun W hb => make_any b A2 n2 c2 W ((h2.below gb).below hb) hn2 hlb
  have HMc : Hid (∀ W, Below W1.heap.size W1 W → Calls Try.prog 47 #[.agg #[.bool c3.all, .slice A3 n3 cc3]] W (Made W)) := Lib.hid fun W hb => make_any c3 A3 n3 cc3 W ((h3.below gb).below hb) hn3 hlc
  clear h h2 h3 hla hlb hlc hn hn2 hn3
  go_enter Try.func13, Try.ntmps13
  go_wp2_with fail
  rw [← hW1]
  clear hW1
  refine (known_any _).mono ?_
  rintro e W2 ⟨rfl, hb1⟩
  have hw2 : w.heap.size ≤ W2.heap.size := Nat.le_trans (by omega) hb1.size
  have HW2 := Lib.hid (gb.trans (hb1.mono (by omega)))
  have HK := Lib.hid (fun W (hb : Below W2.heap.size W2 W) => have t0 := box2 (Below.box hb (Below.box hb1 g0)); have t1 := box2 (Below.box hb (Below.box hb1 g1)); have t2 := box2 (Below.box hb (Below.box hb1 g2)); (⟨t0.1, t0.2.1, t1.1, t1.2.1, t2.1, t2.2.1⟩ : W.cell? ⟨w.heap.size, 0, none⟩ = some (.bool a.all) ∧ W.cell? ⟨w.heap.size, 1, none⟩ = some (.slice A n c) ∧ W.cell? ⟨w.heap.size + 1, 0, none⟩ = some (.bool b.all) ∧ W.cell? ⟨w.heap.size + 1, 1, none⟩ = some (.slice A2 n2 c2) ∧ W.cell? ⟨w.heap.size + 1 + 1, 0, none⟩ = some (.bool c3.all) ∧ W.cell? ⟨w.heap.size + 1 + 1, 1, none⟩ = some (.slice A3 n3 cc3)))
  have HM1 := Lib.hid (fun W (hb : Below W2.heap.size W2 W) => HMa.out W (hb1.trans (hb.mono hb1.size)))
  have HM2 := Lib.hid (fun W (hb : Below W2.heap.size W2 W) => HMb.out W (hb1.trans (hb.mono hb1.size)))
  have HM3 := Lib.hid (fun W (hb : Below W2.heap.size W2 W) => HMc.out W (hb1.trans (hb.mono hb1.size)))
  clear HMa HMb HMc hb1 g0 g1 g2 gb
  have bb : Below W2.heap.size W2 W2.drew := (Below.refl _ _).drew
  go_upto_region 3 with (fail)
  go_cut [9, 10, 11] from 18 to 23 (fun p q r wx => Made3 w p q r wx)
  case first =>
    as_aux_lemma =>
      go_wp2_with fail
      refine wp_region_noPanic (wp_region_held_drew (S := fun W => Below W2.heap.size W2 W) (by kernel_rfl) bb (fun hS0 => ?_))
      refine wpAnyH_take (i := 0) (v := .agg #[.bool a.all, .slice A n c]) rfl (by kernel_rfl) (by kernel_rfl) (by kernel_rfl) (fun _ _ _ h => h) (Or.inl ⟨by rfl, ?_⟩) hS0 ?_
      · intro w' hSw
        obtain ⟨p0, p1, p2, p3, p4, p5⟩ := HK.out w' hSw
        go_simp
      simp only [List.getElem_toArray, List.getElem_cons_zero, Act.put, List.setIfInBounds_toArray, List.set_cons_zero, List.set_cons_succ]
      refine wpAnyH_take (i := 2) (v := .agg #[.bool b.all, .slice A2 n2 c2]) rfl (by kernel_rfl) (by kernel_rfl) (by kernel_rfl) (fun _ _ _ h => h) (Or.inl ⟨by rfl, ?_⟩) hS0 ?_
      · intro w' hSw
        obtain ⟨p0, p1, p2, p3, p4, p5⟩ := HK.out w' hSw
        go_simp
      simp only [List.getElem_toArray, List.getElem_cons_succ, List.getElem_cons_zero, Act.put, List.setIfInBounds_toArray, List.set_cons_zero, List.set_cons_succ]
      refine wpAnyH_take (i := 4) (v := .agg #[.bool c3.all, .slice A3 n3 cc3]) rfl (by kernel_rfl) (by kernel_rfl) (by kernel_rfl) (fun _ _ _ h => h) (Or.inl ⟨by rfl, ?_⟩) hS0 ?_
      · intro w' hSw
        obtain ⟨p0, p1, p2, p3, p4, p5⟩ := HK.out w' hSw
        go_simp
      simp only [List.getElem_toArray, List.getElem_cons_succ, List.getElem_cons_zero, Act.put, List.setIfInBounds_toArray, List.set_cons_zero, List.set_cons_succ]
      obtain ⟨U, hU⟩ : ∃ U, U = W2.drew := ⟨_, rfl⟩
      rw [← hU] at bb hS0 ⊢
      clear hU
      refine wpAnyH_ready (rs := [1, 6, 7, 8]) (by kernel_rfl) (by simp) (AllReadyH.cons rfl (fun K hK => ?_) (AllReadyH.cons rfl (fun K hK => ?_) (AllReadyH.cons rfl (fun K hK => ?_) (AllReadyH.cons rfl (fun K hK => ?_) AllReadyH.nil))))
      all_goals
        simp only [List.getElem_toArray, List.getElem_cons_succ, List.getElem_cons_zero]
        go_simp
        first
        | ((with_reducible refine (HM1.out _ bb).mono ?_); rintro e U ⟨m1, l1, B1, d1, rfl, i1, ee⟩; replace bb := bb.trans (ee.mono bb.size); (try replace i1 := i1.below ee); (try replace i2 := i2.below ee); (try replace i3 := i3.below ee); (try replace kA := Below.box ee kA); (try replace kB := Below.box ee kB); (try replace kC := Below.box ee kC); refine hK.out _ _ bb (fun hS0 => ?_); clear hK K ee)
        | ((with_reducible refine (HM2.out _ bb).mono ?_); rintro e U ⟨m2, l2, B2, d2, rfl, i2, ee⟩; replace bb := bb.trans (ee.mono bb.size); (try replace i1 := i1.below ee); (try replace i2 := i2.below ee); (try replace i3 := i3.below ee); (try replace kA := Below.box ee kA); (try replace kB := Below.box ee kB); (try replace kC := Below.box ee kC); refine hK.out _ _ bb (fun hS0 => ?_); clear hK K ee)
        | ((with_reducible refine (HM3.out _ bb).mono ?_); rintro e U ⟨m3, l3, B3, d3, rfl, i3, ee⟩; replace bb := bb.trans (ee.mono bb.size); (try replace i1 := i1.below ee); (try replace i2 := i2.below ee); (try replace i3 := i3.below ee); (try replace kA := Below.box ee kA); (try replace kB := Below.box ee kB); (try replace kC := Below.box ee kC); refine hK.out _ _ bb (fun hS0 => ?_); clear hK K ee)
        | (have hAC := Nat.ne_of_lt (Array.getElem?_eq_some_iff.1 kA).1; have hBC := Nat.ne_of_lt (Array.getElem?_eq_some_iff.1 kB).1; have lC := bb.size; obtain ⟨U, hU, kC, zz, ee⟩ := one _ (Obj.cells #[Value.bool false, Value.slice none 0 0] 65); rw [← hU]; clear hU zz; replace bb := bb.trans (ee.mono bb.size); (try replace i1 := i1.below ee); (try replace i2 := i2.below ee); (try replace i3 := i3.below ee); (try replace kA := Below.box ee kA); (try replace kB := Below.box ee kB); (try replace kC := Below.box ee kC); refine hK.out _ _ bb (fun hS0 => ?_); clear hK K ee)
        | (have hAB := Nat.ne_of_lt (Array.getElem?_eq_some_iff.1 kA).1; have lB := bb.size; obtain ⟨U, hU, kB, zz, ee⟩ := one _ (Obj.cells #[Value.bool false, Value.slice none 0 0] 65); rw [← hU]; clear hU zz; replace bb := bb.trans (ee.mono bb.size); (try replace i1 := i1.below ee); (try replace i2 := i2.below ee); (try replace i3 := i3.below ee); (try replace kA := Below.box ee kA); (try replace kB := Below.box ee kB); (try replace kC := Below.box ee kC); refine hK.out _ _ bb (fun hS0 => ?_); clear hK K ee)
        | (have lA := bb.size; obtain ⟨U, hU, kA, zz, ee⟩ := one _ (Obj.cells #[Value.bool false, Value.slice none 0 0] 65); rw [← hU]; clear hU zz; replace bb := bb.trans (ee.mono bb.size); (try replace i1 := i1.below ee); (try replace i2 := i2.below ee); (try replace i3 := i3.below ee); (try replace kA := Below.box ee kA); (try replace kB := Below.box ee kB); (try replace kC := Below.box ee kC); refine hK.out _ _ bb (fun hS0 => ?_); clear hK K ee)
      refine wpAnyH_ready (rs := [3, 6, 7, 8]) (by kernel_rfl) (by simp) (AllReadyH.cons rfl (fun K hK => ?_) (AllReadyH.cons rfl (fun K hK => ?_) (AllReadyH.cons rfl (fun K hK => ?_) (AllReadyH.cons rfl (fun K hK => ?_) AllReadyH.nil)))); rotate_left 4
      refine wpAnyH_ready (rs := [1, 7, 8]) (by kernel_rfl) (by simp) (AllReadyH.cons rfl (fun K hK => ?_) (AllReadyH.cons rfl (fun K hK => ?_) (AllReadyH.cons rfl (fun K hK => ?_) AllReadyH.nil))); rotate_left 3
      refine wpAnyH_ready (rs := [1, 6, 8]) (by kernel_rfl) (by simp) (AllReadyH.cons rfl (fun K hK => ?_) (AllReadyH.cons rfl (fun K hK => ?_) (AllReadyH.cons rfl (fun K hK => ?_) AllReadyH.nil))); rotate_left 3
      refine wpAnyH_ready (rs := [1, 6, 7]) (by kernel_rfl) (by simp) (AllReadyH.cons rfl (fun K hK => ?_) (AllReadyH.cons rfl (fun K hK => ?_) (AllReadyH.cons rfl (fun K hK => ?_) AllReadyH.nil))); rotate_left 3
      all_goals
        simp only [List.getElem_toArray, List.getElem_cons_succ, List.getElem_cons_zero]
        go_simp
        first
        | ((with_reducible refine (HM1.out _ bb).mono ?_); rintro e U ⟨m1, l1, B1, d1, rfl, i1, ee⟩; replace bb := bb.trans (ee.mono bb.size); (try replace i1 := i1.below ee); (try replace i2 := i2.below ee); (try replace i3 := i3.below ee); (try replace kA := Below.box ee kA); (try replace kB := Below.box ee kB); (try replace kC := Below.box ee kC); refine hK.out _ _ bb (fun hS0 => ?_); clear hK K ee)
        | ((with_reducible refine (HM2.out _ bb).mono ?_); rintro e U ⟨m2, l2, B2, d2, rfl, i2, ee⟩; replace bb := bb.trans (ee.mono bb.size); (try replace i1 := i1.below ee); (try replace i2 := i2.below ee); (try replace i3 := i3.below ee); (try replace kA := Below.box ee kA); (try replace kB := Below.box ee kB); (try replace kC := Below.box ee kC); refine hK.out _ _ bb (fun hS0 => ?_); clear hK K ee)
        | ((with_reducible refine (HM3.out _ bb).mono ?_); rintro e U ⟨m3, l3, B3, d3, rfl, i3, ee⟩; replace bb := bb.trans (ee.mono bb.size); (try replace i1 := i1.below ee); (try replace i2 := i2.below ee); (try replace i3 := i3.below ee); (try replace kA := Below.box ee kA); (try replace kB := Below.box ee kB); (try replace kC := Below.box ee kC); refine hK.out _ _ bb (fun hS0 => ?_); clear hK K ee)
        | (have hAC := Nat.ne_of_lt (Array.getElem?_eq_some_iff.1 kA).1; have hBC := Nat.ne_of_lt (Array.getElem?_eq_some_iff.1 kB).1; have lC := bb.size; obtain ⟨U, hU, kC, zz, ee⟩ := one _ (Obj.cells #[Value.bool false, Value.slice none 0 0] 65); rw [← hU]; clear hU zz; replace bb := bb.trans (ee.mono bb.size); (try replace i1 := i1.below ee); (try replace i2 := i2.below ee); (try replace i3 := i3.below ee); (try replace kA := Below.box ee kA); (try replace kB := Below.box ee kB); (try replace kC := Below.box ee kC); refine hK.out _ _ bb (fun hS0 => ?_); clear hK K ee)
        | (have hAB := Nat.ne_of_lt (Array.getElem?_eq_some_iff.1 kA).1; have lB := bb.size; obtain ⟨U, hU, kB, zz, ee⟩ := one _ (Obj.cells #[Value.bool false, Value.slice none 0 0] 65); rw [← hU]; clear hU zz; replace bb := bb.trans (ee.mono bb.size); (try replace i1 := i1.below ee); (try replace i2 := i2.below ee); (try replace i3 := i3.below ee); (try replace kA := Below.box ee kA); (try replace kB := Below.box ee kB); (try replace kC := Below.box ee kC); refine hK.out _ _ bb (fun hS0 => ?_); clear hK K ee)
        | (have lA := bb.size; obtain ⟨U, hU, kA, zz, ee⟩ := one _ (Obj.cells #[Value.bool false, Value.slice none 0 0] 65); rw [← hU]; clear hU zz; replace bb := bb.trans (ee.mono bb.size); (try replace i1 := i1.below ee); (try replace i2 := i2.below ee); (try replace i3 := i3.below ee); (try replace kA := Below.box ee kA); (try replace kB := Below.box ee kB); (try replace kC := Below.box ee kC); refine hK.out _ _ bb (fun hS0 => ?_); clear hK K ee)
      refine wpAnyH_ready (rs := [5, 6, 7, 8]) (by kernel_rfl) (by simp) (AllReadyH.cons rfl (fun K hK => ?_) (AllReadyH.cons rfl (fun K hK => ?_) (AllReadyH.cons rfl (fun K hK => ?_) (AllReadyH.cons rfl (fun K hK => ?_) AllReadyH.nil)))); rotate_left 4
      refine wpAnyH_ready (rs := [3, 7, 8]) (by kernel_rfl) (by simp) (AllReadyH.cons rfl (fun K hK => ?_) (AllReadyH.cons rfl (fun K hK => ?_) (AllReadyH.cons rfl (fun K hK => ?_) AllReadyH.nil))); rotate_left 3
      refine wpAnyH_ready (rs := [3, 6, 8]) (by kernel_rfl) (by simp) (AllReadyH.cons rfl (fun K hK => ?_) (AllReadyH.cons rfl (fun K hK => ?_) (AllReadyH.cons rfl (fun K hK => ?_) AllReadyH.nil))); rotate_left 3
      refine wpAnyH_ready (rs := [3, 6, 7]) (by kernel_rfl) (by simp) (AllReadyH.cons rfl (fun K hK => ?_) (AllReadyH.cons rfl (fun K hK => ?_) (AllReadyH.cons rfl (fun K hK => ?_) AllReadyH.nil))); rotate_left 3
      refine wpAnyH_ready (rs := [3, 7, 8]) (by kernel_rfl) (by simp) (AllReadyH.cons rfl (fun K hK => ?_) (AllReadyH.cons rfl (fun K hK => ?_) (AllReadyH.cons rfl (fun K hK => ?_) AllReadyH.nil))); rotate_left 3
      refine wpAnyH_ready (rs := [1, 8]) (by kernel_rfl) (by simp) (AllReadyH.cons rfl (fun K hK => ?_) (AllReadyH.cons rfl (fun K hK => ?_) AllReadyH.nil)); rotate_left 2
      refine wpAnyH_ready (rs := [1, 7]) (by kernel_rfl) (by simp) (AllReadyH.cons rfl (fun K hK => ?_) (AllReadyH.cons rfl (fun K hK => ?_) AllReadyH.nil)); rotate_left 2
      refine wpAnyH_ready (rs := [3, 6, 8]) (by kernel_rfl) (by simp) (AllReadyH.cons rfl (fun K hK => ?_) (AllReadyH.cons rfl (fun K hK => ?_) (AllReadyH.cons rfl (fun K hK => ?_) AllReadyH.nil))); rotate_left 3
      refine wpAnyH_ready (rs := [1, 8]) (by kernel_rfl) (by simp) (AllReadyH.cons rfl (fun K hK => ?_) (AllReadyH.cons rfl (fun K hK => ?_) AllReadyH.nil)); rotate_left 2
      refine wpAnyH_ready (rs := [1, 6]) (by kernel_rfl) (by simp) (AllReadyH.cons rfl (fun K hK => ?_) (AllReadyH.cons rfl (fun K hK => ?_) AllReadyH.nil)); rotate_left 2
      refine wpAnyH_ready (rs := [3, 6, 7]) (by kernel_rfl) (by simp) (AllReadyH.cons rfl (fun K hK => ?_) (AllReadyH.cons rfl (fun K hK => ?_) (AllReadyH.cons rfl (fun K hK => ?_) AllReadyH.nil))); rotate_left 3
      refine wpAnyH_ready (rs := [1, 7]) (by kernel_rfl) (by simp) (AllReadyH.cons rfl (fun K hK => ?_) (AllReadyH.cons rfl (fun K hK => ?_) AllReadyH.nil)); rotate_left 2
      refine wpAnyH_ready (rs := [1, 6]) (by kernel_rfl) (by simp) (AllReadyH.cons rfl (fun K hK => ?_) (AllReadyH.cons rfl (fun K hK => ?_) AllReadyH.nil)); rotate_left 2
      all_goals
        simp only [List.getElem_toArray, List.getElem_cons_succ, List.getElem_cons_zero]
        go_simp
        first
        | ((with_reducible refine (HM1.out _ bb).mono ?_); rintro e U ⟨m1, l1, B1, d1, rfl, i1, ee⟩; replace bb := bb.trans (ee.mono bb.size); (try replace i1 := i1.below ee); (try replace i2 := i2.below ee); (try replace i3 := i3.below ee); (try replace kA := Below.box ee kA); (try replace kB := Below.box ee kB); (try replace kC := Below.box ee kC); refine hK.out _ _ bb (fun hS0 => ?_); clear hK K ee)
        | ((with_reducible refine (HM2.out _ bb).mono ?_); rintro e U ⟨m2, l2, B2, d2, rfl, i2, ee⟩; replace bb := bb.trans (ee.mono bb.size); (try replace i1 := i1.below ee); (try replace i2 := i2.below ee); (try replace i3 := i3.below ee); (try replace kA := Below.box ee kA); (try replace kB := Below.box ee kB); (try replace kC := Below.box ee kC); refine hK.out _ _ bb (fun hS0 => ?_); clear hK K ee)
        | ((with_reducible refine (HM3.out _ bb).mono ?_); rintro e U ⟨m3, l3, B3, d3, rfl, i3, ee⟩; replace bb := bb.trans (ee.mono bb.size); (try replace i1 := i1.below ee); (try replace i2 := i2.below ee); (try replace i3 := i3.below ee); (try replace kA := Below.box ee kA); (try replace kB := Below.box ee kB); (try replace kC := Below.box ee kC); refine hK.out _ _ bb (fun hS0 => ?_); clear hK K ee)
        | (have hAC := Nat.ne_of_lt (Array.getElem?_eq_some_iff.1 kA).1; have hBC := Nat.ne_of_lt (Array.getElem?_eq_some_iff.1 kB).1; have lC := bb.size; obtain ⟨U, hU, kC, zz, ee⟩ := one _ (Obj.cells #[Value.bool false, Value.slice none 0 0] 65); rw [← hU]; clear hU zz; replace bb := bb.trans (ee.mono bb.size); (try replace i1 := i1.below ee); (try replace i2 := i2.below ee); (try replace i3 := i3.below ee); (try replace kA := Below.box ee kA); (try replace kB := Below.box ee kB); (try replace kC := Below.box ee kC); refine hK.out _ _ bb (fun hS0 => ?_); clear hK K ee)
        | (have hAB := Nat.ne_of_lt (Array.getElem?_eq_some_iff.1 kA).1; have lB := bb.size; obtain ⟨U, hU, kB, zz, ee⟩ := one _ (Obj.cells #[Value.bool false, Value.slice none 0 0] 65); rw [← hU]; clear hU zz; replace bb := bb.trans (ee.mono bb.size); (try replace i1 := i1.below ee); (try replace i2 := i2.below ee); (try replace i3 := i3.below ee); (try replace kA := Below.box ee kA); (try replace kB := Below.box ee kB); (try replace kC := Below.box ee kC); refine hK.out _ _ bb (fun hS0 => ?_); clear hK K ee)
        | (have lA := bb.size; obtain ⟨U, hU, kA, zz, ee⟩ := one _ (Obj.cells #[Value.bool false, Value.slice none 0 0] 65); rw [← hU]; clear hU zz; replace bb := bb.trans (ee.mono bb.size); (try replace i1 := i1.below ee); (try replace i2 := i2.below ee); (try replace i3 := i3.below ee); (try replace kA := Below.box ee kA); (try replace kB := Below.box ee kB); (try replace kC := Below.box ee kC); refine hK.out _ _ bb (fun hS0 => ?_); clear hK K ee)
      refine wpAnyH_ready (rs := [6, 7, 8]) (by kernel_rfl) (by simp) (AllReadyH.cons rfl (fun K hK => ?_) (AllReadyH.cons rfl (fun K hK => ?_) (AllReadyH.cons rfl (fun K hK => ?_) AllReadyH.nil))); rotate_left 3
      refine wpAnyH_ready (rs := [5, 7, 8]) (by kernel_rfl) (by simp) (AllReadyH.cons rfl (fun K hK => ?_) (AllReadyH.cons rfl (fun K hK => ?_) (AllReadyH.cons rfl (fun K hK => ?_) AllReadyH.nil))); rotate_left 3
      refine wpAnyH_ready (rs := [5, 6, 8]) (by kernel_rfl) (by simp) (AllReadyH.cons rfl (fun K hK => ?_) (AllReadyH.cons rfl (fun K hK => ?_) (AllReadyH.cons rfl (fun K hK => ?_) AllReadyH.nil))); rotate_left 3
      refine wpAnyH_ready (rs := [5, 6, 7]) (by kernel_rfl) (by simp) (AllReadyH.cons rfl (fun K hK => ?_) (AllReadyH.cons rfl (fun K hK => ?_) (AllReadyH.cons rfl (fun K hK => ?_) AllReadyH.nil))); rotate_left 3
      refine wpAnyH_ready (rs := [5, 7, 8]) (by kernel_rfl) (by simp) (AllReadyH.cons rfl (fun K hK => ?_) (AllReadyH.cons rfl (fun K hK => ?_) (AllReadyH.cons rfl (fun K hK => ?_) AllReadyH.nil))); rotate_left 3
      refine wpAnyH_ready (rs := [3, 8]) (by kernel_rfl) (by simp) (AllReadyH.cons rfl (fun K hK => ?_) (AllReadyH.cons rfl (fun K hK => ?_) AllReadyH.nil)); rotate_left 2
      refine wpAnyH_ready (rs := [3, 7]) (by kernel_rfl) (by simp) (AllReadyH.cons rfl (fun K hK => ?_) (AllReadyH.cons rfl (fun K hK => ?_) AllReadyH.nil)); rotate_left 2
      refine wpAnyH_ready (rs := [5, 6, 8]) (by kernel_rfl) (by simp) (AllReadyH.cons rfl (fun K hK => ?_) (AllReadyH.cons rfl (fun K hK => ?_) (AllReadyH.cons rfl (fun K hK => ?_) AllReadyH.nil))); rotate_left 3
      refine wpAnyH_ready (rs := [3, 8]) (by kernel_rfl) (by simp) (AllReadyH.cons rfl (fun K hK => ?_) (AllReadyH.cons rfl (fun K hK => ?_) AllReadyH.nil)); rotate_left 2
      refine wpAnyH_ready (rs := [3, 6]) (by kernel_rfl) (by simp) (AllReadyH.cons rfl (fun K hK => ?_) (AllReadyH.cons rfl (fun K hK => ?_) AllReadyH.nil)); rotate_left 2
      refine wpAnyH_ready (rs := [5, 6, 7]) (by kernel_rfl) (by simp) (AllReadyH.cons rfl (fun K hK => ?_) (AllReadyH.cons rfl (fun K hK => ?_) (AllReadyH.cons rfl (fun K hK => ?_) AllReadyH.nil))); rotate_left 3
      refine wpAnyH_ready (rs := [3, 7]) (by kernel_rfl) (by simp) (AllReadyH.cons rfl (fun K hK => ?_) (AllReadyH.cons rfl (fun K hK => ?_) AllReadyH.nil)); rotate_left 2
      refine wpAnyH_ready (rs := [3, 6]) (by kernel_rfl) (by simp) (AllReadyH.cons rfl (fun K hK => ?_) (AllReadyH.cons rfl (fun K hK => ?_) AllReadyH.nil)); rotate_left 2
      refine wpAnyH_ready (rs := [5, 7, 8]) (by kernel_rfl) (by simp) (AllReadyH.cons rfl (fun K hK => ?_) (AllReadyH.cons rfl (fun K hK => ?_) (AllReadyH.cons rfl (fun K hK => ?_) AllReadyH.nil))); rotate_left 3
      refine wpAnyH_ready (rs := [3, 8]) (by kernel_rfl) (by simp) (AllReadyH.cons rfl (fun K hK => ?_) (AllReadyH.cons rfl (fun K hK => ?_) AllReadyH.nil)); rotate_left 2
      refine wpAnyH_ready (rs := [3, 7]) (by kernel_rfl) (by simp) (AllReadyH.cons rfl (fun K hK => ?_) (AllReadyH.cons rfl (fun K hK => ?_) AllReadyH.nil)); rotate_left 2
      refine wpAnyH_ready (rs := [3, 8]) (by kernel_rfl) (by simp) (AllReadyH.cons rfl (fun K hK => ?_) (AllReadyH.cons rfl (fun K hK => ?_) AllReadyH.nil)); rotate_left 2
      refine wpAnyH_ready (rs := [1]) (by kernel_rfl) (by simp) (AllReadyH.cons rfl (fun K hK => ?_) AllReadyH.nil); rotate_left 1
      refine wpAnyH_ready (rs := [3, 7]) (by kernel_rfl) (by simp) (AllReadyH.cons rfl (fun K hK => ?_) (AllReadyH.cons rfl (fun K hK => ?_) AllReadyH.nil)); rotate_left 2
      refine wpAnyH_ready (rs := [1]) (by kernel_rfl) (by simp) (AllReadyH.cons rfl (fun K hK => ?_) AllReadyH.nil); rotate_left 1
      refine wpAnyH_ready (rs := [5, 6, 8]) (by kernel_rfl) (by simp) (AllReadyH.cons rfl (fun K hK => ?_) (AllReadyH.cons rfl (fun K hK => ?_) (AllReadyH.cons rfl (fun K hK => ?_) AllReadyH.nil))); rotate_left 3
      refine wpAnyH_ready (rs := [3, 8]) (by kernel_rfl) (by simp) (AllReadyH.cons rfl (fun K hK => ?_) (AllReadyH.cons rfl (fun K hK => ?_) AllReadyH.nil)); rotate_left 2
      refine wpAnyH_ready (rs := [3, 6]) (by kernel_rfl) (by simp) (AllReadyH.cons rfl (fun K hK => ?_) (AllReadyH.cons rfl (fun K hK => ?_) AllReadyH.nil)); rotate_left 2
      refine wpAnyH_ready (rs := [3, 8]) (by kernel_rfl) (by simp) (AllReadyH.cons rfl (fun K hK => ?_) (AllReadyH.cons rfl (fun K hK => ?_) AllReadyH.nil)); rotate_left 2
      refine wpAnyH_ready (rs := [1]) (by kernel_rfl) (by simp) (AllReadyH.cons rfl (fun K hK => ?_) AllReadyH.nil); rotate_left 1
      refine wpAnyH_ready (rs := [3, 6]) (by kernel_rfl) (by simp) (AllReadyH.cons rfl (fun K hK => ?_) (AllReadyH.cons rfl (fun K hK => ?_) AllReadyH.nil)); rotate_left 2
      refine wpAnyH_ready (rs := [1]) (by kernel_rfl) (by simp) (AllReadyH.cons rfl (fun K hK => ?_) AllReadyH.nil); rotate_left 1
      refine wpAnyH_ready (rs := [5, 6, 7]) (by kernel_rfl) (by simp) (AllReadyH.cons rfl (fun K hK => ?_) (AllReadyH.cons rfl (fun K hK => ?_) (AllReadyH.cons rfl (fun K hK => ?_) AllReadyH.nil))); rotate_left 3
      refine wpAnyH_ready (rs := [3, 7]) (by kernel_rfl) (by simp) (AllReadyH.cons rfl (fun K hK => ?_) (AllReadyH.cons rfl (fun K hK => ?_) AllReadyH.nil)); rotate_left 2
      refine wpAnyH_ready (rs := [3, 6]) (by kernel_rfl) (by simp) (AllReadyH.cons rfl (fun K hK => ?_) (AllReadyH.cons rfl (fun K hK => ?_) AllReadyH.nil)); rotate_left 2
      refine wpAnyH_ready (rs := [3, 7]) (by kernel_rfl) (by simp) (AllReadyH.cons rfl (fun K hK => ?_) (AllReadyH.cons rfl (fun K hK => ?_) AllReadyH.nil)); rotate_left 2
      refine wpAnyH_ready (rs := [1]) (by kernel_rfl) (by simp) (AllReadyH.cons rfl (fun K hK => ?_) AllReadyH.nil); rotate_left 1
      refine wpAnyH_ready (rs := [3, 6]) (by kernel_rfl) (by simp) (AllReadyH.cons rfl (fun K hK => ?_) (AllReadyH.cons rfl (fun K hK => ?_) AllReadyH.nil)); rotate_left 2
      refine wpAnyH_ready (rs := [1]) (by kernel_rfl) (by simp) (AllReadyH.cons rfl (fun K hK => ?_) AllReadyH.nil); rotate_left 1
      all_goals
        simp only [List.getElem_toArray, List.getElem_cons_succ, List.getElem_cons_zero]
        go_simp
        first
        | ((with_reducible refine (HM1.out _ bb).mono ?_); rintro e U ⟨m1, l1, B1, d1, rfl, i1, ee⟩; replace bb := bb.trans (ee.mono bb.size); (try replace i1 := i1.below ee); (try replace i2 := i2.below ee); (try replace i3 := i3.below ee); (try replace kA := Below.box ee kA); (try replace kB := Below.box ee kB); (try replace kC := Below.box ee kC); refine hK.out _ _ bb (fun hS0 => ?_); clear hK K ee)
        | ((with_reducible refine (HM2.out _ bb).mono ?_); rintro e U ⟨m2, l2, B2, d2, rfl, i2, ee⟩; replace bb := bb.trans (ee.mono bb.size); (try replace i1 := i1.below ee); (try replace i2 := i2.below ee); (try replace i3 := i3.below ee); (try replace kA := Below.box ee kA); (try replace kB := Below.box ee kB); (try replace kC := Below.box ee kC); refine hK.out _ _ bb (fun hS0 => ?_); clear hK K ee)
        | ((with_reducible refine (HM3.out _ bb).mono ?_); rintro e U ⟨m3, l3, B3, d3, rfl, i3, ee⟩; replace bb := bb.trans (ee.mono bb.size); (try replace i1 := i1.below ee); (try replace i2 := i2.below ee); (try replace i3 := i3.below ee); (try replace kA := Below.box ee kA); (try replace kB := Below.box ee kB); (try replace kC := Below.box ee kC); refine hK.out _ _ bb (fun hS0 => ?_); clear hK K ee)
        | (have hAC := Nat.ne_of_lt (Array.getElem?_eq_some_iff.1 kA).1; have hBC := Nat.ne_of_lt (Array.getElem?_eq_some_iff.1 kB).1; have lC := bb.size; obtain ⟨U, hU, kC, zz, ee⟩ := one _ (Obj.cells #[Value.bool false, Value.slice none 0 0] 65); rw [← hU]; clear hU zz; replace bb := bb.trans (ee.mono bb.size); (try replace i1 := i1.below ee); (try replace i2 := i2.below ee); (try replace i3 := i3.below ee); (try replace kA := Below.box ee kA); (try replace kB := Below.box ee kB); (try replace kC := Below.box ee kC); refine hK.out _ _ bb (fun hS0 => ?_); clear hK K ee)
        | (have hAB := Nat.ne_of_lt (Array.getElem?_eq_some_iff.1 kA).1; have lB := bb.size; obtain ⟨U, hU, kB, zz, ee⟩ := one _ (Obj.cells #[Value.bool false, Value.slice none 0 0] 65); rw [← hU]; clear hU zz; replace bb := bb.trans (ee.mono bb.size); (try replace i1 := i1.below ee); (try replace i2 := i2.below ee); (try replace i3 := i3.below ee); (try replace kA := Below.box ee kA); (try replace kB := Below.box ee kB); (try replace kC := Below.box ee kC); refine hK.out _ _ bb (fun hS0 => ?_); clear hK K ee)
        | (have lA := bb.size; obtain ⟨U, hU, kA, zz, ee⟩ := one _ (Obj.cells #[Value.bool false, Value.slice none 0 0] 65); rw [← hU]; clear hU zz; replace bb := bb.trans (ee.mono bb.size); (try replace i1 := i1.below ee); (try replace i2 := i2.below ee); (try replace i3 := i3.below ee); (try replace kA := Below.box ee kA); (try replace kB := Below.box ee kB); (try replace kC := Below.box ee kC); refine hK.out _ _ bb (fun hS0 => ?_); clear hK K ee)
      refine wpAnyH_ready (rs := [7, 8]) (by kernel_rfl) (by simp) (AllReadyH.cons rfl (fun K hK => ?_) (AllReadyH.cons rfl (fun K hK => ?_) AllReadyH.nil)); rotate_left 2
      refine wpAnyH_ready (rs := [6, 8]) (by kernel_rfl) (by simp) (AllReadyH.cons rfl (fun K hK => ?_) (AllReadyH.cons rfl (fun K hK => ?_) AllReadyH.nil)); rotate_left 2
      refine wpAnyH_ready (rs := [6, 7]) (by kernel_rfl) (by simp) (AllReadyH.cons rfl (fun K hK => ?_) (AllReadyH.cons rfl (fun K hK => ?_) AllReadyH.nil)); rotate_left 2
      refine wpAnyH_ready (rs := [7, 8]) (by kernel_rfl) (by simp) (AllReadyH.cons rfl (fun K hK => ?_) (AllReadyH.cons rfl (fun K hK => ?_) AllReadyH.nil)); rotate_left 2
      refine wpAnyH_ready (rs := [5, 8]) (by kernel_rfl) (by simp) (AllReadyH.cons rfl (fun K hK => ?_) (AllReadyH.cons rfl (fun K hK => ?_) AllReadyH.nil)); rotate_left 2
      refine wpAnyH_ready (rs := [5, 7]) (by kernel_rfl) (by simp) (AllReadyH.cons rfl (fun K hK => ?_) (AllReadyH.cons rfl (fun K hK => ?_) AllReadyH.nil)); rotate_left 2
      refine wpAnyH_ready (rs := [6, 8]) (by kernel_rfl) (by simp) (AllReadyH.cons rfl (fun K hK => ?_) (AllReadyH.cons rfl (fun K hK => ?_) AllReadyH.nil)); rotate_left 2
      refine wpAnyH_ready (rs := [5, 8]) (by kernel_rfl) (by simp) (AllReadyH.cons rfl (fun K hK => ?_) (AllReadyH.cons rfl (fun K hK => ?_) AllReadyH.nil)); rotate_left 2
      refine wpAnyH_ready (rs := [5, 6]) (by kernel_rfl) (by simp) (AllReadyH.cons rfl (fun K hK => ?_) (AllReadyH.cons rfl (fun K hK => ?_) AllReadyH.nil)); rotate_left 2
      refine wpAnyH_ready (rs := [6, 7]) (by kernel_rfl) (by simp) (AllReadyH.cons rfl (fun K hK => ?_) (AllReadyH.cons rfl (fun K hK => ?_) AllReadyH.nil)); rotate_left 2
      refine wpAnyH_ready (rs := [5, 7]) (by kernel_rfl) (by simp) (AllReadyH.cons rfl (fun K hK => ?_) (AllReadyH.cons rfl (fun K hK => ?_) AllReadyH.nil)); rotate_left 2
      refine wpAnyH_ready (rs := [5, 6]) (by kernel_rfl) (by simp) (AllReadyH.cons rfl (fun K hK => ?_) (AllReadyH.cons rfl (fun K hK => ?_) AllReadyH.nil)); rotate_left 2
      refine wpAnyH_ready (rs := [7, 8]) (by kernel_rfl) (by simp) (AllReadyH.cons rfl (fun K hK => ?_) (AllReadyH.cons rfl (fun K hK => ?_) AllReadyH.nil)); rotate_left 2
      refine wpAnyH_ready (rs := [5, 8]) (by kernel_rfl) (by simp) (AllReadyH.cons rfl (fun K hK => ?_) (AllReadyH.cons rfl (fun K hK => ?_) AllReadyH.nil)); rotate_left 2
      refine wpAnyH_ready (rs := [5, 7]) (by kernel_rfl) (by simp) (AllReadyH.cons rfl (fun K hK => ?_) (AllReadyH.cons rfl (fun K hK => ?_) AllReadyH.nil)); rotate_left 2
      refine wpAnyH_ready (rs := [5, 8]) (by kernel_rfl) (by simp) (AllReadyH.cons rfl (fun K hK => ?_) (AllReadyH.cons rfl (fun K hK => ?_) AllReadyH.nil)); rotate_left 2
      refine wpAnyH_ready (rs := [3]) (by kernel_rfl) (by simp) (AllReadyH.cons rfl (fun K hK => ?_) AllReadyH.nil); rotate_left 1
      refine wpAnyH_ready (rs := [5, 7]) (by kernel_rfl) (by simp) (AllReadyH.cons rfl (fun K hK => ?_) (AllReadyH.cons rfl (fun K hK => ?_) AllReadyH.nil)); rotate_left 2
      refine wpAnyH_ready (rs := [3]) (by kernel_rfl) (by simp) (AllReadyH.cons rfl (fun K hK => ?_) AllReadyH.nil); rotate_left 1
      refine wpAnyH_ready (rs := [6, 8]) (by kernel_rfl) (by simp) (AllReadyH.cons rfl (fun K hK => ?_) (AllReadyH.cons rfl (fun K hK => ?_) AllReadyH.nil)); rotate_left 2
      refine wpAnyH_ready (rs := [5, 8]) (by kernel_rfl) (by simp) (AllReadyH.cons rfl (fun K hK => ?_) (AllReadyH.cons rfl (fun K hK => ?_) AllReadyH.nil)); rotate_left 2
      refine wpAnyH_ready (rs := [5, 6]) (by kernel_rfl) (by simp) (AllReadyH.cons rfl (fun K hK => ?_) (AllReadyH.cons rfl (fun K hK => ?_) AllReadyH.nil)); rotate_left 2
      refine wpAnyH_ready (rs := [5, 8]) (by kernel_rfl) (by simp) (AllReadyH.cons rfl (fun K hK => ?_) (AllReadyH.cons rfl (fun K hK => ?_) AllReadyH.nil)); rotate_left 2
      refine wpAnyH_ready (rs := [3]) (by kernel_rfl) (by simp) (AllReadyH.cons rfl (fun K hK => ?_) AllReadyH.nil); rotate_left 1
      refine wpAnyH_ready (rs := [5, 6]) (by kernel_rfl) (by simp) (AllReadyH.cons rfl (fun K hK => ?_) (AllReadyH.cons rfl (fun K hK => ?_) AllReadyH.nil)); rotate_left 2
      refine wpAnyH_ready (rs := [3]) (by kernel_rfl) (by simp) (AllReadyH.cons rfl (fun K hK => ?_) AllReadyH.nil); rotate_left 1
      refine wpAnyH_ready (rs := [6, 7]) (by kernel_rfl) (by simp) (AllReadyH.cons rfl (fun K hK => ?_) (AllReadyH.cons rfl (fun K hK => ?_) AllReadyH.nil)); rotate_left 2
      refine wpAnyH_ready (rs := [5, 7]) (by kernel_rfl) (by simp) (AllReadyH.cons rfl (fun K hK => ?_) (AllReadyH.cons rfl (fun K hK => ?_) AllReadyH.nil)); rotate_left 2
      refine wpAnyH_ready (rs := [5, 6]) (by kernel_rfl) (by simp) (AllReadyH.cons rfl (fun K hK => ?_) (AllReadyH.cons rfl (fun K hK => ?_) AllReadyH.nil)); rotate_left 2
      refine wpAnyH_ready (rs := [5, 7]) (by kernel_rfl) (by simp) (AllReadyH.cons rfl (fun K hK => ?_) (AllReadyH.cons rfl (fun K hK => ?_) AllReadyH.nil)); rotate_left 2
      refine wpAnyH_ready (rs := [3]) (by kernel_rfl) (by simp) (AllReadyH.cons rfl (fun K hK => ?_) AllReadyH.nil); rotate_left 1
      refine wpAnyH_ready (rs := [5, 6]) (by kernel_rfl) (by simp) (AllReadyH.cons rfl (fun K hK => ?_) (AllReadyH.cons rfl (fun K hK => ?_) AllReadyH.nil)); rotate_left 2
      refine wpAnyH_ready (rs := [3]) (by kernel_rfl) (by simp) (AllReadyH.cons rfl (fun K hK => ?_) AllReadyH.nil); rotate_left 1
      refine wpAnyH_ready (rs := [7, 8]) (by kernel_rfl) (by simp) (AllReadyH.cons rfl (fun K hK => ?_) (AllReadyH.cons rfl (fun K hK => ?_) AllReadyH.nil)); rotate_left 2
      refine wpAnyH_ready (rs := [5, 8]) (by kernel_rfl) (by simp) (AllReadyH.cons rfl (fun K hK => ?_) (AllReadyH.cons rfl (fun K hK => ?_) AllReadyH.nil)); rotate_left 2
      refine wpAnyH_ready (rs := [5, 7]) (by kernel_rfl) (by simp) (AllReadyH.cons rfl (fun K hK => ?_) (AllReadyH.cons rfl (fun K hK => ?_) AllReadyH.nil)); rotate_left 2
      refine wpAnyH_ready (rs := [5, 8]) (by kernel_rfl) (by simp) (AllReadyH.cons rfl (fun K hK => ?_) (AllReadyH.cons rfl (fun K hK => ?_) AllReadyH.nil)); rotate_left 2
      refine wpAnyH_ready (rs := [3]) (by kernel_rfl) (by simp) (AllReadyH.cons rfl (fun K hK => ?_) AllReadyH.nil); rotate_left 1
      refine wpAnyH_ready (rs := [5, 7]) (by kernel_rfl) (by simp) (AllReadyH.cons rfl (fun K hK => ?_) (AllReadyH.cons rfl (fun K hK => ?_) AllReadyH.nil)); rotate_left 2
      refine wpAnyH_ready (rs := [3]) (by kernel_rfl) (by simp) (AllReadyH.cons rfl (fun K hK => ?_) AllReadyH.nil); rotate_left 1
      refine wpAnyH_ready (rs := [5, 8]) (by kernel_rfl) (by simp) (AllReadyH.cons rfl (fun K hK => ?_) (AllReadyH.cons rfl (fun K hK => ?_) AllReadyH.nil)); rotate_left 2
      refine wpAnyH_ready (rs := [3]) (by kernel_rfl) (by simp) (AllReadyH.cons rfl (fun K hK => ?_) AllReadyH.nil); rotate_left 1
      refine wpAnyH_ready (rs := [3]) (by kernel_rfl) (by simp) (AllReadyH.cons rfl (fun K hK => ?_) AllReadyH.nil); rotate_left 1
      refine wpAnyH_ready (rs := [5, 7]) (by kernel_rfl) (by simp) (AllReadyH.cons rfl (fun K hK => ?_) (AllReadyH.cons rfl (fun K hK => ?_) AllReadyH.nil)); rotate_left 2
      refine wpAnyH_ready (rs := [3]) (by kernel_rfl) (by simp) (AllReadyH.cons rfl (fun K hK => ?_) AllReadyH.nil); rotate_left 1
      refine wpAnyH_ready (rs := [3]) (by kernel_rfl) (by simp) (AllReadyH.cons rfl (fun K hK => ?_) AllReadyH.nil); rotate_left 1
      refine wpAnyH_ready (rs := [6, 8]) (by kernel_rfl) (by simp) (AllReadyH.cons rfl (fun K hK => ?_) (AllReadyH.cons rfl (fun K hK => ?_) AllReadyH.nil)); rotate_left 2
      refine wpAnyH_ready (rs := [5, 8]) (by kernel_rfl) (by simp) (AllReadyH.cons rfl (fun K hK => ?_) (AllReadyH.cons rfl (fun K hK => ?_) AllReadyH.nil)); rotate_left 2
      refine wpAnyH_ready (rs := [5, 6]) (by kernel_rfl) (by simp) (AllReadyH.cons rfl (fun K hK => ?_) (AllReadyH.cons rfl (fun K hK => ?_) AllReadyH.nil)); rotate_left 2
      refine wpAnyH_ready (rs := [5, 8]) (by kernel_rfl) (by simp) (AllReadyH.cons rfl (fun K hK => ?_) (AllReadyH.cons rfl (fun K hK => ?_) AllReadyH.nil)); rotate_left 2
      refine wpAnyH_ready (rs := [3]) (by kernel_rfl) (by simp) (AllReadyH.cons rfl (fun K hK => ?_) AllReadyH.nil); rotate_left 1
      refine wpAnyH_ready (rs := [5, 6]) (by kernel_rfl) (by simp) (AllReadyH.cons rfl (fun K hK => ?_) (AllReadyH.cons rfl (fun K hK => ?_) AllReadyH.nil)); rotate_left 2
      refine wpAnyH_ready (rs := [3]) (by kernel_rfl) (by simp) (AllReadyH.cons rfl (fun K hK => ?_) AllReadyH.nil); rotate_left 1
      refine wpAnyH_ready (rs := [5, 8]) (by kernel_rfl) (by simp) (AllReadyH.cons rfl (fun K hK => ?_) (AllReadyH.cons rfl (fun K hK => ?_) AllReadyH.nil)); rotate_left 2
      refine wpAnyH_ready (rs := [3]) (by kernel_rfl) (by simp) (AllReadyH.cons rfl (fun K hK => ?_) AllReadyH.nil); rotate_left 1
      refine wpAnyH_ready (rs := [3]) (by kernel_rfl) (by simp) (AllReadyH.cons rfl (fun K hK => ?_) AllReadyH.nil); rotate_left 1
      refine wpAnyH_ready (rs := [5, 6]) (by kernel_rfl) (by simp) (AllReadyH.cons rfl (fun K hK => ?_) (AllReadyH.cons rfl (fun K hK => ?_) AllReadyH.nil)); rotate_left 2
      refine wpAnyH_ready (rs := [3]) (by kernel_rfl) (by simp) (AllReadyH.cons rfl (fun K hK => ?_) AllReadyH.nil); rotate_left 1
      refine wpAnyH_ready (rs := [3]) (by kernel_rfl) (by simp) (AllReadyH.cons rfl (fun K hK => ?_) AllReadyH.nil); rotate_left 1
      refine wpAnyH_ready (rs := [6, 7]) (by kernel_rfl) (by simp) (AllReadyH.cons rfl (fun K hK => ?_) (AllReadyH.cons rfl (fun K hK => ?_) AllReadyH.nil)); rotate_left 2
      refine wpAnyH_ready (rs := [5, 7]) (by kernel_rfl) (by simp) (AllReadyH.cons rfl (fun K hK => ?_) (AllReadyH.cons rfl (fun K hK => ?_) AllReadyH.nil)); rotate_left 2
      refine wpAnyH_ready (rs := [5, 6]) (by kernel_rfl) (by simp) (AllReadyH.cons rfl (fun K hK => ?_) (AllReadyH.cons rfl (fun K hK => ?_) AllReadyH.nil)); rotate_left 2
      refine wpAnyH_ready (rs := [5, 7]) (by kernel_rfl) (by simp) (AllReadyH.cons rfl (fun K hK => ?_) (AllReadyH.cons rfl (fun K hK => ?_) AllReadyH.nil)); rotate_left 2
      refine wpAnyH_ready (rs := [3]) (by kernel_rfl) (by simp) (AllReadyH.cons rfl (fun K hK => ?_) AllReadyH.nil); rotate_left 1
      refine wpAnyH_ready (rs := [5, 6]) (by kernel_rfl) (by simp) (AllReadyH.cons rfl (fun K hK => ?_) (AllReadyH.cons rfl (fun K hK => ?_) AllReadyH.nil)); rotate_left 2
      refine wpAnyH_ready (rs := [3]) (by kernel_rfl) (by simp) (AllReadyH.cons rfl (fun K hK => ?_) AllReadyH.nil); rotate_left 1
      refine wpAnyH_ready (rs := [5, 7]) (by kernel_rfl) (by simp) (AllReadyH.cons rfl (fun K hK => ?_) (AllReadyH.cons rfl (fun K hK => ?_) AllReadyH.nil)); rotate_left 2
      refine wpAnyH_ready (rs := [3]) (by kernel_rfl) (by simp) (AllReadyH.cons rfl (fun K hK => ?_) AllReadyH.nil); rotate_left 1
      refine wpAnyH_ready (rs := [3]) (by kernel_rfl) (by simp) (AllReadyH.cons rfl (fun K hK => ?_) AllReadyH.nil); rotate_left 1
      refine wpAnyH_ready (rs := [5, 6]) (by kernel_rfl) (by simp) (AllReadyH.cons rfl (fun K hK => ?_) (AllReadyH.cons rfl (fun K hK => ?_) AllReadyH.nil)); rotate_left 2
      refine wpAnyH_ready (rs := [3]) (by kernel_rfl) (by simp) (AllReadyH.cons rfl (fun K hK => ?_) AllReadyH.nil); rotate_left 1
      refine wpAnyH_ready (rs := [3]) (by kernel_rfl) (by simp) (AllReadyH.cons rfl (fun K hK => ?_) AllReadyH.nil); rotate_left 1
      all_goals
        simp only [List.getElem_toArray, List.getElem_cons_succ, List.getElem_cons_zero]
        go_simp
        first
        | ((with_reducible refine (HM1.out _ bb).mono ?_); rintro e U ⟨m1, l1, B1, d1, rfl, i1, ee⟩; replace bb := bb.trans (ee.mono bb.size); (try replace i1 := i1.below ee); (try replace i2 := i2.below ee); (try replace i3 := i3.below ee); (try replace kA := Below.box ee kA); (try replace kB := Below.box ee kB); (try replace kC := Below.box ee kC); refine hK.out _ _ bb (fun hS0 => ?_); clear hK K ee)
        | ((with_reducible refine (HM2.out _ bb).mono ?_); rintro e U ⟨m2, l2, B2, d2, rfl, i2, ee⟩; replace bb := bb.trans (ee.mono bb.size); (try replace i1 := i1.below ee); (try replace i2 := i2.below ee); (try replace i3 := i3.below ee); (try replace kA := Below.box ee kA); (try replace kB := Below.box ee kB); (try replace kC := Below.box ee kC); refine hK.out _ _ bb (fun hS0 => ?_); clear hK K ee)
        | ((with_reducible refine (HM3.out _ bb).mono ?_); rintro e U ⟨m3, l3, B3, d3, rfl, i3, ee⟩; replace bb := bb.trans (ee.mono bb.size); (try replace i1 := i1.below ee); (try replace i2 := i2.below ee); (try replace i3 := i3.below ee); (try replace kA := Below.box ee kA); (try replace kB := Below.box ee kB); (try replace kC := Below.box ee kC); refine hK.out _ _ bb (fun hS0 => ?_); clear hK K ee)
        | (have hAC := Nat.ne_of_lt (Array.getElem?_eq_some_iff.1 kA).1; have hBC := Nat.ne_of_lt (Array.getElem?_eq_some_iff.1 kB).1; have lC := bb.size; obtain ⟨U, hU, kC, zz, ee⟩ := one _ (Obj.cells #[Value.bool false, Value.slice none 0 0] 65); rw [← hU]; clear hU zz; replace bb := bb.trans (ee.mono bb.size); (try replace i1 := i1.below ee); (try replace i2 := i2.below ee); (try replace i3 := i3.below ee); (try replace kA := Below.box ee kA); (try replace kB := Below.box ee kB); (try replace kC := Below.box ee kC); refine hK.out _ _ bb (fun hS0 => ?_); clear hK K ee)
        | (have hAB := Nat.ne_of_lt (Array.getElem?_eq_some_iff.1 kA).1; have lB := bb.size; obtain ⟨U, hU, kB, zz, ee⟩ := one _ (Obj.cells #[Value.bool false, Value.slice none 0 0] 65); rw [← hU]; clear hU zz; replace bb := bb.trans (ee.mono bb.size); (try replace i1 := i1.below ee); (try replace i2 := i2.below ee); (try replace i3 := i3.below ee); (try replace kA := Below.box ee kA); (try replace kB := Below.box ee kB); (try replace kC := Below.box ee kC); refine hK.out _ _ bb (fun hS0 => ?_); clear hK K ee)
        | (have lA := bb.size; obtain ⟨U, hU, kA, zz, ee⟩ := one _ (Obj.cells #[Value.bool false, Value.slice none 0 0] 65); rw [← hU]; clear hU zz; replace bb := bb.trans (ee.mono bb.size); (try replace i1 := i1.below ee); (try replace i2 := i2.below ee); (try replace i3 := i3.below ee); (try replace kA := Below.box ee kA); (try replace kB := Below.box ee kB); (try replace kC := Below.box ee kC); refine hK.out _ _ bb (fun hS0 => ?_); clear hK K ee)
      refine wpAnyH_ready (rs := [8]) (by kernel_rfl) (by simp) (AllReadyH.cons rfl (fun K hK => ?_) AllReadyH.nil); rotate_left 1
      refine wpAnyH_ready (rs := [7]) (by kernel_rfl) (by simp) (AllReadyH.cons rfl (fun K hK => ?_) AllReadyH.nil); rotate_left 1
      refine wpAnyH_ready (rs := [8]) (by kernel_rfl) (by simp) (AllReadyH.cons rfl (fun K hK => ?_) AllReadyH.nil); rotate_left 1
      refine wpAnyH_ready (rs := [6]) (by kernel_rfl) (by simp) (AllReadyH.cons rfl (fun K hK => ?_) AllReadyH.nil); rotate_left 1
      refine wpAnyH_ready (rs := [7]) (by kernel_rfl) (by simp) (AllReadyH.cons rfl (fun K hK => ?_) AllReadyH.nil); rotate_left 1
      refine wpAnyH_ready (rs := [6]) (by kernel_rfl) (by simp) (AllReadyH.cons rfl (fun K hK => ?_) AllReadyH.nil); rotate_left 1
      refine wpAnyH_ready (rs := [8]) (by kernel_rfl) (by simp) (AllReadyH.cons rfl (fun K hK => ?_) AllReadyH.nil); rotate_left 1
      refine wpAnyH_ready (rs := [7]) (by kernel_rfl) (by simp) (AllReadyH.cons rfl (fun K hK => ?_) AllReadyH.nil); rotate_left 1
      refine wpAnyH_ready (rs := [8]) (by kernel_rfl) (by simp) (AllReadyH.cons rfl (fun K hK => ?_) AllReadyH.nil); rotate_left 1
      refine wpAnyH_ready (rs := [5]) (by kernel_rfl) (by simp) (AllReadyH.cons rfl (fun K hK => ?_) AllReadyH.nil); rotate_left 1
      refine wpAnyH_ready (rs := [7]) (by kernel_rfl) (by simp) (AllReadyH.cons rfl (fun K hK => ?_) AllReadyH.nil); rotate_left 1
      refine wpAnyH_ready (rs := [5]) (by kernel_rfl) (by simp) (AllReadyH.cons rfl (fun K hK => ?_) AllReadyH.nil); rotate_left 1
      refine wpAnyH_ready (rs := [8]) (by kernel_rfl) (by simp) (AllReadyH.cons rfl (fun K hK => ?_) AllReadyH.nil); rotate_left 1
      refine wpAnyH_ready (rs := [6]) (by kernel_rfl) (by simp) (AllReadyH.cons rfl (fun K hK => ?_) AllReadyH.nil); rotate_left 1
      refine wpAnyH_ready (rs := [8]) (by kernel_rfl) (by simp) (AllReadyH.cons rfl (fun K hK => ?_) AllReadyH.nil); rotate_left 1
      refine wpAnyH_ready (rs := [5]) (by kernel_rfl) (by simp) (AllReadyH.cons rfl (fun K hK => ?_) AllReadyH.nil); rotate_left 1
      refine wpAnyH_ready (rs := [6]) (by kernel_rfl) (by simp) (AllReadyH.cons rfl (fun K hK => ?_) AllReadyH.nil); rotate_left 1
      refine wpAnyH_ready (rs := [5]) (by kernel_rfl) (by simp) (AllReadyH.cons rfl (fun K hK => ?_) AllReadyH.nil); rotate_left 1
      refine wpAnyH_ready (rs := [7]) (by kernel_rfl) (by simp) (AllReadyH.cons rfl (fun K hK => ?_) AllReadyH.nil); rotate_left 1
      refine wpAnyH_ready (rs := [6]) (by kernel_rfl) (by simp) (AllReadyH.cons rfl (fun K hK => ?_) AllReadyH.nil); rotate_left 1
      refine wpAnyH_ready (rs := [7]) (by kernel_rfl) (by simp) (AllReadyH.cons rfl (fun K hK => ?_) AllReadyH.nil); rotate_left 1
      refine wpAnyH_ready (rs := [5]) (by kernel_rfl) (by simp) (AllReadyH.cons rfl (fun K hK => ?_) AllReadyH.nil); rotate_left 1
      refine wpAnyH_ready (rs := [6]) (by kernel_rfl) (by simp) (AllReadyH.cons rfl (fun K hK => ?_) AllReadyH.nil); rotate_left 1
      refine wpAnyH_ready (rs := [5]) (by kernel_rfl) (by simp) (AllReadyH.cons rfl (fun K hK => ?_) AllReadyH.nil); rotate_left 1
      refine wpAnyH_ready (rs := [8]) (by kernel_rfl) (by simp) (AllReadyH.cons rfl (fun K hK => ?_) AllReadyH.nil); rotate_left 1
      refine wpAnyH_ready (rs := [7]) (by kernel_rfl) (by simp) (AllReadyH.cons rfl (fun K hK => ?_) AllReadyH.nil); rotate_left 1
      refine wpAnyH_ready (rs := [8]) (by kernel_rfl) (by simp) (AllReadyH.cons rfl (fun K hK => ?_) AllReadyH.nil); rotate_left 1
      refine wpAnyH_ready (rs := [5]) (by kernel_rfl) (by simp) (AllReadyH.cons rfl (fun K hK => ?_) AllReadyH.nil); rotate_left 1
      refine wpAnyH_ready (rs := [7]) (by kernel_rfl) (by simp) (AllReadyH.cons rfl (fun K hK => ?_) AllReadyH.nil); rotate_left 1
      refine wpAnyH_ready (rs := [5]) (by kernel_rfl) (by simp) (AllReadyH.cons rfl (fun K hK => ?_) AllReadyH.nil); rotate_left 1
      refine wpAnyH_ready (rs := [8]) (by kernel_rfl) (by simp) (AllReadyH.cons rfl (fun K hK => ?_) AllReadyH.nil); rotate_left 1
      refine wpAnyH_ready (rs := [5]) (by kernel_rfl) (by simp) (AllReadyH.cons rfl (fun K hK => ?_) AllReadyH.nil); rotate_left 1
      refine wpAnyH_ready (rs := [5]) (by kernel_rfl) (by simp) (AllReadyH.cons rfl (fun K hK => ?_) AllReadyH.nil); rotate_left 1
      refine wpAnyH_ready (rs := [7]) (by kernel_rfl) (by simp) (AllReadyH.cons rfl (fun K hK => ?_) AllReadyH.nil); rotate_left 1
      refine wpAnyH_ready (rs := [5]) (by kernel_rfl) (by simp) (AllReadyH.cons rfl (fun K hK => ?_) AllReadyH.nil); rotate_left 1
      refine wpAnyH_ready (rs := [5]) (by kernel_rfl) (by simp) (AllReadyH.cons rfl (fun K hK => ?_) AllReadyH.nil); rotate_left 1
      refine wpAnyH_ready (rs := [8]) (by kernel_rfl) (by simp) (AllReadyH.cons rfl (fun K hK => ?_) AllReadyH.nil); rotate_left 1
      refine wpAnyH_ready (rs := [6]) (by kernel_rfl) (by simp) (AllReadyH.cons rfl (fun K hK => ?_) AllReadyH.nil); rotate_left 1
      refine wpAnyH_ready (rs := [8]) (by kernel_rfl) (by simp) (AllReadyH.cons rfl (fun K hK => ?_) AllReadyH.nil); rotate_left 1
      refine wpAnyH_ready (rs := [5]) (by kernel_rfl) (by simp) (AllReadyH.cons rfl (fun K hK => ?_) AllReadyH.nil); rotate_left 1
      refine wpAnyH_ready (rs := [6]) (by kernel_rfl) (by simp) (AllReadyH.cons rfl (fun K hK => ?_) AllReadyH.nil); rotate_left 1
      refine wpAnyH_ready (rs := [5]) (by kernel_rfl) (by simp) (AllReadyH.cons rfl (fun K hK => ?_) AllReadyH.nil); rotate_left 1
      refine wpAnyH_ready (rs := [8]) (by kernel_rfl) (by simp) (AllReadyH.cons rfl (fun K hK => ?_) AllReadyH.nil); rotate_left 1
      refine wpAnyH_ready (rs := [5]) (by kernel_rfl) (by simp) (AllReadyH.cons rfl (fun K hK => ?_) AllReadyH.nil); rotate_left 1
      refine wpAnyH_ready (rs := [5]) (by kernel_rfl) (by simp) (AllReadyH.cons rfl (fun K hK => ?_) AllReadyH.nil); rotate_left 1
      refine wpAnyH_ready (rs := [6]) (by kernel_rfl) (by simp) (AllReadyH.cons rfl (fun K hK => ?_) AllReadyH.nil); rotate_left 1
      refine wpAnyH_ready (rs := [5]) (by kernel_rfl) (by simp) (AllReadyH.cons rfl (fun K hK => ?_) AllReadyH.nil); rotate_left 1
      refine wpAnyH_ready (rs := [5]) (by kernel_rfl) (by simp) (AllReadyH.cons rfl (fun K hK => ?_) AllReadyH.nil); rotate_left 1
      refine wpAnyH_ready (rs := [7]) (by kernel_rfl) (by simp) (AllReadyH.cons rfl (fun K hK => ?_) AllReadyH.nil); rotate_left 1
      refine wpAnyH_ready (rs := [6]) (by kernel_rfl) (by simp) (AllReadyH.cons rfl (fun K hK => ?_) AllReadyH.nil); rotate_left 1
      refine wpAnyH_ready (rs := [7]) (by kernel_rfl) (by simp) (AllReadyH.cons rfl (fun K hK => ?_) AllReadyH.nil); rotate_left 1
      refine wpAnyH_ready (rs := [5]) (by kernel_rfl) (by simp) (AllReadyH.cons rfl (fun K hK => ?_) AllReadyH.nil); rotate_left 1
      refine wpAnyH_ready (rs := [6]) (by kernel_rfl) (by simp) (AllReadyH.cons rfl (fun K hK => ?_) AllReadyH.nil); rotate_left 1
      refine wpAnyH_ready (rs := [5]) (by kernel_rfl) (by simp) (AllReadyH.cons rfl (fun K hK => ?_) AllReadyH.nil); rotate_left 1
      refine wpAnyH_ready (rs := [7]) (by kernel_rfl) (by simp) (AllReadyH.cons rfl (fun K hK => ?_) AllReadyH.nil); rotate_left 1
      refine wpAnyH_ready (rs := [5]) (by kernel_rfl) (by simp) (AllReadyH.cons rfl (fun K hK => ?_) AllReadyH.nil); rotate_left 1
      refine wpAnyH_ready (rs := [5]) (by kernel_rfl) (by simp) (AllReadyH.cons rfl (fun K hK => ?_) AllReadyH.nil); rotate_left 1
      refine wpAnyH_ready (rs := [6]) (by kernel_rfl) (by simp) (AllReadyH.cons rfl (fun K hK => ?_) AllReadyH.nil); rotate_left 1
      refine wpAnyH_ready (rs := [5]) (by kernel_rfl) (by simp) (AllReadyH.cons rfl (fun K hK => ?_) AllReadyH.nil); rotate_left 1
      refine wpAnyH_ready (rs := [5]) (by kernel_rfl) (by simp) (AllReadyH.cons rfl (fun K hK => ?_) AllReadyH.nil); rotate_left 1
      refine wpAnyH_ready (rs := [8]) (by kernel_rfl) (by simp) (AllReadyH.cons rfl (fun K hK => ?_) AllReadyH.nil); rotate_left 1
      refine wpAnyH_ready (rs := [7]) (by kernel_rfl) (by simp) (AllReadyH.cons rfl (fun K hK => ?_) AllReadyH.nil); rotate_left 1
      refine wpAnyH_ready (rs := [8]) (by kernel_rfl) (by simp) (AllReadyH.cons rfl (fun K hK => ?_) AllReadyH.nil); rotate_left 1
      refine wpAnyH_ready (rs := [5]) (by kernel_rfl) (by simp) (AllReadyH.cons rfl (fun K hK => ?_) AllReadyH.nil); rotate_left 1
      refine wpAnyH_ready (rs := [7]) (by kernel_rfl) (by simp) (AllReadyH.cons rfl (fun K hK => ?_) AllReadyH.nil); rotate_left 1
      refine wpAnyH_ready (rs := [5]) (by kernel_rfl) (by simp) (AllReadyH.cons rfl (fun K hK => ?_) AllReadyH.nil); rotate_left 1
      refine wpAnyH_ready (rs := [8]) (by kernel_rfl) (by simp) (AllReadyH.cons rfl (fun K hK => ?_) AllReadyH.nil); rotate_left 1
      refine wpAnyH_ready (rs := [5]) (by kernel_rfl) (by simp) (AllReadyH.cons rfl (fun K hK => ?_) AllReadyH.nil); rotate_left 1
      refine wpAnyH_ready (rs := [5]) (by kernel_rfl) (by simp) (AllReadyH.cons rfl (fun K hK => ?_) AllReadyH.nil); rotate_left 1
      refine wpAnyH_ready (rs := [7]) (by kernel_rfl) (by simp) (AllReadyH.cons rfl (fun K hK => ?_) AllReadyH.nil); rotate_left 1
      refine wpAnyH_ready (rs := [5]) (by kernel_rfl) (by simp) (AllReadyH.cons rfl (fun K hK => ?_) AllReadyH.nil); rotate_left 1
      refine wpAnyH_ready (rs := [5]) (by kernel_rfl) (by simp) (AllReadyH.cons rfl (fun K hK => ?_) AllReadyH.nil); rotate_left 1
      refine wpAnyH_ready (rs := [8]) (by kernel_rfl) (by simp) (AllReadyH.cons rfl (fun K hK => ?_) AllReadyH.nil); rotate_left 1
      refine wpAnyH_ready (rs := [5]) (by kernel_rfl) (by simp) (AllReadyH.cons rfl (fun K hK => ?_) AllReadyH.nil); rotate_left 1
      refine wpAnyH_ready (rs := [5]) (by kernel_rfl) (by simp) (AllReadyH.cons rfl (fun K hK => ?_) AllReadyH.nil); rotate_left 1
      refine wpAnyH_ready (rs := [5]) (by kernel_rfl) (by simp) (AllReadyH.cons rfl (fun K hK => ?_) AllReadyH.nil); rotate_left 1
      refine wpAnyH_ready (rs := [7]) (by kernel_rfl) (by simp) (AllReadyH.cons rfl (fun K hK => ?_) AllReadyH.nil); rotate_left 1
      refine wpAnyH_ready (rs := [5]) (by kernel_rfl) (by simp) (AllReadyH.cons rfl (fun K hK => ?_) AllReadyH.nil); rotate_left 1
      refine wpAnyH_ready (rs := [5]) (by kernel_rfl) (by simp) (AllReadyH.cons rfl (fun K hK => ?_) AllReadyH.nil); rotate_left 1
      refine wpAnyH_ready (rs := [5]) (by kernel_rfl) (by simp) (AllReadyH.cons rfl (fun K hK => ?_) AllReadyH.nil); rotate_left 1
      refine wpAnyH_ready (rs := [8]) (by kernel_rfl) (by simp) (AllReadyH.cons rfl (fun K hK => ?_) AllReadyH.nil); rotate_left 1
      refine wpAnyH_ready (rs := [6]) (by kernel_rfl) (by simp) (AllReadyH.cons rfl (fun K hK => ?_) AllReadyH.nil); rotate_left 1
      refine wpAnyH_ready (rs := [8]) (by kernel_rfl) (by simp) (AllReadyH.cons rfl (fun K hK => ?_) AllReadyH.nil); rotate_left 1
      refine wpAnyH_ready (rs := [5]) (by kernel_rfl) (by simp) (AllReadyH.cons rfl (fun K hK => ?_) AllReadyH.nil); rotate_left 1
      refine wpAnyH_ready (rs := [6]) (by kernel_rfl) (by simp) (AllReadyH.cons rfl (fun K hK => ?_) AllReadyH.nil); rotate_left 1
      refine wpAnyH_ready (rs := [5]) (by kernel_rfl) (by simp) (AllReadyH.cons rfl (fun K hK => ?_) AllReadyH.nil); rotate_left 1
      refine wpAnyH_ready (rs := [8]) (by kernel_rfl) (by simp) (AllReadyH.cons rfl (fun K hK => ?_) AllReadyH.nil); rotate_left 1
      refine wpAnyH_ready (rs := [5]) (by kernel_rfl) (by simp) (AllReadyH.cons rfl (fun K hK => ?_) AllReadyH.nil); rotate_left 1
      refine wpAnyH_ready (rs := [5]) (by kernel_rfl) (by simp) (AllReadyH.cons rfl (fun K hK => ?_) AllReadyH.nil); rotate_left 1
      refine wpAnyH_ready (rs := [6]) (by kernel_rfl) (by simp) (AllReadyH.cons rfl (fun K hK => ?_) AllReadyH.nil); rotate_left 1
      refine wpAnyH_ready (rs := [5]) (by kernel_rfl) (by simp) (AllReadyH.cons rfl (fun K hK => ?_) AllReadyH.nil); rotate_left 1
      refine wpAnyH_ready (rs := [5]) (by kernel_rfl) (by simp) (AllReadyH.cons rfl (fun K hK => ?_) AllReadyH.nil); rotate_left 1
      refine wpAnyH_ready (rs := [8]) (by kernel_rfl) (by simp) (AllReadyH.cons rfl (fun K hK => ?_) AllReadyH.nil); rotate_left 1
      refine wpAnyH_ready (rs := [5]) (by kernel_rfl) (by simp) (AllReadyH.cons rfl (fun K hK => ?_) AllReadyH.nil); rotate_left 1
      refine wpAnyH_ready (rs := [5]) (by kernel_rfl) (by simp) (AllReadyH.cons rfl (fun K hK => ?_) AllReadyH.nil); rotate_left 1
      refine wpAnyH_ready (rs := [5]) (by kernel_rfl) (by simp) (AllReadyH.cons rfl (fun K hK => ?_) AllReadyH.nil); rotate_left 1
      refine wpAnyH_ready (rs := [6]) (by kernel_rfl) (by simp) (AllReadyH.cons rfl (fun K hK => ?_) AllReadyH.nil); rotate_left 1
      refine wpAnyH_ready (rs := [5]) (by kernel_rfl) (by simp) (AllReadyH.cons rfl (fun K hK => ?_) AllReadyH.nil); rotate_left 1
      refine wpAnyH_ready (rs := [5]) (by kernel_rfl) (by simp) (AllReadyH.cons rfl (fun K hK => ?_) AllReadyH.nil); rotate_left 1
      refine wpAnyH_ready (rs := [5]) (by kernel_rfl) (by simp) (AllReadyH.cons rfl (fun K hK => ?_) AllReadyH.nil); rotate_left 1
      refine wpAnyH_ready (rs := [7]) (by kernel_rfl) (by simp) (AllReadyH.cons rfl (fun K hK => ?_) AllReadyH.nil); rotate_left 1
      refine wpAnyH_ready (rs := [6]) (by kernel_rfl) (by simp) (AllReadyH.cons rfl (fun K hK => ?_) AllReadyH.nil); rotate_left 1
      refine wpAnyH_ready (rs := [7]) (by kernel_rfl) (by simp) (AllReadyH.cons rfl (fun K hK => ?_) AllReadyH.nil); rotate_left 1
      refine wpAnyH_ready (rs := [5]) (by kernel_rfl) (by simp) (AllReadyH.cons rfl (fun K hK => ?_) AllReadyH.nil); rotate_left 1
      refine wpAnyH_ready (rs := [6]) (by kernel_rfl) (by simp) (AllReadyH.cons rfl (fun K hK => ?_) AllReadyH.nil); rotate_left 1
      refine wpAnyH_ready (rs := [5]) (by kernel_rfl) (by simp) (AllReadyH.cons rfl (fun K hK => ?_) AllReadyH.nil); rotate_left 1
      refine wpAnyH_ready (rs := [7]) (by kernel_rfl) (by simp) (AllReadyH.cons rfl (fun K hK => ?_) AllReadyH.nil); rotate_left 1
      refine wpAnyH_ready (rs := [5]) (by kernel_rfl) (by simp) (AllReadyH.cons rfl (fun K hK => ?_) AllReadyH.nil); rotate_left 1
      refine wpAnyH_ready (rs := [5]) (by kernel_rfl) (by simp) (AllReadyH.cons rfl (fun K hK => ?_) AllReadyH.nil); rotate_left 1
      refine wpAnyH_ready (rs := [6]) (by kernel_rfl) (by simp) (AllReadyH.cons rfl (fun K hK => ?_) AllReadyH.nil); rotate_left 1
      refine wpAnyH_ready (rs := [5]) (by kernel_rfl) (by simp) (AllReadyH.cons rfl (fun K hK => ?_) AllReadyH.nil); rotate_left 1
      refine wpAnyH_ready (rs := [5]) (by kernel_rfl) (by simp) (AllReadyH.cons rfl (fun K hK => ?_) AllReadyH.nil); rotate_left 1
      refine wpAnyH_ready (rs := [7]) (by kernel_rfl) (by simp) (AllReadyH.cons rfl (fun K hK => ?_) AllReadyH.nil); rotate_left 1
      refine wpAnyH_ready (rs := [5]) (by kernel_rfl) (by simp) (AllReadyH.cons rfl (fun K hK => ?_) AllReadyH.nil); rotate_left 1
      refine wpAnyH_ready (rs := [5]) (by kernel_rfl) (by simp) (AllReadyH.cons rfl (fun K hK => ?_) AllReadyH.nil); rotate_left 1
      refine wpAnyH_ready (rs := [5]) (by kernel_rfl) (by simp) (AllReadyH.cons rfl (fun K hK => ?_) AllReadyH.nil); rotate_left 1
      refine wpAnyH_ready (rs := [6]) (by kernel_rfl) (by simp) (AllReadyH.cons rfl (fun K hK => ?_) AllReadyH.nil); rotate_left 1
      refine wpAnyH_ready (rs := [5]) (by kernel_rfl) (by simp) (AllReadyH.cons rfl (fun K hK => ?_) AllReadyH.nil); rotate_left 1
      refine wpAnyH_ready (rs := [5]) (by kernel_rfl) (by simp) (AllReadyH.cons rfl (fun K hK => ?_) AllReadyH.nil); rotate_left 1
      refine wpAnyH_ready (rs := [5]) (by kernel_rfl) (by simp) (AllReadyH.cons rfl (fun K hK => ?_) AllReadyH.nil); rotate_left 1
      all_goals
        simp only [List.getElem_toArray, List.getElem_cons_succ, List.getElem_cons_zero]
        go_simp
        first
        | ((with_reducible refine (HM1.out _ bb).mono ?_); rintro e U ⟨m1, l1, B1, d1, rfl, i1, ee⟩; replace bb := bb.trans (ee.mono bb.size); (try replace i1 := i1.below ee); (try replace i2 := i2.below ee); (try replace i3 := i3.below ee); (try replace kA := Below.box ee kA); (try replace kB := Below.box ee kB); (try replace kC := Below.box ee kC); refine hK.out _ _ bb (fun hS0 => ?_); clear hK K ee)
        | ((with_reducible refine (HM2.out _ bb).mono ?_); rintro e U ⟨m2, l2, B2, d2, rfl, i2, ee⟩; replace bb := bb.trans (ee.mono bb.size); (try replace i1 := i1.below ee); (try replace i2 := i2.below ee); (try replace i3 := i3.below ee); (try replace kA := Below.box ee kA); (try replace kB := Below.box ee kB); (try replace kC := Below.box ee kC); refine hK.out _ _ bb (fun hS0 => ?_); clear hK K ee)
        | ((with_reducible refine (HM3.out _ bb).mono ?_); rintro e U ⟨m3, l3, B3, d3, rfl, i3, ee⟩; replace bb := bb.trans (ee.mono bb.size); (try replace i1 := i1.below ee); (try replace i2 := i2.below ee); (try replace i3 := i3.below ee); (try replace kA := Below.box ee kA); (try replace kB := Below.box ee kB); (try replace kC := Below.box ee kC); refine hK.out _ _ bb (fun hS0 => ?_); clear hK K ee)
        | (have hAC := Nat.ne_of_lt (Array.getElem?_eq_some_iff.1 kA).1; have hBC := Nat.ne_of_lt (Array.getElem?_eq_some_iff.1 kB).1; have lC := bb.size; obtain ⟨U, hU, kC, zz, ee⟩ := one _ (Obj.cells #[Value.bool false, Value.slice none 0 0] 65); rw [← hU]; clear hU zz; replace bb := bb.trans (ee.mono bb.size); (try replace i1 := i1.below ee); (try replace i2 := i2.below ee); (try replace i3 := i3.below ee); (try replace kA := Below.box ee kA); (try replace kB := Below.box ee kB); (try replace kC := Below.box ee kC); refine hK.out _ _ bb (fun hS0 => ?_); clear hK K ee)
        | (have hAB := Nat.ne_of_lt (Array.getElem?_eq_some_iff.1 kA).1; have lB := bb.size; obtain ⟨U, hU, kB, zz, ee⟩ := one _ (Obj.cells #[Value.bool false, Value.slice none 0 0] 65); rw [← hU]; clear hU zz; replace bb := bb.trans (ee.mono bb.size); (try replace i1 := i1.below ee); (try replace i2 := i2.below ee); (try replace i3 := i3.below ee); (try replace kA := Below.box ee kA); (try replace kB := Below.box ee kB); (try replace kC := Below.box ee kC); refine hK.out _ _ bb (fun hS0 => ?_); clear hK K ee)
        | (have lA := bb.size; obtain ⟨U, hU, kA, zz, ee⟩ := one _ (Obj.cells #[Value.bool false, Value.slice none 0 0] 65); rw [← hU]; clear hU zz; replace bb := bb.trans (ee.mono bb.size); (try replace i1 := i1.below ee); (try replace i2 := i2.below ee); (try replace i3 := i3.below ee); (try replace kA := Below.box ee kA); (try replace kB := Below.box ee kB); (try replace kC := Below.box ee kC); refine hK.out _ _ bb (fun hS0 => ?_); clear hK K ee)
      all_goals
        obtain ⟨ra0, ra1, ra2, ra3⟩ := box2 kA
        obtain ⟨rb0, rb1, rb2, rb3⟩ := box2 kB
        obtain ⟨rc0, rc1, rc2, rc3⟩ := box2 kC
        refine wpAnyH_ready (rs := [9]) (by kernel_rfl) (by simp) (AllReadyH.cons rfl (fun K hK => ?_) AllReadyH.nil)
        simp only [List.getElem_toArray, List.getElem_cons_succ, List.getElem_cons_zero]
        go_simp
        clear ra0 ra1 ra2 ra3 rb0 rb1 rb2 rb3 rc0 rc1 rc2 rc3
        first
        | (obtain ⟨S, hS, kN, hne, hsz, hin, hbl⟩ := store2 m1.all B1 m1.l.length d1 kA; rw [← hS]; clear hS hsz; replace kB := (hne _ hAB.symm).trans kB; replace kC := (hne _ hAC.symm).trans kC; replace kA := kN; replace bb := bb.trans (hbl _ lA))
        | (obtain ⟨S, hS, kN, hne, hsz, hin, hbl⟩ := store2 m1.all B1 m1.l.length d1 kB; rw [← hS]; clear hS hsz; replace kA := (hne _ hAB).trans kA; replace kC := (hne _ hBC.symm).trans kC; replace kB := kN; replace bb := bb.trans (hbl _ lB))
        | (obtain ⟨S, hS, kN, hne, hsz, hin, hbl⟩ := store2 m1.all B1 m1.l.length d1 kC; rw [← hS]; clear hS hsz; replace kA := (hne _ hAC).trans kA; replace kB := (hne _ hBC).trans kB; replace kC := kN; replace bb := bb.trans (hbl _ lC))
        replace i1 := hin _ _ _ i1
        replace i2 := hin _ _ _ i2
        replace i3 := hin _ _ _ i3
        refine hK.out _ _ bb (fun hS0 => ?_)
        clear hK K hne hin hbl
        obtain ⟨ra0, ra1, ra2, ra3⟩ := box2 kA
        obtain ⟨rb0, rb1, rb2, rb3⟩ := box2 kB
        obtain ⟨rc0, rc1, rc2, rc3⟩ := box2 kC
        refine wpAnyH_ready (rs := [10]) (by kernel_rfl) (by simp) (AllReadyH.cons rfl (fun K hK => ?_) AllReadyH.nil)
        simp only [List.getElem_toArray, List.getElem_cons_succ, List.getElem_cons_zero]
        go_simp
        clear ra0 ra1 ra2 ra3 rb0 rb1 rb2 rb3 rc0 rc1 rc2 rc3
        first
        | (obtain ⟨S, hS, kN, hne, hsz, hin, hbl⟩ := store2 m2.all B2 m2.l.length d2 kA; rw [← hS]; clear hS hsz; replace kB := (hne _ hAB.symm).trans kB; replace kC := (hne _ hAC.symm).trans kC; replace kA := kN; replace bb := bb.trans (hbl _ lA))
        | (obtain ⟨S, hS, kN, hne, hsz, hin, hbl⟩ := store2 m2.all B2 m2.l.length d2 kB; rw [← hS]; clear hS hsz; replace kA := (hne _ hAB).trans kA; replace kC := (hne _ hBC.symm).trans kC; replace kB := kN; replace bb := bb.trans (hbl _ lB))
        | (obtain ⟨S, hS, kN, hne, hsz, hin, hbl⟩ := store2 m2.all B2 m2.l.length d2 kC; rw [← hS]; clear hS hsz; replace kA := (hne _ hAC).trans kA; replace kB := (hne _ hBC).trans kB; replace kC := kN; replace bb := bb.trans (hbl _ lC))
        replace i1 := hin _ _ _ i1
        replace i2 := hin _ _ _ i2
        replace i3 := hin _ _ _ i3
        refine hK.out _ _ bb (fun hS0 => ?_)
        clear hK K hne hin hbl
        obtain ⟨ra0, ra1, ra2, ra3⟩ := box2 kA
        obtain ⟨rb0, rb1, rb2, rb3⟩ := box2 kB
        obtain ⟨rc0, rc1, rc2, rc3⟩ := box2 kC
        refine wpAnyH_ready (rs := [11]) (by kernel_rfl) (by simp) (AllReadyH.cons rfl (fun K hK => ?_) AllReadyH.nil)
        simp only [List.getElem_toArray, List.getElem_cons_succ, List.getElem_cons_zero]
        go_simp
        clear ra0 ra1 ra2 ra3 rb0 rb1 rb2 rb3 rc0 rc1 rc2 rc3
        first
        | (obtain ⟨S, hS, kN, hne, hsz, hin, hbl⟩ := store2 m3.all B3 m3.l.length d3 kA; rw [← hS]; clear hS hsz; replace kB := (hne _ hAB.symm).trans kB; replace kC := (hne _ hAC.symm).trans kC; replace kA := kN; replace bb := bb.trans (hbl _ lA))
        | (obtain ⟨S, hS, kN, hne, hsz, hin, hbl⟩ := store2 m3.all B3 m3.l.length d3 kB; rw [← hS]; clear hS hsz; replace kA := (hne _ hAB).trans kA; replace kC := (hne _ hBC.symm).trans kC; replace kB := kN; replace bb := bb.trans (hbl _ lB))
        | (obtain ⟨S, hS, kN, hne, hsz, hin, hbl⟩ := store2 m3.all B3 m3.l.length d3 kC; rw [← hS]; clear hS hsz; replace kA := (hne _ hAC).trans kA; replace kB := (hne _ hBC).trans kB; replace kC := kN; replace bb := bb.trans (hbl _ lC))
        replace i1 := hin _ _ _ i1
        replace i2 := hin _ _ _ i2
        replace i3 := hin _ _ _ i3
        refine hK.out _ _ bb (fun hS0 => ?_)
        clear hK K hne hin hbl
        refine wpAnyH_done (by kernel_rfl) ?_ _
        refine NoPanic.normal ?_
        go_wp2_with fail
        go_meet
        case rel => exact ⟨m1, m2, m3, _, _, _, B1, B2, B3, d1, d2, d3, rfl, rfl, rfl, l1, l2, l3, i1, i2, i3, by assumption, by assumption, by assumption, HW2.out.trans (bb.mono hw2)⟩
  case rest =>
    obtain ⟨s1, s2, s3, g1, g2, g3, B1, B2, B3, d1, d2, d3, rfl, rfl, rfl, l1, l2, l3, i1, i2, i3, k1, k2, k3, hwx⟩ := hcut
    obtain ⟨wx, hwc⟩ : ∃ wx, wx = wc := ⟨_, rfl⟩
    rw [← hwc] at i1 i2 i3 k1 k2 k3 hwx ⊢
    clear hwc
    have hh7 := heap_alloc_new wx (Obj.cells #[Value.string ⟨#[]⟩, Value.string ⟨#[97]⟩, Value.string ⟨#[98]⟩, Value.string ⟨#[99]⟩, Value.string ⟨#[100]⟩, Value.string ⟨#[101]⟩, Value.string x] 9)
    have hb7 : Below wx.heap.size wx (wx.alloc (Obj.cells #[Value.string ⟨#[]⟩, Value.string ⟨#[97]⟩, Value.string ⟨#[98]⟩, Value.string ⟨#[99]⟩, Value.string ⟨#[100]⟩, Value.string ⟨#[101]⟩, Value.string x] 9)) := (Below.refl _ _).alloc (Nat.le_refl _) _
    have hz7 : wx.heap.size < (wx.alloc (Obj.cells #[Value.string ⟨#[]⟩, Value.string ⟨#[97]⟩, Value.string ⟨#[98]⟩, Value.string ⟨#[99]⟩, Value.string ⟨#[100]⟩, Value.string ⟨#[101]⟩, Value.string x] 9)).heap.size := by simp
    go_wp2_with fail
    obtain ⟨W4, hW4⟩ : ∃ W, W = wx.alloc (Obj.cells #[Value.string ⟨#[]⟩, Value.string ⟨#[97]⟩, Value.string ⟨#[98]⟩, Value.string ⟨#[99]⟩, Value.string ⟨#[100]⟩, Value.string ⟨#[101]⟩, Value.string x] 9) := ⟨_, rfl⟩
    rw [← hW4] at hh7 hb7 hz7 ⊢
    clear hW4
    have HY : Hid (∀ k : Nat, k < 7 → ∃ y : ByteArray, W4.cell? ⟨wx.heap.size, k, none⟩ = some (.string y)) := by
      refine Lib.hid fun k hk => ?_
      rw [cell_of_row _ _ _ _ _ _ hh7]
      match k, hk with
      | 0, _ => exact ⟨_, rfl⟩
      | 1, _ => exact ⟨_, rfl⟩
      | 2, _ => exact ⟨_, rfl⟩
      | 3, _ => exact ⟨_, rfl⟩
      | 4, _ => exact ⟨_, rfl⟩
      | 5, _ => exact ⟨_, rfl⟩
      | 6, _ => exact ⟨_, rfl⟩
    have m1 := Below.box hb7 k1
    have m2 := Below.box hb7 k2
    have m3 := Below.box hb7 k3
    have j1 := i1.below hb7
    have j2 := i2.below hb7
    have j3 := i3.below hb7
    have hw4 := Lib.hid (hwx.trans (hb7.mono hwx.size))
    have hzw : w.heap.size ≤ W4.heap.size := Nat.le_trans hwx.size (Nat.le_of_lt hz7)
    clear hh7 hb7 k1 k2 k3 i1 i2 i3 hwx HM1 HM2 HM3 HK bb
    go_loopw [13] (fun i wr => ∃ k : Nat, k ≤ 7 ∧ i = .int .i64 k ∧ Below W4.heap.size W4 wr) (fun i _ => 7 - (intOf i).toNat)
    case atStart => exact ⟨0, by omega, rfl, Below.refl _ _⟩
    case round =>
      obtain ⟨k, hk, rfl, hbr⟩ := hrel
      have hbs := hbr.size
      have q1 := Below.box hbr m1
      have q2 := Below.box hbr m2
      have q3 := Below.box hbr m3
      have n1 := j1.below hbr
      have n2' := j2.below hbr
      have n3' := j3.below hbr
      by_cases hlt : k < 7
      · obtain ⟨y, hy⟩ := HY.out k hlt
        have hy2 := (hbr.cell (p := ⟨wx.heap.size, k, none⟩) hz7).trans hy
        have hk7 : (k : Int) < 7 := by omega
        have hk0 : (0 : Int) ≤ (k : Int) := by omega
        have hxr : wx.heap.size < wr.heap.size := by omega
        have HKr := Lib.hid (fun W (hb : Below wr.heap.size wr W) => have t0 := box2 (Below.box hb q1); have t1 := box2 (Below.box hb q2); (⟨hb, t0.1, t0.2.1, t1.1, t1.2.1, (hb.cell (p := ⟨wx.heap.size, k, none⟩) hxr).trans hy2⟩ : Below wr.heap.size wr W ∧ W.cell? ⟨g1, 0, none⟩ = some (.bool s1.all) ∧ W.cell? ⟨g1, 1, none⟩ = some (.slice B1 s1.l.length d1) ∧ W.cell? ⟨g2, 0, none⟩ = some (.bool s2.all) ∧ W.cell? ⟨g2, 1, none⟩ = some (.slice B2 s2.l.length d2) ∧ W.cell? ⟨wx.heap.size, k, none⟩ = some (.string y)))
        have u0 : Below wr.heap.size wr wr.drew := (Below.refl _ _).drew
        have HA : ∀ W, Below wr.heap.size wr W → Calls Try.prog 59 #[.agg #[.bool s1.all, .slice B1 s1.l.length d1], .string y] W fun e w' => e = .returned (.bool (s1.mem y.data.toList)) ∧ Below wr.heap.size wr w' := fun W hb => (has_name s1 B1 _ d1 y W (n1.below hb) (by omega)).mono fun e w' h => ⟨h.1, hb.trans (h.2.mono hb.size)⟩
        have HB : ∀ W, Below wr.heap.size wr W → Calls Try.prog 59 #[.agg #[.bool s2.all, .slice B2 s2.l.length d2], .string y] W fun e w' => e = .returned (.bool (s2.mem y.data.toList)) ∧ Below wr.heap.size wr w' := fun W hb => (has_name s2 B2 _ d2 y W (n2'.below hb) (by omega)).mono fun e w' h => ⟨h.1, hb.trans (h.2.mono hb.size)⟩
        have H1 : Hid (∀ W, Below wr.heap.size wr W → Calls Try.prog 49 #[.agg #[.bool s1.all, .slice B1 s1.l.length d1], .agg #[.bool s2.all, .slice B2 s2.l.length d2]] W (At wr (both s1 s2))) := Lib.hid fun W hb => both_at s1 s2 B1 B2 _ d1 _ d2 (by omega) (by omega) W hb (n1.below hb) (n2'.below hb)
        have H3 : Hid (∀ W, Below wr.heap.size wr W → Calls Try.prog 51 #[.agg #[.bool s1.all, .slice B1 s1.l.length d1], .agg #[.bool s2.all, .slice B2 s2.l.length d2]] W (At wr (either s1 s2))) := Lib.hid fun W hb => either_at s1 s2 B1 B2 _ d1 _ d2 (by omega) (by omega) W hb (n1.below hb) (n2'.below hb)
        have H5 : Hid (∀ W, Below wr.heap.size wr W → Calls Try.prog 53 #[.agg #[.bool s1.all, .slice B1 s1.l.length d1]] W (At wr (nott s1))) := Lib.hid fun W hb => not_at s1 B1 _ d1 (by omega) W hb (n1.below hb)
        have hb1l : (both s1 s2).l.length ≤ 4096 := by have := both_le s1 s2; omega
        have hb2l : (either s1 s2).l.length ≤ 4096 := by have := either_le s1 s2; omega
        have hb3l : (nott s1).l.length ≤ 4096 := by have := nott_le s1; omega
        clear hlt hy hy2 q1 q2 q3 n1 n2' n3'
        cases hpa : s1.mem y.data.toList <;> cases hpb : s2.mem y.data.toList
        ·
          as_aux_lemma =>
            have HA2 := Lib.hid HA
            have HB2 := Lib.hid HB
            have H2 : Hid (∀ W E ee, Below wr.heap.size wr W → In W (both s1 s2) E (both s1 s2).l.length → Calls Try.prog 59 #[.agg #[.bool (both s1 s2).all, .slice E (both s1 s2).l.length ee], .string y] W fun e w' => e = .returned (.bool false) ∧ Below wr.heap.size wr w') := Lib.hid fun W E ee hb hi => (has_name (both s1 s2) E _ ee y W hi (by omega)).mono fun e w' h => ⟨by rw [h.1, both_mem, hpa, hpb]; rfl, hb.trans (h.2.mono hb.size)⟩
            have H4 : Hid (∀ W E ee, Below wr.heap.size wr W → In W (either s1 s2) E (either s1 s2).l.length → Calls Try.prog 59 #[.agg #[.bool (either s1 s2).all, .slice E (either s1 s2).l.length ee], .string y] W fun e w' => e = .returned (.bool false) ∧ Below wr.heap.size wr w') := Lib.hid fun W E ee hb hi => (has_name (either s1 s2) E _ ee y W hi (by omega)).mono fun e w' h => ⟨by rw [h.1, either_mem, hpa, hpb]; rfl, hb.trans (h.2.mono hb.size)⟩
            have H6 : Hid (∀ W E ee, Below wr.heap.size wr W → In W (nott s1) E (nott s1).l.length → Calls Try.prog 59 #[.agg #[.bool (nott s1).all, .slice E (nott s1).l.length ee], .string y] W fun e w' => e = .returned (.bool true) ∧ Below wr.heap.size wr w') := Lib.hid fun W E ee hb hi => (has_name (nott s1) E _ ee y W hi (by omega)).mono fun e w' h => ⟨by rw [h.1, nott_mem, hpa]; rfl, hb.trans (h.2.mono hb.size)⟩
            rw [hpa] at HA2
            rw [hpb] at HB2
            obtain ⟨t1, ht1⟩ : ∃ s, s = both s1 s2 := ⟨_, rfl⟩
            obtain ⟨t3, ht3⟩ : ∃ s, s = either s1 s2 := ⟨_, rfl⟩
            obtain ⟨t5, ht5⟩ : ∃ s, s = nott s1 := ⟨_, rfl⟩
            rw [← ht1] at H1 H2
            rw [← ht3] at H3 H4
            rw [← ht5] at H5 H6
            clear HA HB hpa hpb ht1 ht3 ht5 hb1l hb2l hb3l
            go_wp2_with fail
            go_region_held3 (fun W => Below wr.heap.size wr W ∧ W.cell? ⟨g1, 0, none⟩ = some (.bool s1.all) ∧ W.cell? ⟨g1, 1, none⟩ = some (.slice B1 s1.l.length d1) ∧ W.cell? ⟨g2, 0, none⟩ = some (.bool s2.all) ∧ W.cell? ⟨g2, 1, none⟩ = some (.slice B2 s2.l.length d2) ∧ W.cell? ⟨wx.heap.size, k, none⟩ = some (.string y))
              (first | exact HKr.out _ ub | exact HKr.out _ ua | exact HKr.out _ u0)
              (first
              | (go_at_call 59; (with_reducible refine (HA2.out _ u0).mono ?_); rintro e va ⟨rfl, ua⟩)
              | (go_at_call 59; (with_reducible refine (HB2.out _ ua).mono ?_); rintro e vb ⟨rfl, ub⟩))
            have um := ub.drew
            go_wp2_with fail
            refine wp_region_noPanic (wp_region_held_drew (S := fun W => Below wr.heap.size wr W ∧ W.cell? ⟨g1, 0, none⟩ = some (.bool s1.all) ∧ W.cell? ⟨g1, 1, none⟩ = some (.slice B1 s1.l.length d1) ∧ W.cell? ⟨g2, 0, none⟩ = some (.bool s2.all) ∧ W.cell? ⟨g2, 1, none⟩ = some (.slice B2 s2.l.length d2) ∧ W.cell? ⟨wx.heap.size, k, none⟩ = some (.string y)) (by kernel_rfl) (HKr.out _ um) (fun hS0 => ?_))
            refine wpAnyH_take (i := 0) (v := (.agg #[.bool s1.all, .slice B1 s1.l.length d1])) rfl (by kernel_rfl) (by kernel_rfl) (by kernel_rfl) (fun _ _ _ h => h) (Or.inl ⟨by rfl, ?_⟩) hS0 ?_
            · intro w' hSw
              obtain ⟨_, s0, s1', s2', s3', s4'⟩ := hSw
              go_simp
            simp only [List.getElem_toArray, List.getElem_cons_zero, Act.put, List.setIfInBounds_toArray, List.set_cons_zero, List.set_cons_succ]
            refine wpAnyH_take (i := 1) (v := (.agg #[.bool s2.all, .slice B2 s2.l.length d2])) rfl (by kernel_rfl) (by kernel_rfl) (by kernel_rfl) (fun _ _ _ h => h) (Or.inl ⟨by rfl, ?_⟩) hS0 ?_
            · intro w' hSw
              obtain ⟨_, s0, s1', s2', s3', s4'⟩ := hSw
              go_simp
            simp only [List.getElem_toArray, List.getElem_cons_succ, List.getElem_cons_zero, Act.put, List.setIfInBounds_toArray, List.set_cons_zero, List.set_cons_succ]
            refine wpAnyH_take (i := 3) (v := .slice (some ⟨wx.heap.size, 0, none⟩) 7 7) rfl (by kernel_rfl) (by kernel_rfl) (by kernel_rfl) (fun _ _ _ h => h) (Or.inl ⟨by rfl, ?_⟩) hS0 ?_
            · intro w' hSw
              obtain ⟨_, s0, s1', s2', s3', s4'⟩ := hSw
              go_simp
            simp only [List.getElem_toArray, List.getElem_cons_succ, List.getElem_cons_zero, Act.put, List.setIfInBounds_toArray, List.set_cons_zero, List.set_cons_succ]
            refine wpAnyH_take (i := 4) (v := .int .i64 k) rfl (by kernel_rfl) (by kernel_rfl) (by kernel_rfl) (fun _ _ _ h => h) (Or.inl ⟨by rfl, ?_⟩) hS0 ?_
            · intro w' hSw
              obtain ⟨_, s0, s1', s2', s3', s4'⟩ := hSw
              go_simp
            simp only [List.getElem_toArray, List.getElem_cons_succ, List.getElem_cons_zero, Act.put, List.setIfInBounds_toArray, List.set_cons_zero, List.set_cons_succ]
            refine wpAnyH_take (i := 5) (v := .pointer (some ⟨wx.heap.size, k, none⟩)) rfl (by kernel_rfl) (by kernel_rfl) (by kernel_rfl) (fun _ _ _ h => h) (Or.inl ⟨by rfl, ?_⟩) hS0 ?_
            · intro w' hSw
              obtain ⟨_, s0, s1', s2', s3', s4'⟩ := hSw
              go_simp
            simp only [List.getElem_toArray, List.getElem_cons_succ, List.getElem_cons_zero, Act.put, List.setIfInBounds_toArray, List.set_cons_zero, List.set_cons_succ]
            refine wpAnyH_take (i := 6) (v := .string y) rfl (by kernel_rfl) (by kernel_rfl) (by kernel_rfl) (fun _ _ _ h => h) (Or.inl ⟨by rfl, ?_⟩) hS0 ?_
            · intro w' hSw
              obtain ⟨_, s0, s1', s2', s3', s4'⟩ := hSw
              go_simp
            simp only [List.getElem_toArray, List.getElem_cons_succ, List.getElem_cons_zero, Act.put, List.setIfInBounds_toArray, List.set_cons_zero, List.set_cons_succ]
            refine wpAnyH_take (i := 8) (v := .bool false) rfl (by kernel_rfl) (by kernel_rfl) (by kernel_rfl) (fun _ _ _ h => h) (Or.inl ⟨by rfl, ?_⟩) hS0 ?_
            · intro w' hSw
              obtain ⟨_, s0, s1', s2', s3', s4'⟩ := hSw
              go_simp
            simp only [List.getElem_toArray, List.getElem_cons_succ, List.getElem_cons_zero, Act.put, List.setIfInBounds_toArray, List.set_cons_zero, List.set_cons_succ]
            refine wpAnyH_ready (rs := [2]) (by kernel_rfl) (by simp) (AllReadyH.cons rfl (fun K hK => ?_) AllReadyH.nil)
            simp only [List.getElem_toArray, List.getElem_cons_succ, List.getElem_cons_zero]
            go_simp
            refine (H1.out _ um).mono ?_
            rintro e v1 ⟨E1, ee1, rfl, j1, u1⟩
            refine hK.out _ _ (HKr.out _ u1) (fun hS0 => ?_)
            clear hK K
            refine wpAnyH_ready (rs := [7]) (by kernel_rfl) (by simp) (AllReadyH.cons rfl (fun K hK => ?_) AllReadyH.nil)
            simp only [List.getElem_toArray, List.getElem_cons_succ, List.getElem_cons_zero]
            go_simp
            refine (H2.out _ _ _ u1 j1).mono ?_
            rintro e v2 ⟨rfl, u2⟩
            refine hK.out _ _ (HKr.out _ u2) (fun hS0 => ?_)
            clear hK K
            refine wpAnyH_take (i := 9) (v := .bool false) rfl (by kernel_rfl) (by kernel_rfl) (by kernel_rfl) (fun _ _ _ h => h) (Or.inl ⟨by rfl, ?_⟩) hS0 ?_
            · intro w' hSw
              obtain ⟨_, s0, s1', s2', s3', s4'⟩ := hSw
              go_simp
            simp only [List.getElem_toArray, List.getElem_cons_succ, List.getElem_cons_zero, Act.put, List.setIfInBounds_toArray, List.set_cons_zero, List.set_cons_succ]
            refine wpAnyH_take (i := 10) (v := undef) rfl (by kernel_rfl) (by kernel_rfl) (by kernel_rfl) (fun _ _ _ h => h) (Or.inr ⟨by rfl, rfl⟩) hS0 ?_
            simp only [List.getElem_toArray, List.getElem_cons_succ, List.getElem_cons_zero, Act.put, List.setIfInBounds_toArray, List.set_cons_zero, List.set_cons_succ]
            refine wpAnyH_take (i := 11) (v := .bool false) rfl (by kernel_rfl) (by kernel_rfl) (by kernel_rfl) (fun _ _ _ h => h) (Or.inl ⟨by rfl, ?_⟩) hS0 ?_
            · intro w' hSw
              obtain ⟨_, s0, s1', s2', s3', s4'⟩ := hSw
              go_simp
            simp only [List.getElem_toArray, List.getElem_cons_succ, List.getElem_cons_zero, Act.put, List.setIfInBounds_toArray, List.set_cons_zero, List.set_cons_succ]
            refine wpAnyH_take (i := 12) (v := .bool false) rfl (by kernel_rfl) (by kernel_rfl) (by kernel_rfl) (fun _ _ _ h => h) (Or.inl ⟨by rfl, ?_⟩) hS0 ?_
            · intro w' hSw
              obtain ⟨_, s0, s1', s2', s3', s4'⟩ := hSw
              go_simp
            simp only [List.getElem_toArray, List.getElem_cons_succ, List.getElem_cons_zero, Act.put, List.setIfInBounds_toArray, List.set_cons_zero, List.set_cons_succ]
            refine wpAnyH_take (i := 13) (v := .bool false) rfl (by kernel_rfl) (by kernel_rfl) (by kernel_rfl) (fun _ _ _ h => h) (Or.inl ⟨by rfl, ?_⟩) hS0 ?_
            · intro w' hSw
              obtain ⟨_, s0, s1', s2', s3', s4'⟩ := hSw
              go_simp
            simp only [List.getElem_toArray, List.getElem_cons_succ, List.getElem_cons_zero, Act.put, List.setIfInBounds_toArray, List.set_cons_zero, List.set_cons_succ]
            refine wpAnyH_take (i := 14) (v := (.agg #[.bool s1.all, .slice B1 s1.l.length d1])) rfl (by kernel_rfl) (by kernel_rfl) (by kernel_rfl) (fun _ _ _ h => h) (Or.inl ⟨by rfl, ?_⟩) hS0 ?_
            · intro w' hSw
              obtain ⟨_, s0, s1', s2', s3', s4'⟩ := hSw
              go_simp
            simp only [List.getElem_toArray, List.getElem_cons_succ, List.getElem_cons_zero, Act.put, List.setIfInBounds_toArray, List.set_cons_zero, List.set_cons_succ]
            refine wpAnyH_take (i := 15) (v := (.agg #[.bool s2.all, .slice B2 s2.l.length d2])) rfl (by kernel_rfl) (by kernel_rfl) (by kernel_rfl) (fun _ _ _ h => h) (Or.inl ⟨by rfl, ?_⟩) hS0 ?_
            · intro w' hSw
              obtain ⟨_, s0, s1', s2', s3', s4'⟩ := hSw
              go_simp
            simp only [List.getElem_toArray, List.getElem_cons_succ, List.getElem_cons_zero, Act.put, List.setIfInBounds_toArray, List.set_cons_zero, List.set_cons_succ]
            refine wpAnyH_take (i := 17) (v := .slice (some ⟨wx.heap.size, 0, none⟩) 7 7) rfl (by kernel_rfl) (by kernel_rfl) (by kernel_rfl) (fun _ _ _ h => h) (Or.inl ⟨by rfl, ?_⟩) hS0 ?_
            · intro w' hSw
              obtain ⟨_, s0, s1', s2', s3', s4'⟩ := hSw
              go_simp
            simp only [List.getElem_toArray, List.getElem_cons_succ, List.getElem_cons_zero, Act.put, List.setIfInBounds_toArray, List.set_cons_zero, List.set_cons_succ]
            refine wpAnyH_take (i := 18) (v := .int .i64 k) rfl (by kernel_rfl) (by kernel_rfl) (by kernel_rfl) (fun _ _ _ h => h) (Or.inl ⟨by rfl, ?_⟩) hS0 ?_
            · intro w' hSw
              obtain ⟨_, s0, s1', s2', s3', s4'⟩ := hSw
              go_simp
            simp only [List.getElem_toArray, List.getElem_cons_succ, List.getElem_cons_zero, Act.put, List.setIfInBounds_toArray, List.set_cons_zero, List.set_cons_succ]
            refine wpAnyH_take (i := 19) (v := .pointer (some ⟨wx.heap.size, k, none⟩)) rfl (by kernel_rfl) (by kernel_rfl) (by kernel_rfl) (fun _ _ _ h => h) (Or.inl ⟨by rfl, ?_⟩) hS0 ?_
            · intro w' hSw
              obtain ⟨_, s0, s1', s2', s3', s4'⟩ := hSw
              go_simp
            simp only [List.getElem_toArray, List.getElem_cons_succ, List.getElem_cons_zero, Act.put, List.setIfInBounds_toArray, List.set_cons_zero, List.set_cons_succ]
            refine wpAnyH_take (i := 20) (v := .string y) rfl (by kernel_rfl) (by kernel_rfl) (by kernel_rfl) (fun _ _ _ h => h) (Or.inl ⟨by rfl, ?_⟩) hS0 ?_
            · intro w' hSw
              obtain ⟨_, s0, s1', s2', s3', s4'⟩ := hSw
              go_simp
            simp only [List.getElem_toArray, List.getElem_cons_succ, List.getElem_cons_zero, Act.put, List.setIfInBounds_toArray, List.set_cons_zero, List.set_cons_succ]
            refine wpAnyH_take (i := 22) (v := .bool false) rfl (by kernel_rfl) (by kernel_rfl) (by kernel_rfl) (fun _ _ _ h => h) (Or.inl ⟨by rfl, ?_⟩) hS0 ?_
            · intro w' hSw
              obtain ⟨_, s0, s1', s2', s3', s4'⟩ := hSw
              go_simp
            simp only [List.getElem_toArray, List.getElem_cons_succ, List.getElem_cons_zero, Act.put, List.setIfInBounds_toArray, List.set_cons_zero, List.set_cons_succ]
            refine wpAnyH_ready (rs := [16]) (by kernel_rfl) (by simp) (AllReadyH.cons rfl (fun K hK => ?_) AllReadyH.nil)
            simp only [List.getElem_toArray, List.getElem_cons_succ, List.getElem_cons_zero]
            go_simp
            refine (H3.out _ u2).mono ?_
            rintro e v3 ⟨E3, ee3, rfl, j3, u3⟩
            refine hK.out _ _ (HKr.out _ u3) (fun hS0 => ?_)
            clear hK K
            refine wpAnyH_ready (rs := [21]) (by kernel_rfl) (by simp) (AllReadyH.cons rfl (fun K hK => ?_) AllReadyH.nil)
            simp only [List.getElem_toArray, List.getElem_cons_succ, List.getElem_cons_zero]
            go_simp
            refine (H4.out _ _ _ u3 j3).mono ?_
            rintro e v4 ⟨rfl, u4⟩
            refine hK.out _ _ (HKr.out _ u4) (fun hS0 => ?_)
            clear hK K
            refine wpAnyH_take (i := 23) (v := .bool false) rfl (by kernel_rfl) (by kernel_rfl) (by kernel_rfl) (fun _ _ _ h => h) (Or.inl ⟨by rfl, ?_⟩) hS0 ?_
            · intro w' hSw
              obtain ⟨_, s0, s1', s2', s3', s4'⟩ := hSw
              go_simp
            simp only [List.getElem_toArray, List.getElem_cons_succ, List.getElem_cons_zero, Act.put, List.setIfInBounds_toArray, List.set_cons_zero, List.set_cons_succ]
            refine wpAnyH_take (i := 24) (v := .bool false) rfl (by kernel_rfl) (by kernel_rfl) (by kernel_rfl) (fun _ _ _ h => h) (Or.inl ⟨by rfl, ?_⟩) hS0 ?_
            · intro w' hSw
              obtain ⟨_, s0, s1', s2', s3', s4'⟩ := hSw
              go_simp
            simp only [List.getElem_toArray, List.getElem_cons_succ, List.getElem_cons_zero, Act.put, List.setIfInBounds_toArray, List.set_cons_zero, List.set_cons_succ]
            refine wpAnyH_take (i := 25) (v := .bool false) rfl (by kernel_rfl) (by kernel_rfl) (by kernel_rfl) (fun _ _ _ h => h) (Or.inl ⟨by rfl, ?_⟩) hS0 ?_
            · intro w' hSw
              obtain ⟨_, s0, s1', s2', s3', s4'⟩ := hSw
              go_simp
            simp only [List.getElem_toArray, List.getElem_cons_succ, List.getElem_cons_zero, Act.put, List.setIfInBounds_toArray, List.set_cons_zero, List.set_cons_succ]
            refine wpAnyH_take (i := 26) (v := .bool false) rfl (by kernel_rfl) (by kernel_rfl) (by kernel_rfl) (fun _ _ _ h => h) (Or.inl ⟨by rfl, ?_⟩) hS0 ?_
            · intro w' hSw
              obtain ⟨_, s0, s1', s2', s3', s4'⟩ := hSw
              go_simp
            simp only [List.getElem_toArray, List.getElem_cons_succ, List.getElem_cons_zero, Act.put, List.setIfInBounds_toArray, List.set_cons_zero, List.set_cons_succ]
            refine wpAnyH_take (i := 27) (v := .bool false) rfl (by kernel_rfl) (by kernel_rfl) (by kernel_rfl) (fun _ _ _ h => h) (Or.inl ⟨by rfl, ?_⟩) hS0 ?_
            · intro w' hSw
              obtain ⟨_, s0, s1', s2', s3', s4'⟩ := hSw
              go_simp
            simp only [List.getElem_toArray, List.getElem_cons_succ, List.getElem_cons_zero, Act.put, List.setIfInBounds_toArray, List.set_cons_zero, List.set_cons_succ]
            refine wpAnyH_take (i := 28) (v := .bool false) rfl (by kernel_rfl) (by kernel_rfl) (by kernel_rfl) (fun _ _ _ h => h) (Or.inl ⟨by rfl, ?_⟩) hS0 ?_
            · intro w' hSw
              obtain ⟨_, s0, s1', s2', s3', s4'⟩ := hSw
              go_simp
            simp only [List.getElem_toArray, List.getElem_cons_succ, List.getElem_cons_zero, Act.put, List.setIfInBounds_toArray, List.set_cons_zero, List.set_cons_succ]
            refine wpAnyH_take (i := 29) (v := (.agg #[.bool s1.all, .slice B1 s1.l.length d1])) rfl (by kernel_rfl) (by kernel_rfl) (by kernel_rfl) (fun _ _ _ h => h) (Or.inl ⟨by rfl, ?_⟩) hS0 ?_
            · intro w' hSw
              obtain ⟨_, s0, s1', s2', s3', s4'⟩ := hSw
              go_simp
            simp only [List.getElem_toArray, List.getElem_cons_succ, List.getElem_cons_zero, Act.put, List.setIfInBounds_toArray, List.set_cons_zero, List.set_cons_succ]
            refine wpAnyH_take (i := 31) (v := .slice (some ⟨wx.heap.size, 0, none⟩) 7 7) rfl (by kernel_rfl) (by kernel_rfl) (by kernel_rfl) (fun _ _ _ h => h) (Or.inl ⟨by rfl, ?_⟩) hS0 ?_
            · intro w' hSw
              obtain ⟨_, s0, s1', s2', s3', s4'⟩ := hSw
              go_simp
            simp only [List.getElem_toArray, List.getElem_cons_succ, List.getElem_cons_zero, Act.put, List.setIfInBounds_toArray, List.set_cons_zero, List.set_cons_succ]
            refine wpAnyH_take (i := 32) (v := .int .i64 k) rfl (by kernel_rfl) (by kernel_rfl) (by kernel_rfl) (fun _ _ _ h => h) (Or.inl ⟨by rfl, ?_⟩) hS0 ?_
            · intro w' hSw
              obtain ⟨_, s0, s1', s2', s3', s4'⟩ := hSw
              go_simp
            simp only [List.getElem_toArray, List.getElem_cons_succ, List.getElem_cons_zero, Act.put, List.setIfInBounds_toArray, List.set_cons_zero, List.set_cons_succ]
            refine wpAnyH_take (i := 33) (v := .pointer (some ⟨wx.heap.size, k, none⟩)) rfl (by kernel_rfl) (by kernel_rfl) (by kernel_rfl) (fun _ _ _ h => h) (Or.inl ⟨by rfl, ?_⟩) hS0 ?_
            · intro w' hSw
              obtain ⟨_, s0, s1', s2', s3', s4'⟩ := hSw
              go_simp
            simp only [List.getElem_toArray, List.getElem_cons_succ, List.getElem_cons_zero, Act.put, List.setIfInBounds_toArray, List.set_cons_zero, List.set_cons_succ]
            refine wpAnyH_take (i := 34) (v := .string y) rfl (by kernel_rfl) (by kernel_rfl) (by kernel_rfl) (fun _ _ _ h => h) (Or.inl ⟨by rfl, ?_⟩) hS0 ?_
            · intro w' hSw
              obtain ⟨_, s0, s1', s2', s3', s4'⟩ := hSw
              go_simp
            simp only [List.getElem_toArray, List.getElem_cons_succ, List.getElem_cons_zero, Act.put, List.setIfInBounds_toArray, List.set_cons_zero, List.set_cons_succ]
            refine wpAnyH_take (i := 36) (v := .bool false) rfl (by kernel_rfl) (by kernel_rfl) (by kernel_rfl) (fun _ _ _ h => h) (Or.inl ⟨by rfl, ?_⟩) hS0 ?_
            · intro w' hSw
              obtain ⟨_, s0, s1', s2', s3', s4'⟩ := hSw
              go_simp
            simp only [List.getElem_toArray, List.getElem_cons_succ, List.getElem_cons_zero, Act.put, List.setIfInBounds_toArray, List.set_cons_zero, List.set_cons_succ]
            refine wpAnyH_ready (rs := [30]) (by kernel_rfl) (by simp) (AllReadyH.cons rfl (fun K hK => ?_) AllReadyH.nil)
            simp only [List.getElem_toArray, List.getElem_cons_succ, List.getElem_cons_zero]
            go_simp
            refine (H5.out _ u4).mono ?_
            rintro e v5 ⟨E5, ee5, rfl, j5, u5⟩
            refine hK.out _ _ (HKr.out _ u5) (fun hS0 => ?_)
            clear hK K
            refine wpAnyH_ready (rs := [35]) (by kernel_rfl) (by simp) (AllReadyH.cons rfl (fun K hK => ?_) AllReadyH.nil)
            simp only [List.getElem_toArray, List.getElem_cons_succ, List.getElem_cons_zero]
            go_simp
            refine (H6.out _ _ _ u5 j5).mono ?_
            rintro e v6 ⟨rfl, u6⟩
            refine hK.out _ _ (HKr.out _ u6) (fun hS0 => ?_)
            clear hK K
            refine wpAnyH_take (i := 37) (v := .bool false) rfl (by kernel_rfl) (by kernel_rfl) (by kernel_rfl) (fun _ _ _ h => h) (Or.inl ⟨by rfl, ?_⟩) hS0 ?_
            · intro w' hSw
              obtain ⟨_, s0, s1', s2', s3', s4'⟩ := hSw
              go_simp
            simp only [List.getElem_toArray, List.getElem_cons_succ, List.getElem_cons_zero, Act.put, List.setIfInBounds_toArray, List.set_cons_zero, List.set_cons_succ]
            refine wpAnyH_take (i := 38) (v := .bool false) rfl (by kernel_rfl) (by kernel_rfl) (by kernel_rfl) (fun _ _ _ h => h) (Or.inl ⟨by rfl, ?_⟩) hS0 ?_
            · intro w' hSw
              obtain ⟨_, s0, s1', s2', s3', s4'⟩ := hSw
              go_simp
            simp only [List.getElem_toArray, List.getElem_cons_succ, List.getElem_cons_zero, Act.put, List.setIfInBounds_toArray, List.set_cons_zero, List.set_cons_succ]
            refine wpAnyH_done (by kernel_rfl) ?_ _
            refine NoPanic.normal ?_
            go_wp2_with fail
            go_roundw
            case rel => exact ⟨k + 1, by omega, by go_num, hbr.trans (u6.mono hbs)⟩
            case measure => simp [intOf]; omega
        ·
          as_aux_lemma =>
            have HA2 := Lib.hid HA
            have HB2 := Lib.hid HB
            have H2 : Hid (∀ W E ee, Below wr.heap.size wr W → In W (both s1 s2) E (both s1 s2).l.length → Calls Try.prog 59 #[.agg #[.bool (both s1 s2).all, .slice E (both s1 s2).l.length ee], .string y] W fun e w' => e = .returned (.bool false) ∧ Below wr.heap.size wr w') := Lib.hid fun W E ee hb hi => (has_name (both s1 s2) E _ ee y W hi (by omega)).mono fun e w' h => ⟨by rw [h.1, both_mem, hpa, hpb]; rfl, hb.trans (h.2.mono hb.size)⟩
            have H4 : Hid (∀ W E ee, Below wr.heap.size wr W → In W (either s1 s2) E (either s1 s2).l.length → Calls Try.prog 59 #[.agg #[.bool (either s1 s2).all, .slice E (either s1 s2).l.length ee], .string y] W fun e w' => e = .returned (.bool true) ∧ Below wr.heap.size wr w') := Lib.hid fun W E ee hb hi => (has_name (either s1 s2) E _ ee y W hi (by omega)).mono fun e w' h => ⟨by rw [h.1, either_mem, hpa, hpb]; rfl, hb.trans (h.2.mono hb.size)⟩
            have H6 : Hid (∀ W E ee, Below wr.heap.size wr W → In W (nott s1) E (nott s1).l.length → Calls Try.prog 59 #[.agg #[.bool (nott s1).all, .slice E (nott s1).l.length ee], .string y] W fun e w' => e = .returned (.bool true) ∧ Below wr.heap.size wr w') := Lib.hid fun W E ee hb hi => (has_name (nott s1) E _ ee y W hi (by omega)).mono fun e w' h => ⟨by rw [h.1, nott_mem, hpa]; rfl, hb.trans (h.2.mono hb.size)⟩
            rw [hpa] at HA2
            rw [hpb] at HB2
            obtain ⟨t1, ht1⟩ : ∃ s, s = both s1 s2 := ⟨_, rfl⟩
            obtain ⟨t3, ht3⟩ : ∃ s, s = either s1 s2 := ⟨_, rfl⟩
            obtain ⟨t5, ht5⟩ : ∃ s, s = nott s1 := ⟨_, rfl⟩
            rw [← ht1] at H1 H2
            rw [← ht3] at H3 H4
            rw [← ht5] at H5 H6
            clear HA HB hpa hpb ht1 ht3 ht5 hb1l hb2l hb3l
            go_wp2_with fail
            go_region_held3 (fun W => Below wr.heap.size wr W ∧ W.cell? ⟨g1, 0, none⟩ = some (.bool s1.all) ∧ W.cell? ⟨g1, 1, none⟩ = some (.slice B1 s1.l.length d1) ∧ W.cell? ⟨g2, 0, none⟩ = some (.bool s2.all) ∧ W.cell? ⟨g2, 1, none⟩ = some (.slice B2 s2.l.length d2) ∧ W.cell? ⟨wx.heap.size, k, none⟩ = some (.string y))
              (first | exact HKr.out _ ub | exact HKr.out _ ua | exact HKr.out _ u0)
              (first
              | (go_at_call 59; (with_reducible refine (HA2.out _ u0).mono ?_); rintro e va ⟨rfl, ua⟩)
              | (go_at_call 59; (with_reducible refine (HB2.out _ ua).mono ?_); rintro e vb ⟨rfl, ub⟩))
            have um := ub.drew
            go_wp2_with fail
            refine wp_region_noPanic (wp_region_held_drew (S := fun W => Below wr.heap.size wr W ∧ W.cell? ⟨g1, 0, none⟩ = some (.bool s1.all) ∧ W.cell? ⟨g1, 1, none⟩ = some (.slice B1 s1.l.length d1) ∧ W.cell? ⟨g2, 0, none⟩ = some (.bool s2.all) ∧ W.cell? ⟨g2, 1, none⟩ = some (.slice B2 s2.l.length d2) ∧ W.cell? ⟨wx.heap.size, k, none⟩ = some (.string y)) (by kernel_rfl) (HKr.out _ um) (fun hS0 => ?_))
            refine wpAnyH_take (i := 0) (v := (.agg #[.bool s1.all, .slice B1 s1.l.length d1])) rfl (by kernel_rfl) (by kernel_rfl) (by kernel_rfl) (fun _ _ _ h => h) (Or.inl ⟨by rfl, ?_⟩) hS0 ?_
            · intro w' hSw
              obtain ⟨_, s0, s1', s2', s3', s4'⟩ := hSw
              go_simp
            simp only [List.getElem_toArray, List.getElem_cons_zero, Act.put, List.setIfInBounds_toArray, List.set_cons_zero, List.set_cons_succ]
            refine wpAnyH_take (i := 1) (v := (.agg #[.bool s2.all, .slice B2 s2.l.length d2])) rfl (by kernel_rfl) (by kernel_rfl) (by kernel_rfl) (fun _ _ _ h => h) (Or.inl ⟨by rfl, ?_⟩) hS0 ?_
            · intro w' hSw
              obtain ⟨_, s0, s1', s2', s3', s4'⟩ := hSw
              go_simp
            simp only [List.getElem_toArray, List.getElem_cons_succ, List.getElem_cons_zero, Act.put, List.setIfInBounds_toArray, List.set_cons_zero, List.set_cons_succ]
            refine wpAnyH_take (i := 3) (v := .slice (some ⟨wx.heap.size, 0, none⟩) 7 7) rfl (by kernel_rfl) (by kernel_rfl) (by kernel_rfl) (fun _ _ _ h => h) (Or.inl ⟨by rfl, ?_⟩) hS0 ?_
            · intro w' hSw
              obtain ⟨_, s0, s1', s2', s3', s4'⟩ := hSw
              go_simp
            simp only [List.getElem_toArray, List.getElem_cons_succ, List.getElem_cons_zero, Act.put, List.setIfInBounds_toArray, List.set_cons_zero, List.set_cons_succ]
            refine wpAnyH_take (i := 4) (v := .int .i64 k) rfl (by kernel_rfl) (by kernel_rfl) (by kernel_rfl) (fun _ _ _ h => h) (Or.inl ⟨by rfl, ?_⟩) hS0 ?_
            · intro w' hSw
              obtain ⟨_, s0, s1', s2', s3', s4'⟩ := hSw
              go_simp
            simp only [List.getElem_toArray, List.getElem_cons_succ, List.getElem_cons_zero, Act.put, List.setIfInBounds_toArray, List.set_cons_zero, List.set_cons_succ]
            refine wpAnyH_take (i := 5) (v := .pointer (some ⟨wx.heap.size, k, none⟩)) rfl (by kernel_rfl) (by kernel_rfl) (by kernel_rfl) (fun _ _ _ h => h) (Or.inl ⟨by rfl, ?_⟩) hS0 ?_
            · intro w' hSw
              obtain ⟨_, s0, s1', s2', s3', s4'⟩ := hSw
              go_simp
            simp only [List.getElem_toArray, List.getElem_cons_succ, List.getElem_cons_zero, Act.put, List.setIfInBounds_toArray, List.set_cons_zero, List.set_cons_succ]
            refine wpAnyH_take (i := 6) (v := .string y) rfl (by kernel_rfl) (by kernel_rfl) (by kernel_rfl) (fun _ _ _ h => h) (Or.inl ⟨by rfl, ?_⟩) hS0 ?_
            · intro w' hSw
              obtain ⟨_, s0, s1', s2', s3', s4'⟩ := hSw
              go_simp
            simp only [List.getElem_toArray, List.getElem_cons_succ, List.getElem_cons_zero, Act.put, List.setIfInBounds_toArray, List.set_cons_zero, List.set_cons_succ]
            refine wpAnyH_take (i := 8) (v := .bool false) rfl (by kernel_rfl) (by kernel_rfl) (by kernel_rfl) (fun _ _ _ h => h) (Or.inl ⟨by rfl, ?_⟩) hS0 ?_
            · intro w' hSw
              obtain ⟨_, s0, s1', s2', s3', s4'⟩ := hSw
              go_simp
            simp only [List.getElem_toArray, List.getElem_cons_succ, List.getElem_cons_zero, Act.put, List.setIfInBounds_toArray, List.set_cons_zero, List.set_cons_succ]
            refine wpAnyH_ready (rs := [2]) (by kernel_rfl) (by simp) (AllReadyH.cons rfl (fun K hK => ?_) AllReadyH.nil)
            simp only [List.getElem_toArray, List.getElem_cons_succ, List.getElem_cons_zero]
            go_simp
            refine (H1.out _ um).mono ?_
            rintro e v1 ⟨E1, ee1, rfl, j1, u1⟩
            refine hK.out _ _ (HKr.out _ u1) (fun hS0 => ?_)
            clear hK K
            refine wpAnyH_ready (rs := [7]) (by kernel_rfl) (by simp) (AllReadyH.cons rfl (fun K hK => ?_) AllReadyH.nil)
            simp only [List.getElem_toArray, List.getElem_cons_succ, List.getElem_cons_zero]
            go_simp
            refine (H2.out _ _ _ u1 j1).mono ?_
            rintro e v2 ⟨rfl, u2⟩
            refine hK.out _ _ (HKr.out _ u2) (fun hS0 => ?_)
            clear hK K
            refine wpAnyH_take (i := 9) (v := .bool false) rfl (by kernel_rfl) (by kernel_rfl) (by kernel_rfl) (fun _ _ _ h => h) (Or.inl ⟨by rfl, ?_⟩) hS0 ?_
            · intro w' hSw
              obtain ⟨_, s0, s1', s2', s3', s4'⟩ := hSw
              go_simp
            simp only [List.getElem_toArray, List.getElem_cons_succ, List.getElem_cons_zero, Act.put, List.setIfInBounds_toArray, List.set_cons_zero, List.set_cons_succ]
            refine wpAnyH_take (i := 10) (v := undef) rfl (by kernel_rfl) (by kernel_rfl) (by kernel_rfl) (fun _ _ _ h => h) (Or.inr ⟨by rfl, rfl⟩) hS0 ?_
            simp only [List.getElem_toArray, List.getElem_cons_succ, List.getElem_cons_zero, Act.put, List.setIfInBounds_toArray, List.set_cons_zero, List.set_cons_succ]
            refine wpAnyH_take (i := 11) (v := .bool false) rfl (by kernel_rfl) (by kernel_rfl) (by kernel_rfl) (fun _ _ _ h => h) (Or.inl ⟨by rfl, ?_⟩) hS0 ?_
            · intro w' hSw
              obtain ⟨_, s0, s1', s2', s3', s4'⟩ := hSw
              go_simp
            simp only [List.getElem_toArray, List.getElem_cons_succ, List.getElem_cons_zero, Act.put, List.setIfInBounds_toArray, List.set_cons_zero, List.set_cons_succ]
            refine wpAnyH_take (i := 12) (v := .bool false) rfl (by kernel_rfl) (by kernel_rfl) (by kernel_rfl) (fun _ _ _ h => h) (Or.inl ⟨by rfl, ?_⟩) hS0 ?_
            · intro w' hSw
              obtain ⟨_, s0, s1', s2', s3', s4'⟩ := hSw
              go_simp
            simp only [List.getElem_toArray, List.getElem_cons_succ, List.getElem_cons_zero, Act.put, List.setIfInBounds_toArray, List.set_cons_zero, List.set_cons_succ]
            refine wpAnyH_take (i := 13) (v := .bool false) rfl (by kernel_rfl) (by kernel_rfl) (by kernel_rfl) (fun _ _ _ h => h) (Or.inl ⟨by rfl, ?_⟩) hS0 ?_
            · intro w' hSw
              obtain ⟨_, s0, s1', s2', s3', s4'⟩ := hSw
              go_simp
            simp only [List.getElem_toArray, List.getElem_cons_succ, List.getElem_cons_zero, Act.put, List.setIfInBounds_toArray, List.set_cons_zero, List.set_cons_succ]
            refine wpAnyH_take (i := 14) (v := (.agg #[.bool s1.all, .slice B1 s1.l.length d1])) rfl (by kernel_rfl) (by kernel_rfl) (by kernel_rfl) (fun _ _ _ h => h) (Or.inl ⟨by rfl, ?_⟩) hS0 ?_
            · intro w' hSw
              obtain ⟨_, s0, s1', s2', s3', s4'⟩ := hSw
              go_simp
            simp only [List.getElem_toArray, List.getElem_cons_succ, List.getElem_cons_zero, Act.put, List.setIfInBounds_toArray, List.set_cons_zero, List.set_cons_succ]
            refine wpAnyH_take (i := 15) (v := (.agg #[.bool s2.all, .slice B2 s2.l.length d2])) rfl (by kernel_rfl) (by kernel_rfl) (by kernel_rfl) (fun _ _ _ h => h) (Or.inl ⟨by rfl, ?_⟩) hS0 ?_
            · intro w' hSw
              obtain ⟨_, s0, s1', s2', s3', s4'⟩ := hSw
              go_simp
            simp only [List.getElem_toArray, List.getElem_cons_succ, List.getElem_cons_zero, Act.put, List.setIfInBounds_toArray, List.set_cons_zero, List.set_cons_succ]
            refine wpAnyH_take (i := 17) (v := .slice (some ⟨wx.heap.size, 0, none⟩) 7 7) rfl (by kernel_rfl) (by kernel_rfl) (by kernel_rfl) (fun _ _ _ h => h) (Or.inl ⟨by rfl, ?_⟩) hS0 ?_
            · intro w' hSw
              obtain ⟨_, s0, s1', s2', s3', s4'⟩ := hSw
              go_simp
            simp only [List.getElem_toArray, List.getElem_cons_succ, List.getElem_cons_zero, Act.put, List.setIfInBounds_toArray, List.set_cons_zero, List.set_cons_succ]
            refine wpAnyH_take (i := 18) (v := .int .i64 k) rfl (by kernel_rfl) (by kernel_rfl) (by kernel_rfl) (fun _ _ _ h => h) (Or.inl ⟨by rfl, ?_⟩) hS0 ?_
            · intro w' hSw
              obtain ⟨_, s0, s1', s2', s3', s4'⟩ := hSw
              go_simp
            simp only [List.getElem_toArray, List.getElem_cons_succ, List.getElem_cons_zero, Act.put, List.setIfInBounds_toArray, List.set_cons_zero, List.set_cons_succ]
            refine wpAnyH_take (i := 19) (v := .pointer (some ⟨wx.heap.size, k, none⟩)) rfl (by kernel_rfl) (by kernel_rfl) (by kernel_rfl) (fun _ _ _ h => h) (Or.inl ⟨by rfl, ?_⟩) hS0 ?_
            · intro w' hSw
              obtain ⟨_, s0, s1', s2', s3', s4'⟩ := hSw
              go_simp
            simp only [List.getElem_toArray, List.getElem_cons_succ, List.getElem_cons_zero, Act.put, List.setIfInBounds_toArray, List.set_cons_zero, List.set_cons_succ]
            refine wpAnyH_take (i := 20) (v := .string y) rfl (by kernel_rfl) (by kernel_rfl) (by kernel_rfl) (fun _ _ _ h => h) (Or.inl ⟨by rfl, ?_⟩) hS0 ?_
            · intro w' hSw
              obtain ⟨_, s0, s1', s2', s3', s4'⟩ := hSw
              go_simp
            simp only [List.getElem_toArray, List.getElem_cons_succ, List.getElem_cons_zero, Act.put, List.setIfInBounds_toArray, List.set_cons_zero, List.set_cons_succ]
            refine wpAnyH_take (i := 22) (v := .bool false) rfl (by kernel_rfl) (by kernel_rfl) (by kernel_rfl) (fun _ _ _ h => h) (Or.inl ⟨by rfl, ?_⟩) hS0 ?_
            · intro w' hSw
              obtain ⟨_, s0, s1', s2', s3', s4'⟩ := hSw
              go_simp
            simp only [List.getElem_toArray, List.getElem_cons_succ, List.getElem_cons_zero, Act.put, List.setIfInBounds_toArray, List.set_cons_zero, List.set_cons_succ]
            refine wpAnyH_ready (rs := [16]) (by kernel_rfl) (by simp) (AllReadyH.cons rfl (fun K hK => ?_) AllReadyH.nil)
            simp only [List.getElem_toArray, List.getElem_cons_succ, List.getElem_cons_zero]
            go_simp
            refine (H3.out _ u2).mono ?_
            rintro e v3 ⟨E3, ee3, rfl, j3, u3⟩
            refine hK.out _ _ (HKr.out _ u3) (fun hS0 => ?_)
            clear hK K
            refine wpAnyH_ready (rs := [21]) (by kernel_rfl) (by simp) (AllReadyH.cons rfl (fun K hK => ?_) AllReadyH.nil)
            simp only [List.getElem_toArray, List.getElem_cons_succ, List.getElem_cons_zero]
            go_simp
            refine (H4.out _ _ _ u3 j3).mono ?_
            rintro e v4 ⟨rfl, u4⟩
            refine hK.out _ _ (HKr.out _ u4) (fun hS0 => ?_)
            clear hK K
            refine wpAnyH_take (i := 23) (v := .bool false) rfl (by kernel_rfl) (by kernel_rfl) (by kernel_rfl) (fun _ _ _ h => h) (Or.inl ⟨by rfl, ?_⟩) hS0 ?_
            · intro w' hSw
              obtain ⟨_, s0, s1', s2', s3', s4'⟩ := hSw
              go_simp
            simp only [List.getElem_toArray, List.getElem_cons_succ, List.getElem_cons_zero, Act.put, List.setIfInBounds_toArray, List.set_cons_zero, List.set_cons_succ]
            refine wpAnyH_take (i := 24) (v := .bool true) rfl (by kernel_rfl) (by kernel_rfl) (by kernel_rfl) (fun _ _ _ h => h) (Or.inl ⟨by rfl, ?_⟩) hS0 ?_
            · intro w' hSw
              obtain ⟨_, s0, s1', s2', s3', s4'⟩ := hSw
              go_simp
            simp only [List.getElem_toArray, List.getElem_cons_succ, List.getElem_cons_zero, Act.put, List.setIfInBounds_toArray, List.set_cons_zero, List.set_cons_succ]
            refine wpAnyH_take (i := 25) (v := .bool true) rfl (by kernel_rfl) (by kernel_rfl) (by kernel_rfl) (fun _ _ _ h => h) (Or.inl ⟨by rfl, ?_⟩) hS0 ?_
            · intro w' hSw
              obtain ⟨_, s0, s1', s2', s3', s4'⟩ := hSw
              go_simp
            simp only [List.getElem_toArray, List.getElem_cons_succ, List.getElem_cons_zero, Act.put, List.setIfInBounds_toArray, List.set_cons_zero, List.set_cons_succ]
            refine wpAnyH_take (i := 26) (v := .bool false) rfl (by kernel_rfl) (by kernel_rfl) (by kernel_rfl) (fun _ _ _ h => h) (Or.inl ⟨by rfl, ?_⟩) hS0 ?_
            · intro w' hSw
              obtain ⟨_, s0, s1', s2', s3', s4'⟩ := hSw
              go_simp
            simp only [List.getElem_toArray, List.getElem_cons_succ, List.getElem_cons_zero, Act.put, List.setIfInBounds_toArray, List.set_cons_zero, List.set_cons_succ]
            refine wpAnyH_take (i := 27) (v := .bool false) rfl (by kernel_rfl) (by kernel_rfl) (by kernel_rfl) (fun _ _ _ h => h) (Or.inl ⟨by rfl, ?_⟩) hS0 ?_
            · intro w' hSw
              obtain ⟨_, s0, s1', s2', s3', s4'⟩ := hSw
              go_simp
            simp only [List.getElem_toArray, List.getElem_cons_succ, List.getElem_cons_zero, Act.put, List.setIfInBounds_toArray, List.set_cons_zero, List.set_cons_succ]
            refine wpAnyH_take (i := 28) (v := .bool false) rfl (by kernel_rfl) (by kernel_rfl) (by kernel_rfl) (fun _ _ _ h => h) (Or.inl ⟨by rfl, ?_⟩) hS0 ?_
            · intro w' hSw
              obtain ⟨_, s0, s1', s2', s3', s4'⟩ := hSw
              go_simp
            simp only [List.getElem_toArray, List.getElem_cons_succ, List.getElem_cons_zero, Act.put, List.setIfInBounds_toArray, List.set_cons_zero, List.set_cons_succ]
            refine wpAnyH_take (i := 29) (v := (.agg #[.bool s1.all, .slice B1 s1.l.length d1])) rfl (by kernel_rfl) (by kernel_rfl) (by kernel_rfl) (fun _ _ _ h => h) (Or.inl ⟨by rfl, ?_⟩) hS0 ?_
            · intro w' hSw
              obtain ⟨_, s0, s1', s2', s3', s4'⟩ := hSw
              go_simp
            simp only [List.getElem_toArray, List.getElem_cons_succ, List.getElem_cons_zero, Act.put, List.setIfInBounds_toArray, List.set_cons_zero, List.set_cons_succ]
            refine wpAnyH_take (i := 31) (v := .slice (some ⟨wx.heap.size, 0, none⟩) 7 7) rfl (by kernel_rfl) (by kernel_rfl) (by kernel_rfl) (fun _ _ _ h => h) (Or.inl ⟨by rfl, ?_⟩) hS0 ?_
            · intro w' hSw
              obtain ⟨_, s0, s1', s2', s3', s4'⟩ := hSw
              go_simp
            simp only [List.getElem_toArray, List.getElem_cons_succ, List.getElem_cons_zero, Act.put, List.setIfInBounds_toArray, List.set_cons_zero, List.set_cons_succ]
            refine wpAnyH_take (i := 32) (v := .int .i64 k) rfl (by kernel_rfl) (by kernel_rfl) (by kernel_rfl) (fun _ _ _ h => h) (Or.inl ⟨by rfl, ?_⟩) hS0 ?_
            · intro w' hSw
              obtain ⟨_, s0, s1', s2', s3', s4'⟩ := hSw
              go_simp
            simp only [List.getElem_toArray, List.getElem_cons_succ, List.getElem_cons_zero, Act.put, List.setIfInBounds_toArray, List.set_cons_zero, List.set_cons_succ]
            refine wpAnyH_take (i := 33) (v := .pointer (some ⟨wx.heap.size, k, none⟩)) rfl (by kernel_rfl) (by kernel_rfl) (by kernel_rfl) (fun _ _ _ h => h) (Or.inl ⟨by rfl, ?_⟩) hS0 ?_
            · intro w' hSw
              obtain ⟨_, s0, s1', s2', s3', s4'⟩ := hSw
              go_simp
            simp only [List.getElem_toArray, List.getElem_cons_succ, List.getElem_cons_zero, Act.put, List.setIfInBounds_toArray, List.set_cons_zero, List.set_cons_succ]
            refine wpAnyH_take (i := 34) (v := .string y) rfl (by kernel_rfl) (by kernel_rfl) (by kernel_rfl) (fun _ _ _ h => h) (Or.inl ⟨by rfl, ?_⟩) hS0 ?_
            · intro w' hSw
              obtain ⟨_, s0, s1', s2', s3', s4'⟩ := hSw
              go_simp
            simp only [List.getElem_toArray, List.getElem_cons_succ, List.getElem_cons_zero, Act.put, List.setIfInBounds_toArray, List.set_cons_zero, List.set_cons_succ]
            refine wpAnyH_take (i := 36) (v := .bool false) rfl (by kernel_rfl) (by kernel_rfl) (by kernel_rfl) (fun _ _ _ h => h) (Or.inl ⟨by rfl, ?_⟩) hS0 ?_
            · intro w' hSw
              obtain ⟨_, s0, s1', s2', s3', s4'⟩ := hSw
              go_simp
            simp only [List.getElem_toArray, List.getElem_cons_succ, List.getElem_cons_zero, Act.put, List.setIfInBounds_toArray, List.set_cons_zero, List.set_cons_succ]
            refine wpAnyH_ready (rs := [30]) (by kernel_rfl) (by simp) (AllReadyH.cons rfl (fun K hK => ?_) AllReadyH.nil)
            simp only [List.getElem_toArray, List.getElem_cons_succ, List.getElem_cons_zero]
            go_simp
            refine (H5.out _ u4).mono ?_
            rintro e v5 ⟨E5, ee5, rfl, j5, u5⟩
            refine hK.out _ _ (HKr.out _ u5) (fun hS0 => ?_)
            clear hK K
            refine wpAnyH_ready (rs := [35]) (by kernel_rfl) (by simp) (AllReadyH.cons rfl (fun K hK => ?_) AllReadyH.nil)
            simp only [List.getElem_toArray, List.getElem_cons_succ, List.getElem_cons_zero]
            go_simp
            refine (H6.out _ _ _ u5 j5).mono ?_
            rintro e v6 ⟨rfl, u6⟩
            refine hK.out _ _ (HKr.out _ u6) (fun hS0 => ?_)
            clear hK K
            refine wpAnyH_take (i := 37) (v := .bool false) rfl (by kernel_rfl) (by kernel_rfl) (by kernel_rfl) (fun _ _ _ h => h) (Or.inl ⟨by rfl, ?_⟩) hS0 ?_
            · intro w' hSw
              obtain ⟨_, s0, s1', s2', s3', s4'⟩ := hSw
              go_simp
            simp only [List.getElem_toArray, List.getElem_cons_succ, List.getElem_cons_zero, Act.put, List.setIfInBounds_toArray, List.set_cons_zero, List.set_cons_succ]
            refine wpAnyH_take (i := 38) (v := .bool false) rfl (by kernel_rfl) (by kernel_rfl) (by kernel_rfl) (fun _ _ _ h => h) (Or.inl ⟨by rfl, ?_⟩) hS0 ?_
            · intro w' hSw
              obtain ⟨_, s0, s1', s2', s3', s4'⟩ := hSw
              go_simp
            simp only [List.getElem_toArray, List.getElem_cons_succ, List.getElem_cons_zero, Act.put, List.setIfInBounds_toArray, List.set_cons_zero, List.set_cons_succ]
            refine wpAnyH_done (by kernel_rfl) ?_ _
            refine NoPanic.normal ?_
            go_wp2_with fail
            go_roundw
            case rel => exact ⟨k + 1, by omega, by go_num, hbr.trans (u6.mono hbs)⟩
            case measure => simp [intOf]; omega
        ·
          as_aux_lemma =>
            have HA2 := Lib.hid HA
            have HB2 := Lib.hid HB
            have H2 : Hid (∀ W E ee, Below wr.heap.size wr W → In W (both s1 s2) E (both s1 s2).l.length → Calls Try.prog 59 #[.agg #[.bool (both s1 s2).all, .slice E (both s1 s2).l.length ee], .string y] W fun e w' => e = .returned (.bool false) ∧ Below wr.heap.size wr w') := Lib.hid fun W E ee hb hi => (has_name (both s1 s2) E _ ee y W hi (by omega)).mono fun e w' h => ⟨by rw [h.1, both_mem, hpa, hpb]; rfl, hb.trans (h.2.mono hb.size)⟩
            have H4 : Hid (∀ W E ee, Below wr.heap.size wr W → In W (either s1 s2) E (either s1 s2).l.length → Calls Try.prog 59 #[.agg #[.bool (either s1 s2).all, .slice E (either s1 s2).l.length ee], .string y] W fun e w' => e = .returned (.bool true) ∧ Below wr.heap.size wr w') := Lib.hid fun W E ee hb hi => (has_name (either s1 s2) E _ ee y W hi (by omega)).mono fun e w' h => ⟨by rw [h.1, either_mem, hpa, hpb]; rfl, hb.trans (h.2.mono hb.size)⟩
            have H6 : Hid (∀ W E ee, Below wr.heap.size wr W → In W (nott s1) E (nott s1).l.length → Calls Try.prog 59 #[.agg #[.bool (nott s1).all, .slice E (nott s1).l.length ee], .string y] W fun e w' => e = .returned (.bool false) ∧ Below wr.heap.size wr w') := Lib.hid fun W E ee hb hi => (has_name (nott s1) E _ ee y W hi (by omega)).mono fun e w' h => ⟨by rw [h.1, nott_mem, hpa]; rfl, hb.trans (h.2.mono hb.size)⟩
            rw [hpa] at HA2
            rw [hpb] at HB2
            obtain ⟨t1, ht1⟩ : ∃ s, s = both s1 s2 := ⟨_, rfl⟩
            obtain ⟨t3, ht3⟩ : ∃ s, s = either s1 s2 := ⟨_, rfl⟩
            obtain ⟨t5, ht5⟩ : ∃ s, s = nott s1 := ⟨_, rfl⟩
            rw [← ht1] at H1 H2
            rw [← ht3] at H3 H4
            rw [← ht5] at H5 H6
            clear HA HB hpa hpb ht1 ht3 ht5 hb1l hb2l hb3l
            go_wp2_with fail
            go_region_held3 (fun W => Below wr.heap.size wr W ∧ W.cell? ⟨g1, 0, none⟩ = some (.bool s1.all) ∧ W.cell? ⟨g1, 1, none⟩ = some (.slice B1 s1.l.length d1) ∧ W.cell? ⟨g2, 0, none⟩ = some (.bool s2.all) ∧ W.cell? ⟨g2, 1, none⟩ = some (.slice B2 s2.l.length d2) ∧ W.cell? ⟨wx.heap.size, k, none⟩ = some (.string y))
              (first | exact HKr.out _ ub | exact HKr.out _ ua | exact HKr.out _ u0)
              (first
              | (go_at_call 59; (with_reducible refine (HA2.out _ u0).mono ?_); rintro e va ⟨rfl, ua⟩)
              | (go_at_call 59; (with_reducible refine (HB2.out _ ua).mono ?_); rintro e vb ⟨rfl, ub⟩))
            have um := ub.drew
            go_wp2_with fail
            refine wp_region_noPanic (wp_region_held_drew (S := fun W => Below wr.heap.size wr W ∧ W.cell? ⟨g1, 0, none⟩ = some (.bool s1.all) ∧ W.cell? ⟨g1, 1, none⟩ = some (.slice B1 s1.l.length d1) ∧ W.cell? ⟨g2, 0, none⟩ = some (.bool s2.all) ∧ W.cell? ⟨g2, 1, none⟩ = some (.slice B2 s2.l.length d2) ∧ W.cell? ⟨wx.heap.size, k, none⟩ = some (.string y)) (by kernel_rfl) (HKr.out _ um) (fun hS0 => ?_))
            refine wpAnyH_take (i := 0) (v := (.agg #[.bool s1.all, .slice B1 s1.l.length d1])) rfl (by kernel_rfl) (by kernel_rfl) (by kernel_rfl) (fun _ _ _ h => h) (Or.inl ⟨by rfl, ?_⟩) hS0 ?_
            · intro w' hSw
              obtain ⟨_, s0, s1', s2', s3', s4'⟩ := hSw
              go_simp
            simp only [List.getElem_toArray, List.getElem_cons_zero, Act.put, List.setIfInBounds_toArray, List.set_cons_zero, List.set_cons_succ]
            refine wpAnyH_take (i := 1) (v := (.agg #[.bool s2.all, .slice B2 s2.l.length d2])) rfl (by kernel_rfl) (by kernel_rfl) (by kernel_rfl) (fun _ _ _ h => h) (Or.inl ⟨by rfl, ?_⟩) hS0 ?_
            · intro w' hSw
              obtain ⟨_, s0, s1', s2', s3', s4'⟩ := hSw
              go_simp
            simp only [List.getElem_toArray, List.getElem_cons_succ, List.getElem_cons_zero, Act.put, List.setIfInBounds_toArray, List.set_cons_zero, List.set_cons_succ]
            refine wpAnyH_take (i := 3) (v := .slice (some ⟨wx.heap.size, 0, none⟩) 7 7) rfl (by kernel_rfl) (by kernel_rfl) (by kernel_rfl) (fun _ _ _ h => h) (Or.inl ⟨by rfl, ?_⟩) hS0 ?_
            · intro w' hSw
              obtain ⟨_, s0, s1', s2', s3', s4'⟩ := hSw
              go_simp
            simp only [List.getElem_toArray, List.getElem_cons_succ, List.getElem_cons_zero, Act.put, List.setIfInBounds_toArray, List.set_cons_zero, List.set_cons_succ]
            refine wpAnyH_take (i := 4) (v := .int .i64 k) rfl (by kernel_rfl) (by kernel_rfl) (by kernel_rfl) (fun _ _ _ h => h) (Or.inl ⟨by rfl, ?_⟩) hS0 ?_
            · intro w' hSw
              obtain ⟨_, s0, s1', s2', s3', s4'⟩ := hSw
              go_simp
            simp only [List.getElem_toArray, List.getElem_cons_succ, List.getElem_cons_zero, Act.put, List.setIfInBounds_toArray, List.set_cons_zero, List.set_cons_succ]
            refine wpAnyH_take (i := 5) (v := .pointer (some ⟨wx.heap.size, k, none⟩)) rfl (by kernel_rfl) (by kernel_rfl) (by kernel_rfl) (fun _ _ _ h => h) (Or.inl ⟨by rfl, ?_⟩) hS0 ?_
            · intro w' hSw
              obtain ⟨_, s0, s1', s2', s3', s4'⟩ := hSw
              go_simp
            simp only [List.getElem_toArray, List.getElem_cons_succ, List.getElem_cons_zero, Act.put, List.setIfInBounds_toArray, List.set_cons_zero, List.set_cons_succ]
            refine wpAnyH_take (i := 6) (v := .string y) rfl (by kernel_rfl) (by kernel_rfl) (by kernel_rfl) (fun _ _ _ h => h) (Or.inl ⟨by rfl, ?_⟩) hS0 ?_
            · intro w' hSw
              obtain ⟨_, s0, s1', s2', s3', s4'⟩ := hSw
              go_simp
            simp only [List.getElem_toArray, List.getElem_cons_succ, List.getElem_cons_zero, Act.put, List.setIfInBounds_toArray, List.set_cons_zero, List.set_cons_succ]
            refine wpAnyH_take (i := 8) (v := .bool true) rfl (by kernel_rfl) (by kernel_rfl) (by kernel_rfl) (fun _ _ _ h => h) (Or.inl ⟨by rfl, ?_⟩) hS0 ?_
            · intro w' hSw
              obtain ⟨_, s0, s1', s2', s3', s4'⟩ := hSw
              go_simp
            simp only [List.getElem_toArray, List.getElem_cons_succ, List.getElem_cons_zero, Act.put, List.setIfInBounds_toArray, List.set_cons_zero, List.set_cons_succ]
            refine wpAnyH_ready (rs := [2]) (by kernel_rfl) (by simp) (AllReadyH.cons rfl (fun K hK => ?_) AllReadyH.nil)
            simp only [List.getElem_toArray, List.getElem_cons_succ, List.getElem_cons_zero]
            go_simp
            refine (H1.out _ um).mono ?_
            rintro e v1 ⟨E1, ee1, rfl, j1, u1⟩
            refine hK.out _ _ (HKr.out _ u1) (fun hS0 => ?_)
            clear hK K
            refine wpAnyH_ready (rs := [7]) (by kernel_rfl) (by simp) (AllReadyH.cons rfl (fun K hK => ?_) AllReadyH.nil)
            simp only [List.getElem_toArray, List.getElem_cons_succ, List.getElem_cons_zero]
            go_simp
            refine (H2.out _ _ _ u1 j1).mono ?_
            rintro e v2 ⟨rfl, u2⟩
            refine hK.out _ _ (HKr.out _ u2) (fun hS0 => ?_)
            clear hK K
            refine wpAnyH_take (i := 9) (v := .bool true) rfl (by kernel_rfl) (by kernel_rfl) (by kernel_rfl) (fun _ _ _ h => h) (Or.inl ⟨by rfl, ?_⟩) hS0 ?_
            · intro w' hSw
              obtain ⟨_, s0, s1', s2', s3', s4'⟩ := hSw
              go_simp
            simp only [List.getElem_toArray, List.getElem_cons_succ, List.getElem_cons_zero, Act.put, List.setIfInBounds_toArray, List.set_cons_zero, List.set_cons_succ]
            refine wpAnyH_take (i := 10) (v := .bool false) rfl (by kernel_rfl) (by kernel_rfl) (by kernel_rfl) (fun _ _ _ h => h) (Or.inl ⟨by rfl, ?_⟩) hS0 ?_
            · intro w' hSw
              obtain ⟨_, s0, s1', s2', s3', s4'⟩ := hSw
              go_simp
            simp only [List.getElem_toArray, List.getElem_cons_succ, List.getElem_cons_zero, Act.put, List.setIfInBounds_toArray, List.set_cons_zero, List.set_cons_succ]
            refine wpAnyH_take (i := 11) (v := .bool false) rfl (by kernel_rfl) (by kernel_rfl) (by kernel_rfl) (fun _ _ _ h => h) (Or.inl ⟨by rfl, ?_⟩) hS0 ?_
            · intro w' hSw
              obtain ⟨_, s0, s1', s2', s3', s4'⟩ := hSw
              go_simp
            simp only [List.getElem_toArray, List.getElem_cons_succ, List.getElem_cons_zero, Act.put, List.setIfInBounds_toArray, List.set_cons_zero, List.set_cons_succ]
            refine wpAnyH_take (i := 12) (v := .bool false) rfl (by kernel_rfl) (by kernel_rfl) (by kernel_rfl) (fun _ _ _ h => h) (Or.inl ⟨by rfl, ?_⟩) hS0 ?_
            · intro w' hSw
              obtain ⟨_, s0, s1', s2', s3', s4'⟩ := hSw
              go_simp
            simp only [List.getElem_toArray, List.getElem_cons_succ, List.getElem_cons_zero, Act.put, List.setIfInBounds_toArray, List.set_cons_zero, List.set_cons_succ]
            refine wpAnyH_take (i := 13) (v := .bool false) rfl (by kernel_rfl) (by kernel_rfl) (by kernel_rfl) (fun _ _ _ h => h) (Or.inl ⟨by rfl, ?_⟩) hS0 ?_
            · intro w' hSw
              obtain ⟨_, s0, s1', s2', s3', s4'⟩ := hSw
              go_simp
            simp only [List.getElem_toArray, List.getElem_cons_succ, List.getElem_cons_zero, Act.put, List.setIfInBounds_toArray, List.set_cons_zero, List.set_cons_succ]
            refine wpAnyH_take (i := 14) (v := (.agg #[.bool s1.all, .slice B1 s1.l.length d1])) rfl (by kernel_rfl) (by kernel_rfl) (by kernel_rfl) (fun _ _ _ h => h) (Or.inl ⟨by rfl, ?_⟩) hS0 ?_
            · intro w' hSw
              obtain ⟨_, s0, s1', s2', s3', s4'⟩ := hSw
              go_simp
            simp only [List.getElem_toArray, List.getElem_cons_succ, List.getElem_cons_zero, Act.put, List.setIfInBounds_toArray, List.set_cons_zero, List.set_cons_succ]
            refine wpAnyH_take (i := 15) (v := (.agg #[.bool s2.all, .slice B2 s2.l.length d2])) rfl (by kernel_rfl) (by kernel_rfl) (by kernel_rfl) (fun _ _ _ h => h) (Or.inl ⟨by rfl, ?_⟩) hS0 ?_
            · intro w' hSw
              obtain ⟨_, s0, s1', s2', s3', s4'⟩ := hSw
              go_simp
            simp only [List.getElem_toArray, List.getElem_cons_succ, List.getElem_cons_zero, Act.put, List.setIfInBounds_toArray, List.set_cons_zero, List.set_cons_succ]
            refine wpAnyH_take (i := 17) (v := .slice (some ⟨wx.heap.size, 0, none⟩) 7 7) rfl (by kernel_rfl) (by kernel_rfl) (by kernel_rfl) (fun _ _ _ h => h) (Or.inl ⟨by rfl, ?_⟩) hS0 ?_
            · intro w' hSw
              obtain ⟨_, s0, s1', s2', s3', s4'⟩ := hSw
              go_simp
            simp only [List.getElem_toArray, List.getElem_cons_succ, List.getElem_cons_zero, Act.put, List.setIfInBounds_toArray, List.set_cons_zero, List.set_cons_succ]
            refine wpAnyH_take (i := 18) (v := .int .i64 k) rfl (by kernel_rfl) (by kernel_rfl) (by kernel_rfl) (fun _ _ _ h => h) (Or.inl ⟨by rfl, ?_⟩) hS0 ?_
            · intro w' hSw
              obtain ⟨_, s0, s1', s2', s3', s4'⟩ := hSw
              go_simp
            simp only [List.getElem_toArray, List.getElem_cons_succ, List.getElem_cons_zero, Act.put, List.setIfInBounds_toArray, List.set_cons_zero, List.set_cons_succ]
            refine wpAnyH_take (i := 19) (v := .pointer (some ⟨wx.heap.size, k, none⟩)) rfl (by kernel_rfl) (by kernel_rfl) (by kernel_rfl) (fun _ _ _ h => h) (Or.inl ⟨by rfl, ?_⟩) hS0 ?_
            · intro w' hSw
              obtain ⟨_, s0, s1', s2', s3', s4'⟩ := hSw
              go_simp
            simp only [List.getElem_toArray, List.getElem_cons_succ, List.getElem_cons_zero, Act.put, List.setIfInBounds_toArray, List.set_cons_zero, List.set_cons_succ]
            refine wpAnyH_take (i := 20) (v := .string y) rfl (by kernel_rfl) (by kernel_rfl) (by kernel_rfl) (fun _ _ _ h => h) (Or.inl ⟨by rfl, ?_⟩) hS0 ?_
            · intro w' hSw
              obtain ⟨_, s0, s1', s2', s3', s4'⟩ := hSw
              go_simp
            simp only [List.getElem_toArray, List.getElem_cons_succ, List.getElem_cons_zero, Act.put, List.setIfInBounds_toArray, List.set_cons_zero, List.set_cons_succ]
            refine wpAnyH_take (i := 22) (v := .bool true) rfl (by kernel_rfl) (by kernel_rfl) (by kernel_rfl) (fun _ _ _ h => h) (Or.inl ⟨by rfl, ?_⟩) hS0 ?_
            · intro w' hSw
              obtain ⟨_, s0, s1', s2', s3', s4'⟩ := hSw
              go_simp
            simp only [List.getElem_toArray, List.getElem_cons_succ, List.getElem_cons_zero, Act.put, List.setIfInBounds_toArray, List.set_cons_zero, List.set_cons_succ]
            refine wpAnyH_ready (rs := [16]) (by kernel_rfl) (by simp) (AllReadyH.cons rfl (fun K hK => ?_) AllReadyH.nil)
            simp only [List.getElem_toArray, List.getElem_cons_succ, List.getElem_cons_zero]
            go_simp
            refine (H3.out _ u2).mono ?_
            rintro e v3 ⟨E3, ee3, rfl, j3, u3⟩
            refine hK.out _ _ (HKr.out _ u3) (fun hS0 => ?_)
            clear hK K
            refine wpAnyH_ready (rs := [21]) (by kernel_rfl) (by simp) (AllReadyH.cons rfl (fun K hK => ?_) AllReadyH.nil)
            simp only [List.getElem_toArray, List.getElem_cons_succ, List.getElem_cons_zero]
            go_simp
            refine (H4.out _ _ _ u3 j3).mono ?_
            rintro e v4 ⟨rfl, u4⟩
            refine hK.out _ _ (HKr.out _ u4) (fun hS0 => ?_)
            clear hK K
            refine wpAnyH_take (i := 23) (v := .bool true) rfl (by kernel_rfl) (by kernel_rfl) (by kernel_rfl) (fun _ _ _ h => h) (Or.inl ⟨by rfl, ?_⟩) hS0 ?_
            · intro w' hSw
              obtain ⟨_, s0, s1', s2', s3', s4'⟩ := hSw
              go_simp
            simp only [List.getElem_toArray, List.getElem_cons_succ, List.getElem_cons_zero, Act.put, List.setIfInBounds_toArray, List.set_cons_zero, List.set_cons_succ]
            refine wpAnyH_take (i := 24) (v := undef) rfl (by kernel_rfl) (by kernel_rfl) (by kernel_rfl) (fun _ _ _ h => h) (Or.inr ⟨by rfl, rfl⟩) hS0 ?_
            simp only [List.getElem_toArray, List.getElem_cons_succ, List.getElem_cons_zero, Act.put, List.setIfInBounds_toArray, List.set_cons_zero, List.set_cons_succ]
            refine wpAnyH_take (i := 25) (v := .bool true) rfl (by kernel_rfl) (by kernel_rfl) (by kernel_rfl) (fun _ _ _ h => h) (Or.inl ⟨by rfl, ?_⟩) hS0 ?_
            · intro w' hSw
              obtain ⟨_, s0, s1', s2', s3', s4'⟩ := hSw
              go_simp
            simp only [List.getElem_toArray, List.getElem_cons_succ, List.getElem_cons_zero, Act.put, List.setIfInBounds_toArray, List.set_cons_zero, List.set_cons_succ]
            refine wpAnyH_take (i := 26) (v := .bool false) rfl (by kernel_rfl) (by kernel_rfl) (by kernel_rfl) (fun _ _ _ h => h) (Or.inl ⟨by rfl, ?_⟩) hS0 ?_
            · intro w' hSw
              obtain ⟨_, s0, s1', s2', s3', s4'⟩ := hSw
              go_simp
            simp only [List.getElem_toArray, List.getElem_cons_succ, List.getElem_cons_zero, Act.put, List.setIfInBounds_toArray, List.set_cons_zero, List.set_cons_succ]
            refine wpAnyH_take (i := 27) (v := .bool false) rfl (by kernel_rfl) (by kernel_rfl) (by kernel_rfl) (fun _ _ _ h => h) (Or.inl ⟨by rfl, ?_⟩) hS0 ?_
            · intro w' hSw
              obtain ⟨_, s0, s1', s2', s3', s4'⟩ := hSw
              go_simp
            simp only [List.getElem_toArray, List.getElem_cons_succ, List.getElem_cons_zero, Act.put, List.setIfInBounds_toArray, List.set_cons_zero, List.set_cons_succ]
            refine wpAnyH_take (i := 28) (v := .bool false) rfl (by kernel_rfl) (by kernel_rfl) (by kernel_rfl) (fun _ _ _ h => h) (Or.inl ⟨by rfl, ?_⟩) hS0 ?_
            · intro w' hSw
              obtain ⟨_, s0, s1', s2', s3', s4'⟩ := hSw
              go_simp
            simp only [List.getElem_toArray, List.getElem_cons_succ, List.getElem_cons_zero, Act.put, List.setIfInBounds_toArray, List.set_cons_zero, List.set_cons_succ]
            refine wpAnyH_take (i := 29) (v := (.agg #[.bool s1.all, .slice B1 s1.l.length d1])) rfl (by kernel_rfl) (by kernel_rfl) (by kernel_rfl) (fun _ _ _ h => h) (Or.inl ⟨by rfl, ?_⟩) hS0 ?_
            · intro w' hSw
              obtain ⟨_, s0, s1', s2', s3', s4'⟩ := hSw
              go_simp
            simp only [List.getElem_toArray, List.getElem_cons_succ, List.getElem_cons_zero, Act.put, List.setIfInBounds_toArray, List.set_cons_zero, List.set_cons_succ]
            refine wpAnyH_take (i := 31) (v := .slice (some ⟨wx.heap.size, 0, none⟩) 7 7) rfl (by kernel_rfl) (by kernel_rfl) (by kernel_rfl) (fun _ _ _ h => h) (Or.inl ⟨by rfl, ?_⟩) hS0 ?_
            · intro w' hSw
              obtain ⟨_, s0, s1', s2', s3', s4'⟩ := hSw
              go_simp
            simp only [List.getElem_toArray, List.getElem_cons_succ, List.getElem_cons_zero, Act.put, List.setIfInBounds_toArray, List.set_cons_zero, List.set_cons_succ]
            refine wpAnyH_take (i := 32) (v := .int .i64 k) rfl (by kernel_rfl) (by kernel_rfl) (by kernel_rfl) (fun _ _ _ h => h) (Or.inl ⟨by rfl, ?_⟩) hS0 ?_
            · intro w' hSw
              obtain ⟨_, s0, s1', s2', s3', s4'⟩ := hSw
              go_simp
            simp only [List.getElem_toArray, List.getElem_cons_succ, List.getElem_cons_zero, Act.put, List.setIfInBounds_toArray, List.set_cons_zero, List.set_cons_succ]
            refine wpAnyH_take (i := 33) (v := .pointer (some ⟨wx.heap.size, k, none⟩)) rfl (by kernel_rfl) (by kernel_rfl) (by kernel_rfl) (fun _ _ _ h => h) (Or.inl ⟨by rfl, ?_⟩) hS0 ?_
            · intro w' hSw
              obtain ⟨_, s0, s1', s2', s3', s4'⟩ := hSw
              go_simp
            simp only [List.getElem_toArray, List.getElem_cons_succ, List.getElem_cons_zero, Act.put, List.setIfInBounds_toArray, List.set_cons_zero, List.set_cons_succ]
            refine wpAnyH_take (i := 34) (v := .string y) rfl (by kernel_rfl) (by kernel_rfl) (by kernel_rfl) (fun _ _ _ h => h) (Or.inl ⟨by rfl, ?_⟩) hS0 ?_
            · intro w' hSw
              obtain ⟨_, s0, s1', s2', s3', s4'⟩ := hSw
              go_simp
            simp only [List.getElem_toArray, List.getElem_cons_succ, List.getElem_cons_zero, Act.put, List.setIfInBounds_toArray, List.set_cons_zero, List.set_cons_succ]
            refine wpAnyH_take (i := 36) (v := .bool true) rfl (by kernel_rfl) (by kernel_rfl) (by kernel_rfl) (fun _ _ _ h => h) (Or.inl ⟨by rfl, ?_⟩) hS0 ?_
            · intro w' hSw
              obtain ⟨_, s0, s1', s2', s3', s4'⟩ := hSw
              go_simp
            simp only [List.getElem_toArray, List.getElem_cons_succ, List.getElem_cons_zero, Act.put, List.setIfInBounds_toArray, List.set_cons_zero, List.set_cons_succ]
            refine wpAnyH_ready (rs := [30]) (by kernel_rfl) (by simp) (AllReadyH.cons rfl (fun K hK => ?_) AllReadyH.nil)
            simp only [List.getElem_toArray, List.getElem_cons_succ, List.getElem_cons_zero]
            go_simp
            refine (H5.out _ u4).mono ?_
            rintro e v5 ⟨E5, ee5, rfl, j5, u5⟩
            refine hK.out _ _ (HKr.out _ u5) (fun hS0 => ?_)
            clear hK K
            refine wpAnyH_ready (rs := [35]) (by kernel_rfl) (by simp) (AllReadyH.cons rfl (fun K hK => ?_) AllReadyH.nil)
            simp only [List.getElem_toArray, List.getElem_cons_succ, List.getElem_cons_zero]
            go_simp
            refine (H6.out _ _ _ u5 j5).mono ?_
            rintro e v6 ⟨rfl, u6⟩
            refine hK.out _ _ (HKr.out _ u6) (fun hS0 => ?_)
            clear hK K
            refine wpAnyH_take (i := 37) (v := .bool false) rfl (by kernel_rfl) (by kernel_rfl) (by kernel_rfl) (fun _ _ _ h => h) (Or.inl ⟨by rfl, ?_⟩) hS0 ?_
            · intro w' hSw
              obtain ⟨_, s0, s1', s2', s3', s4'⟩ := hSw
              go_simp
            simp only [List.getElem_toArray, List.getElem_cons_succ, List.getElem_cons_zero, Act.put, List.setIfInBounds_toArray, List.set_cons_zero, List.set_cons_succ]
            refine wpAnyH_take (i := 38) (v := .bool false) rfl (by kernel_rfl) (by kernel_rfl) (by kernel_rfl) (fun _ _ _ h => h) (Or.inl ⟨by rfl, ?_⟩) hS0 ?_
            · intro w' hSw
              obtain ⟨_, s0, s1', s2', s3', s4'⟩ := hSw
              go_simp
            simp only [List.getElem_toArray, List.getElem_cons_succ, List.getElem_cons_zero, Act.put, List.setIfInBounds_toArray, List.set_cons_zero, List.set_cons_succ]
            refine wpAnyH_done (by kernel_rfl) ?_ _
            refine NoPanic.normal ?_
            go_wp2_with fail
            go_roundw
            case rel => exact ⟨k + 1, by omega, by go_num, hbr.trans (u6.mono hbs)⟩
            case measure => simp [intOf]; omega
        ·
          as_aux_lemma =>
            have HA2 := Lib.hid HA
            have HB2 := Lib.hid HB
            have H2 : Hid (∀ W E ee, Below wr.heap.size wr W → In W (both s1 s2) E (both s1 s2).l.length → Calls Try.prog 59 #[.agg #[.bool (both s1 s2).all, .slice E (both s1 s2).l.length ee], .string y] W fun e w' => e = .returned (.bool true) ∧ Below wr.heap.size wr w') := Lib.hid fun W E ee hb hi => (has_name (both s1 s2) E _ ee y W hi (by omega)).mono fun e w' h => ⟨by rw [h.1, both_mem, hpa, hpb]; rfl, hb.trans (h.2.mono hb.size)⟩
            have H4 : Hid (∀ W E ee, Below wr.heap.size wr W → In W (either s1 s2) E (either s1 s2).l.length → Calls Try.prog 59 #[.agg #[.bool (either s1 s2).all, .slice E (either s1 s2).l.length ee], .string y] W fun e w' => e = .returned (.bool true) ∧ Below wr.heap.size wr w') := Lib.hid fun W E ee hb hi => (has_name (either s1 s2) E _ ee y W hi (by omega)).mono fun e w' h => ⟨by rw [h.1, either_mem, hpa, hpb]; rfl, hb.trans (h.2.mono hb.size)⟩
            have H6 : Hid (∀ W E ee, Below wr.heap.size wr W → In W (nott s1) E (nott s1).l.length → Calls Try.prog 59 #[.agg #[.bool (nott s1).all, .slice E (nott s1).l.length ee], .string y] W fun e w' => e = .returned (.bool false) ∧ Below wr.heap.size wr w') := Lib.hid fun W E ee hb hi => (has_name (nott s1) E _ ee y W hi (by omega)).mono fun e w' h => ⟨by rw [h.1, nott_mem, hpa]; rfl, hb.trans (h.2.mono hb.size)⟩
            rw [hpa] at HA2
            rw [hpb] at HB2
            obtain ⟨t1, ht1⟩ : ∃ s, s = both s1 s2 := ⟨_, rfl⟩
            obtain ⟨t3, ht3⟩ : ∃ s, s = either s1 s2 := ⟨_, rfl⟩
            obtain ⟨t5, ht5⟩ : ∃ s, s = nott s1 := ⟨_, rfl⟩
            rw [← ht1] at H1 H2
            rw [← ht3] at H3 H4
            rw [← ht5] at H5 H6
            clear HA HB hpa hpb ht1 ht3 ht5 hb1l hb2l hb3l
            go_wp2_with fail
            go_region_held3 (fun W => Below wr.heap.size wr W ∧ W.cell? ⟨g1, 0, none⟩ = some (.bool s1.all) ∧ W.cell? ⟨g1, 1, none⟩ = some (.slice B1 s1.l.length d1) ∧ W.cell? ⟨g2, 0, none⟩ = some (.bool s2.all) ∧ W.cell? ⟨g2, 1, none⟩ = some (.slice B2 s2.l.length d2) ∧ W.cell? ⟨wx.heap.size, k, none⟩ = some (.string y))
              (first | exact HKr.out _ ub | exact HKr.out _ ua | exact HKr.out _ u0)
              (first
              | (go_at_call 59; (with_reducible refine (HA2.out _ u0).mono ?_); rintro e va ⟨rfl, ua⟩)
              | (go_at_call 59; (with_reducible refine (HB2.out _ ua).mono ?_); rintro e vb ⟨rfl, ub⟩))
            have um := ub.drew
            go_wp2_with fail
            refine wp_region_noPanic (wp_region_held_drew (S := fun W => Below wr.heap.size wr W ∧ W.cell? ⟨g1, 0, none⟩ = some (.bool s1.all) ∧ W.cell? ⟨g1, 1, none⟩ = some (.slice B1 s1.l.length d1) ∧ W.cell? ⟨g2, 0, none⟩ = some (.bool s2.all) ∧ W.cell? ⟨g2, 1, none⟩ = some (.slice B2 s2.l.length d2) ∧ W.cell? ⟨wx.heap.size, k, none⟩ = some (.string y)) (by kernel_rfl) (HKr.out _ um) (fun hS0 => ?_))
            refine wpAnyH_take (i := 0) (v := (.agg #[.bool s1.all, .slice B1 s1.l.length d1])) rfl (by kernel_rfl) (by kernel_rfl) (by kernel_rfl) (fun _ _ _ h => h) (Or.inl ⟨by rfl, ?_⟩) hS0 ?_
            · intro w' hSw
              obtain ⟨_, s0, s1', s2', s3', s4'⟩ := hSw
              go_simp
            simp only [List.getElem_toArray, List.getElem_cons_zero, Act.put, List.setIfInBounds_toArray, List.set_cons_zero, List.set_cons_succ]
            refine wpAnyH_take (i := 1) (v := (.agg #[.bool s2.all, .slice B2 s2.l.length d2])) rfl (by kernel_rfl) (by kernel_rfl) (by kernel_rfl) (fun _ _ _ h => h) (Or.inl ⟨by rfl, ?_⟩) hS0 ?_
            · intro w' hSw
              obtain ⟨_, s0, s1', s2', s3', s4'⟩ := hSw
              go_simp
            simp only [List.getElem_toArray, List.getElem_cons_succ, List.getElem_cons_zero, Act.put, List.setIfInBounds_toArray, List.set_cons_zero, List.set_cons_succ]
            refine wpAnyH_take (i := 3) (v := .slice (some ⟨wx.heap.size, 0, none⟩) 7 7) rfl (by kernel_rfl) (by kernel_rfl) (by kernel_rfl) (fun _ _ _ h => h) (Or.inl ⟨by rfl, ?_⟩) hS0 ?_
            · intro w' hSw
              obtain ⟨_, s0, s1', s2', s3', s4'⟩ := hSw
              go_simp
            simp only [List.getElem_toArray, List.getElem_cons_succ, List.getElem_cons_zero, Act.put, List.setIfInBounds_toArray, List.set_cons_zero, List.set_cons_succ]
            refine wpAnyH_take (i := 4) (v := .int .i64 k) rfl (by kernel_rfl) (by kernel_rfl) (by kernel_rfl) (fun _ _ _ h => h) (Or.inl ⟨by rfl, ?_⟩) hS0 ?_
            · intro w' hSw
              obtain ⟨_, s0, s1', s2', s3', s4'⟩ := hSw
              go_simp
            simp only [List.getElem_toArray, List.getElem_cons_succ, List.getElem_cons_zero, Act.put, List.setIfInBounds_toArray, List.set_cons_zero, List.set_cons_succ]
            refine wpAnyH_take (i := 5) (v := .pointer (some ⟨wx.heap.size, k, none⟩)) rfl (by kernel_rfl) (by kernel_rfl) (by kernel_rfl) (fun _ _ _ h => h) (Or.inl ⟨by rfl, ?_⟩) hS0 ?_
            · intro w' hSw
              obtain ⟨_, s0, s1', s2', s3', s4'⟩ := hSw
              go_simp
            simp only [List.getElem_toArray, List.getElem_cons_succ, List.getElem_cons_zero, Act.put, List.setIfInBounds_toArray, List.set_cons_zero, List.set_cons_succ]
            refine wpAnyH_take (i := 6) (v := .string y) rfl (by kernel_rfl) (by kernel_rfl) (by kernel_rfl) (fun _ _ _ h => h) (Or.inl ⟨by rfl, ?_⟩) hS0 ?_
            · intro w' hSw
              obtain ⟨_, s0, s1', s2', s3', s4'⟩ := hSw
              go_simp
            simp only [List.getElem_toArray, List.getElem_cons_succ, List.getElem_cons_zero, Act.put, List.setIfInBounds_toArray, List.set_cons_zero, List.set_cons_succ]
            refine wpAnyH_take (i := 8) (v := .bool true) rfl (by kernel_rfl) (by kernel_rfl) (by kernel_rfl) (fun _ _ _ h => h) (Or.inl ⟨by rfl, ?_⟩) hS0 ?_
            · intro w' hSw
              obtain ⟨_, s0, s1', s2', s3', s4'⟩ := hSw
              go_simp
            simp only [List.getElem_toArray, List.getElem_cons_succ, List.getElem_cons_zero, Act.put, List.setIfInBounds_toArray, List.set_cons_zero, List.set_cons_succ]
            refine wpAnyH_ready (rs := [2]) (by kernel_rfl) (by simp) (AllReadyH.cons rfl (fun K hK => ?_) AllReadyH.nil)
            simp only [List.getElem_toArray, List.getElem_cons_succ, List.getElem_cons_zero]
            go_simp
            refine (H1.out _ um).mono ?_
            rintro e v1 ⟨E1, ee1, rfl, j1, u1⟩
            refine hK.out _ _ (HKr.out _ u1) (fun hS0 => ?_)
            clear hK K
            refine wpAnyH_ready (rs := [7]) (by kernel_rfl) (by simp) (AllReadyH.cons rfl (fun K hK => ?_) AllReadyH.nil)
            simp only [List.getElem_toArray, List.getElem_cons_succ, List.getElem_cons_zero]
            go_simp
            refine (H2.out _ _ _ u1 j1).mono ?_
            rintro e v2 ⟨rfl, u2⟩
            refine hK.out _ _ (HKr.out _ u2) (fun hS0 => ?_)
            clear hK K
            refine wpAnyH_take (i := 9) (v := .bool true) rfl (by kernel_rfl) (by kernel_rfl) (by kernel_rfl) (fun _ _ _ h => h) (Or.inl ⟨by rfl, ?_⟩) hS0 ?_
            · intro w' hSw
              obtain ⟨_, s0, s1', s2', s3', s4'⟩ := hSw
              go_simp
            simp only [List.getElem_toArray, List.getElem_cons_succ, List.getElem_cons_zero, Act.put, List.setIfInBounds_toArray, List.set_cons_zero, List.set_cons_succ]
            refine wpAnyH_take (i := 10) (v := .bool true) rfl (by kernel_rfl) (by kernel_rfl) (by kernel_rfl) (fun _ _ _ h => h) (Or.inl ⟨by rfl, ?_⟩) hS0 ?_
            · intro w' hSw
              obtain ⟨_, s0, s1', s2', s3', s4'⟩ := hSw
              go_simp
            simp only [List.getElem_toArray, List.getElem_cons_succ, List.getElem_cons_zero, Act.put, List.setIfInBounds_toArray, List.set_cons_zero, List.set_cons_succ]
            refine wpAnyH_take (i := 11) (v := .bool true) rfl (by kernel_rfl) (by kernel_rfl) (by kernel_rfl) (fun _ _ _ h => h) (Or.inl ⟨by rfl, ?_⟩) hS0 ?_
            · intro w' hSw
              obtain ⟨_, s0, s1', s2', s3', s4'⟩ := hSw
              go_simp
            simp only [List.getElem_toArray, List.getElem_cons_succ, List.getElem_cons_zero, Act.put, List.setIfInBounds_toArray, List.set_cons_zero, List.set_cons_succ]
            refine wpAnyH_take (i := 12) (v := .bool false) rfl (by kernel_rfl) (by kernel_rfl) (by kernel_rfl) (fun _ _ _ h => h) (Or.inl ⟨by rfl, ?_⟩) hS0 ?_
            · intro w' hSw
              obtain ⟨_, s0, s1', s2', s3', s4'⟩ := hSw
              go_simp
            simp only [List.getElem_toArray, List.getElem_cons_succ, List.getElem_cons_zero, Act.put, List.setIfInBounds_toArray, List.set_cons_zero, List.set_cons_succ]
            refine wpAnyH_take (i := 13) (v := .bool false) rfl (by kernel_rfl) (by kernel_rfl) (by kernel_rfl) (fun _ _ _ h => h) (Or.inl ⟨by rfl, ?_⟩) hS0 ?_
            · intro w' hSw
              obtain ⟨_, s0, s1', s2', s3', s4'⟩ := hSw
              go_simp
            simp only [List.getElem_toArray, List.getElem_cons_succ, List.getElem_cons_zero, Act.put, List.setIfInBounds_toArray, List.set_cons_zero, List.set_cons_succ]
            refine wpAnyH_take (i := 14) (v := (.agg #[.bool s1.all, .slice B1 s1.l.length d1])) rfl (by kernel_rfl) (by kernel_rfl) (by kernel_rfl) (fun _ _ _ h => h) (Or.inl ⟨by rfl, ?_⟩) hS0 ?_
            · intro w' hSw
              obtain ⟨_, s0, s1', s2', s3', s4'⟩ := hSw
              go_simp
            simp only [List.getElem_toArray, List.getElem_cons_succ, List.getElem_cons_zero, Act.put, List.setIfInBounds_toArray, List.set_cons_zero, List.set_cons_succ]
            refine wpAnyH_take (i := 15) (v := (.agg #[.bool s2.all, .slice B2 s2.l.length d2])) rfl (by kernel_rfl) (by kernel_rfl) (by kernel_rfl) (fun _ _ _ h => h) (Or.inl ⟨by rfl, ?_⟩) hS0 ?_
            · intro w' hSw
              obtain ⟨_, s0, s1', s2', s3', s4'⟩ := hSw
              go_simp
            simp only [List.getElem_toArray, List.getElem_cons_succ, List.getElem_cons_zero, Act.put, List.setIfInBounds_toArray, List.set_cons_zero, List.set_cons_succ]
            refine wpAnyH_take (i := 17) (v := .slice (some ⟨wx.heap.size, 0, none⟩) 7 7) rfl (by kernel_rfl) (by kernel_rfl) (by kernel_rfl) (fun _ _ _ h => h) (Or.inl ⟨by rfl, ?_⟩) hS0 ?_
            · intro w' hSw
              obtain ⟨_, s0, s1', s2', s3', s4'⟩ := hSw
              go_simp
            simp only [List.getElem_toArray, List.getElem_cons_succ, List.getElem_cons_zero, Act.put, List.setIfInBounds_toArray, List.set_cons_zero, List.set_cons_succ]
            refine wpAnyH_take (i := 18) (v := .int .i64 k) rfl (by kernel_rfl) (by kernel_rfl) (by kernel_rfl) (fun _ _ _ h => h) (Or.inl ⟨by rfl, ?_⟩) hS0 ?_
            · intro w' hSw
              obtain ⟨_, s0, s1', s2', s3', s4'⟩ := hSw
              go_simp
            simp only [List.getElem_toArray, List.getElem_cons_succ, List.getElem_cons_zero, Act.put, List.setIfInBounds_toArray, List.set_cons_zero, List.set_cons_succ]
            refine wpAnyH_take (i := 19) (v := .pointer (some ⟨wx.heap.size, k, none⟩)) rfl (by kernel_rfl) (by kernel_rfl) (by kernel_rfl) (fun _ _ _ h => h) (Or.inl ⟨by rfl, ?_⟩) hS0 ?_
            · intro w' hSw
              obtain ⟨_, s0, s1', s2', s3', s4'⟩ := hSw
              go_simp
            simp only [List.getElem_toArray, List.getElem_cons_succ, List.getElem_cons_zero, Act.put, List.setIfInBounds_toArray, List.set_cons_zero, List.set_cons_succ]
            refine wpAnyH_take (i := 20) (v := .string y) rfl (by kernel_rfl) (by kernel_rfl) (by kernel_rfl) (fun _ _ _ h => h) (Or.inl ⟨by rfl, ?_⟩) hS0 ?_
            · intro w' hSw
              obtain ⟨_, s0, s1', s2', s3', s4'⟩ := hSw
              go_simp
            simp only [List.getElem_toArray, List.getElem_cons_succ, List.getElem_cons_zero, Act.put, List.setIfInBounds_toArray, List.set_cons_zero, List.set_cons_succ]
            refine wpAnyH_take (i := 22) (v := .bool true) rfl (by kernel_rfl) (by kernel_rfl) (by kernel_rfl) (fun _ _ _ h => h) (Or.inl ⟨by rfl, ?_⟩) hS0 ?_
            · intro w' hSw
              obtain ⟨_, s0, s1', s2', s3', s4'⟩ := hSw
              go_simp
            simp only [List.getElem_toArray, List.getElem_cons_succ, List.getElem_cons_zero, Act.put, List.setIfInBounds_toArray, List.set_cons_zero, List.set_cons_succ]
            refine wpAnyH_ready (rs := [16]) (by kernel_rfl) (by simp) (AllReadyH.cons rfl (fun K hK => ?_) AllReadyH.nil)
            simp only [List.getElem_toArray, List.getElem_cons_succ, List.getElem_cons_zero]
            go_simp
            refine (H3.out _ u2).mono ?_
            rintro e v3 ⟨E3, ee3, rfl, j3, u3⟩
            refine hK.out _ _ (HKr.out _ u3) (fun hS0 => ?_)
            clear hK K
            refine wpAnyH_ready (rs := [21]) (by kernel_rfl) (by simp) (AllReadyH.cons rfl (fun K hK => ?_) AllReadyH.nil)
            simp only [List.getElem_toArray, List.getElem_cons_succ, List.getElem_cons_zero]
            go_simp
            refine (H4.out _ _ _ u3 j3).mono ?_
            rintro e v4 ⟨rfl, u4⟩
            refine hK.out _ _ (HKr.out _ u4) (fun hS0 => ?_)
            clear hK K
            refine wpAnyH_take (i := 23) (v := .bool true) rfl (by kernel_rfl) (by kernel_rfl) (by kernel_rfl) (fun _ _ _ h => h) (Or.inl ⟨by rfl, ?_⟩) hS0 ?_
            · intro w' hSw
              obtain ⟨_, s0, s1', s2', s3', s4'⟩ := hSw
              go_simp
            simp only [List.getElem_toArray, List.getElem_cons_succ, List.getElem_cons_zero, Act.put, List.setIfInBounds_toArray, List.set_cons_zero, List.set_cons_succ]
            refine wpAnyH_take (i := 24) (v := undef) rfl (by kernel_rfl) (by kernel_rfl) (by kernel_rfl) (fun _ _ _ h => h) (Or.inr ⟨by rfl, rfl⟩) hS0 ?_
            simp only [List.getElem_toArray, List.getElem_cons_succ, List.getElem_cons_zero, Act.put, List.setIfInBounds_toArray, List.set_cons_zero, List.set_cons_succ]
            refine wpAnyH_take (i := 25) (v := .bool true) rfl (by kernel_rfl) (by kernel_rfl) (by kernel_rfl) (fun _ _ _ h => h) (Or.inl ⟨by rfl, ?_⟩) hS0 ?_
            · intro w' hSw
              obtain ⟨_, s0, s1', s2', s3', s4'⟩ := hSw
              go_simp
            simp only [List.getElem_toArray, List.getElem_cons_succ, List.getElem_cons_zero, Act.put, List.setIfInBounds_toArray, List.set_cons_zero, List.set_cons_succ]
            refine wpAnyH_take (i := 26) (v := .bool false) rfl (by kernel_rfl) (by kernel_rfl) (by kernel_rfl) (fun _ _ _ h => h) (Or.inl ⟨by rfl, ?_⟩) hS0 ?_
            · intro w' hSw
              obtain ⟨_, s0, s1', s2', s3', s4'⟩ := hSw
              go_simp
            simp only [List.getElem_toArray, List.getElem_cons_succ, List.getElem_cons_zero, Act.put, List.setIfInBounds_toArray, List.set_cons_zero, List.set_cons_succ]
            refine wpAnyH_take (i := 27) (v := .bool false) rfl (by kernel_rfl) (by kernel_rfl) (by kernel_rfl) (fun _ _ _ h => h) (Or.inl ⟨by rfl, ?_⟩) hS0 ?_
            · intro w' hSw
              obtain ⟨_, s0, s1', s2', s3', s4'⟩ := hSw
              go_simp
            simp only [List.getElem_toArray, List.getElem_cons_succ, List.getElem_cons_zero, Act.put, List.setIfInBounds_toArray, List.set_cons_zero, List.set_cons_succ]
            refine wpAnyH_take (i := 28) (v := .bool false) rfl (by kernel_rfl) (by kernel_rfl) (by kernel_rfl) (fun _ _ _ h => h) (Or.inl ⟨by rfl, ?_⟩) hS0 ?_
            · intro w' hSw
              obtain ⟨_, s0, s1', s2', s3', s4'⟩ := hSw
              go_simp
            simp only [List.getElem_toArray, List.getElem_cons_succ, List.getElem_cons_zero, Act.put, List.setIfInBounds_toArray, List.set_cons_zero, List.set_cons_succ]
            refine wpAnyH_take (i := 29) (v := (.agg #[.bool s1.all, .slice B1 s1.l.length d1])) rfl (by kernel_rfl) (by kernel_rfl) (by kernel_rfl) (fun _ _ _ h => h) (Or.inl ⟨by rfl, ?_⟩) hS0 ?_
            · intro w' hSw
              obtain ⟨_, s0, s1', s2', s3', s4'⟩ := hSw
              go_simp
            simp only [List.getElem_toArray, List.getElem_cons_succ, List.getElem_cons_zero, Act.put, List.setIfInBounds_toArray, List.set_cons_zero, List.set_cons_succ]
            refine wpAnyH_take (i := 31) (v := .slice (some ⟨wx.heap.size, 0, none⟩) 7 7) rfl (by kernel_rfl) (by kernel_rfl) (by kernel_rfl) (fun _ _ _ h => h) (Or.inl ⟨by rfl, ?_⟩) hS0 ?_
            · intro w' hSw
              obtain ⟨_, s0, s1', s2', s3', s4'⟩ := hSw
              go_simp
            simp only [List.getElem_toArray, List.getElem_cons_succ, List.getElem_cons_zero, Act.put, List.setIfInBounds_toArray, List.set_cons_zero, List.set_cons_succ]
            refine wpAnyH_take (i := 32) (v := .int .i64 k) rfl (by kernel_rfl) (by kernel_rfl) (by kernel_rfl) (fun _ _ _ h => h) (Or.inl ⟨by rfl, ?_⟩) hS0 ?_
            · intro w' hSw
              obtain ⟨_, s0, s1', s2', s3', s4'⟩ := hSw
              go_simp
            simp only [List.getElem_toArray, List.getElem_cons_succ, List.getElem_cons_zero, Act.put, List.setIfInBounds_toArray, List.set_cons_zero, List.set_cons_succ]
            refine wpAnyH_take (i := 33) (v := .pointer (some ⟨wx.heap.size, k, none⟩)) rfl (by kernel_rfl) (by kernel_rfl) (by kernel_rfl) (fun _ _ _ h => h) (Or.inl ⟨by rfl, ?_⟩) hS0 ?_
            · intro w' hSw
              obtain ⟨_, s0, s1', s2', s3', s4'⟩ := hSw
              go_simp
            simp only [List.getElem_toArray, List.getElem_cons_succ, List.getElem_cons_zero, Act.put, List.setIfInBounds_toArray, List.set_cons_zero, List.set_cons_succ]
            refine wpAnyH_take (i := 34) (v := .string y) rfl (by kernel_rfl) (by kernel_rfl) (by kernel_rfl) (fun _ _ _ h => h) (Or.inl ⟨by rfl, ?_⟩) hS0 ?_
            · intro w' hSw
              obtain ⟨_, s0, s1', s2', s3', s4'⟩ := hSw
              go_simp
            simp only [List.getElem_toArray, List.getElem_cons_succ, List.getElem_cons_zero, Act.put, List.setIfInBounds_toArray, List.set_cons_zero, List.set_cons_succ]
            refine wpAnyH_take (i := 36) (v := .bool true) rfl (by kernel_rfl) (by kernel_rfl) (by kernel_rfl) (fun _ _ _ h => h) (Or.inl ⟨by rfl, ?_⟩) hS0 ?_
            · intro w' hSw
              obtain ⟨_, s0, s1', s2', s3', s4'⟩ := hSw
              go_simp
            simp only [List.getElem_toArray, List.getElem_cons_succ, List.getElem_cons_zero, Act.put, List.setIfInBounds_toArray, List.set_cons_zero, List.set_cons_succ]
            refine wpAnyH_ready (rs := [30]) (by kernel_rfl) (by simp) (AllReadyH.cons rfl (fun K hK => ?_) AllReadyH.nil)
            simp only [List.getElem_toArray, List.getElem_cons_succ, List.getElem_cons_zero]
            go_simp
            refine (H5.out _ u4).mono ?_
            rintro e v5 ⟨E5, ee5, rfl, j5, u5⟩
            refine hK.out _ _ (HKr.out _ u5) (fun hS0 => ?_)
            clear hK K
            refine wpAnyH_ready (rs := [35]) (by kernel_rfl) (by simp) (AllReadyH.cons rfl (fun K hK => ?_) AllReadyH.nil)
            simp only [List.getElem_toArray, List.getElem_cons_succ, List.getElem_cons_zero]
            go_simp
            refine (H6.out _ _ _ u5 j5).mono ?_
            rintro e v6 ⟨rfl, u6⟩
            refine hK.out _ _ (HKr.out _ u6) (fun hS0 => ?_)
            clear hK K
            refine wpAnyH_take (i := 37) (v := .bool false) rfl (by kernel_rfl) (by kernel_rfl) (by kernel_rfl) (fun _ _ _ h => h) (Or.inl ⟨by rfl, ?_⟩) hS0 ?_
            · intro w' hSw
              obtain ⟨_, s0, s1', s2', s3', s4'⟩ := hSw
              go_simp
            simp only [List.getElem_toArray, List.getElem_cons_succ, List.getElem_cons_zero, Act.put, List.setIfInBounds_toArray, List.set_cons_zero, List.set_cons_succ]
            refine wpAnyH_take (i := 38) (v := .bool false) rfl (by kernel_rfl) (by kernel_rfl) (by kernel_rfl) (fun _ _ _ h => h) (Or.inl ⟨by rfl, ?_⟩) hS0 ?_
            · intro w' hSw
              obtain ⟨_, s0, s1', s2', s3', s4'⟩ := hSw
              go_simp
            simp only [List.getElem_toArray, List.getElem_cons_succ, List.getElem_cons_zero, Act.put, List.setIfInBounds_toArray, List.set_cons_zero, List.set_cons_succ]
            refine wpAnyH_done (by kernel_rfl) ?_ _
            refine NoPanic.normal ?_
            go_wp2_with fail
            go_roundw
            case rel => exact ⟨k + 1, by omega, by go_num, hbr.trans (u6.mono hbs)⟩
            case measure => simp [intOf]; omega
      · obtain rfl : k = 7 := by omega
        as_aux_lemma =>
          have m6_ : same (nott (both s1 s2)) (either (nott s1) (nott s2)) = true := same_of (by show (!(s1.all && s2.all)) = (!s1.all || !s2.all); cases s1.all <;> cases s2.all <;> rfl) (fun x => by rw [nott_mem, both_mem, either_mem, nott_mem, nott_mem]; cases s1.mem x <;> cases s2.mem x <;> rfl)
          have m12_ : same (both s1 (either s2 s3)) (either (both s1 s2) (both s1 s3)) = true := same_of (by show (s1.all && (s2.all || s3.all)) = ((s1.all && s2.all) || (s1.all && s3.all)); cases s1.all <;> cases s2.all <;> cases s3.all <;> rfl) (fun x => by rw [both_mem, either_mem, either_mem, both_mem, both_mem]; cases s1.mem x <;> cases s2.mem x <;> cases s3.mem x <;> rfl)
          have m15_ : same (nott (nott s1)) s1 = true := same_of (by simp [nott]) (fun x => by rw [nott_mem, nott_mem, Bool.not_not])
          have m18_ : (both s1 (nott s1)).none = true := none_of (by simp [both, comb, fr, nott]) (fun x => by rw [both_mem, nott_mem]; cases s1.mem x <;> rfl)
          have y1 := both_le s1 s2
          have y2 := nott_le (both s1 s2)
          have y3 := nott_le s1
          have y4 := nott_le s2
          have y5 := either_le (nott s1) (nott s2)
          have y7 := either_le s2 s3
          have y8 := both_le s1 (either s2 s3)
          have y10 := both_le s1 s3
          have y11 := either_le (both s1 s2) (both s1 s3)
          have y14 := nott_le (nott s1)
          have y17 := both_le s1 (nott s1)
          have H1 : Hid (∀ W, Below wr.heap.size wr W → Calls Try.prog 49 #[.agg #[.bool s1.all, .slice B1 s1.l.length d1], .agg #[.bool s2.all, .slice B2 s2.l.length d2]] W (Told (both s1 s2) W)) := Lib.hid (fun W hb => both_any s1 s2 _ _ _ _ _ _ W (n1.below hb) (n2'.below hb) (by omega) (by omega))
          have H2 : Hid (∀ W F1 f1, Below wr.heap.size wr W → In W (both s1 s2) F1 (both s1 s2).l.length → Calls Try.prog 53 #[.agg #[.bool (both s1 s2).all, .slice F1 (both s1 s2).l.length f1]] W (Told (nott (both s1 s2)) W)) := Lib.hid (fun W F1 f1 hb h1 => not_any (both s1 s2) _ _ _ W h1 (by omega))
          have H3 : Hid (∀ W, Below wr.heap.size wr W → Calls Try.prog 53 #[.agg #[.bool s1.all, .slice B1 s1.l.length d1]] W (Told (nott s1) W)) := Lib.hid (fun W hb => not_any s1 _ _ _ W (n1.below hb) (by omega))
          have H4 : Hid (∀ W, Below wr.heap.size wr W → Calls Try.prog 53 #[.agg #[.bool s2.all, .slice B2 s2.l.length d2]] W (Told (nott s2) W)) := Lib.hid (fun W hb => not_any s2 _ _ _ W (n2'.below hb) (by omega))
          have H5 : Hid (∀ W F3 f3 F4 f4, Below wr.heap.size wr W → In W (nott s1) F3 (nott s1).l.length → In W (nott s2) F4 (nott s2).l.length → Calls Try.prog 51 #[.agg #[.bool (nott s1).all, .slice F3 (nott s1).l.length f3], .agg #[.bool (nott s2).all, .slice F4 (nott s2).l.length f4]] W (Told (either (nott s1) (nott s2)) W)) := Lib.hid (fun W F3 f3 F4 f4 hb h3 h4 => either_any (nott s1) (nott s2) _ _ _ _ _ _ W h3 h4 (by omega) (by omega))
          have H6 : Hid (∀ W F2 f2 F5 f5, Below wr.heap.size wr W → In W (nott (both s1 s2)) F2 (nott (both s1 s2)).l.length → In W (either (nott s1) (nott s2)) F5 (either (nott s1) (nott s2)).l.length → Calls Try.prog 55 #[.agg #[.bool (nott (both s1 s2)).all, .slice F2 (nott (both s1 s2)).l.length f2], .agg #[.bool (either (nott s1) (nott s2)).all, .slice F5 (either (nott s1) (nott s2)).l.length f5]] W (fun e w' => e = .returned (.bool true) ∧ Below W.heap.size W w')) := Lib.hid (fun W F2 f2 F5 f5 hb h2 h5 => by have := same_any (nott (both s1 s2)) (either (nott s1) (nott s2)) _ _ _ f2 _ f5 W h2 h5 (by omega) (by omega); rw [m6_] at this; exact this)
          have H7 : Hid (∀ W, Below wr.heap.size wr W → Calls Try.prog 51 #[.agg #[.bool s2.all, .slice B2 s2.l.length d2], .agg #[.bool s3.all, .slice B3 s3.l.length d3]] W (Told (either s2 s3) W)) := Lib.hid (fun W hb => either_any s2 s3 _ _ _ _ _ _ W (n2'.below hb) (n3'.below hb) (by omega) (by omega))
          have H8 : Hid (∀ W F7 f7, Below wr.heap.size wr W → In W (either s2 s3) F7 (either s2 s3).l.length → Calls Try.prog 49 #[.agg #[.bool s1.all, .slice B1 s1.l.length d1], .agg #[.bool (either s2 s3).all, .slice F7 (either s2 s3).l.length f7]] W (Told (both s1 (either s2 s3)) W)) := Lib.hid (fun W F7 f7 hb h7 => both_any s1 (either s2 s3) _ _ _ _ _ _ W (n1.below hb) h7 (by omega) (by omega))
          have H9 : Hid (∀ W, Below wr.heap.size wr W → Calls Try.prog 49 #[.agg #[.bool s1.all, .slice B1 s1.l.length d1], .agg #[.bool s2.all, .slice B2 s2.l.length d2]] W (Told (both s1 s2) W)) := Lib.hid (fun W hb => both_any s1 s2 _ _ _ _ _ _ W (n1.below hb) (n2'.below hb) (by omega) (by omega))
          have H10 : Hid (∀ W, Below wr.heap.size wr W → Calls Try.prog 49 #[.agg #[.bool s1.all, .slice B1 s1.l.length d1], .agg #[.bool s3.all, .slice B3 s3.l.length d3]] W (Told (both s1 s3) W)) := Lib.hid (fun W hb => both_any s1 s3 _ _ _ _ _ _ W (n1.below hb) (n3'.below hb) (by omega) (by omega))
          have H11 : Hid (∀ W F9 f9 F10 f10, Below wr.heap.size wr W → In W (both s1 s2) F9 (both s1 s2).l.length → In W (both s1 s3) F10 (both s1 s3).l.length → Calls Try.prog 51 #[.agg #[.bool (both s1 s2).all, .slice F9 (both s1 s2).l.length f9], .agg #[.bool (both s1 s3).all, .slice F10 (both s1 s3).l.length f10]] W (Told (either (both s1 s2) (both s1 s3)) W)) := Lib.hid (fun W F9 f9 F10 f10 hb h9 h10 => either_any (both s1 s2) (both s1 s3) _ _ _ _ _ _ W h9 h10 (by omega) (by omega))
          have H12 : Hid (∀ W F8 f8 F11 f11, Below wr.heap.size wr W → In W (both s1 (either s2 s3)) F8 (both s1 (either s2 s3)).l.length → In W (either (both s1 s2) (both s1 s3)) F11 (either (both s1 s2) (both s1 s3)).l.length → Calls Try.prog 55 #[.agg #[.bool (both s1 (either s2 s3)).all, .slice F8 (both s1 (either s2 s3)).l.length f8], .agg #[.bool (either (both s1 s2) (both s1 s3)).all, .slice F11 (either (both s1 s2) (both s1 s3)).l.length f11]] W (fun e w' => e = .returned (.bool true) ∧ Below W.heap.size W w')) := Lib.hid (fun W F8 f8 F11 f11 hb h8 h11 => by have := same_any (both s1 (either s2 s3)) (either (both s1 s2) (both s1 s3)) _ _ _ f8 _ f11 W h8 h11 (by omega) (by omega); rw [m12_] at this; exact this)
          have H13 : Hid (∀ W, Below wr.heap.size wr W → Calls Try.prog 53 #[.agg #[.bool s1.all, .slice B1 s1.l.length d1]] W (Told (nott s1) W)) := Lib.hid (fun W hb => not_any s1 _ _ _ W (n1.below hb) (by omega))
          have H14 : Hid (∀ W F13 f13, Below wr.heap.size wr W → In W (nott s1) F13 (nott s1).l.length → Calls Try.prog 53 #[.agg #[.bool (nott s1).all, .slice F13 (nott s1).l.length f13]] W (Told (nott (nott s1)) W)) := Lib.hid (fun W F13 f13 hb h13 => not_any (nott s1) _ _ _ W h13 (by omega))
          have H15 : Hid (∀ W F14 f14, Below wr.heap.size wr W → In W (nott (nott s1)) F14 (nott (nott s1)).l.length → Calls Try.prog 55 #[.agg #[.bool (nott (nott s1)).all, .slice F14 (nott (nott s1)).l.length f14], .agg #[.bool s1.all, .slice B1 s1.l.length d1]] W (fun e w' => e = .returned (.bool true) ∧ Below W.heap.size W w')) := Lib.hid (fun W F14 f14 hb h14 => by have := same_any (nott (nott s1)) s1 _ _ _ f14 _ d1 W h14 (n1.below hb) (by omega) (by omega); rw [m15_] at this; exact this)
          have H16 : Hid (∀ W, Below wr.heap.size wr W → Calls Try.prog 53 #[.agg #[.bool s1.all, .slice B1 s1.l.length d1]] W (Told (nott s1) W)) := Lib.hid (fun W hb => not_any s1 _ _ _ W (n1.below hb) (by omega))
          have H17 : Hid (∀ W F16 f16, Below wr.heap.size wr W → In W (nott s1) F16 (nott s1).l.length → Calls Try.prog 49 #[.agg #[.bool s1.all, .slice B1 s1.l.length d1], .agg #[.bool (nott s1).all, .slice F16 (nott s1).l.length f16]] W (Told (both s1 (nott s1)) W)) := Lib.hid (fun W F16 f16 hb h16 => both_any s1 (nott s1) _ _ _ _ _ _ W (n1.below hb) h16 (by omega) (by omega))
          have H18 : Hid (∀ W F17 f17, Below wr.heap.size wr W → In W (both s1 (nott s1)) F17 (both s1 (nott s1)).l.length → Calls Try.prog 57 #[.agg #[.bool (both s1 (nott s1)).all, .slice F17 (both s1 (nott s1)).l.length f17]] W (fun e w' => e = .returned (.bool true) ∧ Below W.heap.size W w')) := Lib.hid (fun W F17 f17 hb h17 => by have := none_any (both s1 (nott s1)).all F17 (both s1 (nott s1)).l.length f17 W; rw [show (!(both s1 (nott s1)).all && decide ((both s1 (nott s1)).l.length = 0)) = true from m18_] at this; exact this)
          clear m6_ m12_ m15_ m18_ y1 y2 y3 y4 y5 y7 y8 y10 y11 y14 y17
          have HKr := Lib.hid (fun W (hb : Below wr.heap.size wr W) => have t0 := box2 (Below.box hb q1); have t1 := box2 (Below.box hb q2); have t2 := box2 (Below.box hb q3); (⟨hb, t0.1, t0.2.1, t1.1, t1.2.1, t2.1, t2.2.1⟩ : Below wr.heap.size wr W ∧ W.cell? ⟨g1, 0, none⟩ = some (.bool s1.all) ∧ W.cell? ⟨g1, 1, none⟩ = some (.slice B1 s1.l.length d1) ∧ W.cell? ⟨g2, 0, none⟩ = some (.bool s2.all) ∧ W.cell? ⟨g2, 1, none⟩ = some (.slice B2 s2.l.length d2) ∧ W.cell? ⟨g3, 0, none⟩ = some (.bool s3.all) ∧ W.cell? ⟨g3, 1, none⟩ = some (.slice B3 s3.l.length d3)))
          have r0 : Below wr.heap.size wr wr.drew := (Below.refl _ _).drew
          clear q1 q2 q3 n1 n2' n3' hlt
          go_wp2_with fail
          go_region_held3 (fun W => Below wr.heap.size wr W ∧ W.cell? ⟨g1, 0, none⟩ = some (.bool s1.all) ∧ W.cell? ⟨g1, 1, none⟩ = some (.slice B1 s1.l.length d1) ∧ W.cell? ⟨g2, 0, none⟩ = some (.bool s2.all) ∧ W.cell? ⟨g2, 1, none⟩ = some (.slice B2 s2.l.length d2) ∧ W.cell? ⟨g3, 0, none⟩ = some (.bool s3.all) ∧ W.cell? ⟨g3, 1, none⟩ = some (.slice B3 s3.l.length d3))
            (first | exact HKr.out _ r18 | exact HKr.out _ r17 | exact HKr.out _ r16 | exact HKr.out _ r15 | exact HKr.out _ r14 | exact HKr.out _ r13 | exact HKr.out _ r12 | exact HKr.out _ r11 | exact HKr.out _ r10 | exact HKr.out _ r9 | exact HKr.out _ r8 | exact HKr.out _ r7 | exact HKr.out _ r6 | exact HKr.out _ r5 | exact HKr.out _ r4 | exact HKr.out _ r3 | exact HKr.out _ r2 | exact HKr.out _ r1 | exact HKr.out _ r0)
            (first
            | (go_at_call 49; (with_reducible refine (H1.out _ r0).mono ?_); rintro e v1 ⟨E1, ee1, rfl, hs1, gg1⟩; have i1_1 := told_in hs1; have r1 := r0.trans (gg1.mono r0.size))
            | (go_at_call 53; (with_reducible refine (H2.out _ _ _ r1 i1_1).mono ?_); rintro e v2 ⟨E2, ee2, rfl, hs2, gg2⟩; have i2_2 := told_in hs2; have r2 := r1.trans (gg2.mono r1.size))
            | (go_at_call 53; (with_reducible refine (H3.out _ r2).mono ?_); rintro e v3 ⟨E3, ee3, rfl, hs3, gg3⟩; have i3_3 := told_in hs3; have r3 := r2.trans (gg3.mono r2.size); have i2_3 := i2_2.below gg3)
            | (go_at_call 53; (with_reducible refine (H4.out _ r3).mono ?_); rintro e v4 ⟨E4, ee4, rfl, hs4, gg4⟩; have i4_4 := told_in hs4; have r4 := r3.trans (gg4.mono r3.size); have i2_4 := i2_3.below gg4; have i3_4 := i3_3.below gg4)
            | (go_at_call 51; (with_reducible refine (H5.out _ _ _ _ _ r4 i3_4 i4_4).mono ?_); rintro e v5 ⟨E5, ee5, rfl, hs5, gg5⟩; have i5_5 := told_in hs5; have r5 := r4.trans (gg5.mono r4.size); have i2_5 := i2_4.below gg5)
            | (go_at_call 55; (with_reducible refine (H6.out _ _ _ _ _ r5 i2_5 i5_5).mono ?_); rintro e v6 ⟨rfl, gg6⟩; have r6 := r5.trans (gg6.mono r5.size))
            | (go_at_call 51; (with_reducible refine (H7.out _ r6).mono ?_); rintro e v7 ⟨E7, ee7, rfl, hs7, gg7⟩; have i7_7 := told_in hs7; have r7 := r6.trans (gg7.mono r6.size))
            | (go_at_call 49; (with_reducible refine (H8.out _ _ _ r7 i7_7).mono ?_); rintro e v8 ⟨E8, ee8, rfl, hs8, gg8⟩; have i8_8 := told_in hs8; have r8 := r7.trans (gg8.mono r7.size))
            | (go_at_call 49; (with_reducible refine (H9.out _ r8).mono ?_); rintro e v9 ⟨E9, ee9, rfl, hs9, gg9⟩; have i9_9 := told_in hs9; have r9 := r8.trans (gg9.mono r8.size); have i8_9 := i8_8.below gg9)
            | (go_at_call 49; (with_reducible refine (H10.out _ r9).mono ?_); rintro e v10 ⟨E10, ee10, rfl, hs10, gg10⟩; have i10_10 := told_in hs10; have r10 := r9.trans (gg10.mono r9.size); have i8_10 := i8_9.below gg10; have i9_10 := i9_9.below gg10)
            | (go_at_call 51; (with_reducible refine (H11.out _ _ _ _ _ r10 i9_10 i10_10).mono ?_); rintro e v11 ⟨E11, ee11, rfl, hs11, gg11⟩; have i11_11 := told_in hs11; have r11 := r10.trans (gg11.mono r10.size); have i8_11 := i8_10.below gg11)
            | (go_at_call 55; (with_reducible refine (H12.out _ _ _ _ _ r11 i8_11 i11_11).mono ?_); rintro e v12 ⟨rfl, gg12⟩; have r12 := r11.trans (gg12.mono r11.size))
            | (go_at_call 53; (with_reducible refine (H13.out _ r12).mono ?_); rintro e v13 ⟨E13, ee13, rfl, hs13, gg13⟩; have i13_13 := told_in hs13; have r13 := r12.trans (gg13.mono r12.size))
            | (go_at_call 53; (with_reducible refine (H14.out _ _ _ r13 i13_13).mono ?_); rintro e v14 ⟨E14, ee14, rfl, hs14, gg14⟩; have i14_14 := told_in hs14; have r14 := r13.trans (gg14.mono r13.size))
            | (go_at_call 55; (with_reducible refine (H15.out _ _ _ r14 i14_14).mono ?_); rintro e v15 ⟨rfl, gg15⟩; have r15 := r14.trans (gg15.mono r14.size))
            | (go_at_call 53; (with_reducible refine (H16.out _ r15).mono ?_); rintro e v16 ⟨E16, ee16, rfl, hs16, gg16⟩; have i16_16 := told_in hs16; have r16 := r15.trans (gg16.mono r15.size))
            | (go_at_call 49; (with_reducible refine (H17.out _ _ _ r16 i16_16).mono ?_); rintro e v17 ⟨E17, ee17, rfl, hs17, gg17⟩; have i17_17 := told_in hs17; have r17 := r16.trans (gg17.mono r16.size))
            | (go_at_call 57; (with_reducible refine (H18.out _ _ _ r17 i17_17).mono ?_); rintro e v18 ⟨rfl, gg18⟩; have r18 := r17.trans (gg18.mono r17.size)))
          all_goals
            go_wp2_with fail
            go_ret
            exact ⟨rfl, hw4.out.trans ((hbr.trans (r18.mono hbs)).mono hzw)⟩
end Go.Proofs.Ytnjabeeogmldlaa.Nm
