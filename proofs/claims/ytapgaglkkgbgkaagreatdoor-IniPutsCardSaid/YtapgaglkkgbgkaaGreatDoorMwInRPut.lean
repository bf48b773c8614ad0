/- ini's rows put: a line with another value; what stays of a line. Conditions: texts of at most 5000 bytes, the value stands within the text. · ini.without: the edges that have no partner. Conditions: fewer than 100000 of each. · ini: bounds of what is put. No conditions. -/
import Derived.Test.YtapgaglkkgbgkaaGreatDoorMwInSelf
import Derived.Test.YtapgaglkkgbgkaaGreatDoorMwRcRows
import Derived.Deep.RegionHeld3
import Derived.Deep.RegionWith
import Derived.Deep.RegionLaw
import Derived.Outline
import Derived.Test.YtapgaglkkgbgkaaGreatDoorMwEdg
import Derived.WalkMore
import Derived.ScopeJumps
import Derived.Test.YtapgaglkkgbgkaaGreatDoorMwInOwn
import Derived.Test.YtapgaglkkgbgkaaGreatDoorCwPut
namespace Go.Proofs.YtapgaglkkgbgkaaGreatDoor.In
open Go.RowKit Go.Proofs.YtapgaglkkgbgkaaGreatDoor.Jd Go.Proofs.YtapgaglkkgbgkaaGreatDoor.Li Go.Proofs.YtapgaglkkgbgkaaGreatDoor.Cl Go.Proofs.YtapgaglkkgbgkaaGreatDoor.Cv Go.Proofs.YtapgaglkkgbgkaaGreatDoor.Pt
set_option maxRecDepth 100000

/-- A box of a line. -/
def Lb (w : World) (g : Nat) (a b : Value) : Prop := w.heap[g]? = some (.cells #[a, b] 85 (0, 0))
section
variable {w w' : World} {g : Nat} {a b : Value}
theorem Lb.lt (h : Lb w g a b) : g < w.heap.size := (Array.getElem?_eq_some_iff.1 h).1
theorem Lb.cells (h : Lb w g a b) : w.cell? ⟨g, 0, none⟩ = some a ∧ w.cell? ⟨g, 1, none⟩ = some b := ⟨by rw [cell_of_row _ _ _ _ _ _ h]; rfl, by rw [cell_of_row _ _ _ _ _ _ h]; rfl⟩
theorem Lb.free (h : Lb w g a b) : w.frozen? ⟨g, 0, none⟩ = false ∧ w.frozen? ⟨g, 1, none⟩ = false := by
  have h' : w.heap[g]? = some (.cells #[a, b] 85 (0, 0)) := h
  exact ⟨by simp [World.frozen?, h'], by simp [World.frozen?, h']⟩
theorem Lb.below (h : Lb w g a b) (hb : Below w.heap.size w w') : Lb w' g a b := (hb.block _ h.lt).trans h
theorem Lb.set (h : Lb w g a b) (x0 x1 : Value) : Lb ((w.setCell ⟨g, 0, none⟩ x0).setCell ⟨g, 1, none⟩ x1) g x0 x1 := by
  unfold Lb
  rw [heap_setCell_same _ g 1 _ _ _ (heap_setCell_same w g 0 _ _ _ h)]
  rfl
end
theorem below2 {B : Nat} {w w' : World} {g : Nat} (h : Below B w w') (hg : B ≤ g) (x0 x1 : Value) : Below B w ((w'.setCell ⟨g, 0, none⟩ x0).setCell ⟨g, 1, none⟩ x1) :=
  (h.setCell (p := ⟨g, 0, none⟩) hg x0).setCell (p := ⟨g, 1, none⟩) hg x1
/-- The two boxes: the row, the line to be answered. -/
abbrev duo (w : World) (t e s v : ByteArray) (k p : Nat) : World := (w.alloc (Obj.cells #[.string t, .string e, .int .i64 k, .string s, .string v, .int .i64 p] 114)).alloc (Obj.cells #[.string ⟨#[]⟩, .string ⟨#[]⟩] 85)
theorem duo_ok (w : World) (t e s v : ByteArray) (k p : Nat) : Below w.heap.size w (duo w t e s v k p) ∧ ∀ W, Below (duo w t e s v k p).heap.size (duo w t e s v k p) W → W.cell? ⟨w.heap.size, 0, none⟩ = some (.string t) ∧ W.cell? ⟨w.heap.size, 1, none⟩ = some (.string e) ∧ W.cell? ⟨w.heap.size, 2, none⟩ = some (.int .i64 k) ∧ W.cell? ⟨w.heap.size, 3, none⟩ = some (.string s) ∧ W.cell? ⟨w.heap.size, 4, none⟩ = some (.string v) ∧ W.cell? ⟨w.heap.size, 5, none⟩ = some (.int .i64 p) ∧ Lb W (w.heap.size + 1) (.string ⟨#[]⟩) (.string ⟨#[]⟩) := by
  have h1 := heap_alloc_new w (Obj.cells #[.string t, .string e, .int .i64 k, .string s, .string v, .int .i64 p] 114)
  have h2 : (duo w t e s v k p).heap[w.heap.size]? = some (Obj.cells #[.string t, .string e, .int .i64 k, .string s, .string v, .int .i64 p] 114) := (Below.heap_alloc _ _ _ (by simp)).trans h1
  have h3 : Lb (duo w t e s v k p) (w.heap.size + 1) (.string ⟨#[]⟩) (.string ⟨#[]⟩) := by
    have := heap_alloc_new (w.alloc (Obj.cells #[.string t, .string e, .int .i64 k, .string s, .string v, .int .i64 p] 114)) (Obj.cells #[.string ⟨#[]⟩, .string ⟨#[]⟩] 85)
    simpa [Lb] using this
  have hl := (Array.getElem?_eq_some_iff.1 h2).1
  have hc : ∀ (W : World), Below (duo w t e s v k p).heap.size (duo w t e s v k p) W → ∀ j, W.cell? ⟨w.heap.size, j, none⟩ = #[Value.string t, .string e, .int .i64 k, .string s, .string v, .int .i64 p][j]? := fun W hW j => (hW.cell (p := ⟨w.heap.size, j, none⟩) hl).trans (by rw [cell_of_row _ _ _ _ _ _ h2])
  exact ⟨((Below.refl _ _).alloc (Nat.le_refl _) _).alloc (by simp) _, fun W hW => ⟨hc W hW 0, hc W hW 1, hc W hW 2, hc W hW 3, hc W hW 4, hc W hW 5, h3.below hW⟩⟩

set_option maxHeartbeats 8000000 in
theorem with_any (t e s v x : ByteArray) (k p : Nat) (w : World) (ht : t.size ≤ 5000) (hx : x.size ≤ 5000) (hp : p + v.size ≤ t.size) :
    Calls Tryz.prog 102 #[.agg #[.string t, .string e, .int .i64 k, .string s, .string v, .int .i64 p], .string x] w fun en w' => ∃ y : ByteArray, y.data.toList = t.data.toList.take p ++ x.data.toList ++ t.data.toList.drop (p + v.size) ∧ en = .returned (.agg #[.string y, .string e]) ∧ Below w.heap.size w w' := by
  obtain ⟨W1, hW1⟩ : ∃ W, W = duo w t e s v k p := ⟨_, rfl⟩
  obtain ⟨hb1, hk1⟩ := duo_ok w t e s v k p
  rw [← hW1] at hb1 hk1
  unfold duo at hW1
  have HK := Lib.hid hk1
  have HB1 := Lib.hid hb1
  obtain ⟨q, hq⟩ : ∃ q, q = p + v.size := ⟨_, rfl⟩
  have hw1 : IntKind.i64.wrap ((p : Int) + (v.size : Int)) = (q : Int) := by rw [IntKind.wrap_i64]; omega
  have hx1 : (t.extract 0 p).size ≤ 5000 := by rw [ByteArray.size_extract]; omega
  have hx2 : (t.extract q t.size).size ≤ 5000 := by rw [ByteArray.size_extract]; omega
  have ha1 := fun W => run_string_add_sum (P := Tryz.prog) (w := W) (t.extract 0 p) x (by omega)
  have ha2 := fun W => run_string_add_sum (P := Tryz.prog) (w := W) (t.extract 0 p ++ x) (t.extract q t.size) (by rw [ByteArray.size_append]; omega)
  have hyl : ((t.extract 0 p ++ x) ++ t.extract q t.size).data.toList = t.data.toList.take p ++ x.data.toList ++ t.data.toList.drop (p + v.size) := by
    rw [ByteArray.data_append, Array.toList_append, ByteArray.data_append, Array.toList_append, ← hq]
    congr 1
    · congr 1
      have e := ext_sl t 0 p
      injection e with e
      rw [e, sl]
      rfl
    · have e := ext_sl t q t.size
      injection e with e
      rw [e, sl]
      show List.drop q (List.take t.size t.data.toList) = _
      rw [show t.size = t.data.toList.length from rfl, List.take_length]
  obtain ⟨t1, ht1⟩ : ∃ t1, t1 = t.extract 0 p ++ x := ⟨_, rfl⟩
  rw [← ht1] at ha1 ha2 hyl
  obtain ⟨y, hy⟩ : ∃ y, y = t1 ++ t.extract q t.size := ⟨_, rfl⟩
  rw [← hy] at ha2 hyl
  have Hyl := Lib.hid hyl
  have hp0 : (0 : Int) ≤ (p : Int) := by omega
  have hp1 : (p : Int) ≤ (t.size : Int) := by omega
  have hq0 : (0 : Int) ≤ (q : Int) := by omega
  have hq1 : (q : Int) ≤ (t.size : Int) := by omega
  have hg1 : w.heap.size ≤ w.heap.size + 1 := Nat.le_succ _
  clear hb1 hk1 hyl ht1 hy hq hx1 hx2
  go_enter Tryz.func102, Tryz.ntmps102
  go_upto_region 1 with (fail)
  rw [← hW1]
  clear hW1
  obtain ⟨l0, l1, l2, l3, l4, l5, hz⟩ := HK.out W1 (Below.refl _ _)
  obtain ⟨c0, c1⟩ := hz.cells
  obtain ⟨z0, z1⟩ := hz.free
  have HZ := Lib.hid hz
  clear hz
  have hS : ∀ W : World, (∀ j, W.cell? ⟨w.heap.size, j, none⟩ = W1.cell? ⟨w.heap.size, j, none⟩) → W.cell? ⟨w.heap.size, 1, none⟩ = some (.string e) ∧ W.cell? ⟨w.heap.size, 4, none⟩ = some (.string v) ∧ W.cell? ⟨w.heap.size, 5, none⟩ = some (.int .i64 p) := fun W hW => ⟨(hW 1).trans l1, (hW 4).trans l4, (hW 5).trans l5⟩
  have HS := Lib.hid hS
  have hS1 := HS.out W1.drew (fun _ => rfl)
  clear hS
  go_upto_region 2 with (fail)
  go_region_held3 (fun W => W.cell? ⟨w.heap.size, 1, none⟩ = some (.string e) ∧ W.cell? ⟨w.heap.size, 4, none⟩ = some (.string v) ∧ W.cell? ⟨w.heap.size, 5, none⟩ = some (.int .i64 p))
    (first | exact hS1 | exact HS.out _ (fun j => (World.cell?_setCell_far _ _ _ _ (by simp only [ne_eq]; omega)).trans (World.cell?_setCell_far _ _ _ _ (by simp only [ne_eq]; omega))))
    (fail)
  all_goals
    have HBx := Lib.hid (HB1.out.trans ((Below.refl W1.heap.size W1).drew.mono HB1.out.size))
    go_wp2_with fail
    obtain ⟨d0, d1⟩ := (HZ.out.set (.string y) (.string e)).cells
    refine bodyPost_ret (v := .agg #[.string y, .string e]) (by simp [results, Tryz.results102, go_sem, d0, d1]) rfl ?_
    exact ⟨y, Hyl.out, rfl, below2 HBx.out hg1 _ _⟩

theorem get_one {k : Tr} {s : ByteArray} (ha : allT fkB k = true) (hn : N80 k) (h : (getT k [s]).2 = true) : ∃ v, (getT k [s]).1 = .cons v .nil .nil ∧ v.size ≤ 80 := by
  rw [getT] at h ⊢
  by_cases hat : k.atIs s = true
  · rw [if_pos hat]
    obtain ⟨r, hr⟩ := kid_drop hat
    obtain ⟨_, v, hv, _, _⟩ := fk_form (allT_at ha hr)
    have hn2 := n80_drop k (k.atN s) hn
    rw [hr, hv] at hn2
    refine ⟨v, ?_, hn2.2.1.1⟩
    rw [getT]
    exact hv
  · rw [if_neg hat] at h
    cases h
/-- What a row's put answers. -/
def RpP (k : Tr) (is : Bool) (R : Ro) (w : World) (en : Ending) (w' : World) : Prop :=
  ∃ (y z : ByteArray) (b : Bool), en = .returned (.tuple #[.agg #[.string y, .string z], .bool b]) ∧ putRow k is R = (if b = true then some (y.data.toList, z.data.toList) else none) ∧ Below w.heap.size w w'
set_option maxHeartbeats 16000000 in
theorem rput_any (k : Tr) (is : Bool) (t e s v : ByteArray) (kd p : Nat) (A : Option Addr) (n c : Nat) (w : World) (ht : t.size ≤ 5000) (hp : p + v.size ≤ t.size) (h : Holds w w.heap.size A n k) (ha : AscD k) (hz : k.size ≤ 400) (hk : allT fkB k = true) (hn : N80 k) :
    Calls Tryz.prog 81 #[.agg #[.string t, .string e, .int .i64 kd, .string s, .string v, .int .i64 p], .slice A n c, .bool is] w (RpP k is ⟨(t.data.toList, e.data.toList), kd, s.data.toList, v.data.toList, p⟩ w) := by
  obtain ⟨W1, hW1⟩ : ∃ W, W = duo w t e s v kd p := ⟨_, rfl⟩
  obtain ⟨hb1, hk1⟩ := duo_ok w t e s v kd p
  rw [← hW1] at hb1 hk1
  unfold duo at hW1
  have HK := Lib.hid hk1
  have HB1 := Lib.hid hb1
  have hg1 : w.heap.size ≤ w.heap.size + 1 := Nat.le_succ _
  have HH := Lib.hid ((h.below hb1).more hb1.size)
  clear hb1 hk1 h
  by_cases k1 : kd = 1
  · have K1 : ((kd : Int) == 1) = true := by rw [k1]; rfl
    have HV : Hid (putRow k is ⟨(t.data.toList, e.data.toList), kd, s.data.toList, v.data.toList, p⟩ = some (t.data.toList, e.data.toList)) := Lib.hid (by rw [putRow, if_pos k1])
    clear k1
    go_enter Tryz.func81, Tryz.ntmps81
    go_upto_region 1 with (fail)
    rw [← hW1]
    clear hW1
    obtain ⟨l0, l1, l2, l3, l4, l5, hz⟩ := HK.out W1 (Below.refl _ _)
    obtain ⟨c0, c1⟩ := hz.cells
    obtain ⟨z0, z1⟩ := hz.free
    have HZ := Lib.hid hz
    clear hz
    go_wp2_with fail
    obtain ⟨d0, d1⟩ := (HZ.out.set (.string t) (.string e)).cells
    refine bodyPost_ret (v := .tuple #[.agg #[.string t, .string e], .bool true]) (by simp [results, Tryz.results81, go_sem, d0, d1]) rfl ?_
    exact ⟨t, e, true, rfl, by rw [HV.out]; rfl, below2 HB1.out hg1 _ _⟩
  · have K1 : ((kd : Int) == 1) = false := by rw [beq_eq_false_iff_ne]; omega
    by_cases k2 : kd = 2
    · have K2 : ((kd : Int) == 2) = true := by rw [k2]; rfl
      have HV : Hid (putRow k is ⟨(t.data.toList, e.data.toList), kd, s.data.toList, v.data.toList, p⟩ = if is = true then some (t.data.toList, e.data.toList) else none) := Lib.hid (by rw [putRow, if_neg k1, if_pos k2])
      clear k1 k2
      go_enter Tryz.func81, Tryz.ntmps81
      go_upto_region 1 with (fail)
      rw [← hW1]
      clear hW1
      obtain ⟨l0, l1, l2, l3, l4, l5, hz⟩ := HK.out W1 (Below.refl _ _)
      obtain ⟨c0, c1⟩ := hz.cells
      obtain ⟨z0, z1⟩ := hz.free
      have HZ := Lib.hid hz
      clear hz
      go_wp2_with fail
      obtain ⟨d0, d1⟩ := (HZ.out.set (.string t) (.string e)).cells
      refine bodyPost_ret (v := .tuple #[.agg #[.string t, .string e], .bool is]) (by simp [results, Tryz.results81, go_sem, d0, d1]) rfl ?_
      exact ⟨t, e, is, rfl, by rw [HV.out], below2 HB1.out hg1 _ _⟩
    · have K2 : ((kd : Int) == 2) = false := by rw [beq_eq_false_iff_ne]; omega
      have hV : putRow k is ⟨(t.data.toList, e.data.toList), kd, s.data.toList, v.data.toList, p⟩ = if (getT k [s]).2 = true then some (withR ⟨(t.data.toList, e.data.toList), kd, s.data.toList, v.data.toList, p⟩ (oneN (getT k [s]).1)) else none := by
        rw [putRow, if_neg k1, if_neg k2]
      obtain ⟨W2, hW2⟩ : ∃ W, W = W1.alloc (Obj.cells #[.string s] 9) := ⟨_, rfl⟩
      have hb2 : Below W1.heap.size W1 W2 := by rw [hW2]; exact (Below.refl _ _).alloc (Nat.le_refl _) _
      have hg2 : W2.heap[W1.heap.size]? = some (Obj.cells #[.string s] 9) := by rw [hW2]; exact heap_alloc_new W1 _
      have hl2 := (Array.getElem?_eq_some_iff.1 hg2).1
      have hsv : SeesV W2 W2.heap.size (some ⟨W1.heap.size, 0, none⟩) 1 ([s].map Value.string) := ⟨rfl, fun j u hu => by
        match j, hu with
        | 0, hu => exact ⟨W1.heap.size, 0, rfl, hl2, by rw [cell_of_row _ _ _ _ _ _ hg2]; simpa using hu⟩
        | j + 1, hu => simp at hu⟩
      have hGet := get_any k [s] A (some ⟨W1.heap.size, 0, none⟩) n c 1 1 W2 ((HH.out.below hb2).more hb2.size) hsv ha (by omega) (by simp)
      have hone := fun hh => get_one (k := k) (s := s) hk hn hh
      obtain ⟨G, hG⟩ : ∃ G, G = getT k [s] := ⟨_, rfl⟩
      rw [← hG] at hGet hone hV
      obtain ⟨g, has⟩ := G
      dsimp only at hone hV
      have HGet := Lib.hid hGet
      have HB2 := Lib.hid hb2
      clear k1 k2 hG hGet hsv hg2 hl2 hb2 ha hz hk hn
      cases has with
      | false =>
        have HV : Hid (putRow k is ⟨(t.data.toList, e.data.toList), kd, s.data.toList, v.data.toList, p⟩ = none) := Lib.hid (by rw [hV, if_neg (by simp)])
        clear hone hV
        go_enter Tryz.func81, Tryz.ntmps81
        go_upto_region 1 with (fail)
        rw [← hW1]
        clear hW1
        obtain ⟨l0, l1, l2, l3, l4, l5, hz⟩ := HK.out W1 (Below.refl _ _)
        obtain ⟨c0, c1⟩ := hz.cells
        obtain ⟨z0, z1⟩ := hz.free
        have HZ := Lib.hid hz
        clear hz
        go_upto_region 6 with (fail)
        go_wp2_with (go_at_call 80; rw [← hW2]; clear hW2; (with_reducible refine HGet.out.mono ?_); rintro e3 w3 ⟨A3, n3, c3, rfl, hn3, hc3, hh3, hb3⟩; have hq3 := HB2.out.trans (hb3.mono HB2.out.size); obtain ⟨m0, m1, m2, m3, m4, m5, hz3⟩ := HK.out w3 hq3; obtain ⟨c0, c1⟩ := hz3.cells; obtain ⟨z0, z1⟩ := hz3.free; have HZ3 := Lib.hid hz3; have HBx := Lib.hid (HB1.out.trans (hq3.mono HB1.out.size)))
        obtain ⟨d0, d1⟩ := (HZ3.out.set (.string ⟨#[]⟩) (.string ⟨#[]⟩)).cells
        refine bodyPost_ret (v := .tuple #[.agg #[.string ⟨#[]⟩, .string ⟨#[]⟩], .bool false]) (by simp [results, Tryz.results81, go_sem, d0, d1]) rfl ?_
        exact ⟨⟨#[]⟩, ⟨#[]⟩, false, rfl, by rw [HV.out]; rfl, below2 HBx.out hg1 _ _⟩
      | true =>
        obtain ⟨x, hx, hxs⟩ := hone rfl
        subst hx
        have hV2 : putRow k is ⟨(t.data.toList, e.data.toList), kd, s.data.toList, v.data.toList, p⟩ = some (t.data.toList.take p ++ x.data.toList ++ t.data.toList.drop (p + v.size), e.data.toList) := by
          rw [hV, if_pos rfl]; rfl
        have HV := Lib.hid hV2
        have HWi := Lib.hid (fun W => with_any t e s v x kd p W ht (by omega) hp)
        clear hone hV hV2 hxs
        go_enter Tryz.func81, Tryz.ntmps81
        go_upto_region 1 with (fail)
        rw [← hW1]
        clear hW1
        obtain ⟨l0, l1, l2, l3, l4, l5, hz⟩ := HK.out W1 (Below.refl _ _)
        obtain ⟨c0, c1⟩ := hz.cells
        obtain ⟨z0, z1⟩ := hz.free
        have HZ := Lib.hid hz
        clear hz
        go_upto_region 6 with (fail)
        go_upto_region 9 with (go_at_call 80; rw [← hW2]; clear hW2; (with_reducible refine HGet.out.mono ?_); rintro e3 w3 ⟨A3, n3, c3, rfl, hn3, hc3, hh3, hb3⟩; have hq3 := HB2.out.trans (hb3.mono HB2.out.size))
        obtain ⟨b2, o2, rfl, hb2, hx2, _, m0', rfl, hm0⟩ := hh3
        obtain rfl : m0' = 0 := hm0
        have hxd : w3.drew.cell? ⟨b2, o2, none⟩ = some (.string x) := hx2
        have hq0 := hq3.drew
        clear l0 l1 l2 l3 l4 l5 c0 c1 z0 z1
        obtain ⟨m0, m1, m2, m3, m4, m5, _⟩ := HK.out w3.drew hq0
        go_region_with (go_at_call 102; (with_reducible refine (HWi.out _).mono ?_); rintro e4 w4 ⟨y, hy, rfl, hb4⟩; have hq4 := hq0.trans (hb4.mono hq0.size); obtain ⟨_, _, _, _, _, _, hz4⟩ := HK.out w4 hq4; obtain ⟨c0, c1⟩ := hz4.cells; obtain ⟨z0, z1⟩ := hz4.free)
        all_goals
          have HZ4 := Lib.hid hz4
          have Hy := Lib.hid hy
          have HBx := Lib.hid (HB1.out.trans (hq4.mono HB1.out.size))
          clear hz4 hy hq4 hb4 hq0 hq3
          go_wp2_with fail
          obtain ⟨d0, d1⟩ := (HZ4.out.set (.string y) (.string e)).cells
          refine bodyPost_ret (v := .tuple #[.agg #[.string y, .string e], .bool true]) (by simp [results, Tryz.results81, go_sem, d0, d1]) rfl ?_
          exact ⟨y, e, true, rfl, by rw [HV.out, ← Hy.out]; rfl, below2 HBx.out hg1 _ _⟩
end Go.Proofs.YtapgaglkkgbgkaaGreatDoor.In
namespace Go.Proofs.YtapgaglkkgbgkaaGreatDoor.In
open Go.RowKit Go.Proofs.YtapgaglkkgbgkaaGreatDoor.Jd Go.Proofs.YtapgaglkkgbgkaaGreatDoor.Li Go.Proofs.YtapgaglkkgbgkaaGreatDoor.Cl Go.Proofs.YtapgaglkkgbgkaaGreatDoor.Cv
set_option maxRecDepth 100000

def ofL : List (ByteArray × Tr) → Tr
  | [] => .nil
  | e :: l => .cons e.1 e.2 (ofL l)
theorem ofL_snoc : ∀ (l : List (ByteArray × Tr)) (e : ByteArray × Tr), ofL (l ++ [e]) = appT (ofL l) (.cons e.1 e.2 .nil)
  | [], _ => rfl
  | x :: l, e => by simp only [List.cons_append, ofL, ofL_snoc l e, appT]
theorem elem_edgeL : Elem Tryz.prog 29 56 (.agg #[.string ⟨#[]⟩, .slice none 0 0]) 2 40 := ⟨Tryz.underlying29, by kernel_rfl, rfl, by omega⟩
theorem src_edgeL (W : World) (s : ByteArray) (A : Option Addr) (n c : Nat) (g : Nat) (hg : g = W.heap.size) : Src Tryz.prog 2 29 (.slice (some ⟨g, 0, none⟩) 1 1) 1 [.string s, .slice A n c] (W.alloc (Obj.cells #[Value.string s, Value.slice A n c] 56)) := by
  subst hg
  refine Src.ofSlice _ Tryz.underlying29 ⟨W.heap.size, 0, none⟩ 1 1 [.string s, .slice A n c] rfl (fun j u hu => ?_) (by intro u hu; simp at hu; rcases hu with rfl | rfl <;> rfl)
  rw [Addr.add_lit, cell_of_row _ _ _ _ _ _ (heap_alloc_new W _), ← hu, Nat.zero_add]
  simp
theorem eds_ofL : ∀ l : List (ByteArray × Tr), eds (ofL l) = l
  | [] => rfl
  | _ :: l => by simp only [ofL, eds, eds_ofL l]
set_option maxHeartbeats 16000000 in
theorem withoutP_any (t : Tr) (ps : List Pt) (A A2 : Option Addr) (n c n2 c2 B : Nat) (w : World) (h : Holds w B A n t) (hB : B ≤ w.heap.size) (h2 : PartsP w (· < w.heap.size) A2 n2 ps) (hn : n ≤ 100000) (hn2 : n2 ≤ 100000) :
    Calls Tryz.prog 63 #[.slice A n c, .slice A2 n2 c2, .func (.func 64) #[] #[]] w fun en w' => ∃ A' c' N vs, en = .returned (.slice A' N c') ∧ Edg w' w.heap.size 0 A' N c' (ofL ((eds t).filter fun e => !(ps.any (fun p => e.1.data.toList == p.name)))) vs ∧ RowP w (· < B) vs (ofL ((eds t).filter fun e => !(ps.any (fun p => e.1.data.toList == p.name)))) ∧ Below w.heap.size w w' := by
  have Hl := Lib.hid h.len
  have HH := Lib.hid h
  have Hl2 := Lib.hid h2.len
  have HQ := Lib.hid h2
  clear h h2
  go_enter Tryz.func63, Tryz.ntmps63
  go_wp2
  go_step3
  go_wp2
  go_step3
  go_wp2
  go_loopw [7, 14] (fun a i wr => ∃ (j N : Nat) (A7 : Option Addr) (c7 : Nat) (vs : List Value), j ≤ n ∧ N ≤ j ∧ i = .int .i64 j ∧ a = .slice A7 N c7 ∧ Hid (Edg wr w.heap.size 0 A7 N c7 (ofL (((eds t).take j).filter fun e => !(ps.any (fun p => e.1.data.toList == p.name)))) vs) ∧ Hid (RowP w (· < B) vs (ofL (((eds t).take j).filter fun e => !(ps.any (fun p => e.1.data.toList == p.name))))) ∧ Hid (Below w.heap.size w wr)) (fun _ i _ => n - (intOf i).toNat)
  case atStart => exact ⟨0, 0, none, 0, [], Nat.zero_le _, Nat.le_refl _, rfl, rfl, Lib.hid (Edg.nil _ _ _), Lib.hid trivial, Lib.hid (Below.refl _ _)⟩
  case round =>
    obtain ⟨j, N, A7, c7, vs, hj, hNj, rfl, rfl, HE, HRo, HW⟩ := hrel
    by_cases hlt : j < n
    · obtain ⟨b, q, s, kt, r, A', n', c', hAq, hbl, hs1, hc1, hn', hm', hk', hr', hd, hdd2⟩ := (HH.out.below (HW.out.mono hB)).split j hlt
      subst hAq
      have hat := eds_at hd
      have htk : (eds t).take (j + 1) = (eds t).take j ++ [(s, kt)] := by rw [List.take_add_one, hat]; rfl
      have hkn : (j : Int) < (n : Int) := by omega
      have hk0 : (0 : Int) ≤ (j : Int) := by omega
      obtain ⟨wa, hwa⟩ : ∃ x : World, x = wr := ⟨_, rfl⟩
      obtain ⟨W1, hW1⟩ : ∃ W, W = wr.alloc (Obj.cells #[.string s, .slice A' n' c'] 56) := ⟨_, rfl⟩
      have hb1 : Below wr.heap.size wr W1 := by rw [hW1]; exact (Below.refl _ _).alloc (Nat.le_refl _) _
      have hg1 : W1.heap[wr.heap.size]? = some (Obj.cells #[.string s, .slice A' n' c'] 56) := by rw [hW1]; exact heap_alloc_new wr _
      have hl1 : wr.heap.size < W1.heap.size := (Array.getElem?_eq_some_iff.1 hg1).1
      have HK := Lib.hid (fun (W : World) (hW : Below W1.heap.size W1 W) => (⟨(hW.cell (p := ⟨wr.heap.size, 0, none⟩) hl1).trans (by rw [cell_of_row _ _ _ _ _ _ hg1]; rfl), (hW.cell (p := ⟨wr.heap.size, 1, none⟩) hl1).trans (by rw [cell_of_row _ _ _ _ _ _ hg1]; rfl)⟩ : W.cell? ⟨wr.heap.size, 0, none⟩ = some (.string s) ∧ W.cell? ⟨wr.heap.size, 1, none⟩ = some (.slice A' n' c')))
      have HE1 := Lib.hid (HE.out.below hb1)
      have HBa := Lib.hid (HW.out.trans (hb1.mono HW.out.size))
      have HkW := Lib.hid (show Holds w B A' n' kt from hk'.keep (fun p hp => (HW.out.cell (Nat.lt_of_lt_of_le hp hB)).symm))
      have HOl := Lib.hid (fun g (hg : (Value.slice A7 N c7).ownBlock = some g) => HE.out.own.lt g hg)
      have hbz := hb1.size
      have Hw1z := Lib.hid hbz
      have Hn' := Lib.hid (And.intro hn' hm')
      have Hlt := Lib.hid hlt
      have Htk := Lib.hid htk
      have Hownlt : Hid (∀ g, (Value.slice A7 N c7).ownBlock = some g → w.heap.size ≤ g ∧ g < wr.heap.size) := Lib.hid (fun g hg => HE.out.own.lt g hg)
      clear hlt hat htk hd hdd2 hr' hk' hn' hm' hb1 hg1 hl1 hwa hbz
      go_upto_region 5 with (fail)
      rw [← hW1]
      clear hW1
      obtain ⟨wz, hwz⟩ : ∃ x : Nat, x = wr.heap.size := ⟨_, rfl⟩
      rw [← hwz] at HK Hownlt Hw1z
      obtain ⟨wo, hwo⟩ : ∃ x : World, x = wr := ⟨_, rfl⟩
      rw [← hwz]
      clear hwo hwz HE HW
      go_wp2_with fail
      go_loopw [20] (fun i wr => ∃ (l : Nat), l ≤ n2 ∧ i = .int .i64 l ∧ Hid (Below W1.heap.size W1 wr) ∧ Hid ((ps.take l).any (fun p => s.data.toList == p.name) = false)) (fun i _ => n2 - (intOf i).toNat)
      case atStart => exact ⟨0, Nat.zero_le _, rfl, Lib.hid (Below.refl _ _), Lib.hid rfl⟩
      case round =>
        obtain ⟨l, hl, rfl, HX, HA⟩ := hrel
        by_cases hlt2 : l < n2
        · have hll : l < ps.length := by have := Hl2.out; omega
          obtain ⟨x, hx⟩ : ∃ x, ps[l]? = some x := ⟨_, List.getElem?_eq_getElem hll⟩
          have htx : ps.take (l + 1) = ps.take l ++ [x] := by rw [List.take_add_one, hx]; rfl
          have hxm := List.mem_of_getElem? hx
          have hln : (l : Int) < (n2 : Int) := by omega
          have hl0 : (0 : Int) ≤ (l : Int) := by omega
          obtain ⟨b3, o3, Af, nf, cf, hAe, hbl3, hd1, hd2, _, _, _⟩ := (HQ.out.keep (w' := wr) (fun b o hb => (HBa.out.trans (HX.out.mono HBa.out.size)).cell (p := ⟨b, o, none⟩) hb)).at_ hx
          subst hAe
          obtain ⟨a1, ha1⟩ : ∃ s1 : ByteArray, s1 = ⟨x.name.toArray⟩ := ⟨_, rfl⟩
          rw [← ha1] at hd1
          obtain ⟨u, hu⟩ : ∃ u, u = (s.data.toList == a1.data.toList) := ⟨_, rfl⟩
          have hu2 : (s.data.toList == x.name) = u := by rw [hu, ha1]
          obtain ⟨W2, hW2⟩ : ∃ W, W = wr.alloc (Obj.cells #[.string a1, .slice Af nf cf] 108) := ⟨_, rfl⟩
          have hg2 : W2.heap[wr.heap.size]? = some (Obj.cells #[.string a1, .slice Af nf cf] 108) := by rw [hW2]; exact heap_alloc_new wr _
          have hv0 : W2.cell? ⟨wr.heap.size, 0, none⟩ = some (.string a1) := by rw [cell_of_row _ _ _ _ _ _ hg2]; rfl
          have hv1 : W2.cell? ⟨wr.heap.size, 1, none⟩ = some (.slice Af nf cf) := by rw [cell_of_row _ _ _ _ _ _ hg2]; rfl
          have hCa := isOf_any s a1 A' Af n' c' nf cf W2
          rw [← hu] at hCa
          have hb2 : Below wr.heap.size wr W2 := by rw [hW2]; exact (Below.refl _ _).alloc (Nat.le_refl _) _
          have hX2 := HX.out.trans (hb2.mono HX.out.size)
          obtain ⟨e0, e1⟩ := HK.out W2 hX2
          have HCa := Lib.hid hCa
          have HX2 := Lib.hid hX2
          have Hlt2 := Lib.hid hlt2
          have HAn : Hid ((ps.take (l + 1)).any (fun p => s.data.toList == p.name) = u) := Lib.hid (by rw [htx, List.any_append, HA.out, List.any_cons, hu2]; simp)
          have HAy : Hid (u = true → (ps.any (fun p => s.data.toList == p.name)) = true) := Lib.hid (fun h => List.any_eq_true.2 ⟨x, hxm, by rw [hu2, h]⟩)
          clear hlt2 hll hx htx hxm ha1 hu hu2 hg2 hb2 hX2 hCa HA
          go_upto_region 8 with (fail)
          rw [← hW2]
          clear hW2
          cases u with
          | true =>
            go_wp2_with fail
            (with_reducible refine HCa.out.mono ?_)
            rintro e w5 ⟨rfl, hb5⟩
            have HX5 := Lib.hid (HX2.out.trans (hb5.mono HX2.out.size))
            clear hb5
            go_wp2_with fail
            have hE5 := HE1.out.below HX5.out
            have hfl : ((eds t).take (j + 1)).filter (fun e => !(ps.any (fun p => e.1.data.toList == p.name))) = ((eds t).take j).filter (fun e => !(ps.any (fun p => e.1.data.toList == p.name))) := by
              rw [Htk.out, List.filter_append]
              have h1 : (ps.any (fun p => s.data.toList == p.name)) = true := HAy.out (by simp)
              simp only [List.filter_cons, h1, List.filter_nil]
              simp
            rw [← hfl] at hE5 HRo
            exact ⟨⟨j + 1, N, A7, c7, vs, Hlt.out, by omega, by go_num, rfl, Lib.hid hE5, HRo, Lib.hid (HBa.out.trans (HX5.out.mono HBa.out.size))⟩, by have := Hlt.out; simp [intOf]; omega⟩
          | false =>
            go_wp2_with fail
            (with_reducible refine HCa.out.mono ?_)
            rintro e w5 ⟨rfl, hb5⟩
            have HX5 := Lib.hid (HX2.out.trans (hb5.mono HX2.out.size))
            clear hb5
            go_wp2_with fail
            go_roundw
            case rel => exact ⟨l + 1, Hlt2.out, by go_num, HX5, HAn⟩
            case measure => have := Hlt2.out; simp [intOf]; omega
        · obtain rfl : l = n2 := by omega
          have HA2 : Hid (ps.any (fun p => s.data.toList == p.name) = false) := Lib.hid (by
            have := HA.out
            rw [List.take_of_length_le (by rw [← Hl2.out]; exact Nat.le_refl _)] at this
            exact this)
          have hfl : ofL (((eds t).take (j + 1)).filter (fun e => !(ps.any (fun p => e.1.data.toList == p.name)))) = appT (ofL (((eds t).take j).filter (fun e => !(ps.any (fun p => e.1.data.toList == p.name))))) (.cons s kt .nil) := by
            rw [Htk.out, List.filter_append, ← ofL_snoc (e := (s, kt))]
            have h1 : (ps.any (fun p => s.data.toList == p.name)) = false := HA2.out
            simp only [List.filter_cons, h1, List.filter_nil]
            simp
          have Hfl := Lib.hid hfl
          obtain ⟨e0, e1⟩ := HK.out wr HX.out
          have hE5 := HE1.out.below HX.out
          have HE5 := Lib.hid hE5
          have hal : Below wr.heap.size wr (wr.alloc (Obj.cells #[Value.string s, Value.slice A' n' c'] 56)) := (Below.refl _ _).alloc (Nat.le_refl _) _
          have hEa := hE5.below hal
          have hBx := HBa.out.trans (HX.out.mono HBa.out.size)
          have hrow : RowP (wr.alloc (Obj.cells #[Value.string s, Value.slice A' n' c'] 56)) (fun b => 0 ≤ b ∧ b < (wr.alloc (Obj.cells #[Value.string s, Value.slice A' n' c'] 56)).heap.size ∧ some b ≠ (Value.slice A7 N c7).ownBlock) [.string s, .slice A' n' c'] (.cons s kt .nil) := by
            refine RowP.one (((HoldsP.of (HkW.out)).keep (w' := wr.alloc (Obj.cells #[Value.string s, Value.slice A' n' c'] 56)) fun b o hb => ?_).more fun b hb => ⟨Nat.zero_le _, ?_, fun e => ?_⟩) Hn'.out.1 Hn'.out.2
            · exact (hBx.trans (hal.mono hBx.size)).cell (p := ⟨b, o, none⟩) (Nat.lt_of_lt_of_le hb hB)
            · exact Nat.lt_of_lt_of_le hb (Nat.le_trans hB (Nat.le_trans hBx.size hal.size))
            · have := (HOl.out b e.symm).1
              have hb : b < B := hb
              omega
          have hro2 := HRo.out.app (RowP.one (s := s) (HoldsP.of HkW.out) Hn'.out.1 Hn'.out.2)
          rw [← hfl] at hro2
          have HRo2 := Lib.hid hro2
          clear hro2
          have Hrow := Lib.hid hrow
          have HEa := Lib.hid hEa
          have HBx := Lib.hid hBx
          have Hal := Lib.hid hal
          have hN1 : N + 1 ≤ 1099511627776 := by omega
          have hbz5 : w.heap.size ≤ wr.heap.size := hBx.size
          clear hlt2 HA hfl hE5 hal hEa hBx hrow
          go_wp2_with (at_builtin; refine wpList_append_row rfl (.tmp 29) (.tmp 31) _ _ rfl elem_edgeL rfl rfl (HE5.out.own.alloc _) (src_edgeL _ s A' n' c' _ rfl) hN1 (by simp; omega) ?_; intro A4 c4 w4 ho4 hg4 hat4)
          have hP := HEa.out.push Hrow.out ho4 hg4 (fun a ha => (hat4 a ha).imp (fun e => Nat.le_of_eq e.symm) id)
          rw [← Hfl.out] at hP
          have HP := Lib.hid hP
          have HW4 : Hid (Below w.heap.size w w4) := Lib.hid ((HBx.out.trans (Hal.out.mono HBx.out.size)).grown hg4 (Nat.le_trans HBx.out.size Hal.out.size) (fun q hq => (HE5.out.own.lt q hq).1))
          clear ho4 hg4 hat4 hP
          go_wp2_with fail
          exact ⟨⟨j + 1, N + 1, A4, c4, _, Hlt.out, by omega, by go_num, rfl, HP, HRo2, HW4⟩, by have := Hlt.out; simp [intOf]; omega⟩
    · obtain rfl : j = n := by omega
      have hE := HE.out
      have hRo := HRo.out
      rw [List.take_of_length_le (by rw [eds_len, ← Hl.out]; exact Nat.le_refl _)] at hE hRo
      have HE2 := Lib.hid hE
      have HRo2 := Lib.hid hRo
      clear hlt hE HE hRo HRo
      go_wp2_with fail
      first
        | go_ret
        | (rw [Exit.noGoto_ret]; go_ret)
      exact ⟨A7, c7, N, vs, rfl, HE2.out, HRo2.out, HW.out⟩
set_option maxHeartbeats 16000000 in
theorem withoutR_any (t : Tr) (ps : List Ro) (A A2 : Option Addr) (n c n2 c2 B : Nat) (w : World) (h : Holds w B A n t) (hB : B ≤ w.heap.size) (h2 : RowsP w (· < w.heap.size) A2 n2 ps) (hn : n ≤ 100000) (hn2 : n2 ≤ 100000) :
    Calls Tryz.prog 83 #[.slice A n c, .slice A2 n2 c2, .func (.func 84) #[] #[]] w fun en w' => ∃ A' c' N vs, en = .returned (.slice A' N c') ∧ Edg w' w.heap.size 0 A' N c' (ofL ((eds t).filter fun e => !(ps.any (fun r => r.kind == 3 && e.1.data.toList == r.name)))) vs ∧ RowP w (· < B) vs (ofL ((eds t).filter fun e => !(ps.any (fun r => r.kind == 3 && e.1.data.toList == r.name)))) ∧ Below w.heap.size w w' := by
  have Hl := Lib.hid h.len
  have HH := Lib.hid h
  have Hl2 := Lib.hid h2.len
  have HQ := Lib.hid h2
  clear h h2
  go_enter Tryz.func83, Tryz.ntmps83
  go_wp2
  go_step3
  go_wp2
  go_step3
  go_wp2
  go_loopw [7, 14] (fun a i wr => ∃ (j N : Nat) (A7 : Option Addr) (c7 : Nat) (vs : List Value), j ≤ n ∧ N ≤ j ∧ i = .int .i64 j ∧ a = .slice A7 N c7 ∧ Hid (Edg wr w.heap.size 0 A7 N c7 (ofL (((eds t).take j).filter fun e => !(ps.any (fun r => r.kind == 3 && e.1.data.toList == r.name)))) vs) ∧ Hid (RowP w (· < B) vs (ofL (((eds t).take j).filter fun e => !(ps.any (fun r => r.kind == 3 && e.1.data.toList == r.name))))) ∧ Hid (Below w.heap.size w wr)) (fun _ i _ => n - (intOf i).toNat)
  case atStart => exact ⟨0, 0, none, 0, [], Nat.zero_le _, Nat.le_refl _, rfl, rfl, Lib.hid (Edg.nil _ _ _), Lib.hid trivial, Lib.hid (Below.refl _ _)⟩
  case round =>
    obtain ⟨j, N, A7, c7, vs, hj, hNj, rfl, rfl, HE, HRo, HW⟩ := hrel
    by_cases hlt : j < n
    · obtain ⟨b, q, s, kt, r, A', n', c', hAq, hbl, hs1, hc1, hn', hm', hk', hr', hd, hdd2⟩ := (HH.out.below (HW.out.mono hB)).split j hlt
      subst hAq
      have hat := eds_at hd
      have htk : (eds t).take (j + 1) = (eds t).take j ++ [(s, kt)] := by rw [List.take_add_one, hat]; rfl
      have hkn : (j : Int) < (n : Int) := by omega
      have hk0 : (0 : Int) ≤ (j : Int) := by omega
      obtain ⟨wa, hwa⟩ : ∃ x : World, x = wr := ⟨_, rfl⟩
      obtain ⟨W1, hW1⟩ : ∃ W, W = wr.alloc (Obj.cells #[.string s, .slice A' n' c'] 56) := ⟨_, rfl⟩
      have hb1 : Below wr.heap.size wr W1 := by rw [hW1]; exact (Below.refl _ _).alloc (Nat.le_refl _) _
      have hg1 : W1.heap[wr.heap.size]? = some (Obj.cells #[.string s, .slice A' n' c'] 56) := by rw [hW1]; exact heap_alloc_new wr _
      have hl1 : wr.heap.size < W1.heap.size := (Array.getElem?_eq_some_iff.1 hg1).1
      have HK := Lib.hid (fun (W : World) (hW : Below W1.heap.size W1 W) => (⟨(hW.cell (p := ⟨wr.heap.size, 0, none⟩) hl1).trans (by rw [cell_of_row _ _ _ _ _ _ hg1]; rfl), (hW.cell (p := ⟨wr.heap.size, 1, none⟩) hl1).trans (by rw [cell_of_row _ _ _ _ _ _ hg1]; rfl)⟩ : W.cell? ⟨wr.heap.size, 0, none⟩ = some (.string s) ∧ W.cell? ⟨wr.heap.size, 1, none⟩ = some (.slice A' n' c')))
      have HE1 := Lib.hid (HE.out.below hb1)
      have HBa := Lib.hid (HW.out.trans (hb1.mono HW.out.size))
      have HkW := Lib.hid (show Holds w B A' n' kt from hk'.keep (fun p hp => (HW.out.cell (Nat.lt_of_lt_of_le hp hB)).symm))
      have HOl := Lib.hid (fun g (hg : (Value.slice A7 N c7).ownBlock = some g) => HE.out.own.lt g hg)
      have hbz := hb1.size
      have Hw1z := Lib.hid hbz
      have Hn' := Lib.hid (And.intro hn' hm')
      have Hlt := Lib.hid hlt
      have Htk := Lib.hid htk
      have Hownlt : Hid (∀ g, (Value.slice A7 N c7).ownBlock = some g → w.heap.size ≤ g ∧ g < wr.heap.size) := Lib.hid (fun g hg => HE.out.own.lt g hg)
      clear hlt hat htk hd hdd2 hr' hk' hn' hm' hb1 hg1 hl1 hwa hbz
      go_upto_region 5 with (fail)
      rw [← hW1]
      clear hW1
      obtain ⟨wz, hwz⟩ : ∃ x : Nat, x = wr.heap.size := ⟨_, rfl⟩
      rw [← hwz] at HK Hownlt Hw1z
      obtain ⟨wo, hwo⟩ : ∃ x : World, x = wr := ⟨_, rfl⟩
      rw [← hwz]
      clear hwo hwz HE HW
      go_wp2_with fail
      go_loopw [20] (fun i wr => ∃ (l : Nat), l ≤ n2 ∧ i = .int .i64 l ∧ Hid (Below W1.heap.size W1 wr) ∧ Hid ((ps.take l).any (fun r => r.kind == 3 && s.data.toList == r.name) = false)) (fun i _ => n2 - (intOf i).toNat)
      case atStart => exact ⟨0, Nat.zero_le _, rfl, Lib.hid (Below.refl _ _), Lib.hid rfl⟩
      case round =>
        obtain ⟨l, hl, rfl, HX, HA⟩ := hrel
        by_cases hlt2 : l < n2
        · have hll : l < ps.length := by have := Hl2.out; omega
          obtain ⟨x, hx⟩ : ∃ x, ps[l]? = some x := ⟨_, List.getElem?_eq_getElem hll⟩
          have htx : ps.take (l + 1) = ps.take l ++ [x] := by rw [List.take_add_one, hx]; rfl
          have hxm := List.mem_of_getElem? hx
          have hln : (l : Int) < (n2 : Int) := by omega
          have hl0 : (0 : Int) ≤ (l : Int) := by omega
          obtain ⟨b3, o3, hAe, hbl3, hd1, hd2, hd3, hd4, hd5, hd6⟩ := (HQ.out.keep (w' := wr) (fun b o hb => (HBa.out.trans (HX.out.mono HBa.out.size)).cell (p := ⟨b, o, none⟩) hb)).at_ hx
          subst hAe
          obtain ⟨t1, ht1⟩ : ∃ s1 : ByteArray, Li.encs x.ln.1 = .string s1 := ⟨_, rfl⟩
          obtain ⟨t2, ht2⟩ : ∃ s1 : ByteArray, Li.encs x.ln.2 = .string s1 := ⟨_, rfl⟩
          obtain ⟨v1, hvv⟩ : ∃ s1 : ByteArray, Li.encs x.val = .string s1 := ⟨_, rfl⟩
          obtain ⟨a1, ha1⟩ : ∃ s1 : ByteArray, s1 = ⟨x.name.toArray⟩ := ⟨_, rfl⟩
          obtain ⟨kd, hkd⟩ : ∃ k, k = x.kind := ⟨_, rfl⟩
          obtain ⟨p1, hp1⟩ : ∃ k, k = x.pos := ⟨_, rfl⟩
          rw [ht1] at hd1
          rw [ht2] at hd2
          rw [← hkd] at hd3
          rw [show Li.encs x.name = .string a1 by rw [ha1]; rfl] at hd4
          rw [hvv] at hd5
          rw [← hp1] at hd6
          obtain ⟨u, hu⟩ : ∃ u, u = (kd == 3 && s.data.toList == a1.data.toList) := ⟨_, rfl⟩
          have hu2 : (x.kind == 3 && s.data.toList == x.name) = u := by rw [hu, ha1, hkd]
          obtain ⟨W2, hW2⟩ : ∃ W, W = wr.alloc (Obj.cells #[.string t1, .string t2, .int .i64 kd, .string a1, .string v1, .int .i64 p1] 114) := ⟨_, rfl⟩
          have hg2 : W2.heap[wr.heap.size]? = some (Obj.cells #[.string t1, .string t2, .int .i64 kd, .string a1, .string v1, .int .i64 p1] 114) := by rw [hW2]; exact heap_alloc_new wr _
          have hv0 : W2.cell? ⟨wr.heap.size, 0, none⟩ = some (.string t1) := by rw [cell_of_row _ _ _ _ _ _ hg2]; rfl
          have hv1 : W2.cell? ⟨wr.heap.size, 1, none⟩ = some (.string t2) := by rw [cell_of_row _ _ _ _ _ _ hg2]; rfl
          have hv2 : W2.cell? ⟨wr.heap.size, 2, none⟩ = some (.int .i64 kd) := by rw [cell_of_row _ _ _ _ _ _ hg2]; rfl
          have hv3 : W2.cell? ⟨wr.heap.size, 3, none⟩ = some (.string a1) := by rw [cell_of_row _ _ _ _ _ _ hg2]; rfl
          have hv4 : W2.cell? ⟨wr.heap.size, 4, none⟩ = some (.string v1) := by rw [cell_of_row _ _ _ _ _ _ hg2]; rfl
          have hv5 : W2.cell? ⟨wr.heap.size, 5, none⟩ = some (.int .i64 p1) := by rw [cell_of_row _ _ _ _ _ _ hg2]; rfl
          have hCa := isBy_any s t1 t2 a1 v1 A' n' c' kd p1 W2
          rw [← hu] at hCa
          have hb2 : Below wr.heap.size wr W2 := by rw [hW2]; exact (Below.refl _ _).alloc (Nat.le_refl _) _
          have hX2 := HX.out.trans (hb2.mono HX.out.size)
          obtain ⟨e0, e1⟩ := HK.out W2 hX2
          have HCa := Lib.hid hCa
          have HX2 := Lib.hid hX2
          have Hlt2 := Lib.hid hlt2
          have HAn : Hid ((ps.take (l + 1)).any (fun r => r.kind == 3 && s.data.toList == r.name) = u) := Lib.hid (by rw [htx, List.any_append, HA.out, List.any_cons, hu2]; simp)
          have HAy : Hid (u = true → (ps.any (fun r => r.kind == 3 && s.data.toList == r.name)) = true) := Lib.hid (fun h => List.any_eq_true.2 ⟨x, hxm, by rw [hu2, h]⟩)
          clear hlt2 hll hx htx hxm ha1 ht1 ht2 hvv hkd hp1 hu hu2 hg2 hb2 hX2 hCa HA
          go_upto_region 8 with (fail)
          rw [← hW2]
          clear hW2
          cases u with
          | true =>
            go_wp2_with fail
            (with_reducible refine HCa.out.mono ?_)
            rintro e w5 ⟨rfl, hb5⟩
            have HX5 := Lib.hid (HX2.out.trans (hb5.mono HX2.out.size))
            clear hb5
            go_wp2_with fail
            have hE5 := HE1.out.below HX5.out
            have hfl : ((eds t).take (j + 1)).filter (fun e => !(ps.any (fun r => r.kind == 3 && e.1.data.toList == r.name))) = ((eds t).take j).filter (fun e => !(ps.any (fun r => r.kind == 3 && e.1.data.toList == r.name))) := by
              rw [Htk.out, List.filter_append]
              have h1 : (ps.any (fun r => r.kind == 3 && s.data.toList == r.name)) = true := HAy.out (by simp)
              simp only [List.filter_cons, h1, List.filter_nil]
              simp
            rw [← hfl] at hE5 HRo
            exact ⟨⟨j + 1, N, A7, c7, vs, Hlt.out, by omega, by go_num, rfl, Lib.hid hE5, HRo, Lib.hid (HBa.out.trans (HX5.out.mono HBa.out.size))⟩, by have := Hlt.out; simp [intOf]; omega⟩
          | false =>
            go_wp2_with fail
            (with_reducible refine HCa.out.mono ?_)
            rintro e w5 ⟨rfl, hb5⟩
            have HX5 := Lib.hid (HX2.out.trans (hb5.mono HX2.out.size))
            clear hb5
            go_wp2_with fail
            go_roundw
            case rel => exact ⟨l + 1, Hlt2.out, by go_num, HX5, HAn⟩
            case measure => have := Hlt2.out; simp [intOf]; omega
        · obtain rfl : l = n2 := by omega
          have HA2 : Hid (ps.any (fun r => r.kind == 3 && s.data.toList == r.name) = false) := Lib.hid (by
            have := HA.out
            rw [List.take_of_length_le (by rw [← Hl2.out]; exact Nat.le_refl _)] at this
            exact this)
          have hfl : ofL (((eds t).take (j + 1)).filter (fun e => !(ps.any (fun r => r.kind == 3 && e.1.data.toList == r.name)))) = appT (ofL (((eds t).take j).filter (fun e => !(ps.any (fun r => r.kind == 3 && e.1.data.toList == r.name))))) (.cons s kt .nil) := by
            rw [Htk.out, List.filter_append, ← ofL_snoc (e := (s, kt))]
            have h1 : (ps.any (fun r => r.kind == 3 && s.data.toList == r.name)) = false := HA2.out
            simp only [List.filter_cons, h1, List.filter_nil]
            simp
          have Hfl := Lib.hid hfl
          obtain ⟨e0, e1⟩ := HK.out wr HX.out
          have hE5 := HE1.out.below HX.out
          have HE5 := Lib.hid hE5
          have hal : Below wr.heap.size wr (wr.alloc (Obj.cells #[Value.string s, Value.slice A' n' c'] 56)) := (Below.refl _ _).alloc (Nat.le_refl _) _
          have hEa := hE5.below hal
          have hBx := HBa.out.trans (HX.out.mono HBa.out.size)
          have hrow : RowP (wr.alloc (Obj.cells #[Value.string s, Value.slice A' n' c'] 56)) (fun b => 0 ≤ b ∧ b < (wr.alloc (Obj.cells #[Value.string s, Value.slice A' n' c'] 56)).heap.size ∧ some b ≠ (Value.slice A7 N c7).ownBlock) [.string s, .slice A' n' c'] (.cons s kt .nil) := by
            refine RowP.one (((HoldsP.of (HkW.out)).keep (w' := wr.alloc (Obj.cells #[Value.string s, Value.slice A' n' c'] 56)) fun b o hb => ?_).more fun b hb => ⟨Nat.zero_le _, ?_, fun e => ?_⟩) Hn'.out.1 Hn'.out.2
            · exact (hBx.trans (hal.mono hBx.size)).cell (p := ⟨b, o, none⟩) (Nat.lt_of_lt_of_le hb hB)
            · exact Nat.lt_of_lt_of_le hb (Nat.le_trans hB (Nat.le_trans hBx.size hal.size))
            · have := (HOl.out b e.symm).1
              have hb : b < B := hb
              omega
          have hro2 := HRo.out.app (RowP.one (s := s) (HoldsP.of HkW.out) Hn'.out.1 Hn'.out.2)
          rw [← hfl] at hro2
          have HRo2 := Lib.hid hro2
          clear hro2
          have Hrow := Lib.hid hrow
          have HEa := Lib.hid hEa
          have HBx := Lib.hid hBx
          have Hal := Lib.hid hal
          have hN1 : N + 1 ≤ 1099511627776 := by omega
          have hbz5 : w.heap.size ≤ wr.heap.size := hBx.size
          clear hlt2 HA hfl hE5 hal hEa hBx hrow
          go_wp2_with (at_builtin; refine wpList_append_row rfl (.tmp 29) (.tmp 31) _ _ rfl elem_edgeL rfl rfl (HE5.out.own.alloc _) (src_edgeL _ s A' n' c' _ rfl) hN1 (by simp; omega) ?_; intro A4 c4 w4 ho4 hg4 hat4)
          have hP := HEa.out.push Hrow.out ho4 hg4 (fun a ha => (hat4 a ha).imp (fun e => Nat.le_of_eq e.symm) id)
          rw [← Hfl.out] at hP
          have HP := Lib.hid hP
          have HW4 : Hid (Below w.heap.size w w4) := Lib.hid ((HBx.out.trans (Hal.out.mono HBx.out.size)).grown hg4 (Nat.le_trans HBx.out.size Hal.out.size) (fun q hq => (HE5.out.own.lt q hq).1))
          clear ho4 hg4 hat4 hP
          go_wp2_with fail
          exact ⟨⟨j + 1, N + 1, A4, c4, _, Hlt.out, by omega, by go_num, rfl, HP, HRo2, HW4⟩, by have := Hlt.out; simp [intOf]; omega⟩
    · obtain rfl : j = n := by omega
      have hE := HE.out
      have hRo := HRo.out
      rw [List.take_of_length_le (by rw [eds_len, ← Hl.out]; exact Nat.le_refl _)] at hE hRo
      have HE2 := Lib.hid hE
      have HRo2 := Lib.hid hRo
      clear hlt hE HE hRo HRo
      go_wp2_with fail
      first
        | go_ret
        | (rw [Exit.noGoto_ret]; go_ret)
      exact ⟨A7, c7, N, vs, rfl, HE2.out, HRo2.out, HW.out⟩
end Go.Proofs.YtapgaglkkgbgkaaGreatDoor.In
namespace Go.Proofs.YtapgaglkkgbgkaaGreatDoor.In
open Go.RowKit Go.Proofs.YtapgaglkkgbgkaaGreatDoor.Jd Go.Proofs.YtapgaglkkgbgkaaGreatDoor.Li Go.Proofs.YtapgaglkkgbgkaaGreatDoor.Cl Go.Proofs.YtapgaglkkgbgkaaGreatDoor.Cv Go.Proofs.YtapgaglkkgbgkaaGreatDoor.Pt
set_option maxRecDepth 100000

/-- A row whose value stands within its text. -/
def Ok1 (r : Ro) : Prop := r.ln.1.length ≤ 4000 ∧ r.pos + r.val.length ≤ r.ln.1.length ∧ r.ln.2.length ≤ 4000
theorem ok_no : Ok1 no := ⟨Nat.zero_le _, Nat.zero_le _, Nat.zero_le _⟩
theorem mid_len (s : Bs) : (front s).length + (mid s).length ≤ s.length := by
  have h := en_le s
  rw [front, mid, List.length_take, List.length_drop, List.length_take]
  omega
theorem ahead_no : ∀ l : Bs, (ahead l).contains 61 = false
  | [] => rfl
  | c :: r => by
    have ih := ahead_no r
    unfold ahead at ih ⊢
    rw [List.takeWhile_cons]
    by_cases hc : (c != 61) = true
    · rw [if_pos hc, List.contains_cons, ih]
      have : ¬ c = 61 := by simpa using hc
      simp [Ne.symm this]
    · rw [if_neg hc]; rfl
theorem row_ok1 (x : Ln) (hx : x.1.length ≤ 4000) (he : x.2.length ≤ 4000) : Ok1 (rowI x) := by
  unfold rowI
  split
  · exact ok_no
  · split
    · exact ⟨hx, Nat.zero_le _, he⟩
    · split
      · exact ⟨hx, Nat.zero_le _, he⟩
      · split
        · unfold headR
          split
          · exact ⟨hx, Nat.zero_le _, he⟩
          · exact ok_no
        · unfold keyR
          split
          · rename_i h
            refine ⟨hx, ?_, he⟩
            have h1 := ahead_len x.1
            have h2 := mid_len (behind x.1)
            have h3 : (behind x.1).length = x.1.length - ((ahead x.1).length + 1) := by rw [behind, List.length_drop]
            have h4 : (ahead x.1).length < x.1.length := by
              obtain ⟨h5, h6⟩ := cut_in x.1 h.1
              rcases Nat.lt_or_ge (ahead x.1).length x.1.length with g | g
              · exact g
              · have : ahead x.1 = x.1 := by rw [← h6, List.take_of_length_le g]
                have hc := h.1
                rw [← this] at hc
                rw [ahead_no] at hc
                cases hc
            dsimp only
            split
            · rename_i h7
              rw [h7]
              simp only [List.length_nil]
              omega
            · omega
          · exact ok_no
def OkP (ps : List Pt) : Prop := ∀ p ∈ ps, ∀ r ∈ p.rows, Ok1 r
theorem OkP.add {ps : List Pt} {r : Ro} (hn : ps ≠ []) (h : OkP ps) (hr : Ok1 r) : OkP (addI ps r) := by
  by_cases h2 : r.kind = 2
  · rw [addI_new h2]
    intro p hp
    rcases List.mem_append.1 hp with hp | hp
    · exact h p hp
    · obtain rfl : p = ⟨r.name, [] ++ [r]⟩ := by simpa using hp
      intro x hx
      obtain rfl : x = r := by simpa using hx
      exact hr
  · rcases List.eq_nil_or_concat ps with e | ⟨i, ⟨nm, rows⟩, e⟩
    · exact absurd e hn
    · rw [List.concat_eq_append] at e
      subst e
      rw [addI_old h2]
      intro p hp
      rcases List.mem_append.1 hp with hp | hp
      · exact h p (List.mem_append_left _ hp)
      · obtain rfl : p = ⟨nm, rows ++ [r]⟩ := by simpa using hp
        intro x hx
        rcases List.mem_append.1 hx with hx | hx
        · exact h ⟨nm, rows⟩ (by simp) x hx
        · obtain rfl : x = r := by simpa using hx
          exact hr
theorem addI_ne {ps : List Pt} {r : Ro} : addI ps r ≠ [] := by
  by_cases h2 : r.kind = 2
  · rw [addI_new h2]; simp
  · unfold addI; rw [if_neg h2]; simp
theorem OkP.parts : ∀ (ls : List Ln) {ps : List Pt} {i : Nat}, ps ≠ [] → OkP ps → (∀ x ∈ ls, x.1.length ≤ 4000 ∧ x.2.length ≤ 4000) → (partsI ps i ls).2.2 = 0 → OkP (partsI ps i ls).1
  | [], ps, i, _, h, _, _ => by rw [partsI]; exact h
  | x :: ls, ps, i, hn, h, hx, he => by
    rw [partsI] at he ⊢
    by_cases h0 : faultI ps (rowI x) ≠ 0
    · rw [if_pos h0] at he; exact absurd he h0
    · rw [if_neg h0] at he ⊢
      exact OkP.parts ls addI_ne (OkP.add hn h (row_ok1 x (hx x (by simp)).1 (hx x (by simp)).2)) (fun y hy => hx y (List.mem_cons_of_mem _ hy)) he
/-- A tree that fits. -/
structure FitT (t : Tr) : Prop where
  fit : allT fsB t = true
  asc : AscD t
  size : t.size ≤ 400
  n80 : N80 t
/-- Keys that fit. -/
structure FitK (k : Tr) : Prop where
  fit : allT fkB k = true
  asc : AscD k
  size : k.size ≤ 400
  n80 : N80 k
theorem FitK.nil : FitK .nil := ⟨rfl, trivial, Nat.zero_le _, trivial⟩
theorem FitT.get {t : Tr} (h : FitT t) (s : ByteArray) : FitK (getT t [s]).1 := by
  have h1 := get_asc (p := s) h.asc
  have h2 := get_size (t := t) (p := s)
  by_cases hat : t.atIs s = true
  · obtain ⟨r, hr⟩ := kid_drop hat
    have e : (getT t [s]).1 = kidT t s := by rw [getT, if_pos hat, getT]
    have hf := allT_at h.fit hr
    unfold fsB at hf
    rw [Bool.and_eq_true] at hf
    have hn := n80_drop t (t.atN s) h.n80
    rw [hr] at hn
    exact ⟨by rw [e]; exact hf.2, h1, Nat.le_trans h2 h.size, by rw [e]; exact hn.2.1⟩
  · have e : (getT t [s]).1 = .nil := by rw [getT, if_neg hat]
    rw [e]
    exact FitK.nil
theorem allT_filter (f : ByteArray → Tr → Bool) (F : ByteArray × Tr → Bool) : ∀ {t : Tr}, allT f t = true → allT f (ofL ((eds t).filter F)) = true
  | .nil, _ => rfl
  | .cons s k r, h => by
    rw [allT, Bool.and_eq_true] at h
    have ih := allT_filter f F h.2
    simp only [eds, List.filter_cons]
    split
    · simp only [ofL, allT, Bool.and_eq_true]; exact ⟨h.1, ih⟩
    · exact ih
theorem n80_filter (F : ByteArray × Tr → Bool) : ∀ {t : Tr}, N80 t → N80 (ofL ((eds t).filter F))
  | .nil, _ => trivial
  | .cons s k r, h => by
    have ih := n80_filter F h.2.2
    simp only [eds, List.filter_cons]
    split
    · exact ⟨h.1, h.2.1, ih⟩
    · exact ih
theorem filter_len (F : ByteArray × Tr → Bool) (t : Tr) : (ofL ((eds t).filter F)).len ≤ t.len := by
  rw [← eds_len, eds_ofL, ← eds_len]
  exact List.length_filter_le _ _
theorem join_part : ∀ (ls : List Ln) (x : Ln), x ∈ ls → x.1.length + x.2.length ≤ (join ls).length
  | y :: ls, x, h => by
    rw [join, List.length_append, List.length_append]
    rcases List.mem_cons.1 h with rfl | h
    · omega
    · have := join_part ls x h; omega
theorem split_sz {l : Bs} (h : l.length ≤ 4000) : ∀ x ∈ split l, x.1.length ≤ 4000 ∧ x.2.length ≤ 4000 := fun x hx => by
  have := join_part (split l) x hx
  rw [join_split] at this
  omega
def Sz (x : Ln) : Prop := x.1.length ≤ 9000 ∧ x.2.length ≤ 4000
theorem n80_get {t : Tr} (h : N80 t) (s : ByteArray) : N80 (getT t [s]).1 := by
  by_cases hat : t.atIs s = true
  · obtain ⟨r, hr⟩ := kid_drop hat
    have hn := n80_drop t (t.atN s) h
    rw [hr] at hn
    rw [getT, if_pos hat, getT]
    exact hn.2.1
  · rw [getT, if_neg hat]; trivial
theorem one_len : ∀ {t : Tr}, N80 t → (oneN t).length ≤ 80
  | .nil, _ => Nat.zero_le _
  | .cons _ _ _, h => h.1
theorem eds_n80 : ∀ {t : Tr} {e : ByteArray × Tr}, N80 t → e ∈ eds t → e.1.size ≤ 80 ∧ N80 e.2
  | .cons s k r, e, h, he => by
    rcases List.mem_cons.1 he with rfl | he
    · exact ⟨h.1, h.2.1⟩
    · exact eds_n80 h.2.2 he
theorem keyL_sz {E : Bs} {e : ByteArray × Tr} (hE : E.length ≤ 4000) (h1 : e.1.size ≤ 80) (h2 : N80 e.2) : Sz (keyL E e) := by
  refine ⟨?_, hE⟩
  have := one_len h2
  have h3 : e.1.data.toList.length = e.1.size := rfl
  simp only [keyL, List.length_append, List.length_cons, List.length_nil]
  omega
theorem putRow_sz {k : Tr} {is : Bool} {r : Ro} {x : Ln} (hk : N80 k) (hr : Ok1 r) (h : putRow k is r = some x) : Sz x := by
  unfold putRow at h
  have h4 := hr.1
  have h5 := hr.2.2
  split at h
  · injection h with h; subst h; exact ⟨by omega, h5⟩
  · split at h
    · split at h
      · injection h with h; subst h; exact ⟨by omega, h5⟩
      · cases h
    · split at h
      · injection h with h
        subst h
        have := one_len (n80_get hk ⟨r.name.toArray⟩)
        refine ⟨?_, h5⟩
        simp only [withR, List.length_append, List.length_take, List.length_drop]
        omega
      · cases h
theorem steps_sz {k : Tr} {is : Bool} (hk : N80 k) : ∀ (rs : List Ro) (a : List Ln × Nat), (∀ r ∈ rs, Ok1 r) → (∀ x ∈ a.1, Sz x) → ∀ x ∈ (rs.foldl (stepR k is) a).1, Sz x
  | [], a, _, ha => ha
  | r :: rs, a, hr, ha => by
    rw [List.foldl_cons]
    refine steps_sz hk rs _ (fun y hy => hr y (List.mem_cons_of_mem _ hy)) ?_
    unfold stepR
    cases hp : putRow k is r with
    | none => exact ha
    | some x =>
      intro y hy
      rcases List.mem_append.1 hy with hy | hy
      · exact ha y hy
      · obtain rfl : y = x := by simpa using hy
        exact putRow_sz hk (hr r (by simp)) hp
theorem putPart_sz {t : Tr} {E : Bs} {p : Pt} (hE : E.length ≤ 4000) (ht : N80 t) (hr : ∀ r ∈ p.rows, Ok1 r) : ∀ x ∈ putPart t E p, Sz x := by
  unfold putPart
  dsimp only
  have hk := n80_get ht ⟨p.name.toArray⟩
  have h1 := steps_sz (is := (getT t [⟨p.name.toArray⟩]).2) hk p.rows ([], 0) hr (fun x hx => by cases hx)
  intro x hx
  rcases List.mem_append.1 hx with hx | hx
  · rcases List.mem_append.1 hx with hx | hx
    · exact h1 x (List.mem_of_mem_take hx)
    · obtain ⟨e, he, rfl⟩ := List.mem_map.1 hx
      have h2 := eds_n80 hk (List.mem_filter.1 he).1
      exact keyL_sz hE h2.1 h2.2
  · exact h1 x (List.mem_of_mem_drop hx)
theorem secL_sz {E : Bs} {e : ByteArray × Tr} (hE : E.length ≤ 4000) (h1 : e.1.size ≤ 80) (h2 : N80 e.2) : ∀ x ∈ secL E e, Sz x := by
  intro x hx
  have h3 : e.1.data.toList.length = e.1.size := rfl
  rcases List.mem_cons.1 hx with rfl | hx
  · refine ⟨?_, hE⟩
    simp only [List.length_append, List.length_cons, List.length_nil]
    omega
  · obtain ⟨e2, he2, rfl⟩ := List.mem_map.1 hx
    have h4 := eds_n80 h2 he2
    exact keyL_sz hE h4.1 h4.2
theorem join_sz : ∀ ls : List Ln, (∀ x ∈ ls, Sz x) → (join ls).length ≤ ls.length * 13000
  | [], _ => Nat.le_refl _
  | x :: ls, h => by
    have h1 := h x (by simp)
    have h2 := join_sz ls (fun y hy => h y (List.mem_cons_of_mem _ hy))
    have h3 := h1.1
    have h4 := h1.2
    rw [join, List.length_append, List.length_append, List.length_cons]
    omega
theorem ended_sz {E : Bs} (hE : E.length ≤ 4000) : ∀ ls : List Ln, (∀ x ∈ ls, Sz x) → ∀ x ∈ ended E ls, Sz x
  | [], _, x, hx => by cases hx
  | [y], h, x, hx => h x hx
  | y :: z :: r, h, x, hx => by
    rw [ended] at hx
    rcases List.mem_cons.1 hx with rfl | hx
    · have h1 := h y (by simp)
      refine ⟨h1.1, ?_⟩
      dsimp only
      split
      · exact hE
      · exact h1.2
    · exact ended_sz hE (z :: r) (fun q hq => h q (List.mem_cons_of_mem _ hq)) x hx
end Go.Proofs.YtapgaglkkgbgkaaGreatDoor.In
