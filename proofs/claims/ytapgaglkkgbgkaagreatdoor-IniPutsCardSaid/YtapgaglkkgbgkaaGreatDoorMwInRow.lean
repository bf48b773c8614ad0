/- ini's rows: what a line says. Conditions: texts of 4000 bytes at most; MaxLen's cell. · ini.rowOf: what a line says. Conditions: texts of 4000 bytes at most; MaxLen's cell. · append onto a row of the call's own, elements of at most 128 bytes (Grow's laws, for greater ones). Conditions: lengths below 2^39. · ini.inOrder sorts a row of edges of one's own. No conditions. -/
import Derived.Test.YtapgaglkkgbgkaaGreatDoorMwCvGrow
import Derived.Test.YtapgaglkkgbgkaaGreatDoorMwLiSplit
import Derived.Deep.RegionHeld3
import Derived.Deep.RegionWith
import Derived.Test.YtapgaglkkgbgkaaGreatDoorMwWords
import Derived.Outline
namespace Go.Proofs.YtapgaglkkgbgkaaGreatDoor.In
open Go.RowKit Go.Proofs.YtapgaglkkgbgkaaGreatDoor.Li Go.Proofs.YtapgaglkkgbgkaaGreatDoor.Cv
set_option maxRecDepth 100000

theorem suffix_one (r : Bs) : Lib.hasSuffix r [93] = decide (r.getLast? = some 93) := by
  rcases List.eq_nil_or_concat r with rfl | ⟨i, x, rfl⟩
  · rfl
  · rw [Lib.hasSuffix, Bool.eq_iff_iff, List.isSuffixOf_iff_suffix, decide_eq_true_iff, List.concat_eq_append, List.getLast?_append]
    simp only [List.getLast?_singleton, Option.some_or, Option.some.injEq]
    constructor
    · rintro ⟨t, ht⟩
      have := congrArg List.getLast? ht
      simp at this
      exact this.symm
    · rintro rfl; exact ⟨i, rfl⟩
theorem trim_one (r : Bs) (h : r.getLast? = some 93) : Lib.trimSuffix r [93] = r.dropLast := by
  rw [Lib.trimSuffix, suffix_one, decide_eq_true h, List.dropLast_eq_take]
  rfl
theorem index_one : ∀ l : Bs, Lib.index l [61] = Lib.indexByte l 61
  | [] => rfl
  | b :: l => by
    rw [Lib.index, Lib.indexByte, index_one l]
    have e : ([61] : Bs).isPrefixOf (b :: l) = (b == 61) := by
      simp only [List.isPrefixOf, Bool.and_true]
      rw [Bool.eq_iff_iff, beq_iff_eq, beq_iff_eq]
      exact eq_comm
    rw [e]
theorem cut_in : ∀ l : Bs, l.contains 61 = true → Lib.indexByte l 61 = ((ahead l).length : Nat) ∧ l.take (ahead l).length = ahead l
  | [], h => by simp at h
  | b :: l, h => by
    unfold ahead
    rw [Lib.indexByte, List.takeWhile_cons]
    by_cases hb : b = 61
    · subst hb
      exact ⟨rfl, rfl⟩
    · have h1 : (b == 61) = false := by simpa using hb
      have h2 : (b != 61) = true := by simpa using hb
      have h3 : l.contains 61 = true := by
        rw [List.contains_cons, Bool.or_eq_true] at h
        rcases h with h | h
        · exact absurd (beq_iff_eq.1 h).symm hb
        · exact h
      obtain ⟨i1, i2⟩ := cut_in l h3
      rw [h1, h2, i1]
      unfold ahead at i1 i2
      constructor
      · rw [if_neg (by simp), if_neg (by simp)]
        simp [ahead]
      · simp only [if_true, List.length_cons, List.take_succ_cons]
        rw [i2]
theorem cut_yes (l : Bs) (h : l.contains 61 = true) : Lib.cut l [61] = (ahead l, behind l, true) := by
  obtain ⟨h1, h2⟩ := cut_in l h
  rw [Lib.cut, index_one, h1, if_pos (by omega), behind]
  simp only [Int.toNat_natCast, h2]
  rfl
theorem cut_no (l : Bs) (h : l.contains 61 = false) : Lib.cut l [61] = (l, [], false) := by
  have e := Lib.contains_iff_indexByte l 61
  rw [h] at e
  rw [Lib.cut, index_one, if_neg (of_decide_eq_false e.symm)]
theorem ahead_len (l : Bs) : (ahead l).length ≤ l.length := by
  unfold ahead
  induction l with
  | nil => exact Nat.le_refl _
  | cons c r ih =>
    rw [List.takeWhile_cons]
    split
    · simp only [List.length_cons]; omega
    · simp
def rv (r : Ro) : Value := .agg #[Li.encs r.ln.1, Li.encs r.ln.2, .int .i64 r.kind, Li.encs r.name, Li.encs r.val, .int .i64 r.pos]
theorem rv_no : rv no = .agg #[.string ⟨#[]⟩, .string ⟨#[]⟩, .int .i64 0, .string ⟨#[]⟩, .string ⟨#[]⟩, .int .i64 0] := rfl
def RvP (w : World) (r : Ro) (e : Ending) (w' : World) : Prop := e = .returned (rv r) ∧ Below w.heap.size w w'
theorem mk_size (l : Bs) : (⟨l.toArray⟩ : ByteArray).size = l.length := by simp [ByteArray.size]

def Rbx (w : World) (g : Nat) (a b c d e f : Value) : Prop := w.heap[g]? = some (.cells #[a, b, c, d, e, f] 114 (0, 0))
section
variable {w w' : World} {g : Nat} {a b c d e f : Value}
theorem Rbx.lt (h : Rbx w g a b c d e f) : g < w.heap.size := (Array.getElem?_eq_some_iff.1 h).1
theorem Rbx.at_ (h : Rbx w g a b c d e f) (j : Nat) : w.cell? ⟨g, j, none⟩ = #[a, b, c, d, e, f][j]? := by rw [cell_of_row _ _ _ _ _ _ h]
theorem Rbx.cells (h : Rbx w g a b c d e f) : w.cell? ⟨g, 0, none⟩ = some a ∧ w.cell? ⟨g, 1, none⟩ = some b ∧ w.cell? ⟨g, 2, none⟩ = some c ∧ w.cell? ⟨g, 3, none⟩ = some d ∧ w.cell? ⟨g, 4, none⟩ = some e ∧ w.cell? ⟨g, 5, none⟩ = some f := ⟨h.at_ 0, h.at_ 1, h.at_ 2, h.at_ 3, h.at_ 4, h.at_ 5⟩
theorem Rbx.free (h : Rbx w g a b c d e f) : w.frozen? ⟨g, 0, none⟩ = false ∧ w.frozen? ⟨g, 1, none⟩ = false ∧ w.frozen? ⟨g, 2, none⟩ = false ∧ w.frozen? ⟨g, 3, none⟩ = false ∧ w.frozen? ⟨g, 4, none⟩ = false ∧ w.frozen? ⟨g, 5, none⟩ = false := by
  have h' : w.heap[g]? = some (.cells #[a, b, c, d, e, f] 114 (0, 0)) := h
  exact ⟨by simp [World.frozen?, h'], by simp [World.frozen?, h'], by simp [World.frozen?, h'], by simp [World.frozen?, h'], by simp [World.frozen?, h'], by simp [World.frozen?, h']⟩
theorem Rbx.below (h : Rbx w g a b c d e f) (hb : Below w.heap.size w w') : Rbx w' g a b c d e f := (hb.block _ h.lt).trans h
abbrev set6 (w : World) (g : Nat) (x0 x1 x2 x3 x4 x5 : Value) : World := (((((w.setCell ⟨g, 0, none⟩ x0).setCell ⟨g, 1, none⟩ x1).setCell ⟨g, 2, none⟩ x2).setCell ⟨g, 3, none⟩ x3).setCell ⟨g, 4, none⟩ x4).setCell ⟨g, 5, none⟩ x5
theorem Rbx.set (h : Rbx w g a b c d e f) (x0 x1 x2 x3 x4 x5 : Value) : Rbx (set6 w g x0 x1 x2 x3 x4 x5) g x0 x1 x2 x3 x4 x5 := by
  unfold Rbx set6
  rw [heap_setCell_same _ g 5 _ _ _ (heap_setCell_same _ g 4 _ _ _ (heap_setCell_same _ g 3 _ _ _ (heap_setCell_same _ g 2 _ _ _ (heap_setCell_same _ g 1 _ _ _ (heap_setCell_same w g 0 _ _ _ h)))))]
  rfl
end
theorem below6 {B : Nat} {w w' : World} {g : Nat} (h : Below B w w') (hg : B ≤ g) (x0 x1 x2 x3 x4 x5 : Value) : Below B w (set6 w' g x0 x1 x2 x3 x4 x5) :=
  (((((h.setCell (p := ⟨g, 0, none⟩) hg x0).setCell (p := ⟨g, 1, none⟩) hg x1).setCell (p := ⟨g, 2, none⟩) hg x2).setCell (p := ⟨g, 3, none⟩) hg x3).setCell (p := ⟨g, 4, none⟩) hg x4).setCell (p := ⟨g, 5, none⟩) hg x5
abbrev two (w : World) (t e : ByteArray) : World := (w.alloc (Obj.cells #[.string t, .string e] 85)).alloc (Obj.cells #[.string ⟨#[]⟩, .string ⟨#[]⟩, .int .i64 0, .string ⟨#[]⟩, .string ⟨#[]⟩, .int .i64 0] 114)
abbrev RZ (w : World) (g : Nat) : Prop := Rbx w g (.string ⟨#[]⟩) (.string ⟨#[]⟩) (.int .i64 0) (.string ⟨#[]⟩) (.string ⟨#[]⟩) (.int .i64 0)
theorem two_ok (w : World) (t e : ByteArray) : Below w.heap.size w (two w t e) ∧ RZ (two w t e) (w.heap.size + 1) ∧ (∀ W, Below (two w t e).heap.size (two w t e) W → W.cell? ⟨w.heap.size, 0, none⟩ = some (.string t) ∧ W.cell? ⟨w.heap.size, 1, none⟩ = some (.string e) ∧ RZ W (w.heap.size + 1)) := by
  have h1 := heap_alloc_new w (Obj.cells #[.string t, .string e] 85)
  have h2 : (two w t e).heap[w.heap.size]? = some (Obj.cells #[.string t, .string e] 85) := (Below.heap_alloc _ _ _ (by simp)).trans h1
  have h3 : RZ (two w t e) (w.heap.size + 1) := by
    have := heap_alloc_new (w.alloc (Obj.cells #[.string t, .string e] 85)) (Obj.cells #[.string ⟨#[]⟩, .string ⟨#[]⟩, .int .i64 0, .string ⟨#[]⟩, .string ⟨#[]⟩, .int .i64 0] 114)
    simpa [RZ, Rbx] using this
  have hl := (Array.getElem?_eq_some_iff.1 h2).1
  refine ⟨((Below.refl _ _).alloc (Nat.le_refl _) _).alloc (by simp) _, h3, fun W hW => ⟨(hW.cell (p := ⟨w.heap.size, 0, none⟩) hl).trans (by rw [cell_of_row _ _ _ _ _ _ h2]; rfl), (hW.cell (p := ⟨w.heap.size, 1, none⟩) hl).trans (by rw [cell_of_row _ _ _ _ _ _ h2]; rfl), h3.below hW⟩⟩

set_option maxHeartbeats 2000000 in
theorem header_any (t e0 b : ByteArray) (w : World) (hb : b.size ≤ 100000) : Calls Tryz.prog 89 #[.agg #[.string t, .string e0], .string b] w (RvP w (headR (t.data.toList, e0.data.toList) b.data.toList)) := by
  obtain ⟨R, hR⟩ : ∃ R, R = headR (t.data.toList, e0.data.toList) b.data.toList := ⟨_, rfl⟩
  rw [← hR]
  unfold headR at hR
  obtain ⟨W1, hW1⟩ : ∃ W, W = two w t e0 := ⟨_, rfl⟩
  obtain ⟨hb1, hz1, hk1⟩ := two_ok w t e0
  rw [← hW1] at hb1 hz1 hk1
  have HB1 := Lib.hid hb1
  have HK1 := Lib.hid hk1
  have hg1 : w.heap.size ≤ w.heap.size + 1 := Nat.le_succ _
  clear hz1 hk1
  unfold two at hW1
  have hS := fun W => Tryz.strings_CutSuffix b ⟨#[93]⟩ W (by omega)
  have e1 : Lib.hasSuffix b.data.toList (⟨#[93]⟩ : ByteArray).data.toList = decide (b.data.toList.getLast? = some 93) := suffix_one _
  rw [e1] at hS
  by_cases hl : b.data.toList.getLast? = some 93
  · have e2 : Lib.trimSuffix b.data.toList (⟨#[93]⟩ : ByteArray).data.toList = b.data.toList.dropLast := trim_one _ hl
    rw [e2, decide_eq_true hl] at hS
    obtain ⟨m, hm⟩ : ∃ m : ByteArray, m = ⟨b.data.toList.dropLast.toArray⟩ := ⟨_, rfl⟩
    have hml : m.data.toList = b.data.toList.dropLast := by rw [hm]
    have hms : m.size ≤ 100000 := by
      rw [hm, mk_size, List.length_dropLast]
      have : b.size = b.data.toList.length := rfl
      omega
    rw [← hm] at hS
    have HC := Lib.hid (fun W => section_any m W hms)
    obtain ⟨v, hv⟩ : ∃ v, v = sB m.data.toList := ⟨_, rfl⟩
    rw [← hv] at HC
    rw [← hml, ← hv] at hR
    have HS := Lib.hid hS
    clear hS hm hv hms
    cases v with
    | false =>
      rw [if_neg (by simp)] at hR
      have HR := Lib.hid hR
      clear hR hl hml hb1
      go_enter Tryz.func89, Tryz.ntmps89
      go_upto_region 1 with (fail)
      rw [← hW1]
      clear hW1
      obtain ⟨la0, la1, _⟩ := HK1.out W1 (Below.refl _ _)
      go_wp2_with fail
      (with_reducible refine (HS.out _).mono ?_)
      rintro e w1 ⟨rfl, rfl⟩
      go_wp2_with fail
      (with_reducible refine (HC.out _).mono ?_)
      rintro e w2 ⟨rfl, hb2⟩
      obtain ⟨l0, l1, hz⟩ := HK1.out w2 hb2
      obtain ⟨c0, c1, c2, c3, c4, c5⟩ := hz.cells
      obtain ⟨z0, z1, z2, z3, z4, z5⟩ := hz.free
      have HZ := Lib.hid hz
      have HBx := Lib.hid (HB1.out.trans (Below.mono hb2 HB1.out.size))
      clear hz
      clear hb2
      go_wp2_with fail
      obtain ⟨d0, d1, d2, d3, d4, d5⟩ := (HZ.out.set (.string ⟨#[]⟩) (.string ⟨#[]⟩) (.int .i64 0) (.string ⟨#[]⟩) (.string ⟨#[]⟩) (.int .i64 0)).cells
      refine bodyPost_ret (v := .agg #[.string ⟨#[]⟩, .string ⟨#[]⟩, .int .i64 0, .string ⟨#[]⟩, .string ⟨#[]⟩, .int .i64 0]) (by simp [results, Tryz.results89, go_sem, d0, d1, d2, d3, d4, d5]) rfl ?_
      exact ⟨by rw [HR.out, rv_no], below6 HBx.out hg1 _ _ _ _ _ _⟩
    | true =>
      rw [if_pos ⟨hl, rfl⟩] at hR
      have HR : Hid (R = ⟨(t.data.toList, e0.data.toList), 2, m.data.toList, [], 0⟩) := Lib.hid hR
      clear hR hl hml hb1
      go_enter Tryz.func89, Tryz.ntmps89
      go_upto_region 1 with (fail)
      rw [← hW1]
      clear hW1
      obtain ⟨la0, la1, _⟩ := HK1.out W1 (Below.refl _ _)
      go_wp2_with fail
      (with_reducible refine (HS.out _).mono ?_)
      rintro e w1 ⟨rfl, rfl⟩
      go_wp2_with fail
      (with_reducible refine (HC.out _).mono ?_)
      rintro e w2 ⟨rfl, hb2⟩
      obtain ⟨l0, l1, hz⟩ := HK1.out w2 hb2
      obtain ⟨c0, c1, c2, c3, c4, c5⟩ := hz.cells
      obtain ⟨z0, z1, z2, z3, z4, z5⟩ := hz.free
      have HZ := Lib.hid hz
      have HBx := Lib.hid (HB1.out.trans (Below.mono hb2 HB1.out.size))
      clear hz
      clear hb2
      go_wp2_with fail
      obtain ⟨d0, d1, d2, d3, d4, d5⟩ := (HZ.out.set (.string t) (.string e0) (.int .i64 2) (.string m) (.string ⟨#[]⟩) (.int .i64 0)).cells
      refine bodyPost_ret (v := .agg #[.string t, .string e0, .int .i64 2, .string m, .string ⟨#[]⟩, .int .i64 0]) (by simp [results, Tryz.results89, go_sem, d0, d1, d2, d3, d4, d5]) rfl ?_
      exact ⟨by rw [HR.out]; rfl, below6 HBx.out hg1 _ _ _ _ _ _⟩
  · rw [if_neg (fun h => hl h.1)] at hR
    rw [decide_eq_false hl] at hS
    have HS := Lib.hid hS
    have HR := Lib.hid hR
    clear hS hR hl hb1
    go_enter Tryz.func89, Tryz.ntmps89
    go_upto_region 1 with (fail)
    rw [← hW1]
    clear hW1
    obtain ⟨la0, la1, _⟩ := HK1.out W1 (Below.refl _ _)
    go_wp2_with fail
    (with_reducible refine (HS.out _).mono ?_)
    rintro e w1 ⟨rfl, rfl⟩
    obtain ⟨l0, l1, hz⟩ := HK1.out w1 (Below.refl _ _)
    obtain ⟨c0, c1, c2, c3, c4, c5⟩ := hz.cells
    obtain ⟨z0, z1, z2, z3, z4, z5⟩ := hz.free
    have HZ := Lib.hid hz
    have HBx := Lib.hid (HB1.out.trans (Below.mono (Below.refl _ _) HB1.out.size))
    clear hz
    go_wp2_with fail
    obtain ⟨d0, d1, d2, d3, d4, d5⟩ := (HZ.out.set (.string ⟨#[]⟩) (.string ⟨#[]⟩) (.int .i64 0) (.string ⟨#[]⟩) (.string ⟨#[]⟩) (.int .i64 0)).cells
    refine bodyPost_ret (v := .agg #[.string ⟨#[]⟩, .string ⟨#[]⟩, .int .i64 0, .string ⟨#[]⟩, .string ⟨#[]⟩, .int .i64 0]) (by simp [results, Tryz.results89, go_sem, d0, d1, d2, d3, d4, d5]) rfl ?_
    exact ⟨by rw [HR.out, rv_no], below6 HBx.out hg1 _ _ _ _ _ _⟩

theorem fr_size (b : ByteArray) : (fr b).size = (front b.data.toList).length := by
  rw [fr, mk_size]
  have h := en_le b.data.toList
  rw [sl_length (by omega), front, List.length_take]
  omega
set_option maxHeartbeats 8000000 in
theorem keyOf_any (t e0 : ByteArray) (w : World) (ht : t.size ≤ 4000) (hG : Gl w) : Calls Tryz.prog 90 #[.agg #[.string t, .string e0]] w (RvP w (keyR (t.data.toList, e0.data.toList))) := by
  obtain ⟨R, hR⟩ : ∃ R, R = keyR (t.data.toList, e0.data.toList) := ⟨_, rfl⟩
  rw [← hR]
  unfold keyR at hR
  dsimp only at hR
  have hts : t.size = t.data.toList.length := rfl
  obtain ⟨W1, hW1⟩ : ∃ W, W = two w t e0 := ⟨_, rfl⟩
  obtain ⟨hb1, hz1, hk1⟩ := two_ok w t e0
  rw [← hW1] at hb1 hz1 hk1
  have HB1 := Lib.hid hb1
  have HK1 := Lib.hid hk1
  have hg1 : w.heap.size ≤ w.heap.size + 1 := Nat.le_succ _
  clear hz1 hk1
  unfold two at hW1
  have hX : ∀ W, Below W1.heap.size W1 W → Calls Tryz.prog 110 #[.string t, .string ⟨#[61]⟩] W fun e w' => e = .returned (.tuple #[.string ⟨(Lib.cut t.data.toList [61]).1.toArray⟩, .string ⟨(Lib.cut t.data.toList [61]).2.1.toArray⟩, .bool (Lib.cut t.data.toList [61]).2.2]) ∧ ∃ n, w' = W.drewN n := fun W hW => by
    obtain ⟨m, hm⟩ := (hG.below hb1).below hW
    exact Tryz.strings_Cut t ⟨#[61]⟩ m W (by omega) hm
  cases hc : t.data.toList.contains 61 with
  | false =>
    rw [cut_no _ hc] at hX
    rw [if_neg (fun h => by rw [hc] at h; cases h.1)] at hR
    have HX := Lib.hid hX
    have HA := Lib.hid (fun W => trim_any t W (by omega))
    have HB := Lib.hid (fun W => trim_any ⟨#[]⟩ W (by decide))
    have HR := Lib.hid hR
    clear hX hR hc hb1 hG ht
    go_enter Tryz.func90, Tryz.ntmps90
    go_upto_region 1 with (fail)
    rw [← hW1]
    clear hW1
    obtain ⟨la0, la1, _⟩ := HK1.out W1 (Below.refl _ _)
    go_wp2_with fail
    (with_reducible refine (HX.out _ (Below.refl _ _)).mono ?_)
    rintro e w1 ⟨rfl, n1, rfl⟩
    have hq1 := below_drewN (Below.refl W1.heap.size W1) n1
    go_wp2_with fail
    (with_reducible refine (HA.out _).mono ?_)
    rintro e w2 ⟨rfl, hb2⟩
    have hq2 := hq1.trans (hb2.mono hq1.size)
    clear hb2
    go_wp2_with fail
    (with_reducible refine (HB.out _).mono ?_)
    rintro e w3 ⟨rfl, hb3⟩
    have hq3 := hq2.trans (hb3.mono hq2.size)
    clear hb3
    obtain ⟨l0, l1, hz⟩ := HK1.out w3 hq3
    obtain ⟨c0, c1, c2, c3, c4, c5⟩ := hz.cells
    obtain ⟨z0, z1, z2, z3, z4, z5⟩ := hz.free
    have HZ := Lib.hid hz
    have HBx := Lib.hid (HB1.out.trans (Below.mono hq3 HB1.out.size))
    clear hz
    clear hq1 hq2 hq3
    go_wp2_with fail
    obtain ⟨d0, d1, d2, d3, d4, d5⟩ := (HZ.out.set (.string ⟨#[]⟩) (.string ⟨#[]⟩) (.int .i64 0) (.string ⟨#[]⟩) (.string ⟨#[]⟩) (.int .i64 0)).cells
    refine bodyPost_ret (v := .agg #[.string ⟨#[]⟩, .string ⟨#[]⟩, .int .i64 0, .string ⟨#[]⟩, .string ⟨#[]⟩, .int .i64 0]) (by simp [results, Tryz.results90, go_sem, d0, d1, d2, d3, d4, d5]) rfl ?_
    exact ⟨by rw [HR.out, rv_no], below6 HBx.out hg1 _ _ _ _ _ _⟩
  | true =>
    rw [cut_yes _ hc] at hX
    obtain ⟨A, hA⟩ : ∃ A : ByteArray, A = ⟨(ahead t.data.toList).toArray⟩ := ⟨_, rfl⟩
    obtain ⟨B, hB⟩ : ∃ B : ByteArray, B = ⟨(behind t.data.toList).toArray⟩ := ⟨_, rfl⟩
    dsimp only at hX
    rw [← hA, ← hB] at hX
    have hAl : A.data.toList = ahead t.data.toList := by rw [hA]
    have hBl : B.data.toList = behind t.data.toList := by rw [hB]
    have hAz : A.size ≤ 4000 := by
      have h1 := ahead_len t.data.toList
      have h2 : A.size = A.data.toList.length := rfl
      rw [hAl] at h2
      omega
    have hBz : B.size ≤ 4000 := by
      have h2 : B.size = B.data.toList.length := rfl
      rw [hBl, behind, List.length_drop] at h2
      omega
    have hAm : (mi A).size ≤ 4000 := by have h1 := mi_size A; have h2 := en_le A.data.toList; have h3 : A.size = A.data.toList.length := rfl; omega
    have hBm : (mi B).size ≤ 4000 := by have h1 := mi_size B; have h2 := en_le B.data.toList; have h3 : B.size = B.data.toList.length := rfl; omega
    have hfz : (fr B).size ≤ 4000 := by
      rw [fr_size, front, List.length_take]
      have h3 : B.size = B.data.toList.length := rfl
      omega
    rw [← hAl, ← hBl] at hR
    have HX := Lib.hid hX
    have HA := Lib.hid (fun W => trim_any A W (by omega))
    have HB := Lib.hid (fun W => trim_any B W (by omega))
    have HC := Lib.hid (fun W => key_any (mi A) W (by omega))
    have HD := Lib.hid (fun W => value_any (mi B) W (by omega))
    obtain ⟨u, hu⟩ : ∃ u, u = In.kB (mi A).data.toList := ⟨_, rfl⟩
    obtain ⟨v, hv⟩ : ∃ v, v = In.vB (mi B).data.toList := ⟨_, rfl⟩
    rw [← hu] at HC
    rw [← hv] at HD
    rw [mi_mid] at hu hv
    rw [← hu, ← hv] at hR
    have hAs : (ahead t.data.toList).length = A.size := by rw [← hAl]; rfl
    rw [show (A.data.toList).length = A.size from rfl, ← fr_size] at hR
    clear hX hu hv hb1 hG ht hA hB hAl hBl hAs
    cases u with
    | false =>
      rw [if_neg (by simp)] at hR
      have HR := Lib.hid hR
      clear hR hc
      go_enter Tryz.func90, Tryz.ntmps90
      go_upto_region 1 with (fail)
      rw [← hW1]
      clear hW1
      obtain ⟨la0, la1, _⟩ := HK1.out W1 (Below.refl _ _)
      go_wp2_with fail
      (with_reducible refine (HX.out _ (Below.refl _ _)).mono ?_)
      rintro e w1 ⟨rfl, n1, rfl⟩
      have hq1 := below_drewN (Below.refl W1.heap.size W1) n1
      go_wp2_with fail
      (with_reducible refine (HA.out _).mono ?_)
      rintro e w2 ⟨rfl, hb2⟩
      have hq2 := hq1.trans (hb2.mono hq1.size)
      clear hb2
      go_wp2_with fail
      (with_reducible refine (HB.out _).mono ?_)
      rintro e w3 ⟨rfl, hb3⟩
      have hq3 := hq2.trans (hb3.mono hq2.size)
      clear hb3
      go_wp2_with fail
      (with_reducible refine (HC.out _).mono ?_)
      rintro e w4 ⟨rfl, hb4⟩
      have hq4 := hq3.trans (hb4.mono hq3.size)
      clear hb4
      obtain ⟨l0, l1, hz⟩ := HK1.out w4 hq4
      obtain ⟨c0, c1, c2, c3, c4, c5⟩ := hz.cells
      obtain ⟨z0, z1, z2, z3, z4, z5⟩ := hz.free
      have HZ := Lib.hid hz
      have HBx := Lib.hid (HB1.out.trans (Below.mono hq4 HB1.out.size))
      clear hz
      clear hq1 hq2 hq3 hq4
      go_wp2_with fail
      obtain ⟨d0, d1, d2, d3, d4, d5⟩ := (HZ.out.set (.string ⟨#[]⟩) (.string ⟨#[]⟩) (.int .i64 0) (.string ⟨#[]⟩) (.string ⟨#[]⟩) (.int .i64 0)).cells
      refine bodyPost_ret (v := .agg #[.string ⟨#[]⟩, .string ⟨#[]⟩, .int .i64 0, .string ⟨#[]⟩, .string ⟨#[]⟩, .int .i64 0]) (by simp [results, Tryz.results90, go_sem, d0, d1, d2, d3, d4, d5]) rfl ?_
      exact ⟨by rw [HR.out, rv_no], below6 HBx.out hg1 _ _ _ _ _ _⟩
    | true =>
      cases v with
      | false =>
        rw [if_neg (by simp)] at hR
        have HR := Lib.hid hR
        clear hR hc
        go_enter Tryz.func90, Tryz.ntmps90
        go_upto_region 1 with (fail)
        rw [← hW1]
        clear hW1
        obtain ⟨la0, la1, _⟩ := HK1.out W1 (Below.refl _ _)
        go_wp2_with fail
        (with_reducible refine (HX.out _ (Below.refl _ _)).mono ?_)
        rintro e w1 ⟨rfl, n1, rfl⟩
        have hq1 := below_drewN (Below.refl W1.heap.size W1) n1
        go_wp2_with fail
        (with_reducible refine (HA.out _).mono ?_)
        rintro e w2 ⟨rfl, hb2⟩
        have hq2 := hq1.trans (hb2.mono hq1.size)
        clear hb2
        go_wp2_with fail
        (with_reducible refine (HB.out _).mono ?_)
        rintro e w3 ⟨rfl, hb3⟩
        have hq3 := hq2.trans (hb3.mono hq2.size)
        clear hb3
        go_wp2_with fail
        (with_reducible refine (HC.out _).mono ?_)
        rintro e w4 ⟨rfl, hb4⟩
        have hq4 := hq3.trans (hb4.mono hq3.size)
        clear hb4
        go_wp2_with fail
        (with_reducible refine (HD.out _).mono ?_)
        rintro e w5 ⟨rfl, hb5⟩
        have hq5 := hq4.trans (hb5.mono hq4.size)
        clear hb5
        obtain ⟨l0, l1, hz⟩ := HK1.out w5 hq5
        obtain ⟨c0, c1, c2, c3, c4, c5⟩ := hz.cells
        obtain ⟨z0, z1, z2, z3, z4, z5⟩ := hz.free
        have HZ := Lib.hid hz
        have HBx := Lib.hid (HB1.out.trans (Below.mono hq5 HB1.out.size))
        clear hz
        clear hq1 hq2 hq3 hq4 hq5
        go_wp2_with fail
        obtain ⟨d0, d1, d2, d3, d4, d5⟩ := (HZ.out.set (.string ⟨#[]⟩) (.string ⟨#[]⟩) (.int .i64 0) (.string ⟨#[]⟩) (.string ⟨#[]⟩) (.int .i64 0)).cells
        refine bodyPost_ret (v := .agg #[.string ⟨#[]⟩, .string ⟨#[]⟩, .int .i64 0, .string ⟨#[]⟩, .string ⟨#[]⟩, .int .i64 0]) (by simp [results, Tryz.results90, go_sem, d0, d1, d2, d3, d4, d5]) rfl ?_
        exact ⟨by rw [HR.out, rv_no], below6 HBx.out hg1 _ _ _ _ _ _⟩
      | true =>
        rw [if_pos ⟨hc, rfl, rfl⟩] at hR
        obtain ⟨k1, hk1⟩ : ∃ k : Nat, k = A.size + 1 := ⟨_, rfl⟩
        have hw1 : IntKind.i64.wrap ((A.size : Int) + 1) = (k1 : Int) := by rw [IntKind.wrap_i64]; omega
        by_cases hm : mid B.data.toList = []
        · have he : ((mi B).toList == ([] : List UInt8)) = true := by rw [empty_eq, mi_mid, hm]; rfl
          have hne : ((mi B).toList != ([] : List UInt8)) = false := by rw [bne, he]; rfl
          rw [if_pos hm, Nat.add_zero, ← hk1] at hR
          have HR : Hid (R = ⟨(t.data.toList, e0.data.toList), 3, (mi A).data.toList, (mi B).data.toList, k1⟩) := Lib.hid hR
          clear hR hc hm hk1
          go_enter Tryz.func90, Tryz.ntmps90
          go_upto_region 1 with (fail)
          rw [← hW1]
          clear hW1
          obtain ⟨la0, la1, _⟩ := HK1.out W1 (Below.refl _ _)
          go_wp2_with fail
          (with_reducible refine (HX.out _ (Below.refl _ _)).mono ?_)
          rintro e w1 ⟨rfl, n1, rfl⟩
          have hq1 := below_drewN (Below.refl W1.heap.size W1) n1
          go_wp2_with fail
          (with_reducible refine (HA.out _).mono ?_)
          rintro e w2 ⟨rfl, hb2⟩
          have hq2 := hq1.trans (hb2.mono hq1.size)
          clear hb2
          go_wp2_with fail
          (with_reducible refine (HB.out _).mono ?_)
          rintro e w3 ⟨rfl, hb3⟩
          have hq3 := hq2.trans (hb3.mono hq2.size)
          clear hb3
          go_wp2_with fail
          (with_reducible refine (HC.out _).mono ?_)
          rintro e w4 ⟨rfl, hb4⟩
          have hq4 := hq3.trans (hb4.mono hq3.size)
          clear hb4
          go_wp2_with fail
          (with_reducible refine (HD.out _).mono ?_)
          rintro e w5 ⟨rfl, hb5⟩
          have hq5 := hq4.trans (hb5.mono hq4.size)
          clear hb5
          obtain ⟨l0, l1, hz⟩ := HK1.out w5 hq5
          obtain ⟨c0, c1, c2, c3, c4, c5⟩ := hz.cells
          obtain ⟨z0, z1, z2, z3, z4, z5⟩ := hz.free
          have HZ := Lib.hid hz
          have HBx := Lib.hid (HB1.out.trans (Below.mono hq5 HB1.out.size))
          clear hz
          clear hq1 hq2 hq3 hq4 hq5
          go_wp2_with fail
          obtain ⟨d0, d1, d2, d3, d4, d5⟩ := (HZ.out.set (.string t) (.string e0) (.int .i64 3) (.string (mi A)) (.string (mi B)) (.int .i64 (k1 : Int))).cells
          refine bodyPost_ret (v := .agg #[.string t, .string e0, .int .i64 3, .string (mi A), .string (mi B), .int .i64 (k1 : Int)]) (by simp [results, Tryz.results90, go_sem, d0, d1, d2, d3, d4, d5]) rfl ?_
          exact ⟨by rw [HR.out]; rfl, below6 HBx.out hg1 _ _ _ _ _ _⟩
        · have he : ((mi B).toList == ([] : List UInt8)) = false := by rw [empty_eq, mi_mid]; simpa using hm
          have hne : ((mi B).toList != ([] : List UInt8)) = true := by rw [bne, he]; rfl
          obtain ⟨k2, hk2⟩ : ∃ k : Nat, k = k1 + (fr B).size := ⟨_, rfl⟩
          have hw2 : IntKind.i64.wrap ((k1 : Int) + ((fr B).size : Int)) = (k2 : Int) := by rw [IntKind.wrap_i64]; omega
          rw [if_neg hm, ← hk1, ← hk2] at hR
          have HR : Hid (R = ⟨(t.data.toList, e0.data.toList), 3, (mi A).data.toList, (mi B).data.toList, k2⟩) := Lib.hid hR
          clear hR hc hm hk1 hk2
          go_enter Tryz.func90, Tryz.ntmps90
          go_upto_region 1 with (fail)
          rw [← hW1]
          clear hW1
          obtain ⟨la0, la1, _⟩ := HK1.out W1 (Below.refl _ _)
          go_wp2_with fail
          (with_reducible refine (HX.out _ (Below.refl _ _)).mono ?_)
          rintro e w1 ⟨rfl, n1, rfl⟩
          have hq1 := below_drewN (Below.refl W1.heap.size W1) n1
          go_wp2_with fail
          (with_reducible refine (HA.out _).mono ?_)
          rintro e w2 ⟨rfl, hb2⟩
          have hq2 := hq1.trans (hb2.mono hq1.size)
          clear hb2
          go_wp2_with fail
          (with_reducible refine (HB.out _).mono ?_)
          rintro e w3 ⟨rfl, hb3⟩
          have hq3 := hq2.trans (hb3.mono hq2.size)
          clear hb3
          go_wp2_with fail
          (with_reducible refine (HC.out _).mono ?_)
          rintro e w4 ⟨rfl, hb4⟩
          have hq4 := hq3.trans (hb4.mono hq3.size)
          clear hb4
          go_wp2_with fail
          (with_reducible refine (HD.out _).mono ?_)
          rintro e w5 ⟨rfl, hb5⟩
          have hq5 := hq4.trans (hb5.mono hq4.size)
          clear hb5
          obtain ⟨l0, l1, hz⟩ := HK1.out w5 hq5
          obtain ⟨c0, c1, c2, c3, c4, c5⟩ := hz.cells
          obtain ⟨z0, z1, z2, z3, z4, z5⟩ := hz.free
          have HZ := Lib.hid hz
          have HBx := Lib.hid (HB1.out.trans (Below.mono hq5 HB1.out.size))
          clear hz
          clear hq1 hq2 hq3 hq4 hq5
          go_wp2_with fail
          obtain ⟨d0, d1, d2, d3, d4, d5⟩ := (HZ.out.set (.string t) (.string e0) (.int .i64 3) (.string (mi A)) (.string (mi B)) (.int .i64 (k2 : Int))).cells
          refine bodyPost_ret (v := .agg #[.string t, .string e0, .int .i64 3, .string (mi A), .string (mi B), .int .i64 (k2 : Int)]) (by simp [results, Tryz.results90, go_sem, d0, d1, d2, d3, d4, d5]) rfl ?_
          exact ⟨by rw [HR.out]; rfl, below6 HBx.out hg1 _ _ _ _ _ _⟩
end Go.Proofs.YtapgaglkkgbgkaaGreatDoor.In
namespace Go.Proofs.YtapgaglkkgbgkaaGreatDoor.In
open Go.RowKit Go.Proofs.YtapgaglkkgbgkaaGreatDoor.Li Go.Proofs.YtapgaglkkgbgkaaGreatDoor.Cv
set_option maxRecDepth 100000

theorem mid_head (t : ByteArray) (c : UInt8) (r : Bs) (h : mid t.data.toList = c :: r) : ∃ hs : 0 < (mi t).size, (mi t)[0]'hs = c ∧ (⟨r.toArray⟩ : ByteArray) = (mi t).extract 1 (mi t).size := by
  have h2 : (mi t).data.toList = c :: r := h
  have hs : 0 < (mi t).size := by have : (mi t).size = (mi t).data.toList.length := rfl; rw [this, h2]; simp
  refine ⟨hs, ?_, ?_⟩
  · have e : (mi t).data.toList[0]? = some ((mi t)[0]'hs) := Lib.data_getElem? (mi t) 0 hs
    rw [h2] at e
    simpa using e.symm
  · have e := ext_sl (mi t) 1 (mi t).size
    injection e with e
    rw [e, h2]
    have : (mi t).size = (mi t).data.toList.length := rfl
    rw [this, h2, sl, List.take_length]
    rfl
set_option maxHeartbeats 8000000 in
theorem rowOf_any (t e0 : ByteArray) (w : World) (ht : t.size ≤ 4000) (hG : Gl w) : Calls Tryz.prog 68 #[.agg #[.string t, .string e0]] w (RvP w (rowI (t.data.toList, e0.data.toList))) := by
  obtain ⟨R, hR⟩ : ∃ R, R = rowI (t.data.toList, e0.data.toList) := ⟨_, rfl⟩
  rw [← hR]
  unfold rowI at hR
  dsimp only at hR
  obtain ⟨W1, hW1⟩ : ∃ W, W = two w t e0 := ⟨_, rfl⟩
  obtain ⟨hb1, hz1, hk1⟩ := two_ok w t e0
  rw [← hW1] at hb1 hz1 hk1
  have HB1 := Lib.hid hb1
  have HK1 := Lib.hid hk1
  have hg1 : w.heap.size ≤ w.heap.size + 1 := Nat.le_succ _
  clear hz1 hk1
  unfold two at hW1
  have HT := Lib.hid (fun W => trim_any t W (by omega))
  have hE := fun W => Tryz.strings_Contains_one t 13 W
  rw [show decide (0 ≤ Lib.indexByte t.data.toList 13) = t.data.toList.contains 13 from (Lib.contains_iff_indexByte _ _).symm] at hE
  cases hc : t.data.toList.contains 13 with
  | true =>
    rw [hc] at hE
    rw [if_pos hc] at hR
    have HE := Lib.hid hE
    have HR := Lib.hid hR
    clear hE hR hc hb1 hG
    go_enter Tryz.func68, Tryz.ntmps68
    go_upto_region 1 with (fail)
    rw [← hW1]
    clear hW1
    obtain ⟨la0, la1, _⟩ := HK1.out W1 (Below.refl _ _)
    go_wp2_with fail
    (with_reducible refine (HT.out _).mono ?_)
    rintro e w1 ⟨rfl, hb1⟩
    obtain ⟨l0, l1, hz⟩ := HK1.out w1 hb1
    have Hb1 := Lib.hid hb1
    clear hz hb1
    go_wp2_with fail
    (with_reducible refine (HE.out _).mono ?_)
    rintro e w2 ⟨rfl, rfl⟩
    obtain ⟨m0, m1, hz⟩ := HK1.out w2 Hb1.out
    obtain ⟨c0, c1, c2, c3, c4, c5⟩ := hz.cells
    obtain ⟨z0, z1, z2, z3, z4, z5⟩ := hz.free
    have HZ := Lib.hid hz
    have HBx := Lib.hid (HB1.out.trans (Below.mono Hb1.out HB1.out.size))
    clear hz
    clear m0 m1
    go_wp2_with fail
    obtain ⟨d0, d1, d2, d3, d4, d5⟩ := (HZ.out.set (.string ⟨#[]⟩) (.string ⟨#[]⟩) (.int .i64 0) (.string ⟨#[]⟩) (.string ⟨#[]⟩) (.int .i64 0)).cells
    refine bodyPost_ret (v := .agg #[.string ⟨#[]⟩, .string ⟨#[]⟩, .int .i64 0, .string ⟨#[]⟩, .string ⟨#[]⟩, .int .i64 0]) (by simp [results, Tryz.results68, go_sem, d0, d1, d2, d3, d4, d5]) rfl ?_
    exact ⟨by rw [HR.out, rv_no], below6 HBx.out hg1 _ _ _ _ _ _⟩
  | false =>
    rw [hc] at hE
    rw [if_neg (by rw [hc]; simp)] at hR
    have HE := Lib.hid hE
    clear hE hc
    cases hm : mid t.data.toList with
    | nil =>
      have he : ((mi t).toList == ([] : List UInt8)) = true := by rw [empty_eq, mi_mid, hm]; rfl
      rw [hm] at hR
      have HR : Hid (R = ⟨(t.data.toList, e0.data.toList), 1, [], [], 0⟩) := Lib.hid hR
      clear hR hm hb1 hG
      go_enter Tryz.func68, Tryz.ntmps68
      go_upto_region 1 with (fail)
      rw [← hW1]
      clear hW1
      obtain ⟨la0, la1, _⟩ := HK1.out W1 (Below.refl _ _)
      go_wp2_with fail
      (with_reducible refine (HT.out _).mono ?_)
      rintro e w1 ⟨rfl, hb1⟩
      obtain ⟨l0, l1, hz⟩ := HK1.out w1 hb1
      have Hb1 := Lib.hid hb1
      clear hz hb1
      go_wp2_with fail
      (with_reducible refine (HE.out _).mono ?_)
      rintro e w2 ⟨rfl, rfl⟩
      obtain ⟨m0, m1, hz⟩ := HK1.out w2 Hb1.out
      obtain ⟨c0, c1, c2, c3, c4, c5⟩ := hz.cells
      obtain ⟨z0, z1, z2, z3, z4, z5⟩ := hz.free
      have HZ := Lib.hid hz
      have HBx := Lib.hid (HB1.out.trans (Below.mono Hb1.out HB1.out.size))
      clear hz
      clear m0 m1
      go_wp2_with fail
      obtain ⟨d0, d1, d2, d3, d4, d5⟩ := (HZ.out.set (.string t) (.string e0) (.int .i64 1) (.string ⟨#[]⟩) (.string ⟨#[]⟩) (.int .i64 0)).cells
      refine bodyPost_ret (v := .agg #[.string t, .string e0, .int .i64 1, .string ⟨#[]⟩, .string ⟨#[]⟩, .int .i64 0]) (by simp [results, Tryz.results68, go_sem, d0, d1, d2, d3, d4, d5]) rfl ?_
      exact ⟨by rw [HR.out]; rfl, below6 HBx.out hg1 _ _ _ _ _ _⟩
    | cons c r =>
      have he : ((mi t).toList == ([] : List UInt8)) = false := by rw [empty_eq, mi_mid, hm]; rfl
      obtain ⟨hs, h0, hr⟩ := mid_head t c r hm
      have h0s : 0 < (mi t).size := hs
      have hsi : (1 : Int) ≤ ((mi t).size : Int) := by omega
      rw [hm] at hR
      dsimp only at hR
      by_cases h59 : c = 59
      · have q1 : (((mi t)[0].toNat : Int) == 59) = true := by rw [h0, h59]; rfl
        rw [if_pos (.inl h59)] at hR
        have HR : Hid (R = ⟨(t.data.toList, e0.data.toList), 1, [], [], 0⟩) := Lib.hid hR
        clear hR hm hb1 hG h0 hr h59
        go_enter Tryz.func68, Tryz.ntmps68
        go_upto_region 1 with (fail)
        rw [← hW1]
        clear hW1
        obtain ⟨la0, la1, _⟩ := HK1.out W1 (Below.refl _ _)
        go_wp2_with fail
        (with_reducible refine (HT.out _).mono ?_)
        rintro e w1 ⟨rfl, hb1⟩
        obtain ⟨l0, l1, hz⟩ := HK1.out w1 hb1
        have Hb1 := Lib.hid hb1
        clear hz hb1
        go_wp2_with fail
        (with_reducible refine (HE.out _).mono ?_)
        rintro e w2 ⟨rfl, rfl⟩
        obtain ⟨m0, m1, hz⟩ := HK1.out w2 Hb1.out
        obtain ⟨c0, c1, c2, c3, c4, c5⟩ := hz.cells
        obtain ⟨z0, z1, z2, z3, z4, z5⟩ := hz.free
        have HZ := Lib.hid hz
        have HBx := Lib.hid (HB1.out.trans (Below.mono Hb1.out HB1.out.size))
        clear hz
        clear m0 m1
        go_wp2_with fail
        obtain ⟨d0, d1, d2, d3, d4, d5⟩ := (HZ.out.set (.string t) (.string e0) (.int .i64 1) (.string ⟨#[]⟩) (.string ⟨#[]⟩) (.int .i64 0)).cells
        refine bodyPost_ret (v := .agg #[.string t, .string e0, .int .i64 1, .string ⟨#[]⟩, .string ⟨#[]⟩, .int .i64 0]) (by simp [results, Tryz.results68, go_sem, d0, d1, d2, d3, d4, d5]) rfl ?_
        exact ⟨by rw [HR.out]; rfl, below6 HBx.out hg1 _ _ _ _ _ _⟩
      · have n1 : c.toNat ≠ 59 := fun e => h59 (UInt8.toNat_inj.1 e)
        have q1 : (((mi t)[0].toNat : Int) == 59) = false := by rw [h0]; simp; omega
        by_cases h35 : c = 35
        · have q2 : (((mi t)[0].toNat : Int) == 35) = true := by rw [h0, h35]; rfl
          rw [if_pos (.inr h35)] at hR
          have HR : Hid (R = ⟨(t.data.toList, e0.data.toList), 1, [], [], 0⟩) := Lib.hid hR
          clear hR hm hb1 hG h0 hr h59 h35 n1
          go_enter Tryz.func68, Tryz.ntmps68
          go_upto_region 1 with (fail)
          rw [← hW1]
          clear hW1
          obtain ⟨la0, la1, _⟩ := HK1.out W1 (Below.refl _ _)
          go_wp2_with fail
          (with_reducible refine (HT.out _).mono ?_)
          rintro e w1 ⟨rfl, hb1⟩
          obtain ⟨l0, l1, hz⟩ := HK1.out w1 hb1
          have Hb1 := Lib.hid hb1
          clear hz hb1
          go_wp2_with fail
          (with_reducible refine (HE.out _).mono ?_)
          rintro e w2 ⟨rfl, rfl⟩
          obtain ⟨m0, m1, hz⟩ := HK1.out w2 Hb1.out
          obtain ⟨c0, c1, c2, c3, c4, c5⟩ := hz.cells
          obtain ⟨z0, z1, z2, z3, z4, z5⟩ := hz.free
          have HZ := Lib.hid hz
          have HBx := Lib.hid (HB1.out.trans (Below.mono Hb1.out HB1.out.size))
          clear hz
          clear m0 m1
          go_wp2_with fail
          obtain ⟨d0, d1, d2, d3, d4, d5⟩ := (HZ.out.set (.string t) (.string e0) (.int .i64 1) (.string ⟨#[]⟩) (.string ⟨#[]⟩) (.int .i64 0)).cells
          refine bodyPost_ret (v := .agg #[.string t, .string e0, .int .i64 1, .string ⟨#[]⟩, .string ⟨#[]⟩, .int .i64 0]) (by simp [results, Tryz.results68, go_sem, d0, d1, d2, d3, d4, d5]) rfl ?_
          exact ⟨by rw [HR.out]; rfl, below6 HBx.out hg1 _ _ _ _ _ _⟩
        · have n2 : c.toNat ≠ 35 := fun e => h35 (UInt8.toNat_inj.1 e)
          have q2 : (((mi t)[0].toNat : Int) == 35) = false := by rw [h0]; simp; omega
          rw [if_neg (fun h => h.elim h59 h35)] at hR
          by_cases h91 : c = 91
          · have q3 : (((mi t)[0].toNat : Int) == 91) = true := by rw [h0, h91]; rfl
            rw [if_pos h91] at hR
            obtain ⟨b, hb⟩ : ∃ b : ByteArray, b = (mi t).extract 1 (mi t).size := ⟨_, rfl⟩
            have hbl : b.data.toList = r := by rw [hb, ← hr]
            rw [← hbl] at hR
            have hbz : b.size ≤ 100000 := by
              have h2 : b.size = b.data.toList.length := rfl
              have h3 : (mi t).data.toList = c :: r := hm
              have h4 : (mi t).size = (mi t).data.toList.length := rfl
              have h5 := mi_size t
              have h6 := en_le t.data.toList
              have h7 : t.size = t.data.toList.length := rfl
              rw [h3, List.length_cons] at h4
              rw [hbl] at h2
              omega
            obtain ⟨s1, s2, k, s3, s4, p, hrv⟩ : ∃ (s1 s2 : ByteArray) (k : Nat) (s3 s4 : ByteArray) (p : Nat), rv R = .agg #[.string s1, .string s2, .int .i64 k, .string s3, .string s4, .int .i64 p] := ⟨_, _, _, _, _, _, rfl⟩
            have HH : Hid (∀ W, Calls Tryz.prog 89 #[.agg #[.string t, .string e0], .string b] W fun e w' => e = .returned (.agg #[.string s1, .string s2, .int .i64 k, .string s3, .string s4, .int .i64 p]) ∧ Below W.heap.size W w') := Lib.hid (fun W => by
              have := header_any t e0 b W hbz
              rw [← hR] at this
              unfold RvP at this
              rw [hrv] at this
              exact this)
            rw [hb] at HH
            have Hrv := Lib.hid hrv
            clear hm hb1 hG h0 hr h59 h35 n1 n2 h91 hb hbl hbz hR hrv
            go_enter Tryz.func68, Tryz.ntmps68
            go_upto_region 1 with (fail)
            rw [← hW1]
            clear hW1
            obtain ⟨la0, la1, _⟩ := HK1.out W1 (Below.refl _ _)
            go_wp2_with fail
            (with_reducible refine (HT.out _).mono ?_)
            rintro e w1 ⟨rfl, hb1⟩
            obtain ⟨l0, l1, hz⟩ := HK1.out w1 hb1
            have Hb1 := Lib.hid hb1
            clear hz hb1
            go_wp2_with fail
            (with_reducible refine (HE.out _).mono ?_)
            rintro e w2 ⟨rfl, rfl⟩
            obtain ⟨m0, m1, hz⟩ := HK1.out w2 Hb1.out
            obtain ⟨c0, c1, c2, c3, c4, c5⟩ := hz.cells
            obtain ⟨z0, z1, z2, z3, z4, z5⟩ := hz.free
            have HZ := Lib.hid hz
            have HBx := Lib.hid (HB1.out.trans (Below.mono Hb1.out HB1.out.size))
            clear hz
            clear m0 m1 HZ
            go_upto_region 7 with (fail)
            have hq0 := Hb1.out.drew
            clear c0 c1 c2 c3 c4 c5 z0 z1 z2 z3 z4 z5 la0 la1 l0 l1 q1 q2 q3 he
            obtain ⟨la0, la1, _⟩ := HK1.out w2.drew hq0
            go_region_with (go_at_call 89; (with_reducible refine (HH.out _).mono ?_); rintro e w3 ⟨rfl, hb3⟩; have hq3 := hq0.trans (hb3.mono hq0.size); have hz3 := (HK1.out w3 hq3).2.2; obtain ⟨c0, c1, c2, c3, c4, c5⟩ := hz3.cells; obtain ⟨z0, z1, z2, z3, z4, z5⟩ := hz3.free)
            have HZ := Lib.hid hz3
            have HBx3 := Lib.hid (HB1.out.trans (hq3.mono HB1.out.size))
            clear hz3 hb3 hq3 hq0
            go_wp2_with fail
            obtain ⟨d0, d1, d2, d3, d4, d5⟩ := (HZ.out.set (.string s1) (.string s2) (.int .i64 k) (.string s3) (.string s4) (.int .i64 p)).cells
            refine bodyPost_ret (v := .agg #[.string s1, .string s2, .int .i64 k, .string s3, .string s4, .int .i64 p]) (by simp [results, Tryz.results68, go_sem, d0, d1, d2, d3, d4, d5]) rfl ?_
            exact ⟨by rw [Hrv.out], below6 HBx3.out hg1 _ _ _ _ _ _⟩
          · have n3 : c.toNat ≠ 91 := fun e => h91 (UInt8.toNat_inj.1 e)
            have q3 : (((mi t)[0].toNat : Int) == 91) = false := by rw [h0]; simp; omega
            rw [if_neg h91] at hR
            obtain ⟨s1, s2, k, s3, s4, p, hrv⟩ : ∃ (s1 s2 : ByteArray) (k : Nat) (s3 s4 : ByteArray) (p : Nat), rv R = .agg #[.string s1, .string s2, .int .i64 k, .string s3, .string s4, .int .i64 p] := ⟨_, _, _, _, _, _, rfl⟩
            have hh : ∀ W, Below W1.heap.size W1 W → RvP W R = RvP W R := fun _ _ => rfl
            have HH : Hid (∀ W, Below W1.heap.size W1 W → Calls Tryz.prog 90 #[.agg #[.string t, .string e0]] W fun e w' => e = .returned (.agg #[.string s1, .string s2, .int .i64 k, .string s3, .string s4, .int .i64 p]) ∧ Below W.heap.size W w') := Lib.hid (fun W hW => by
              have := keyOf_any t e0 W ht ((hG.below hb1).below (w' := W) hW)
              rw [← hR] at this
              unfold RvP at this
              rw [hrv] at this
              exact this)
            have Hrv := Lib.hid hrv
            clear hm hb1 hG h0 hr h59 h35 n1 n2 h91 n3 hR hrv hh
            go_enter Tryz.func68, Tryz.ntmps68
            go_upto_region 1 with (fail)
            rw [← hW1]
            clear hW1
            obtain ⟨la0, la1, _⟩ := HK1.out W1 (Below.refl _ _)
            go_wp2_with fail
            (with_reducible refine (HT.out _).mono ?_)
            rintro e w1 ⟨rfl, hb1⟩
            obtain ⟨l0, l1, hz⟩ := HK1.out w1 hb1
            have Hb1 := Lib.hid hb1
            clear hz hb1
            go_wp2_with fail
            (with_reducible refine (HE.out _).mono ?_)
            rintro e w2 ⟨rfl, rfl⟩
            obtain ⟨m0, m1, hz⟩ := HK1.out w2 Hb1.out
            obtain ⟨c0, c1, c2, c3, c4, c5⟩ := hz.cells
            obtain ⟨z0, z1, z2, z3, z4, z5⟩ := hz.free
            have HZ := Lib.hid hz
            have HBx := Lib.hid (HB1.out.trans (Below.mono Hb1.out HB1.out.size))
            clear hz
            clear m0 m1 HZ
            go_wp2_with fail
            (with_reducible refine (HH.out _ Hb1.out).mono ?_)
            rintro e w3 ⟨rfl, hb3⟩
            have hz3 := (HK1.out w3 (Hb1.out.trans (hb3.mono Hb1.out.size))).2.2
            obtain ⟨c0, c1, c2, c3, c4, c5⟩ := hz3.cells
            obtain ⟨z0, z1, z2, z3, z4, z5⟩ := hz3.free
            have HZ := Lib.hid hz3
            have HBx3 := Lib.hid (HBx.out.trans (hb3.mono HBx.out.size))
            clear hz3 hb3
            go_wp2_with fail
            obtain ⟨d0, d1, d2, d3, d4, d5⟩ := (HZ.out.set (.string s1) (.string s2) (.int .i64 k) (.string s3) (.string s4) (.int .i64 p)).cells
            refine bodyPost_ret (v := .agg #[.string s1, .string s2, .int .i64 k, .string s3, .string s4, .int .i64 p]) (by simp [results, Tryz.results68, go_sem, d0, d1, d2, d3, d4, d5]) rfl ?_
            exact ⟨by rw [Hrv.out], below6 HBx3.out hg1 _ _ _ _ _ _⟩
end Go.Proofs.YtapgaglkkgbgkaaGreatDoor.In
namespace Go.Proofs.YtapgaglkkgbgkaaGreatDoor
open Go.RowKit
set_option maxRecDepth 100000

structure ElemB (P : Program) (t e : TypeId) (z : Value) (size bytes : Nat) : Prop where
  slice : P.underlying t = some (.slice e)
  info : (P.info? e).map (fun i => (i.zero, i.size, i.bytes)) = some (some z, size, bytes)
  cells : z.cells.size = size
  small : bytes ≤ 128

theorem run_append_big {P : Program} {w : World} {base n c m size bytes : Nat} {A : Option Addr} {xs ys : List Value} {t tx e : TypeId} {z x : Value} (ty : TypeId) (he : ElemB P t e z size bytes)
    (ho : w.ownsRow base e size (.slice A n c) n xs) (hx : Src P size tx x m ys w) (h46 : n + m ≤ 549755813888) (hbase : base ≤ w.heap.size) :
    ∃ A' c' w', (Builtin.append_ #[t, tx] ty #[.slice A n c, x]).run P w = .ok (.slice A' (n + m) c') w' ∧ w'.ownsRow base e size (.slice A' (n + m) c') (n + m) (xs ++ ys) ∧ w.grownBy w' (Value.slice A n c).ownBlock ∧
      (∀ a, A' = some a → a.block = w.heap.size ∨ some a.block = (Value.slice A n c).ownBlock) := by
  obtain ⟨i, hi, hz, hs, hb⟩ := info_parts he.info
  have hzs := he.cells
  have hsrc := hx
  rw [← hs] at hsrc
  have hlen := ho.1
  have hlen2 := hx.newsLen
  have hbb : (n + m) * bytes ≤ 549755813888 * 128 := Nat.mul_le_mul h46 he.small
  have grows : ∀ (hg : c < n + m), ∃ A' c' w', (Builtin.append_ #[t, tx] ty #[.slice A n c, x]).run P w = .ok (.slice A' (n + m) c') w' ∧ w'.ownsRow base e size (.slice A' (n + m) c') (n + m) (xs ++ ys) ∧ w.grownBy w' (Value.slice A n c).ownBlock ∧
      (∀ a, A' = some a → a.block = w.heap.size ∨ some a.block = (Value.slice A n c).ownBlock) := by
    intro hg
    have hold : (Builtin.firstCells i.size n (.slice A n c)).run P w.drew = .ok xs.toArray w.drew := by
      rcases A with _ | a
      · rcases ho.2 with ⟨e1, e2⟩ | ⟨g, cap, cur, e1, _⟩
        · subst e2
          obtain rfl : xs = [] := List.eq_nil_of_length_eq_zero (by omega)
          injection e1 with _ _ e3
          exact run_firstCells_none w.drew i.size 0 0 c
        · cases e1
      · exact run_firstCells_some w.drew i.size n a n c xs (by rw [hlen, hs]) (by simpa using rowCells ho)
    have hr := run_append_grow_src (P := P) w t tx ty e i z he.slice hi hz A n c xs hold x m ys hsrc hg (by omega) (growslice_fits hg (by rw [hb]; omega))
    have hge := grownCap_ge w (n + m) c e
    have hcm := grownCap_le_maxLen w (n + m) c e (by simp only [maxLen]; omega)
    refine ⟨_, _, _, hr, ⟨by rw [List.length_append, hlen, hlen2, Nat.add_mul], .inr ⟨w.heap.size, _, _, rfl, hbase, heap_alloc_new w.drew _, hge, hcm, ?_, ?_⟩⟩, ⟨rfl, rfl, rfl, by simp, fun k hk _ => heap_alloc_old w.drew _ hk⟩, fun a ha => .inl (by injection ha with ha; rw [← ha])⟩
    · simp only [Array.size_append, List.size_toArray, size_zeroCells, hzs, List.length_append, hlen, hlen2]
      rw [← Nat.add_mul, ← Nat.add_mul]
      congr 1
      omega
    · simp only [Array.toList_append]
      have : (n + m) * size = (xs ++ ys).length := by rw [List.length_append, hlen, hlen2, Nat.add_mul]
      rw [this, List.take_append_of_le_length (Nat.le_refl _), List.take_of_length_le (Nat.le_refl _)]
  rcases ho.2 with ⟨e1, hn0⟩ | ⟨g, cap, cur, e1, hbg, hg, hnc, hcm, hcs, htake⟩
  · injection e1 with e1 e2 e3
    subst e1; subst e2; subst e3
    obtain rfl : xs = [] := List.eq_nil_of_length_eq_zero (by omega)
    by_cases hm : m = 0
    · subst hm
      have h2 : ys = [] := List.eq_nil_of_length_eq_zero (by omega)
      subst h2
      refine ⟨none, 0, w, ?_, ⟨by simp, .inl ⟨rfl, rfl⟩⟩, World.grownBy.refl w _, fun a ha => by cases ha⟩
      rcases hsrc.kind with ⟨e', hk⟩ | hk <;> simp [Builtin.append_, run_underlying he.slice, run_underlying hk, sizeOf, typeInfo, hi, hsrc.len, hsrc.cells]
    · exact grows (by omega)
  · injection e1 with e1 e2 e3
    subst e1; subst e3
    by_cases hroom : n + m ≤ c
    · have hmul : (n + m) * size ≤ c * size := Nat.mul_le_mul_right _ hroom
      rw [Nat.add_mul] at hmul
      have hr := run_append_room_src (P := P) w t tx ty e i he.slice hi g 0 n c x m ys hsrc hroom
        (fun j hj => by rw [cell_of_row w g _ cur _ _ hg, hs, Array.getElem?_eq_getElem (by omega)]; rfl) (fun j hj => by simp [World.frozen?, hg])
      rw [hs] at hr
      have hh := heap_cells g ys (0 + n * size) w cur e hg (by omega)
      obtain ⟨o1, o2, o3, o4⟩ := setCells_os g ys (0 + n * size) w
      have htl : (cur.toList.take (0 + n * size)) = xs := by rw [Nat.zero_add]; exact htake
      rw [htl] at hh
      refine ⟨_, _, _, hr, ⟨by rw [List.length_append, hlen, hlen2, Nat.add_mul], .inr ⟨g, c, _, rfl, hbg, hh, hroom, hcm, ?_, ?_⟩⟩, ⟨o1, o2, o3, by rw [o4]; exact Nat.le_refl _, fun k _ hk => heap_cells_far g k (fun e => hk (by simp [Value.ownBlock, e])) _ _ _⟩, fun a ha => .inr (by injection ha with ha; rw [← ha]; rfl)⟩
      · simp only [List.size_toArray, List.length_append, List.length_drop, Array.length_toList]
        omega
      · have : (n + m) * size = (xs ++ ys).length := by rw [List.length_append, hlen, hlen2, Nat.add_mul]
        rw [this]
        rw [List.take_append_of_le_length (Nat.le_refl _), List.take_of_length_le (Nat.le_refl _)]
    · exact grows (by omega)

section
variable {P : Program} {w : World} {ops : Array Oper} {rest : List Oper} {o : Oper} {a : Act} {Q : Exit → Act → World → Prop}
theorem wpList_append_big (hgd : o.guard = none) (s x : Operand) (t tx : TypeId) (hop : o.op = .call { callee := .builtin .append, args := #[s, x], argTypes := #[t, tx] })
    {base n c m size bytes : Nat} {A : Option Addr} {xs ys : List Value} {e : TypeId} {z vx : Value} (he : ElemB P t e z size bytes)
    (hs : a.eval s = .slice A n c) (hxv : a.eval x = vx) (ho : w.ownsRow base e size (.slice A n c) n xs) (hx : Src P size tx vx m ys w) (h46 : n + m ≤ 549755813888) (hbase : base ≤ w.heap.size)
    (h : ∀ A' c' w', w'.ownsRow base e size (.slice A' (n + m) c') (n + m) (xs ++ ys) → w.grownBy w' (Value.slice A n c).ownBlock → (∀ a, A' = some a → a.block = w.heap.size ∨ some a.block = (Value.slice A n c).ownBlock) →
      wpList P ops Q rest (a.put o.dst (.slice A' (n + m) c')) w') : wpList P ops Q (o :: rest) a w := by
  obtain ⟨A', c', w', hr, h1, h2, h3⟩ := run_append_big o.type he ho hx h46 hbase
  exact Lib.wpList_append_run w hgd s x _ _ hop _ _ hs hxv _ _ hr (h A' c' w' h1 h2 h3)

theorem step_append_big {P : Program} {K : Act → World → Prop} {E : Prop} (hgd : o.guard = none) (s x : Operand) (t tx : TypeId) (hop : o.op = .call { callee := .builtin .append, args := #[s, x], argTypes := #[t, tx] })
    {base n c m size bytes : Nat} {A : Option Addr} {xs ys : List Value} {e : TypeId} {z vx : Value} (he : ElemB P t e z size bytes)
    (hs : a.eval s = .slice A n c) (hxv : a.eval x = vx) (ho : w.ownsRow base e size (.slice A n c) n xs) (hx : Src P size tx vx m ys w) (h46 : n + m ≤ 549755813888) (hbase : base ≤ w.heap.size)
    (h : ∀ A' c' w', w'.ownsRow base e size (.slice A' (n + m) c') (n + m) (xs ++ ys) → w.grownBy w' (Value.slice A n c).ownBlock → (∀ a, A' = some a → a.block = w.heap.size ∨ some a.block = (Value.slice A n c).ownBlock) →
      K (a.put o.dst (.slice A' (n + m) c')) w') :
    if Region.wanted o (yielded ops a.tmps) = true then Oper.wp P o a w K Q else E := by
  have hw : Region.wanted o (yielded ops a.tmps) = true := by simp [Region.wanted, hgd]
  rw [if_pos hw]
  obtain ⟨A', c', w', hr, h1, h2, h3⟩ := run_append_big o.type he ho hx h46 hbase
  unfold Oper.wp
  simp [execOp, hop, resolve, invoke, builtin, hs, hxv, hr, Result.andThen]
  exact h A' c' w' h1 h2 h3
end
end Go.Proofs.YtapgaglkkgbgkaaGreatDoor
namespace Go.Proofs.YtapgaglkkgbgkaaGreatDoor.In
open Go.RowKit Go.Proofs.YtapgaglkkgbgkaaGreatDoor.Jd Go.Proofs.YtapgaglkkgbgkaaGreatDoor.Li Go.Proofs.YtapgaglkkgbgkaaGreatDoor.Cl Go.Proofs.YtapgaglkkgbgkaaGreatDoor.Cv
set_option maxRecDepth 100000

theorem cmp1_any (a b : ByteArray) (A A2 : Option Addr) (n c n2 c2 : Nat) (w : World) : Calls Tryz.prog 96 #[.agg #[.string a, .slice A n c], .agg #[.string b, .slice A2 n2 c2]] w fun e w' => e = .returned (.int .i64 (Lib.compareBytes a.data.toList b.data.toList)) ∧ w' = (w.alloc (Obj.cells #[.string a, .slice A n c] 56)).alloc (Obj.cells #[.string b, .slice A2 n2 c2] 56) := by
  have HC := Lib.hid (fun W => Tryz.strings_Compare a b W)
  have h1 := heap_alloc_new w (Obj.cells #[.string a, .slice A n c] 56)
  have h1l := (Array.getElem?_eq_some_iff.1 h1).1
  have h1' : ((w.alloc (Obj.cells #[.string a, .slice A n c] 56)).alloc (Obj.cells #[.string b, .slice A2 n2 c2] 56)).cell? ⟨w.heap.size, 0, none⟩ = some (.string a) := by
    rw [World.cell?_alloc_lt _ _ _ h1l, cell_of_row _ _ _ _ _ _ h1]; rfl
  go_enter Tryz.func96, Tryz.ntmps96
  go_wp2_with fail
  (with_reducible refine (HC.out _).mono ?_)
  rintro e w1 ⟨rfl, rfl⟩
  go_wp2_with fail
  go_ret
  exact ⟨rfl, rfl⟩

def InOrd (srt : Tr → Tr) : Prop := ∀ (t : Tr) (A : Option Addr) (n c base : Nat) (vs : List Value) (w : World), Edg w base base A n c t vs → base ≤ w.heap.size → n ≤ 100000 →
  Calls Tryz.prog 71 #[.slice A n c] w fun e w' => ∃ vs', e = .returned (.slice A n c) ∧ Edg w' base base A n c (srt t) vs' ∧ Below base w w'

set_option maxHeartbeats 4000000 in
theorem inOrd_E : InOrd srtE := by
  intro t A n c base vs w h hB hn
  have hlen := h.len
  have hC : ∃ vs', Calls Tryz.prog 95 #[.slice A n c, .func (.func 96) #[] #[]] w fun e w' => e = .returned (.tuple #[]) ∧ Edg w' base base A n c (srtE t) vs' ∧ Below base w w' := by
    rcases h.own.2 with ⟨e0, e2⟩ | ⟨g, cap', cur, e0, hb, hg, hnc, hm, hs, ht⟩
    · injection e0 with e1 _ e3
      subst e1; subst e2; subst e3
      have et : t = .nil := by cases t with
        | nil => rfl
        | cons _ _ _ => simp [Tr.len] at hlen
      subst et
      refine ⟨[], (sortEdge_none _ w).mono ?_⟩
      rintro e w' ⟨rfl, rfl⟩
      exact ⟨rfl, by rw [srtE_nil]; exact Edg.nil _ _ _, Below.refl _ _⟩
    · injection e0 with e1 _ e3
      subst e1; subst e3
      have hgs : g < w.heap.size := (Array.getElem?_eq_some_iff.1 hg).1
      have hH : Sort.HoldsK (encE t vs) 2 w g 0 (Array.range t.len) := by
        intro j hj
        have hj' : j < t.len * 2 := by simpa using hj
        refine ⟨?_, by simp [World.frozen?, hg]⟩
        have e1 := rowCells h.own j _ (rowP_cel h.row j hj')
        rw [Addr.add_lit] at e1
        rw [e1, Sort.get_flatK _ _ _ _ (by simpa using hj')]
        rw [getElem!_pos (Array.range t.len) (j / 2) (by simp; omega)]
        simp
      have eg : ∀ args w, (callFunc 96 args).run Tryz.prog w = .ok (.enter 96 args) w := enters_of Tryz.func96 (by kernel_rfl) rfl
      have hcmp : CmpLays Tryz.prog 96 #[] (encE t vs) 2 (cfE t) g 0 (Array.range t.len).size w := by
        intro m os dk _ x y
        obtain ⟨A1, n1, c1, h1⟩ := slE_form vs x
        obtain ⟨A2, n2, c2, h2⟩ := slE_form vs y
        simp only [encE, h1, h2]
        refine (cmp1_any (nmE t x) (nmE t y) A1 A2 n1 c1 n2 c2 _).mono ?_
        rintro e w' ⟨rfl, rfl⟩
        exact ⟨rfl, 0, _, by rw [Sort.alloc_eq_grow, Sort.alloc_eq_grow, Sort.grow_grow]; rfl⟩
      have hc := sortEdge_eq (encE t vs) (fun _ => rfl) (fun x v hv => by
        obtain ⟨A1, n1, c1, h1⟩ := slE_form vs x
        simp only [encE, h1, List.mem_cons, List.not_mem_nil, or_false] at hv
        rcases hv with rfl | rfl <;> rfl) (cfE t) (swoE t) 96 #[] g 0 c (Array.range t.len) w eg hcmp hH hgs (by simp; omega)
      rw [Array.size_range] at hc
      subst hlen
      obtain ⟨p1, p2, _⟩ := pdq_mem t
      refine ⟨celI t vs (Sort.pdq (ltOf (cfE t)) (Array.range t.len) 0 t.len (Lib.bitLen t.len) true true).toList, hc.mono ?_⟩
      rintro e w' ⟨rfl, m, os, rfl⟩
      exact ⟨rfl, edg_sorted h hB hb _ p1 (fun i hi => by have := p2.mem_iff.1 hi; simpa using this) m os⟩
  obtain ⟨vs', hC⟩ := hC
  have HC := Lib.hid hC
  clear hC hlen h
  go_enter Tryz.func71, Tryz.ntmps71
  go_wp2_with fail
  (with_reducible refine HC.out.mono ?_)
  rintro e w' ⟨rfl, h1, h2⟩
  go_wp2_with fail
  go_ret
  exact ⟨vs', rfl, h1, h2⟩
end Go.Proofs.YtapgaglkkgbgkaaGreatDoor.In
