/- csv's rows: what their fields mean; names; all of texts; the head. Conditions: texts of ASCII bytes where it is asked what they may be. -/
import Derived.Test.YtlojjmmjmpffnaaGreatDoorCvFlds
import Derived.Test.YtlojjmmjmpffnaaGreatDoorJudge
import Derived.Outline
namespace Go.Proofs.YtlojjmmjmpffnaaGreatDoor.Cv
open Go.RowKit Go.Proofs.YtlojjmmjmpffnaaGreatDoor.Jd Go.Proofs.YtlojjmmjmpffnaaGreatDoor.Li
set_option maxRecDepth 100000

set_option maxHeartbeats 1000000 in
theorem meaning_any (a b : ByteArray) (w : World) : Calls Tryz.prog 68 #[.agg #[.string a, .string b]] w fun e w' => e = .returned (.string b) ∧ Below w.heap.size w w' := by
  have hb0 : Below w.heap.size w (w.alloc (Obj.cells #[.string a, .string b] 113)) := (Below.refl _ _).alloc (Nat.le_refl _) _
  go_enter Tryz.func68, Tryz.ntmps68
  go_wp2_with fail
  go_ret
  exact ⟨rfl, hb0⟩
def meanV (ls : List Ln) : List Value := ls.map fun x => encs x.2
/-- So many of a row of texts are made. -/
def part (ls : List Ln) (n k : Nat) : Array Value := (meanV (ls.take k) ++ List.replicate (n - k) (Value.string ⟨#[]⟩)).toArray
theorem part_zero (ls : List Ln) (n : Nat) : madeCells #[Value.string ⟨#[]⟩] n = part ls n 0 := by
  apply Array.ext
  · simp [madeCells, part, meanV]
  · intro i h1 h2
    simp [madeCells, part, meanV, Nat.mod_one]
theorem part_set {ls : List Ln} {n k : Nat} {x : Ln} (hn : n = ls.length) (h : ls[k]? = some x) : (part ls n k).setIfInBounds k (encs x.2) = part ls n (k + 1) := by
  have hk : k < ls.length := (List.getElem?_eq_some_iff.1 h).1
  unfold part meanV
  rw [List.setIfInBounds_toArray]
  congr 1
  rw [List.take_add_one, h]
  obtain ⟨j, hj⟩ : ∃ j, n - k = j + 1 := ⟨n - k - 1, by omega⟩
  rw [hj, show n - (k + 1) = j by omega, List.replicate_succ]
  have hl : ((ls.take k).map fun x => encs x.2).length = k := by rw [List.length_map, List.length_take]; omega
  rw [List.set_append_right _ _ (by omega), hl, Nat.sub_self]
  simp
theorem part_all {ls : List Ln} {n : Nat} (hn : n = ls.length) : part ls n n = (meanV ls).toArray := by
  unfold part
  rw [hn, List.take_length, Nat.sub_self]
  simp
/-- A new row of what they mean. -/
def MnP (w : World) (ls : List Ln) (n : Nat) (en : Ending) (w' : World) : Prop := ∃ g, en = .returned (.slice (some ⟨g, 0, none⟩) n n) ∧ w.heap.size ≤ g ∧ w'.heap[g]? = some (.cells (meanV ls).toArray 9 (0, 0)) ∧ Below w.heap.size w w'

set_option maxHeartbeats 4000000 in
theorem eachM_any (ls : List Ln) (A : Option Addr) (n c B : Nat) (w : World) (h : SeesL w B A n ls) (hB : B ≤ w.heap.size) (hn : n ≤ 100000) : Calls Tryz.prog 67 #[.slice A n c, .func (.func 68) #[] #[]] w (MnP w ls n) := by
  obtain ⟨i0, hi, hz0, hz1, hz2⟩ := info_parts elem_str.info
  have hmk := fun W : World => run_make_row' (P := Tryz.prog) 28 9 (.string ⟨#[]⟩) 16 Tryz.underlying28 elem_str.info rfl .i64 .i64 n (by omega) (by omega) W
  rw [part_zero ls n] at hmk
  have Hl := Lib.hid h.len
  have HH := Lib.hid h
  clear h hi hz0 hz1 hz2
  go_enter Tryz.func67, Tryz.ntmps67
  go_wp2_with fail
  go_loopw [13] (fun i wr => ∃ (k : Nat), k ≤ n ∧ i = .int .i64 k ∧ Hid (wr.heap[w.heap.size]? = some (.cells (part ls n k) 9 (0, 0))) ∧ Hid (Below w.heap.size w wr)) (fun i _ => n - (intOf i).toNat)
  case atStart => exact ⟨0, Nat.zero_le _, rfl, Lib.hid (heap_alloc_new w _), Lib.hid ((Below.refl _ _).alloc (Nat.le_refl _) _)⟩
  case round =>
    obtain ⟨k, hk, rfl, HG, HW⟩ := hrel
    by_cases hlt : k < n
    · have hkl : k < ls.length := by have := Hl.out; omega
      obtain ⟨x, hx⟩ : ∃ x, ls[k]? = some x := ⟨_, List.getElem?_eq_getElem hkl⟩
      obtain ⟨b, o, rfl, hbl, hc1, hc2⟩ := (HH.out.below (HW.out.mono hB)).at_ hx
      obtain ⟨x1, hx1⟩ : ∃ x1 : ByteArray, encs x.1 = .string x1 := ⟨_, rfl⟩
      obtain ⟨x2, hx2⟩ : ∃ x2 : ByteArray, encs x.2 = .string x2 := ⟨_, rfl⟩
      rw [hx1] at hc1
      rw [hx2] at hc2
      have hps := part_set Hl.out hx
      rw [hx2] at hps
      have hkn : (k : Int) < (n : Int) := by omega
      have hk0 : (0 : Int) ≤ (k : Int) := by omega
      have hgl := (Array.getElem?_eq_some_iff.1 HG.out).1
      have hb1 : Below wr.heap.size wr (wr.alloc (Obj.cells #[.string x1, .string x2] 113)) := (Below.refl _ _).alloc (Nat.le_refl _) _
      have HM := Lib.hid (meaning_any x1 x2 (wr.alloc (Obj.cells #[.string x1, .string x2] 113)))
      have Hlt := Lib.hid hlt
      have HPs := Lib.hid hps
      have Hb1 := Lib.hid hb1
      clear hkl hx hx1 hx2 hlt hps hb1
      go_wp2_with fail
      (with_reducible refine HM.out.mono ?_)
      rintro e w2 ⟨rfl, hb2⟩
      have hb12 : Below wr.heap.size wr w2 := Hb1.out.trans (hb2.mono (by simp))
      have hg2 : w2.heap[w.heap.size]? = some (.cells (part ls n k) 9 (0, 0)) := (hb12.block _ hgl).trans HG.out
      have hsz : k < (part ls n k).size := by
        unfold part meanV
        simp only [List.size_toArray, List.length_append, List.length_map, List.length_take, List.length_replicate]
        have := Hl.out
        have := Hlt.out
        omega
      have hcg : w2.cell? ⟨w.heap.size, k, none⟩ = some ((part ls n k)[k]'hsz) := by
        rw [cell_of_row _ _ _ _ _ _ hg2]
        exact Array.getElem?_eq_getElem hsz
      obtain ⟨y, hy⟩ : ∃ y, y = (part ls n k)[k]'hsz := ⟨_, rfl⟩
      rw [← hy] at hcg
      have hfg : w2.frozen? ⟨w.heap.size, k, none⟩ = false := by simp [World.frozen?, hg2]
      have hg3 : (w2.setCell ⟨w.heap.size, k, none⟩ (.string x2)).heap[w.heap.size]? = some (.cells (part ls n (k + 1)) 9 (0, 0)) := by
        rw [heap_setCell_same w2 _ k _ _ _ hg2, HPs.out]
      have HG3 := Lib.hid hg3
      have HB3 := Lib.hid (((HW.out.trans (hb12.mono HW.out.size)).setCell (p := ⟨w.heap.size, k, none⟩) (Nat.le_refl _) (.string x2)))
      clear hb2 hb12 hg2 hsz hy hg3
      go_wp2_with fail
      go_roundw
      case rel => exact ⟨k + 1, Hlt.out, by go_num, HG3, HB3⟩
      case measure => have := Hlt.out; simp [intOf]; omega
    · obtain rfl : k = n := by omega
      have hg := HG.out
      rw [part_all Hl.out] at hg
      have HG2 := Lib.hid hg
      clear hlt hg HG
      go_wp2_with fail
      go_ret
      exact ⟨w.heap.size, rfl, Nat.le_refl _, HG2.out, HW.out⟩

set_option maxHeartbeats 1000000 in
theorem means_any (ls : List Ln) (A : Option Addr) (n c B : Nat) (en : ByteArray) (w : World) (h : SeesL w B A n ls) (hB : B ≤ w.heap.size) (hn : n ≤ 100000) : Calls Tryz.prog 44 #[.agg #[.slice A n c, .string en]] w (MnP w ls n) := by
  have hb0 : Below w.heap.size w (w.alloc (Obj.cells #[.slice A n c, .string en] 48)) := (Below.refl _ _).alloc (Nat.le_refl _) _
  have HE := Lib.hid (eachM_any ls A n c B (w.alloc (Obj.cells #[.slice A n c, .string en] 48)) (h.below (hb0.mono hB)) (Nat.le_trans hB hb0.size) hn)
  have HB0 := Lib.hid hb0
  clear h hb0
  go_enter Tryz.func44, Tryz.ntmps44
  go_wp2_with fail
  (with_reducible refine HE.out.mono ?_)
  rintro e w1 ⟨g, rfl, hg, hgc, hb1⟩
  have hb2 := HB0.out.trans (hb1.mono HB0.out.size)
  go_wp2_with fail
  go_ret
  exact ⟨g, rfl, Nat.le_trans HB0.out.size hg, hgc, hb2⟩
set_option maxHeartbeats 1000000 in
theorem rname_any (x : Ln) (ls : List Ln) (A : Option Addr) (n c B : Nat) (en nm : ByteArray) (w : World) (h : SeesL w B A n (x :: ls)) (hB : B ≤ w.heap.size) (hx : encs x.2 = .string nm) : Calls Tryz.prog 42 #[.agg #[.slice A n c, .string en]] w fun e w' => e = .returned (.string nm) ∧ Below w.heap.size w w' := by
  have hb0 : Below w.heap.size w (w.alloc (Obj.cells #[.slice A n c, .string en] 48)) := (Below.refl _ _).alloc (Nat.le_refl _) _
  obtain ⟨b, o, rfl, hbl, hc1, hc2⟩ := (h.below (hb0.mono hB)).at_ (j := 0) (x := x) rfl
  rw [hx, Nat.zero_mul, Nat.add_zero] at hc2
  have hn1 : (0 : Int) < (n : Int) := by have := h.len; simp at this; omega
  clear h hx hc1
  go_enter Tryz.func42, Tryz.ntmps42
  go_wp2_with fail
  go_ret
  exact ⟨rfl, hb0⟩
end Go.Proofs.YtlojjmmjmpffnaaGreatDoor.Cv
