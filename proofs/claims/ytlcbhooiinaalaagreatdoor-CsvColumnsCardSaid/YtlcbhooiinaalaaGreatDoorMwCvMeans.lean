/- csv's rows: what their fields mean; names; all of texts; the head. Conditions: texts of ASCII bytes where it is asked what they may be. · csv's head: all of a row of texts; what is wrong with a head. Conditions: texts of ASCII bytes. -/
import Derived.Test.YtlcbhooiinaalaaGreatDoorMwLiRow
import Derived.Test.YtlcbhooiinaalaaGreatDoorJudge
import Derived.Outline
namespace Go.Proofs.YtlcbhooiinaalaaGreatDoor.Cv
open Go.RowKit Go.Proofs.YtlcbhooiinaalaaGreatDoor.Jd Go.Proofs.YtlcbhooiinaalaaGreatDoor.Li
set_option maxRecDepth 100000

set_option maxHeartbeats 1000000 in
theorem meaning_any (a b : ByteArray) (w : World) : Calls Tryz.prog 126 #[.agg #[.string a, .string b]] w fun e w' => e = .returned (.string b) ∧ Below w.heap.size w w' := by
  have hb0 : Below w.heap.size w (w.alloc (Obj.cells #[.string a, .string b] 149)) := (Below.refl _ _).alloc (Nat.le_refl _) _
  go_enter Tryz.func126, Tryz.ntmps126
  go_wp2_with fail
  go_ret
  exact ⟨rfl, hb0⟩
def meanV (ls : List Ln) : List Value := ls.map fun x => encs x.2
/-- So many of a row of texts are made. -/
def part (ls : List Ln) (n k : Nat) : Array Value := (meanV (ls.take k) ++ List.replicate (n - k) (Value.string ⟨#[]⟩)).toArray
theorem part_zero (ls : List Ln) (n : Nat) : madeCells #[Value.string ⟨#[]⟩] n = part ls n 0 := by
  apply Array.ext
  · simp [madeCells, part, meanV]
  · intro i h1 h2
    simp [madeCells, part, meanV, Nat.mod_one]
theorem part_set {ls : List Ln} {n k : Nat} {x : Ln} (hn : n = ls.length) (h : ls[k]? = some x) : (part ls n k).setIfInBounds k (encs x.2) = part ls n (k + 1) := by
  have hk : k < ls.length := (List.getElem?_eq_some_iff.1 h).1
  unfold part meanV
  rw [List.setIfInBounds_toArray]
  congr 1
  rw [List.take_add_one, h]
  obtain ⟨j, hj⟩ : ∃ j, n - k = j + 1 := ⟨n - k - 1, by omega⟩
  rw [hj, show n - (k + 1) = j by omega, List.replicate_succ]
  have hl : ((ls.take k).map fun x => encs x.2).length = k := by rw [List.length_map, List.length_take]; omega
  rw [List.set_append_right _ _ (by omega), hl, Nat.sub_self]
  simp
theorem part_all {ls : List Ln} {n : Nat} (hn : n = ls.length) : part ls n n = (meanV ls).toArray := by
  unfold part
  rw [hn, List.take_length, Nat.sub_self]
  simp
/-- A new row of what they mean. -/
def MnP (w : World) (ls : List Ln) (n : Nat) (en : Ending) (w' : World) : Prop := ∃ g, en = .returned (.slice (some ⟨g, 0, none⟩) n n) ∧ w.heap.size ≤ g ∧ w'.heap[g]? = some (.cells (meanV ls).toArray 9 (0, 0)) ∧ Below w.heap.size w w'

set_option maxHeartbeats 4000000 in
theorem eachM_any (ls : List Ln) (A : Option Addr) (n c B : Nat) (w : World) (h : SeesL w B A n ls) (hB : B ≤ w.heap.size) (hn : n ≤ 100000) : Calls Tryz.prog 125 #[.slice A n c, .func (.func 126) #[] #[]] w (MnP w ls n) := by
  obtain ⟨i0, hi, hz0, hz1, hz2⟩ := info_parts elem_str.info
  have hmk := fun W : World => run_make_row' (P := Tryz.prog) 28 9 (.string ⟨#[]⟩) 16 Tryz.underlying28 elem_str.info rfl .i64 .i64 n (by omega) (by omega) W
  rw [part_zero ls n] at hmk
  have Hl := Lib.hid h.len
  have HH := Lib.hid h
  clear h hi hz0 hz1 hz2
  go_enter Tryz.func125, Tryz.ntmps125
  go_wp2_with fail
  go_loopw [13] (fun i wr => ∃ (k : Nat), k ≤ n ∧ i = .int .i64 k ∧ Hid (wr.heap[w.heap.size]? = some (.cells (part ls n k) 9 (0, 0))) ∧ Hid (Below w.heap.size w wr)) (fun i _ => n - (intOf i).toNat)
  case atStart => exact ⟨0, Nat.zero_le _, rfl, Lib.hid (heap_alloc_new w _), Lib.hid ((Below.refl _ _).alloc (Nat.le_refl _) _)⟩
  case round =>
    obtain ⟨k, hk, rfl, HG, HW⟩ := hrel
    by_cases hlt : k < n
    · have hkl : k < ls.length := by have := Hl.out; omega
      obtain ⟨x, hx⟩ : ∃ x, ls[k]? = some x := ⟨_, List.getElem?_eq_getElem hkl⟩
      obtain ⟨b, o, rfl, hbl, hc1, hc2⟩ := (HH.out.below (HW.out.mono hB)).at_ hx
      obtain ⟨x1, hx1⟩ : ∃ x1 : ByteArray, encs x.1 = .string x1 := ⟨_, rfl⟩
      obtain ⟨x2, hx2⟩ : ∃ x2 : ByteArray, encs x.2 = .string x2 := ⟨_, rfl⟩
      rw [hx1] at hc1
      rw [hx2] at hc2
      have hps := part_set Hl.out hx
      rw [hx2] at hps
      have hkn : (k : Int) < (n : Int) := by omega
      have hk0 : (0 : Int) ≤ (k : Int) := by omega
      have hgl := (Array.getElem?_eq_some_iff.1 HG.out).1
      have hb1 : Below wr.heap.size wr (wr.alloc (Obj.cells #[.string x1, .string x2] 149)) := (Below.refl _ _).alloc (Nat.le_refl _) _
      have HM := Lib.hid (meaning_any x1 x2 (wr.alloc (Obj.cells #[.string x1, .string x2] 149)))
      have Hlt := Lib.hid hlt
      have HPs := Lib.hid hps
      have Hb1 := Lib.hid hb1
      clear hkl hx hx1 hx2 hlt hps hb1
      go_wp2_with fail
      (with_reducible refine HM.out.mono ?_)
      rintro e w2 ⟨rfl, hb2⟩
      have hb12 : Below wr.heap.size wr w2 := Hb1.out.trans (hb2.mono (by simp))
      have hg2 : w2.heap[w.heap.size]? = some (.cells (part ls n k) 9 (0, 0)) := (hb12.block _ hgl).trans HG.out
      have hsz : k < (part ls n k).size := by
        unfold part meanV
        simp only [List.size_toArray, List.length_append, List.length_map, List.length_take, List.length_replicate]
        have := Hl.out
        have := Hlt.out
        omega
      have hcg : w2.cell? ⟨w.heap.size, k, none⟩ = some ((part ls n k)[k]'hsz) := by
        rw [cell_of_row _ _ _ _ _ _ hg2]
        exact Array.getElem?_eq_getElem hsz
      obtain ⟨y, hy⟩ : ∃ y, y = (part ls n k)[k]'hsz := ⟨_, rfl⟩
      rw [← hy] at hcg
      have hfg : w2.frozen? ⟨w.heap.size, k, none⟩ = false := by simp [World.frozen?, hg2]
      have hg3 : (w2.setCell ⟨w.heap.size, k, none⟩ (.string x2)).heap[w.heap.size]? = some (.cells (part ls n (k + 1)) 9 (0, 0)) := by
        rw [heap_setCell_same w2 _ k _ _ _ hg2, HPs.out]
      have HG3 := Lib.hid hg3
      have HB3 := Lib.hid (((HW.out.trans (hb12.mono HW.out.size)).setCell (p := ⟨w.heap.size, k, none⟩) (Nat.le_refl _) (.string x2)))
      clear hb2 hb12 hg2 hsz hy hg3
      go_wp2_with fail
      go_roundw
      case rel => exact ⟨k + 1, Hlt.out, by go_num, HG3, HB3⟩
      case measure => have := Hlt.out; simp [intOf]; omega
    · obtain rfl : k = n := by omega
      have hg := HG.out
      rw [part_all Hl.out] at hg
      have HG2 := Lib.hid hg
      clear hlt hg HG
      go_wp2_with fail
      go_ret
      exact ⟨w.heap.size, rfl, Nat.le_refl _, HG2.out, HW.out⟩

set_option maxHeartbeats 1000000 in
theorem means_any (ls : List Ln) (A : Option Addr) (n c B : Nat) (en : ByteArray) (w : World) (h : SeesL w B A n ls) (hB : B ≤ w.heap.size) (hn : n ≤ 100000) : Calls Tryz.prog 82 #[.agg #[.slice A n c, .string en]] w (MnP w ls n) := by
  have hb0 : Below w.heap.size w (w.alloc (Obj.cells #[.slice A n c, .string en] 62)) := (Below.refl _ _).alloc (Nat.le_refl _) _
  have HE := Lib.hid (eachM_any ls A n c B (w.alloc (Obj.cells #[.slice A n c, .string en] 62)) (h.below (hb0.mono hB)) (Nat.le_trans hB hb0.size) hn)
  have HB0 := Lib.hid hb0
  clear h hb0
  go_enter Tryz.func82, Tryz.ntmps82
  go_wp2_with fail
  (with_reducible refine HE.out.mono ?_)
  rintro e w1 ⟨g, rfl, hg, hgc, hb1⟩
  have hb2 := HB0.out.trans (hb1.mono HB0.out.size)
  go_wp2_with fail
  go_ret
  exact ⟨g, rfl, Nat.le_trans HB0.out.size hg, hgc, hb2⟩
set_option maxHeartbeats 1000000 in
theorem rname_any (x : Ln) (ls : List Ln) (A : Option Addr) (n c B : Nat) (en nm : ByteArray) (w : World) (h : SeesL w B A n (x :: ls)) (hB : B ≤ w.heap.size) (hx : encs x.2 = .string nm) : Calls Tryz.prog 68 #[.agg #[.slice A n c, .string en]] w fun e w' => e = .returned (.string nm) ∧ Below w.heap.size w w' := by
  have hb0 : Below w.heap.size w (w.alloc (Obj.cells #[.slice A n c, .string en] 62)) := (Below.refl _ _).alloc (Nat.le_refl _) _
  obtain ⟨b, o, rfl, hbl, hc1, hc2⟩ := (h.below (hb0.mono hB)).at_ (j := 0) (x := x) rfl
  rw [hx, Nat.zero_mul, Nat.add_zero] at hc2
  have hn1 : (0 : Int) < (n : Int) := by have := h.len; simp at this; omega
  clear h hx hc1
  go_enter Tryz.func68, Tryz.ntmps68
  go_wp2_with fail
  go_ret
  exact ⟨rfl, hb0⟩
end Go.Proofs.YtlcbhooiinaalaaGreatDoor.Cv
namespace Go.Proofs.YtlcbhooiinaalaaGreatDoor.Cv
open Go.RowKit Go.Proofs.YtlcbhooiinaalaaGreatDoor.Jd Go.Proofs.YtlcbhooiinaalaaGreatDoor.Li
set_option maxRecDepth 100000

/-- Texts of fields: what they mean. -/
def mns (ls : List Ln) : List ByteArray := ls.map fun x => ⟨x.2.toArray⟩
theorem mean_strs (ls : List Ln) : meanV ls = (mns ls).map Value.string := by simp [meanV, mns, encs]
theorem mn_sees {w : World} {g n : Nat} {ls : List Ln} (hn : n = ls.length) (h : w.heap[g]? = some (.cells (meanV ls).toArray 9 (0, 0))) : SeesV w w.heap.size (some ⟨g, 0, none⟩) n ((mns ls).map Value.string) := by
  rw [← mean_strs]
  refine ⟨by simp [meanV]; omega, fun j u hu => ⟨g, 0, rfl, (Array.getElem?_eq_some_iff.1 h).1, ?_⟩⟩
  rw [cell_of_row _ _ _ _ _ _ h, Nat.zero_add]
  simpa using hu
theorem strs_at {w : World} {B n k : Nat} {A : Option Addr} {zs : List ByteArray} (h : SeesV w B A n (zs.map Value.string)) (hk : k < n) : ∃ b o z, A = some ⟨b, o, none⟩ ∧ b < B ∧ zs[k]? = some z ∧ w.cell? ⟨b, o + k, none⟩ = some (.string z) := by
  have hl := h.len
  rw [List.length_map] at hl
  obtain ⟨z, hz⟩ : ∃ z, zs[k]? = some z := ⟨_, List.getElem?_eq_getElem (by omega)⟩
  obtain ⟨b, o, ha, hb, hc⟩ := h.cell k (.string z) (by rw [List.getElem?_map, hz]; rfl)
  exact ⟨b, o, z, ha, hb, hz, hc⟩

set_option maxHeartbeats 4000000 in
theorem alls_value (zs : List ByteArray) (A : Option Addr) (n c B : Nat) (w : World) (h : SeesV w B A n (zs.map Value.string)) (hB : B ≤ w.heap.size) (hn : n ≤ 1099511627776) (hp : ∀ z ∈ zs, Pl z) : Calls Tryz.prog 119 #[.slice A n c, .func (.func 89) #[] #[]] w fun e w' => e = .returned (.bool (zs.all vB)) ∧ Below w.heap.size w w' := by
  have Hl : Hid (n = zs.length) := Lib.hid (by have := h.len; simpa using this)
  have HH := Lib.hid h
  have Hp := Lib.hid hp
  clear h hp
  go_enter Tryz.func119, Tryz.ntmps119
  go_wp2_with fail
  go_loopw [9] (fun i wr => ∃ (k : Nat), k ≤ n ∧ i = .int .i64 k ∧ Hid (Below w.heap.size w wr) ∧ Hid ((zs.drop k).all vB = zs.all vB)) (fun i _ => n - (intOf i).toNat)
  case atStart => exact ⟨0, Nat.zero_le _, rfl, Lib.hid (Below.refl _ _), Lib.hid rfl⟩
  case round =>
    obtain ⟨k, hk, rfl, HW, HA⟩ := hrel
    by_cases hlt : k < n
    · obtain ⟨b, q, z, rfl, hbl, hz, hc⟩ := strs_at (HH.out.below (HW.out.mono hB)) hlt
      have hkl : k < zs.length := (List.getElem?_eq_some_iff.1 hz).1
      have hze : zs[k] = z := (List.getElem?_eq_some_iff.1 hz).2
      have hkn : (k : Int) < (n : Int) := by omega
      have hk0 : (0 : Int) ≤ (k : Int) := by omega
      have HF := Lib.hid (value_any z wr (Hp.out z (List.mem_of_getElem? hz)))
      obtain ⟨u, hu⟩ : ∃ u, u = vB z := ⟨_, rfl⟩
      rw [← hu] at HF
      have HA2 : Hid (zs.all vB = (u && (zs.drop (k + 1)).all vB)) := Lib.hid (by rw [← HA.out, List.drop_eq_getElem_cons hkl, List.all_cons, hze, hu])
      have Hlt := Lib.hid hlt
      clear hu hlt HA hz hkl hze
      cases u with
      | true =>
        go_wp2_with fail
        (with_reducible refine HF.out.mono ?_)
        rintro e w2 ⟨rfl, hb2⟩
        have HW2 := Lib.hid (HW.out.trans (hb2.mono HW.out.size))
        clear hb2
        go_wp2_with fail
        go_roundw
        case rel => exact ⟨k + 1, Hlt.out, by go_num, HW2, Lib.hid (by rw [HA2.out]; rfl)⟩
        case measure => have := Hlt.out; simp [intOf]; omega
      | false =>
        go_wp2_with fail
        (with_reducible refine HF.out.mono ?_)
        rintro e w2 ⟨rfl, hb2⟩
        have HW2 := Lib.hid (HW.out.trans (hb2.mono HW.out.size))
        clear hb2
        go_wp2_with fail
        go_ret
        exact ⟨by rw [HA2.out]; rfl, HW2.out⟩
    · obtain rfl : k = n := by omega
      have HA2 : Hid (zs.all vB = true) := Lib.hid (by
        have := HA.out
        rw [List.drop_of_length_le (by rw [← Hl.out]; exact Nat.le_refl _)] at this
        exact this.symm)
      clear hlt HA
      go_wp2_with fail
      go_ret
      exact ⟨by rw [HA2.out]; rfl, HW.out⟩

set_option maxHeartbeats 4000000 in
theorem alls_column (zs : List ByteArray) (A : Option Addr) (n c B : Nat) (w : World) (h : SeesV w B A n (zs.map Value.string)) (hB : B ≤ w.heap.size) (hn : n ≤ 1099511627776) (hp : ∀ z ∈ zs, Pl z) : Calls Tryz.prog 119 #[.slice A n c, .func (.func 90) #[] #[]] w fun e w' => e = .returned (.bool (zs.all cB)) ∧ Below w.heap.size w w' := by
  have Hl : Hid (n = zs.length) := Lib.hid (by have := h.len; simpa using this)
  have HH := Lib.hid h
  have Hp := Lib.hid hp
  clear h hp
  go_enter Tryz.func119, Tryz.ntmps119
  go_wp2_with fail
  go_loopw [9] (fun i wr => ∃ (k : Nat), k ≤ n ∧ i = .int .i64 k ∧ Hid (Below w.heap.size w wr) ∧ Hid ((zs.drop k).all cB = zs.all cB)) (fun i _ => n - (intOf i).toNat)
  case atStart => exact ⟨0, Nat.zero_le _, rfl, Lib.hid (Below.refl _ _), Lib.hid rfl⟩
  case round =>
    obtain ⟨k, hk, rfl, HW, HA⟩ := hrel
    by_cases hlt : k < n
    · obtain ⟨b, q, z, rfl, hbl, hz, hc⟩ := strs_at (HH.out.below (HW.out.mono hB)) hlt
      have hkl : k < zs.length := (List.getElem?_eq_some_iff.1 hz).1
      have hze : zs[k] = z := (List.getElem?_eq_some_iff.1 hz).2
      have hkn : (k : Int) < (n : Int) := by omega
      have hk0 : (0 : Int) ≤ (k : Int) := by omega
      have HF := Lib.hid (column_any z wr (Hp.out z (List.mem_of_getElem? hz)))
      obtain ⟨u, hu⟩ : ∃ u, u = cB z := ⟨_, rfl⟩
      rw [← hu] at HF
      have HA2 : Hid (zs.all cB = (u && (zs.drop (k + 1)).all cB)) := Lib.hid (by rw [← HA.out, List.drop_eq_getElem_cons hkl, List.all_cons, hze, hu])
      have Hlt := Lib.hid hlt
      clear hu hlt HA hz hkl hze
      cases u with
      | true =>
        go_wp2_with fail
        (with_reducible refine HF.out.mono ?_)
        rintro e w2 ⟨rfl, hb2⟩
        have HW2 := Lib.hid (HW.out.trans (hb2.mono HW.out.size))
        clear hb2
        go_wp2_with fail
        go_roundw
        case rel => exact ⟨k + 1, Hlt.out, by go_num, HW2, Lib.hid (by rw [HA2.out]; rfl)⟩
        case measure => have := Hlt.out; simp [intOf]; omega
      | false =>
        go_wp2_with fail
        (with_reducible refine HF.out.mono ?_)
        rintro e w2 ⟨rfl, hb2⟩
        have HW2 := Lib.hid (HW.out.trans (hb2.mono HW.out.size))
        clear hb2
        go_wp2_with fail
        go_ret
        exact ⟨by rw [HA2.out]; rfl, HW2.out⟩
    · obtain rfl : k = n := by omega
      have HA2 : Hid (zs.all cB = true) := Lib.hid (by
        have := HA.out
        rw [List.drop_of_length_le (by rw [← Hl.out]; exact Nat.le_refl _)] at this
        exact this.symm)
      clear hlt HA
      go_wp2_with fail
      go_ret
      exact ⟨by rw [HA2.out]; rfl, HW.out⟩

/-- Is one of these there ahead already? -/
def dupF : List ByteArray → List ByteArray → Bool
  | _, [] => false
  | a, x :: r => Lib.containsS a x || dupF (a ++ [x]) r
/-- What is wrong with a head. -/
def headF : List ByteArray → Int
  | [] => 0
  | m :: cols => if (m.toList == [107, 101, 121]) = false then 6 else if cols.all cB = false then 6 else if dupF [] cols = true then 7 else 0
theorem contains_any (zs : List ByteArray) (A : Option Addr) (n k c B : Nat) (x : ByteArray) (w : World) (h : SeesV w B A n (zs.map Value.string)) (hk : k ≤ n) (hn : n ≤ 1099511627776) : Calls Tryz.prog 95 #[.slice A k c, .string x] w fun e w' => e = .returned (.bool (Lib.containsS (zs.take k) x)) ∧ w' = w := by
  have hl := h.len
  rw [List.length_map] at hl
  rcases Nat.eq_zero_or_pos k with h0 | h0
  · subst h0
    refine (Tryz.slices_Contains_string_empty A c x w).mono ?_
    rintro e w' ⟨rfl, rfl⟩
    exact ⟨by rw [List.take_zero]; rfl, rfl⟩
  · obtain ⟨b, o, z, rfl, _, _, _⟩ := strs_at h (k := 0) (by omega)
    refine (Tryz.slices_Contains_string b o k c (zs.take n) x w (by rw [List.length_take]; omega) (by omega) (fun j hj => ?_)).mono ?_
    · rw [List.length_take] at hj
      obtain ⟨b', o', z', e, _, hz', hc⟩ := strs_at h (k := j) (by omega)
      injection e with e
      injection e with e1 e2
      subst e1; subst e2
      rw [hc, List.getD_eq_getElem?_getD, List.getElem?_take_of_lt (by omega), hz']
      rfl
    · rintro e w' ⟨rfl, rfl⟩
      exact ⟨by rw [List.take_take, Nat.min_eq_left hk], rfl⟩
theorem sees_tail {w : World} {B n : Nat} {b o : Nat} {z : ByteArray} {zs : List ByteArray} (h : SeesV w B (some ⟨b, o, none⟩) n ((z :: zs).map Value.string)) : SeesV w B (some ⟨b, o + 1, none⟩) (n - 1) (zs.map Value.string) := by
  have hl := h.len
  refine ⟨by simp at hl ⊢; omega, fun j u hu => ?_⟩
  obtain ⟨b', o', e, hb, hc⟩ := h.cell (j + 1) u (by simpa using hu)
  injection e with e
  injection e with e1 e2
  subst e1; subst e2
  exact ⟨_, _, rfl, hb, by rw [show o + 1 + j = o + (j + 1) by omega]; exact hc⟩

set_option maxHeartbeats 4000000 in
theorem headFault_any (m : ByteArray) (cols : List ByteArray) (b o n c B : Nat) (w : World) (h : SeesV w B (some ⟨b, o, none⟩) n ((m :: cols).map Value.string)) (hB : B ≤ w.heap.size) (hn : n ≤ 100000) (hnc : n ≤ c) (hm : c ≤ maxLen) (hp : ∀ z ∈ cols, Pl z) :
    Calls Tryz.prog 118 #[.slice (some ⟨b, o, none⟩) n c] w fun e w' => e = .returned (.int .i64 (headF (m :: cols))) ∧ Below w.heap.size w w' := by
  obtain ⟨q, hq⟩ : ∃ q, n = q + 1 := ⟨n - 1, by have := h.len; simp at this; omega⟩
  subst hq
  obtain ⟨b', o', m', e, hbl, hm', hc0⟩ := strs_at h (k := 0) (by omega)
  injection e with e
  injection e with e1 e2
  subst e1; subst e2
  obtain rfl : m = m' := by simpa using hm'
  have ht := sees_tail h
  rw [Nat.add_sub_cancel] at ht
  rw [Nat.add_zero] at hc0
  have hAd : ∃ A2, SeesV w B A2 q (cols.map Value.string) ∧ (if c = 1 then (some ⟨b, o, none⟩ : Option Addr) else some ⟨b, o + 1, none⟩) = A2 := by
    by_cases h1 : c = 1
    · obtain rfl : q = 0 := by omega
      refine ⟨some ⟨b, o, none⟩, ?_, by rw [if_pos h1]⟩
      have hl := ht.len
      have : cols = [] := List.eq_nil_of_length_eq_zero (by simp at hl; omega)
      subst this
      exact ⟨rfl, fun j u hu => by simp at hu⟩
    · exact ⟨_, ht, by rw [if_neg h1]⟩
  obtain ⟨A2, hA2, hAe⟩ := hAd
  have Hl2 : Hid (q = cols.length) := Lib.hid (by have := hA2.len; simpa using this)
  have HA2 := Lib.hid hA2
  have HAll := Lib.hid (fun (W : World) (hW : Below w.heap.size w W) => alls_column cols A2 q (c - 1) B W (hA2.below (hW.mono hB)) (Nat.le_trans hB hW.size) (by omega) hp)
  obtain ⟨u, hu⟩ : ∃ u, u = (m.toList == [107, 101, 121]) := ⟨_, rfl⟩
  have hu2 := hu.symm
  obtain ⟨v, hv⟩ : ∃ v, v = cols.all cB := ⟨_, rfl⟩
  rw [← hv] at HAll
  have HF : Hid (headF (m :: cols) = if u = false then 6 else if v = false then 6 else if dupF [] cols = true then 7 else 0) := Lib.hid (by rw [headF, hu, hv])
  have hnc1 : (1 : Int) ≤ ((q + 1 : Nat) : Int) := by omega
  have hnc2 : (1 : Int) ≤ (q : Int) + 1 := by omega
  clear hu hv hm' h ht hp hA2 hbl
  by_cases hc1 : c = 1
  · subst hc1
    obtain rfl : q = 0 := by omega
    rw [if_pos rfl] at hAe
    subst hAe
    go_enter Tryz.func118, Tryz.ntmps118
    cases u with
    | false =>
      go_wp2_with fail
      go_ret
      exact ⟨by rw [HF.out]; rfl, Below.refl _ _⟩
    | true =>
      go_wp2_with fail
      (with_reducible refine (HAll.out w (Below.refl _ _)).mono ?_)
      rintro e w1 ⟨rfl, hb1⟩
      cases v with
      | false =>
        go_wp2_with fail
        go_ret
        exact ⟨by rw [HF.out]; rfl, hb1⟩
      | true =>
        go_wp2_with fail
        go_loopw [19] (fun i wr => ∃ (k : Nat), k ≤ 0 ∧ i = .int .i64 k ∧ Hid (wr = w1) ∧ Hid (dupF (cols.take k) (cols.drop k) = dupF [] cols)) (fun i _ => 0 - (intOf i).toNat)
        case atStart => exact ⟨0, Nat.zero_le _, rfl, Lib.hid rfl, Lib.hid rfl⟩
        case round =>
          obtain ⟨k, hk, rfl, HW, HD⟩ := hrel
          have hsw : SeesV wr B (some ⟨b, o, none⟩) 0 (cols.map Value.string) := by rw [HW.out]; exact HA2.out.below (hb1.mono hB)
          by_cases hlt : k < 0
          · exact absurd hlt (Nat.not_lt_zero _)
          · obtain rfl : k = 0 := by omega
            have HD2 : Hid (dupF [] cols = false) := Lib.hid (by
              have := HD.out
              rw [List.drop_of_length_le (by rw [← Hl2.out]; exact Nat.le_refl _)] at this
              exact this.symm)
            clear hlt HD hsw
            go_wp2_with fail
            go_ret
            exact ⟨by rw [HF.out, HD2.out]; rfl, by rw [HW.out]; exact hb1⟩
  · rw [if_neg hc1] at hAe
    subst hAe
    go_enter Tryz.func118, Tryz.ntmps118
    cases u with
    | false =>
      go_wp2_with fail
      go_ret
      exact ⟨by rw [HF.out]; rfl, Below.refl _ _⟩
    | true =>
      go_wp2_with fail
      (with_reducible refine (HAll.out w (Below.refl _ _)).mono ?_)
      rintro e w1 ⟨rfl, hb1⟩
      cases v with
      | false =>
        go_wp2_with fail
        go_ret
        exact ⟨by rw [HF.out]; rfl, hb1⟩
      | true =>
        go_wp2_with fail
        go_loopw [19] (fun i wr => ∃ (k : Nat), k ≤ q ∧ i = .int .i64 k ∧ Hid (wr = w1) ∧ Hid (dupF (cols.take k) (cols.drop k) = dupF [] cols)) (fun i _ => q - (intOf i).toNat)
        case atStart => exact ⟨0, Nat.zero_le _, rfl, Lib.hid rfl, Lib.hid rfl⟩
        case round =>
          obtain ⟨k, hk, rfl, HW, HD⟩ := hrel
          have hsw : SeesV wr B (some ⟨b, o + 1, none⟩) q (cols.map Value.string) := by rw [HW.out]; exact HA2.out.below (hb1.mono hB)
          by_cases hlt : k < q
          · obtain ⟨b2, o2, x, hA, hbl2, hx, hcx⟩ := strs_at hsw hlt
            have hkl : k < cols.length := (List.getElem?_eq_some_iff.1 hx).1
            have hxe : cols[k] = x := (List.getElem?_eq_some_iff.1 hx).2
            have HC := Lib.hid (contains_any cols (some ⟨b, o + 1, none⟩) q k (c - 1) B x wr hsw (by omega) (by omega))
            obtain ⟨v, hv⟩ : ∃ v, v = Lib.containsS (cols.take k) x := ⟨_, rfl⟩
            rw [← hv] at HC
            have hd2 : dupF (cols.take k) (cols.drop k) = (v || dupF (cols.take (k + 1)) (cols.drop (k + 1))) := by
              rw [List.drop_eq_getElem_cons hkl, dupF, hxe, ← hv, List.take_add_one, hx]
              rfl
            have HD2 : Hid (dupF [] cols = (v || dupF (cols.take (k + 1)) (cols.drop (k + 1)))) := Lib.hid (by rw [← HD.out]; exact hd2)
            have hkn : (k : Int) < (q : Int) := by omega
            have hk0 : (0 : Int) ≤ (k : Int) := by omega
            have hkc : (k : Int) ≤ ((c - 1 : Nat) : Int) := by omega
            have Hlt := Lib.hid hlt
            clear hx hkl hxe hv hd2 HD hlt hsw
            cases hA
            go_wp2_with fail
            (with_reducible refine HC.out.mono ?_)
            rintro e w2 ⟨rfl, rfl⟩
            cases v with
            | false =>
              go_wp2_with fail
              go_roundw
              case rel => exact ⟨k + 1, Hlt.out, by go_num, HW, Lib.hid (by rw [HD2.out]; rfl)⟩
              case measure => have := Hlt.out; simp [intOf]; omega
            | true =>
              go_wp2_with fail
              go_ret
              exact ⟨by rw [HF.out, HD2.out]; rfl, by rw [HW.out]; exact hb1⟩
          · obtain rfl : k = q := by omega
            have HD2 : Hid (dupF [] cols = false) := Lib.hid (by
              have := HD.out
              rw [List.drop_of_length_le (by rw [← Hl2.out]; exact Nat.le_refl _)] at this
              exact this.symm)
            clear hlt HD hsw
            go_wp2_with fail
            go_ret
            exact ⟨by rw [HF.out, HD2.out]; rfl, by rw [HW.out]; exact hb1⟩
end Go.Proofs.YtlcbhooiinaalaaGreatDoor.Cv
