/- csv: the edges of records. Conditions: that inOrder sorts a row of edges of one's own. · csv: the tree of records; a file's columns. Conditions: that inOrder sorts a row of edges of one's own. · csv: a file's columns. No conditions but that the head has a field. · strings.Builder.WriteString at a builder of the call's own. Conditions: at most 2^47 bytes. -/
import Derived.Test.YtecnilcfhicfmaaGreatDoorMw30
import Derived.Outline
import Derived.Test.YtecnilcfhicfmaaGreatDoorMw15
import Derived.Test.YtecnilcfhicfmaaGreatDoorShelf
import Derived.Lib.Builder
import Derived.Lib.AppendStr
import Derived.Laws.Externs
namespace Go.Proofs.YtecnilcfhicfmaaGreatDoor.Cv
open Go.RowKit Go.Proofs.YtecnilcfhicfmaaGreatDoor.Jd Go.Proofs.YtecnilcfhicfmaaGreatDoor.Li Go.Proofs.YtecnilcfhicfmaaGreatDoor.Cl
set_option maxRecDepth 100000

/-- So many edges are made, the others are none yet. -/
def zerosE : Nat → List Value
  | 0 => []
  | k + 1 => Value.string ⟨#[]⟩ :: Value.slice none 0 0 :: zerosE k
theorem zerosE_len : ∀ k, (zerosE k).length = k * 2
  | 0 => rfl
  | k + 1 => by simp only [zerosE, List.length_cons, zerosE_len k]; omega
theorem zerosE_get : ∀ (k i : Nat), i < k * 2 → (zerosE k)[i]? = some (if i % 2 = 0 then Value.string ⟨#[]⟩ else Value.slice none 0 0)
  | 0, i, h => by omega
  | k + 1, 0, _ => rfl
  | k + 1, 1, _ => rfl
  | k + 1, i + 2, h => by
    simp only [zerosE, List.getElem?_cons_succ]
    rw [zerosE_get k i (by omega), show (i + 2) % 2 = i % 2 by omega]
theorem made_zeros (n : Nat) : madeCells #[Value.string ⟨#[]⟩, Value.slice none 0 0] (n * 2) = (zerosE n).toArray := by
  apply Array.ext
  · simp [madeCells, zerosE_len]
  · intro i h1 h2
    have hi : i < n * 2 := by simpa [madeCells] using h1
    have h := zerosE_get n i hi
    rw [List.getElem?_eq_getElem (by rw [zerosE_len]; exact hi)] at h
    injection h with h
    have h3 : (zerosE n).toArray[i] = if i % 2 = 0 then Value.string ⟨#[]⟩ else Value.slice none 0 0 := by rw [List.getElem_toArray]; exact h
    rw [h3]
    have hm : i % 2 = 0 ∨ i % 2 = 1 := by omega
    rcases hm with hm | hm
    · simp [madeCells, hm]
    · simp [madeCells, hm]
def partE (vs : List Value) (j : Nat) : Array Value := (vs ++ zerosE j).toArray
theorem partE_set {vs : List Value} {j k : Nat} (x y : Value) (hv : vs.length = k * 2) : ((partE vs (j + 1)).setIfInBounds (k * 2) x).setIfInBounds (k * 2 + 1) y = partE (vs ++ [x, y]) j := by
  unfold partE
  rw [List.setIfInBounds_toArray, List.setIfInBounds_toArray]
  congr 1
  rw [List.set_append_right _ _ (by omega), hv, Nat.sub_self, zerosE, List.set_cons_zero, List.set_append_right _ _ (by omega), hv, show k * 2 + 1 - k * 2 = 1 by omega]
  simp
theorem info_edge : (Tryz.prog.info? 27).map (fun i => (i.zero, i.size, i.bytes)) = some (some (.agg #[.string ⟨#[]⟩, .slice none 0 0]), 2, 40) := by kernel_rfl
theorem make_edges (n : Nat) (hn : n ≤ 100000) (w : World) : (Instr.makeSlice 23 (.int .i64 (n : Int)) (.int .i64 (n : Int))).run Tryz.prog w = .ok (.slice (some ⟨w.heap.size, 0, none⟩) n n) (w.alloc (.cells (partE [] n) 27)) := by
  obtain ⟨i, hi, hz, hs, hb⟩ := info_parts info_edge
  have h := run_make (P := Tryz.prog) w 23 27 i (.agg #[.string ⟨#[]⟩, .slice none 0 0]) Tryz.underlying23 hi hz .i64 .i64 n n (by omega) (Int.le_refl _) (by rw [hb]; omega) (by omega)
  rw [hs] at h
  simp only [Int.toNat_natCast] at h
  rw [h]
  have e : (Value.agg #[Value.string ⟨#[]⟩, Value.slice none 0 0]).cells = #[Value.string ⟨#[]⟩, Value.slice none 0 0] := by rfl
  rw [e, made_zeros]
  rfl
/-- The records' edges, as they come. -/
def recsT (srt : Tr → Tr) (cols : List ByteArray) : List Rw → Tr
  | [] => .nil
  | r :: rs => .cons (nm r) (srt (rawB cols (mns r.fs.tail))) (recsT srt cols rs)
theorem recs_take {srt : Tr → Tr} {cols : List ByteArray} : ∀ (rs : List Rw) (k : Nat) {r : Rw}, rs[k]? = some r → appT (recsT srt cols (rs.take k)) (.cons (nm r) (srt (rawB cols (mns r.fs.tail))) .nil) = recsT srt cols (rs.take (k + 1))
  | [], k, r, h => by simp at h
  | x :: rs, 0, r, h => by
    simp only [List.getElem?_cons_zero, Option.some.injEq] at h
    subst h
    rfl
  | x :: rs, k + 1, r, h => by
    simp only [List.getElem?_cons_succ] at h
    rw [List.take_succ_cons, List.take_succ_cons, recsT, appT, recs_take rs k h]
    rfl
/-- A row of edges, all made. -/
theorem edg_of {w : World} {base g n : Nat} {t : Tr} {vs : List Value} (hg : w.heap[g]? = some (.cells (partE vs 0) 27 (0, 0))) (hb : base ≤ g) (hv : vs.length = n * 2) (hn : n ≤ 100000) (hr : RowP w (fun b => base ≤ b ∧ b < w.heap.size ∧ b ≠ g) vs t) : Edg w base base (some ⟨g, 0, none⟩) n n t vs := by
  refine ⟨⟨hv, .inr ⟨g, n, partE vs 0, rfl, hb, hg, Nat.le_refl _, Nat.le_trans hn (by decide), ?_, ?_⟩⟩, hr.more fun b hb1 => ⟨hb1.1, hb1.2.1, fun e => hb1.2.2 (by injection e)⟩⟩
  · simp [partE, zerosE, hv]
  · simp [partE, zerosE, ← hv]

set_option maxHeartbeats 8000000 in
theorem eachE_any (srt : Tr → Tr) (hI : InOrd srt) (rs : List Rw) (cols : List ByteArray) (A Ac : Option Addr) (n c m cc gc : Nat) (w : World) (h : SeesR w w.heap.size A n rs) (hc : SeesV w w.heap.size Ac m (cols.map Value.string)) (hn : n ≤ 100000) (hm : m ≤ 10000) (hrs : ∀ r ∈ rs, r.fs.length = m + 1)
    (hgc : w.cell? ⟨gc, 0, none⟩ = some (.slice Ac m cc)) :
    Calls Tryz.prog 40 #[.slice A n c, .func (.func 41) #[] #[.pointer (some ⟨gc, 0, none⟩)]] w fun e w' => ∃ g vs, e = .returned (.slice (some ⟨g, 0, none⟩) n n) ∧ Edg w' w.heap.size w.heap.size (some ⟨g, 0, none⟩) n n (recsT srt cols rs) vs ∧ Below w.heap.size w w' := by
  have hmk := fun W : World => make_edges n hn W
  have hgl : gc < w.heap.size := World.block_lt_of_cell? w ⟨gc, 0, none⟩ hgc
  have Hl := Lib.hid h.len
  have HH := Lib.hid h
  have HC := Lib.hid (fun (W : World) (hW : Below w.heap.size w W) (r : Rw) (hr : r ∈ rs) (Ar : Option Addr) (nr cr : Nat) (hs : SeesL W w.heap.size Ar nr r.fs) => by
    obtain ⟨x0, xl, hx0⟩ : ∃ x0 xl, r.fs = x0 :: xl := List.exists_cons_of_ne_nil (fun e => by have := hrs r hr; rw [e] at this; simp at this)
    have hlen := hrs r hr
    have hnr := hs.len
    have h1 := tree1_any srt hI r x0 xl hx0 cols Ar Ac nr cr m cc gc W (hs.more hW.size) (seesV_moreT (hc.below hW) hW.size) (by rw [hx0] at hlen; simpa using hlen) (by omega) ((hW.cell (p := ⟨gc, 0, none⟩) hgl).trans hgc)
    have e : xl = r.fs.tail := by rw [hx0]; rfl
    rw [e] at h1
    exact h1)
  clear h hc hgc hrs hI
  go_enter Tryz.func40, Tryz.ntmps40
  go_wp2_with fail
  go_loopw [13] (fun i wr => ∃ (k : Nat) (vs : List Value), k ≤ n ∧ i = .int .i64 k ∧ Hid (wr.heap[w.heap.size]? = some (.cells (partE vs (n - k)) 27 (0, 0))) ∧ Hid (vs.length = k * 2) ∧ Hid (RowP wr (fun b => w.heap.size ≤ b ∧ b < wr.heap.size ∧ b ≠ w.heap.size) vs (recsT srt cols (rs.take k))) ∧ Hid (Below w.heap.size w wr)) (fun i _ => n - (intOf i).toNat)
  case atStart => exact ⟨0, [], Nat.zero_le _, rfl, Lib.hid (heap_alloc_new w _), Lib.hid rfl, Lib.hid trivial, Lib.hid ((Below.refl _ _).alloc (Nat.le_refl _) _)⟩
  case round =>
    obtain ⟨k, vs, hk, rfl, HG, HV, HP, HW⟩ := hrel
    by_cases hlt : k < n
    · have hkl : k < rs.length := by have := Hl.out; omega
      obtain ⟨r, hr⟩ : ∃ r, rs[k]? = some r := ⟨_, List.getElem?_eq_getElem hkl⟩
      obtain ⟨b, o, Af, nf, cf, rfl, hbl, hc1, hc2, hsf, _, _⟩ := (HH.out.below HW.out).at_ k r hr
      have hkn : (k : Int) < (n : Int) := by omega
      have hk0 : (0 : Int) ≤ (k : Int) := by omega
      have hb1 : Below wr.heap.size wr (wr.alloc (Obj.cells #[.slice Af nf cf, .string r.en] 44)) := (Below.refl _ _).alloc (Nat.le_refl _) _
      have hsz1 := HW.out.size
      have HM := Lib.hid (HC.out _ (HW.out.trans (hb1.mono hsz1)) r (List.mem_of_getElem? hr) Af nf cf (hsf.below (hb1.mono hsz1)))
      have hgl2 := (Array.getElem?_eq_some_iff.1 HG.out).1
      obtain ⟨j, hj⟩ : ∃ j, n - k = j + 1 := ⟨n - k - 1, by omega⟩
      have hj2 : n - (k + 1) = j := by omega
      have Hrt := Lib.hid (recs_take (srt := srt) (cols := cols) rs k hr)
      have Hlt := Lib.hid hlt
      have Hb1 := Lib.hid hb1
      have Hj := Lib.hid hj
      have Hj2 := Lib.hid hj2
      clear hkl hr hlt hb1 hsf hj hj2
      go_wp2_with fail
      (with_reducible refine HM.out.mono ?_)
      rintro e w2 ⟨A3, n3, c3, rfl, hh3, hn3, hc3, hb2⟩
      have hb12 : Below wr.heap.size wr w2 := Hb1.out.trans (hb2.mono (by simp))
      have hg2 : w2.heap[w.heap.size]? = some (.cells (partE vs (n - k)) 27 (0, 0)) := (hb12.block _ hgl2).trans HG.out
      have hsz2 : (partE vs (n - k)).size = k * 2 + (j + 1) * 2 := by rw [Hj.out]; unfold partE; rw [List.size_toArray, List.length_append, zerosE_len, HV.out]
      have hcell : ∀ q, q < 2 → ∃ y, w2.cell? ⟨w.heap.size, k * 2 + q, none⟩ = some y := fun q hq => by
        rw [cell_of_row _ _ _ _ _ _ hg2]
        exact ⟨_, Array.getElem?_eq_getElem (by omega)⟩
      obtain ⟨y0, hy0⟩ := hcell 0 (by omega)
      obtain ⟨y1, hy1⟩ := hcell 1 (by omega)
      rw [Nat.add_zero] at hy0
      have hf0 : w2.frozen? ⟨w.heap.size, k * 2, none⟩ = false := by simp [World.frozen?, hg2]
      have hg3 := heap_setCell_same w2 w.heap.size (k * 2) _ _ (.string (nm r)) hg2
      have hy1' : (w2.setCell ⟨w.heap.size, k * 2, none⟩ (.string (nm r))).cell? ⟨w.heap.size, k * 2 + 1, none⟩ = some y1 := by
        rw [World.cell?_setCell_other _ _ _ _ (by intro e; injection e; omega)]
        exact hy1
      have hf1 : (w2.setCell ⟨w.heap.size, k * 2, none⟩ (.string (nm r))).frozen? ⟨w.heap.size, k * 2 + 1, none⟩ = false := by simp [World.frozen?, hg3]
      have hf1' : w2.frozen? ⟨w.heap.size, k * 2 + 1, none⟩ = false := by simp [World.frozen?, hg2]
      have hg4 := heap_setCell_same (w2.setCell ⟨w.heap.size, k * 2, none⟩ (.string (nm r))) w.heap.size (k * 2 + 1) _ _ (.slice A3 n3 c3) hg3
      rw [Hj.out, partE_set _ _ HV.out, ← Hj2.out] at hg4
      have HG4 := Lib.hid hg4
      have HW4 : Hid (Below w.heap.size w ((w2.setCell ⟨w.heap.size, k * 2, none⟩ (.string (nm r))).setCell ⟨w.heap.size, k * 2 + 1, none⟩ (.slice A3 n3 c3))) := Lib.hid (((HW.out.trans (hb12.mono hsz1)).setCell (Nat.le_refl _) _).setCell (Nat.le_refl _) _)
      have HV4 : Hid ((vs ++ [Value.string (nm r), Value.slice A3 n3 c3]).length = (k + 1) * 2) := Lib.hid (by rw [List.length_append, HV.out]; simp; omega)
      have hkeep : ∀ b o, (w.heap.size ≤ b ∧ b < w2.heap.size ∧ b ≠ w.heap.size) → ((w2.setCell ⟨w.heap.size, k * 2, none⟩ (.string (nm r))).setCell ⟨w.heap.size, k * 2 + 1, none⟩ (.slice A3 n3 c3)).cell? ⟨b, o, none⟩ = w2.cell? ⟨b, o, none⟩ := fun b o hb =>
        (World.cell?_setCell_other _ _ _ _ (by intro e; injection e with e; exact hb.2.2 e.symm)).trans (World.cell?_setCell_other _ _ _ _ (by intro e; injection e with e; exact hb.2.2 e.symm))
      have hp1 : RowP w2 (fun b => w.heap.size ≤ b ∧ b < w2.heap.size ∧ b ≠ w.heap.size) vs (recsT srt cols (rs.take k)) := (HP.out.keep (w' := w2) (fun b o hb => hb12.cell (p := ⟨b, o, none⟩) hb.2.1)).more (fun b hb => ⟨hb.1, Nat.lt_of_lt_of_le hb.2.1 hb12.size, hb.2.2⟩)
      have hp2 : RowP w2 (fun b => w.heap.size ≤ b ∧ b < w2.heap.size ∧ b ≠ w.heap.size) [.string (nm r), .slice A3 n3 c3] (.cons (nm r) (srt (rawB cols (mns r.fs.tail))) .nil) := RowP.one (hh3.more (fun b hb => ⟨Nat.le_trans hsz1 (by have := hb.1; simp at this; omega), hb.2, by have := hb.1; simp at this; omega⟩)) hn3 hc3
      have hp3 := hp1.app hp2
      rw [Hrt.out] at hp3
      have HP4 : Hid (RowP ((w2.setCell ⟨w.heap.size, k * 2, none⟩ (.string (nm r))).setCell ⟨w.heap.size, k * 2 + 1, none⟩ (.slice A3 n3 c3)) (fun b => w.heap.size ≤ b ∧ b < ((w2.setCell ⟨w.heap.size, k * 2, none⟩ (.string (nm r))).setCell ⟨w.heap.size, k * 2 + 1, none⟩ (.slice A3 n3 c3)).heap.size ∧ b ≠ w.heap.size) (vs ++ [Value.string (nm r), Value.slice A3 n3 c3]) (recsT srt cols (rs.take (k + 1)))) := Lib.hid ((hp3.keep hkeep).more (fun b hb => ⟨hb.1, by simp [World.setCell]; exact hb.2.1, hb.2.2⟩))
      clear hb2 hb12 hg2 hg3 hg4 hcell hkeep hp1 hp2 hp3 hh3 hn3 hc3 hsz2
      go_wp2_with fail
      go_roundw
      case rel => exact ⟨k + 1, _, Hlt.out, by go_num, HG4, HV4, HP4, HW4⟩
      case measure => have := Hlt.out; simp [intOf]; omega
    · obtain rfl : k = n := by omega
      have hg := HG.out
      rw [Nat.sub_self] at hg
      have hp := HP.out
      rw [List.take_of_length_le (by rw [← Hl.out]; exact Nat.le_refl _)] at hp
      have HE := Lib.hid (edg_of hg (Nat.le_refl _) HV.out hn hp)
      clear hlt hg hp
      go_wp2_with fail
      go_ret
      exact ⟨w.heap.size, vs, rfl, HE.out, HW.out⟩
end Go.Proofs.YtecnilcfhicfmaaGreatDoor.Cv
namespace Go.Proofs.YtecnilcfhicfmaaGreatDoor.Cv
open Go.RowKit Go.Proofs.YtecnilcfhicfmaaGreatDoor.Jd Go.Proofs.YtecnilcfhicfmaaGreatDoor.Li Go.Proofs.YtecnilcfhicfmaaGreatDoor.Cl
set_option maxRecDepth 100000

set_option maxHeartbeats 2000000 in
theorem treeOf_any (srt : Tr → Tr) (hI : InOrd srt) (rs : List Rw) (cols : List ByteArray) (A Ac : Option Addr) (n c m cc : Nat) (w : World) (h : SeesR w w.heap.size A n rs) (hc : SeesV w w.heap.size Ac m (cols.map Value.string)) (hn : n ≤ 100000) (hm : m ≤ 10000) (hrs : ∀ r ∈ rs, r.fs.length = m + 1) :
    Calls Tryz.prog 20 #[.slice Ac m cc, .slice A n c] w (BlP srt w (recsT srt cols rs)) := by
  obtain ⟨W1, hW1⟩ : ∃ W, W = w.alloc (Obj.cells #[.slice Ac m cc] 29) := ⟨_, rfl⟩
  have hb1 : Below w.heap.size w W1 := by rw [hW1]; exact (Below.refl _ _).alloc (Nat.le_refl _) _
  have hg1 : W1.heap[w.heap.size]? = some (Obj.cells #[.slice Ac m cc] 29) := by rw [hW1]; exact heap_alloc_new w _
  have hp0 : W1.cell? ⟨w.heap.size, 0, none⟩ = some (.slice Ac m cc) := by rw [cell_of_row _ _ _ _ _ _ hg1]; rfl
  have HE := Lib.hid (eachE_any srt hI rs cols A Ac n c m cc w.heap.size W1 ((h.below hb1).more hb1.size) (seesV_moreT (hc.below hb1) hb1.size) hn hm hrs hp0)
  have HB1 := Lib.hid hb1
  have HI := Lib.hid hI
  clear h hc hrs hb1 hg1 hp0
  go_enter Tryz.func20, Tryz.ntmps20
  go_wp2_with fail
  rw [← hW1]
  clear hW1
  (with_reducible refine HE.out.mono ?_)
  rintro e w2 ⟨g, vs, rfl, hE2, hb2⟩
  have HB2 := Lib.hid (HB1.out.trans (hb2.mono HB1.out.size))
  have HI2 := Lib.hid (HI.out _ _ _ _ _ _ w2 hE2 hb2.size hn)
  have hz := HB1.out.size
  clear hE2 hb2
  go_wp2_with fail
  (with_reducible refine HI2.out.mono ?_)
  rintro e w3 ⟨vs3, rfl, hE3, hb3⟩
  have HB3 := Lib.hid (HB2.out.trans (hb3.mono hz))
  have HE3 := Lib.hid hE3
  clear hE3 hb3
  go_wp2_with fail
  go_ret
  refine ⟨some ⟨g, 0, none⟩, n, n, vs3, rfl, ⟨own_base HE3.out.own hz, HE3.out.row.more fun b hb => ⟨Nat.le_trans hz hb.1, hb.2.1, hb.2.2⟩⟩, HB3.out⟩
end Go.Proofs.YtecnilcfhicfmaaGreatDoor.Cv
namespace Go.Proofs.YtecnilcfhicfmaaGreatDoor.Cv
open Go.RowKit Go.Proofs.YtecnilcfhicfmaaGreatDoor.Jd Go.Proofs.YtecnilcfhicfmaaGreatDoor.Li Go.Proofs.YtecnilcfhicfmaaGreatDoor.Cl
set_option maxRecDepth 100000

/-- The columns answered. -/
def CoP (w : World) (cols : List ByteArray) (en : Ending) (w' : World) : Prop := ∃ A c, en = .returned (.slice A cols.length c) ∧ SeesV w' w'.heap.size A cols.length (cols.map Value.string) ∧ Below w.heap.size w w'
set_option maxHeartbeats 2000000 in
theorem columns_any (x0 : Ln) (xl : List Ln) (Ah Ar At : Option Addr) (nh ch nr cr nt ct : Nat) (en : ByteArray) (w : World) (h : SeesL w w.heap.size Ah nh (x0 :: xl)) (hn : nh ≤ 100000) :
    Calls Tryz.prog 21 #[.agg #[.slice Ah nh ch, .string en, .slice Ar nr cr, .slice At nt ct]] w (CoP w (mns xl)) := by
  have hl := h.len
  rw [List.length_cons] at hl
  subst hl
  obtain ⟨m, hm⟩ : ∃ m, m = xl.length := ⟨_, rfl⟩
  have hml : (mns xl).length = m := by rw [mns_len, hm]
  have hb0 : Below w.heap.size w (w.alloc (Obj.cells #[.slice Ah (xl.length + 1) ch, .string en, .slice Ar nr cr, .slice At nt ct] 47)) := (Below.refl _ _).alloc (Nat.le_refl _) _
  have hM := means_any (x0 :: xl) Ah (xl.length + 1) ch w.heap.size en (w.alloc (Obj.cells #[.slice Ah (xl.length + 1) ch, .string en, .slice Ar nr cr, .slice At nt ct] 47)) (h.below hb0) hb0.size hn
  rw [← hm] at hM hb0 hn ⊢
  have HM := Lib.hid hM
  have HB0 := Lib.hid hb0
  have Hm := Lib.hid hm
  have hnc1 : (1 : Int) ≤ ((m + 1 : Nat) : Int) := by omega
  have hnc2 : (1 : Int) ≤ (m : Int) + 1 := by omega
  unfold CoP
  rw [hml]
  clear h hb0 hM hm hml
  by_cases hm0 : m = 0
  · subst hm0
    go_enter Tryz.func21, Tryz.ntmps21
    go_wp2_with fail
    (with_reducible refine HM.out.mono ?_)
    rintro e w2 ⟨g, rfl, hg, hgc, hb2⟩
    have HB2 := Lib.hid (HB0.out.trans (hb2.mono HB0.out.size))
    clear hb2 hg hgc
    go_wp2_with fail
    go_ret
    have hx : mns xl = [] := List.eq_nil_of_length_eq_zero (by rw [mns_len, ← Hm.out])
    rw [hx]
    exact ⟨_, _, rfl, ⟨rfl, fun j u hu => by simp at hu⟩, HB2.out⟩
  · have hc1 : ¬ m + 1 = 1 := by omega
    go_enter Tryz.func21, Tryz.ntmps21
    go_wp2_with fail
    (with_reducible refine HM.out.mono ?_)
    rintro e w2 ⟨g, rfl, hg, hgc, hb2⟩
    have HB2 := Lib.hid (HB0.out.trans (hb2.mono HB0.out.size))
    have hs := mn_sees (n := m + 1) (ls := x0 :: xl) (by rw [Hm.out, List.length_cons]) hgc
    have HS := Lib.hid (sees_tail (z := ⟨x0.2.toArray⟩) (zs := mns xl) hs)
    clear hb2 hg hgc hs
    go_wp2_with fail
    go_ret
    exact ⟨_, _, rfl, HS.out, HB2.out⟩
end Go.Proofs.YtecnilcfhicfmaaGreatDoor.Cv
namespace Go.Proofs.YtecnilcfhicfmaaGreatDoor.Li
open Go.RowKit
set_option maxRecDepth 100000

theorem size_b : (Tryz.prog.info? 106).map (·.size) = some 2 := by kernel_rfl
theorem lies_b : liesAt Tryz.prog Tryz.prog.depth 106 (2 / Tryz.prog.cellsOf 106) 0 106 1 = true := by kernel_rfl
abbrev Bld (B b : Nat) (l : Bs) (w : World) : Prop := Lib.IsBuilder 106 5 B b (Lib.byteCells l) w

set_option maxHeartbeats 1000000 in
theorem used_any (b : Nat) (w : World) (h0 : w.cell? ⟨b, 0, none⟩ = some (.pointer (some ⟨b, 0, none⟩))) :
    Calls Tryz.prog 99 #[.pointer (some ⟨b, 0, none⟩)] w fun e w' => e = .returned (.tuple #[]) ∧ w = w' := by
  obtain ⟨j, hj, _⟩ := Option.map_eq_some_iff.1 size_b
  have hq := Lib.run_neq_ptr_same (P := Tryz.prog) w ⟨b, 0, none⟩ Tryz.underlying103 hj
  go_enter Tryz.func99, Tryz.ntmps99
  go_wp2
  go_end0
  exact ⟨rfl, rfl⟩

set_option maxHeartbeats 1000000 in
theorem fresh_any (b : Nat) (w : World) (h0 : w.cell? ⟨b, 0, none⟩ = some (.pointer none)) (hsh : w.shape? b = some (106, 2)) (hfz : w.frozen? ⟨b, 0, none⟩ = false) :
    Calls Tryz.prog 99 #[.pointer (some ⟨b, 0, none⟩)] w fun e w' => e = .returned (.tuple #[]) ∧ w' = w.setCell ⟨b, 0, none⟩ (.pointer (some ⟨b, 0, none⟩)) := by
  obtain ⟨j, hj, hjs⟩ := Option.map_eq_some_iff.1 size_b
  have k1 := Lib.run_to_unsafe (P := Tryz.prog) w ⟨b, 0, none⟩ Tryz.underlying103 Tryz.underlying168 hj (by rw [hjs]; decide) hsh (Nat.zero_lt_succ 1)
  have k2 := Lib.run_from_unsafe (P := Tryz.prog) w ⟨b, 0, none⟩ Tryz.underlying168 Tryz.underlying103 hj hsh lies_b
  go_enter Tryz.func99, Tryz.ntmps99
  go_wp2
  rw [run_callFunc_extern Tryz.func121 (by kernel_rfl) (by kernel_rfl) (by kernel_rfl) (e := Extern.AbiNoEscape.same) (by kernel_rfl)]
  rw [Lib.run_noEscape]
  simp only [Result.andThen]
  rw [Oper.upon_value]
  go_wp2
  go_end0
  exact ⟨rfl, rfl⟩
theorem check_any (B b : Nat) (bs : List Value) (w : World) (h : Lib.IsBuilder 106 5 B b bs w) :
    Calls Tryz.prog 99 #[.pointer (some ⟨b, 0, none⟩)] w fun e w' => e = .returned (.tuple #[]) ∧ Lib.BuilderAt 106 5 B b (.pointer (some ⟨b, 0, none⟩)) bs w' ∧ Below B w w' ∧ (∀ g, g ≠ b → w'.heap[g]? = w.heap[g]?) ∧ w.heap.size ≤ w'.heap.size := by
  rcases h with h | h
  · refine (fresh_any b w h.cell0 h.shape h.frozen0).mono ?_
    rintro e w' ⟨rfl, rfl⟩
    exact ⟨rfl, h.used _, (Below.refl B w).setCell (p := ⟨b, 0, none⟩) h.1 _, fun g hg => heap_setCell_other _ _ _ _ hg, by simp [World.setCell]⟩
  · refine (used_any b w h.cell0).mono ?_
    rintro e w' ⟨rfl, rfl⟩
    exact ⟨rfl, h, Below.refl B _, fun _ _ => rfl, Nat.le_refl _⟩

/-- All but block b and rows of bytes stays. -/
def Others (b : Nat) (w w' : World) : Prop := ∀ g, g < w.heap.size → g ≠ b → (∀ cs fr, w.heap[g]? ≠ some (.cells cs 5 fr)) → w'.heap[g]? = w.heap[g]?
set_option maxHeartbeats 2000000 in
theorem write_any (B b : Nat) (l : Bs) (s : ByteArray) (w : World) (h : Bld B b l w) (hlen : l.length + s.size ≤ 140737488355328) (hBw : B ≤ w.heap.size) :
    Calls Tryz.prog 63 #[.pointer (some ⟨b, 0, none⟩), .string s] w fun e w' => e = .returned (.tuple #[.int .i64 s.size, .nilIface]) ∧ Bld B b (l ++ s.data.toList) w' ∧ Below B w w' ∧ Others b w w' := by
  obtain ⟨i0, hi, hz0, hz1, hz2⟩ := info_parts info_u8
  have hll := Lib.byteCells_length l
  have HB := Lib.hid hll
  clear hll
  go_enter Tryz.func63, Tryz.ntmps63
  go_wp2_with (go_at_call 99; (with_reducible refine (check_any B b _ _ h).mono ?_))
  rintro e w1 ⟨rfl, h1, hb1, ho1, hz⟩
  have Ho1 := Lib.hid ho1
  clear ho1
  obtain ⟨hB, v, hbk, hown, hne⟩ := h1
  have c0 : w1.cell? ⟨b, 0, none⟩ = some (.pointer (some ⟨b, 0, none⟩)) := by rw [Lib.cell_of_heap hbk]; rfl
  have c1 : w1.cell? ⟨b, 1, none⟩ = some v := by rw [Lib.cell_of_heap hbk]; rfl
  have hlt : b < w1.heap.size := (Array.getElem?_eq_some_iff.1 hbk).1
  have hB1 : B ≤ w1.heap.size := Nat.le_trans hBw hb1.size
  have HK := Lib.hid hbk
  clear hbk
  go_wp2_with (at_builtin; refine Lib.wpList_append_own_string _ rfl _ _ 104 9 rfl B 5 i0 Tryz.underlying104 Tryz.underlying9 hi hz0 hz1 hz2 _ _ _ rfl hown s rfl ?c3 ?c4 ?c5 ?_)
  case c3 => have := HB.out; unfold maxLen; omega
  case c4 => have := HB.out; omega
  case c5 => exact hB1
  intro v' w2 hown' hgrow _
  have hb2 : w2.heap[b]? = some (.cells #[.pointer (some ⟨b, 0, none⟩), v] 106 (0, 0)) := by
    rw [hgrow.block b hlt (fun e => hne e.symm)]
    exact HK.out
  have d0 : w2.cell? ⟨b, 0, none⟩ = some (.pointer (some ⟨b, 0, none⟩)) := by rw [Lib.cell_of_heap hb2]; rfl
  have d1 : w2.cell? ⟨b, 1, none⟩ = some v := by rw [Lib.cell_of_heap hb2]; rfl
  have f1 : w2.frozen? ⟨b, 1, none⟩ = false := Lib.frozen_of_heap hb2 1
  obtain ⟨ao, n', cap, rfl⟩ : ∃ ao n' cap, v' = .slice ao n' cap := by
    rcases hown'.2 with ⟨hv, _⟩ | ⟨g, cap, cur, hv, _⟩
    · exact ⟨_, _, _, hv⟩
    · exact ⟨_, _, _, hv⟩
  have HK2 := Lib.hid hb2
  have HO := Lib.hid hown'
  clear hb2 hown'
  go_wp2_with fail
  go_ret2
  refine ⟨rfl, ?_, ?_, ?_⟩
  · right
    have hc : Lib.byteCells (l ++ s.data.toList) = Lib.byteCells l ++ Lib.strCells s := by rw [Lib.strCells_eq]; simp [Lib.byteCells]
    rw [hc]
    exact Lib.BuilderAt.put (T := 106) (e := 5) hB HK2.out (bs' := Lib.byteCells l ++ Lib.strCells s) (by simpa [Lib.strCells_length] using HO.out) (by decide)
  · exact (hb1.grown hgrow hB1 (fun k hk => (hown.lt k hk).1)).setCell (p := ⟨b, 1, none⟩) hB _
  · intro g hg hgb hgc
    rw [heap_setCell_other _ _ _ _ hgb, hgrow.block g (by omega) (fun e => ?_), Ho1.out g hgb]
    rcases hown.2 with ⟨e1, _⟩ | ⟨g', cap', cur, e1, _, hh, _⟩
    · rw [e1] at e; cases e
    · rw [e1] at e
      injection e with e
      simp only at e
      subst e
      rw [Ho1.out g hgb] at hh
      exact hgc _ _ hh
theorem Bld.keep {B b : Nat} {l : Bs} {w w' : World} (h : Bld B b l w) (hb : Below w.heap.size w w') : Bld B b l w' := by
  have main : ∀ p, Lib.BuilderAt 106 5 B b p (Lib.byteCells l) w → Lib.BuilderAt 106 5 B b p (Lib.byteCells l) w' := by
    rintro p ⟨h1, v, h2, h3, h4⟩
    exact ⟨h1, v, below_box hb h2, h3.kept (row := none) ⟨hb.os, hb.tape, hb.output, hb.size, fun i hi _ => hb.block i hi⟩ (by cases hv : v.ownBlock <;> simp), h4⟩
  rcases h with h | h
  · exact .inl (main _ h)
  · exact .inr (main _ h)
end Go.Proofs.YtecnilcfhicfmaaGreatDoor.Li
