/- csv: the edge of a record. Conditions: that inOrder sorts a row of edges of one's own. · csv: the edges of records. Conditions: that inOrder sorts a row of edges of one's own. · csv: the tree of records; a file's columns. Conditions: that inOrder sorts a row of edges of one's own. -/
import Derived.Test.YtlcbhooiinaalaaGreatDoorMwEdg
import Derived.Deep.RegionHeld3
import Derived.Outline
namespace Go.Proofs.YtlcbhooiinaalaaGreatDoor.Cv
open Go.RowKit Go.Proofs.YtlcbhooiinaalaaGreatDoor.Jd Go.Proofs.YtlcbhooiinaalaaGreatDoor.Li Go.Proofs.YtlcbhooiinaalaaGreatDoor.Cl
set_option maxRecDepth 100000

theorem seesV_moreT {w : World} {B B' n : Nat} {A : Option Addr} {vs : List Value} (h : SeesV w B A n vs) (hB : B ≤ B') : SeesV w B' A n vs :=
  ⟨h.len, fun j u hu => by
    obtain ⟨b, o, e, hb, hc⟩ := h.cell j u hu
    exact ⟨b, o, e, Nat.lt_of_lt_of_le hb hB, hc⟩⟩
/-- An edge answered. -/
def TfP (w : World) (s : ByteArray) (k : Tr) (en : Ending) (w' : World) : Prop := ∃ A n c, en = .returned (.agg #[.string s, .slice A n c]) ∧ HoldsP w' (fun b => w.heap.size ≤ b ∧ b < w'.heap.size) A n k ∧ n ≤ c ∧ c ≤ maxLen ∧ Below w.heap.size w w'

set_option maxHeartbeats 8000000 in
theorem tree1_any (srt : Tr → Tr) (hI : InOrd srt) (r : Rw) (x0 : Ln) (xl : List Ln) (hr0 : r.fs = x0 :: xl) (cols : List ByteArray) (Ar Ac : Option Addr) (nr cr m cc gc : Nat) (w : World) (hr : SeesL w w.heap.size Ar nr r.fs) (hc : SeesV w w.heap.size Ac m (cols.map Value.string)) (hm : xl.length = m) (hn : nr ≤ 100000)
    (hgc : w.cell? ⟨gc, 0, none⟩ = some (.slice Ac m cc)) :
    Calls Tryz.prog 80 #[.agg #[.slice Ar nr cr, .string r.en], .pointer (some ⟨gc, 0, none⟩)] w (TfP w (nm r) (srt (rawB cols (mns xl)))) := by
  have hgl : gc < w.heap.size := World.block_lt_of_cell? w ⟨gc, 0, none⟩ hgc
  rw [hr0] at hr
  have hex := nm_enc hr0
  obtain ⟨W1, hW1⟩ : ∃ W, W = (w.alloc (Obj.cells #[.slice Ar nr cr, .string r.en] 62)).alloc (Obj.cells #[.string ⟨#[]⟩, .slice none 0 0] 55) := ⟨_, rfl⟩
  have hb1 : Below w.heap.size w W1 := by rw [hW1]; exact ((Below.refl _ _).alloc (Nat.le_refl _) _).alloc (by simp) _
  have hg1 : W1.heap[w.heap.size]? = some (Obj.cells #[.slice Ar nr cr, .string r.en] 62) := by
    rw [hW1]
    exact (Below.heap_alloc _ _ _ (by simp)).trans (heap_alloc_new w _)
  have hg2 : W1.heap[w.heap.size + 1]? = some (Obj.cells #[.string ⟨#[]⟩, .slice none 0 0] 55) := by
    rw [hW1]
    have := heap_alloc_new (w.alloc (Obj.cells #[.slice Ar nr cr, .string r.en] 62)) (Obj.cells #[.string ⟨#[]⟩, .slice none 0 0] 55)
    simpa using this
  have hl2 : w.heap.size + 1 < W1.heap.size := (Array.getElem?_eq_some_iff.1 hg2).1
  have hl1 : w.heap.size < W1.heap.size := by omega
  have hp0 : W1.cell? ⟨w.heap.size, 0, none⟩ = some (.slice Ar nr cr) := by rw [cell_of_row _ _ _ _ _ _ hg1]; rfl
  have hp1 : W1.cell? ⟨w.heap.size, 1, none⟩ = some (.string r.en) := by rw [cell_of_row _ _ _ _ _ _ hg1]; rfl
  have hpc : W1.cell? ⟨gc, 0, none⟩ = some (.slice Ac m cc) := (hb1.cell (p := ⟨gc, 0, none⟩) hgl).trans hgc
  have HK := Lib.hid (fun (W : World) (hW : Below W1.heap.size W1 W) => (⟨(hW.cell (p := ⟨w.heap.size, 0, none⟩) hl1).trans hp0, (hW.cell (p := ⟨w.heap.size, 1, none⟩) hl1).trans hp1, (hW.cell (p := ⟨gc, 0, none⟩) (Nat.lt_trans hgl hl1)).trans hpc⟩ : W.cell? ⟨w.heap.size, 0, none⟩ = some (.slice Ar nr cr) ∧ W.cell? ⟨w.heap.size, 1, none⟩ = some (.string r.en) ∧ W.cell? ⟨gc, 0, none⟩ = some (.slice Ac m cc)))
  have HN := Lib.hid (fun (W : World) (hW : Below W1.heap.size W1 W) => rname_any x0 xl Ar nr cr w.heap.size r.en (nm r) W ((hr.below hb1).below (hW.mono (Nat.le_of_lt hl1))) (Nat.le_trans (Nat.le_of_lt hl1) hW.size) hex)
  have HBl := Lib.hid (fun (W : World) (hW : Below W1.heap.size W1 W) => below_any srt hI x0 xl cols Ar Ac nr cr m cc r.en W (((hr.below hb1).below (hW.mono (Nat.le_of_lt hl1))).more (Nat.le_trans (Nat.le_of_lt hl1) hW.size)) (seesV_moreT ((hc.below hb1).below (hW.mono (Nat.le_of_lt hl1))) (Nat.le_trans (Nat.le_of_lt hl1) hW.size)) hm hn)
  have HB1 := Lib.hid hb1
  have Hg2 := Lib.hid hg2
  have hq0 : Below W1.heap.size W1 W1.drew := (Below.refl _ _).drew
  obtain ⟨k, hk⟩ : ∃ k, k = srt (rawB cols (mns xl)) := ⟨_, rfl⟩
  have Hk := Lib.hid hk
  rw [← hk]
  obtain ⟨s, hs⟩ : ∃ s, s = nm r := ⟨_, rfl⟩
  rw [← hs] at HN
  rw [← hs]
  clear hr hc hex hb1 hg1 hg2 hp0 hp1 hpc hr0 hm hk hs hgc
  go_enter Tryz.func80, Tryz.ntmps80
  go_wp2_with fail
  rw [← hW1]
  clear hW1
  go_region_held3 (fun W => W.cell? ⟨w.heap.size, 0, none⟩ = some (.slice Ar nr cr) ∧ W.cell? ⟨w.heap.size, 1, none⟩ = some (.string r.en) ∧ W.cell? ⟨gc, 0, none⟩ = some (.slice Ac m cc))
    (first | exact HK.out _ hq0 | exact HK.out _ hq2 | exact HK.out _ hq3 | exact ⟨(World.cell?_setCell_far _ _ _ _ (by simp only [ne_eq]; omega)).trans ((World.cell?_setCell_far _ _ _ _ (by simp only [ne_eq]; omega)).trans (HK.out _ hq3).1), (World.cell?_setCell_far _ _ _ _ (by simp only [ne_eq]; omega)).trans ((World.cell?_setCell_far _ _ _ _ (by simp only [ne_eq]; omega)).trans (HK.out _ hq3).2.1), (World.cell?_setCell_far _ _ _ _ (by simp only [ne_eq]; omega)).trans ((World.cell?_setCell_far _ _ _ _ (by simp only [ne_eq]; omega)).trans (HK.out _ hq3).2.2)⟩)
    (first
    | (go_at_call 68; (with_reducible refine (HN.out _ hq0).mono ?_); rintro e w2 ⟨rfl, hg2⟩; have hq2 := hq0.trans (hg2.mono hq0.size); clear hg2)
    | (go_at_call 81; (with_reducible refine (HBl.out _ hq2).mono ?_); rintro e w3 ⟨A3, n3, c3, vs3, rfl, hE3, hb3⟩; have hq3 := hq2.trans (hb3.mono hq2.size); have hg3 := (hq3.block _ hl2).trans Hg2.out; have hc30 : w3.cell? ⟨w.heap.size + 1, 0, none⟩ = some (.string ⟨#[]⟩) := (by rw [cell_of_row _ _ _ _ _ _ hg3]; rfl); have hc31 : w3.cell? ⟨w.heap.size + 1, 1, none⟩ = some (.slice none 0 0) := (by rw [cell_of_row _ _ _ _ _ _ hg3]; rfl); have hf30 : w3.frozen? ⟨w.heap.size + 1, 0, none⟩ = false := (by simp [World.frozen?, hg3]); have hf31 : w3.frozen? ⟨w.heap.size + 1, 1, none⟩ = false := (by simp [World.frozen?, hg3])))
  all_goals
    have hw1 : (w3.setCell ⟨w.heap.size + 1, 0, none⟩ (.string s)).heap[w.heap.size + 1]? = some (.cells #[.string s, .slice none 0 0] 55 (0, 0)) := by rw [heap_setCell_same w3 _ 0 _ _ _ hg3]; rfl
    have hw2 : ((w3.setCell ⟨w.heap.size + 1, 0, none⟩ (.string s)).setCell ⟨w.heap.size + 1, 1, none⟩ (.slice A3 n3 c3)).heap[w.heap.size + 1]? = some (.cells #[.string s, .slice A3 n3 c3] 55 (0, 0)) := by rw [heap_setCell_same _ _ 1 _ _ _ hw1]; rfl
    have hx0 : ((w3.setCell ⟨w.heap.size + 1, 0, none⟩ (.string s)).setCell ⟨w.heap.size + 1, 1, none⟩ (.slice A3 n3 c3)).cell? ⟨w.heap.size + 1, 0, none⟩ = some (.string s) := by rw [cell_of_row _ _ _ _ _ _ hw2]; rfl
    have hx1 : ((w3.setCell ⟨w.heap.size + 1, 0, none⟩ (.string s)).setCell ⟨w.heap.size + 1, 1, none⟩ (.slice A3 n3 c3)).cell? ⟨w.heap.size + 1, 1, none⟩ = some (.slice A3 n3 c3) := by rw [cell_of_row _ _ _ _ _ _ hw2]; rfl
    have hz1 := HB1.out.size
    have hbw : Below w.heap.size w ((w3.setCell ⟨w.heap.size + 1, 0, none⟩ (.string s)).setCell ⟨w.heap.size + 1, 1, none⟩ (.slice A3 n3 c3)) := ((HB1.out.trans (hq3.mono HB1.out.size)).setCell (by simp only; omega) _).setCell (by simp only; omega) _
    have hh := hE3.holdsP (Nat.le_refl _)
    have hcap := hE3.cap
    have hq2s := hq2.size
    have hh2 : HoldsP ((w3.setCell ⟨w.heap.size + 1, 0, none⟩ (.string s)).setCell ⟨w.heap.size + 1, 1, none⟩ (.slice A3 n3 c3)) (fun b => w.heap.size ≤ b ∧ b < ((w3.setCell ⟨w.heap.size + 1, 0, none⟩ (.string s)).setCell ⟨w.heap.size + 1, 1, none⟩ (.slice A3 n3 c3)).heap.size) A3 n3 k := by
      rw [Hk.out]
      refine (hh.keep (w' := (w3.setCell ⟨w.heap.size + 1, 0, none⟩ (.string s)).setCell ⟨w.heap.size + 1, 1, none⟩ (.slice A3 n3 c3)) (fun b o hb => ?_)).more (fun b hb => ⟨by have := hb.1; omega, by have := hb.2; simp [World.setCell]; exact this⟩)
      have hb1 := hb.1
      exact (World.cell?_setCell_far _ _ _ _ (by simp only [ne_eq]; omega)).trans (World.cell?_setCell_far _ _ _ _ (by simp only [ne_eq]; omega))
    have Hbw := Lib.hid hbw
    have Hh2 := Lib.hid hh2
    have Hcap := Lib.hid hcap
    clear hw1 hw2 hbw hh hh2 hcap hE3 hb3 hq0 hq2 hq3 hg3
    go_wp2_with fail
    refine bodyPost_ret (v := .agg #[.string s, .slice A3 n3 c3]) (by simp [results, Tryz.results80, go_sem, hx0, hx1]) rfl ?_
    exact ⟨A3, n3, c3, rfl, Hh2.out, Hcap.out.1, Hcap.out.2, Hbw.out⟩
end Go.Proofs.YtlcbhooiinaalaaGreatDoor.Cv
namespace Go.Proofs.YtlcbhooiinaalaaGreatDoor.Cv
open Go.RowKit Go.Proofs.YtlcbhooiinaalaaGreatDoor.Jd Go.Proofs.YtlcbhooiinaalaaGreatDoor.Li Go.Proofs.YtlcbhooiinaalaaGreatDoor.Cl
set_option maxRecDepth 100000

/-- So many edges are made, the others are none yet. -/
def zerosE : Nat → List Value
  | 0 => []
  | k + 1 => Value.string ⟨#[]⟩ :: Value.slice none 0 0 :: zerosE k
theorem zerosE_len : ∀ k, (zerosE k).length = k * 2
  | 0 => rfl
  | k + 1 => by simp only [zerosE, List.length_cons, zerosE_len k]; omega
theorem zerosE_get : ∀ (k i : Nat), i < k * 2 → (zerosE k)[i]? = some (if i % 2 = 0 then Value.string ⟨#[]⟩ else Value.slice none 0 0)
  | 0, i, h => by omega
  | k + 1, 0, _ => rfl
  | k + 1, 1, _ => rfl
  | k + 1, i + 2, h => by
    simp only [zerosE, List.getElem?_cons_succ]
    rw [zerosE_get k i (by omega), show (i + 2) % 2 = i % 2 by omega]
theorem made_zeros (n : Nat) : madeCells #[Value.string ⟨#[]⟩, Value.slice none 0 0] (n * 2) = (zerosE n).toArray := by
  apply Array.ext
  · simp [madeCells, zerosE_len]
  · intro i h1 h2
    have hi : i < n * 2 := by simpa [madeCells] using h1
    have h := zerosE_get n i hi
    rw [List.getElem?_eq_getElem (by rw [zerosE_len]; exact hi)] at h
    injection h with h
    have h3 : (zerosE n).toArray[i] = if i % 2 = 0 then Value.string ⟨#[]⟩ else Value.slice none 0 0 := by rw [List.getElem_toArray]; exact h
    rw [h3]
    have hm : i % 2 = 0 ∨ i % 2 = 1 := by omega
    rcases hm with hm | hm
    · simp [madeCells, hm]
    · simp [madeCells, hm]
def partE (vs : List Value) (j : Nat) : Array Value := (vs ++ zerosE j).toArray
theorem partE_set {vs : List Value} {j k : Nat} (x y : Value) (hv : vs.length = k * 2) : ((partE vs (j + 1)).setIfInBounds (k * 2) x).setIfInBounds (k * 2 + 1) y = partE (vs ++ [x, y]) j := by
  unfold partE
  rw [List.setIfInBounds_toArray, List.setIfInBounds_toArray]
  congr 1
  rw [List.set_append_right _ _ (by omega), hv, Nat.sub_self, zerosE, List.set_cons_zero, List.set_append_right _ _ (by omega), hv, show k * 2 + 1 - k * 2 = 1 by omega]
  simp
theorem info_edge : (Tryz.prog.info? 55).map (fun i => (i.zero, i.size, i.bytes)) = some (some (.agg #[.string ⟨#[]⟩, .slice none 0 0]), 2, 40) := by kernel_rfl
theorem make_edges (n : Nat) (hn : n ≤ 100000) (w : World) : (Instr.makeSlice 29 (.int .i64 (n : Int)) (.int .i64 (n : Int))).run Tryz.prog w = .ok (.slice (some ⟨w.heap.size, 0, none⟩) n n) (w.alloc (.cells (partE [] n) 55)) := by
  obtain ⟨i, hi, hz, hs, hb⟩ := info_parts info_edge
  have h := run_make (P := Tryz.prog) w 29 55 i (.agg #[.string ⟨#[]⟩, .slice none 0 0]) Tryz.underlying29 hi hz .i64 .i64 n n (by omega) (Int.le_refl _) (by rw [hb]; omega) (by omega)
  rw [hs] at h
  simp only [Int.toNat_natCast] at h
  rw [h]
  have e : (Value.agg #[Value.string ⟨#[]⟩, Value.slice none 0 0]).cells = #[Value.string ⟨#[]⟩, Value.slice none 0 0] := by rfl
  rw [e, made_zeros]
  rfl
/-- The records' edges, as they come. -/
def recsT (srt : Tr → Tr) (cols : List ByteArray) : List Rw → Tr
  | [] => .nil
  | r :: rs => .cons (nm r) (srt (rawB cols (mns r.fs.tail))) (recsT srt cols rs)
theorem recs_take {srt : Tr → Tr} {cols : List ByteArray} : ∀ (rs : List Rw) (k : Nat) {r : Rw}, rs[k]? = some r → appT (recsT srt cols (rs.take k)) (.cons (nm r) (srt (rawB cols (mns r.fs.tail))) .nil) = recsT srt cols (rs.take (k + 1))
  | [], k, r, h => by simp at h
  | x :: rs, 0, r, h => by
    simp only [List.getElem?_cons_zero, Option.some.injEq] at h
    subst h
    rfl
  | x :: rs, k + 1, r, h => by
    simp only [List.getElem?_cons_succ] at h
    rw [List.take_succ_cons, List.take_succ_cons, recsT, appT, recs_take rs k h]
    rfl
/-- A row of edges, all made. -/
theorem edg_of {w : World} {base g n : Nat} {t : Tr} {vs : List Value} (hg : w.heap[g]? = some (.cells (partE vs 0) 55 (0, 0))) (hb : base ≤ g) (hv : vs.length = n * 2) (hn : n ≤ 100000) (hr : RowP w (fun b => base ≤ b ∧ b < w.heap.size ∧ b ≠ g) vs t) : Edg w base base (some ⟨g, 0, none⟩) n n t vs := by
  refine ⟨⟨hv, .inr ⟨g, n, partE vs 0, rfl, hb, hg, Nat.le_refl _, Nat.le_trans hn (by decide), ?_, ?_⟩⟩, hr.more fun b hb1 => ⟨hb1.1, hb1.2.1, fun e => hb1.2.2 (by injection e)⟩⟩
  · simp [partE, zerosE, hv]
  · simp [partE, zerosE, ← hv]

set_option maxHeartbeats 8000000 in
theorem eachE_any (srt : Tr → Tr) (hI : InOrd srt) (rs : List Rw) (cols : List ByteArray) (A Ac : Option Addr) (n c m cc gc : Nat) (w : World) (h : SeesR w w.heap.size A n rs) (hc : SeesV w w.heap.size Ac m (cols.map Value.string)) (hn : n ≤ 100000) (hm : m ≤ 10000) (hrs : ∀ r ∈ rs, r.fs.length = m + 1)
    (hgc : w.cell? ⟨gc, 0, none⟩ = some (.slice Ac m cc)) :
    Calls Tryz.prog 79 #[.slice A n c, .func (.func 80) #[] #[.pointer (some ⟨gc, 0, none⟩)]] w fun e w' => ∃ g vs, e = .returned (.slice (some ⟨g, 0, none⟩) n n) ∧ Edg w' w.heap.size w.heap.size (some ⟨g, 0, none⟩) n n (recsT srt cols rs) vs ∧ Below w.heap.size w w' := by
  have hmk := fun W : World => make_edges n hn W
  have hgl : gc < w.heap.size := World.block_lt_of_cell? w ⟨gc, 0, none⟩ hgc
  have Hl := Lib.hid h.len
  have HH := Lib.hid h
  have HC := Lib.hid (fun (W : World) (hW : Below w.heap.size w W) (r : Rw) (hr : r ∈ rs) (Ar : Option Addr) (nr cr : Nat) (hs : SeesL W w.heap.size Ar nr r.fs) => by
    obtain ⟨x0, xl, hx0⟩ : ∃ x0 xl, r.fs = x0 :: xl := List.exists_cons_of_ne_nil (fun e => by have := hrs r hr; rw [e] at this; simp at this)
    have hlen := hrs r hr
    have hnr := hs.len
    have h1 := tree1_any srt hI r x0 xl hx0 cols Ar Ac nr cr m cc gc W (hs.more hW.size) (seesV_moreT (hc.below hW) hW.size) (by rw [hx0] at hlen; simpa using hlen) (by omega) ((hW.cell (p := ⟨gc, 0, none⟩) hgl).trans hgc)
    have e : xl = r.fs.tail := by rw [hx0]; rfl
    rw [e] at h1
    exact h1)
  clear h hc hgc hrs hI
  go_enter Tryz.func79, Tryz.ntmps79
  go_wp2_with fail
  go_loopw [13] (fun i wr => ∃ (k : Nat) (vs : List Value), k ≤ n ∧ i = .int .i64 k ∧ Hid (wr.heap[w.heap.size]? = some (.cells (partE vs (n - k)) 55 (0, 0))) ∧ Hid (vs.length = k * 2) ∧ Hid (RowP wr (fun b => w.heap.size ≤ b ∧ b < wr.heap.size ∧ b ≠ w.heap.size) vs (recsT srt cols (rs.take k))) ∧ Hid (Below w.heap.size w wr)) (fun i _ => n - (intOf i).toNat)
  case atStart => exact ⟨0, [], Nat.zero_le _, rfl, Lib.hid (heap_alloc_new w _), Lib.hid rfl, Lib.hid trivial, Lib.hid ((Below.refl _ _).alloc (Nat.le_refl _) _)⟩
  case round =>
    obtain ⟨k, vs, hk, rfl, HG, HV, HP, HW⟩ := hrel
    by_cases hlt : k < n
    · have hkl : k < rs.length := by have := Hl.out; omega
      obtain ⟨r, hr⟩ : ∃ r, rs[k]? = some r := ⟨_, List.getElem?_eq_getElem hkl⟩
      obtain ⟨b, o, Af, nf, cf, rfl, hbl, hc1, hc2, hsf, _, _⟩ := (HH.out.below HW.out).at_ k r hr
      have hkn : (k : Int) < (n : Int) := by omega
      have hk0 : (0 : Int) ≤ (k : Int) := by omega
      have hb1 : Below wr.heap.size wr (wr.alloc (Obj.cells #[.slice Af nf cf, .string r.en] 62)) := (Below.refl _ _).alloc (Nat.le_refl _) _
      have hsz1 := HW.out.size
      have HM := Lib.hid (HC.out _ (HW.out.trans (hb1.mono hsz1)) r (List.mem_of_getElem? hr) Af nf cf (hsf.below (hb1.mono hsz1)))
      have hgl2 := (Array.getElem?_eq_some_iff.1 HG.out).1
      obtain ⟨j, hj⟩ : ∃ j, n - k = j + 1 := ⟨n - k - 1, by omega⟩
      have hj2 : n - (k + 1) = j := by omega
      have Hrt := Lib.hid (recs_take (srt := srt) (cols := cols) rs k hr)
      have Hlt := Lib.hid hlt
      have Hb1 := Lib.hid hb1
      have Hj := Lib.hid hj
      have Hj2 := Lib.hid hj2
      clear hkl hr hlt hb1 hsf hj hj2
      go_wp2_with fail
      (with_reducible refine HM.out.mono ?_)
      rintro e w2 ⟨A3, n3, c3, rfl, hh3, hn3, hc3, hb2⟩
      have hb12 : Below wr.heap.size wr w2 := Hb1.out.trans (hb2.mono (by simp))
      have hg2 : w2.heap[w.heap.size]? = some (.cells (partE vs (n - k)) 55 (0, 0)) := (hb12.block _ hgl2).trans HG.out
      have hsz2 : (partE vs (n - k)).size = k * 2 + (j + 1) * 2 := by rw [Hj.out]; unfold partE; rw [List.size_toArray, List.length_append, zerosE_len, HV.out]
      have hcell : ∀ q, q < 2 → ∃ y, w2.cell? ⟨w.heap.size, k * 2 + q, none⟩ = some y := fun q hq => by
        rw [cell_of_row _ _ _ _ _ _ hg2]
        exact ⟨_, Array.getElem?_eq_getElem (by omega)⟩
      obtain ⟨y0, hy0⟩ := hcell 0 (by omega)
      obtain ⟨y1, hy1⟩ := hcell 1 (by omega)
      rw [Nat.add_zero] at hy0
      have hf0 : w2.frozen? ⟨w.heap.size, k * 2, none⟩ = false := by simp [World.frozen?, hg2]
      have hg3 := heap_setCell_same w2 w.heap.size (k * 2) _ _ (.string (nm r)) hg2
      have hy1' : (w2.setCell ⟨w.heap.size, k * 2, none⟩ (.string (nm r))).cell? ⟨w.heap.size, k * 2 + 1, none⟩ = some y1 := by
        rw [World.cell?_setCell_other _ _ _ _ (by intro e; injection e; omega)]
        exact hy1
      have hf1 : (w2.setCell ⟨w.heap.size, k * 2, none⟩ (.string (nm r))).frozen? ⟨w.heap.size, k * 2 + 1, none⟩ = false := by simp [World.frozen?, hg3]
      have hf1' : w2.frozen? ⟨w.heap.size, k * 2 + 1, none⟩ = false := by simp [World.frozen?, hg2]
      have hg4 := heap_setCell_same (w2.setCell ⟨w.heap.size, k * 2, none⟩ (.string (nm r))) w.heap.size (k * 2 + 1) _ _ (.slice A3 n3 c3) hg3
      rw [Hj.out, partE_set _ _ HV.out, ← Hj2.out] at hg4
      have HG4 := Lib.hid hg4
      have HW4 : Hid (Below w.heap.size w ((w2.setCell ⟨w.heap.size, k * 2, none⟩ (.string (nm r))).setCell ⟨w.heap.size, k * 2 + 1, none⟩ (.slice A3 n3 c3))) := Lib.hid (((HW.out.trans (hb12.mono hsz1)).setCell (Nat.le_refl _) _).setCell (Nat.le_refl _) _)
      have HV4 : Hid ((vs ++ [Value.string (nm r), Value.slice A3 n3 c3]).length = (k + 1) * 2) := Lib.hid (by rw [List.length_append, HV.out]; simp; omega)
      have hkeep : ∀ b o, (w.heap.size ≤ b ∧ b < w2.heap.size ∧ b ≠ w.heap.size) → ((w2.setCell ⟨w.heap.size, k * 2, none⟩ (.string (nm r))).setCell ⟨w.heap.size, k * 2 + 1, none⟩ (.slice A3 n3 c3)).cell? ⟨b, o, none⟩ = w2.cell? ⟨b, o, none⟩ := fun b o hb =>
        (World.cell?_setCell_other _ _ _ _ (by intro e; injection e with e; exact hb.2.2 e.symm)).trans (World.cell?_setCell_other _ _ _ _ (by intro e; injection e with e; exact hb.2.2 e.symm))
      have hp1 : RowP w2 (fun b => w.heap.size ≤ b ∧ b < w2.heap.size ∧ b ≠ w.heap.size) vs (recsT srt cols (rs.take k)) := (HP.out.keep (w' := w2) (fun b o hb => hb12.cell (p := ⟨b, o, none⟩) hb.2.1)).more (fun b hb => ⟨hb.1, Nat.lt_of_lt_of_le hb.2.1 hb12.size, hb.2.2⟩)
      have hp2 : RowP w2 (fun b => w.heap.size ≤ b ∧ b < w2.heap.size ∧ b ≠ w.heap.size) [.string (nm r), .slice A3 n3 c3] (.cons (nm r) (srt (rawB cols (mns r.fs.tail))) .nil) := RowP.one (hh3.more (fun b hb => ⟨Nat.le_trans hsz1 (by have := hb.1; simp at this; omega), hb.2, by have := hb.1; simp at this; omega⟩)) hn3 hc3
      have hp3 := hp1.app hp2
      rw [Hrt.out] at hp3
      have HP4 : Hid (RowP ((w2.setCell ⟨w.heap.size, k * 2, none⟩ (.string (nm r))).setCell ⟨w.heap.size, k * 2 + 1, none⟩ (.slice A3 n3 c3)) (fun b => w.heap.size ≤ b ∧ b < ((w2.setCell ⟨w.heap.size, k * 2, none⟩ (.string (nm r))).setCell ⟨w.heap.size, k * 2 + 1, none⟩ (.slice A3 n3 c3)).heap.size ∧ b ≠ w.heap.size) (vs ++ [Value.string (nm r), Value.slice A3 n3 c3]) (recsT srt cols (rs.take (k + 1)))) := Lib.hid ((hp3.keep hkeep).more (fun b hb => ⟨hb.1, by simp [World.setCell]; exact hb.2.1, hb.2.2⟩))
      clear hb2 hb12 hg2 hg3 hg4 hcell hkeep hp1 hp2 hp3 hh3 hn3 hc3 hsz2
      go_wp2_with fail
      go_roundw
      case rel => exact ⟨k + 1, _, Hlt.out, by go_num, HG4, HV4, HP4, HW4⟩
      case measure => have := Hlt.out; simp [intOf]; omega
    · obtain rfl : k = n := by omega
      have hg := HG.out
      rw [Nat.sub_self] at hg
      have hp := HP.out
      rw [List.take_of_length_le (by rw [← Hl.out]; exact Nat.le_refl _)] at hp
      have HE := Lib.hid (edg_of hg (Nat.le_refl _) HV.out hn hp)
      clear hlt hg hp
      go_wp2_with fail
      go_ret
      exact ⟨w.heap.size, vs, rfl, HE.out, HW.out⟩
end Go.Proofs.YtlcbhooiinaalaaGreatDoor.Cv
namespace Go.Proofs.YtlcbhooiinaalaaGreatDoor.Cv
open Go.RowKit Go.Proofs.YtlcbhooiinaalaaGreatDoor.Jd Go.Proofs.YtlcbhooiinaalaaGreatDoor.Li Go.Proofs.YtlcbhooiinaalaaGreatDoor.Cl
set_option maxRecDepth 100000

set_option maxHeartbeats 2000000 in
theorem treeOf_any (srt : Tr → Tr) (hI : InOrd srt) (rs : List Rw) (cols : List ByteArray) (A Ac : Option Addr) (n c m cc : Nat) (w : World) (h : SeesR w w.heap.size A n rs) (hc : SeesV w w.heap.size Ac m (cols.map Value.string)) (hn : n ≤ 100000) (hm : m ≤ 10000) (hrs : ∀ r ∈ rs, r.fs.length = m + 1) :
    Calls Tryz.prog 51 #[.slice Ac m cc, .slice A n c] w (BlP srt w (recsT srt cols rs)) := by
  obtain ⟨W1, hW1⟩ : ∃ W, W = w.alloc (Obj.cells #[.slice Ac m cc] 28) := ⟨_, rfl⟩
  have hb1 : Below w.heap.size w W1 := by rw [hW1]; exact (Below.refl _ _).alloc (Nat.le_refl _) _
  have hg1 : W1.heap[w.heap.size]? = some (Obj.cells #[.slice Ac m cc] 28) := by rw [hW1]; exact heap_alloc_new w _
  have hp0 : W1.cell? ⟨w.heap.size, 0, none⟩ = some (.slice Ac m cc) := by rw [cell_of_row _ _ _ _ _ _ hg1]; rfl
  have HE := Lib.hid (eachE_any srt hI rs cols A Ac n c m cc w.heap.size W1 ((h.below hb1).more hb1.size) (seesV_moreT (hc.below hb1) hb1.size) hn hm hrs hp0)
  have HB1 := Lib.hid hb1
  have HI := Lib.hid hI
  clear h hc hrs hb1 hg1 hp0
  go_enter Tryz.func51, Tryz.ntmps51
  go_wp2_with fail
  rw [← hW1]
  clear hW1
  (with_reducible refine HE.out.mono ?_)
  rintro e w2 ⟨g, vs, rfl, hE2, hb2⟩
  have HB2 := Lib.hid (HB1.out.trans (hb2.mono HB1.out.size))
  have HI2 := Lib.hid (HI.out _ _ _ _ _ _ w2 hE2 hb2.size hn)
  have hz := HB1.out.size
  clear hE2 hb2
  go_wp2_with fail
  (with_reducible refine HI2.out.mono ?_)
  rintro e w3 ⟨vs3, rfl, hE3, hb3⟩
  have HB3 := Lib.hid (HB2.out.trans (hb3.mono hz))
  have HE3 := Lib.hid hE3
  clear hE3 hb3
  go_wp2_with fail
  go_ret
  refine ⟨some ⟨g, 0, none⟩, n, n, vs3, rfl, ⟨own_base HE3.out.own hz, HE3.out.row.more fun b hb => ⟨Nat.le_trans hz hb.1, hb.2.1, hb.2.2⟩⟩, HB3.out⟩
end Go.Proofs.YtlcbhooiinaalaaGreatDoor.Cv
