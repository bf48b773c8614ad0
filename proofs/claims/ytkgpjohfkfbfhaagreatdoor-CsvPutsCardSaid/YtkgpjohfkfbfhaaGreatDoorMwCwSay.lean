/- csv's row: the line that now means these. Conditions: as textOf's. · strings.Builder.WriteString at a builder of the call's own. Conditions: at most 2^47 bytes. · lines.Split: what it makes of any text. Conditions: fewer than 2^38 bytes. · lines.Join, lines.End, cmp.Or, the document's own End and Same. Conditions: lengths below 2^40. · cmp.Or of two strings, lines.End, the document's own End; its Same at two rows that are the same. Conditions: lengths below 2^62. · slices.Grow of nil, slices.Concat of rows of lines. Conditions: what is joined is fewer than 2^40 lines. -/
import Derived.Test.YtkgpjohfkfbfhaaGreatDoorMwCwEach
import Derived.Deep.RegionWith
import Derived.Deep.DeepFit
import Derived.Test.YtkgpjohfkfbfhaaGreatDoorMwCvField
import Derived.Test.YtkgpjohfkfbfhaaGreatDoorShelf
import Derived.Lib.Builder
import Derived.Lib.AppendStr
import Derived.Laws.Externs
import Derived.Outline
import Derived.Deep.RegionHeld3
import Derived.Deep.DrawnRows
import Derived.Deep.LoopGhost
import Derived.BigQuiet
import Derived.Deep.QuietTactic
import Derived.Lib.AppendZerosOnto
namespace Go.Proofs.YtkgpjohfkfbfhaaGreatDoor.Cv
open Go.RowKit Go.Proofs.YtkgpjohfkfbfhaaGreatDoor.Jd Go.Proofs.YtkgpjohfkfbfhaaGreatDoor.Li
set_option maxRecDepth 100000

/-- The line of a row that now means these. -/
def sayF (ms : List ByteArray) (r : Rw) : Ln := (Lib.join (fieldF ms r.fs) [44], r.en.data.toList)

set_option maxHeartbeats 4000000 in
theorem saying_any (ms : List ByteArray) (r : Rw) (A Aw : Option Addr) (n c nw cw : Nat) (w : World) (h : SeesV w w.heap.size A n (ms.map Value.string)) (hw : SeesL w w.heap.size Aw nw r.fs) (hle : nw ≤ n) (hn : n ≤ 100000) (hz : ∀ m ∈ ms, m.size ≤ 4000 ∧ Pl m) (hwz : ∀ x ∈ r.fs, x.1.length ≤ 4000) (hG : Gl w) :
    Calls Tryz.prog 63 #[.agg #[.slice Aw nw cw, .string r.en], .slice A n c] w fun e w' => e = .returned (.agg #[encs (sayF ms r).1, encs (sayF ms r).2]) ∧ Below w.heap.size w w' := by
  have HT := Lib.hid (fun (W : World) (hW : Below w.heap.size w W) => textOf_any ms r.fs A Aw n c nw cw W (seesV_more (h.below hW) hW.size) ((hw.below hW).more hW.size) hle hn hz hwz (hG.below hW))
  clear h hw hz hwz hG
  have he : encs (sayF ms r).2 = .string r.en := by simp [sayF, encs]
  have He := Lib.hid he
  clear he
  go_enter Tryz.func63, Tryz.ntmps63
  go_wp2_with fail
  have hq0 : Below w.heap.size w ((w.alloc (Obj.cells #[.slice Aw nw cw, .string r.en] 75)).alloc (Obj.cells #[.string ⟨#[]⟩, .string ⟨#[]⟩] 86)).drew := (((Below.refl _ _).alloc (Nat.le_refl _) _).alloc (by simp) _).drew
  have hg : ((w.alloc (Obj.cells #[.slice Aw nw cw, .string r.en] 75)).alloc (Obj.cells #[.string ⟨#[]⟩, .string ⟨#[]⟩] 86)).heap[w.heap.size]? = some (Obj.cells #[.slice Aw nw cw, .string r.en] 75) := (((Below.refl _ _).alloc (Nat.le_refl _) _).block w.heap.size (by simp)).trans (heap_alloc_new w _)
  have hr : ((w.alloc (Obj.cells #[.slice Aw nw cw, .string r.en] 75)).alloc (Obj.cells #[.string ⟨#[]⟩, .string ⟨#[]⟩] 86)).heap[w.heap.size + 1]? = some (Obj.cells #[.string ⟨#[]⟩, .string ⟨#[]⟩] 86) := by
    have := heap_alloc_new (w.alloc (Obj.cells #[.slice Aw nw cw, .string r.en] 75)) (Obj.cells #[.string ⟨#[]⟩, .string ⟨#[]⟩] 86)
    simpa using this
  have hs : ((w.alloc (Obj.cells #[.slice Aw nw cw, .string r.en] 75)).alloc (Obj.cells #[.string ⟨#[]⟩, .string ⟨#[]⟩] 86)).drew.heap.size = w.heap.size + 2 := by simp
  have HQ := Lib.hid hq0
  have HX := Lib.hid (fun (W : World) (hW : Below ((w.alloc (Obj.cells #[.slice Aw nw cw, .string r.en] 75)).alloc (Obj.cells #[.string ⟨#[]⟩, .string ⟨#[]⟩] 86)).drew.heap.size ((w.alloc (Obj.cells #[.slice Aw nw cw, .string r.en] 75)).alloc (Obj.cells #[.string ⟨#[]⟩, .string ⟨#[]⟩] 86)).drew W) =>
    And.intro ((hW.block w.heap.size (by omega)).trans hg) ((hW.block (w.heap.size + 1) (by omega)).trans hr))
  clear hg hr hs hq0
  go_region_with
    (first
    | (go_at_call 69; (with_reducible refine (HT.out _ HQ.out).mono ?_); rintro e v1 ⟨rfl, hb1⟩; have hx := HX.out _ hb1; go_must (have c0 := cell_of_row v1 w.heap.size 0 _ _ _ hx.1); go_must (have c1 := cell_of_row v1 w.heap.size 1 _ _ _ hx.1); go_must (have d0 := cell_of_row v1 (w.heap.size + 1) 0 _ _ _ hx.2); go_must (have z0 : v1.frozen? ⟨w.heap.size + 1, 0, none⟩ = false := by simp [World.frozen?, hx.2]); go_must (have d1 := cell_of_row v1 (w.heap.size + 1) 1 _ _ _ hx.2); go_must (have z1 : v1.frozen? ⟨w.heap.size + 1, 1, none⟩ = false := by simp [World.frozen?, hx.2])))
  all_goals
    have hx := HX.out _ hb1
    have hset : ((v1.setCell ⟨w.heap.size + 1, 0, none⟩ (.string ⟨(Lib.join (fieldF ms r.fs) [44]).toArray⟩)).setCell ⟨w.heap.size + 1, 1, none⟩ (.string r.en)).heap[w.heap.size + 1]? = some (Obj.cells #[.string ⟨(Lib.join (fieldF ms r.fs) [44]).toArray⟩, .string r.en] 86) := by
      rw [heap_setCell_same _ (w.heap.size + 1) 1 _ _ _ (heap_setCell_same v1 (w.heap.size + 1) 0 _ _ _ hx.2)]
      rfl
    have k0 := cell_of_row _ (w.heap.size + 1) 0 _ _ _ hset
    have k1 := cell_of_row _ (w.heap.size + 1) 1 _ _ _ hset
    have HB := Lib.hid (((HQ.out.trans (hb1.mono HQ.out.size)).setCell (p := ⟨w.heap.size + 1, 0, none⟩) (Nat.le_succ _) (.string ⟨(Lib.join (fieldF ms r.fs) [44]).toArray⟩)).setCell (p := ⟨w.heap.size + 1, 1, none⟩) (Nat.le_succ _) (.string r.en))
    clear hx hb1 hset
    go_wp2_with fail
    refine bodyPost_ret (v := .agg #[.string ⟨(Lib.join (fieldF ms r.fs) [44]).toArray⟩, .string r.en]) (by simp [results, Tryz.results63, go_sem, k0, k1]) rfl ?_
    exact ⟨by rw [He.out]; rfl, HB.out⟩
end Go.Proofs.YtkgpjohfkfbfhaaGreatDoor.Cv
namespace Go.Proofs.YtkgpjohfkfbfhaaGreatDoor.Li
open Go.RowKit
set_option maxRecDepth 100000

theorem size_b : (Tryz.prog.info? 154).map (·.size) = some 2 := by kernel_rfl
theorem lies_b : liesAt Tryz.prog Tryz.prog.depth 154 (2 / Tryz.prog.cellsOf 154) 0 154 1 = true := by kernel_rfl
abbrev Bld (B b : Nat) (l : Bs) (w : World) : Prop := Lib.IsBuilder 154 5 B b (Lib.byteCells l) w

set_option maxHeartbeats 1000000 in
theorem used_any (b : Nat) (w : World) (h0 : w.cell? ⟨b, 0, none⟩ = some (.pointer (some ⟨b, 0, none⟩))) :
    Calls Tryz.prog 134 #[.pointer (some ⟨b, 0, none⟩)] w fun e w' => e = .returned (.tuple #[]) ∧ w = w' := by
  obtain ⟨j, hj, _⟩ := Option.map_eq_some_iff.1 size_b
  have hq := Lib.run_neq_ptr_same (P := Tryz.prog) w ⟨b, 0, none⟩ Tryz.underlying152 hj
  go_enter Tryz.func134, Tryz.ntmps134
  go_wp2
  go_end0
  exact ⟨rfl, rfl⟩

set_option maxHeartbeats 1000000 in
theorem fresh_any (b : Nat) (w : World) (h0 : w.cell? ⟨b, 0, none⟩ = some (.pointer none)) (hsh : w.shape? b = some (154, 2)) (hfz : w.frozen? ⟨b, 0, none⟩ = false) :
    Calls Tryz.prog 134 #[.pointer (some ⟨b, 0, none⟩)] w fun e w' => e = .returned (.tuple #[]) ∧ w' = w.setCell ⟨b, 0, none⟩ (.pointer (some ⟨b, 0, none⟩)) := by
  obtain ⟨j, hj, hjs⟩ := Option.map_eq_some_iff.1 size_b
  have k1 := Lib.run_to_unsafe (P := Tryz.prog) w ⟨b, 0, none⟩ Tryz.underlying152 Tryz.underlying207 hj (by rw [hjs]; decide) hsh (Nat.zero_lt_succ 1)
  have k2 := Lib.run_from_unsafe (P := Tryz.prog) w ⟨b, 0, none⟩ Tryz.underlying207 Tryz.underlying152 hj hsh lies_b
  go_enter Tryz.func134, Tryz.ntmps134
  go_wp2
  rw [run_callFunc_extern Tryz.func156 (by kernel_rfl) (by kernel_rfl) (by kernel_rfl) (e := Extern.AbiNoEscape.same) (by kernel_rfl)]
  rw [Lib.run_noEscape]
  simp only [Result.andThen]
  rw [Oper.upon_value]
  go_wp2
  go_end0
  exact ⟨rfl, rfl⟩
theorem check_any (B b : Nat) (bs : List Value) (w : World) (h : Lib.IsBuilder 154 5 B b bs w) :
    Calls Tryz.prog 134 #[.pointer (some ⟨b, 0, none⟩)] w fun e w' => e = .returned (.tuple #[]) ∧ Lib.BuilderAt 154 5 B b (.pointer (some ⟨b, 0, none⟩)) bs w' ∧ Below B w w' ∧ (∀ g, g ≠ b → w'.heap[g]? = w.heap[g]?) ∧ w.heap.size ≤ w'.heap.size := by
  rcases h with h | h
  · refine (fresh_any b w h.cell0 h.shape h.frozen0).mono ?_
    rintro e w' ⟨rfl, rfl⟩
    exact ⟨rfl, h.used _, (Below.refl B w).setCell (p := ⟨b, 0, none⟩) h.1 _, fun g hg => heap_setCell_other _ _ _ _ hg, by simp [World.setCell]⟩
  · refine (used_any b w h.cell0).mono ?_
    rintro e w' ⟨rfl, rfl⟩
    exact ⟨rfl, h, Below.refl B _, fun _ _ => rfl, Nat.le_refl _⟩

/-- All but block b and rows of bytes stays. -/
def Others (b : Nat) (w w' : World) : Prop := ∀ g, g < w.heap.size → g ≠ b → (∀ cs fr, w.heap[g]? ≠ some (.cells cs 5 fr)) → w'.heap[g]? = w.heap[g]?
set_option maxHeartbeats 2000000 in
theorem write_any (B b : Nat) (l : Bs) (s : ByteArray) (w : World) (h : Bld B b l w) (hlen : l.length + s.size ≤ 140737488355328) (hBw : B ≤ w.heap.size) :
    Calls Tryz.prog 104 #[.pointer (some ⟨b, 0, none⟩), .string s] w fun e w' => e = .returned (.tuple #[.int .i64 s.size, .nilIface]) ∧ Bld B b (l ++ s.data.toList) w' ∧ Below B w w' ∧ Others b w w' := by
  obtain ⟨i0, hi, hz0, hz1, hz2⟩ := info_parts info_u8
  have hll := Lib.byteCells_length l
  have HB := Lib.hid hll
  clear hll
  go_enter Tryz.func104, Tryz.ntmps104
  go_wp2_with (go_at_call 134; (with_reducible refine (check_any B b _ _ h).mono ?_))
  rintro e w1 ⟨rfl, h1, hb1, ho1, hz⟩
  have Ho1 := Lib.hid ho1
  clear ho1
  obtain ⟨hB, v, hbk, hown, hne⟩ := h1
  have c0 : w1.cell? ⟨b, 0, none⟩ = some (.pointer (some ⟨b, 0, none⟩)) := by rw [Lib.cell_of_heap hbk]; rfl
  have c1 : w1.cell? ⟨b, 1, none⟩ = some v := by rw [Lib.cell_of_heap hbk]; rfl
  have hlt : b < w1.heap.size := (Array.getElem?_eq_some_iff.1 hbk).1
  have hB1 : B ≤ w1.heap.size := Nat.le_trans hBw hb1.size
  have HK := Lib.hid hbk
  clear hbk
  go_wp2_with (at_builtin; refine Lib.wpList_append_own_string _ rfl _ _ 27 9 rfl B 5 i0 Tryz.underlying27 Tryz.underlying9 hi hz0 hz1 hz2 _ _ _ rfl hown s rfl ?c3 ?c4 ?c5 ?_)
  case c3 => have := HB.out; unfold maxLen; omega
  case c4 => have := HB.out; omega
  case c5 => exact hB1
  intro v' w2 hown' hgrow _
  have hb2 : w2.heap[b]? = some (.cells #[.pointer (some ⟨b, 0, none⟩), v] 154 (0, 0)) := by
    rw [hgrow.block b hlt (fun e => hne e.symm)]
    exact HK.out
  have d0 : w2.cell? ⟨b, 0, none⟩ = some (.pointer (some ⟨b, 0, none⟩)) := by rw [Lib.cell_of_heap hb2]; rfl
  have d1 : w2.cell? ⟨b, 1, none⟩ = some v := by rw [Lib.cell_of_heap hb2]; rfl
  have f1 : w2.frozen? ⟨b, 1, none⟩ = false := Lib.frozen_of_heap hb2 1
  obtain ⟨ao, n', cap, rfl⟩ : ∃ ao n' cap, v' = .slice ao n' cap := by
    rcases hown'.2 with ⟨hv, _⟩ | ⟨g, cap, cur, hv, _⟩
    · exact ⟨_, _, _, hv⟩
    · exact ⟨_, _, _, hv⟩
  have HK2 := Lib.hid hb2
  have HO := Lib.hid hown'
  clear hb2 hown'
  go_wp2_with fail
  go_ret2
  refine ⟨rfl, ?_, ?_, ?_⟩
  · right
    have hc : Lib.byteCells (l ++ s.data.toList) = Lib.byteCells l ++ Lib.strCells s := by rw [Lib.strCells_eq]; simp [Lib.byteCells]
    rw [hc]
    exact Lib.BuilderAt.put (T := 154) (e := 5) hB HK2.out (bs' := Lib.byteCells l ++ Lib.strCells s) (by simpa [Lib.strCells_length] using HO.out) (by decide)
  · exact (hb1.grown hgrow hB1 (fun k hk => (hown.lt k hk).1)).setCell (p := ⟨b, 1, none⟩) hB _
  · intro g hg hgb hgc
    rw [heap_setCell_other _ _ _ _ hgb, hgrow.block g (by omega) (fun e => ?_), Ho1.out g hgb]
    rcases hown.2 with ⟨e1, _⟩ | ⟨g', cap', cur, e1, _, hh, _⟩
    · rw [e1] at e; cases e
    · rw [e1] at e
      injection e with e
      simp only at e
      subst e
      rw [Ho1.out g hgb] at hh
      exact hgc _ _ hh
theorem Bld.keep {B b : Nat} {l : Bs} {w w' : World} (h : Bld B b l w) (hb : Below w.heap.size w w') : Bld B b l w' := by
  have main : ∀ p, Lib.BuilderAt 154 5 B b p (Lib.byteCells l) w → Lib.BuilderAt 154 5 B b p (Lib.byteCells l) w' := by
    rintro p ⟨h1, v, h2, h3, h4⟩
    exact ⟨h1, v, below_box hb h2, h3.kept (row := none) ⟨hb.os, hb.tape, hb.output, hb.size, fun i hi _ => hb.block i hi⟩ (by cases hv : v.ownBlock <;> simp), h4⟩
  rcases h with h | h
  · exact .inl (main _ h)
  · exact .inr (main _ h)
end Go.Proofs.YtkgpjohfkfbfhaaGreatDoor.Li
namespace Go.Proofs.YtkgpjohfkfbfhaaGreatDoor.Li
open Go.RowKit
set_option maxRecDepth 100000
attribute [local go_sem ↓] Go.wp_at_zero Go.wp_at_succ

/-- What is made so far: f lines' bytes are done, j read. -/
structure Sofar (b : ByteArray) (w wr : World) (A : Option Addr) (N c f j : Nat) (ls : List Ln) : Prop where
  inv : Inv b.data.toList f j ls
  own : OwnL wr w.heap.size A N c ls
  len : N = ls.length
  keep : Below w.heap.size w wr
theorem Sofar.line {b : ByteArray} {w wr w4 : World} {A A4 : Option Addr} {N c c4 f j : Nat} {ls : List Ln} {o : Obj} (h : Sofar b w wr A N c f j ls) (hj : j < b.size) (h10 : b[j] = 10)
    (ho : w4.ownsRow w.heap.size 86 2 (.slice A4 (N + 1) c4) (N + 1) (lcells ls ++ [encs (sl b.data.toList f (lo b.data.toList f j)), encs (sl b.data.toList (lo b.data.toList f j) (j + 1))]))
    (hg : (wr.alloc o).drew.grownBy w4 (Value.slice A N c).ownBlock) : Sofar b w w4 A4 (N + 1) c4 (j + 1) (j + 1) (ls ++ [(sl b.data.toList f (lo b.data.toList f j), sl b.data.toList (lo b.data.toList f j) (j + 1))]) where
  inv := h.inv.line (show j < b.data.toList.length from hj) h10
  own := by rw [OwnL, lcells_append]; exact ho
  len := by rw [List.length_append, h.len]; rfl
  keep := (h.keep.alloc h.keep.size _).grown (grown_undrew hg) (by have := h.keep.size; simp; omega) (fun k hk => (h.own.lt k hk).1)
/-- At a label, with k left. -/
def At2 (b : ByteArray) (w : World) (a : Act) (wr : World) (k : Nat) : Prop :=
  ∃ A N c f j ls, Sofar b w wr A N c f j ls ∧ k + j = b.size + 1 ∧ ∃ u1 u2 u7 u8 u9 u10 u11 u12 u13 u14 u15 u16 u17 u18 u19 u20 u21 u22 u23 u24 u25 u26 u27 u28 u29 u30 u31 u32 u33 u34 u35 u36 u37 u38 u39 u40 u41 u42 u43 u44 u45 u46 u47 u48 : Value, a = { tmps := #[.string b, u1, u2, .slice A N c, .int .i64 (f : Int), .int .i64 (lo b.data.toList f j : Int), .int .i64 (j : Int), u7, u8, u9, u10, u11, u12, u13, u14, u15, u16, u17, u18, u19, u20, u21, u22, u23, u24, u25, u26, u27, u28, u29, u30, u31, u32, u33, u34, u35, u36, u37, u38, u39, u40, u41, u42, u43, u44, u45, u46, u47, u48], defers := [] }
def At0 (b : ByteArray) (w : World) (a : Act) (wr : World) (k : Nat) : Prop :=
  ∃ A N c f j ls, Sofar b w wr A N c f j ls ∧ cr b.data.toList f j = false ∧ k + j = b.size + 1 ∧ ∃ u1 u2 u5 u7 u8 u9 u10 u11 u12 u13 u14 u15 u16 u17 u18 u19 u20 u21 u22 u23 u24 u25 u26 u27 u28 u29 u30 u31 u32 u33 u34 u35 u36 u37 u38 u39 u40 u41 u42 u43 u44 u45 u46 u47 u48 : Value, a = { tmps := #[.string b, u1, u2, .slice A N c, .int .i64 (f : Int), u5, .int .i64 (j : Int), u7, u8, u9, u10, u11, u12, u13, u14, u15, u16, u17, u18, u19, u20, u21, u22, u23, u24, u25, u26, u27, u28, u29, u30, u31, u32, u33, u34, u35, u36, u37, u38, u39, u40, u41, u42, u43, u44, u45, u46, u47, u48], defers := [] }
def At1 (b : ByteArray) (w : World) (a : Act) (wr : World) (_ : Nat) : Prop :=
  ∃ A N c f ls, Sofar b w wr A N c f b.size ls ∧ ∃ u1 u2 u5 u7 u8 u9 u10 u11 u12 u13 u14 u15 u16 u17 u18 u19 u20 u21 u22 u23 u24 u25 u26 u27 u28 u29 u30 u31 u32 u33 u34 u35 u36 u37 u38 u39 u40 u41 u42 u43 u44 u45 u46 u47 u48 u6 : Value, a = { tmps := #[.string b, u1, u2, .slice A N c, .int .i64 (f : Int), u5, u6, u7, u8, u9, u10, u11, u12, u13, u14, u15, u16, u17, u18, u19, u20, u21, u22, u23, u24, u25, u26, u27, u28, u29, u30, u31, u32, u33, u34, u35, u36, u37, u38, u39, u40, u41, u42, u43, u44, u45, u46, u47, u48], defers := [] }
def AtL (b : ByteArray) (w : World) (l : Nat) (a : Act) (wr : World) (k : Nat) : Prop :=
  (l = 0 ∧ At0 b w a wr k) ∨ (l = 1 ∧ At1 b w a wr k) ∨ (l = 2 ∧ At2 b w a wr k)
/-- What is handed back: a new row of these lines. -/
def Lines (base : Nat) (w : World) (ls : List Ln) (e : Ending) (w' : World) : Prop :=
  ∃ A c, e = .returned (.slice A ls.length c) ∧ OwnL w' base A ls.length c ls ∧ Below base w w'

theorem scope3 {P : Program} {a : Act} {w : World} {Q : Exit → Act → World → Prop} {c r0 r1 x : Code} (J : Nat → Act → World → Nat → Prop) (m : Nat) (J0 J1 J2 : Act → World → Nat → Prop)
    (hJ : ∀ l a w k, J l a w k → (l = 0 ∧ J0 a w k) ∨ (l = 1 ∧ J1 a w k) ∨ (l = 2 ∧ J2 a w k))
    (h0 : findLabel c 0 = some r0) (h1 : findLabel c 1 = some r1) (h2 : findLabel c 2 = some (.seq .skip x))
    (back : ∀ a w k, J2 a w k → x.wp P (ups J k Q) a w)
    (text : (∀ a w k, J2 a w k → x.wp P (ups J k Q) a w) → ∀ a w k, J0 a w k → r0.wp P (ups J k Q) a w)
    (last : ∀ a w k, J1 a w k → r1.wp P (ups J k Q) a w)
    (first : (∀ a w k, J2 a w k → x.wp P (ups J k Q) a w) → c.wp P (ups J m Q) a w) : (Code.scope c).wp P Q a w := by
  refine wp_scope_ups J m (first back) fun l a w k h => ?_
  rcases hJ l a w k h with ⟨rfl, g⟩ | ⟨rfl, g⟩ | ⟨rfl, g⟩
  · exact ⟨_, h0, text back a w k g⟩
  · exact ⟨_, h1, last a w k g⟩
  · exact ⟨_, h2, wp_seq (wp_skip (back a w k g))⟩

set_option maxHeartbeats 2000000 in
theorem split_big (b : ByteArray) (w : World) (hb : b.size ≤ 4611686018427387904) (hL : (split b.data.toList).length ≤ 1099511627775) : Calls Tryz.prog 57 #[.string b] w (Lines w.heap.size w (split b.data.toList)) := by
  have hlen : b.data.toList.length = b.size := Array.length_toList
  have HLb := Lib.hid hL
  clear hL
  go_enter Tryz.func57, Tryz.ntmps57
  go_wp2
  refine scope3 (AtL b w) (b.size + 1) (At0 b w) (At1 b w) (At2 b w) (fun _ _ _ _ h => h) (by rfl) (by rfl) (by rfl) ?back ?text ?last ?first
  case back =>
    rintro a' wr k ⟨A, N, c, f, j, ls, hS, hk, u1, u2, u7, u8, u9, u10, u11, u12, u13, u14, u15, u16, u17, u18, u19, u20, u21, u22, u23, u24, u25, u26, u27, u28, u29, u30, u31, u32, u33, u34, u35, u36, u37, u38, u39, u40, u41, u42, u43, u44, u45, u46, u47, u48, rfl⟩
    have hcr := lo_le b.data.toList f j hS.inv.1
    have hjb : j ≤ b.size := by have := hS.inv.2.1; omega
    by_cases hlt : j < b.size
    · have q0 : ((j : Int) == (b.size : Int)) = false := by simp; omega
      have hget : b.data.toList[j]'(by omega) = b[j] := rfl
      by_cases h13 : b[j] = 13
      · have q1 : ((b[j].toNat : Int) == 13) = true := by rw [h13]; rfl
        have Hg := Lib.hid h13
        clear h13 hget
        go_wp2_with fail
        go_step3
        refine ⟨k - 1, by omega, .inr (.inr ⟨rfl, A, N, c, f, j + 1, ls, ⟨hS.inv.other (by omega) ?_, hS.own, hS.len, hS.keep⟩, by omega, ?_⟩)⟩
        · show b[j] ≠ 10
          rw [Hg.out]; decide
        · have e : lo b.data.toList f (j + 1) = j := by
            have h1 : cr b.data.toList f (j + 1) = true := by
              rw [cr_snoc hS.inv.1 (by omega)]
              exact decide_eq_true Hg.out
            unfold lo
            rw [if_pos h1, Nat.add_sub_cancel]
          rw [e]
          exact ⟨_, _, _, _, _, _, _, _, _, _, _, _, _, _, _, _, _, _, _, _, _, _, _, _, _, _, _, _, _, _, _, _, _, _, _, _, _, _, _, _, _, _, _, _, rfl⟩
      · have n13 : b[j].toNat ≠ 13 := fun e => h13 (UInt8.toNat_inj.1 e)
        have q1 : ((b[j].toNat : Int) == 13) = false := by simp; omega
        by_cases h10 : b[j] = 10
        · have q2 : ((b[j].toNat : Int) == 10) = true := by rw [h10]; rfl
          have b1 : (0 : Int) ≤ (f : Int) := by omega
          have b2 : (f : Int) ≤ (lo b.data.toList f j : Int) := by omega
          have b3 : (lo b.data.toList f j : Int) ≤ (b.size : Int) := by omega
          have b4 : (lo b.data.toList f j : Int) ≤ (j : Int) + 1 := by omega
          have b5 : (j : Int) + 1 ≤ (b.size : Int) := by omega
          have b6 : (0 : Int) ≤ (lo b.data.toList f j : Int) := by omega
          have Hg := Lib.hid h10
          have HS := Lib.hid hS
          have Hcr := Lib.hid hcr
          have hN46 : N + 1 ≤ 1099511627776 := by have := hS.len; have := hS.inv.le2; have := HLb.out; omega
          clear h10 h13 hget hS hcr
          go_wp2_with fail
          go_region_held3 (fun _ => True) (trivial) ((refine step_append_row rfl (.tmp 24) (.tmp 34) _ _ rfl elem_line rfl rfl ((HS.out.own.alloc _).drew) (src_line_d _ (sl b.data.toList f (lo b.data.toList f j)) (sl b.data.toList (lo b.data.toList f j) (j + 1)) _ (by rw [← ext_sl, ← ext_sl]) _ rfl) hN46 (by have := HS.out.keep.size; simp; omega) ?_; intro A4 c4 w4 ho4 hg4 hat4))
          have HP := Lib.hid (HS.out.line (by omega) Hg.out ho4 hg4)
          go_wp2_with fail
          go_step3
          exact ⟨k - 1, by omega, .inl ⟨rfl, A4, N + 1, c4, j + 1, j + 1, _, HP.out, cr_self _ _, by omega, _, _, _, _, _, _, _, _, _, _, _, _, _, _, _, _, _, _, _, _, _, _, _, _, _, _, _, _, _, _, _, _, _, _, _, _, _, _, _, _, _, _, _, _, _, rfl⟩⟩
        · have n10 : b[j].toNat ≠ 10 := fun e => h10 (UInt8.toNat_inj.1 e)
          have q2 : ((b[j].toNat : Int) == 10) = false := by simp; omega
          have Hg := Lib.hid h10
          have Hf := Lib.hid h13
          clear h10 h13 hget
          go_wp2_with fail
          go_step3
          refine ⟨k - 1, by omega, .inl ⟨rfl, A, N, c, f, j + 1, ls, ⟨hS.inv.other (by omega) Hg.out, hS.own, hS.len, hS.keep⟩, ?_, by omega, _, _, _, _, _, _, _, _, _, _, _, _, _, _, _, _, _, _, _, _, _, _, _, _, _, _, _, _, _, _, _, _, _, _, _, _, _, _, _, _, _, _, _, _, _, rfl⟩⟩
          rw [cr_snoc hS.inv.1 (by omega)]
          exact decide_eq_false Hf.out
    · have hj : j = b.size := by omega
      subst hj
      have q0 : ((b.size : Int) == (b.size : Int)) = true := by simp
      go_wp2_with fail
      go_step3
      exact ⟨0, by omega, .inr (.inl ⟨rfl, A, N, c, f, ls, hS, _, _, _, _, _, _, _, _, _, _, _, _, _, _, _, _, _, _, _, _, _, _, _, _, _, _, _, _, _, _, _, _, _, _, _, _, _, _, _, _, _, _, _, _, _, _, rfl⟩)⟩
  case text =>
    rintro back a' wr k ⟨A, N, c, f, j, ls, hS, hc, hk, u1, u2, u5, u7, u8, u9, u10, u11, u12, u13, u14, u15, u16, u17, u18, u19, u20, u21, u22, u23, u24, u25, u26, u27, u28, u29, u30, u31, u32, u33, u34, u35, u36, u37, u38, u39, u40, u41, u42, u43, u44, u45, u46, u47, u48, rfl⟩
    have e : lo b.data.toList f j = j := by unfold lo; rw [if_neg (by rw [hc]; simp)]
    have HB := Lib.hid back
    have HE := Lib.hid e
    clear back e hc
    go_wp2_with fail
    go_step3
    rename_i K hK
    refine hK _ _ (HB.out _ _ _ ⟨A, N, c, f, j, ls, hS, hk, ?_⟩)
    rw [HE.out]
    exact ⟨_, _, _, _, _, _, _, _, _, _, _, _, _, _, _, _, _, _, _, _, _, _, _, _, _, _, _, _, _, _, _, _, _, _, _, _, _, _, _, _, _, _, _, _, rfl⟩
  case last =>
    rintro a' wr k ⟨A, N, c, f, ls, hS, u1, u2, u5, u7, u8, u9, u10, u11, u12, u13, u14, u15, u16, u17, u18, u19, u20, u21, u22, u23, u24, u25, u26, u27, u28, u29, u30, u31, u32, u33, u34, u35, u36, u37, u38, u39, u40, u41, u42, u43, u44, u45, u46, u47, u48, u6, rfl⟩
    have hl := hS.inv.last hlen.symm
    have hN := hS.len
    rw [hlen] at hl
    by_cases hlt : f < b.size
    · have q0 : (f : Int) < (b.size : Int) := by omega
      rw [if_pos hlt] at hl
      have HL := Lib.hid hl
      have HS := Lib.hid hS
      have HN := Lib.hid hN
      have hN46 : N + 1 ≤ 1099511627776 := by have := hS.inv.le2; have := HLb.out; omega
      clear hl hS hN
      go_wp2_with (at_builtin; refine wpList_append_row rfl (.tmp 41) (.tmp 46) _ _ rfl elem_line rfl rfl (HS.out.own.alloc _) (src_line _ (sl b.data.toList f b.size) [] _ (by rw [← ext_sl]; rfl) _ rfl) hN46 (by have := HS.out.keep.size; simp; omega) ?_; intro A4 c4 w4 ho4 hg4 hat4)
      go_ret
      refine ⟨A4, c4, ?_, ?_, ?_⟩
      · rw [HL.out, List.length_append, ← HN.out]; rfl
      · rw [HL.out, OwnL, lcells_append, List.length_append, ← HN.out]; exact ho4
      · exact (HS.out.keep.alloc HS.out.keep.size _).grown hg4 (by have := HS.out.keep.size; simp; omega) (fun k hk => (HS.out.own.lt k hk).1)
    · have q0 : ¬ (f : Int) < (b.size : Int) := by omega
      rw [if_neg hlt] at hl
      have HL := Lib.hid hl
      have HN := Lib.hid hN
      clear hl hN
      go_wp2_with fail
      go_ret
      refine ⟨A, c, ?_, ?_, hS.keep⟩
      · rw [HL.out, ← HN.out]; rfl
      · rw [HL.out, ← HN.out]; exact hS.own
  case first =>
    intro back
    have HB := Lib.hid back
    clear back
    go_wp2_with fail
    go_step3
    go_wp2_with fail
    go_step3
    rename_i K hK
    exact hK _ _ (HB.out _ _ (b.size + 1) ⟨none, 0, 0, 0, 0, [], ⟨Inv.start _, World.ownsRow_nil _ _ _ _, rfl, Below.refl _ _⟩, rfl, _, _, _, _, _, _, _, _, _, _, _, _, _, _, _, _, _, _, _, _, _, _, _, _, _, _, _, _, _, _, _, _, _, _, _, _, _, _, _, _, _, _, _, _, rfl⟩)
theorem split_any (b : ByteArray) (w : World) (hb : b.size ≤ 274877906944) : Calls Tryz.prog 57 #[.string b] w (Lines w.heap.size w (split b.data.toList)) := by
  refine split_big b w (by omega) ?_
  have h1 := split_le b.data.toList
  have h2 : b.data.toList.length = b.size := Array.length_toList
  omega
end Go.Proofs.YtkgpjohfkfbfhaaGreatDoor.Li
namespace Go.Proofs.YtkgpjohfkfbfhaaGreatDoor.Li
open Go.RowKit
set_option maxRecDepth 100000

theorem join_le {ls : List Ln} {j : Nat} {x : Ln} (h : ls[j]? = some x) : (join (ls.take j)).length + x.1.length + x.2.length ≤ (join ls).length := by
  have e : ls = ls.take j ++ (x :: ls.drop (j + 1)) := by
    conv => lhs; rw [← List.take_append_drop j ls]
    obtain ⟨hj, hx⟩ := List.getElem?_eq_some_iff.1 h
    rw [List.drop_eq_getElem_cons hj, hx]
  conv => rhs; rw [e]
  rw [join_append, join, List.length_append, List.length_append, List.length_append]
  omega
theorem join_snoc {ls : List Ln} {j : Nat} {x : Ln} (h : ls[j]? = some x) : join (ls.take (j + 1)) = join (ls.take j) ++ x.1 ++ x.2 := by
  obtain ⟨hj, hx⟩ := List.getElem?_eq_some_iff.1 h
  rw [List.take_succ_eq_append_getElem hj, join_append, hx]
  simp [join]
theorem box2 {w : World} {g : Nat} {u v : Value} {T : TypeId} (h : w.heap[g]? = some (.cells #[u, v] T (0, 0))) : w.cell? ⟨g, 0, none⟩ = some u ∧ w.cell? ⟨g, 1, none⟩ = some v := by
  constructor <;> (rw [cell_of_row _ _ _ _ _ _ h]; rfl)

set_option maxHeartbeats 4000000 in
theorem join_any (ls : List Ln) (A : Option Addr) (n c B : Nat) (w : World) (hB : B ≤ w.heap.size) (h : SeesL w B A n ls) (hn : n ≤ 1099511627776) (hl : (join ls).length ≤ 140737488355328) :
    Calls Tryz.prog 70 #[.slice A n c] w fun e w' => e = .returned (encs (join ls)) ∧ Below w.heap.size w w' := by
  have hlen := h.len
  have HL := Lib.hid hlen
  clear hlen
  go_enter Tryz.func70, Tryz.ntmps70
  go_wp2
  go_loopw [8] (fun i wr => ∃ k : Nat, k ≤ n ∧ i = .int .i64 k ∧ Bld w.heap.size w.heap.size (join (ls.take k)) wr ∧ Below w.heap.size w wr) (fun i _ => n - (intOf i).toNat)
  case atStart => exact ⟨0, Nat.zero_le _, rfl, Lib.fresh_isBuilder 154 5 w, (Below.refl _ _).alloc (Nat.le_refl _) _⟩
  case round =>
    obtain ⟨k, hk, rfl, hb, hw⟩ := hrel
    have hw1 := hw.size
    by_cases hlt : k < n
    · have q0 : (k : Int) < (n : Int) := by omega
      have q1 : (0 : Int) ≤ (k : Int) := by omega
      obtain ⟨x, hx⟩ : ∃ x, ls[k]? = some x := ⟨_, List.getElem?_eq_getElem (by have := HL.out; omega)⟩
      have hle := join_le hx
      obtain ⟨b, o, rfl, hbB, hc1, hc2⟩ := (h.keep (w' := wr) (fun p hp => hw.cell (Nat.lt_of_lt_of_le hp hB))).at_ hx
      have hsz1 : (⟨x.1.toArray⟩ : ByteArray).size = x.1.length := List.size_toArray
      have hsz2 : (⟨x.2.toArray⟩ : ByteArray).size = x.2.length := List.size_toArray
      obtain ⟨s1, hs1⟩ : ∃ s : ByteArray, s = ⟨x.1.toArray⟩ := ⟨_, rfl⟩
      obtain ⟨s2, hs2⟩ : ∃ s : ByteArray, s = ⟨x.2.toArray⟩ := ⟨_, rfl⟩
      have e1 : s1.data.toList = x.1 := by rw [hs1]
      have e2 : s2.data.toList = x.2 := by rw [hs2]
      rw [encs, ← hs1] at hc1
      rw [encs, ← hs2] at hc2
      rw [← hs1] at hsz1
      rw [← hs2] at hsz2
      obtain ⟨W1, hW1⟩ : ∃ W, W = wr.alloc (Obj.cells #[.string s1, .string s2] 86) := ⟨_, rfl⟩
      have hbb : Below wr.heap.size wr W1 := by rw [hW1]; exact (Below.refl _ _).alloc (Nat.le_refl _) _
      have hd1 := hb.keep hbb
      have hg1 : W1.heap[wr.heap.size]? = some (.cells #[.string s1, .string s2] 86 (0, 0)) := by rw [hW1]; exact heap_alloc_new _ _
      have hz1 : W1.heap.size = wr.heap.size + 1 := by rw [hW1]; simp
      have hwl : w.heap.size < wr.heap.size := by
        rcases hb with hb | hb <;> exact hb.lt
      have HX := Lib.hid hx
      have H1 := Lib.hid e1
      have H2 := Lib.hid e2
      have HG := Lib.hid hg1
      have HZ := Lib.hid hz1
      have HS1 := Lib.hid hsz1
      have HS2 := Lib.hid hsz2
      have HE := Lib.hid hle
      have HD := Lib.hid hd1
      have HWW := Lib.hid hW1
      clear hx e1 e2 hg1 hz1 hsz1 hsz2 hle hd1 hs1 hs2 h hb hW1
      go_wp2_with fail
      rw [← HWW.out]
      obtain ⟨p1, p2⟩ := box2 HG.out
      (with_reducible refine (write_any w.heap.size w.heap.size (join (ls.take k)) s1 W1 HD.out (by have := HS1.out; have := HE.out; omega) (by have := HZ.out; omega)).mono ?_)
      rintro e w2 ⟨rfl, hb2, hw2, ho2⟩
      have hg2 : w2.heap[wr.heap.size]? = some (.cells #[.string s1, .string s2] 86 (0, 0)) := (ho2 _ (by have := HZ.out; omega) (by omega) (fun cs fr e => by rw [HG.out] at e; simp at e)).trans HG.out
      obtain ⟨r1, r2⟩ := box2 hg2
      have HO := Lib.hid ho2
      have HB2 := Lib.hid hb2
      clear ho2 hg2 p1 p2 hb2
      go_wp2_with fail
      (with_reducible refine (write_any w.heap.size w.heap.size _ s2 w2 HB2.out (by have := HS1.out; have := HS2.out; have := HE.out; rw [List.length_append, H1.out]; omega) (by have := hw2.size; have := HZ.out; omega)).mono ?_)
      rintro e w3 ⟨rfl, hb3, hw3, ho3⟩
      have HB3 := Lib.hid hb3
      clear hb3 ho3
      go_wp2_with fail
      go_roundw
      case rel =>
        refine ⟨k + 1, by omega, by go_num, ?_, ?_⟩
        · rw [join_snoc HX.out]
          have := HB3.out
          rw [H1.out, H2.out] at this
          exact this
        · exact (hw.trans (hbb.mono hw1)).trans (hw2.trans hw3)
      case measure => simp [intOf]; omega
    · have hkn : (n : Int) ≤ (k : Int) := by omega
      obtain rfl : k = n := by omega
      have e : ls.take k = ls := List.take_of_length_le (by have := HL.out; omega)
      rw [e] at hb
      have HB := Lib.hid (Tryz.Builder_String_any w.heap.size w.heap.size (join ls) wr hb hw1)
      clear e
      go_wp2_with (go_at_call 105; (with_reducible refine HB.out.mono ?_); rintro e w2 ⟨rfl, hb2⟩)
      go_ret
      exact ⟨rfl, hw.trans hb2⟩
end Go.Proofs.YtkgpjohfkfbfhaaGreatDoor.Li
namespace Go.Proofs.YtkgpjohfkfbfhaaGreatDoor.Li
open Go.RowKit
set_option maxRecDepth 100000

/-- The first one that is not empty. -/
def or2 (a b : Bs) : Bs := if a = [] then b else a
theorem endOf_or {x : Ln} {r : List Ln} : endOf (x :: r) = or2 x.2 [10] := rfl

set_option maxHeartbeats 1000000 in
theorem or_any (g : Nat) (s t : ByteArray) (w : World) (h0 : w.cell? ⟨g, 0, none⟩ = some (.string s)) (h1 : w.cell? ⟨g, 1, none⟩ = some (.string t)) :
    Calls Tryz.prog 112 #[.slice (some ⟨g, 0, none⟩) 2 2] w fun e w' => e = .returned (encs (or2 s.data.toList t.data.toList)) ∧ w = w' := by
  by_cases hs : s.data.toList = []
  · have e1 : s.toList = [] := by rw [ByteArray.toList_eq]; exact hs
    have e2 : encs (or2 s.data.toList t.data.toList) = .string t := by rw [or2, if_pos hs]; rfl
    have HE := Lib.hid e2
    have hs0 : s = ⟨#[]⟩ := ByteArray.ext (Array.toList_inj.1 hs)
    subst hs0
    clear hs e2
    by_cases ht : t.data.toList = []
    · have ht0 : t = ⟨#[]⟩ := ByteArray.ext (Array.toList_inj.1 ht)
      subst ht0
      clear ht
      go_enter Tryz.func112, Tryz.ntmps112
      go_wp2
      go_loop [8] (fun i => ∃ k : Nat, k ≤ 2 ∧ i = .int .i64 k) (fun i => 2 - (intOf i).toNat)
      case atStart => exact ⟨0, by omega, rfl⟩
      case round =>
        obtain ⟨k, hk, rfl⟩ := hrel
        have hk3 : k = 0 ∨ k = 1 ∨ k = 2 := by omega
        rcases hk3 with rfl | rfl | rfl
        · go_wp2
          go_round
          case rel => exact ⟨1, by omega, rfl⟩
          case measure => simp [intOf]
        · go_wp2
          go_round
          case rel => exact ⟨2, by omega, rfl⟩
          case measure => simp [intOf]
        · go_wp2
          go_ret
          exact ⟨by rw [HE.out]; rfl, rfl⟩
    · have e3 : t.toList ≠ [] := by rw [ByteArray.toList_eq]; exact ht
      have e4 : t.toList.isEmpty = false := by rw [List.isEmpty_eq_false_iff]; exact e3
      have e5 : (t.toList == ([] : List UInt8)) = false := by simpa using e3
      clear ht e3
      go_enter Tryz.func112, Tryz.ntmps112
      go_wp2
      go_loop [8] (fun i => ∃ k : Nat, k ≤ 1 ∧ i = .int .i64 k) (fun i => 2 - (intOf i).toNat)
      case atStart => exact ⟨0, by omega, rfl⟩
      case round =>
        obtain ⟨k, hk, rfl⟩ := hrel
        have hk3 : k = 0 ∨ k = 1 := by omega
        rcases hk3 with rfl | rfl
        · go_wp2
          go_round
          case rel => exact ⟨1, by omega, rfl⟩
          case measure => simp [intOf]
        · go_wp2
          go_ret
          exact ⟨by rw [HE.out]; rfl, rfl⟩
  · have e2 : encs (or2 s.data.toList t.data.toList) = .string s := by rw [or2, if_neg hs]; rfl
    have HE := Lib.hid e2
    have e3 : s.toList ≠ [] := by rw [ByteArray.toList_eq]; exact hs
    have e4 : s.toList.isEmpty = false := by rw [List.isEmpty_eq_false_iff]; exact e3
    have e5 : (s.toList == ([] : List UInt8)) = false := by simpa using e3
    clear hs e2 e3
    go_enter Tryz.func112, Tryz.ntmps112
    go_wp2
    go_loop [8] (fun i => i = .int .i64 ((0 : Nat) : Int)) (fun i => 2 - (intOf i).toNat)
    case atStart => rfl
    case round =>
      subst hrel
      go_wp2
      go_ret
      exact ⟨by rw [HE.out]; rfl, rfl⟩

set_option maxHeartbeats 1000000 in
theorem end_any (ls : List Ln) (A : Option Addr) (n c B : Nat) (w : World) (_ : B ≤ w.heap.size) (h : SeesL w B A n ls) (hc : n ≤ c) (hn : n ≤ 1099511627776) :
    Calls Tryz.prog 106 #[.slice A n c] w fun e w' => e = .returned (encs (endOf ls)) ∧ Below w.heap.size w w' := by
  have hlen := h.len
  cases ls with
  | nil =>
    obtain rfl : n = 0 := hlen
    go_enter Tryz.func106, Tryz.ntmps106
    go_wp2
    go_ret
    exact ⟨rfl, Below.refl _ _⟩
  | cons x r =>
    obtain ⟨m, rfl⟩ : ∃ m, n = m + 1 := ⟨r.length, hlen⟩
    obtain ⟨b, o, rfl, hbB, hc1, hc2⟩ := h.at_ (j := 0) rfl
    obtain ⟨s2, hs2⟩ : ∃ s : ByteArray, s = ⟨x.2.toArray⟩ := ⟨_, rfl⟩
    rw [encs, ← hs2] at hc2
    have e2 : s2.data.toList = x.2 := by rw [hs2]
    have H2 := Lib.hid e2
    rw [Nat.zero_mul, Nat.add_zero] at hc2
    have q0 : ((m : Int) + 1 == 0) = false := by simp; omega
    obtain ⟨W1, hW1⟩ : ∃ W, W = w.alloc (Obj.cells #[.string s2, .string ⟨#[10]⟩] 9) := ⟨_, rfl⟩
    have hg1 : W1.heap[w.heap.size]? = some (.cells #[.string s2, .string ⟨#[10]⟩] 9 (0, 0)) := by rw [hW1]; exact heap_alloc_new _ _
    have hbb : Below w.heap.size w W1 := by rw [hW1]; exact (Below.refl _ _).alloc (Nat.le_refl _) _
    obtain ⟨p1, p2⟩ := box2 hg1
    have HC := Lib.hid (or_any w.heap.size s2 ⟨#[10]⟩ W1 p1 p2)
    have HW := Lib.hid hW1
    clear hs2 e2 hlen h hc1 p1 p2 hg1 hW1
    go_enter Tryz.func106, Tryz.ntmps106
    go_wp2_with fail
    rw [← HW.out]
    (with_reducible refine HC.out.mono ?_)
    rintro e w2 ⟨rfl, rfl⟩
    go_wp2_with fail
    go_ret
    refine ⟨?_, hbb⟩
    rw [endOf_or, ← H2.out]; rfl

set_option maxHeartbeats 1000000 in
theorem rend_any (ls : List Ln) (A : Option Addr) (n c B : Nat) (w : World) (_ : B ≤ w.heap.size) (h : SeesL w B A n ls) (hc : n ≤ c) (hn : n ≤ 1099511627776) :
    Calls Tryz.prog 39 #[.slice A n c] w fun e w' => e = .returned (encs (endOf ls)) ∧ w = w' := by
  have hlen := h.len
  cases ls with
  | nil =>
    obtain rfl : n = 0 := hlen
    go_enter Tryz.func39, Tryz.ntmps39
    go_wp2
    go_ret
    exact ⟨rfl, rfl⟩
  | cons x r =>
    obtain ⟨m, rfl⟩ : ∃ m, n = m + 1 := ⟨r.length, hlen⟩
    obtain ⟨b, o, rfl, hbB, hc1, hc2⟩ := h.at_ (j := 0) rfl
    obtain ⟨s2, hs2⟩ : ∃ s : ByteArray, s = ⟨x.2.toArray⟩ := ⟨_, rfl⟩
    have hv : encs (endOf (x :: r)) = if x.2 = [] then .string ⟨#[10]⟩ else .string s2 := by
      rw [endOf_or, or2]
      by_cases h0 : x.2 = []
      · rw [if_pos h0, if_pos h0]; rfl
      · rw [if_neg h0, if_neg h0, hs2]; rfl
    rw [encs, ← hs2] at hc2
    have e2 : s2.data.toList = x.2 := by rw [hs2]
    rw [Nat.zero_mul, Nat.add_zero] at hc2
    have q0 : ((m : Int) + 1 == 0) = false := by simp; omega
    by_cases h0 : x.2 = []
    · rw [if_pos h0] at hv
      have hs0 : s2 = ⟨#[]⟩ := ByteArray.ext (Array.toList_inj.1 (e2.trans h0))
      subst hs0
      have HV := Lib.hid hv
      clear hv hs2 e2 h0 hlen h hc1
      go_enter Tryz.func39, Tryz.ntmps39
      go_wp2_with fail
      go_ret
      exact ⟨by rw [HV.out]; rfl, rfl⟩
    · rw [if_neg h0] at hv
      have HV := Lib.hid hv
      have e3 : s2.toList ≠ [] := by rw [ByteArray.toList_eq, e2]; exact h0
      have e4 : s2.toList.isEmpty = false := by rw [List.isEmpty_eq_false_iff]; exact e3
      have e5 : (s2.toList == ([] : List UInt8)) = false := by simpa using e3
      clear hv hs2 e2 h0 hlen h hc1 e3
      go_enter Tryz.func39, Tryz.ntmps39
      go_wp2_with fail
      go_ret
      exact ⟨by rw [HV.out]; rfl, rfl⟩

theorem below_drewN {b : Nat} {w w' : World} (h : Below b w w') (n : Nat) : Below b w (w'.drewN n) := ⟨h.os, h.tape, h.output, h.size, h.block⟩
theorem neq_line (s t : ByteArray) (w : World) : (binOp .neq 86 (.agg #[.string s, .string t]) (.agg #[.string s, .string t])).run Tryz.prog w = .ok (.bool false) w := by
  have h1 := Tryz.underlying9
  simp [go_sem, run_neq_struct, run_equalIn_struct]


end Go.Proofs.YtkgpjohfkfbfhaaGreatDoor.Li
namespace Go.Proofs.YtkgpjohfkfbfhaaGreatDoor.Li
open Go.RowKit
set_option maxRecDepth 100000

def Grown (w : World) (e : Ending) (w' : World) : Prop := ∃ A c, e = .returned (.slice A 0 c) ∧ w'.ownsRow w.heap.size 86 2 (.slice A 0 c) 0 [] ∧ Below w.heap.size w w'

set_option maxHeartbeats 400000 in
theorem grow_any (n : Nat) (hn : n ≤ 1099511627776) (w : World) : Calls Tryz.prog 135 #[.slice none 0 0, .int .i64 n] w (Grown w) := by
  by_cases h0 : n = 0
  · subst h0
    go_enter Tryz.func135, Tryz.ntmps135
    go_wp2
    go_ret
    exact ⟨none, 0, rfl, World.ownsRow_nil _ _ _ _, Below.refl _ _⟩
  · obtain ⟨i0, hi0, hz0, hs0, hb0⟩ := info_parts elem_line.info
    have hr : ∀ ty, (Builtin.append_ #[62, 3] ty #[.slice none 0 0, .int .i64 n]).run Tryz.prog w = .ok (.slice (some ⟨w.heap.size, 0, none⟩) n (grownCap w n 0 86)) (w.drew.alloc (.cells (Builtin.zeroCells (Value.agg #[.string ⟨#[]⟩, .string ⟨#[]⟩]).cells n ++ Builtin.zeroCells (Value.agg #[.string ⟨#[]⟩, .string ⟨#[]⟩]).cells (grownCap w n 0 86 - n)) 86)) := by
      intro ty
      have h := Lib.run_append_grow_zeros (P := Tryz.prog) w 62 3 ty 86 i0 (.agg #[.string ⟨#[]⟩, .string ⟨#[]⟩]) .i64 .i64 Tryz.underlying62 Tryz.underlying3 hi0 hz0 none 0 0 [] (run_firstCells_none w.drew i0.size 0 0 0) n (by omega) (by omega) (by omega) (by omega) (by rw [hb0]; omega) (by
        have := growslice_fits (need := 0 + n) (old := 0) (bytes := i0.bytes) (by omega) (by rw [hb0]; omega)
        exact this)
      simpa using h
    have hge := grownCap_ge w n 0 86
    have hcm := grownCap_le_maxLen w n 0 86 (by simp only [maxLen]; omega)
    obtain ⟨G, hG⟩ : ∃ G, G = grownCap w n 0 86 := ⟨_, rfl⟩
    rw [← hG] at hr hge hcm
    have hzc : (Builtin.zeroCells (Value.agg #[.string ⟨#[]⟩, .string ⟨#[]⟩]).cells n ++ Builtin.zeroCells (Value.agg #[.string ⟨#[]⟩, .string ⟨#[]⟩]).cells (G - n)).size = G * 2 := by
      simp only [Array.size_append, size_zeroCells]
      rw [show (Value.agg #[.string ⟨#[]⟩, .string ⟨#[]⟩]).cells.size = 2 from rfl]
      omega
    have hown := World.ownsRow_made (base := w.heap.size) (e := 86) (size := 2) w.drew (Builtin.zeroCells (Value.agg #[.string ⟨#[]⟩, .string ⟨#[]⟩]).cells n ++ Builtin.zeroCells (Value.agg #[.string ⟨#[]⟩, .string ⟨#[]⟩]).cells (G - n)) G (by simp) hcm hzc
    generalize (Builtin.zeroCells (Value.agg #[.string ⟨#[]⟩, .string ⟨#[]⟩]).cells n ++ Builtin.zeroCells (Value.agg #[.string ⟨#[]⟩, .string ⟨#[]⟩]).cells (G - n)) = Z at *
    have hG2 : G ≤ 9223372036854775807 := by simp only [maxLen] at hcm; omega
    have Hown := Lib.hid hown
    clear hown hG hzc hi0 hz0 hs0 hb0 hcm
    go_enter Tryz.func135, Tryz.ntmps135
    go_wp2_with (at_builtin; refine Lib.wpList_append_run _ rfl _ _ _ _ rfl _ _ rfl rfl _ _ (hr _) ?_)
    go_ret
    exact ⟨_, _, rfl, Hown.out, (Below.refl _ _).drew.alloc (Nat.le_refl _) _⟩

/-- What is joined: the slices at the cells of a slice of slices. -/
structure Parts (w : World) (g : Nat) (vs : List Value) (ls : List (List Ln)) : Prop where
  len : vs.length = ls.length
  cell : ∀ (i : Nat) v, vs[i]? = some v → w.cell? ⟨g, i, none⟩ = some v
  sees : ∀ (i : Nat) l, ls[i]? = some l → ∃ A n c, vs[i]? = some (.slice A n c) ∧ SeesL w w.heap.size A n l

theorem Parts.three {w : World} {g : Nat} {A B C : Option Addr} {n m o c d f : Nat} {l k q : List Ln} (hg : w.heap[g]? = some (.cells #[.slice A n c, .slice B m d, .slice C o f] 62 (0, 0))) (h1 : SeesL w w.heap.size A n l) (h2 : SeesL w w.heap.size B m k) (h3 : SeesL w w.heap.size C o q) :
    Parts w g [.slice A n c, .slice B m d, .slice C o f] [l, k, q] := by
  refine ⟨rfl, fun i v hv => ?_, fun i l' hl => ?_⟩
  · rw [cell_of_row w g i _ _ _ hg]
    simpa using hv
  · match i, hl with
    | 0, hl => simp at hl; subst hl; exact ⟨A, n, c, rfl, h1⟩
    | 1, hl => simp at hl; subst hl; exact ⟨B, m, d, rfl, h2⟩
    | 2, hl => simp at hl; subst hl; exact ⟨C, o, f, rfl, h3⟩

theorem flat_succ {ls : List (List Ln)} {k : Nat} {l : List Ln} (h : ls[k]? = some l) : (ls.take (k + 1)).flatten = (ls.take k).flatten ++ l := by
  rw [List.take_add_one, h]
  simp
theorem flat_le (ls : List (List Ln)) (k : Nat) : (ls.take k).flatten.length ≤ ls.flatten.length := by
  conv => rhs; rw [← List.take_append_drop k ls, List.flatten_append, List.length_append]
  exact Nat.le_add_right _ _

def Joined (l : List Ln) (w : World) (e : Ending) (w' : World) : Prop := ∃ A c, e = .returned (.slice A l.length c) ∧ OwnL w' w.heap.size A l.length c l ∧ Below w.heap.size w w'

set_option maxHeartbeats 1000000 in
theorem concat_any (g K : Nat) (vs : List Value) (ls : List (List Ln)) (w : World) (hp : Parts w g vs ls) (hK : K = ls.length) (hK2 : K ≤ 65536) (hT : ls.flatten.length ≤ 1099511627776) (hg : g < w.heap.size) :
    Calls Tryz.prog 107 #[.slice (some ⟨g, 0, none⟩) K K] w (Joined ls.flatten w) := by
  have HK := Lib.hid hK
  clear hK
  obtain ⟨T, hTd⟩ : ∃ T : Nat → Nat, T = fun k => (ls.take k).flatten.length := ⟨_, rfl⟩
  have HT : Hid (∀ k, T k = (ls.take k).flatten.length) := by intro k; rw [hTd]
  have HTb : Hid (∀ k, T k ≤ 1099511627776) := by
    intro k
    rw [hTd]
    exact Nat.le_trans (flat_le ls k) hT
  have HT0 : Hid (T 0 = 0) := by rw [HT.out]; rfl
  clear hTd
  go_enter Tryz.func107, Tryz.ntmps107
  go_wp2
  go_loop [3, 11] (fun v i => ∃ k : Nat, k ≤ K ∧ i = .int .i64 k ∧ v = .int .i64 (T k)) (fun _ i => K - (intOf i).toNat)
  case atStart => exact ⟨0, Nat.zero_le _, rfl, by rw [HT0.out]; rfl⟩
  case round =>
    obtain ⟨k, hk, rfl, rfl⟩ := hrel
    have hTk := HTb.out k
    by_cases hlt : k < K
    · obtain ⟨l, hl⟩ : ∃ l, ls[k]? = some l := ⟨ls[k]'(by rw [← HK.out]; exact hlt), List.getElem?_eq_getElem _⟩
      obtain ⟨A, n, c, hv, hs⟩ := hp.sees k l hl
      have hc := hp.cell k _ hv
      have hnl := hs.len
      have HT1 := Lib.hid (show T (k + 1) = T k + n by rw [HT.out, HT.out, flat_succ hl, List.length_append, hnl])
      have hb1 : T k + n ≤ 1099511627776 := by have := HTb.out (k + 1); rw [HT1.out] at this; exact this
      clear hl hv hnl
      go_wp2
      go_round
      case rel => exact ⟨k + 1, by omega, by go_num, by rw [HT1.out]; go_num⟩
      case measure => simp [intOf]; omega
    · obtain rfl : k = K := by omega
      go_wp2_with (go_at_call 135; refine (grow_any _ hTk _).mono ?_; rintro e w1 ⟨A1, c1, rfl, ho1, hb1⟩)
      go_loopw [6, 27] (fun v i wr => ∃ (j : Nat) (A : Option Addr) (n c : Nat), j ≤ k ∧ i = .int .i64 j ∧ v = .slice A n c ∧ wr.ownsRow w.heap.size 86 2 (.slice A n c) n (lcells (ls.take j).flatten) ∧ Below w.heap.size w wr) (fun _ i _ => k - (intOf i).toNat)
      case atStart => exact ⟨0, A1, 0, c1, Nat.zero_le _, rfl, rfl, ho1, hb1⟩
      case round =>
        obtain ⟨j, A, n, c, hj, rfl, rfl, ho, hb⟩ := hrel
        have hn := ho.1
        rw [lcells_length] at hn
        by_cases hlt2 : j < k
        · obtain ⟨l, hl⟩ : ∃ l, ls[j]? = some l := ⟨ls[j]'(by rw [← HK.out]; exact hlt2), List.getElem?_eq_getElem _⟩
          obtain ⟨A2, m, c2, hv, hs⟩ := hp.sees j l hl
          have hc := (hb.cell (p := ⟨g, j, none⟩) hg).trans (hp.cell j _ hv)
          have hnl := hs.len
          have hlen : n + m ≤ 1099511627776 := by
            have h1 := HTb.out (j + 1)
            rw [HT.out, flat_succ hl, List.length_append, ← hnl] at h1
            omega
          have hs2 := (hs.below hb).src (c := c2)
          have Hfl := Lib.hid (flat_succ hl)
          clear hl hv hnl hn
          go_wp2_with (at_builtin; refine wpList_append_row rfl _ _ _ _ rfl elem_line rfl rfl ho hs2 hlen hb.size ?_; intro A' c' w' ho' hg' hat')
          go_roundw
          case rel => exact ⟨j + 1, A', n + m, c', by omega, by go_num, rfl, by rw [Hfl.out, lcells_append]; exact ho', hb.grown hg' hb.size (fun q hq => (ho.lt q hq).1)⟩
          case measure => simp [intOf]; omega
        · obtain rfl : j = k := by omega
          have hall : ls.take j = ls := List.take_of_length_le (by rw [HK.out]; exact Nat.le_refl _)
          rw [hall] at ho hn
          obtain rfl : n = ls.flatten.length := by omega
          have Ho := Lib.hid ho
          clear ho hn hall
          go_wp2
          go_ret
          exact ⟨A, c, rfl, Ho.out, hb⟩
end Go.Proofs.YtkgpjohfkfbfhaaGreatDoor.Li
