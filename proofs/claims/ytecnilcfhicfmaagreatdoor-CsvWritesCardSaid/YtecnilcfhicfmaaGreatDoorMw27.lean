/- csv's row: the line that now means these. Conditions: as textOf's. · csv: what is wrong with a row behind others. Conditions: texts of ASCII bytes; each row ahead has a field. -/
import Derived.Test.YtecnilcfhicfmaaGreatDoorMw18
import Derived.Deep.RegionWith
import Derived.Deep.DeepFit
import Derived.Test.YtecnilcfhicfmaaGreatDoorMw17
import Derived.Outline
namespace Go.Proofs.YtecnilcfhicfmaaGreatDoor.Cv
open Go.RowKit Go.Proofs.YtecnilcfhicfmaaGreatDoor.Jd Go.Proofs.YtecnilcfhicfmaaGreatDoor.Li
set_option maxRecDepth 100000

/-- The line of a row that now means these. -/
def sayF (ms : List ByteArray) (r : Rw) : Ln := (Lib.join (fieldF ms r.fs) [44], r.en.data.toList)

set_option maxHeartbeats 4000000 in
theorem saying_any (ms : List ByteArray) (r : Rw) (A Aw : Option Addr) (n c nw cw : Nat) (w : World) (h : SeesV w w.heap.size A n (ms.map Value.string)) (hw : SeesL w w.heap.size Aw nw r.fs) (hle : nw ≤ n) (hn : n ≤ 100000) (hz : ∀ m ∈ ms, m.size ≤ 4000 ∧ Pl m) (hwz : ∀ x ∈ r.fs, x.1.length ≤ 4000) (hG : Gl w) :
    Calls Tryz.prog 28 #[.agg #[.slice Aw nw cw, .string r.en], .slice A n c] w fun e w' => e = .returned (.agg #[encs (sayF ms r).1, encs (sayF ms r).2]) ∧ Below w.heap.size w w' := by
  have HT := Lib.hid (fun (W : World) (hW : Below w.heap.size w W) => textOf_any ms r.fs A Aw n c nw cw W (seesV_more (h.below hW) hW.size) ((hw.below hW).more hW.size) hle hn hz hwz (hG.below hW))
  clear h hw hz hwz hG
  have he : encs (sayF ms r).2 = .string r.en := by simp [sayF, encs]
  have He := Lib.hid he
  clear he
  go_enter Tryz.func28, Tryz.ntmps28
  go_wp2_with fail
  have hq0 : Below w.heap.size w ((w.alloc (Obj.cells #[.slice Aw nw cw, .string r.en] 44)).alloc (Obj.cells #[.string ⟨#[]⟩, .string ⟨#[]⟩] 66)).drew := (((Below.refl _ _).alloc (Nat.le_refl _) _).alloc (by simp) _).drew
  have hg : ((w.alloc (Obj.cells #[.slice Aw nw cw, .string r.en] 44)).alloc (Obj.cells #[.string ⟨#[]⟩, .string ⟨#[]⟩] 66)).heap[w.heap.size]? = some (Obj.cells #[.slice Aw nw cw, .string r.en] 44) := (((Below.refl _ _).alloc (Nat.le_refl _) _).block w.heap.size (by simp)).trans (heap_alloc_new w _)
  have hr : ((w.alloc (Obj.cells #[.slice Aw nw cw, .string r.en] 44)).alloc (Obj.cells #[.string ⟨#[]⟩, .string ⟨#[]⟩] 66)).heap[w.heap.size + 1]? = some (Obj.cells #[.string ⟨#[]⟩, .string ⟨#[]⟩] 66) := by
    have := heap_alloc_new (w.alloc (Obj.cells #[.slice Aw nw cw, .string r.en] 44)) (Obj.cells #[.string ⟨#[]⟩, .string ⟨#[]⟩] 66)
    simpa using this
  have hs : ((w.alloc (Obj.cells #[.slice Aw nw cw, .string r.en] 44)).alloc (Obj.cells #[.string ⟨#[]⟩, .string ⟨#[]⟩] 66)).drew.heap.size = w.heap.size + 2 := by simp
  have HQ := Lib.hid hq0
  have HX := Lib.hid (fun (W : World) (hW : Below ((w.alloc (Obj.cells #[.slice Aw nw cw, .string r.en] 44)).alloc (Obj.cells #[.string ⟨#[]⟩, .string ⟨#[]⟩] 66)).drew.heap.size ((w.alloc (Obj.cells #[.slice Aw nw cw, .string r.en] 44)).alloc (Obj.cells #[.string ⟨#[]⟩, .string ⟨#[]⟩] 66)).drew W) =>
    And.intro ((hW.block w.heap.size (by omega)).trans hg) ((hW.block (w.heap.size + 1) (by omega)).trans hr))
  clear hg hr hs hq0
  go_region_with
    (first
    | (go_at_call 34; (with_reducible refine (HT.out _ HQ.out).mono ?_); rintro e v1 ⟨rfl, hb1⟩; have hx := HX.out _ hb1; go_must (have c0 := cell_of_row v1 w.heap.size 0 _ _ _ hx.1); go_must (have c1 := cell_of_row v1 w.heap.size 1 _ _ _ hx.1); go_must (have d0 := cell_of_row v1 (w.heap.size + 1) 0 _ _ _ hx.2); go_must (have z0 : v1.frozen? ⟨w.heap.size + 1, 0, none⟩ = false := by simp [World.frozen?, hx.2]); go_must (have d1 := cell_of_row v1 (w.heap.size + 1) 1 _ _ _ hx.2); go_must (have z1 : v1.frozen? ⟨w.heap.size + 1, 1, none⟩ = false := by simp [World.frozen?, hx.2])))
  all_goals
    have hx := HX.out _ hb1
    have hset : ((v1.setCell ⟨w.heap.size + 1, 0, none⟩ (.string ⟨(Lib.join (fieldF ms r.fs) [44]).toArray⟩)).setCell ⟨w.heap.size + 1, 1, none⟩ (.string r.en)).heap[w.heap.size + 1]? = some (Obj.cells #[.string ⟨(Lib.join (fieldF ms r.fs) [44]).toArray⟩, .string r.en] 66) := by
      rw [heap_setCell_same _ (w.heap.size + 1) 1 _ _ _ (heap_setCell_same v1 (w.heap.size + 1) 0 _ _ _ hx.2)]
      rfl
    have k0 := cell_of_row _ (w.heap.size + 1) 0 _ _ _ hset
    have k1 := cell_of_row _ (w.heap.size + 1) 1 _ _ _ hset
    have HB := Lib.hid (((HQ.out.trans (hb1.mono HQ.out.size)).setCell (p := ⟨w.heap.size + 1, 0, none⟩) (Nat.le_succ _) (.string ⟨(Lib.join (fieldF ms r.fs) [44]).toArray⟩)).setCell (p := ⟨w.heap.size + 1, 1, none⟩) (Nat.le_succ _) (.string r.en))
    clear hx hb1 hset
    go_wp2_with fail
    refine bodyPost_ret (v := .agg #[.string ⟨(Lib.join (fieldF ms r.fs) [44]).toArray⟩, .string r.en]) (by simp [results, Tryz.results28, go_sem, k0, k1]) rfl ?_
    exact ⟨by rw [He.out]; rfl, HB.out⟩
end Go.Proofs.YtecnilcfhicfmaaGreatDoor.Cv
namespace Go.Proofs.YtecnilcfhicfmaaGreatDoor.Cv
open Go.RowKit Go.Proofs.YtecnilcfhicfmaaGreatDoor.Jd Go.Proofs.YtecnilcfhicfmaaGreatDoor.Li
set_option maxRecDepth 100000

/-- What is wrong with a row behind these. -/
def faultF (ahead : List Rw) (r : Rw) : Int :=
  if r.fs = [] then 6 else
  match ahead with
  | [] => headF (mns r.fs)
  | h :: t => if r.fs.length ≠ h.fs.length then 6 else if nB (nm r) = false then 6 else if (mns r.fs).all vB = false then 6 else if (t.any fun x => (nm x).toList == (nm r).toList) = true then 7 else 0
theorem mns_len (ls : List Ln) : (mns ls).length = ls.length := by simp [mns]

set_option maxHeartbeats 4000000 in
/-- No fields; or the head. -/
theorem fault_head (r : Rw) (A Ar : Option Addr) (c nr cr : Nat) (w : World) (hr : SeesL w w.heap.size Ar nr r.fs) (hnr : nr ≤ 100000) (hp : ∀ z ∈ mns r.fs, Pl z) :
    Calls Tryz.prog 38 #[.slice A 0 c, .agg #[.slice Ar nr cr, .string r.en]] w fun e w' => e = .returned (.int .i64 (faultF [] r)) ∧ Below w.heap.size w w' := by
  have hl := hr.len
  have hb0 : Below w.heap.size w (w.alloc (Obj.cells #[.slice Ar nr cr, .string r.en] 44)) := (Below.refl _ _).alloc (Nat.le_refl _) _
  by_cases h0 : nr = 0
  · have HF : Hid (faultF [] r = 6) := Lib.hid (by rw [faultF, if_pos (List.eq_nil_of_length_eq_zero (by omega))])
    have HB0 := Lib.hid hb0
    subst h0
    clear hr hp hl hb0
    go_enter Tryz.func38, Tryz.ntmps38
    go_wp2_with fail
    go_ret
    exact ⟨by rw [HF.out]; rfl, HB0.out⟩
  · obtain ⟨x0, xl, hx0⟩ : ∃ x0 xl, r.fs = x0 :: xl := List.exists_cons_of_ne_nil (fun e => h0 (by rw [hl, e]; rfl))
    have HF : Hid (faultF [] r = headF (mns r.fs)) := Lib.hid (by rw [faultF, if_neg (by rw [hx0]; simp)])
    have HM := Lib.hid (means_any r.fs Ar nr cr w.heap.size r.en (w.alloc (Obj.cells #[.slice Ar nr cr, .string r.en] 44)) (hr.below hb0) hb0.size hnr)
    obtain ⟨m, ms, hms⟩ : ∃ m ms, mns r.fs = m :: ms := ⟨_, _, by rw [hx0]; rfl⟩
    have hq : ((nr : Int) == 0) = false := by rw [beq_eq_false_iff_ne]; omega
    have HH := Lib.hid (fun (W : World) (g : Nat) (hg : W.heap[g]? = some (.cells (meanV r.fs).toArray 9 (0, 0))) => by
      have hs := mn_sees (n := nr) hl hg
      rw [hms] at hs
      exact headFault_any m ms g 0 nr nr W.heap.size W hs (Nat.le_refl _) hnr (Nat.le_refl _) (Nat.le_trans hnr (by decide)) (fun z hz => hp z (by rw [hms]; exact List.mem_cons_of_mem _ hz)))
    rw [hms] at HF
    have HB0 := Lib.hid hb0
    clear hr hp hl hb0 h0 hx0 hms
    go_enter Tryz.func38, Tryz.ntmps38
    go_wp2_with fail
    (with_reducible refine HM.out.mono ?_)
    rintro e w1 ⟨g, rfl, hg, hgc, hb1⟩
    have HB1 := Lib.hid (HB0.out.trans (hb1.mono HB0.out.size))
    have HH2 := Lib.hid (HH.out w1 g hgc)
    clear hb1 hgc hg
    go_wp2_with fail
    (with_reducible refine HH2.out.mono ?_)
    rintro e w2 ⟨rfl, hb2⟩
    have HB2 := Lib.hid (HB1.out.trans (hb2.mono HB1.out.size))
    clear hb2
    go_wp2_with fail
    go_ret
    exact ⟨by rw [HF.out]; rfl, HB2.out⟩
end Go.Proofs.YtecnilcfhicfmaaGreatDoor.Cv
