/- csv: what is wrong with a row behind others. Conditions: texts of ASCII bytes; each row ahead has a field. -/
import Derived.Test.YtlojjmmjmpffnaaGreatDoorCvRows
import Derived.Outline
namespace Go.Proofs.YtlojjmmjmpffnaaGreatDoor.Cv
open Go.RowKit Go.Proofs.YtlojjmmjmpffnaaGreatDoor.Jd Go.Proofs.YtlojjmmjmpffnaaGreatDoor.Li
set_option maxRecDepth 100000

/-- What is wrong with a row behind these. -/
def faultF (ahead : List Rw) (r : Rw) : Int :=
  if r.fs = [] then 6 else
  match ahead with
  | [] => headF (mns r.fs)
  | h :: t => if r.fs.length ≠ h.fs.length then 6 else if nB (nm r) = false then 6 else if (mns r.fs).all vB = false then 6 else if (t.any fun x => (nm x).toList == (nm r).toList) = true then 7 else 0
theorem mns_len (ls : List Ln) : (mns ls).length = ls.length := by simp [mns]

set_option maxHeartbeats 4000000 in
/-- No fields; or the head. -/
theorem fault_head (r : Rw) (A Ar : Option Addr) (c nr cr : Nat) (w : World) (hr : SeesL w w.heap.size Ar nr r.fs) (hnr : nr ≤ 100000) (hp : ∀ z ∈ mns r.fs, Pl z) :
    Calls Tryz.prog 38 #[.slice A 0 c, .agg #[.slice Ar nr cr, .string r.en]] w fun e w' => e = .returned (.int .i64 (faultF [] r)) ∧ Below w.heap.size w w' := by
  have hl := hr.len
  have hb0 : Below w.heap.size w (w.alloc (Obj.cells #[.slice Ar nr cr, .string r.en] 48)) := (Below.refl _ _).alloc (Nat.le_refl _) _
  by_cases h0 : nr = 0
  · have HF : Hid (faultF [] r = 6) := Lib.hid (by rw [faultF, if_pos (List.eq_nil_of_length_eq_zero (by omega))])
    have HB0 := Lib.hid hb0
    subst h0
    clear hr hp hl hb0
    go_enter Tryz.func38, Tryz.ntmps38
    go_wp2_with fail
    go_ret
    exact ⟨by rw [HF.out]; rfl, HB0.out⟩
  · obtain ⟨x0, xl, hx0⟩ : ∃ x0 xl, r.fs = x0 :: xl := List.exists_cons_of_ne_nil (fun e => h0 (by rw [hl, e]; rfl))
    have HF : Hid (faultF [] r = headF (mns r.fs)) := Lib.hid (by rw [faultF, if_neg (by rw [hx0]; simp)])
    have HM := Lib.hid (means_any r.fs Ar nr cr w.heap.size r.en (w.alloc (Obj.cells #[.slice Ar nr cr, .string r.en] 48)) (hr.below hb0) hb0.size hnr)
    obtain ⟨m, ms, hms⟩ : ∃ m ms, mns r.fs = m :: ms := ⟨_, _, by rw [hx0]; rfl⟩
    have hq : ((nr : Int) == 0) = false := by rw [beq_eq_false_iff_ne]; omega
    have HH := Lib.hid (fun (W : World) (g : Nat) (hg : W.heap[g]? = some (.cells (meanV r.fs).toArray 9 (0, 0))) => by
      have hs := mn_sees (n := nr) hl hg
      rw [hms] at hs
      exact headFault_any m ms g 0 nr nr W.heap.size W hs (Nat.le_refl _) hnr (Nat.le_refl _) (Nat.le_trans hnr (by decide)) (fun z hz => hp z (by rw [hms]; exact List.mem_cons_of_mem _ hz)))
    rw [hms] at HF
    have HB0 := Lib.hid hb0
    clear hr hp hl hb0 h0 hx0 hms
    go_enter Tryz.func38, Tryz.ntmps38
    go_wp2_with fail
    (with_reducible refine HM.out.mono ?_)
    rintro e w1 ⟨g, rfl, hg, hgc, hb1⟩
    have HB1 := Lib.hid (HB0.out.trans (hb1.mono HB0.out.size))
    have HH2 := Lib.hid (HH.out w1 g hgc)
    clear hb1 hgc hg
    go_wp2_with fail
    (with_reducible refine HH2.out.mono ?_)
    rintro e w2 ⟨rfl, hb2⟩
    have HB2 := Lib.hid (HB1.out.trans (hb2.mono HB1.out.size))
    clear hb2
    go_wp2_with fail
    go_ret
    exact ⟨by rw [HF.out]; rfl, HB2.out⟩
end Go.Proofs.YtlojjmmjmpffnaaGreatDoor.Cv
