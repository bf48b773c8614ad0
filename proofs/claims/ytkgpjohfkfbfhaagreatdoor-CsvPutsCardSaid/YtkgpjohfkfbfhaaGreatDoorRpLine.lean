/- The reference's line of csv: a row's text. Conditions: texts of at most 4000 bytes. -/
import Derived.Test.YtkgpjohfkfbfhaaGreatDoorRpLineM
namespace Go.Proofs.YtkgpjohfkfbfhaaGreatDoor.Cv
open Go.RowKit Go.Proofs.YtkgpjohfkfbfhaaGreatDoor.Jd Go.Proofs.YtkgpjohfkfbfhaaGreatDoor.Li Go.Proofs.YtkgpjohfkfbfhaaGreatDoor.Pt
set_option maxRecDepth 100000

set_option maxHeartbeats 8000000 in
theorem line_any (fs : List Ln) (name : ByteArray) (t : Tr) (cols : List ByteArray) (Ao A Ac : Option Addr) (no co n c nc cc : Nat) (w : World)
    (ho : SeesL w w.heap.size Ao no fs) (hname : ∀ y ys, fs = y :: ys → y.2 = name.data.toList) (hfs : no ≤ nc + 1) (hraw : ∀ x ∈ fs, x.1.length ≤ 4000) (hnz : name.size ≤ 4000)
    (h : Holds w w.heap.size A n t) (ha : t.Asc) (hf : allT fcB t = true) (hn : n ≤ 1000000)
    (hc : SeesV w w.heap.size Ac nc (cols.map Value.string)) (hnc : nc ≤ 90000) :
    Calls Tryz.prog 41 #[.slice Ao no co, .string name, .slice A n c, .slice Ac nc cc] w fun e w' => e = .returned (.string (mkB (lineF name cols t fs))) ∧ Below w.heap.size w w' := by
  obtain ⟨F, hF⟩ : ∃ F, F = fieldF (recF name cols t) fs := ⟨_, rfl⟩
  have hlc : nc = cols.length := by have := hc.len; rwa [List.length_map] at this
  have hlF : F.length = nc + 1 := by rw [hF, fieldF_len, recF, List.length_cons, List.length_map, hlc]
  have hlo := ho.len
  have HFg : Hid (∀ j m, (recF name cols t)[j]? = some m → F[j]? = some (fldF m fs[j]?)) := Lib.hid (fun j m hm => by rw [hF]; exact fieldF_get _ _ _ _ hm)
  have HFz : Hid (∀ k, k < nc → ∃ m, cols[k]? = some m ∧ (valF t m).size ≤ 4000 ∧ (recF name cols t)[k + 1]? = some (valF t m)) := Lib.hid (fun k hk => by
    obtain ⟨m, hm⟩ : ∃ m, cols[k]? = some m := ⟨cols[k]'(by omega), List.getElem?_eq_getElem (by omega)⟩
    refine ⟨m, hm, ?_, by rw [recF, List.getElem?_cons_succ, List.getElem?_map, hm]; rfl⟩
    obtain ⟨f1, f2⟩ := valF_is ha hf m
    cases hc : t.atIs m with
    | false => rw [f2 hc]; decide
    | true =>
      have := (f1 hc).2
      simp only [nB, vB, Bool.and_eq_true, decide_eq_true_eq] at this
      have := this.2.1
      omega)
  have hR : lineF name cols t fs = Lib.join (F.take (nc + 1)) [44] := by rw [lineF, ← hF, List.take_of_length_le (by omega)]
  have HR := Lib.hid hR
  have HCell := Lib.hid (fun (W : World) (col : ByteArray) (hW : Below w.heap.size w W) => cell_any t A n c col W ((h.below hW).more hW.size) ha hf hn)
  have HO := Lib.hid ho
  have HC := Lib.hid hc
  have HW0 := Lib.hid (written_any name w hnz)
  have HWr := Lib.hid (fun (W : World) (v : ByteArray) (hv : v.size ≤ 4000) => written_any v W hv)
  have Hraw := Lib.hid hraw
  have hF0 : F[0]? = some (fldF name fs[0]?) := HFg.out 0 name rfl
  have hj0 : Lib.join (F.take 1) [44] = fldF name fs[0]? := by
    cases F with
    | nil => simp at hF0
    | cons f r => rw [List.take_succ_cons, List.take_zero, Lib.join_one]; simpa using hF0
  have hz0 : (fldF name fs[0]?).length ≤ 12004 := fldF_len hnz fun x hx => hraw x (List.mem_of_getElem? hx)
  have hfirst : (¬ (0 : Int) < (no : Int) ∧ ¬ 0 < no ∧ fldF name fs[0]? = qF name.data.toList) ∨ ((0 : Int) < (no : Int) ∧ 0 < no ∧ ∃ b o r, Ao = some ⟨b, o, none⟩ ∧ w.cell? ⟨b, o, none⟩ = some (.string r) ∧ fldF name fs[0]? = r.data.toList) := by
    cases hfs2 : fs with
    | nil =>
      left
      refine ⟨by rw [hlo, hfs2]; simp, by rw [hlo, hfs2]; simp, rfl⟩
    | cons y ys =>
      right
      obtain ⟨b, o, hA, hb, h1, _⟩ := ho.at_ (j := 0) (x := y) (by rw [hfs2]; rfl)
      refine ⟨by rw [hlo, hfs2, List.length_cons]; omega, by rw [hlo, hfs2, List.length_cons]; omega, b, o, ⟨y.1.toArray⟩, hA, by have h3 := h1; simp only [Nat.zero_mul, Nat.add_zero] at h3; exact h3, ?_⟩
      have e := hname y ys hfs2
      simp only [List.getElem?_cons_zero, fldF]
      rw [if_pos (by rw [e]; have : (ByteArray.mk name.data.toList.toArray) = name := mkB_list name
                     rw [this]; simp)]
  rw [hR]
  clear hF hR h ha hf hc hraw ho hname hF0
  have HLc := Lib.hid hlc
  have HLo := Lib.hid hlo
  have HlF := Lib.hid hlF
  clear hlc hlo hlF
  rcases hfirst with ⟨hno, hnoN, hq⟩ | ⟨hno, hnoN, b0, o0, r0, rfl, hr0, hq⟩
  all_goals
    obtain ⟨x0, hx0⟩ : ∃ x, x = mkB (fldF name fs[0]?) := ⟨_, rfl⟩
    have HX0 : Hid (x0.data.toList = Lib.join (F.take 1) [44]) := Lib.hid (by rw [hx0, hj0]; rfl)
    have hx0z : x0.size ≤ 13000 := by rw [hx0]; show (fldF name fs[0]?).length ≤ _; omega
    rw [hq] at hx0
    first | (rw [← hx0] at HW0) | (have e0 : r0 = x0 := by rw [hx0]; exact (mkB_list r0).symm
                                   subst e0)
    clear hq hj0 hz0 hx0
    go_enter Tryz.func41, Tryz.ntmps41
    go_wp2_with fail
    (with_reducible refine HW0.out.mono ?_)
    rintro e w1 ⟨rfl, rfl⟩
    go_wp2_with fail
    go_loopw [9, 10] (fun sv i wr => ∃ (k : Nat) (x : ByteArray), k ≤ nc ∧ i = .int .i64 k ∧ sv = .string x ∧ x.size ≤ 13000 * (k + 1) ∧ Hid (x.data.toList = Lib.join (F.take (k + 1)) [44]) ∧ Hid (Below w.heap.size w wr)) (fun _ i _ => nc - (intOf i).toNat)
    case atStart => exact ⟨0, _, Nat.zero_le _, rfl, rfl, by omega, HX0, Lib.hid (Below.refl _ _)⟩
    case round =>
      obtain ⟨k, x, hk, rfl, rfl, hxz, HX, HW⟩ := hrel
      have hk0 : (0 : Int) ≤ (k : Int) := by omega
      have hk1 : (0 : Int) ≤ (k : Int) + 1 := by omega
      have hkw : IntKind.i64.wrap ((k : Int) + 1) = (k : Int) + 1 := IntWalk.i64_in _ (by omega)
      by_cases hlt : k < nc
      · have hkn : (k : Int) < (nc : Int) := by omega
        obtain ⟨m, hm, hvz, hrec⟩ := HFz.out k hlt
        obtain ⟨bc, oc, hAc, hbc, hcc⟩ := (HC.out.below HW.out).cell k (.string m) (by rw [List.getElem?_map, hm]; rfl)
        subst hAc
        have hFk := HFg.out _ _ hrec
        have HCe := Lib.hid (HCell.out wr m HW.out)
        obtain ⟨v, hv⟩ : ∃ v, v = valF t m := ⟨_, rfl⟩
        rw [← hv] at hvz hFk HCe
        have hjn := join_take hFk
        have hfz : (fldF v fs[k + 1]?).length ≤ 12004 := fldF_len hvz fun x hx => Hraw.out x (List.mem_of_getElem? hx)
        have hthree : (¬ (k : Int) + 1 < (no : Int) ∧ fldF v fs[k + 1]? = qF v.data.toList) ∨ ((k : Int) + 1 < (no : Int) ∧ ∃ y : Ln, fs[k + 1]? = some y) := by
          by_cases hkl : k + 1 < no
          · right
            exact ⟨by omega, fs[k + 1]'(by have := HLo.out; omega), List.getElem?_eq_getElem (by have := HLo.out; omega)⟩
          · left
            refine ⟨by omega, ?_⟩
            rw [List.getElem?_eq_none (by have := HLo.out; omega)]
            rfl
        have HWv := Lib.hid (HWr.out · v hvz)
        obtain ⟨g, hg⟩ : ∃ g, g = mkB (fldF v fs[k + 1]?) := ⟨_, rfl⟩
        have hgz : g.size ≤ 12004 := by rw [hg]; exact hfz
        have hgl : g.data.toList = fldF v fs[k + 1]? := by rw [hg]; rfl
        have hadd := fun W => run_string_add_sum (P := Tryz.prog) W x ⟨#[44]⟩ (by have : (ByteArray.mk #[44]).size = 1 := rfl; omega)
        obtain ⟨x1, hx1⟩ : ∃ z, z = x ++ ⟨#[44]⟩ := ⟨_, rfl⟩
        rw [← hx1] at hadd
        have hx1z : x1.size = x.size + 1 := by rw [hx1, ByteArray.size_append]; rfl
        have hadd2 := fun W => run_string_add_sum (P := Tryz.prog) W x1 g (by omega)
        obtain ⟨x2, hx2⟩ : ∃ z, z = x1 ++ g := ⟨_, rfl⟩
        rw [← hx2] at hadd2
        have hx2z : x2.size ≤ 13000 * (k + 1 + 1) := by rw [hx2, ByteArray.size_append]; omega
        have HX2 : Hid (x2.data.toList = Lib.join (F.take (k + 1 + 1)) [44]) := Lib.hid (by
          rw [hx2, app_list, hx1, app_list, HX.out, hgl, hjn])
        have Hlt := Lib.hid hlt
        have Hgl := Lib.hid hgl
        clear hm hrec hFk hv hjn hfz hx1 hx1z hx2 hgl HX hlt hvz
        rcases hthree with ⟨h1, h2⟩ | ⟨h1, y, hy⟩
        · rw [h2] at hg
          rw [← hg] at HWv
          clear hg h2
          go_wp2_with fail
          (with_reducible refine HCe.out.mono ?_)
          rintro e w2 ⟨rfl, hb2⟩
          have HW2 := Lib.hid (HW.out.trans (hb2.mono HW.out.size))
          clear hb2
          go_wp2_with fail
          (with_reducible refine (HWv.out _).mono ?_)
          rintro e w3 ⟨rfl, rfl⟩
          go_wp2_with fail
          go_roundw
          case rel => first | exact ⟨k + 1, Hlt.out, by go_num, hx2z, HX2⟩ | exact ⟨k + 1, x2, Hlt.out, by go_num, rfl, hx2z, HX2, HW2⟩ | exact ⟨k + 1, Hlt.out, by go_num, hx2z, HX2, HW2⟩
          case measure => have := Hlt.out; simp [intOf]; omega
        · first
          | (exfalso; omega)
          | (
            rw [hy] at hg
            have HOy := Lib.hid (fun (W : World) (hW : Below w.heap.size w W) => (HO.out.below hW).at_ hy)
            go_wp2_with fail
            (with_reducible refine HCe.out.mono ?_)
            rintro e w2 ⟨rfl, hb2⟩
            have HW2 := Lib.hid (HW.out.trans (hb2.mono HW.out.size))
            obtain ⟨bo, oo, hAo, hbo, hc1, hc2⟩ := HOy.out w2 HW2.out
            have hc1' : w2.cell? ⟨bo, oo + (k + 1) * 2, none⟩ = some (.string ⟨y.1.toArray⟩) := hc1
            have hc2' : w2.cell? ⟨bo, oo + (k + 1) * 2 + 1, none⟩ = some (.string ⟨y.2.toArray⟩) := hc2
            first | (injection hAo with hAo; injection hAo with hAo1 hAo2; subst hAo1; subst hAo2) | (cases hAo)
            have e3 : ((k : Int) + 1).toNat = k + 1 := by omega
            clear hb2 hc1 hc2
            go_wp2_with fail
            (with_reducible refine (HWv.out _).mono ?_)
            rintro e w3 ⟨rfl, rfl⟩
            obtain ⟨d, hd⟩ : ∃ d, d = ((ByteArray.mk y.2.toArray).toList == v.toList) := ⟨_, rfl⟩
            have hgf : fldF v (some y) = if d = true then y.1 else qF v.data.toList := by rw [hd]; rfl
            obtain ⟨yv, hyv⟩ : ∃ yv, yv = ByteArray.mk y.2.toArray := ⟨_, rfl⟩
            rw [← hyv] at hd hc2'
            have hd2 := hd.symm
            cases d with
            | true =>
              rw [if_pos rfl] at hgf
              have e1 : (⟨y.1.toArray⟩ : ByteArray) = g := by rw [hg, hgf]; rfl
              rw [e1] at hc1'
              clear hg hgf hd hyv e1
              go_wp2_with fail
              go_roundw
              case rel => first | exact ⟨k + 1, Hlt.out, by go_num, hx2z, HX2⟩ | exact ⟨k + 1, x2, Hlt.out, by go_num, rfl, hx2z, HX2, HW2⟩ | exact ⟨k + 1, Hlt.out, by go_num, hx2z, HX2, HW2⟩
              case measure => have := Hlt.out; simp [intOf]; omega
            | false =>
              rw [if_neg (by decide)] at hgf
              have e1 : mkB (qF v.data.toList) = g := by rw [hg, hgf]
              rw [e1]
              clear hg hgf hd hyv e1
              go_wp2_with fail
              go_roundw
              case rel => first | exact ⟨k + 1, Hlt.out, by go_num, hx2z, HX2⟩ | exact ⟨k + 1, x2, Hlt.out, by go_num, rfl, hx2z, HX2, HW2⟩ | exact ⟨k + 1, Hlt.out, by go_num, hx2z, HX2, HW2⟩
              case measure => have := Hlt.out; simp [intOf]; omega)
      · obtain rfl : k = nc := by omega
        have HXl : Hid (x = mkB (Lib.join (F.take (k + 1)) [44])) := Lib.hid (mkB_of HX.out)
        have hkn : ¬ (k : Int) < (k : Int) := by omega
        clear HX
        go_wp2_with fail
        go_ret
        exact ⟨by rw [HXl.out]; rfl, HW.out⟩
end Go.Proofs.YtkgpjohfkfbfhaaGreatDoor.Cv
