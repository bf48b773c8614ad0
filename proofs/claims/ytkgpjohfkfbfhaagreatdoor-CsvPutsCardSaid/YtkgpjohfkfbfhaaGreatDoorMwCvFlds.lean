/- csv's fields of a line. Conditions: at most 4000 bytes; MaxLen's cell. · csv's rows: what their fields mean; names; all of texts; the head. Conditions: texts of ASCII bytes where it is asked what they may be. · csv's head: all of a row of texts; what is wrong with a head. Conditions: texts of ASCII bytes. · csv's rows in memory; is a row's name there already. Conditions: each row has a field. · csv: what is wrong with a row behind others. Conditions: texts of ASCII bytes; each row ahead has a field. -/
import Derived.Test.YtkgpjohfkfbfhaaGreatDoorMwCvField
import Derived.Outline
import Derived.Test.YtkgpjohfkfbfhaaGreatDoorMwJudge
import Derived.Deep.RegionHeld3
namespace Go.Proofs.YtkgpjohfkfbfhaaGreatDoor.Cv
open Go.RowKit Go.Proofs.YtkgpjohfkfbfhaaGreatDoor.Jd Go.Proofs.YtkgpjohfkfbfhaaGreatDoor.Li
set_option maxRecDepth 100000

/-- The fields: what is written, what it means. -/
def flds : Nat → Bs → Option (List Ln)
  | 0, _ => none
  | F + 1, l =>
    if (unq (l.take (wid false l))).2 = false then none else
    if wid false l = l.length then some [(l.take (wid false l), (unq (l.take (wid false l))).1)] else
    (flds F (l.drop (wid false l + 1))).map (fun r => (l.take (wid false l), (unq (l.take (wid false l))).1) :: r)
def fldsL (l : Bs) : List Ln := (flds (l.length + 1) l).getD []
theorem elem_field : Elem Tryz.prog 73 147 (.agg #[.string ⟨#[]⟩, .string ⟨#[]⟩]) 2 32 := ⟨Tryz.underlying73, by kernel_rfl, rfl, by omega⟩
theorem src_field (W : World) (a b : ByteArray) (g : Nat) (hg : g = W.heap.size) : Src Tryz.prog 2 73 (.slice (some ⟨g, 0, none⟩) 1 1) 1 [.string a, .string b] (W.alloc (Obj.cells #[.string a, .string b] 147)) := by
  subst hg
  refine Src.ofSlice _ Tryz.underlying73 ⟨W.heap.size, 0, none⟩ 1 1 [.string a, .string b] rfl (fun j u hu => ?_) (by intro u hu; simp at hu; rcases hu with rfl | rfl <;> rfl)
  rw [Addr.add_lit, cell_of_row _ _ _ _ _ _ (heap_alloc_new W _), ← hu, Nat.zero_add]
  simp
/-- A row of fields of the call's own. -/
abbrev OwnF (w : World) (base : Nat) (A : Option Addr) (n c : Nat) (ls : List Ln) : Prop := w.ownsRow base 147 2 (.slice A n c) n (lcells ls)
theorem OwnF.below {w w' : World} {base n c : Nat} {A : Option Addr} {ls : List Ln} (h : OwnF w base A n c ls) (hb : Below w.heap.size w w') : OwnF w' base A n c ls :=
  World.ownsRow.kept h (row := none) ⟨hb.os, hb.tape, hb.output, hb.size, fun i hi _ => hb.block i hi⟩ (by cases hv : (Value.slice A n c).ownBlock <;> simp)
theorem OwnF.sees {w : World} {base n c : Nat} {A : Option Addr} {ls : List Ln} (h : OwnF w base A n c ls) : SeesL w w.heap.size A n ls := by
  have h1 := h.1
  rw [lcells_length] at h1
  have hn : n = ls.length := by omega
  rcases own_form h with ⟨rfl, rfl, hl⟩ | ⟨g, rfl, hg, hgl, _, _, hc⟩
  · have : ls = [] := List.eq_nil_of_length_eq_zero (by omega)
    subst this
    exact SeesL.nil _ _ _
  · exact ⟨hn, fun j u hu => ⟨g, 0, rfl, hgl, hc j u hu⟩⟩
theorem OwnF.len {w : World} {base n c : Nat} {A : Option Addr} {ls : List Ln} (h : OwnF w base A n c ls) : n = ls.length := h.sees.len
theorem ext_take (b : ByteArray) (k : Nat) : (b.extract 0 k).data.toList = b.data.toList.take k := by
  simp [ByteArray.data_extract]
theorem ext_drop (b : ByteArray) (k : Nat) : (b.extract k b.size).data.toList = b.data.toList.drop k := by
  have hs : b.size = b.data.toList.length := rfl
  rw [ByteArray.data_extract, Array.toList_extract, List.extract_eq_take_drop, List.take_of_length_le (by rw [List.length_drop]; omega)]
theorem flds_fuel : ∀ (F : Nat) (l : Bs), l.length < F → flds F l = flds (l.length + 1) l := by
  intro F
  induction F using Nat.strongRecOn with
  | _ F ih =>
    intro l hl
    obtain ⟨G, rfl⟩ : ∃ G, F = G + 1 := ⟨F - 1, by omega⟩
    rw [flds, flds]
    by_cases h1 : (unq (l.take (wid false l))).2 = false
    · rw [if_pos h1, if_pos h1]
    · rw [if_neg h1, if_neg h1]
      by_cases h2 : wid false l = l.length
      · rw [if_pos h2, if_pos h2]
      · rw [if_neg h2, if_neg h2]
        have hw := wid_le l false
        have hd : (l.drop (wid false l + 1)).length < l.length := by rw [List.length_drop]; omega
        have e : flds G (l.drop (wid false l + 1)) = flds l.length (l.drop (wid false l + 1)) := by
          rw [ih G (by omega) _ (by omega)]
          exact (ih l.length (by omega) _ hd).symm
        rw [e]
/-- The length of a text. -/
def tlen : Value → Nat
  | .string b => b.size
  | _ => 0
/-- What is answered. -/
def FoP (w : World) (ls : List Ln) (en : Ending) (w' : World) : Prop := ∃ A c, en = .returned (.slice A ls.length c) ∧ OwnF w' w.heap.size A ls.length c ls ∧ Below w.heap.size w w'

set_option maxHeartbeats 4000000 in
theorem fields_any (s : ByteArray) (w : World) (hz : s.size ≤ 4000) (hG : Gl w) : Calls Tryz.prog 82 #[.string s] w (FoP w (fldsL s.data.toList)) := by
  obtain ⟨R, hR⟩ : ∃ R, R = flds (s.data.toList.length + 1) s.data.toList := ⟨_, rfl⟩
  have hL : fldsL s.data.toList = R.getD [] := by rw [hR]; rfl
  rw [hL]
  have HG := Lib.hid hG
  have HR := Lib.hid hR
  clear hR hL hG
  go_enter Tryz.func82, Tryz.ntmps82
  go_wp2_with fail
  go_loopw [0, 3] (fun t a wr => ∃ (b : ByteArray) (k c : Nat) (A : Option Addr) (acc : List Ln), t = .string b ∧ a = .slice A k c ∧ k + b.size ≤ s.size ∧ Hid (OwnF wr w.heap.size A k c acc) ∧ Hid (Below w.heap.size w wr) ∧ Hid (R = (flds (b.data.toList.length + 1) b.data.toList).map (acc ++ ·))) (fun t _ _ => tlen t)
  case atStart => exact ⟨s, 0, 0, none, [], rfl, rfl, by omega, Lib.hid (World.ownsRow_nil w _ _ _), Lib.hid (Below.refl _ _), Lib.hid (by rw [HR.out]; simp)⟩
  case round =>
    obtain ⟨b, k, c, A, acc, rfl, rfl, hkb, HO, HW, HF⟩ := hrel
    obtain ⟨q, hq⟩ : ∃ q, q = wid false b.data.toList := ⟨_, rfl⟩
    have hql : q ≤ b.size := by rw [hq]; exact wid_le _ _
    have hWd := width_any b wr (by omega)
    rw [← hq] at hWd
    obtain ⟨fx, hfx⟩ : ∃ x, x = b.extract 0 q := ⟨_, rfl⟩
    have hfd : fx.data.toList = b.data.toList.take q := by rw [hfx]; exact ext_take b q
    have hfs : fx.size ≤ 4000 := by
      have e : fx.size = fx.data.toList.length := rfl
      rw [e, hfd, List.length_take]
      have e2 : b.size = b.data.toList.length := rfl
      omega
    have hU := unquoted_any fx wr hfs (HG.out.below HW.out)
    obtain ⟨mx, hmx⟩ : ∃ x : ByteArray, x = ⟨(unq fx.data.toList).1.toArray⟩ := ⟨_, rfl⟩
    obtain ⟨v, hv⟩ : ∃ v, v = (unq fx.data.toList).2 := ⟨_, rfl⟩
    rw [← hmx, ← hv] at hU
    have hmd : mx.data.toList = (unq fx.data.toList).1 := by rw [hmx]
    have hrel := HF.out
    rw [flds, ← hq, ← hfd, ← hv] at hrel
    have HWd := Lib.hid hWd
    have HU := Lib.hid hU
    have Hmd := Lib.hid hmd
    have Hfd := Lib.hid hfd
    have hq0 : (0 : Int) ≤ (q : Int) := by omega
    have hqb : (q : Int) ≤ (b.size : Int) := by omega
    have hqx : Hid (b.extract 0 q = fx) := Lib.hid hfx.symm
    have hx2 := hfx.symm
    cases v with
    | false =>
      rw [if_pos rfl] at hrel
      have HR2 := Lib.hid hrel
      clear hWd hU hmd hfd hrel HF hq hv hmx hfx hfs
      go_wp2_with fail
      (with_reducible refine HWd.out.mono ?_)
      rintro e w2 ⟨rfl, rfl⟩
      go_wp2_with fail
      (with_reducible refine HU.out.mono ?_)
      rintro e w3 ⟨rfl, hb3⟩
      have HB := Lib.hid (HW.out.trans (hb3.mono HW.out.size))
      clear hb3
      go_wp2_with fail
      first
        | go_ret
        | (rw [Exit.noGoto_ret]; go_ret)
      exact ⟨none, 0, by rw [HR2.out]; rfl, by rw [HR2.out]; exact World.ownsRow_nil _ _ _ _, HB.out⟩
    | true =>
      rw [if_neg (by simp)] at hrel
      have hk1 : k + 1 ≤ 1099511627776 := by omega
      by_cases hqe : q = b.size
      · have hqe2 : q = b.data.toList.length := hqe
        rw [if_pos hqe2] at hrel
        have HR2 := Lib.hid hrel
        have hqi : ((q : Int) == (b.size : Int)) = true := by simp; omega
        clear hWd hU hmd hfd hrel HF hq hv hmx hfx hfs hqe hqe2
        go_wp2_with fail
        (with_reducible refine HWd.out.mono ?_)
        rintro e w2 ⟨rfl, rfl⟩
        go_wp2_with fail
        (with_reducible refine HU.out.mono ?_)
        rintro e w3 ⟨rfl, hb3⟩
        have hz3 := (HW.out.trans (hb3.mono HW.out.size)).size
        have HB := Lib.hid (HW.out.trans (hb3.mono HW.out.size))
        have HO3 := Lib.hid (HO.out.below hb3)
        clear hb3
        go_wp2_with (at_builtin; refine wpList_append_row rfl (.tmp 18) (.tmp 24) _ _ rfl elem_field rfl rfl (HO3.out.alloc _) (src_field _ fx mx _ rfl) hk1 (by simp; omega) ?_; intro A4 c4 w4 ho4 hg4 hat4)
        have hP : OwnF w4 w.heap.size A4 (k + 1) c4 (acc ++ [(fx.data.toList, mx.data.toList)]) := by
          have e : lcells (acc ++ [(fx.data.toList, mx.data.toList)]) = lcells acc ++ [.string fx, .string mx] := by rw [lcells_append]; rfl
          show w4.ownsRow _ _ _ _ _ (lcells _)
          rw [e]
          exact ho4
        have HP := Lib.hid hP
        have HR3 : Hid (R.getD [] = acc ++ [(fx.data.toList, mx.data.toList)]) := Lib.hid (by rw [HR2.out, Hmd.out]; rfl)
        have HB4 : Hid (Below w.heap.size w w4) := Lib.hid ((HB.out.alloc hz3 _).grown hg4 (by simp; omega) (fun q hq => (HO3.out.lt q hq).1))
        have Hk : Hid (k + 1 = (acc ++ [(fx.data.toList, mx.data.toList)]).length) := Lib.hid hP.len
        clear hP ho4 hg4 hat4 HO3 HB HR2
        go_wp2_with fail
        first
          | go_ret
          | (rw [Exit.noGoto_ret]; go_ret)
        exact ⟨A4, c4, by rw [HR3.out, ← Hk.out]; rfl, by rw [HR3.out, ← Hk.out]; exact HP.out, HB4.out⟩
      · have hqe2 : ¬ q = b.data.toList.length := hqe
        rw [if_neg hqe2] at hrel
        obtain ⟨b2, hb2⟩ : ∃ x, x = b.extract (q + 1) b.size := ⟨_, rfl⟩
        have hbd : b2.data.toList = b.data.toList.drop (q + 1) := by rw [hb2]; exact ext_drop b (q + 1)
        have hbl : b.size = b.data.toList.length := rfl
        have hb2l : b2.size = b2.data.toList.length := rfl
        have hbs : b2.size + (q + 1) = b.size := by rw [hb2l, hbd, List.length_drop]; omega
        rw [← hbd, flds_fuel _ b2.data.toList (by omega)] at hrel
        have HR2 := Lib.hid hrel
        have hqi : ((q : Int) == (b.size : Int)) = false := by rw [beq_eq_false_iff_ne]; omega
        have hq1 : IntKind.i64.wrap ((q : Int) + 1) = (q : Int) + 1 := IntWalk.i64_in _ (by omega)
        have hqb1 : (q : Int) + 1 ≤ (b.size : Int) := by omega
        have hqb2 : (0 : Int) ≤ (q : Int) + 1 := by omega
        have hqn : ((q : Int) + 1).toNat = q + 1 := by omega
        have hx3 := hb2.symm
        have Hbs := Lib.hid hbs
        clear hWd hU hmd hfd hrel HF hq hv hmx hfx hfs hqe hqe2 hb2 hbd hbl hb2l hbs
        go_wp2_with fail
        (with_reducible refine HWd.out.mono ?_)
        rintro e w2 ⟨rfl, rfl⟩
        go_wp2_with fail
        (with_reducible refine HU.out.mono ?_)
        rintro e w3 ⟨rfl, hb3⟩
        have hz3 := (HW.out.trans (hb3.mono HW.out.size)).size
        have HB := Lib.hid (HW.out.trans (hb3.mono HW.out.size))
        have HO3 := Lib.hid (HO.out.below hb3)
        clear hb3
        go_wp2_with (at_builtin; refine wpList_append_row rfl (.tmp 18) (.tmp 24) _ _ rfl elem_field rfl rfl (HO3.out.alloc _) (src_field _ fx mx _ rfl) hk1 (by simp; omega) ?_; intro A4 c4 w4 ho4 hg4 hat4)
        have hP : OwnF w4 w.heap.size A4 (k + 1) c4 (acc ++ [(fx.data.toList, mx.data.toList)]) := by
          have e : lcells (acc ++ [(fx.data.toList, mx.data.toList)]) = lcells acc ++ [.string fx, .string mx] := by rw [lcells_append]; rfl
          show w4.ownsRow _ _ _ _ _ (lcells _)
          rw [e]
          exact ho4
        have HP := Lib.hid hP
        have HR3 : Hid (R = (flds (b2.data.toList.length + 1) b2.data.toList).map ((acc ++ [(fx.data.toList, mx.data.toList)]) ++ ·)) := Lib.hid (by
          rw [HR2.out, Hmd.out]
          cases flds (b2.data.toList.length + 1) b2.data.toList with
          | none => rfl
          | some r => simp)
        have HB4 : Hid (Below w.heap.size w w4) := Lib.hid ((HB.out.alloc hz3 _).grown hg4 (by simp; omega) (fun q hq => (HO3.out.lt q hq).1))
        clear hP ho4 hg4 hat4 HO3 HB HR2
        go_wp2_with fail
        go_roundw
        case rel => exact ⟨b2, k + 1, c4, A4, _, by first | rfl | (rw [← hx3]; rfl), rfl, by have := Hbs.out; omega, HP, HB4, HR3⟩
        case measure => have := Hbs.out; first | (simp [tlen]; omega) | (rw [hx3]; simp [tlen]; omega)
end Go.Proofs.YtkgpjohfkfbfhaaGreatDoor.Cv
namespace Go.Proofs.YtkgpjohfkfbfhaaGreatDoor.Cv
open Go.RowKit Go.Proofs.YtkgpjohfkfbfhaaGreatDoor.Jd Go.Proofs.YtkgpjohfkfbfhaaGreatDoor.Li
set_option maxRecDepth 100000

set_option maxHeartbeats 1000000 in
theorem meaning_any (a b : ByteArray) (w : World) : Calls Tryz.prog 124 #[.agg #[.string a, .string b]] w fun e w' => e = .returned (.string b) ∧ Below w.heap.size w w' := by
  have hb0 : Below w.heap.size w (w.alloc (Obj.cells #[.string a, .string b] 147)) := (Below.refl _ _).alloc (Nat.le_refl _) _
  go_enter Tryz.func124, Tryz.ntmps124
  go_wp2_with fail
  go_ret
  exact ⟨rfl, hb0⟩
def meanV (ls : List Ln) : List Value := ls.map fun x => encs x.2
/-- So many of a row of texts are made. -/
def part (ls : List Ln) (n k : Nat) : Array Value := (meanV (ls.take k) ++ List.replicate (n - k) (Value.string ⟨#[]⟩)).toArray
theorem part_zero (ls : List Ln) (n : Nat) : madeCells #[Value.string ⟨#[]⟩] n = part ls n 0 := by
  apply Array.ext
  · simp [madeCells, part, meanV]
  · intro i h1 h2
    simp [madeCells, part, meanV, Nat.mod_one]
theorem part_set {ls : List Ln} {n k : Nat} {x : Ln} (hn : n = ls.length) (h : ls[k]? = some x) : (part ls n k).setIfInBounds k (encs x.2) = part ls n (k + 1) := by
  have hk : k < ls.length := (List.getElem?_eq_some_iff.1 h).1
  unfold part meanV
  rw [List.setIfInBounds_toArray]
  congr 1
  rw [List.take_add_one, h]
  obtain ⟨j, hj⟩ : ∃ j, n - k = j + 1 := ⟨n - k - 1, by omega⟩
  rw [hj, show n - (k + 1) = j by omega, List.replicate_succ]
  have hl : ((ls.take k).map fun x => encs x.2).length = k := by rw [List.length_map, List.length_take]; omega
  rw [List.set_append_right _ _ (by omega), hl, Nat.sub_self]
  simp
theorem part_all {ls : List Ln} {n : Nat} (hn : n = ls.length) : part ls n n = (meanV ls).toArray := by
  unfold part
  rw [hn, List.take_length, Nat.sub_self]
  simp
/-- A new row of what they mean. -/
def MnP (w : World) (ls : List Ln) (n : Nat) (en : Ending) (w' : World) : Prop := ∃ g, en = .returned (.slice (some ⟨g, 0, none⟩) n n) ∧ w.heap.size ≤ g ∧ w'.heap[g]? = some (.cells (meanV ls).toArray 9 (0, 0)) ∧ Below w.heap.size w w'

set_option maxHeartbeats 4000000 in
theorem eachM_any (ls : List Ln) (A : Option Addr) (n c B : Nat) (w : World) (h : SeesL w B A n ls) (hB : B ≤ w.heap.size) (hn : n ≤ 100000) : Calls Tryz.prog 123 #[.slice A n c, .func (.func 124) #[] #[]] w (MnP w ls n) := by
  obtain ⟨i0, hi, hz0, hz1, hz2⟩ := info_parts elem_str.info
  have hmk := fun W : World => run_make_row' (P := Tryz.prog) 36 9 (.string ⟨#[]⟩) 16 Tryz.underlying36 elem_str.info rfl .i64 .i64 n (by omega) (by omega) W
  rw [part_zero ls n] at hmk
  have Hl := Lib.hid h.len
  have HH := Lib.hid h
  clear h hi hz0 hz1 hz2
  go_enter Tryz.func123, Tryz.ntmps123
  go_wp2_with fail
  go_loopw [13] (fun i wr => ∃ (k : Nat), k ≤ n ∧ i = .int .i64 k ∧ Hid (wr.heap[w.heap.size]? = some (.cells (part ls n k) 9 (0, 0))) ∧ Hid (Below w.heap.size w wr)) (fun i _ => n - (intOf i).toNat)
  case atStart => exact ⟨0, Nat.zero_le _, rfl, Lib.hid (heap_alloc_new w _), Lib.hid ((Below.refl _ _).alloc (Nat.le_refl _) _)⟩
  case round =>
    obtain ⟨k, hk, rfl, HG, HW⟩ := hrel
    by_cases hlt : k < n
    · have hkl : k < ls.length := by have := Hl.out; omega
      obtain ⟨x, hx⟩ : ∃ x, ls[k]? = some x := ⟨_, List.getElem?_eq_getElem hkl⟩
      obtain ⟨b, o, rfl, hbl, hc1, hc2⟩ := (HH.out.below (HW.out.mono hB)).at_ hx
      obtain ⟨x1, hx1⟩ : ∃ x1 : ByteArray, encs x.1 = .string x1 := ⟨_, rfl⟩
      obtain ⟨x2, hx2⟩ : ∃ x2 : ByteArray, encs x.2 = .string x2 := ⟨_, rfl⟩
      rw [hx1] at hc1
      rw [hx2] at hc2
      have hps := part_set Hl.out hx
      rw [hx2] at hps
      have hkn : (k : Int) < (n : Int) := by omega
      have hk0 : (0 : Int) ≤ (k : Int) := by omega
      have hgl := (Array.getElem?_eq_some_iff.1 HG.out).1
      have hb1 : Below wr.heap.size wr (wr.alloc (Obj.cells #[.string x1, .string x2] 147)) := (Below.refl _ _).alloc (Nat.le_refl _) _
      have HM := Lib.hid (meaning_any x1 x2 (wr.alloc (Obj.cells #[.string x1, .string x2] 147)))
      have Hlt := Lib.hid hlt
      have HPs := Lib.hid hps
      have Hb1 := Lib.hid hb1
      clear hkl hx hx1 hx2 hlt hps hb1
      go_wp2_with fail
      (with_reducible refine HM.out.mono ?_)
      rintro e w2 ⟨rfl, hb2⟩
      have hb12 : Below wr.heap.size wr w2 := Hb1.out.trans (hb2.mono (by simp))
      have hg2 : w2.heap[w.heap.size]? = some (.cells (part ls n k) 9 (0, 0)) := (hb12.block _ hgl).trans HG.out
      have hsz : k < (part ls n k).size := by
        unfold part meanV
        simp only [List.size_toArray, List.length_append, List.length_map, List.length_take, List.length_replicate]
        have := Hl.out
        have := Hlt.out
        omega
      have hcg : w2.cell? ⟨w.heap.size, k, none⟩ = some ((part ls n k)[k]'hsz) := by
        rw [cell_of_row _ _ _ _ _ _ hg2]
        exact Array.getElem?_eq_getElem hsz
      obtain ⟨y, hy⟩ : ∃ y, y = (part ls n k)[k]'hsz := ⟨_, rfl⟩
      rw [← hy] at hcg
      have hfg : w2.frozen? ⟨w.heap.size, k, none⟩ = false := by simp [World.frozen?, hg2]
      have hg3 : (w2.setCell ⟨w.heap.size, k, none⟩ (.string x2)).heap[w.heap.size]? = some (.cells (part ls n (k + 1)) 9 (0, 0)) := by
        rw [heap_setCell_same w2 _ k _ _ _ hg2, HPs.out]
      have HG3 := Lib.hid hg3
      have HB3 := Lib.hid (((HW.out.trans (hb12.mono HW.out.size)).setCell (p := ⟨w.heap.size, k, none⟩) (Nat.le_refl _) (.string x2)))
      clear hb2 hb12 hg2 hsz hy hg3
      go_wp2_with fail
      go_roundw
      case rel => exact ⟨k + 1, Hlt.out, by go_num, HG3, HB3⟩
      case measure => have := Hlt.out; simp [intOf]; omega
    · obtain rfl : k = n := by omega
      have hg := HG.out
      rw [part_all Hl.out] at hg
      have HG2 := Lib.hid hg
      clear hlt hg HG
      go_wp2_with fail
      go_ret
      exact ⟨w.heap.size, rfl, Nat.le_refl _, HG2.out, HW.out⟩

set_option maxHeartbeats 1000000 in
theorem means_any (ls : List Ln) (A : Option Addr) (n c B : Nat) (en : ByteArray) (w : World) (h : SeesL w B A n ls) (hB : B ≤ w.heap.size) (hn : n ≤ 100000) : Calls Tryz.prog 88 #[.agg #[.slice A n c, .string en]] w (MnP w ls n) := by
  have hb0 : Below w.heap.size w (w.alloc (Obj.cells #[.slice A n c, .string en] 75)) := (Below.refl _ _).alloc (Nat.le_refl _) _
  have HE := Lib.hid (eachM_any ls A n c B (w.alloc (Obj.cells #[.slice A n c, .string en] 75)) (h.below (hb0.mono hB)) (Nat.le_trans hB hb0.size) hn)
  have HB0 := Lib.hid hb0
  clear h hb0
  go_enter Tryz.func88, Tryz.ntmps88
  go_wp2_with fail
  (with_reducible refine HE.out.mono ?_)
  rintro e w1 ⟨g, rfl, hg, hgc, hb1⟩
  have hb2 := HB0.out.trans (hb1.mono HB0.out.size)
  go_wp2_with fail
  go_ret
  exact ⟨g, rfl, Nat.le_trans HB0.out.size hg, hgc, hb2⟩
set_option maxHeartbeats 1000000 in
theorem rname_any (x : Ln) (ls : List Ln) (A : Option Addr) (n c B : Nat) (en nm : ByteArray) (w : World) (h : SeesL w B A n (x :: ls)) (hB : B ≤ w.heap.size) (hx : encs x.2 = .string nm) : Calls Tryz.prog 65 #[.agg #[.slice A n c, .string en]] w fun e w' => e = .returned (.string nm) ∧ Below w.heap.size w w' := by
  have hb0 : Below w.heap.size w (w.alloc (Obj.cells #[.slice A n c, .string en] 75)) := (Below.refl _ _).alloc (Nat.le_refl _) _
  obtain ⟨b, o, rfl, hbl, hc1, hc2⟩ := (h.below (hb0.mono hB)).at_ (j := 0) (x := x) rfl
  rw [hx, Nat.zero_mul, Nat.add_zero] at hc2
  have hn1 : (0 : Int) < (n : Int) := by have := h.len; simp at this; omega
  clear h hx hc1
  go_enter Tryz.func65, Tryz.ntmps65
  go_wp2_with fail
  go_ret
  exact ⟨rfl, hb0⟩
end Go.Proofs.YtkgpjohfkfbfhaaGreatDoor.Cv
namespace Go.Proofs.YtkgpjohfkfbfhaaGreatDoor.Cv
open Go.RowKit Go.Proofs.YtkgpjohfkfbfhaaGreatDoor.Jd Go.Proofs.YtkgpjohfkfbfhaaGreatDoor.Li
set_option maxRecDepth 100000

/-- Texts of fields: what they mean. -/
def mns (ls : List Ln) : List ByteArray := ls.map fun x => ⟨x.2.toArray⟩
theorem mean_strs (ls : List Ln) : meanV ls = (mns ls).map Value.string := by simp [meanV, mns, encs]
theorem mn_sees {w : World} {g n : Nat} {ls : List Ln} (hn : n = ls.length) (h : w.heap[g]? = some (.cells (meanV ls).toArray 9 (0, 0))) : SeesV w w.heap.size (some ⟨g, 0, none⟩) n ((mns ls).map Value.string) := by
  rw [← mean_strs]
  refine ⟨by simp [meanV]; omega, fun j u hu => ⟨g, 0, rfl, (Array.getElem?_eq_some_iff.1 h).1, ?_⟩⟩
  rw [cell_of_row _ _ _ _ _ _ h, Nat.zero_add]
  simpa using hu
theorem strs_at {w : World} {B n k : Nat} {A : Option Addr} {zs : List ByteArray} (h : SeesV w B A n (zs.map Value.string)) (hk : k < n) : ∃ b o z, A = some ⟨b, o, none⟩ ∧ b < B ∧ zs[k]? = some z ∧ w.cell? ⟨b, o + k, none⟩ = some (.string z) := by
  have hl := h.len
  rw [List.length_map] at hl
  obtain ⟨z, hz⟩ : ∃ z, zs[k]? = some z := ⟨_, List.getElem?_eq_getElem (by omega)⟩
  obtain ⟨b, o, ha, hb, hc⟩ := h.cell k (.string z) (by rw [List.getElem?_map, hz]; rfl)
  exact ⟨b, o, z, ha, hb, hz, hc⟩

set_option maxHeartbeats 4000000 in
theorem alls_value (zs : List ByteArray) (A : Option Addr) (n c B : Nat) (w : World) (h : SeesV w B A n (zs.map Value.string)) (hB : B ≤ w.heap.size) (hn : n ≤ 1099511627776) (hp : ∀ z ∈ zs, Pl z) : Calls Tryz.prog 117 #[.slice A n c, .func (.func 79) #[] #[]] w fun e w' => e = .returned (.bool (zs.all vB)) ∧ Below w.heap.size w w' := by
  have Hl : Hid (n = zs.length) := Lib.hid (by have := h.len; simpa using this)
  have HH := Lib.hid h
  have Hp := Lib.hid hp
  clear h hp
  go_enter Tryz.func117, Tryz.ntmps117
  go_wp2_with fail
  go_loopw [9] (fun i wr => ∃ (k : Nat), k ≤ n ∧ i = .int .i64 k ∧ Hid (Below w.heap.size w wr) ∧ Hid ((zs.drop k).all vB = zs.all vB)) (fun i _ => n - (intOf i).toNat)
  case atStart => exact ⟨0, Nat.zero_le _, rfl, Lib.hid (Below.refl _ _), Lib.hid rfl⟩
  case round =>
    obtain ⟨k, hk, rfl, HW, HA⟩ := hrel
    by_cases hlt : k < n
    · obtain ⟨b, q, z, rfl, hbl, hz, hc⟩ := strs_at (HH.out.below (HW.out.mono hB)) hlt
      have hkl : k < zs.length := (List.getElem?_eq_some_iff.1 hz).1
      have hze : zs[k] = z := (List.getElem?_eq_some_iff.1 hz).2
      have hkn : (k : Int) < (n : Int) := by omega
      have hk0 : (0 : Int) ≤ (k : Int) := by omega
      have HF := Lib.hid (value_any z wr (Hp.out z (List.mem_of_getElem? hz)))
      obtain ⟨u, hu⟩ : ∃ u, u = vB z := ⟨_, rfl⟩
      rw [← hu] at HF
      have HA2 : Hid (zs.all vB = (u && (zs.drop (k + 1)).all vB)) := Lib.hid (by rw [← HA.out, List.drop_eq_getElem_cons hkl, List.all_cons, hze, hu])
      have Hlt := Lib.hid hlt
      clear hu hlt HA hz hkl hze
      cases u with
      | true =>
        go_wp2_with fail
        (with_reducible refine HF.out.mono ?_)
        rintro e w2 ⟨rfl, hb2⟩
        have HW2 := Lib.hid (HW.out.trans (hb2.mono HW.out.size))
        clear hb2
        go_wp2_with fail
        go_roundw
        case rel => exact ⟨k + 1, Hlt.out, by go_num, HW2, Lib.hid (by rw [HA2.out]; rfl)⟩
        case measure => have := Hlt.out; simp [intOf]; omega
      | false =>
        go_wp2_with fail
        (with_reducible refine HF.out.mono ?_)
        rintro e w2 ⟨rfl, hb2⟩
        have HW2 := Lib.hid (HW.out.trans (hb2.mono HW.out.size))
        clear hb2
        go_wp2_with fail
        go_ret
        exact ⟨by rw [HA2.out]; rfl, HW2.out⟩
    · obtain rfl : k = n := by omega
      have HA2 : Hid (zs.all vB = true) := Lib.hid (by
        have := HA.out
        rw [List.drop_of_length_le (by rw [← Hl.out]; exact Nat.le_refl _)] at this
        exact this.symm)
      clear hlt HA
      go_wp2_with fail
      go_ret
      exact ⟨by rw [HA2.out]; rfl, HW.out⟩

set_option maxHeartbeats 4000000 in
theorem alls_column (zs : List ByteArray) (A : Option Addr) (n c B : Nat) (w : World) (h : SeesV w B A n (zs.map Value.string)) (hB : B ≤ w.heap.size) (hn : n ≤ 1099511627776) (hp : ∀ z ∈ zs, Pl z) : Calls Tryz.prog 117 #[.slice A n c, .func (.func 80) #[] #[]] w fun e w' => e = .returned (.bool (zs.all cB)) ∧ Below w.heap.size w w' := by
  have Hl : Hid (n = zs.length) := Lib.hid (by have := h.len; simpa using this)
  have HH := Lib.hid h
  have Hp := Lib.hid hp
  clear h hp
  go_enter Tryz.func117, Tryz.ntmps117
  go_wp2_with fail
  go_loopw [9] (fun i wr => ∃ (k : Nat), k ≤ n ∧ i = .int .i64 k ∧ Hid (Below w.heap.size w wr) ∧ Hid ((zs.drop k).all cB = zs.all cB)) (fun i _ => n - (intOf i).toNat)
  case atStart => exact ⟨0, Nat.zero_le _, rfl, Lib.hid (Below.refl _ _), Lib.hid rfl⟩
  case round =>
    obtain ⟨k, hk, rfl, HW, HA⟩ := hrel
    by_cases hlt : k < n
    · obtain ⟨b, q, z, rfl, hbl, hz, hc⟩ := strs_at (HH.out.below (HW.out.mono hB)) hlt
      have hkl : k < zs.length := (List.getElem?_eq_some_iff.1 hz).1
      have hze : zs[k] = z := (List.getElem?_eq_some_iff.1 hz).2
      have hkn : (k : Int) < (n : Int) := by omega
      have hk0 : (0 : Int) ≤ (k : Int) := by omega
      have HF := Lib.hid (column_any z wr (Hp.out z (List.mem_of_getElem? hz)))
      obtain ⟨u, hu⟩ : ∃ u, u = cB z := ⟨_, rfl⟩
      rw [← hu] at HF
      have HA2 : Hid (zs.all cB = (u && (zs.drop (k + 1)).all cB)) := Lib.hid (by rw [← HA.out, List.drop_eq_getElem_cons hkl, List.all_cons, hze, hu])
      have Hlt := Lib.hid hlt
      clear hu hlt HA hz hkl hze
      cases u with
      | true =>
        go_wp2_with fail
        (with_reducible refine HF.out.mono ?_)
        rintro e w2 ⟨rfl, hb2⟩
        have HW2 := Lib.hid (HW.out.trans (hb2.mono HW.out.size))
        clear hb2
        go_wp2_with fail
        go_roundw
        case rel => exact ⟨k + 1, Hlt.out, by go_num, HW2, Lib.hid (by rw [HA2.out]; rfl)⟩
        case measure => have := Hlt.out; simp [intOf]; omega
      | false =>
        go_wp2_with fail
        (with_reducible refine HF.out.mono ?_)
        rintro e w2 ⟨rfl, hb2⟩
        have HW2 := Lib.hid (HW.out.trans (hb2.mono HW.out.size))
        clear hb2
        go_wp2_with fail
        go_ret
        exact ⟨by rw [HA2.out]; rfl, HW2.out⟩
    · obtain rfl : k = n := by omega
      have HA2 : Hid (zs.all cB = true) := Lib.hid (by
        have := HA.out
        rw [List.drop_of_length_le (by rw [← Hl.out]; exact Nat.le_refl _)] at this
        exact this.symm)
      clear hlt HA
      go_wp2_with fail
      go_ret
      exact ⟨by rw [HA2.out]; rfl, HW.out⟩

/-- Is one of these there ahead already? -/
def dupF : List ByteArray → List ByteArray → Bool
  | _, [] => false
  | a, x :: r => Lib.containsS a x || dupF (a ++ [x]) r
/-- What is wrong with a head. -/
def headF : List ByteArray → Int
  | [] => 0
  | m :: cols => if (m.toList == [107, 101, 121]) = false then 6 else if cols.all cB = false then 6 else if dupF [] cols = true then 7 else 0
theorem contains_any (zs : List ByteArray) (A : Option Addr) (n k c B : Nat) (x : ByteArray) (w : World) (h : SeesV w B A n (zs.map Value.string)) (hk : k ≤ n) (hn : n ≤ 1099511627776) : Calls Tryz.prog 92 #[.slice A k c, .string x] w fun e w' => e = .returned (.bool (Lib.containsS (zs.take k) x)) ∧ w' = w := by
  have hl := h.len
  rw [List.length_map] at hl
  rcases Nat.eq_zero_or_pos k with h0 | h0
  · subst h0
    refine (Tryz.slices_Contains_string_empty A c x w).mono ?_
    rintro e w' ⟨rfl, rfl⟩
    exact ⟨by rw [List.take_zero]; rfl, rfl⟩
  · obtain ⟨b, o, z, rfl, _, _, _⟩ := strs_at h (k := 0) (by omega)
    refine (Tryz.slices_Contains_string b o k c (zs.take n) x w (by rw [List.length_take]; omega) (by omega) (fun j hj => ?_)).mono ?_
    · rw [List.length_take] at hj
      obtain ⟨b', o', z', e, _, hz', hc⟩ := strs_at h (k := j) (by omega)
      injection e with e
      injection e with e1 e2
      subst e1; subst e2
      rw [hc, List.getD_eq_getElem?_getD, List.getElem?_take_of_lt (by omega), hz']
      rfl
    · rintro e w' ⟨rfl, rfl⟩
      exact ⟨by rw [List.take_take, Nat.min_eq_left hk], rfl⟩
theorem sees_tail {w : World} {B n : Nat} {b o : Nat} {z : ByteArray} {zs : List ByteArray} (h : SeesV w B (some ⟨b, o, none⟩) n ((z :: zs).map Value.string)) : SeesV w B (some ⟨b, o + 1, none⟩) (n - 1) (zs.map Value.string) := by
  have hl := h.len
  refine ⟨by simp at hl ⊢; omega, fun j u hu => ?_⟩
  obtain ⟨b', o', e, hb, hc⟩ := h.cell (j + 1) u (by simpa using hu)
  injection e with e
  injection e with e1 e2
  subst e1; subst e2
  exact ⟨_, _, rfl, hb, by rw [show o + 1 + j = o + (j + 1) by omega]; exact hc⟩

set_option maxHeartbeats 4000000 in
theorem headFault_any (m : ByteArray) (cols : List ByteArray) (b o n c B : Nat) (w : World) (h : SeesV w B (some ⟨b, o, none⟩) n ((m :: cols).map Value.string)) (hB : B ≤ w.heap.size) (hn : n ≤ 100000) (hnc : n ≤ c) (hm : c ≤ maxLen) (hp : ∀ z ∈ cols, Pl z) :
    Calls Tryz.prog 116 #[.slice (some ⟨b, o, none⟩) n c] w fun e w' => e = .returned (.int .i64 (headF (m :: cols))) ∧ Below w.heap.size w w' := by
  obtain ⟨q, hq⟩ : ∃ q, n = q + 1 := ⟨n - 1, by have := h.len; simp at this; omega⟩
  subst hq
  obtain ⟨b', o', m', e, hbl, hm', hc0⟩ := strs_at h (k := 0) (by omega)
  injection e with e
  injection e with e1 e2
  subst e1; subst e2
  obtain rfl : m = m' := by simpa using hm'
  have ht := sees_tail h
  rw [Nat.add_sub_cancel] at ht
  rw [Nat.add_zero] at hc0
  have hAd : ∃ A2, SeesV w B A2 q (cols.map Value.string) ∧ (if c = 1 then (some ⟨b, o, none⟩ : Option Addr) else some ⟨b, o + 1, none⟩) = A2 := by
    by_cases h1 : c = 1
    · obtain rfl : q = 0 := by omega
      refine ⟨some ⟨b, o, none⟩, ?_, by rw [if_pos h1]⟩
      have hl := ht.len
      have : cols = [] := List.eq_nil_of_length_eq_zero (by simp at hl; omega)
      subst this
      exact ⟨rfl, fun j u hu => by simp at hu⟩
    · exact ⟨_, ht, by rw [if_neg h1]⟩
  obtain ⟨A2, hA2, hAe⟩ := hAd
  have Hl2 : Hid (q = cols.length) := Lib.hid (by have := hA2.len; simpa using this)
  have HA2 := Lib.hid hA2
  have HAll := Lib.hid (fun (W : World) (hW : Below w.heap.size w W) => alls_column cols A2 q (c - 1) B W (hA2.below (hW.mono hB)) (Nat.le_trans hB hW.size) (by omega) hp)
  obtain ⟨u, hu⟩ : ∃ u, u = (m.toList == [107, 101, 121]) := ⟨_, rfl⟩
  have hu2 := hu.symm
  obtain ⟨v, hv⟩ : ∃ v, v = cols.all cB := ⟨_, rfl⟩
  rw [← hv] at HAll
  have HF : Hid (headF (m :: cols) = if u = false then 6 else if v = false then 6 else if dupF [] cols = true then 7 else 0) := Lib.hid (by rw [headF, hu, hv])
  have hnc1 : (1 : Int) ≤ ((q + 1 : Nat) : Int) := by omega
  have hnc2 : (1 : Int) ≤ (q : Int) + 1 := by omega
  clear hu hv hm' h ht hp hA2 hbl
  by_cases hc1 : c = 1
  · subst hc1
    obtain rfl : q = 0 := by omega
    rw [if_pos rfl] at hAe
    subst hAe
    go_enter Tryz.func116, Tryz.ntmps116
    cases u with
    | false =>
      go_wp2_with fail
      go_ret
      exact ⟨by rw [HF.out]; rfl, Below.refl _ _⟩
    | true =>
      go_wp2_with fail
      (with_reducible refine (HAll.out w (Below.refl _ _)).mono ?_)
      rintro e w1 ⟨rfl, hb1⟩
      cases v with
      | false =>
        go_wp2_with fail
        go_ret
        exact ⟨by rw [HF.out]; rfl, hb1⟩
      | true =>
        go_wp2_with fail
        go_loopw [19] (fun i wr => ∃ (k : Nat), k ≤ 0 ∧ i = .int .i64 k ∧ Hid (wr = w1) ∧ Hid (dupF (cols.take k) (cols.drop k) = dupF [] cols)) (fun i _ => 0 - (intOf i).toNat)
        case atStart => exact ⟨0, Nat.zero_le _, rfl, Lib.hid rfl, Lib.hid rfl⟩
        case round =>
          obtain ⟨k, hk, rfl, HW, HD⟩ := hrel
          have hsw : SeesV wr B (some ⟨b, o, none⟩) 0 (cols.map Value.string) := by rw [HW.out]; exact HA2.out.below (hb1.mono hB)
          by_cases hlt : k < 0
          · exact absurd hlt (Nat.not_lt_zero _)
          · obtain rfl : k = 0 := by omega
            have HD2 : Hid (dupF [] cols = false) := Lib.hid (by
              have := HD.out
              rw [List.drop_of_length_le (by rw [← Hl2.out]; exact Nat.le_refl _)] at this
              exact this.symm)
            clear hlt HD hsw
            go_wp2_with fail
            go_ret
            exact ⟨by rw [HF.out, HD2.out]; rfl, by rw [HW.out]; exact hb1⟩
  · rw [if_neg hc1] at hAe
    subst hAe
    go_enter Tryz.func116, Tryz.ntmps116
    cases u with
    | false =>
      go_wp2_with fail
      go_ret
      exact ⟨by rw [HF.out]; rfl, Below.refl _ _⟩
    | true =>
      go_wp2_with fail
      (with_reducible refine (HAll.out w (Below.refl _ _)).mono ?_)
      rintro e w1 ⟨rfl, hb1⟩
      cases v with
      | false =>
        go_wp2_with fail
        go_ret
        exact ⟨by rw [HF.out]; rfl, hb1⟩
      | true =>
        go_wp2_with fail
        go_loopw [19] (fun i wr => ∃ (k : Nat), k ≤ q ∧ i = .int .i64 k ∧ Hid (wr = w1) ∧ Hid (dupF (cols.take k) (cols.drop k) = dupF [] cols)) (fun i _ => q - (intOf i).toNat)
        case atStart => exact ⟨0, Nat.zero_le _, rfl, Lib.hid rfl, Lib.hid rfl⟩
        case round =>
          obtain ⟨k, hk, rfl, HW, HD⟩ := hrel
          have hsw : SeesV wr B (some ⟨b, o + 1, none⟩) q (cols.map Value.string) := by rw [HW.out]; exact HA2.out.below (hb1.mono hB)
          by_cases hlt : k < q
          · obtain ⟨b2, o2, x, hA, hbl2, hx, hcx⟩ := strs_at hsw hlt
            have hkl : k < cols.length := (List.getElem?_eq_some_iff.1 hx).1
            have hxe : cols[k] = x := (List.getElem?_eq_some_iff.1 hx).2
            have HC := Lib.hid (contains_any cols (some ⟨b, o + 1, none⟩) q k (c - 1) B x wr hsw (by omega) (by omega))
            obtain ⟨v, hv⟩ : ∃ v, v = Lib.containsS (cols.take k) x := ⟨_, rfl⟩
            rw [← hv] at HC
            have hd2 : dupF (cols.take k) (cols.drop k) = (v || dupF (cols.take (k + 1)) (cols.drop (k + 1))) := by
              rw [List.drop_eq_getElem_cons hkl, dupF, hxe, ← hv, List.take_add_one, hx]
              rfl
            have HD2 : Hid (dupF [] cols = (v || dupF (cols.take (k + 1)) (cols.drop (k + 1)))) := Lib.hid (by rw [← HD.out]; exact hd2)
            have hkn : (k : Int) < (q : Int) := by omega
            have hk0 : (0 : Int) ≤ (k : Int) := by omega
            have hkc : (k : Int) ≤ ((c - 1 : Nat) : Int) := by omega
            have Hlt := Lib.hid hlt
            clear hx hkl hxe hv hd2 HD hlt hsw
            cases hA
            go_wp2_with fail
            (with_reducible refine HC.out.mono ?_)
            rintro e w2 ⟨rfl, rfl⟩
            cases v with
            | false =>
              go_wp2_with fail
              go_roundw
              case rel => exact ⟨k + 1, Hlt.out, by go_num, HW, Lib.hid (by rw [HD2.out]; rfl)⟩
              case measure => have := Hlt.out; simp [intOf]; omega
            | true =>
              go_wp2_with fail
              go_ret
              exact ⟨by rw [HF.out, HD2.out]; rfl, by rw [HW.out]; exact hb1⟩
          · obtain rfl : k = q := by omega
            have HD2 : Hid (dupF [] cols = false) := Lib.hid (by
              have := HD.out
              rw [List.drop_of_length_le (by rw [← Hl2.out]; exact Nat.le_refl _)] at this
              exact this.symm)
            clear hlt HD hsw
            go_wp2_with fail
            go_ret
            exact ⟨by rw [HF.out, HD2.out]; rfl, by rw [HW.out]; exact hb1⟩
end Go.Proofs.YtkgpjohfkfbfhaaGreatDoor.Cv
namespace Go.Proofs.YtkgpjohfkfbfhaaGreatDoor.Cv
open Go.RowKit Go.Proofs.YtkgpjohfkfbfhaaGreatDoor.Jd Go.Proofs.YtkgpjohfkfbfhaaGreatDoor.Li
set_option maxRecDepth 100000

/-- A row: its fields, how it ends. -/
structure Rw where
  fs : List Ln
  en : ByteArray
/-- What its first field means. -/
def nm (r : Rw) : ByteArray := (mns r.fs).headD ⟨#[]⟩
theorem nm_enc {r : Rw} {x : Ln} {ls : List Ln} (h : r.fs = x :: ls) : encs x.2 = .string (nm r) := by rw [nm, h]; rfl
/-- The slice holds these rows. -/
structure SeesR (w : World) (B : Nat) (A : Option Addr) (n : Nat) (rs : List Rw) : Prop where
  len : n = rs.length
  at_ : ∀ (k : Nat) (r : Rw), rs[k]? = some r → ∃ b o Af nf cf, A = some ⟨b, o, none⟩ ∧ b < B ∧ w.cell? ⟨b, o + k * 2, none⟩ = some (.slice Af nf cf) ∧ w.cell? ⟨b, o + k * 2 + 1, none⟩ = some (.string r.en) ∧ SeesL w B Af nf r.fs ∧ nf ≤ cf ∧ cf ≤ maxLen
section
variable {w w' : World} {B B' n : Nat} {A : Option Addr} {rs : List Rw}
theorem SeesR.below (h : SeesR w B A n rs) (hb : Below B w w') : SeesR w' B A n rs :=
  ⟨h.len, fun k r hr => by
    obtain ⟨b, o, Af, nf, cf, h1, h2, h3, h4, h5, h6, h7⟩ := h.at_ k r hr
    exact ⟨b, o, Af, nf, cf, h1, h2, (hb.cell (p := ⟨b, o + k * 2, none⟩) h2).trans h3, (hb.cell (p := ⟨b, o + k * 2 + 1, none⟩) h2).trans h4, h5.below hb, h6, h7⟩⟩
theorem SeesR.more (h : SeesR w B A n rs) (hB : B ≤ B') : SeesR w B' A n rs :=
  ⟨h.len, fun k r hr => by
    obtain ⟨b, o, Af, nf, cf, h1, h2, h3, h4, h5, h6, h7⟩ := h.at_ k r hr
    exact ⟨b, o, Af, nf, cf, h1, Nat.lt_of_lt_of_le h2 hB, h3, h4, h5.more hB, h6, h7⟩⟩
theorem SeesR.tail {b o : Nat} {r : Rw} (h : SeesR w B (some ⟨b, o, none⟩) n (r :: rs)) : SeesR w B (some ⟨b, o + 2, none⟩) (n - 1) rs :=
  ⟨by have := h.len; simp at this; omega, fun k x hx => by
    obtain ⟨b', o', Af, nf, cf, h1, h2, h3, h4, h5⟩ := h.at_ (k + 1) x (by simpa using hx)
    injection h1 with h1
    injection h1 with e1 e2
    subst e1; subst e2
    exact ⟨_, _, Af, nf, cf, rfl, h2, by rw [show o + 2 + k * 2 = o + (k + 1) * 2 by omega]; exact h3, by rw [show o + 2 + k * 2 + 1 = o + (k + 1) * 2 + 1 by omega]; exact h4, h5⟩⟩
end

set_option maxHeartbeats 4000000 in
theorem fault1_any (x r : Rw) (Ax Ar : Option Addr) (nx cx nr cr g B : Nat) (w : World) (hx : SeesL w B Ax nx x.fs) (hr : SeesL w B Ar nr r.fs) (hB : B ≤ w.heap.size) (hxn : x.fs ≠ []) (hrn : r.fs ≠ [])
    (h0 : w.cell? ⟨g, 0, none⟩ = some (.slice Ar nr cr)) (h1 : w.cell? ⟨g, 1, none⟩ = some (.string r.en)) :
    Calls Tryz.prog 119 #[.agg #[.slice Ax nx cx, .string x.en], .pointer (some ⟨g, 0, none⟩)] w fun e w' => e = .returned (.bool ((nm x).toList == (nm r).toList)) ∧ Below w.heap.size w w' := by
  obtain ⟨x0, xl, hx0⟩ := List.exists_cons_of_ne_nil hxn
  obtain ⟨r0, rl, hr0⟩ := List.exists_cons_of_ne_nil hrn
  have hg : g < w.heap.size := World.block_lt_of_cell? w ⟨g, 0, none⟩ h0
  rw [hx0] at hx
  rw [hr0] at hr
  have hex := nm_enc hx0
  have her := nm_enc hr0
  obtain ⟨W1, hW1⟩ : ∃ W, W = w.alloc (Obj.cells #[.slice Ax nx cx, .string x.en] 75) := ⟨_, rfl⟩
  have hb1 : Below w.heap.size w W1 := by rw [hW1]; exact (Below.refl _ _).alloc (Nat.le_refl _) _
  have hg1 : W1.heap[w.heap.size]? = some (Obj.cells #[.slice Ax nx cx, .string x.en] 75) := by rw [hW1]; exact heap_alloc_new w _
  have hl1 : w.heap.size < W1.heap.size := (Array.getElem?_eq_some_iff.1 hg1).1
  have HK := Lib.hid (fun (W : World) (hW : Below W1.heap.size W1 W) => (⟨(hW.cell (p := ⟨w.heap.size, 0, none⟩) hl1).trans (by rw [cell_of_row _ _ _ _ _ _ hg1]; rfl), (hW.cell (p := ⟨w.heap.size, 1, none⟩) hl1).trans (by rw [cell_of_row _ _ _ _ _ _ hg1]; rfl), (hW.cell (p := ⟨g, 0, none⟩) (Nat.lt_trans hg hl1)).trans ((hb1.cell (p := ⟨g, 0, none⟩) hg).trans h0), (hW.cell (p := ⟨g, 1, none⟩) (Nat.lt_trans hg hl1)).trans ((hb1.cell (p := ⟨g, 1, none⟩) hg).trans h1)⟩ : W.cell? ⟨w.heap.size, 0, none⟩ = some (.slice Ax nx cx) ∧ W.cell? ⟨w.heap.size, 1, none⟩ = some (.string x.en) ∧ W.cell? ⟨g, 0, none⟩ = some (.slice Ar nr cr) ∧ W.cell? ⟨g, 1, none⟩ = some (.string r.en)))
  have HX := Lib.hid (fun (W : World) (hW : Below W1.heap.size W1 W) => rname_any x0 xl Ax nx cx B x.en (nm x) W ((hx.below (hb1.mono hB)).below (hW.mono (Nat.le_trans hB (Nat.le_of_lt hl1)))) (Nat.le_trans (Nat.le_trans hB (Nat.le_of_lt hl1)) hW.size) hex)
  have HR := Lib.hid (fun (W : World) (hW : Below W1.heap.size W1 W) => rname_any r0 rl Ar nr cr B r.en (nm r) W ((hr.below (hb1.mono hB)).below (hW.mono (Nat.le_trans hB (Nat.le_of_lt hl1)))) (Nat.le_trans (Nat.le_trans hB (Nat.le_of_lt hl1)) hW.size) her)
  have HB1 := Lib.hid hb1
  have hq0 : Below W1.heap.size W1 W1.drew := (Below.refl _ _).drew
  obtain ⟨a, ha⟩ : ∃ a, a = nm x := ⟨_, rfl⟩
  obtain ⟨b, hb⟩ : ∃ b, b = nm r := ⟨_, rfl⟩
  rw [← ha] at HX
  rw [← hb] at HR
  rw [← ha, ← hb]
  have hsz := hb1.size
  clear hx hr hex her h0 h1 hb1 hg1 hx0 hr0 hxn hrn ha hb
  go_enter Tryz.func119, Tryz.ntmps119
  go_wp2_with fail
  rw [← hW1]
  clear hW1
  go_region_held3 (fun W => Below W1.heap.size W1 W ∧ W.cell? ⟨w.heap.size, 0, none⟩ = some (.slice Ax nx cx) ∧ W.cell? ⟨w.heap.size, 1, none⟩ = some (.string x.en) ∧ W.cell? ⟨g, 0, none⟩ = some (.slice Ar nr cr) ∧ W.cell? ⟨g, 1, none⟩ = some (.string r.en))
    (first | exact ⟨hq0, HK.out _ hq0⟩ | exact ⟨hq2, HK.out _ hq2⟩ | exact ⟨hq3, HK.out _ hq3⟩)
    (first
    | (go_at_call 65; (with_reducible refine (HX.out _ hq0).mono ?_); rintro e w2 ⟨rfl, hg2⟩; have hq2 := hq0.trans (hg2.mono hq0.size); clear hg2)
    | (go_at_call 65; (with_reducible refine (HR.out _ hq2).mono ?_); rintro e w3 ⟨rfl, hg3⟩; have hq3 := hq2.trans (hg3.mono hq2.size); clear hg3))
  all_goals
    go_wp2_with fail
    go_ret
    exact ⟨rfl, HB1.out.trans (hq3.mono HB1.out.size)⟩

set_option maxHeartbeats 4000000 in
theorem indexf_any (rs : List Rw) (r : Rw) (A Ar : Option Addr) (n c nr cr g B : Nat) (w : World) (h : SeesR w B A n rs) (hr : SeesL w B Ar nr r.fs) (hB : B ≤ w.heap.size) (hn : n ≤ 100000) (hrs : ∀ x ∈ rs, x.fs ≠ []) (hrn : r.fs ≠ [])
    (h0 : w.cell? ⟨g, 0, none⟩ = some (.slice Ar nr cr)) (h1 : w.cell? ⟨g, 1, none⟩ = some (.string r.en)) :
    Calls Tryz.prog 140 #[.slice A n c, .func (.func 119) #[] #[.pointer (some ⟨g, 0, none⟩)]] w fun e w' => ∃ i : Int, e = .returned (.int .i64 i) ∧ (decide (0 ≤ i) = rs.any fun x => (nm x).toList == (nm r).toList) ∧ Below w.heap.size w w' := by
  have hg : g < w.heap.size := World.block_lt_of_cell? w ⟨g, 0, none⟩ h0
  have Hl := Lib.hid h.len
  have HH := Lib.hid h
  have HF := Lib.hid (fun (W : World) (hW : Below w.heap.size w W) (x : Rw) (hx : x ∈ rs) (Ax : Option Addr) (nx cx : Nat) (hs : SeesL W B Ax nx x.fs) => fault1_any x r Ax Ar nx cx nr cr g B W hs (hr.below (hW.mono hB)) (Nat.le_trans hB hW.size) (hrs x hx) hrn ((hW.cell (p := ⟨g, 0, none⟩) hg).trans h0) ((hW.cell (p := ⟨g, 1, none⟩) hg).trans h1))
  clear h hr h0 h1 hrs hrn
  go_enter Tryz.func140, Tryz.ntmps140
  go_wp2_with fail
  go_loopw [8] (fun i wr => ∃ (k : Nat), k ≤ n ∧ i = .int .i64 k ∧ Hid (Below w.heap.size w wr) ∧ Hid (((rs.drop k).any fun x => (nm x).toList == (nm r).toList) = rs.any fun x => (nm x).toList == (nm r).toList)) (fun i _ => n - (intOf i).toNat)
  case atStart => exact ⟨0, Nat.zero_le _, rfl, Lib.hid (Below.refl _ _), Lib.hid rfl⟩
  case round =>
    obtain ⟨k, hk, rfl, HW, HA⟩ := hrel
    by_cases hlt : k < n
    · have hkl : k < rs.length := by have := Hl.out; omega
      obtain ⟨x, hx⟩ : ∃ x, rs[k]? = some x := ⟨_, List.getElem?_eq_getElem hkl⟩
      have hxe : rs[k] = x := (List.getElem?_eq_some_iff.1 hx).2
      obtain ⟨b, o, Af, nf, cf, rfl, hbl, hc1, hc2, hsf, _, _⟩ := (HH.out.below (HW.out.mono hB)).at_ k x hx
      have hkn : (k : Int) < (n : Int) := by omega
      have hk0 : (0 : Int) ≤ (k : Int) := by omega
      have HC := Lib.hid (HF.out wr HW.out x (List.mem_of_getElem? hx) Af nf cf hsf)
      obtain ⟨u, hu⟩ : ∃ u, u = ((nm x).toList == (nm r).toList) := ⟨_, rfl⟩
      rw [← hu] at HC
      have HA2 : Hid ((rs.any fun x => (nm x).toList == (nm r).toList) = (u || (rs.drop (k + 1)).any fun x => (nm x).toList == (nm r).toList)) := Lib.hid (by rw [← HA.out, List.drop_eq_getElem_cons hkl, List.any_cons, hxe, hu])
      have Hlt := Lib.hid hlt
      clear hu hlt HA hx hkl hxe hsf
      cases u with
      | false =>
        go_wp2_with fail
        (with_reducible refine HC.out.mono ?_)
        rintro e w2 ⟨rfl, hb2⟩
        have HW2 := Lib.hid (HW.out.trans (hb2.mono HW.out.size))
        clear hb2
        go_wp2_with fail
        go_roundw
        case rel => exact ⟨k + 1, Hlt.out, by go_num, HW2, Lib.hid (by rw [HA2.out]; rfl)⟩
        case measure => have := Hlt.out; simp [intOf]; omega
      | true =>
        go_wp2_with fail
        (with_reducible refine HC.out.mono ?_)
        rintro e w2 ⟨rfl, hb2⟩
        have HW2 := Lib.hid (HW.out.trans (hb2.mono HW.out.size))
        clear hb2
        go_wp2_with fail
        go_ret
        exact ⟨(k : Int), rfl, by rw [HA2.out, Bool.true_or]; exact decide_eq_true hk0, HW2.out⟩
    · obtain rfl : k = n := by omega
      have HA2 : Hid ((rs.any fun x => (nm x).toList == (nm r).toList) = false) := Lib.hid (by
        have := HA.out
        rw [List.drop_of_length_le (by rw [← Hl.out]; exact Nat.le_refl _)] at this
        exact this.symm)
      clear hlt HA
      go_wp2_with fail
      go_ret
      exact ⟨-1, rfl, by rw [HA2.out]; rfl, HW.out⟩
set_option maxHeartbeats 1000000 in
theorem containsf_any (rs : List Rw) (r : Rw) (A Ar : Option Addr) (n c nr cr g B : Nat) (w : World) (h : SeesR w B A n rs) (hr : SeesL w B Ar nr r.fs) (hB : B ≤ w.heap.size) (hn : n ≤ 100000) (hrs : ∀ x ∈ rs, x.fs ≠ []) (hrn : r.fs ≠ [])
    (h0 : w.cell? ⟨g, 0, none⟩ = some (.slice Ar nr cr)) (h1 : w.cell? ⟨g, 1, none⟩ = some (.string r.en)) :
    Calls Tryz.prog 118 #[.slice A n c, .func (.func 119) #[] #[.pointer (some ⟨g, 0, none⟩)]] w fun e w' => e = .returned (.bool (rs.any fun x => (nm x).toList == (nm r).toList)) ∧ Below w.heap.size w w' := by
  have HC := Lib.hid (indexf_any rs r A Ar n c nr cr g B w h hr hB hn hrs hrn h0 h1)
  obtain ⟨v, hv⟩ : ∃ v, v = rs.any fun x => (nm x).toList == (nm r).toList := ⟨_, rfl⟩
  rw [← hv] at HC
  rw [← hv]
  clear hv h hr hB hrs hrn h0 h1
  go_enter Tryz.func118, Tryz.ntmps118
  go_wp2_with fail
  (with_reducible refine HC.out.mono ?_)
  rintro e w1 ⟨i, rfl, hi, hb1⟩
  have Hi := Lib.hid hi
  clear hi
  go_wp2_with fail
  go_ret
  exact ⟨by rw [← Hi.out]; rfl, hb1⟩
end Go.Proofs.YtkgpjohfkfbfhaaGreatDoor.Cv
namespace Go.Proofs.YtkgpjohfkfbfhaaGreatDoor.Cv
open Go.RowKit Go.Proofs.YtkgpjohfkfbfhaaGreatDoor.Jd Go.Proofs.YtkgpjohfkfbfhaaGreatDoor.Li
set_option maxRecDepth 100000

/-- What is wrong with a row behind these. -/
def faultF (ahead : List Rw) (r : Rw) : Int :=
  if r.fs = [] then 6 else
  match ahead with
  | [] => headF (mns r.fs)
  | h :: t => if r.fs.length ≠ h.fs.length then 6 else if nB (nm r) = false then 6 else if (mns r.fs).all vB = false then 6 else if (t.any fun x => (nm x).toList == (nm r).toList) = true then 7 else 0
theorem mns_len (ls : List Ln) : (mns ls).length = ls.length := by simp [mns]

set_option maxHeartbeats 4000000 in
/-- No fields; or the head. -/
theorem fault_head (r : Rw) (A Ar : Option Addr) (c nr cr : Nat) (w : World) (hr : SeesL w w.heap.size Ar nr r.fs) (hnr : nr ≤ 100000) (hp : ∀ z ∈ mns r.fs, Pl z) :
    Calls Tryz.prog 83 #[.slice A 0 c, .agg #[.slice Ar nr cr, .string r.en]] w fun e w' => e = .returned (.int .i64 (faultF [] r)) ∧ Below w.heap.size w w' := by
  have hl := hr.len
  have hb0 : Below w.heap.size w (w.alloc (Obj.cells #[.slice Ar nr cr, .string r.en] 75)) := (Below.refl _ _).alloc (Nat.le_refl _) _
  by_cases h0 : nr = 0
  · have HF : Hid (faultF [] r = 6) := Lib.hid (by rw [faultF, if_pos (List.eq_nil_of_length_eq_zero (by omega))])
    have HB0 := Lib.hid hb0
    subst h0
    clear hr hp hl hb0
    go_enter Tryz.func83, Tryz.ntmps83
    go_wp2_with fail
    go_ret
    exact ⟨by rw [HF.out]; rfl, HB0.out⟩
  · obtain ⟨x0, xl, hx0⟩ : ∃ x0 xl, r.fs = x0 :: xl := List.exists_cons_of_ne_nil (fun e => h0 (by rw [hl, e]; rfl))
    have HF : Hid (faultF [] r = headF (mns r.fs)) := Lib.hid (by rw [faultF, if_neg (by rw [hx0]; simp)])
    have HM := Lib.hid (means_any r.fs Ar nr cr w.heap.size r.en (w.alloc (Obj.cells #[.slice Ar nr cr, .string r.en] 75)) (hr.below hb0) hb0.size hnr)
    obtain ⟨m, ms, hms⟩ : ∃ m ms, mns r.fs = m :: ms := ⟨_, _, by rw [hx0]; rfl⟩
    have hq : ((nr : Int) == 0) = false := by rw [beq_eq_false_iff_ne]; omega
    have HH := Lib.hid (fun (W : World) (g : Nat) (hg : W.heap[g]? = some (.cells (meanV r.fs).toArray 9 (0, 0))) => by
      have hs := mn_sees (n := nr) hl hg
      rw [hms] at hs
      exact headFault_any m ms g 0 nr nr W.heap.size W hs (Nat.le_refl _) hnr (Nat.le_refl _) (Nat.le_trans hnr (by decide)) (fun z hz => hp z (by rw [hms]; exact List.mem_cons_of_mem _ hz)))
    rw [hms] at HF
    have HB0 := Lib.hid hb0
    clear hr hp hl hb0 h0 hx0 hms
    go_enter Tryz.func83, Tryz.ntmps83
    go_wp2_with fail
    (with_reducible refine HM.out.mono ?_)
    rintro e w1 ⟨g, rfl, hg, hgc, hb1⟩
    have HB1 := Lib.hid (HB0.out.trans (hb1.mono HB0.out.size))
    have HH2 := Lib.hid (HH.out w1 g hgc)
    clear hb1 hgc hg
    go_wp2_with fail
    (with_reducible refine HH2.out.mono ?_)
    rintro e w2 ⟨rfl, hb2⟩
    have HB2 := Lib.hid (HB1.out.trans (hb2.mono HB1.out.size))
    clear hb2
    go_wp2_with fail
    go_ret
    exact ⟨by rw [HF.out]; rfl, HB2.out⟩
end Go.Proofs.YtkgpjohfkfbfhaaGreatDoor.Cv
