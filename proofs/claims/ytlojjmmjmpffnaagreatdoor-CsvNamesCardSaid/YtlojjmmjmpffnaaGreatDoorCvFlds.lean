/- csv's fields of a line. Conditions: at most 4000 bytes; MaxLen's cell. -/
import Derived.Test.YtlojjmmjmpffnaaGreatDoorCvField
import Derived.Test.YtlojjmmjmpffnaaGreatDoorLiRow
import Derived.Outline
namespace Go.Proofs.YtlojjmmjmpffnaaGreatDoor.Cv
open Go.RowKit Go.Proofs.YtlojjmmjmpffnaaGreatDoor.Jd Go.Proofs.YtlojjmmjmpffnaaGreatDoor.Li
set_option maxRecDepth 100000

/-- The fields: what is written, what it means. -/
def flds : Nat → Bs → Option (List Ln)
  | 0, _ => none
  | F + 1, l =>
    if (unq (l.take (wid false l))).2 = false then none else
    if wid false l = l.length then some [(l.take (wid false l), (unq (l.take (wid false l))).1)] else
    (flds F (l.drop (wid false l + 1))).map (fun r => (l.take (wid false l), (unq (l.take (wid false l))).1) :: r)
def fldsL (l : Bs) : List Ln := (flds (l.length + 1) l).getD []
theorem elem_field : Elem Tryz.prog 46 113 (.agg #[.string ⟨#[]⟩, .string ⟨#[]⟩]) 2 32 := ⟨Tryz.underlying46, by kernel_rfl, rfl, by omega⟩
theorem src_field (W : World) (a b : ByteArray) (g : Nat) (hg : g = W.heap.size) : Src Tryz.prog 2 46 (.slice (some ⟨g, 0, none⟩) 1 1) 1 [.string a, .string b] (W.alloc (Obj.cells #[.string a, .string b] 113)) := by
  subst hg
  refine Src.ofSlice _ Tryz.underlying46 ⟨W.heap.size, 0, none⟩ 1 1 [.string a, .string b] rfl (fun j u hu => ?_) (by intro u hu; simp at hu; rcases hu with rfl | rfl <;> rfl)
  rw [Addr.add_lit, cell_of_row _ _ _ _ _ _ (heap_alloc_new W _), ← hu, Nat.zero_add]
  simp
/-- A row of fields of the call's own. -/
abbrev OwnF (w : World) (base : Nat) (A : Option Addr) (n c : Nat) (ls : List Ln) : Prop := w.ownsRow base 113 2 (.slice A n c) n (lcells ls)
theorem OwnF.below {w w' : World} {base n c : Nat} {A : Option Addr} {ls : List Ln} (h : OwnF w base A n c ls) (hb : Below w.heap.size w w') : OwnF w' base A n c ls :=
  World.ownsRow.kept h (row := none) ⟨hb.os, hb.tape, hb.output, hb.size, fun i hi _ => hb.block i hi⟩ (by cases hv : (Value.slice A n c).ownBlock <;> simp)
theorem OwnF.sees {w : World} {base n c : Nat} {A : Option Addr} {ls : List Ln} (h : OwnF w base A n c ls) : SeesL w w.heap.size A n ls := by
  have h1 := h.1
  rw [lcells_length] at h1
  have hn : n = ls.length := by omega
  rcases own_form h with ⟨rfl, rfl, hl⟩ | ⟨g, rfl, hg, hgl, _, _, hc⟩
  · have : ls = [] := List.eq_nil_of_length_eq_zero (by omega)
    subst this
    exact SeesL.nil _ _ _
  · exact ⟨hn, fun j u hu => ⟨g, 0, rfl, hgl, hc j u hu⟩⟩
theorem OwnF.len {w : World} {base n c : Nat} {A : Option Addr} {ls : List Ln} (h : OwnF w base A n c ls) : n = ls.length := h.sees.len
theorem ext_take (b : ByteArray) (k : Nat) : (b.extract 0 k).data.toList = b.data.toList.take k := by
  simp [ByteArray.data_extract]
theorem ext_drop (b : ByteArray) (k : Nat) : (b.extract k b.size).data.toList = b.data.toList.drop k := by
  have hs : b.size = b.data.toList.length := rfl
  rw [ByteArray.data_extract, Array.toList_extract, List.extract_eq_take_drop, List.take_of_length_le (by rw [List.length_drop]; omega)]
theorem flds_fuel : ∀ (F : Nat) (l : Bs), l.length < F → flds F l = flds (l.length + 1) l := by
  intro F
  induction F using Nat.strongRecOn with
  | _ F ih =>
    intro l hl
    obtain ⟨G, rfl⟩ : ∃ G, F = G + 1 := ⟨F - 1, by omega⟩
    rw [flds, flds]
    by_cases h1 : (unq (l.take (wid false l))).2 = false
    · rw [if_pos h1, if_pos h1]
    · rw [if_neg h1, if_neg h1]
      by_cases h2 : wid false l = l.length
      · rw [if_pos h2, if_pos h2]
      · rw [if_neg h2, if_neg h2]
        have hw := wid_le l false
        have hd : (l.drop (wid false l + 1)).length < l.length := by rw [List.length_drop]; omega
        have e : flds G (l.drop (wid false l + 1)) = flds l.length (l.drop (wid false l + 1)) := by
          rw [ih G (by omega) _ (by omega)]
          exact (ih l.length (by omega) _ hd).symm
        rw [e]
/-- The length of a text. -/
def tlen : Value → Nat
  | .string b => b.size
  | _ => 0
/-- What is answered. -/
def FoP (w : World) (ls : List Ln) (en : Ending) (w' : World) : Prop := ∃ A c, en = .returned (.slice A ls.length c) ∧ OwnF w' w.heap.size A ls.length c ls ∧ Below w.heap.size w w'

set_option maxHeartbeats 4000000 in
theorem fields_any (s : ByteArray) (w : World) (hz : s.size ≤ 4000) (hG : Gl w) : Calls Tryz.prog 37 #[.string s] w (FoP w (fldsL s.data.toList)) := by
  obtain ⟨R, hR⟩ : ∃ R, R = flds (s.data.toList.length + 1) s.data.toList := ⟨_, rfl⟩
  have hL : fldsL s.data.toList = R.getD [] := by rw [hR]; rfl
  rw [hL]
  have HG := Lib.hid hG
  have HR := Lib.hid hR
  clear hR hL hG
  go_enter Tryz.func37, Tryz.ntmps37
  go_wp2_with fail
  go_loopw [0, 3] (fun t a wr => ∃ (b : ByteArray) (k c : Nat) (A : Option Addr) (acc : List Ln), t = .string b ∧ a = .slice A k c ∧ k + b.size ≤ s.size ∧ Hid (OwnF wr w.heap.size A k c acc) ∧ Hid (Below w.heap.size w wr) ∧ Hid (R = (flds (b.data.toList.length + 1) b.data.toList).map (acc ++ ·))) (fun t _ _ => tlen t)
  case atStart => exact ⟨s, 0, 0, none, [], rfl, rfl, by omega, Lib.hid (World.ownsRow_nil w _ _ _), Lib.hid (Below.refl _ _), Lib.hid (by rw [HR.out]; simp)⟩
  case round =>
    obtain ⟨b, k, c, A, acc, rfl, rfl, hkb, HO, HW, HF⟩ := hrel
    obtain ⟨q, hq⟩ : ∃ q, q = wid false b.data.toList := ⟨_, rfl⟩
    have hql : q ≤ b.size := by rw [hq]; exact wid_le _ _
    have hWd := width_any b wr (by omega)
    rw [← hq] at hWd
    obtain ⟨fx, hfx⟩ : ∃ x, x = b.extract 0 q := ⟨_, rfl⟩
    have hfd : fx.data.toList = b.data.toList.take q := by rw [hfx]; exact ext_take b q
    have hfs : fx.size ≤ 4000 := by
      have e : fx.size = fx.data.toList.length := rfl
      rw [e, hfd, List.length_take]
      have e2 : b.size = b.data.toList.length := rfl
      omega
    have hU := unquoted_any fx wr hfs (HG.out.below HW.out)
    obtain ⟨mx, hmx⟩ : ∃ x : ByteArray, x = ⟨(unq fx.data.toList).1.toArray⟩ := ⟨_, rfl⟩
    obtain ⟨v, hv⟩ : ∃ v, v = (unq fx.data.toList).2 := ⟨_, rfl⟩
    rw [← hmx, ← hv] at hU
    have hmd : mx.data.toList = (unq fx.data.toList).1 := by rw [hmx]
    have hrel := HF.out
    rw [flds, ← hq, ← hfd, ← hv] at hrel
    have HWd := Lib.hid hWd
    have HU := Lib.hid hU
    have Hmd := Lib.hid hmd
    have Hfd := Lib.hid hfd
    have hq0 : (0 : Int) ≤ (q : Int) := by omega
    have hqb : (q : Int) ≤ (b.size : Int) := by omega
    have hqx : Hid (b.extract 0 q = fx) := Lib.hid hfx.symm
    have hx2 := hfx.symm
    cases v with
    | false =>
      rw [if_pos rfl] at hrel
      have HR2 := Lib.hid hrel
      clear hWd hU hmd hfd hrel HF hq hv hmx hfx hfs
      go_wp2_with fail
      (with_reducible refine HWd.out.mono ?_)
      rintro e w2 ⟨rfl, rfl⟩
      go_wp2_with fail
      (with_reducible refine HU.out.mono ?_)
      rintro e w3 ⟨rfl, hb3⟩
      have HB := Lib.hid (HW.out.trans (hb3.mono HW.out.size))
      clear hb3
      go_wp2_with fail
      first
        | go_ret
        | (rw [Exit.noGoto_ret]; go_ret)
      exact ⟨none, 0, by rw [HR2.out]; rfl, by rw [HR2.out]; exact World.ownsRow_nil _ _ _ _, HB.out⟩
    | true =>
      rw [if_neg (by simp)] at hrel
      have hk1 : k + 1 ≤ 1099511627776 := by omega
      by_cases hqe : q = b.size
      · have hqe2 : q = b.data.toList.length := hqe
        rw [if_pos hqe2] at hrel
        have HR2 := Lib.hid hrel
        have hqi : ((q : Int) == (b.size : Int)) = true := by simp; omega
        clear hWd hU hmd hfd hrel HF hq hv hmx hfx hfs hqe hqe2
        go_wp2_with fail
        (with_reducible refine HWd.out.mono ?_)
        rintro e w2 ⟨rfl, rfl⟩
        go_wp2_with fail
        (with_reducible refine HU.out.mono ?_)
        rintro e w3 ⟨rfl, hb3⟩
        have hz3 := (HW.out.trans (hb3.mono HW.out.size)).size
        have HB := Lib.hid (HW.out.trans (hb3.mono HW.out.size))
        have HO3 := Lib.hid (HO.out.below hb3)
        clear hb3
        go_wp2_with (at_builtin; refine wpList_append_row rfl (.tmp 18) (.tmp 24) _ _ rfl elem_field rfl rfl (HO3.out.alloc _) (src_field _ fx mx _ rfl) hk1 (by simp; omega) ?_; intro A4 c4 w4 ho4 hg4 hat4)
        have hP : OwnF w4 w.heap.size A4 (k + 1) c4 (acc ++ [(fx.data.toList, mx.data.toList)]) := by
          have e : lcells (acc ++ [(fx.data.toList, mx.data.toList)]) = lcells acc ++ [.string fx, .string mx] := by rw [lcells_append]; rfl
          show w4.ownsRow _ _ _ _ _ (lcells _)
          rw [e]
          exact ho4
        have HP := Lib.hid hP
        have HR3 : Hid (R.getD [] = acc ++ [(fx.data.toList, mx.data.toList)]) := Lib.hid (by rw [HR2.out, Hmd.out]; rfl)
        have HB4 : Hid (Below w.heap.size w w4) := Lib.hid ((HB.out.alloc hz3 _).grown hg4 (by simp; omega) (fun q hq => (HO3.out.lt q hq).1))
        have Hk : Hid (k + 1 = (acc ++ [(fx.data.toList, mx.data.toList)]).length) := Lib.hid hP.len
        clear hP ho4 hg4 hat4 HO3 HB HR2
        go_wp2_with fail
        first
          | go_ret
          | (rw [Exit.noGoto_ret]; go_ret)
        exact ⟨A4, c4, by rw [HR3.out, ← Hk.out]; rfl, by rw [HR3.out, ← Hk.out]; exact HP.out, HB4.out⟩
      · have hqe2 : ¬ q = b.data.toList.length := hqe
        rw [if_neg hqe2] at hrel
        obtain ⟨b2, hb2⟩ : ∃ x, x = b.extract (q + 1) b.size := ⟨_, rfl⟩
        have hbd : b2.data.toList = b.data.toList.drop (q + 1) := by rw [hb2]; exact ext_drop b (q + 1)
        have hbl : b.size = b.data.toList.length := rfl
        have hb2l : b2.size = b2.data.toList.length := rfl
        have hbs : b2.size + (q + 1) = b.size := by rw [hb2l, hbd, List.length_drop]; omega
        rw [← hbd, flds_fuel _ b2.data.toList (by omega)] at hrel
        have HR2 := Lib.hid hrel
        have hqi : ((q : Int) == (b.size : Int)) = false := by rw [beq_eq_false_iff_ne]; omega
        have hq1 : IntKind.i64.wrap ((q : Int) + 1) = (q : Int) + 1 := IntWalk.i64_in _ (by omega)
        have hqb1 : (q : Int) + 1 ≤ (b.size : Int) := by omega
        have hqb2 : (0 : Int) ≤ (q : Int) + 1 := by omega
        have hqn : ((q : Int) + 1).toNat = q + 1 := by omega
        have hx3 := hb2.symm
        have Hbs := Lib.hid hbs
        clear hWd hU hmd hfd hrel HF hq hv hmx hfx hfs hqe hqe2 hb2 hbd hbl hb2l hbs
        go_wp2_with fail
        (with_reducible refine HWd.out.mono ?_)
        rintro e w2 ⟨rfl, rfl⟩
        go_wp2_with fail
        (with_reducible refine HU.out.mono ?_)
        rintro e w3 ⟨rfl, hb3⟩
        have hz3 := (HW.out.trans (hb3.mono HW.out.size)).size
        have HB := Lib.hid (HW.out.trans (hb3.mono HW.out.size))
        have HO3 := Lib.hid (HO.out.below hb3)
        clear hb3
        go_wp2_with (at_builtin; refine wpList_append_row rfl (.tmp 18) (.tmp 24) _ _ rfl elem_field rfl rfl (HO3.out.alloc _) (src_field _ fx mx _ rfl) hk1 (by simp; omega) ?_; intro A4 c4 w4 ho4 hg4 hat4)
        have hP : OwnF w4 w.heap.size A4 (k + 1) c4 (acc ++ [(fx.data.toList, mx.data.toList)]) := by
          have e : lcells (acc ++ [(fx.data.toList, mx.data.toList)]) = lcells acc ++ [.string fx, .string mx] := by rw [lcells_append]; rfl
          show w4.ownsRow _ _ _ _ _ (lcells _)
          rw [e]
          exact ho4
        have HP := Lib.hid hP
        have HR3 : Hid (R = (flds (b2.data.toList.length + 1) b2.data.toList).map ((acc ++ [(fx.data.toList, mx.data.toList)]) ++ ·)) := Lib.hid (by
          rw [HR2.out, Hmd.out]
          cases flds (b2.data.toList.length + 1) b2.data.toList with
          | none => rfl
          | some r => simp)
        have HB4 : Hid (Below w.heap.size w w4) := Lib.hid ((HB.out.alloc hz3 _).grown hg4 (by simp; omega) (fun q hq => (HO3.out.lt q hq).1))
        clear hP ho4 hg4 hat4 HO3 HB HR2
        go_wp2_with fail
        go_roundw
        case rel => exact ⟨b2, k + 1, c4, A4, _, by first | rfl | (rw [← hx3]; rfl), rfl, by have := Hbs.out; omega, HP, HB4, HR3⟩
        case measure => have := Hbs.out; first | (simp [tlen]; omega) | (rw [hx3]; simp [tlen]; omega)
end Go.Proofs.YtlojjmmjmpffnaaGreatDoor.Cv
