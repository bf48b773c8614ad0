/- The reference's fields of a line of csv. Conditions: lines of at most 4000 bytes. · The reference's head of csv: what is wrong with it. Conditions: it has a field; names below 2^47 bytes. -/
import Derived.Test.YtlcbhooiinaalaaGreatDoorRcOne
namespace Go.Proofs.YtlcbhooiinaalaaGreatDoor.Cv
open Go.RowKit Go.Proofs.YtlcbhooiinaalaaGreatDoor.Jd Go.Proofs.YtlcbhooiinaalaaGreatDoor.Li Go.Proofs.YtlcbhooiinaalaaGreatDoor.Pt
set_option maxRecDepth 100000

theorem elem_field7 : Elem Tryz.prog 84 86 (.agg #[.string ⟨#[]⟩, .string ⟨#[]⟩]) 2 32 := ⟨Tryz.underlying84, by kernel_rfl, rfl, by omega⟩
theorem src_field7 (W : World) (a b : ByteArray) (g : Nat) (hg : g = W.heap.size) : Src Tryz.prog 2 84 (.slice (some ⟨g, 0, none⟩) 1 1) 1 [.string a, .string b] (W.alloc (Obj.cells #[.string a, .string b] 86)) := by
  subst hg
  refine Src.ofSlice _ Tryz.underlying84 ⟨W.heap.size, 0, none⟩ 1 1 [.string a, .string b] rfl (fun j u hu => ?_) (by intro u hu; simp at hu; rcases hu with rfl | rfl <;> rfl)
  rw [Addr.add_lit, cell_of_row _ _ _ _ _ _ (heap_alloc_new W _), ← hu, Nat.zero_add]
  simp
/-- A row of fields of the call's own. -/
abbrev OwnG (w : World) (base : Nat) (A : Option Addr) (n c : Nat) (ls : List Ln) : Prop := w.ownsRow base 86 2 (.slice A n c) n (lcells ls)
theorem OwnG.below {w w' : World} {base n c : Nat} {A : Option Addr} {ls : List Ln} (h : OwnG w base A n c ls) (hb : Below w.heap.size w w') : OwnG w' base A n c ls :=
  World.ownsRow.kept h (row := none) ⟨hb.os, hb.tape, hb.output, hb.size, fun i hi _ => hb.block i hi⟩ (by cases hv : (Value.slice A n c).ownBlock <;> simp)
theorem OwnG.sees {w : World} {base n c : Nat} {A : Option Addr} {ls : List Ln} (h : OwnG w base A n c ls) : SeesL w w.heap.size A n ls := by
  have h1 := h.1
  rw [lcells_length] at h1
  have hn : n = ls.length := by omega
  rcases own_form h with ⟨rfl, rfl, hl⟩ | ⟨g, rfl, hg, hgl, _, _, hc⟩
  · have : ls = [] := List.eq_nil_of_length_eq_zero (by omega)
    subst this
    exact SeesL.nil _ _ _
  · exact ⟨hn, fun j u hu => ⟨g, 0, rfl, hgl, hc j u hu⟩⟩
theorem OwnG.len {w : World} {base n c : Nat} {A : Option Addr} {ls : List Ln} (h : OwnG w base A n c ls) : n = ls.length := h.sees.len
/-- What is answered. -/
def FgP (w : World) (o : Option (List Ln)) (en : Ending) (w' : World) : Prop :=
  match o with
  | none => en = .returned (.tuple #[.slice none 0 0, .bool false]) ∧ Below w.heap.size w w'
  | some ls => ∃ A c, en = .returned (.tuple #[.slice A ls.length c, .bool true]) ∧ OwnG w' w.heap.size A ls.length c ls ∧ Below w.heap.size w w'
theorem fldsR_fuel (F : Nat) (l : Bs) (h : l.length < F) : fldsR F l = fldsR (l.length + 1) l := by rw [fldsR_eq, fldsR_eq, flds_fuel F l h]

set_option maxHeartbeats 4000000 in
theorem rfields_any (s : ByteArray) (w : World) (hz : s.size ≤ 4000) : Calls Tryz.prog 53 #[.string s] w (FgP w (fieldsO s.data.toList)) := by
  have HC := Lib.hid (cr_any s w (by omega))
  obtain ⟨v, hv⟩ : ∃ v, v = s.data.toList.contains 13 := ⟨_, rfl⟩
  rw [← hv] at HC
  have hL : fieldsO s.data.toList = if v = true then none else fldsR (s.data.toList.length + 1) s.data.toList := by rw [fieldsO, ← hv]
  rw [hL]
  clear hL hv
  cases v with
  | true =>
    rw [if_pos rfl]
    go_enter Tryz.func53, Tryz.ntmps53
    go_wp2_with fail
    (with_reducible refine HC.out.mono ?_)
    rintro e w1 ⟨rfl, rfl⟩
    go_wp2_with fail
    refine bodyPost_ret (v := .tuple #[.slice none 0 0, .bool false]) (by simp [results, Tryz.results53, go_sem]) rfl ?_
    exact ⟨rfl, Below.refl _ _⟩
  | false =>
    rw [if_neg (by decide)]
    obtain ⟨R, hR⟩ : ∃ R, R = fldsR (s.data.toList.length + 1) s.data.toList := ⟨_, rfl⟩
    rw [← hR]
    have HR := Lib.hid hR
    clear hR
    go_enter Tryz.func53, Tryz.ntmps53
    go_wp2_with fail
    (with_reducible refine HC.out.mono ?_)
    rintro e w1 ⟨rfl, rfl⟩
    go_wp2_with fail
    go_loopw [4, 5] (fun l p wr => ∃ (at_ k c : Nat) (A : Option Addr) (acc : List Ln), l = .slice A k c ∧ p = .int .i64 at_ ∧ at_ ≤ s.size ∧ k ≤ at_ ∧ Hid (OwnG wr w.heap.size A k c acc) ∧ Hid (Below w.heap.size w wr) ∧ Hid (R = (fldsR ((s.data.toList.drop at_).length + 1) (s.data.toList.drop at_)).map (acc ++ ·))) (fun _ p _ => s.size + 1 - (intOf p).toNat)
    case atStart => exact ⟨0, 0, 0, none, [], rfl, rfl, Nat.zero_le _, Nat.le_refl _, Lib.hid (World.ownsRow_nil w _ _ _), Lib.hid (Below.refl _ _), Lib.hid (by rw [HR.out]; simp)⟩
    case round =>
      obtain ⟨q, k, c, A, acc, rfl, rfl, hqs, hkq, HO, HW, HF⟩ := hrel
      have hU := one_any s q wr hz hqs
      have hsz : s.data.toList.length = s.size := rfl
      have hrel := HF.out
      cases ho : oneF (s.data.toList.drop q) with
      | none =>
        rw [ho] at hU
        rw [fldsR, ho] at hrel
        have HU := Lib.hid hU
        have HR2 := Lib.hid hrel
        clear hU hrel HF ho hsz
        go_wp2_with fail
        (with_reducible refine HU.out.mono ?_)
        rintro e w2 ⟨h1, hb2⟩
        obtain rfl := h1
        have HB := Lib.hid (HW.out.trans (hb2.mono HW.out.size))
        clear hb2
        go_wp2_with fail
        refine bodyPost_ret (v := .tuple #[.slice none 0 0, .bool false]) (by simp [results, Tryz.results53, go_sem]) rfl ?_
        rw [HR2.out]
        exact ⟨rfl, HB.out.alloc HB.out.size _⟩
      | some p =>
        obtain ⟨v, n⟩ := p
        rw [ho] at hU
        rw [fldsR, ho] at hrel
        have hn := (one_some ho).1
        have hnl := wid_le (s.data.toList.drop q) false
        rw [← hn, List.length_drop] at hnl
        have hqn : q + n ≤ s.size := by omega
        obtain ⟨fx, hfx⟩ : ∃ x, x = s.extract q (q + n) := ⟨_, rfl⟩
        have hfd : fx.data.toList = (s.data.toList.drop q).take n := by rw [hfx, Lib.extract_data, Nat.add_sub_cancel_left]
        obtain ⟨mx, hmx⟩ : ∃ x : ByteArray, x = ⟨v.toArray⟩ := ⟨_, rfl⟩
        have hmd : mx.data.toList = v := by rw [hmx]
        unfold OneP at hU
        dsimp only at hU hrel
        rw [← hfx, ← hmx] at hU
        rw [← hfd, ← hmd, List.length_drop] at hrel
        have HU := Lib.hid hU
        obtain ⟨b, hb⟩ : ∃ b, b = q + n := ⟨_, rfl⟩
        rw [← hb] at HU
        have hk1 : k + 1 ≤ 1099511627776 := by omega
        have hbs : b ≤ s.size := by omega
        have hkb : k ≤ b := by omega
        have hqb : q ≤ b := by omega
        by_cases he : s.size ≤ b
        · rw [if_pos (by omega)] at hrel
          have HR2 := Lib.hid hrel
          have hei : (s.size : Int) ≤ (b : Int) := by omega
          clear hU hrel HF ho hsz hn hnl hqn hfx hfd hmx hmd hb he
          go_wp2_with fail
          (with_reducible refine HU.out.mono ?_)
          rintro e w2 ⟨rfl, hb2⟩
          have HB := Lib.hid (HW.out.trans (hb2.mono HW.out.size))
          have hz2 := HB.out.size
          have HO3 := Lib.hid (HO.out.below hb2)
          clear hb2
          have cc := cell1 w2 (.string fx) (.string mx) 86
          go_wp2_with (at_builtin; refine wpList_append_row rfl (.tmp 20) (.tmp 22) _ _ rfl elem_field7 rfl rfl ((HO3.out.alloc _).alloc _) (src_field7 _ fx mx _ (by simp)) hk1 (by simp; omega) ?_; intro A4 c4 w4 ho4 hg4 hat4)
          have hP : OwnG w4 w.heap.size A4 (k + 1) c4 (acc ++ [(fx.data.toList, mx.data.toList)]) := by
            have e : lcells (acc ++ [(fx.data.toList, mx.data.toList)]) = lcells acc ++ [.string fx, .string mx] := by rw [lcells_append]; rfl
            show w4.ownsRow _ _ _ _ _ (lcells _)
            rw [e]
            exact ho4
          have HP := Lib.hid hP
          have HR3 : Hid (R = some (acc ++ [(fx.data.toList, mx.data.toList)])) := Lib.hid (by rw [HR2.out]; rfl)
          have HB4 : Hid (Below w.heap.size w w4) := Lib.hid (((HB.out.alloc hz2 _).alloc (by simp; omega) _).grown hg4 (by simp; omega) (fun q hq => (HO3.out.lt q hq).1))
          have Hk : Hid (k + 1 = (acc ++ [(fx.data.toList, mx.data.toList)]).length) := Lib.hid hP.len
          clear hP ho4 hg4 hat4 HO3 HB HR2
          go_wp2_with fail
          refine bodyPost_ret (v := .tuple #[.slice A4 (k + 1) c4, .bool true]) (by simp [results, Tryz.results53, go_sem]) rfl ?_
          rw [HR3.out]
          exact ⟨A4, c4, by rw [← Hk.out], by rw [← Hk.out]; exact HP.out, HB4.out⟩
        · rw [if_neg (by omega)] at hrel
          have hdd : (s.data.toList.drop q).drop (n + 1) = s.data.toList.drop (b + 1) := by rw [List.drop_drop, hb, Nat.add_assoc]
          rw [hdd, fldsR_fuel _ _ (by rw [List.length_drop]; omega)] at hrel
          have HR2 := Lib.hid hrel
          have hei : ¬ (s.size : Int) ≤ (b : Int) := by omega
          have Hlt : Hid (b < s.size) := Lib.hid (by omega)
          clear hU hrel HF ho hsz hn hnl hqn hfx hfd hmx hmd hb he hdd
          go_wp2_with fail
          (with_reducible refine HU.out.mono ?_)
          rintro e w2 ⟨rfl, hb2⟩
          have HB := Lib.hid (HW.out.trans (hb2.mono HW.out.size))
          have hz2 := HB.out.size
          have HO3 := Lib.hid (HO.out.below hb2)
          clear hb2
          have cc := cell1 w2 (.string fx) (.string mx) 86
          go_wp2_with (at_builtin; refine wpList_append_row rfl (.tmp 20) (.tmp 22) _ _ rfl elem_field7 rfl rfl ((HO3.out.alloc _).alloc _) (src_field7 _ fx mx _ (by simp)) hk1 (by simp; omega) ?_; intro A4 c4 w4 ho4 hg4 hat4)
          have hP : OwnG w4 w.heap.size A4 (k + 1) c4 (acc ++ [(fx.data.toList, mx.data.toList)]) := by
            have e : lcells (acc ++ [(fx.data.toList, mx.data.toList)]) = lcells acc ++ [.string fx, .string mx] := by rw [lcells_append]; rfl
            show w4.ownsRow _ _ _ _ _ (lcells _)
            rw [e]
            exact ho4
          have HP := Lib.hid hP
          have HR3 : Hid (R = (fldsR ((s.data.toList.drop (b + 1)).length + 1) (s.data.toList.drop (b + 1))).map ((acc ++ [(fx.data.toList, mx.data.toList)]) ++ ·)) := Lib.hid (by
            rw [HR2.out]
            cases fldsR ((s.data.toList.drop (b + 1)).length + 1) (s.data.toList.drop (b + 1)) with
            | none => rfl
            | some r => simp)
          have HB4 : Hid (Below w.heap.size w w4) := Lib.hid (((HB.out.alloc hz2 _).alloc (by simp; omega) _).grown hg4 (by simp; omega) (fun q hq => (HO3.out.lt q hq).1))
          clear hP ho4 hg4 hat4 HO3 HB HR2
          go_wp2_with fail
          go_roundw
          case rel => exact ⟨b + 1, k + 1, c4, A4, _, rfl, by go_num, Hlt.out, Nat.succ_le_succ hkb, HP, HB4, HR3⟩
          case measure => have := Hlt.out; simp [intOf]; omega
end Go.Proofs.YtlcbhooiinaalaaGreatDoor.Cv
namespace Go.Proofs.YtlcbhooiinaalaaGreatDoor.Cv
open Go.RowKit Go.Proofs.YtlcbhooiinaalaaGreatDoor.Jd Go.Proofs.YtlcbhooiinaalaaGreatDoor.Li Go.Proofs.YtlcbhooiinaalaaGreatDoor.Pt
set_option maxRecDepth 100000

/-- What a field means, in memory. -/
theorem val_at {w : World} {B n k : Nat} {A : Option Addr} {ls : List Ln} (h : SeesL w B A n ls) (hk : k < n) : ∃ b o x, A = some ⟨b, o, none⟩ ∧ b < B ∧ (mns ls)[k]? = some x ∧ w.cell? ⟨b, o + k * 2 + 1, none⟩ = some (.string x) := by
  have hl := h.len
  obtain ⟨b, o, hA, hb, _, h2⟩ := h.at_ (j := k) (x := ls[k]'(by omega)) (List.getElem?_eq_getElem (by omega))
  exact ⟨b, o, ⟨(ls[k]'(by omega)).2.toArray⟩, hA, hb, by simp [mns, List.getElem?_eq_getElem (show k < ls.length by omega)], h2⟩
theorem val_here {w : World} {B n k b o : Nat} {ls : List Ln} (h : SeesL w B (some ⟨b, o, none⟩) n ls) (hk : k < n) : ∃ x, (mns ls)[k]? = some x ∧ w.cell? ⟨b, o + k * 2 + 1, none⟩ = some (.string x) := by
  obtain ⟨b', o', x, e, _, h1, h2⟩ := val_at h hk
  injection e with e
  injection e with e1 e2
  subst e1; subst e2
  exact ⟨x, h1, h2⟩
theorem contains_cons (z : ByteArray) (zs : List ByteArray) (x : ByteArray) : Lib.containsS (z :: zs) x = (z.toList == x.toList || Lib.containsS zs x) := by
  rw [Bool.eq_iff_iff, Bool.or_eq_true, Lib.containsS_iff, Lib.containsS_iff, List.mem_cons, beq_iff_eq]
  constructor
  · rintro (h | h)
    · exact .inl (by rw [h])
    · exact .inr h
  · rintro (h | h)
    · exact .inl (bytes_eq h).symm
    · exact .inr h

set_option maxHeartbeats 4000000 in
theorem head_any (m : ByteArray) (cols : List ByteArray) (ls : List Ln) (A : Option Addr) (n c : Nat) (w : World) (h : SeesL w w.heap.size A n ls) (hm : mns ls = m :: cols) (hn : n ≤ 100000) (hz : ∀ z ∈ mns ls, z.size ≤ 140737488351232) :
    Calls Tryz.prog 54 #[.slice A n c] w fun e w' => e = .returned (.int .i64 (headF (m :: cols))) ∧ Below w.heap.size w w' := by
  have hl : n = cols.length + 1 := by rw [h.len, ← mns_len, hm, List.length_cons]
  obtain ⟨b, o, x, rfl, hbl, hx0, hc0⟩ := val_at h (k := 0) (by omega)
  obtain rfl : m = x := by rw [hm] at hx0; simpa using hx0
  have HS : Hid (SeesL w w.heap.size (some ⟨b, o, none⟩) n ls) := Lib.hid h
  have HM := Lib.hid hm
  have HZ := Lib.hid hz
  have hc0' : w.cell? ⟨b, o + 1, none⟩ = some (.string m) := by rw [← hc0, Nat.zero_mul, Nat.add_zero]
  have n1 : (1 : Int) ≤ (n : Int) := by omega
  have n0 : (0 : Int) < (n : Int) := by omega
  have n0' : 0 < n := by omega
  have Hl := Lib.hid hl
  obtain ⟨u, hu⟩ : ∃ u, u = (m.toList == [107, 101, 121]) := ⟨_, rfl⟩
  obtain ⟨v, hv⟩ : ∃ v, v = cols.all cB := ⟨_, rfl⟩
  obtain ⟨d, hd⟩ : ∃ d, d = dupF [] cols := ⟨_, rfl⟩
  have HF : Hid (headF (m :: cols) = if u = false then 6 else if v = false then 6 else if d = true then 7 else 0) := Lib.hid (by rw [headF, hu, hv, hd])
  have hu2 := hu.symm
  have Hv := Lib.hid hv
  have Hd := Lib.hid hd
  clear hu hv hd hm hl h hz hx0 hc0
  cases u with
  | false =>
    go_enter Tryz.func54, Tryz.ntmps54
    go_wp2_with fail
    go_ret
    exact ⟨by rw [HF.out]; rfl, Below.refl _ _⟩
  | true =>
    go_enter Tryz.func54, Tryz.ntmps54
    go_wp2_with fail
    go_loopw [3] (fun i wr => ∃ (k : Nat), k ≤ cols.length ∧ i = .int .i64 ((k + 1 : Nat) : Int) ∧ Hid (v = (cols.drop k).all cB) ∧ Hid (wr = w)) (fun i _ => n - (intOf i).toNat)
    case atStart => exact ⟨0, Nat.zero_le _, rfl, Lib.hid (by rw [Hv.out]; rfl), Lib.hid rfl⟩
    case round =>
      obtain ⟨k, hk, rfl, HV, HW⟩ := hrel
      have hrel := HV.out
      by_cases hlt : k < cols.length
      · have hkn : ((k + 1 : Nat) : Int) < (n : Int) := by have := Hl.out; omega
        have hkn2 : (k : Int) + 1 < (n : Int) := by omega
        have hk0 : (0 : Int) ≤ (k : Int) + 1 := by omega
        obtain ⟨x, hx, hc⟩ := val_here HS.out (k := k + 1) (by have := Hl.out; omega)
        have hxs : x.size ≤ 140737488351232 := HZ.out x (List.mem_of_getElem? hx)
        rw [HM.out, List.getElem?_cons_succ] at hx
        have hxe : cols[k] = x := (List.getElem?_eq_some_iff.1 hx).2
        rw [List.drop_eq_getElem_cons hlt, List.all_cons, hxe] at hrel
        have hcr : wr.cell? ⟨b, o + (k + 1) * 2 + 1, none⟩ = some (.string x) := by rw [HW.out]; exact hc
        have HC := Lib.hid (rcolumn_any x wr hxs)
        obtain ⟨y, hy⟩ : ∃ y, y = cB x := ⟨_, rfl⟩
        rw [← hy] at HC hrel
        have Hlt := Lib.hid hlt
        clear hlt hx hxe hc hxs hy HV
        cases y with
        | false =>
          have HV2 : Hid (v = false) := Lib.hid (by rw [hrel]; rfl)
          clear hrel
          go_wp2_with fail
          (with_reducible refine HC.out.mono ?_)
          rintro e w2 ⟨rfl, rfl⟩
          go_wp2_with fail
          go_ret
          exact ⟨by rw [HF.out, HV2.out]; rfl, by rw [HW.out]; exact Below.refl _ _⟩
        | true =>
          have HV2 : Hid (v = (cols.drop (k + 1)).all cB) := Lib.hid (by rw [hrel]; rfl)
          clear hrel
          go_wp2_with fail
          (with_reducible refine HC.out.mono ?_)
          rintro e w2 ⟨rfl, rfl⟩
          go_wp2_with fail
          go_roundw
          case rel => exact ⟨k + 1, Hlt.out, by go_num, HV2, HW⟩
          case measure => have := Hlt.out; simp [intOf]; omega
      · obtain rfl : k = cols.length := by omega
        have hkn : ¬ ((cols.length + 1 : Nat) : Int) < (n : Int) := by have := Hl.out; omega
        have HV2 : Hid (v = true) := Lib.hid (by rw [hrel, List.drop_of_length_le (Nat.le_refl _)]; rfl)
        clear hrel HV hlt hk
        have hw := HW.out.symm
        subst hw
        clear HW
        go_wp2_with fail
        go_loopw [4] (fun i wr => ∃ (j : Nat), j ≤ cols.length ∧ i = .int .i64 ((j + 1 : Nat) : Int) ∧ Hid (d = dupF (cols.take j) (cols.drop j)) ∧ Hid (Below w.heap.size w wr)) (fun i _ => n - (intOf i).toNat)
        case atStart => exact ⟨0, Nat.zero_le _, rfl, Lib.hid (by rw [Hd.out]; rfl), Lib.hid (Below.refl _ _)⟩
        case round =>
          obtain ⟨j, hj, rfl, HD, HW⟩ := hrel
          have hrel := HD.out
          by_cases hlt : j < cols.length
          · have hjn : ((j + 1 : Nat) : Int) < (n : Int) := by have := Hl.out; omega
            have hjn2 : (j : Int) + 1 < (n : Int) := by omega
            have hj0 : (0 : Int) ≤ (j : Int) + 1 := by omega
            have HSW := Lib.hid (HS.out.below HW.out)
            obtain ⟨x, hx, hc⟩ := val_here HSW.out (k := j + 1) (by have := Hl.out; omega)
            rw [HM.out, List.getElem?_cons_succ] at hx
            have hxe : cols[j] = x := (List.getElem?_eq_some_iff.1 hx).2
            obtain ⟨y, hy⟩ : ∃ y, y = Lib.containsS (cols.take j) x := ⟨_, rfl⟩
            rw [List.drop_eq_getElem_cons hlt, dupF, hxe, ← hy] at hrel
            have htk : cols.take j ++ [x] = cols.take (j + 1) := by rw [List.take_add_one, hx]; rfl
            rw [htk] at hrel
            have HD2 := Lib.hid hrel
            have Hy := Lib.hid hy
            have Hlt := Lib.hid hlt
            have Hl2 : Hid (n ≤ 100000) := Lib.hid hn
            clear hrel hy hx hxe htk hlt HD
            go_wp2_with fail
            go_loopw [5] (fun i wx => ∃ (q : Nat), q ≤ j ∧ i = .int .i64 ((q + 1 : Nat) : Int) ∧ Hid (y = Lib.containsS ((cols.take j).drop q) x) ∧ Hid (Below w.heap.size w wx)) (fun i _ => n - (intOf i).toNat)
            case atStart => exact ⟨0, Nat.zero_le _, rfl, Lib.hid (by rw [Hy.out]; rfl), HW⟩
            case round =>
              have Hj := Lib.hid hj
              obtain ⟨q, hq, rfl, HY, HX⟩ := hrel
              have hrel := HY.out
              have hcx : wr.cell? ⟨b, o + (j + 1) * 2 + 1, none⟩ = some (.string x) := by
                obtain ⟨x2, h1, h2⟩ := val_here (HS.out.below HX.out) (k := j + 1) (by have := Hl.out; have := Hlt.out; omega)
                obtain ⟨x3, h3, h4⟩ := val_here HSW.out (k := j + 1) (by have := Hl.out; have := Hlt.out; omega)
                rw [h1] at h3
                injection h3 with h3
                subst h3
                rw [h4] at hc
                rw [h2, hc]
              by_cases hlt : q < j
              · have hqn : ((q + 1 : Nat) : Int) < ((j + 1 : Nat) : Int) := by omega
                have hqn1 : (q : Int) + 1 < (n : Int) := by omega
                have hqn2 : (q : Int) < (j : Int) := by omega
                have hq0 : (0 : Int) ≤ (q : Int) + 1 := by omega
                obtain ⟨z, hz, hcz⟩ := val_here (HS.out.below HX.out) (k := q + 1) (by have := Hl.out; have := Hlt.out; omega)
                rw [HM.out, List.getElem?_cons_succ] at hz
                have hqj : q < (cols.take j).length := by rw [List.length_take]; have := Hlt.out; omega
                have hze : (cols.take j)[q] = z := by rw [List.getElem_take]; exact (List.getElem?_eq_some_iff.1 hz).2
                rw [List.drop_eq_getElem_cons hqj, hze, contains_cons] at hrel
                obtain ⟨t, ht⟩ : ∃ t, t = (z.toList == x.toList) := ⟨_, rfl⟩
                rw [← ht] at hrel
                have ht2 := ht.symm
                have Hql := Lib.hid hlt
                clear hz hqj hze ht hlt HY hc
                cases t with
                | true =>
                  have HY2 : Hid (y = true) := Lib.hid (by rw [hrel]; rfl)
                  clear hrel
                  go_wp2_with fail
                  go_region
                  go_wp2_with fail
                  go_ret
                  exact ⟨by rw [HF.out, HV2.out, HD2.out, HY2.out]; rfl, below_drew HX.out⟩
                | false =>
                  have HY2 : Hid (y = Lib.containsS ((cols.take j).drop (q + 1)) x) := Lib.hid (by rw [hrel]; rfl)
                  clear hrel
                  go_wp2_with fail
                  go_region
                  go_wp2_with fail
                  go_roundw
                  case rel => exact ⟨q + 1, Hql.out, by go_num, HY2, Lib.hid (below_drew HX.out)⟩
                  case measure => have := Hql.out; have := Hlt.out; simp [intOf]; omega
              · obtain rfl : q = j := by omega
                have hqn : ¬ ((q + 1 : Nat) : Int) < ((q + 1 : Nat) : Int) := by omega
                have HD3 : Hid (d = dupF (cols.take (q + 1)) (cols.drop (q + 1))) := Lib.hid (by
                  rw [HD2.out, hrel, List.drop_of_length_le (by rw [List.length_take]; omega)]
                  rfl)
                clear hrel HY hlt hc HD2
                go_wp2_with fail
                go_roundw
                case rel => exact ⟨q + 1, Hlt.out, by go_num, HD3, HX⟩
                case measure => have := Hlt.out; have := Hl.out; simp [intOf]; omega
          · obtain rfl : j = cols.length := by omega
            have hjn : ¬ ((cols.length + 1 : Nat) : Int) < (n : Int) := by have := Hl.out; omega
            have HD2 : Hid (d = false) := Lib.hid (by rw [hrel, List.drop_of_length_le (Nat.le_refl _)]; rfl)
            clear hrel HD hlt hj
            go_wp2_with fail
            go_ret
            exact ⟨by rw [HF.out, HV2.out, HD2.out]; rfl, HW.out⟩
end Go.Proofs.YtlcbhooiinaalaaGreatDoor.Cv
