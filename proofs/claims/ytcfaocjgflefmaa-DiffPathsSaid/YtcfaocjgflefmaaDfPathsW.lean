/- DiffPaths. No conditions. -/
import Derived.Test.YtcfaocjgflefmaaDfMendsW
import Derived.Test.YtcfaocjgflefmaaDfRPaths
import Derived.Test.YtcfaocjgflefmaaDfRef
import Derived.Deep.QuietTactic
import Derived.BigQuiet
namespace Go.Proofs.Ytcfaocjgflefmaa.Df
open Go.RowKit Go.Proofs.Ytcfaocjgflefmaa.Pt
set_option maxRecDepth 100000

def app : Tr → Tr → Tr
  | .nil, u => u
  | .cons s k r, u => .cons s k (app r u)
theorem app_len (u : Tr) : ∀ t : Tr, (app t u).len = t.len + u.len
  | .nil => by simp [app, Tr.len]
  | .cons _ _ r => by rw [app, Tr.len, Tr.len, app_len u r]; omega
theorem app_size (u : Tr) : ∀ t : Tr, (app t u).size = t.size + u.size
  | .nil => by simp [app, Tr.size]
  | .cons _ k r => by rw [app, Tr.size, Tr.size, app_size u r]; omega
theorem app_fit {u : Tr} (hu : u.Fit) : ∀ {t : Tr}, t.Fit → (app t u).Fit
  | .nil, _ => hu
  | .cons _ _ _, ⟨h1, h2, h3, h4⟩ => ⟨h1, h2, h3, app_fit hu h4⟩
theorem rowT_app {w : World} {B : Nat} : ∀ {vs us : List Value} {t u : Tr}, RowT w B vs t → RowT w B us u → RowT w B (vs ++ us) (app t u)
  | [], _, .nil, _, _, h2 => h2
  | .string _ :: .slice _ _ _ :: _, _, .cons _ _ _, _, ⟨h1, h2, h3, h4, h5⟩, h6 => ⟨h1, h2, h3, h4, rowT_app h5 h6⟩
theorem elem_raw : Elem Try.prog 22 49 (.agg #[.string ⟨#[]⟩, .slice none 0 0]) 2 40 := ⟨Try.underlying22, by kernel_rfl, rfl, by omega⟩
/-- Raw edges as a source of cells. -/
theorem src_raws {w : World} {n c : Nat} {A : Option Addr} {t : Tr} (h : Holds w w.heap.size A n t) : ∃ vs, ∀ W, Below w.heap.size w W → RowT W w.heap.size vs t ∧ Src Try.prog 2 22 (.slice A n c) n vs W := by
  obtain ⟨vs, hr, hc, hpos⟩ := h.rowT
  refine ⟨vs, fun W hW => ⟨hr.keep fun p hp => hW.cell hp, ?_⟩⟩
  have hl := hr.length
  rw [← h.len] at hl
  rcases Nat.eq_zero_or_pos n with h0 | h0
  · subst h0
    have e : vs = [] := List.eq_nil_of_length_eq_zero (by omega)
    subst e
    cases A with
    | none => exact Src.ofNil W Try.underlying22 c
    | some a => exact Src.ofSlice W Try.underlying22 a 0 c [] rfl (fun j u hu => by simp at hu) (by simp)
  · obtain ⟨b, o, rfl, hb⟩ := hpos h0
    exact Src.laid Try.underlying22 hl (fun j u hu => (hW.cell (p := ⟨b, o + j, none⟩) hb).trans (hc b o rfl j u hu)) hr.one

set_option maxHeartbeats 4000000 in
theorem paths_walk (r s t : Tr) (A A2 A3 : Option Addr) (n n2 n3 c c2 c3 : Nat) (w : World) (h : Holds w w.heap.size A n r) (h2 : Holds w w.heap.size A2 n2 s) (h3 : Holds w w.heap.size A3 n3 t) (hr : r.len ≤ 140737488351232 ∧ r.Fit) (hs : s.len ≤ 140737488351232 ∧ s.Fit) (ht : t.len ≤ 140737488351232 ∧ t.Fit) :
    Calls Try.prog 3 #[.slice A n c, .slice A2 n2 c2, .slice A3 n3 c3] w fun e w' => e = .returned (.bool true) ∧ Below w.heap.size w w' := by
  have hn : n ≤ 140737488351232 := by rw [h.len]; exact hr.1
  have hn2 : n2 ≤ 140737488351232 := by rw [h2.len]; exact hs.1
  have hn3 : n3 ≤ 140737488351232 := by rw [h3.len]; exact ht.1
  have HK := Lib.hid (known_any w)
  have hF := fun (W : World) (hW : Below w.heap.size w W) => few_any r A n c w.heap.size W (h.below hW) hW.size hn (fit_low hr.2)
  have hF2 := fun (W : World) (hW : Below w.heap.size w W) => few_any s A2 n2 c2 w.heap.size W (h2.below hW) hW.size hn2 (fit_low hs.2)
  have hF3 := fun (W : World) (hW : Below w.heap.size w W) => few_any t A3 n3 c3 w.heap.size W (h3.below hW) hW.size hn3 (fit_low ht.2)
  by_cases h1c : r.count n 200 < 200
  · by_cases h2c : s.count n2 200 < 200
    · by_cases h3c : t.count n3 200 < 200
      · rw [decide_eq_true h1c] at hF
        rw [decide_eq_true h2c] at hF2
        rw [decide_eq_true h3c] at hF3
        have hrz := few_yes h.len h1c
        have hsz := few_yes h2.len h2c
        have htz := few_yes h3.len h3c
        have hnr : n ≤ 200 := by have := h.len; have := r.len_size; omega
        have hns : n2 ≤ 200 := by have := h2.len; have := s.len_size; omega
        have hnt : n3 ≤ 200 := by have := h3.len; have := t.len_size; omega
        have HF := Lib.hid hF
        have HF2 := Lib.hid hF2
        have HF3 := Lib.hid hF3
        have Hh := Lib.hid h
        have Hh2 := Lib.hid h2
        have Hh3 := Lib.hid h3
        have Hrf := Lib.hid hr.2
        have Hsf := Lib.hid hs.2
        have Htf := Lib.hid ht.2
        clear hF hF2 hF3 h1c h2c h3c h h2 h3 hr hs ht hn hn2 hn3
        go_enter Try.func3, Try.ntmps3
        go_wp2_with fail
        (with_reducible refine HK.out.mono ?_)
        rintro e w1 ⟨rfl, hb1⟩
        have HB1 := Lib.hid hb1
        clear hb1
        go_wp2_with fail
        (with_reducible refine (HF.out w1 HB1.out).mono ?_)
        rintro e _ ⟨rfl, rfl⟩
        go_wp2_with fail
        (with_reducible refine (HF2.out w1 HB1.out).mono ?_)
        rintro e _ ⟨rfl, rfl⟩
        go_wp2_with fail
        (with_reducible refine (HF3.out w1 HB1.out).mono ?_)
        rintro e _ ⟨rfl, rfl⟩
        have HBa := Lib.hid (HB1.out.alloc HB1.out.size (Obj.cells #[] 49))
        have hlit : (w1.alloc (Obj.cells #[] 49)).ownsRow w.heap.size 49 2 (.slice (some ⟨w1.heap.size, 0, none⟩) 0 0) 0 [] := World.ownsRow_lit w1 #[] 0 HB1.out.size (by simp [maxLen]) rfl
        obtain ⟨v3, hv3⟩ := src_raws (c := c3) Hh3.out
        obtain ⟨v1, hv1⟩ := src_raws (c := c) Hh.out
        obtain ⟨v2, hv2⟩ := src_raws (c := c2) Hh2.out
        have Hv3 := Lib.hid hv3
        have Hv1 := Lib.hid hv1
        have Hv2 := Lib.hid hv2
        have Hlit := Lib.hid hlit
        clear hv3 hv1 hv2 hlit
        go_wp2_with (first
          | (at_builtin; refine wpList_append_row rfl (.tmp 28) (.tmp 29) _ _ rfl elem_raw rfl rfl Hlit.out (Hv3.out _ HBa.out).2 (show 0 + n3 ≤ 1099511627776 by omega) HBa.out.size ?_; intro A4 c4 w4 ho4 hg4 hat4; simp only [Nat.zero_add, List.nil_append] at ho4; have HB4 := Lib.hid (HBa.out.grown hg4 HBa.out.size (fun q hq => (Hlit.out.lt q hq).1)); have Ho4 := Lib.hid ho4; clear ho4 hg4 hat4)
          | (at_builtin; refine wpList_append_row rfl (.tmp 30) (.tmp 31) _ _ rfl elem_raw rfl rfl Ho4.out (Hv1.out _ HB4.out).2 (show n3 + n ≤ 1099511627776 by omega) HB4.out.size ?_; intro A5 c5 w5 ho5 hg5 hat5; have HB5 := Lib.hid (HB4.out.grown hg5 HB4.out.size (fun q hq => (Ho4.out.lt q hq).1)); have Ho5 := Lib.hid ho5; clear ho5 hg5 hat5))
        have hh5 := own_holds Ho5.out ((rowT_app (Hv3.out _ HB5.out).1 (Hv1.out _ HB5.out).1).more HB5.out.size)
        refine (small_any 8 (by omega) 5 (by omega) 5 (app t r) A5 (n3 + n) c5 w5.heap.size w5 rfl hh5 (app_fit Hrf.out Htf.out) (Nat.le_refl _) (own_cap Ho5.out).1 (own_cap Ho5.out).2).mono ?_
        rintro e w6 ⟨Aa, na, ca, a, rfl, ha1, ha2, ha3, ⟨ha4, ha5⟩, hb6⟩
        rw [app_size] at ha4
        have HB6 := Lib.hid (HB5.out.trans (hb6.mono HB5.out.size))
        have Hoa := Lib.hid (show OkT w6 Aa na ca a from ⟨ha1, ha2, ha3⟩)
        have Haa := Lib.hid ha5
        have HKb := Lib.hid ((Below.refl _ w6).alloc (Nat.le_refl _) (Obj.cells #[] 49))
        have hlit2 : (w6.alloc (Obj.cells #[] 49)).ownsRow w6.heap.size 49 2 (.slice (some ⟨w6.heap.size, 0, none⟩) 0 0) 0 [] := World.ownsRow_lit w6 #[] 0 (Nat.le_refl _) (by simp [maxLen]) rfl
        have Hlit2 := Lib.hid hlit2
        clear hh5 ha1 ha5 hb6 hlit2
        go_wp2_with (first
          | (at_builtin; refine wpList_append_row rfl (.tmp 34) (.tmp 35) _ _ rfl elem_raw rfl rfl Hlit2.out (Hv3.out _ (HB6.out.trans (HKb.out.mono HB6.out.size))).2 (show 0 + n3 ≤ 1099511627776 by omega) HKb.out.size ?_; intro A7 c7 w7 ho7 hg7 hat7; simp only [Nat.zero_add, List.nil_append] at ho7; have Hk7 := Lib.hid (HKb.out.grown hg7 HKb.out.size (fun q hq => (Hlit2.out.lt q hq).1)); have Ho7 := Lib.hid ho7; clear ho7 hg7 hat7)
          | (at_builtin; refine wpList_append_row rfl (.tmp 36) (.tmp 37) _ _ rfl elem_raw rfl rfl Ho7.out (Hv2.out _ (HB6.out.trans (Hk7.out.mono HB6.out.size))).2 (show n3 + n2 ≤ 1099511627776 by omega) Hk7.out.size ?_; intro A8 c8 w8 ho8 hg8 hat8; have Hk8 := Lib.hid (Hk7.out.grown hg8 Hk7.out.size (fun q hq => (Ho7.out.lt q hq).1)); have Ho8 := Lib.hid ho8; clear ho8 hg8 hat8))
        have HB8 := Lib.hid (HB6.out.trans (Hk8.out.mono HB6.out.size))
        have hh8 := own_holds Ho8.out ((rowT_app (Hv3.out _ HB8.out).1 (Hv2.out _ HB8.out).1).more HB8.out.size)
        refine (small_any 8 (by omega) 5 (by omega) 5 (app t s) A8 (n3 + n2) c8 w8.heap.size w8 rfl hh8 (app_fit Hsf.out Htf.out) (Nat.le_refl _) (own_cap Ho8.out).1 (own_cap Ho8.out).2).mono ?_
        rintro e w9 ⟨Ab, nb', cb, b, rfl, hb1, hb2, hb3, ⟨hb4, hb5⟩, hb9⟩
        rw [app_size] at hb4
        have HB9 := Lib.hid (HB8.out.trans (hb9.mono HB8.out.size))
        have Hob := Lib.hid (show OkT w9 Ab nb' cb b from ⟨hb1, hb2, hb3⟩)
        have Hoa9 := Lib.hid (Hoa.out.below (Hk8.out.trans (hb9.mono Hk8.out.size)))
        have Hab := Lib.hid hb5
        have HP := Lib.hid (paths_any 1000 (by omega) a b Aa Ab na ca nb' cb w9 Hoa9.out Hob.out (by omega) (by omega) (by omega) Haa.out Hab.out)
        clear hh8 hb1 hb5 hb9
        go_wp2_with fail
        (with_reducible refine HP.out.mono ?_)
        rintro e w10 ⟨Ap, np, cp, xs, rfl, hO, hq, hb10⟩
        have Hq := Lib.hid hO.sees
        rw [hq] at Hq
        have hln : np ≤ 800 := by have h1 := hO.len; have h2 := congrArg List.length hq; have h3 := dP_len 1000 Haa.out Hab.out; rw [qp, List.length_map] at h2; omega
        have HB10 := Lib.hid (HB9.out.trans (hb10.mono HB9.out.size))
        have Hoa10 := Lib.hid (Hoa9.out.below hb10)
        have Hob10 := Lib.hid (Hob.out.below hb10)
        have HR := Lib.hid (rpaths_any 1000 (by omega) a b Aa Ab na ca nb' cb w10 Hoa10.out Hob10.out (by omega) (by omega) Haa.out Hab.out)
        clear hO hq hb10
        go_wp2_with fail
        (with_reducible refine HR.out.mono ?_)
        rintro e w11 ⟨Ar, nr, cr, ys, rfl, hO2, hq2, hb11⟩
        have Hq2 := Lib.hid hO2.sees
        rw [hq2] at Hq2
        obtain rfl : np = nr := Hq.out.len.trans Hq2.out.len.symm
        have HB11 := Lib.hid (HB10.out.trans (hb11.mono HB10.out.size))
        have Hq11 := Lib.hid ((Hq.out.below hb11).more hb11.size)
        have HR2 := Lib.hid (paths_any 1000 (by omega) b a Ab Aa nb' cb na ca w11 (Hob10.out.below hb11) (Hoa10.out.below hb11) (by omega) (by omega) (by omega) Hab.out Haa.out)
        clear hO2 hq2 hb11
        go_wp2_with fail
        (with_reducible refine HR2.out.mono ?_)
        rintro e w12 ⟨As, ns', cs, zs, rfl, hO3, hq3, hb12⟩
        rw [dP_comm] at hq3
        have Hq3 := Lib.hid hO3.sees
        rw [hq3] at Hq3
        obtain rfl : np = ns' := Hq.out.len.trans Hq3.out.len.symm
        have HB12 := Lib.hid (HB11.out.trans (hb12.mono HB11.out.size))
        have Hq12 := Lib.hid ((Hq11.out.below hb12).more hb12.size)
        have Hq22 := Lib.hid ((Hq2.out.below hb12).more hb12.size)
        have hnn : ((np : Int) != (np : Int)) = false := by simp
        have Hlen := Lib.hid Hq.out.len
        clear hO3 hq3 hb12 Hq Hq2 Hq11
        go_wp2_with fail
        go_loopw [12] (fun i wr => ∃ k : Nat, k ≤ np ∧ i = .int .i64 k ∧ Hid (Below w12.heap.size w12 wr)) (fun i _ => np - (intOf i).toNat)
        case atStart => exact ⟨0, Nat.zero_le _, rfl, Lib.hid (Below.refl _ _)⟩
        case round =>
          obtain ⟨k, hk, rfl, HW⟩ := hrel
          by_cases hlt : k < np
          · obtain ⟨p, hp⟩ : ∃ p, (dP 1000 a b)[k]? = some p := ⟨_, List.getElem?_eq_getElem (by rw [← Hlen.out]; exact hlt)⟩
            obtain ⟨b1, o1, A1', m1, d1, rfl, hbl1, hc1, hs1, _, _⟩ := Hq12.out.at_ k p hp
            obtain ⟨b2, o2, A2', m2, d2, rfl, hbl2, hc2', hs2, _, _⟩ := Hq22.out.at_ k p hp
            obtain ⟨b3, o3, A3', m3, d3, rfl, hbl3, hc3', hs3, _, _⟩ := Hq3.out.at_ k p hp
            have hpl := dP_short 1000 a b p (List.mem_of_getElem? hp)
            have hk1 := (HW.out.cell (p := ⟨b1, o1 + k, none⟩) hbl1).trans hc1
            have hk2 := (HW.out.cell (p := ⟨b2, o2 + k, none⟩) hbl2).trans hc2'
            have hk3 := (HW.out.cell (p := ⟨b3, o3 + k, none⟩) hbl3).trans hc3'
            have hl1 := hs1.len
            have hl3 := hs3.len
            rw [List.length_map] at hl1 hl3
            have hwd : ∀ d, Below w12.heap.size w12 (wr.drewN d) := fun d => below_drewN HW.out d
            have HSa := Lib.hid (show ∀ d, Calls Try.prog 13 #[.slice A1' m1 d1, .slice A2' m2 d2] (wr.drewN d) fun e w' => e = .returned (.bool true) ∧ ∃ m, w' = (wr.drewN d).drewN m from
              fun d => samep_any p A1' A2' m1 d1 m2 d2 w12.heap.size (wr.drewN d) (hs1.below (hwd d)) (hs2.below (hwd d)) (by omega))
            have HSb := Lib.hid (show ∀ d, Calls Try.prog 13 #[.slice A3' m3 d3, .slice A2' m2 d2] (wr.drewN d) fun e w' => e = .returned (.bool true) ∧ ∃ m, w' = (wr.drewN d).drewN m from
              fun d => samep_any p A3' A2' m3 d3 m2 d2 w12.heap.size (wr.drewN d) (hs3.below (hwd d)) (hs2.below (hwd d)) (by omega))
            have hkn : (k : Int) < (np : Int) := by omega
            have hk0 : (0 : Int) ≤ (k : Int) := by omega
            have Hwd := Lib.hid hwd
            have Hlt := Lib.hid hlt
            clear hp hc1 hc2' hc3' hs1 hs2 hs3 hpl hl1 hl3 hwd hlt
            go_wp2_with fail
            go_quiet ((first | (go_at_call 13; with_reducible exact Calls.quiet_of (HSa.out _)) | (go_at_call 13; with_reducible exact Calls.quiet_of (HSb.out _))))
            go_wp2_with fail
            go_roundw
            case rel => exact ⟨k + 1, Hlt.out, by go_num, Lib.hid (Hwd.out _)⟩
            case measure => have := Hlt.out; simp [intOf]; omega
          · obtain rfl : k = np := by omega
            have HBr := Lib.hid (HB12.out.trans (HW.out.mono HB12.out.size))
            clear hlt
            go_wp2_with fail
            go_ret
            exact ⟨rfl, HBr.out⟩
      · rw [decide_eq_true h1c] at hF
        rw [decide_eq_true h2c] at hF2
        rw [decide_eq_false h3c] at hF3
        have HF := Lib.hid hF
        have HF2 := Lib.hid hF2
        have HF3 := Lib.hid hF3
        clear hF hF2 hF3 h1c h2c h3c h h2 h3
        go_enter Try.func3, Try.ntmps3
        go_wp2_with fail
        (with_reducible refine HK.out.mono ?_)
        rintro e w1 ⟨rfl, hb1⟩
        go_wp2_with fail
        (with_reducible refine (HF.out w1 hb1).mono ?_)
        rintro e _ ⟨rfl, rfl⟩
        go_wp2_with fail
        (with_reducible refine (HF2.out w1 hb1).mono ?_)
        rintro e _ ⟨rfl, rfl⟩
        go_wp2_with fail
        (with_reducible refine (HF3.out w1 hb1).mono ?_)
        rintro e _ ⟨rfl, rfl⟩
        go_wp2_with fail
        go_ret
        exact ⟨rfl, hb1⟩
    · rw [decide_eq_true h1c] at hF
      rw [decide_eq_false h2c] at hF2
      have HF := Lib.hid hF
      have HF2 := Lib.hid hF2
      clear hF hF2 hF3 h1c h2c h h2 h3
      go_enter Try.func3, Try.ntmps3
      go_wp2_with fail
      (with_reducible refine HK.out.mono ?_)
      rintro e w1 ⟨rfl, hb1⟩
      go_wp2_with fail
      (with_reducible refine (HF.out w1 hb1).mono ?_)
      rintro e _ ⟨rfl, rfl⟩
      go_wp2_with fail
      (with_reducible refine (HF2.out w1 hb1).mono ?_)
      rintro e _ ⟨rfl, rfl⟩
      go_wp2_with fail
      go_ret
      exact ⟨rfl, hb1⟩
  · rw [decide_eq_false h1c] at hF
    have HF := Lib.hid hF
    clear hF hF2 hF3 h1c h h2 h3
    go_enter Try.func3, Try.ntmps3
    go_wp2_with fail
    (with_reducible refine HK.out.mono ?_)
    rintro e w1 ⟨rfl, hb1⟩
    go_wp2_with fail
    (with_reducible refine (HF.out w1 hb1).mono ?_)
    rintro e _ ⟨rfl, rfl⟩
    go_wp2_with fail
    go_ret
    exact ⟨rfl, hb1⟩
end Go.Proofs.Ytcfaocjgflefmaa.Df
