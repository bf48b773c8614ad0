/- The reference's Put of ini, at a file that is read and a tree that fits. Conditions: the tree's names. -/
import Derived.Test.YtapgaglkkgbgkaaGreatDoorInPutX
import Derived.Test.YtapgaglkkgbgkaaGreatDoorMwInTnM
import Derived.Deep.RegionHeld3
import Derived.Deep.CutRange
import Derived.Deep.QuietTactic
import Derived.Outline
namespace Go.Proofs.YtapgaglkkgbgkaaGreatDoor.In
open Go.RowKit Go.Proofs.YtapgaglkkgbgkaaGreatDoor.Jd Go.Proofs.YtapgaglkkgbgkaaGreatDoor.Li Go.Proofs.YtapgaglkkgbgkaaGreatDoor.Cl Go.Proofs.YtapgaglkkgbgkaaGreatDoor.Pt Go.Proofs.YtapgaglkkgbgkaaGreatDoor.Cv
set_option maxRecDepth 100000

def secsF (old : Tr) (E : Bs) (l : List (ByteArray × Tr)) : List Ln := (l.filter fun e => !(old.atIs e.1)).flatMap (secL E)
theorem secs_step {old : Tr} {E : Bs} {l : List (ByteArray × Tr)} {k : Nat} {e : ByteArray × Tr} (h : l[k]? = some e) : secsF old E (l.take (k + 1)) = secsF old E (l.take k) ++ (if old.atIs e.1 = true then [] else secL E e) := by
  rw [List.take_add_one, h, secsF, secsF, Option.toList_some, List.filter_append, List.flatMap_append]
  by_cases hi : old.atIs e.1 = true
  · rw [if_pos hi]; simp [hi]
  · rw [if_neg hi]; simp [hi]
theorem sec_lines (E : Bs) (e : ByteArray × Tr) : linesT E (([91] ++ e.1.data.toList ++ [93]) :: frF .nil (eds e.2)) = secL E e := by
  have h : frF .nil (eds e.2) = (eds e.2).map txtK := by
    unfold frF
    rw [List.filter_eq_self.2]
    intro x _
    rfl
  rw [h, linesT, secL, List.map_cons, List.map_map]
  rfl
theorem own_one {V : World} {base g : Nat} {y : ByteArray} (hb : base ≤ g) (hV : V.heap[g]? = some (Obj.cells #[Value.string y] 9 (0, 0))) : OwnSt V base (some ⟨g, 0, none⟩) 1 1 [y.data.toList] :=
  ⟨rfl, .inr ⟨g, 1, #[.string y], rfl, hb, hV, Nat.le_refl _, by simp [maxLen], rfl, rfl⟩⟩
theorem OwnSt.src {V : World} {base n c : Nat} {A : Option Addr} {rs : List Bs} (h : OwnSt V base A n c rs) : Src Tryz.prog 1 28 (.slice A n c) n (rs.map Li.encs) V := by
  have hl := h.len
  rcases own_form h with ⟨rfl, rfl, hl2⟩ | ⟨g, rfl, _, hgl, _, _, hc⟩
  · rw [hl2]; exact Src.ofNil V Tryz.underlying28 c
  · refine Src.ofSlice V Tryz.underlying28 ⟨g, 0, none⟩ n c (rs.map Li.encs) (by rw [List.length_map, hl, Nat.mul_one]) (fun j u hu => by rw [Addr.add_lit]; exact hc j u hu) (fun u hu => ?_)
    obtain ⟨x, _, rfl⟩ := List.mem_map.1 hu
    rfl
theorem one_more {W : World} {base c : Nat} {A : Option Addr} {y : Bs} {F : List Bs} (h : W.ownsRow base 9 1 (.slice A (1 + F.length) c) (1 + F.length) (List.map Li.encs [y] ++ List.map Li.encs F)) : SeesV W W.heap.size A (1 + F.length) ((y :: F).map Li.encs) := by
  rw [← List.map_append] at h
  exact OwnSt.sees (rs := y :: F) h
theorem drop_size2 : ∀ {t : Tr} {i : Nat} {s : ByteArray} {k r : Tr}, t.dropT i = .cons s k r → k.size ≤ t.size
  | .nil, 0, _, _, _, h => by cases h
  | .nil, _ + 1, _, _, _, h => by cases h
  | .cons _ _ _, 0, _, _, _, h => by rw [dropT_zero] at h; injection h with _ h2 _; subst h2; simp only [Tr.size]; omega
  | .cons _ _ r', i + 1, _, _, _, h => by
    have := drop_size2 (t := r') (i := i) (by simpa [Tr.dropT] using h)
    simp only [Tr.size]; omega
theorem text_eq {a b : ByteArray} : (a.toList = b.toList) ↔ a = b := ⟨fun h => bytes_eq h, fun h => by rw [h]⟩
set_option maxHeartbeats 64000000 in
theorem rput_sound (s : ByteArray) (T t : Tr) (A : Option Addr) (n c : Nat) (w : World) (hR : readI s.data.toList = (T, 0, 0)) (hF : fitsM t = 0) (hsz : t.size ≤ 17179869184) (hnm : Tr.Nm t) (ht : OkT w A n c t) :
    Calls Tryz.prog 21 #[.slice A n c, .string s] w fun e w' => e = .returned (.tuple #[.string (mkB (putM t s.data.toList).1), .int .i64 (putM t s.data.toList).2]) ∧ Below w.heap.size w w' := by
  have hz0 : (readI s.data.toList).2.2 = 0 := by rw [hR]
  obtain ⟨h4, h5⟩ := read_zero hz0
  have hft := fits_ok hF
  have hrt := rows_tags h5
  have hTe : T = treeI (partsI [⟨[], []⟩] 0 (split s.data.toList)).1 := by
    have := (read_fits hz0).1
    rw [hR] at this
    exact congrArg Prod.fst this
  have hput := put_some hz0 hF
  have href := ref_put h5 hft.fit
  rw [← hTe] at hrt href
  have hss : s.size ≤ 4000 := h4
  obtain ⟨RS, hRS⟩ : ∃ RS, RS = tagsP (partsI [⟨[], []⟩] 0 (split s.data.toList)).1 := ⟨_, rfl⟩
  rw [← hRS] at hrt href
  have hlz := split_sz h4
  have hrow := rows_row (split s.data.toList) .nil [] false 0 [] hlz (by rw [hrt])
  rw [hrt] at hrow
  have hsl : (split s.data.toList).length ≤ 4000 := Nat.le_trans (split_le _) h4
  have hel := end_len h4
  obtain ⟨L, hL⟩ : ∃ L, L = split s.data.toList := ⟨_, rfl⟩
  have HSp := Lib.hid (fun W => rsplit_any s W (by omega))
  rw [← hL] at hrt href hlz hrow hsl hel HSp
  obtain ⟨rest, e1, e2, e3⟩ := hrow
  obtain rfl : RS = rest := by simpa using e1
  obtain ⟨E, hE⟩ : ∃ E, E = mkB (endOf L) := ⟨_, rfl⟩
  have hEd : E.data.toList = endOf L := by rw [hE, mkB_bytes]
  have hEz : E.data.toList.length ≤ 4000 := by rw [hEd]; exact hel
  rw [← hEd] at href
  obtain ⟨Pf, hPf⟩ : ∃ Pf, Pf = putF t s.data.toList := ⟨_, rfl⟩
  rw [← hPf] at href hput
  obtain ⟨Z, hZ⟩ : ∃ Z, Z = putM t s.data.toList := ⟨_, rfl⟩
  rw [← hZ] at hput ⊢
  obtain ⟨G, hG⟩ : ∃ G, G = loopR t T E.data.toList (RS.zip L) none [] 0 := ⟨_, rfl⟩
  have hgo : goR t T E.data.toList RS L 0 [] 0 = G := by rw [go_start, hG]
  have hjoin : join (ended E.data.toList (G ++ secsF T E.data.toList (eds t))) = Pf := by rw [hG]; exact href
  obtain ⟨N, hN⟩ : ∃ N, N = L.length := ⟨_, rfl⟩
  have HN := Lib.hid hN
  have HrN : Hid (RS.length = N) := Lib.hid (by rw [e2, hN])
  have HRow := Lib.hid e3
  have Hgo := Lib.hid hgo
  have Hjoin := Lib.hid hjoin
  have Hput := Lib.hid hput
  have HEz := Lib.hid hEz
  have HFt := Lib.hid hft
  have Hlz := Lib.hid hlz
  have hN4 : N ≤ 4000 := by omega
  have HTf : Hid (Tn 400 T) := Lib.hid (by have := readI_few s.data.toList; rw [hR] at this; exact this)
  have HRl := Lib.hid (rload_any s w (by omega))
  rw [hR] at HRl
  have HFi := Lib.hid (fun (W : World) (hW : Below w.heap.size w W) => rfits_any t A n c W (ht.below hW).holds hsz hnm)
  rw [hF] at HFi
  have HHt := Lib.hid ht
  have htn := ht.holds.len
  have htl := t.len_size
  have Htn : Hid (n ≤ 400 ∧ (eds t).length = n) := Lib.hid ⟨by have := hft.size; omega, by rw [eds_len]; exact htn.symm⟩
  have HRWS := Lib.hid hrt
  clear hR hF hsz hnm ht hz0 h4 h5 hft hrt hTe hput href hRS hlz hsl hel e1 e2 e3 hEd hEz hPf hZ hG hgo hjoin htn htl
  go_enter Tryz.func21, Tryz.ntmps21
  go_wp2_with fail
  (with_reducible refine HRl.out.mono ?_)
  rintro e w1 ⟨Al, nl, cl, rfl, hT1, hnl, hcl, hb1⟩
  have HB1 := Lib.hid hb1
  have HT1 := Lib.hid hT1
  have HFi1 := Lib.hid (HFi.out w1 hb1)
  clear hT1 hnl hcl hb1
  dsimp only
  go_wp2_with fail
  (with_reducible refine HFi1.out.mono ?_)
  rintro e w2 ⟨rfl, hb2⟩
  have HB2 := Lib.hid (HB1.out.trans (hb2.mono HB1.out.size))
  have HT2 := Lib.hid ((HT1.out.below hb2).more hb2.size)
  have HSp2 := Lib.hid (HSp.out w2)
  clear hb2
  go_wp2_with fail
  (with_reducible refine HSp2.out.mono ?_)
  rintro e w3 ⟨A1, c1, rfl, ho1, hb3⟩
  rw [← hN] at ho1
  have HB3 := Lib.hid (HB2.out.trans (hb3.mono HB2.out.size))
  have HT3 := Lib.hid ((HT2.out.below hb3).more hb3.size)
  have HL3 := Lib.hid ho1.sees
  have hend := rend_any L A1 N c1 w3.heap.size w3 (Nat.le_refl _) ho1.sees ho1.cap.1 (by omega)
  rw [show Li.encs (endOf L) = .string E by rw [hE]; rfl] at hend
  have HEnd := Lib.hid hend
  have HRr := Lib.hid (rrows_any L A1 N c1 w3.heap.size w3 ho1.sees (Nat.le_refl _) (by omega) (fun x hx => (Hlz.out x hx).1))
  rw [HRWS.out] at HRr
  clear ho1 hb3 hend hE hL
  rw [← hN]
  clear hN
  go_wp2_with fail
  (with_reducible refine HEnd.out.mono ?_)
  rintro e w3' ⟨rfl, rfl⟩
  go_wp2_with fail
  (with_reducible refine HRr.out.mono ?_)
  rintro e wv ⟨A2, At2, c2, nt2, ct2, rfl, ho2, _, _, _, hb4⟩
  dsimp only at ho2
  dsimp only
  rw [HrN.out] at ho2
  rw [HrN.out]
  have HBv := Lib.hid (HB3.out.trans (hb4.mono HB3.out.size))
  have HTv := Lib.hid ((HT3.out.below hb4).more hb4.size)
  have HLv := Lib.hid ((HL3.out.below hb4).more hb4.size)
  have HRv := Lib.hid (OwnRr.sees ho2)
  have Htv := Lib.hid (HHt.out.below HBv.out)
  clear ho2 hb4
  have HLc := Lib.hid (fun (W : World) (hW : Below wv.heap.size wv W) (k : Nat) (x : Ln) (hx : L[k]? = some x) => (HLv.out.below hW).at_ hx)
  have HRc := Lib.hid (fun (W : World) (hW : Below wv.heap.size wv W) (k : Nat) (r : Rr) (hr : RS[k]? = some r) => (HRv.out.below hW).cell k r hr)
  have HKid := Lib.hid (fun (W : World) (q : ByteArray) (hW : Below wv.heap.size wv W) => kidB_any t A n c q W (HoldsP.of (Htv.out.below hW).holds) (fun _ hb => hb) (by have := HFt.out.size; omega))
  have HKold := Lib.hid (fun (W : World) (q : ByteArray) (hW : Below wv.heap.size wv W) => kidB_any T Al nl cl q W (HoldsP.of ((HTv.out.below hW).more hW.size)) (fun _ hb => hb) (by have := HTf.out.1; omega))
  have HCl := Lib.hid (fun (W : World) (hW : Below wv.heap.size wv W) (out : List Ln) (A' : Option Addr) (m c' last i : Nat) (ho : OwnL W wv.heap.size A' m c' out) (hm : m ≤ 50000000) (hl : last ≤ m) (hi : i ≤ N) => rclosed_any out RS t T E A' A2 A Al m c' last N c2 i n c nl cl wv.heap.size W ho hW.size hm hl ((HRv.out.below hW).more hW.size) hi (by omega) (Htv.out.below hW).holds HFt.out.fit HFt.out.n80 (by have := HFt.out.size; omega) ((HTv.out.below hW).more hW.size) (by have := HTf.out.1; omega))
  go_wp2_with fail
  go_loopw [15, 16, 17] (fun ov lv iv wr => ∃ (k m last c' : Nat) (A' : Option Addr) (out : List Ln), k ≤ N ∧ ov = .slice A' m c' ∧ lv = .int .i64 last ∧ iv = .int .i64 k ∧ Hid (OwnL wr wv.heap.size A' m c' out) ∧ Hid (last ≤ m ∧ m ≤ 401 * k) ∧ Hid (LsB out) ∧ Hid (Below wv.heap.size wv wr) ∧ Hid (goR t T E.data.toList RS L k out last = G)) (fun _ _ i _ => N + 1 - (intOf i).toNat)
  case atStart => exact ⟨0, 0, 0, 0, none, [], Nat.zero_le _, rfl, rfl, rfl, Lib.hid (World.ownsRow_nil _ _ _ _), Lib.hid (by omega), Lib.hid (fun x hx => by cases hx), Lib.hid (Below.refl _ _), Hgo⟩
  case round =>
    obtain ⟨k, m, last, c', A', out, hk, rfl, rfl, rfl, HO, HM, HB, HW, HG⟩ := hrel
    have hk0 : (0 : Int) ≤ (k : Int) := by omega
    have hkN : (k : Int) ≤ (N : Int) := by omega
    by_cases hlt : k < N
    · have hkn : (k : Int) < (N : Int) := by omega
      have hne : ((k : Int) == (N : Int)) = false := by rw [beq_eq_false_iff_ne]; omega
      obtain ⟨r, hr⟩ : ∃ r, RS[k]? = some r := ⟨_, List.getElem?_eq_getElem (by rw [HrN.out]; exact hlt)⟩
      obtain ⟨x, hx⟩ : ∃ x, L[k]? = some x := ⟨_, List.getElem?_eq_getElem (by rw [← HN.out]; exact hlt)⟩
      have hrow := HRow.out k r x hr hx
      have hxz := Hlz.out x (List.mem_of_getElem? hx)
      have hstep := go_step (t := t) (old := T) (E := E.data.toList) (out := out) (last := last) hr hx
      rw [HG.out] at hstep
      have HLk := Lib.hid (fun (W : World) (hW : Below wv.heap.size wv W) => HLc.out W hW k x hx)
      have HRk := Lib.hid (fun (W : World) (hW : Below wv.heap.size wv W) => HRc.out W hW k r hr)
      obtain ⟨bl, ol, rfl, z1, z2, z3⟩ := HLk.out wv (Below.refl _ _)
      clear z1 z2 z3
      obtain ⟨br, orr, rfl, hbr0, z4⟩ := HRk.out wv (Below.refl _ _)
      have Hbr0 : Hid (br < wv.heap.size) := Lib.hid hbr0
      clear hbr0 z4
      obtain ⟨kd, rsec, rkey, rval, a0, a1⟩ := r
      dsimp only at hstep hrow
      obtain ⟨x1, hx1⟩ : ∃ x1, x1 = mkB x.1 := ⟨_, rfl⟩
      obtain ⟨x2, hx2⟩ : ∃ x2, x2 = mkB x.2 := ⟨_, rfl⟩
      obtain ⟨sb, hsb⟩ : ∃ sb, sb = mk rsec := ⟨_, rfl⟩
      obtain ⟨kb, hkb⟩ : ∃ kb, kb = mk rkey := ⟨_, rfl⟩
      obtain ⟨vb, hvb⟩ : ∃ vb, vb = mk rval := ⟨_, rfl⟩
      have HCx := Lib.hid (fun (W : World) (hW : Below wv.heap.size wv W) => (by
        obtain ⟨b', o', e, _, h1, h2⟩ := HLk.out W hW
        injection e with e
        injection e with e1 e2
        subst e1; subst e2
        rw [hx1, hx2]
        exact ⟨h1, h2⟩ : W.cell? ⟨bl, ol + k * 2, none⟩ = some (.string x1) ∧ W.cell? ⟨bl, ol + k * 2 + 1, none⟩ = some (.string x2)))
      have HCr := Lib.hid (fun (W : World) (hW : Below wv.heap.size wv W) => (by
        obtain ⟨b', o', e, _, h0, h1, h2, h3, h4, h5⟩ := HRk.out W hW
        injection e with e
        injection e with e1 e2
        subst e1; subst e2
        rw [hsb, hkb, hvb]
        exact ⟨h0, h1, h2, h3, h4, h5⟩ : W.cell? ⟨br, orr + k * 6, none⟩ = some (.int .i64 kd) ∧ W.cell? ⟨br, orr + k * 6 + 1, none⟩ = some (.string sb) ∧ W.cell? ⟨br, orr + k * 6 + 2, none⟩ = some (.string kb) ∧ W.cell? ⟨br, orr + k * 6 + 3, none⟩ = some (.string vb) ∧ W.cell? ⟨br, orr + k * 6 + 4, none⟩ = some (.int .i64 a0) ∧ W.cell? ⟨br, orr + k * 6 + 5, none⟩ = some (.int .i64 a1)))
      have hxe : x = (x1.data.toList, x2.data.toList) := by rw [hx1, hx2, mkB_bytes, mkB_bytes]
      have hvl : rval = vb.data.toList := by rw [hvb]; rfl
      have hxs1 : x1.size ≤ 4000 := by rw [hx1, mkB_size]; exact hxz.1
      have hxs2 : x2.size ≤ 4000 := by rw [hx2, mkB_size]; exact hxz.2
      have ha01 : a0 ≤ a1 := hrow.2.1
      have ha1x : a1 ≤ x1.size := by rw [hx1, mkB_size]; exact hrow.2.2
      have hkd2 : kd ≤ 2 := hrow.1
      have hLx : LnB x := ⟨by have := hxz.1; omega, hxz.2⟩
      subst hxe
      obtain ⟨X, hX⟩ : ∃ X, X = kidT t sb := ⟨_, rfl⟩
      obtain ⟨is, his⟩ : ∃ b, b = t.atIs sb := ⟨_, rfl⟩
      obtain ⟨has, hhas⟩ : ∃ b, b = X.atIs kb := ⟨_, rfl⟩
      obtain ⟨V, hV⟩ : ∃ V, V = kidT X kb := ⟨_, rfl⟩
      rw [← hsb, ← hX, ← his] at hstep
      unfold lineR at hstep
      dsimp only at hstep
      rw [← hkb, ← hhas, ← hV, hvl] at hstep
      have HK1 := Lib.hid (fun (W : World) (hW : Below wv.heap.size wv W) => HKid.out W sb hW)
      rw [← hX, ← his] at HK1
      have hXz : X.size ≤ 400 := by rw [hX]; exact Nat.le_trans kid_sz HFt.out.size
      have HK2 := Lib.hid (fun (W : World) (Ax : Option Addr) (nx cx : Nat) (h : HoldsP W (· < W.heap.size) Ax nx X) => kidB_any X Ax nx cx kb W h (fun _ hb => hb) (by omega))
      rw [← hhas, ← hV] at HK2
      have HVf : Hid (has = true → ∃ v, V = .cons v .nil .nil ∧ v.size ≤ 80) := Lib.hid (fun hh => by
        rw [hhas] at hh
        have hfx : allT fkB X = true := by rw [hX]; exact kid_fk HFt.out.fit
        have hnx : N80 X := by rw [hX]; exact kid_n80 HFt.out.n80
        have hfk : fkB kb (kidT X kb) = true := allT_mem hfx _ (kid_mem hh)
        obtain ⟨_, v, hv, _, _⟩ := fk_form hfk
        have h80 := kid_n80 (q := kb) hnx
        rw [← hV] at hv h80
        rw [hv] at h80
        exact ⟨v, hv, h80.1⟩)
      have Hlt := Lib.hid hlt
      clear HLk HRk hr hx hrow hxz hx1 hx2 hsb hkb hvb hvl hX his hhas hV hXz
      by_cases h0 : kd = 0
      · have q0 : ((kd : Int) == 0) = true := by rw [h0]; rfl
        have q1 : ((kd : Int) == 1) = false := by rw [h0]; rfl
        have q2 : ((kd : Int) == 2) = false := by rw [h0]; rfl
        rw [if_pos h0] at hstep
        dsimp only at hstep
        rw [if_neg (by omega : ¬ kd = 1), if_pos h0] at hstep
        have HGn : Hid (goR t T E.data.toList RS L (k + 1) (out ++ [(x1.data.toList, x2.data.toList)]) last = G) := Lib.hid hstep.symm
        have HMbb : Hid (LsB (out ++ [(x1.data.toList, x2.data.toList)])) := Lib.hid (HB.out.app (LsB.one hLx))
        have HMb : Hid (m ≤ 401 * k ∧ k ≤ 4000) := Lib.hid ⟨HM.out.2, by omega⟩
        clear hstep h0 ha01 ha1x hkd2 hLx hlt hxs1 hxs2
        obtain ⟨f0, f1, f2, f3, f4, f5⟩ := HCr.out wr HW.out
        obtain ⟨g0, g1⟩ := HCx.out wr HW.out
        go_wp2_with fail
        (with_reducible refine (HK1.out wr HW.out).mono ?_)
        rintro e u2 ⟨Ax, nx, cx, rfl, hX2, _, _, hb2⟩
        have HU2 := Lib.hid (HW.out.trans (hb2.mono HW.out.size))
        have HO2 := Lib.hid (HO.out.below hb2)
        have HX2 := Lib.hid (hX2.more (P' := (· < u2.heap.size)) (fun b hb => Nat.lt_of_lt_of_le hb hb2.size))
        clear f0 f1 f2 f3 f4 f5 g0 g1 hX2 hb2
        obtain ⟨f0, f1, f2, f3, f4, f5⟩ := HCr.out u2 HU2.out
        obtain ⟨g0, g1⟩ := HCx.out u2 HU2.out
        go_wp2_with fail
        (with_reducible refine (HK2.out u2 Ax nx cx HX2.out).mono ?_)
        rintro e u3 ⟨Av, nv, cv, rfl, hV3, _, _, hb3⟩
        have HU3 := Lib.hid (HU2.out.trans (hb3.mono HU2.out.size))
        have HO3 := Lib.hid (HO2.out.below hb3)
        have HV3 := Lib.hid (hV3.more (P' := (· < u3.heap.size)) (fun b hb => Nat.lt_of_lt_of_le hb hb3.size))
        clear f0 f1 f2 f3 f4 f5 g0 g1 hV3 hb3
        obtain ⟨f0, f1, f2, f3, f4, f5⟩ := HCr.out u3 HU3.out
        obtain ⟨g0, g1⟩ := HCx.out u3 HU3.out
        have hb46 : m + 1 ≤ 1099511627776 := by have := HMb.out; omega
        have huz := HU3.out.size
        go_wp2_with (at_builtin; refine wpList_append_row rfl (.tmp 111) (.tmp 116) _ _ rfl elem_line rfl rfl (HO3.out.alloc _) (src_line u3 x1.data.toList x2.data.toList _ (rfl : #[Value.string x1, Value.string x2] = #[Li.encs x1.data.toList, Li.encs x2.data.toList]) _ rfl) hb46 (by simp; omega) ?_; intro A7 c7 w7 ho7 hg7 hat7)
        have HO7 : Hid (OwnL w7 wv.heap.size A7 (m + 1) c7 (out ++ [(x1.data.toList, x2.data.toList)])) := Lib.hid (by unfold OwnL; rw [lcells_append]; exact ho7)
        have HW7 : Hid (Below wv.heap.size wv w7) := Lib.hid ((HU3.out.alloc huz _).grown hg7 (by simp; omega) (fun q hq => (World.ownsRow.lt HO3.out q hq).1))
        clear ho7 hg7 hat7
        go_wp2_with fail
        go_roundw
        case rel => exact ⟨k + 1, m + 1, last, c7, A7, _, Hlt.out, rfl, by first | rfl | go_num | simp, by go_num, HO7, Lib.hid (by have := HMb.out; have := HM.out; omega), HMbb, HW7, HGn⟩
        case measure => have := Hlt.out; simp [intOf]; omega
      · by_cases h1 : kd = 1
        · have q0 : ((kd : Int) == 0) = false := by rw [h1]; rfl
          have q1 : ((kd : Int) == 1) = true := by rw [h1]; rfl
          have q2 : ((kd : Int) == 2) = false := by rw [h1]; rfl
          rw [if_neg h0, if_pos h1] at hstep
          rw [if_pos h1] at hstep
          have HCl1 := Lib.hid (HCl.out wr HW.out out A' m c' last k HO.out (by have := HM.out; omega) HM.out.1 (by omega))
          have hcb := close_b (t := t) (old := T) (cur := curR (RS.take k)) (last := last) HEz.out HFt.out.n80 HFt.out.size HB.out
          obtain ⟨R1, hR1⟩ : ∃ R1, R1 = closeR t T E.data.toList (curR (RS.take k)) out last := ⟨_, rfl⟩
          rw [← hR1] at HCl1 hcb hstep
          have hom : m = out.length := HO.out.sees.len
          obtain ⟨m1, hm1⟩ : ∃ m1, m1 = R1.length := ⟨_, rfl⟩
          have HMb : Hid (m1 ≤ 401 * k + 400 ∧ k ≤ 4000 ∧ m ≤ m1) := Lib.hid ⟨by have := hcb.2.1; have := HM.out.2; omega, by omega, by have := hcb.2.2; omega⟩
          have HRb := Lib.hid hcb.1
          have H0 := Lib.hid h0
          have HLxx := Lib.hid hLx
          have Hm1 := Lib.hid hm1
          unfold ClP at HCl1
          rw [← hm1] at HCl1
          have Hst := Lib.hid hstep
          clear hstep h0 h1 ha01 ha1x hkd2 hLx hlt hxs1 hxs2 hR1 hcb hom hm1
          obtain ⟨f0, f1, f2, f3, f4, f5⟩ := HCr.out wr HW.out
          obtain ⟨g0, g1⟩ := HCx.out wr HW.out
          go_wp2_with fail
          (with_reducible refine HCl1.out.mono ?_)
          rintro e u1 ⟨A8, c8, rfl, ho8, hb8⟩
          have HU1 := Lib.hid (HW.out.trans (hb8.mono HW.out.size))
          have HO1 : Hid (OwnL u1 wv.heap.size A8 m1 c8 R1) := Lib.hid ho8
          clear f0 f1 f2 f3 f4 f5 g0 g1 ho8 hb8
          obtain ⟨f0, f1, f2, f3, f4, f5⟩ := HCr.out u1 HU1.out
          obtain ⟨g0, g1⟩ := HCx.out u1 HU1.out
          go_wp2_with fail
          (with_reducible refine (HK1.out u1 HU1.out).mono ?_)
          rintro e u2 ⟨Ax, nx, cx, rfl, hX2, _, _, hb2⟩
          have HU2 := Lib.hid (HU1.out.trans (hb2.mono HU1.out.size))
          have HO2 := Lib.hid (HO1.out.below hb2)
          have HX2 := Lib.hid (hX2.more (P' := (· < u2.heap.size)) (fun b hb => Nat.lt_of_lt_of_le hb hb2.size))
          clear f0 f1 f2 f3 f4 f5 g0 g1 hX2 hb2
          obtain ⟨f0, f1, f2, f3, f4, f5⟩ := HCr.out u2 HU2.out
          obtain ⟨g0, g1⟩ := HCx.out u2 HU2.out
          go_wp2_with fail
          (with_reducible refine (HK2.out u2 Ax nx cx HX2.out).mono ?_)
          rintro e u3 ⟨Av, nv, cv, rfl, hV3, _, _, hb3⟩
          have HU3 := Lib.hid (HU2.out.trans (hb3.mono HU2.out.size))
          have HO3 := Lib.hid (HO2.out.below hb3)
          have HV3 := Lib.hid (hV3.more (P' := (· < u3.heap.size)) (fun b hb => Nat.lt_of_lt_of_le hb hb3.size))
          clear f0 f1 f2 f3 f4 f5 g0 g1 hV3 hb3
          obtain ⟨f0, f1, f2, f3, f4, f5⟩ := HCr.out u3 HU3.out
          obtain ⟨g0, g1⟩ := HCx.out u3 HU3.out
          cases is with
          | false =>
            have HGn : Hid (goR t T E.data.toList RS L (k + 1) R1 last = G) := Lib.hid (by have h := Hst.out; rw [if_neg (by decide)] at h; exact h.symm)
            have HMbb := HRb
            go_wp2_with fail
            go_roundw
            case rel => exact ⟨k + 1, m1, last, c8, A8, _, Hlt.out, rfl, rfl, by go_num, HO3, Lib.hid (by have := HMb.out; have := HM.out; omega), HMbb, HU3, HGn⟩
            case measure => have := Hlt.out; simp [intOf]; omega

          | true =>
            have HGn : Hid (goR t T E.data.toList RS L (k + 1) (R1 ++ [(x1.data.toList, x2.data.toList)]) (m1 + 1) = G) := Lib.hid (by have h := Hst.out; rw [if_pos rfl] at h; dsimp only at h; rw [if_neg H0.out, ← Hm1.out] at h; exact h.symm)
            have HMbb : Hid (LsB (R1 ++ [(x1.data.toList, x2.data.toList)])) := Lib.hid (HRb.out.app (LsB.one HLxx.out))
            have hb46 : m1 + 1 ≤ 1099511627776 := by have := HMb.out; omega
            have huz := HU3.out.size
            go_wp2_with (at_builtin; refine wpList_append_row rfl (.tmp 128) (.tmp 133) _ _ rfl elem_line rfl rfl (HO3.out.alloc _) (src_line u3 x1.data.toList x2.data.toList _ (rfl : #[Value.string x1, Value.string x2] = #[Li.encs x1.data.toList, Li.encs x2.data.toList]) _ rfl) hb46 (by simp; omega) ?_; intro A7 c7 w7 ho7 hg7 hat7)
            have HO7 : Hid (OwnL w7 wv.heap.size A7 (m1 + 1) c7 (R1 ++ [(x1.data.toList, x2.data.toList)])) := Lib.hid (by unfold OwnL; rw [lcells_append]; exact ho7)
            have HW7 : Hid (Below wv.heap.size wv w7) := Lib.hid ((HU3.out.alloc huz _).grown hg7 (by simp; omega) (fun q hq => (World.ownsRow.lt HO3.out q hq).1))
            clear ho7 hg7 hat7
            go_wp2_with fail
            go_roundw
            case rel => exact ⟨k + 1, m1 + 1, m1 + 1, c7, A7, _, Hlt.out, rfl, by first | rfl | go_num | simp, by go_num, HO7, Lib.hid (by have := HMb.out; have := HM.out; omega), HMbb, HW7, HGn⟩
            case measure => have := Hlt.out; simp [intOf]; omega
        · have h2 : kd = 2 := by omega
          have q0 : ((kd : Int) == 0) = false := by rw [h2]; rfl
          have q1 : ((kd : Int) == 1) = false := by rw [h2]; rfl
          have q2 : ((kd : Int) == 2) = true := by rw [h2]; rfl
          rw [if_neg h0, if_neg h1] at hstep
          rw [if_neg h1] at hstep
          rw [if_neg h0] at hstep
          have Hom : Hid (m = out.length) := Lib.hid HO.out.sees.len
          have HMb : Hid (m ≤ 401 * k ∧ k ≤ 4000) := Lib.hid ⟨HM.out.2, by omega⟩
          have HLxx := Lib.hid hLx
          have Hst := Lib.hid hstep
          clear hstep h0 h1 h2 hkd2 hLx hlt
          obtain ⟨f0, f1, f2, f3, f4, f5⟩ := HCr.out wr HW.out
          obtain ⟨g0, g1⟩ := HCx.out wr HW.out
          go_wp2_with fail
          (with_reducible refine (HK1.out wr HW.out).mono ?_)
          rintro e u2 ⟨Ax, nx, cx, rfl, hX2, _, _, hb2⟩
          have HU2 := Lib.hid (HW.out.trans (hb2.mono HW.out.size))
          have HO2 := Lib.hid (HO.out.below hb2)
          have HX2 := Lib.hid (hX2.more (P' := (· < u2.heap.size)) (fun b hb => Nat.lt_of_lt_of_le hb hb2.size))
          clear f0 f1 f2 f3 f4 f5 g0 g1 hX2 hb2
          obtain ⟨f0, f1, f2, f3, f4, f5⟩ := HCr.out u2 HU2.out
          obtain ⟨g0, g1⟩ := HCx.out u2 HU2.out
          go_wp2_with fail
          (with_reducible refine (HK2.out u2 Ax nx cx HX2.out).mono ?_)
          rintro e u3 ⟨Av, nv, cv, rfl, hV3, _, _, hb3⟩
          have HU3 := Lib.hid (HU2.out.trans (hb3.mono HU2.out.size))
          have HO3 := Lib.hid (HO2.out.below hb3)
          have HV3 := Lib.hid (hV3.more (P' := (· < u3.heap.size)) (fun b hb => Nat.lt_of_lt_of_le hb hb3.size))
          clear f0 f1 f2 f3 f4 f5 g0 g1 hV3 hb3
          obtain ⟨f0, f1, f2, f3, f4, f5⟩ := HCr.out u3 HU3.out
          obtain ⟨g0, g1⟩ := HCx.out u3 HU3.out
          cases is with
          | false =>
            have HGn : Hid (goR t T E.data.toList RS L (k + 1) out last = G) := Lib.hid (by have h := Hst.out; rw [if_neg (by rintro ⟨h, _⟩; cases h)] at h; exact h.symm)
            have HMbb := HB
            go_wp2_with fail
            go_roundw
            case rel => exact ⟨k + 1, m, last, c', A', _, Hlt.out, rfl, rfl, by go_num, HO3, Lib.hid (by have := HMb.out; have := HM.out; omega), HMbb, HU3, HGn⟩
            case measure => have := Hlt.out; simp [intOf]; omega

          | true =>
            cases has with
            | false =>
              have HGn : Hid (goR t T E.data.toList RS L (k + 1) out last = G) := Lib.hid (by have h := Hst.out; rw [if_neg (by rintro ⟨_, h⟩; cases h)] at h; exact h.symm)
              have HMbb := HB
              go_wp2_with fail
              go_roundw
              case rel => exact ⟨k + 1, m, last, c', A', _, Hlt.out, rfl, rfl, by go_num, HO3, Lib.hid (by have := HMb.out; have := HM.out; omega), HMbb, HU3, HGn⟩
              case measure => have := Hlt.out; simp [intOf]; omega

            | true =>
              obtain ⟨v, hVv, hv80⟩ := HVf.out rfl
              have hV3 := HV3.out
              rw [hVv] at hV3
              obtain ⟨b2, o2, rfl, hb2, hcv, _, mm, hmm, hm0⟩ := hV3
              have hm0 : mm = 0 := hm0
              obtain rfl : nv = 1 := by omega
              have Hb2 : Hid (b2 < u3.heap.size) := Lib.hid hb2
              have Hcv := Lib.hid hcv
              have Hbr : Hid (br < u3.heap.size) := Lib.hid (Nat.lt_of_lt_of_le Hbr0.out HU3.out.size)
              rw [hVv] at Hst
              have hone : oneN (.cons v .nil .nil) = v.data.toList := rfl
              rw [hone] at Hst
              obtain ⟨W4, hW4⟩ : ∃ W, W = u3.alloc (Obj.cells #[.string x1, .string x2] 85) := ⟨_, rfl⟩
              have hb4 : Below u3.heap.size u3 W4 := by rw [hW4]; exact (Below.refl _ _).alloc (Nat.le_refl _) _
              have hbx : W4.heap[u3.heap.size]? = some (Obj.cells #[.string x1, .string x2] 85 (0, 0)) := by rw [hW4]; exact heap_alloc_new u3 _
              have HB4 := Lib.hid hb4
              have Hbx := Lib.hid hbx
              have v0 : W4.cell? ⟨b2, o2, none⟩ = some (.string v) := (hb4.cell (p := ⟨b2, o2, none⟩) hb2).trans hcv
              have v1 : W4.cell? ⟨br, orr + k * 6 + 3, none⟩ = some (.string vb) := (hb4.cell (p := ⟨br, _, none⟩) Hbr.out).trans f3
              have p0 : W4.cell? ⟨u3.heap.size, 0, none⟩ = some (.string x1) := by rw [cell_of_row _ _ _ _ _ _ hbx]; rfl
              have p1 : W4.cell? ⟨u3.heap.size, 1, none⟩ = some (.string x2) := by rw [cell_of_row _ _ _ _ _ _ hbx]; rfl
              clear hVv hb2 hcv hmm hm0 hone hb4 hbx
              by_cases hv : v = vb
              · subst hv
                have hvv : v.toList = v.toList := rfl
                have hvb : (v.toList == v.toList) = true := by simp
                have HGn : Hid (goR t T E.data.toList RS L (k + 1) (out ++ [(x1.data.toList, x2.data.toList)]) (m + 1) = G) := Lib.hid (by have h := Hst.out; rw [if_pos ⟨rfl, rfl⟩, if_pos rfl] at h; dsimp only at h; rw [Hom.out]; exact h.symm)
                have HMbb : Hid (LsB (out ++ [(x1.data.toList, x2.data.toList)])) := Lib.hid (HB.out.app (LsB.one HLxx.out))
                go_upto_region 26 with (fail)
                rw [← hW4]
                clear hW4 g0 g1
                go_quiet (fail)
                obtain ⟨W5, hW5⟩ : ∃ W, W = W4.drewN nq := ⟨_, rfl⟩
                rw [← hW5]
                have hbx5 : W5.heap[u3.heap.size]? = some (Obj.cells #[.string x1, .string x2] 85 (0, 0)) := by rw [hW5]; exact Hbx.out
                have hb5 : Below u3.heap.size u3 W5 := by rw [hW5]; exact below_drewN HB4.out _
                have HU5 := Lib.hid (HU3.out.trans (hb5.mono HU3.out.size))
                have HO5 := Lib.hid (HO3.out.below hb5)
                have d0 : W5.cell? ⟨u3.heap.size, 0, none⟩ = some (.string x1) := by rw [cell_of_row _ _ _ _ _ _ hbx5]; rfl
                have d1 : W5.cell? ⟨u3.heap.size, 1, none⟩ = some (.string x2) := by rw [cell_of_row _ _ _ _ _ _ hbx5]; rfl
                clear hbx5 hb5 hW5 f0 f1 f2 f3 f4 f5 v0 v1 p0 p1
                have hb46 : m + 1 ≤ 1099511627776 := by have := HMb.out; omega
                have huz := HU5.out.size
                go_wp2_with (at_builtin; refine wpList_append_row rfl (.tmp 187) (.tmp 189) _ _ rfl elem_line rfl rfl (HO5.out.alloc _) (src_line W5 x1.data.toList x2.data.toList _ (rfl : #[Value.string x1, Value.string x2] = #[Li.encs x1.data.toList, Li.encs x2.data.toList]) _ rfl) hb46 (by simp; omega) ?_; intro A7 c7 w7 ho7 hg7 hat7)
                have HO7 : Hid (OwnL w7 wv.heap.size A7 (m + 1) c7 (out ++ [(x1.data.toList, x2.data.toList)])) := Lib.hid (by unfold OwnL; rw [lcells_append]; exact ho7)
                have HW7 : Hid (Below wv.heap.size wv w7) := Lib.hid ((HU5.out.alloc huz _).grown hg7 (by simp; omega) (fun q hq => (World.ownsRow.lt HO5.out q hq).1))
                clear ho7 hg7 hat7
                go_wp2_with fail
                go_roundw
                case rel => exact ⟨k + 1, m + 1, m + 1, c7, A7, _, Hlt.out, rfl, by first | rfl | go_num | simp, by go_num, HO7, Lib.hid (by have := HMb.out; have := HM.out; omega), HMbb, HW7, HGn⟩
                case measure => have := Hlt.out; simp [intOf]; omega
              · have hne : ¬ v.toList = vb.toList := fun e => hv (text_eq.1 e)
                have hneb : (v.toList == vb.toList) = false := by rw [beq_eq_false_iff_ne]; exact hne
                have hx1 : (x1.extract 0 a0).size ≤ 4000 := by rw [ByteArray.size_extract]; omega
                have hx2 : (x1.extract a1 x1.size).size ≤ 4000 := by rw [ByteArray.size_extract]; omega
                have ha1 := fun W => run_string_add_sum (P := Tryz.prog) (w := W) (x1.extract 0 a0) v (by omega)
                have ha2 := fun W => run_string_add_sum (P := Tryz.prog) (w := W) (x1.extract 0 a0 ++ v) (x1.extract a1 x1.size) (by rw [ByteArray.size_append]; omega)
                have hyl : ((x1.extract 0 a0 ++ v) ++ x1.extract a1 x1.size).data.toList = x1.data.toList.take a0 ++ v.data.toList ++ x1.data.toList.drop a1 := by
                  rw [ByteArray.data_append, Array.toList_append, ByteArray.data_append, Array.toList_append]
                  congr 1
                  · congr 1
                    have e := ext_sl x1 0 a0
                    injection e with e
                    rw [e, sl]
                    rfl
                  · have e := ext_sl x1 a1 x1.size
                    injection e with e
                    rw [e, sl]
                    show List.drop a1 (List.take x1.size x1.data.toList) = _
                    rw [show x1.size = x1.data.toList.length from rfl, List.take_length]
                have hyz : ((x1.extract 0 a0 ++ v) ++ x1.extract a1 x1.size).size ≤ 5000 := by
                  rw [ByteArray.size_append, ByteArray.size_append, ByteArray.size_extract, ByteArray.size_extract]; omega
                obtain ⟨t1, ht1⟩ : ∃ t1, t1 = x1.extract 0 a0 ++ v := ⟨_, rfl⟩
                rw [← ht1] at ha1 ha2 hyl hyz
                obtain ⟨y, hy⟩ : ∃ y, y = t1 ++ x1.extract a1 x1.size := ⟨_, rfl⟩
                rw [← hy] at ha2 hyl hyz
                have HGn : Hid (goR t T E.data.toList RS L (k + 1) (out ++ [(y.data.toList, x2.data.toList)]) (m + 1) = G) := Lib.hid (by have h := Hst.out; rw [if_pos ⟨rfl, rfl⟩, if_neg (fun e => hv (by apply ByteArray.ext; apply Array.ext'; exact e))] at h; dsimp only at h; rw [Hom.out, hyl]; exact h.symm)
                have HMbb : Hid (LsB (out ++ [(y.data.toList, x2.data.toList)])) := Lib.hid (HB.out.app (LsB.one ⟨by show y.size ≤ 5000; exact hyz, HLxx.out.2⟩))
                have hp0 : (0 : Int) ≤ (a0 : Int) := by omega
                have hp1 : (a0 : Int) ≤ (x1.size : Int) := by omega
                have hq0 : (0 : Int) ≤ (a1 : Int) := by omega
                have hq1 : (a1 : Int) ≤ (x1.size : Int) := by omega
                clear hx1 hx2 hyl hyz ht1 hy
                go_upto_region 26 with (fail)
                rw [← hW4]
                clear hW4 g0 g1
                go_quiet (fail)
                obtain ⟨W5, hW5⟩ : ∃ W, W = W4.drewN nq := ⟨_, rfl⟩
                rw [← hW5]
                have hbx5 : W5.heap[u3.heap.size]? = some (Obj.cells #[.string x1, .string x2] 85 (0, 0)) := by rw [hW5]; exact Hbx.out
                have hb5 : Below u3.heap.size u3 W5 := by rw [hW5]; exact below_drewN HB4.out _
                have HU5 := Lib.hid (HU3.out.trans (hb5.mono HU3.out.size))
                have HO5 := Lib.hid (HO3.out.below hb5)
                have HS := Lib.hid (fun (W : World) (hW : ∀ b o, b < u3.heap.size → W.cell? ⟨b, o, none⟩ = W5.cell? ⟨b, o, none⟩) => (by
                  obtain ⟨h0, h1, h2, h3, h4, h5⟩ := HCr.out W5 HU5.out
                  exact ⟨(hW br _ Hbr.out).trans h4, (hW br _ Hbr.out).trans h5, (hW b2 _ Hb2.out).trans ((hb5.cell (p := ⟨b2, o2, none⟩) Hb2.out).trans Hcv.out)⟩ : W.cell? ⟨br, orr + k * 6 + 4, none⟩ = some (.int .i64 a0) ∧ W.cell? ⟨br, orr + k * 6 + 5, none⟩ = some (.int .i64 a1) ∧ W.cell? ⟨b2, o2, none⟩ = some (.string v)))
                have b0 : W5.cell? ⟨u3.heap.size, 0, none⟩ = some (.string x1) := by rw [cell_of_row _ _ _ _ _ _ hbx5]; rfl
                have b0d : W5.drew.cell? ⟨u3.heap.size, 0, none⟩ = some (.string x1) := b0
                have hfz : W5.frozen? ⟨u3.heap.size, 0, none⟩ = false := by simp [World.frozen?, hbx5]
                have hfzd : W5.drew.frozen? ⟨u3.heap.size, 0, none⟩ = false := hfz
                have hS1 := HS.out W5.drew (fun _ _ _ => rfl)
                have hu35 : u3.heap.size < W5.heap.size := (Array.getElem?_eq_some_iff.1 hbx5).1
                obtain ⟨W6, hW6⟩ : ∃ W, W = (W5.setCell ⟨u3.heap.size, 0, none⟩ (.string y)).drew := ⟨_, rfl⟩
                have hbx6 : W6.heap[u3.heap.size]? = some (Obj.cells #[.string y, .string x2] 85 (0, 0)) := by rw [hW6]; show (W5.setCell ⟨u3.heap.size, 0, none⟩ (.string y)).heap[u3.heap.size]? = _; rw [heap_setCell_same _ _ 0 _ _ _ hbx5]; rfl
                have HU6 : Hid (Below wv.heap.size wv W6) := Lib.hid (by rw [hW6]; exact (HU5.out.setCell (p := ⟨u3.heap.size, 0, none⟩) HU3.out.size _).drew)
                have HO6 : Hid (OwnL W6 wv.heap.size A' m c' out) := Lib.hid (by
                  rw [hW6]
                  refine World.ownsRow.drew (World.ownsRow.kept (row := some u3.heap.size) HO5.out ⟨by simp [World.setCell], by simp [World.setCell], by simp [World.setCell], by simp [World.setCell], fun i _ hne => ?_⟩ (.inr fun e => ?_))
                  · exact heap_setCell_other _ _ i _ (fun e => hne (by rw [e]))
                  · have := (World.ownsRow.lt HO3.out _ e).2
                    omega)
                have d0 : W6.cell? ⟨u3.heap.size, 0, none⟩ = some (.string y) := by rw [cell_of_row _ _ _ _ _ _ hbx6]; rfl
                have d1 : W6.cell? ⟨u3.heap.size, 1, none⟩ = some (.string x2) := by rw [cell_of_row _ _ _ _ _ _ hbx6]; rfl
                have hg3 : ∀ b, b < u3.heap.size → b ≠ u3.heap.size := fun b h => Nat.ne_of_lt h
                clear hbx5 hb5 hW5 hbx6 f0 f1 f2 f3 f4 f5 v0 v1 p0 p1
                go_wp2_with fail
                obtain ⟨l4, l5, lv⟩ := hS1
                go_region
                all_goals
                  rw [← hW6]
                  clear hW6 b0 b0d hfz hfzd l4 l5 lv
                  have hb46 : m + 1 ≤ 1099511627776 := by have := HMb.out; omega
                  have huz := HU6.out.size
                  go_wp2_with (at_builtin; refine wpList_append_row rfl (.tmp 187) (.tmp 189) _ _ rfl elem_line rfl rfl (HO6.out.alloc _) (src_line W6 y.data.toList x2.data.toList _ (rfl : #[Value.string y, Value.string x2] = #[Li.encs y.data.toList, Li.encs x2.data.toList]) _ rfl) hb46 (by simp; omega) ?_; intro A7 c7 w7 ho7 hg7 hat7)
                  have HO7 : Hid (OwnL w7 wv.heap.size A7 (m + 1) c7 (out ++ [(y.data.toList, x2.data.toList)])) := Lib.hid (by unfold OwnL; rw [lcells_append]; exact ho7)
                  have HW7 : Hid (Below wv.heap.size wv w7) := Lib.hid ((HU6.out.alloc huz _).grown hg7 (by simp; omega) (fun q hq => (World.ownsRow.lt HO6.out q hq).1))
                  clear ho7 hg7 hat7
                  go_wp2_with fail
                  go_roundw
                  case rel => exact ⟨k + 1, m + 1, m + 1, c7, A7, _, Hlt.out, rfl, by first | rfl | go_num | simp, by go_num, HO7, Lib.hid (by have := HMb.out; have := HM.out; omega), HMbb, HW7, HGn⟩
                  case measure => have := Hlt.out; simp [intOf]; omega
    · obtain rfl : k = N := by omega
      have hkn : ¬ (k : Int) < (k : Int) := by omega
      have heq : ((k : Int) == (k : Int)) = true := by simp
      have HCl1 := Lib.hid (HCl.out wr HW.out out A' m c' last k HO.out (by have := HM.out; omega) HM.out.1 (Nat.le_refl _))
      have hcb := close_b (t := t) (old := T) (cur := curR (RS.take k)) (last := last) HEz.out HFt.out.n80 HFt.out.size HB.out
      have hge := HG.out
      rw [HN.out, go_end (by rw [HrN.out, HN.out]), ← HN.out] at hge
      rw [hge] at HCl1 hcb
      have hom : m = out.length := HO.out.sees.len
      obtain ⟨mg, hmg⟩ : ∃ mg, mg = G.length := ⟨_, rfl⟩
      have HMg : Hid (mg ≤ 1700000) := Lib.hid (by have := hcb.2.1; have := HM.out.2; omega)
      have HGb := Lib.hid hcb.1
      have Hmg := Lib.hid hmg
      unfold ClP at HCl1
      rw [← hmg] at HCl1
      clear hge hcb hom hmg hlt
      go_wp2_with fail
      (with_reducible refine HCl1.out.mono ?_)
      rintro e u1 ⟨A8, c8, rfl, ho8, hb8⟩
      have HU1 := Lib.hid (HW.out.trans (hb8.mono HW.out.size))
      have HO1 : Hid (OwnL u1 wv.heap.size A8 mg c8 G) := Lib.hid ho8
      clear ho8 hb8
      go_wp2_with fail
      go_loopw [15, 23] (fun ov iv wr => ∃ (j m c' : Nat) (A' : Option Addr), j ≤ n ∧ ov = .slice A' m c' ∧ iv = .int .i64 j ∧ Hid (OwnL wr wv.heap.size A' m c' (G ++ secsF T E.data.toList ((eds t).take j))) ∧ Hid (m ≤ 1700000 + 401 * j) ∧ Hid (LsB (G ++ secsF T E.data.toList ((eds t).take j))) ∧ Hid (Below wv.heap.size wv wr)) (fun _ i _ => n - (intOf i).toNat)
      case atStart => exact ⟨0, mg, c8, A8, Nat.zero_le _, rfl, rfl, Lib.hid (by rw [List.take_zero]; show OwnL u1 wv.heap.size A8 mg c8 (G ++ []); rw [List.append_nil]; exact HO1.out), Lib.hid (by have := HMg.out; omega), Lib.hid (by rw [List.take_zero]; show LsB (G ++ []); rw [List.append_nil]; exact HGb.out), HU1⟩
      case round =>
        obtain ⟨j, m, c', A', hj, rfl, rfl, HO, HM, HB, HW⟩ := hrel
        have hj0 : (0 : Int) ≤ (j : Int) := by omega
        have hn400 := Htn.out.1
        obtain ⟨LL, hLL⟩ : ∃ LL, LL = G ++ secsF T E.data.toList ((eds t).take j) := ⟨_, rfl⟩
        rw [← hLL] at HO HB
        have HLL := Lib.hid hLL
        clear hLL
        by_cases hlt : j < n
        · have hjn : (j : Int) < (n : Int) := by omega
          obtain ⟨b, o, sn, kt, r, A1', n1, c1', rfl, hb, hs, hc, hn1, hc1, hk1, hr1, hd1, hd2⟩ := Htv.out.holds.split j hlt
          have he := eds_drop t j hd1
          have hm80 := n80_mem HFt.out.n80 (List.mem_of_getElem? he)
          have hfk := allT_mem HFt.out.fit (sn, kt) (List.mem_of_getElem? he)
          unfold fsB at hfk
          rw [Bool.and_eq_true] at hfk
          have hkz : kt.size ≤ 400 := Nat.le_trans (drop_size2 hd1) HFt.out.size
          have hss := secs_step (old := T) (E := E.data.toList) he
          have HSs := Lib.hid hss
          have HKt := Lib.hid (show N80 kt ∧ allT fkB kt = true ∧ kt.size ≤ 400 ∧ sn.size ≤ 80 from ⟨hm80.2, hfk.2, hkz, hm80.1⟩)
          have HC := Lib.hid (fun (W : World) (hW : Below wv.heap.size wv W) => (⟨(hW.cell (p := ⟨b, _, none⟩) hb).trans hs, (hW.cell (p := ⟨b, _, none⟩) hb).trans hc⟩ : W.cell? ⟨b, o + j * 2, none⟩ = some (.string sn) ∧ W.cell? ⟨b, o + j * 2 + 1, none⟩ = some (.slice A1' n1 c1')))
          have HKw := Lib.hid (fun (W : World) (hW : Below wv.heap.size wv W) => (hk1.below hW).more hW.size)
          have Hlt := Lib.hid hlt
          have hsec := sec_b (E := E.data.toList) (e := (sn, kt)) HEz.out hm80.1 hm80.2
          have HSec := Lib.hid hsec
          have HKo := HKold.out wr sn HW.out
          obtain ⟨iz, hiz⟩ : ∃ b, b = T.atIs sn := ⟨_, rfl⟩
          rw [← hiz] at HKo
          have HKo := Lib.hid HKo
          have Hiz := Lib.hid hiz
          clear hb hs hc hn1 hc1 hk1 hr1 hd1 hd2 he hm80 hfk hkz hss hlt hsec hiz
          obtain ⟨f0, f1⟩ := HC.out wr HW.out
          go_wp2_with fail
          (with_reducible refine HKo.out.mono ?_)
          rintro e u2 ⟨Ax, nx, cx, rfl, _, _, _, hb2⟩
          have HU2 := Lib.hid (HW.out.trans (hb2.mono HW.out.size))
          have HO2 := Lib.hid (HO.out.below hb2)
          clear f0 f1 hb2
          cases iz with
          | true =>
            have HLn : Hid (G ++ secsF T E.data.toList ((eds t).take (j + 1)) = LL) := Lib.hid (by rw [HSs.out, if_pos Hiz.out.symm, List.append_nil, HLL.out])
            go_wp2_with fail
            go_roundw
            case rel => exact ⟨j + 1, m, c', A', Hlt.out, rfl, by go_num, Lib.hid (by rw [HLn.out]; exact HO2.out), Lib.hid (by have := HM.out; omega), Lib.hid (by rw [HLn.out]; exact HB.out), HU2⟩
            case measure => have := Hlt.out; simp [intOf]; omega
          | false =>
            have HLn : Hid (G ++ secsF T E.data.toList ((eds t).take (j + 1)) = LL ++ secL E.data.toList (sn, kt)) := Lib.hid (by rw [HSs.out, if_neg (by rw [← Hiz.out]; decide), HLL.out, List.append_assoc])
            have ha1 := fun W => run_string_add_sum (P := Tryz.prog) (w := W) ⟨#[91]⟩ sn (by have := HKt.out.2.2.2; have : (ByteArray.mk #[91]).size = 1 := rfl; omega)
            obtain ⟨q1, hq1⟩ : ∃ q, q = (ByteArray.mk #[91]) ++ sn := ⟨_, rfl⟩
            have hq1z : q1.size = sn.size + 1 := by rw [hq1, ByteArray.size_append]; have : (ByteArray.mk #[91]).size = 1 := rfl; omega
            rw [← hq1] at ha1
            have ha2 := fun W => run_string_add_sum (P := Tryz.prog) (w := W) q1 ⟨#[93]⟩ (by have := HKt.out.2.2.2; have : (ByteArray.mk #[93]).size = 1 := rfl; omega)
            obtain ⟨q2, hq2⟩ : ∃ q, q = q1 ++ (ByteArray.mk #[93]) := ⟨_, rfl⟩
            rw [← hq2] at ha2
            have hql : q2.data.toList = [91] ++ sn.data.toList ++ [93] := by rw [hq2, hq1]; simp [ByteArray.data_append]
            have hsl := sec_lines E.data.toList (sn, kt)
            dsimp only at hsl
            rw [← hql] at hsl
            have HSl := Lib.hid hsl
            have HFr := Lib.hid (fun (W : World) (hW : Below wv.heap.size wv W) => rfresh_any kt .nil A1' none n1 c1' 0 0 W (HKw.out W hW) (by have := HKt.out.2.2.1; omega) HKt.out.2.1 HKt.out.1 rfl (Nat.zero_le _))
            obtain ⟨FR, hFR⟩ : ∃ F, F = frF .nil (eds kt) := ⟨_, rfl⟩
            have hFl : FR.length ≤ 400 := by
              rw [hFR, frF, List.length_map]
              refine Nat.le_trans (List.length_filter_le _ _) ?_
              rw [eds_len]
              exact Nat.le_trans (Tr.len_size _) HKt.out.2.2.1
            rw [← hFR] at HFr HSl
            have HFl := Lib.hid hFl
            have hm2 : m ≤ 50000000 := by have := HM.out; omega
            have hml : m = LL.length := HO.out.sees.len
            have HAd := Lib.hid (fun (W : World) (A7 : Option Addr) (n7 c7 : Nat) (ho : OwnL W wv.heap.size A' m c' LL) (hts : SeesV W W.heap.size A7 n7 ((q2.data.toList :: FR).map Li.encs)) (h7 : n7 ≤ 100000) => by
              have := radded_any LL (q2.data.toList :: FR) E A' A7 m c' n7 c7 m W ho.sees ho.cap.1 hm2 (Nat.le_refl _) hts h7
              rewrite [List.take_of_length_le (by omega), List.drop_of_length_le (by omega), List.append_nil, HSl.out] at this
              exact this)
            obtain ⟨m9, hm9⟩ : ∃ m9, m9 = (LL ++ secL E.data.toList (sn, kt)).length := ⟨_, rfl⟩
            have HM9 : Hid (m9 ≤ m + 401) := Lib.hid (by
              have h2 : (eds kt).length ≤ 400 := by rw [eds_len]; exact Nat.le_trans (Tr.len_size _) HKt.out.2.2.1
              rw [hm9, List.length_append, ← hml, secL, List.length_cons, List.length_map]
              dsimp only
              omega)
            unfold LsP at HAd
            rw [← hm9] at HAd
            have HEndS : Hid (∀ (W : World) (A9 : Option Addr) (c9 : Nat), OwnL W wv.heap.size A9 m9 c9 (LL ++ secL E.data.toList (sn, kt)) → Below wv.heap.size wv W → ∃ (j' m c' : Nat) (A' : Option Addr), j' ≤ n ∧ Value.slice A9 m9 c9 = .slice A' m c' ∧ Value.int .i64 ((j : Int) + 1) = .int .i64 j' ∧ Hid (OwnL W wv.heap.size A' m c' (G ++ secsF T E.data.toList ((eds t).take j'))) ∧ Hid (m ≤ 1700000 + 401 * j') ∧ Hid (LsB (G ++ secsF T E.data.toList ((eds t).take j'))) ∧ Hid (Below wv.heap.size wv W)) :=
              Lib.hid (fun W A9 c9 h1 h2 => ⟨j + 1, m9, c9, A9, Hlt.out, rfl, by rw [Int.natCast_succ], Lib.hid (by rw [HLn.out]; exact h1), Lib.hid (by have := HM.out; have := HM9.out; omega), Lib.hid (by rw [HLn.out]; exact HB.out.app HSec.out), Lib.hid h2⟩)
            have hud : Below u2.heap.size u2 u2.drew := (Below.refl _ _).drew
            have hua : Below u2.heap.size u2 (u2.alloc (Obj.cells #[Value.string q2] 9)).drew := ((Below.refl _ _).alloc (Nat.le_refl _) _).drew
            have hUd := HU2.out.trans (hud.mono HU2.out.size)
            have hUa := HU2.out.trans (hua.mono HU2.out.size)
            obtain ⟨f0, f1⟩ := HC.out u2 HU2.out
            obtain ⟨fd0, fd1⟩ := HC.out u2.drew hUd
            obtain ⟨fa0, fa1⟩ := HC.out _ hUa
            have HFrD := Lib.hid (HFr.out _ hUd)
            have HFrA := Lib.hid (HFr.out _ hUa)
            have Hua := Lib.hid hua
            have Hud := Lib.hid hud
            clear hq1 hq1z hq2 hql hsl hFR hFl hm2 hml hm9 hud hua hUd hUa
            go_upto_region 35 with (fail)
            go_region_held3 (fun W => W.cell? ⟨b, o + j * 2, none⟩ = some (.string sn) ∧ W.cell? ⟨b, o + j * 2 + 1, none⟩ = some (.slice A1' n1 c1'))
              (first | exact ⟨f0, f1⟩ | exact ⟨fd0, fd1⟩ | exact ⟨fa0, fa1⟩ | exact HC.out _ (HU2.out.trans (q9.mono HU2.out.size)) | exact HC.out _ (HU2.out.trans (q8.mono HU2.out.size)) | exact HC.out _ (HU2.out.trans ((q7.alloc q7.size _).mono HU2.out.size)) | exact HC.out _ (HU2.out.trans (q7.mono HU2.out.size)))
              (first
              | (go_at_call 44; (with_reducible refine HFrA.out.mono ?_); rintro e w7 ⟨A7, n7, c7, rfl, hs7, hb7⟩; have q7 := Hua.out.trans (hb7.mono Hua.out.size); have o7 := own_one (V := w7) (base := u2.heap.size) (g := u2.heap.size) (y := q2) (Nat.le_refl _) ((hb7.block u2.heap.size (by simp)).trans (heap_alloc_new u2 _)); obtain rfl := hs7.len)
              | (go_at_call 44; (with_reducible refine HFrD.out.mono ?_); rintro e w7 ⟨A7, n7, c7, rfl, hs7, hb7⟩; have q7 := Hud.out.trans (hb7.mono Hud.out.size); have o7 := own_one (V := w7.alloc (Obj.cells #[Value.string q2] 9)) (base := u2.heap.size) (g := w7.heap.size) (y := q2) q7.size (heap_alloc_new w7 _); obtain rfl := hs7.len)
              | (refine step_append_row (n := 1) (m := FR.length) rfl (.tmp 221) (.tmp 227) _ _ rfl elem_st rfl rfl o7 (OwnSt.src (hs7.alloc _)) (by have := HFl.out; omega) (Nat.le_trans q7.size (by simp)) ?_; intro A8 c8 w8 ho8 hg8 hat8; have q8 := (q7.alloc q7.size (Obj.cells #[Value.string q2] 9)).grown hg8 (q7.alloc q7.size (Obj.cells #[Value.string q2] 9)).size (fun q hq => (World.ownsRow.lt o7 q hq).1))
              | (refine step_append_row (n := 1) (m := FR.length) rfl (.tmp 221) (.tmp 227) _ _ rfl elem_st rfl rfl o7 (OwnSt.src hs7) (by have := HFl.out; omega) q7.size ?_; intro A8 c8 w8 ho8 hg8 hat8; have q8 := q7.grown hg8 q7.size (fun q hq => (World.ownsRow.lt o7 q hq).1))
              | (go_at_call 43; (with_reducible refine (HAd.out w8 A8 _ c8 (OwnL.below HO2.out q8) (one_more ho8) (by have := HFl.out; omega)).mono ?_); rintro e w9 ⟨A9, c9, rfl, ho9, hb9⟩; have q9 := q8.trans (hb9.mono q8.size)))
            all_goals
              have HE := Lib.hid (HEndS.out w9 A9 c9 (own_base ho9 (Nat.le_trans HU2.out.size q8.size)) (HU2.out.trans (q9.mono HU2.out.size)))
              clear ho9 hb9 ho8 hg8 hat8 hs7 hb7 o7
              go_wp2_with fail
              go_roundw
              case rel => exact HE.out
              case measure => have := Hlt.out; simp [intOf]; omega
        · obtain rfl : j = n := by omega
          have hjn : ¬ (j : Int) < (j : Int) := by omega
          have hLe := HLL.out
          rw [List.take_of_length_le (by rw [Htn.out.2]; exact Nat.le_refl _)] at hLe
          have hjn2 := Hjoin.out
          rw [← hLe] at hjn2
          have hml : m = LL.length := HO.out.sees.len
          have hmz : m ≤ 2000000 := by have := HM.out; omega
          have HEd := Lib.hid (rended_any LL E A' m c' wv.heap.size wr HO.out (by omega))
          have hez := ended_len E.data.toList LL
          have heb := ended_b (E := E.data.toList) HEz.out HB.out
          have HJo := Lib.hid (fun (W : World) (h : SeesL W W.heap.size A' m (ended E.data.toList LL)) => rjoin_any (ended E.data.toList LL) A' m c' W h (by omega) (fun x hx => by have := heb x hx; have h1 := this.1; have h2 := this.2; omega))
          rw [hjn2] at HJo
          have hput := Hput.out
          clear hLe hjn2 hml hmz hez heb hlt
          go_wp2_with fail
          (with_reducible refine HEd.out.mono ?_)
          rintro e u2 ⟨rfl, ho2, hg2⟩
          have HO2 := Lib.hid ho2
          have HU2 : Hid (Below wv.heap.size wv u2) := Lib.hid (HW.out.grown hg2 HW.out.size (fun q hq => (World.ownsRow.lt HO.out q hq).1))
          have HJ2 := Lib.hid (HJo.out u2 (OwnL.sees ho2))
          clear ho2 hg2
          go_wp2_with fail
          (with_reducible refine HJ2.out.mono ?_)
          rintro e u3 ⟨rfl, qq, rfl⟩
          have HFin : Hid (Below w.heap.size w (u2.drewN qq)) := Lib.hid (below_drewN (HBv.out.trans (HU2.out.mono HBv.out.size)) qq)
          have hPs : (mkB Pf).size = Pf.length := rfl
          obtain ⟨pf, hpf⟩ : ∃ p, p = mkB Pf := ⟨_, rfl⟩
          rw [← hpf] at hPs ⊢
          have Hpf := Lib.hid hpf
          clear hpf
          by_cases hbig : 4000 < Pf.length
          · have hbI : (4000 : Int) < (pf.size : Int) := by omega
            have HZ : Hid (Z = ([], 5)) := Lib.hid (by rw [hput, if_pos hbig])
            clear hput hbig hPs
            go_wp2_with fail
            refine bodyPost_ret (v := .tuple #[.string ⟨#[]⟩, .int .i64 5]) (by simp [results, Tryz.results21, go_sem]) rfl ?_
            exact ⟨by rw [HZ.out]; rfl, HFin.out⟩
          · have hbI : ¬ (4000 : Int) < (pf.size : Int) := by omega
            have HZ : Hid (Z = (Pf, 0)) := Lib.hid (by rw [hput, if_neg hbig])
            clear hput hbig hPs
            go_wp2_with fail
            refine bodyPost_ret (v := .tuple #[.string pf, .int .i64 0]) (by simp [results, Tryz.results21, go_sem]) rfl ?_
            exact ⟨by rw [HZ.out, Hpf.out], HFin.out⟩
end Go.Proofs.YtapgaglkkgbgkaaGreatDoor.In
