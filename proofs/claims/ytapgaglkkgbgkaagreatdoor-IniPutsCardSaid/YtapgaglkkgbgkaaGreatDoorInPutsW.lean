/- IniPuts' walk. Conditions: MaxLen's cell. -/
import Derived.Test.YtapgaglkkgbgkaaGreatDoorInPutsM
import Derived.Deep.RegionHeld3
import Derived.Deep.CutRange
namespace Go.Proofs.YtapgaglkkgbgkaaGreatDoor.In
open Go.RowKit Go.Proofs.YtapgaglkkgbgkaaGreatDoor.Jd Go.Proofs.YtapgaglkkgbgkaaGreatDoor.Li Go.Proofs.YtapgaglkkgbgkaaGreatDoor.Cl Go.Proofs.YtapgaglkkgbgkaaGreatDoor.Pt Go.Proofs.YtapgaglkkgbgkaaGreatDoor.Cv
set_option maxRecDepth 100000

set_option maxHeartbeats 8000000 in
theorem puts_walk (A : Option Addr) (n c : Nat) (l : List Int) (A1 : Option Addr) (n1 c1 : Nat) (l1 : List Int) (A2 : Option Addr) (n2 c2 : Nat) (rw_ : Tr) (at_ bb : Int) (w : World)
    (h : SeesV w w.heap.size A n (l.map (Value.int .i64))) (hr : ∀ x ∈ l, -9223372036854775808 ≤ x ∧ x ≤ 9223372036854775807) (hc : n ≤ c) (hm : c ≤ maxLen)
    (h1 : SeesV w w.heap.size A1 n1 (l1.map (Value.int .i64))) (hr1 : ∀ x ∈ l1, -9223372036854775808 ≤ x ∧ x ≤ 9223372036854775807) (hc1 : n1 ≤ c1) (hm1 : c1 ≤ maxLen)
    (h2 : Holds w w.heap.size A2 n2 rw_) (hc2 : n2 ≤ c2) (hm2 : c2 ≤ maxLen) (hre : rw_.len ≤ 140737488351232 ∧ rw_.Fit)
    (ha : -9223372036854775808 ≤ at_ ∧ at_ ≤ 9223372036854775807) (_ : 0 ≤ bb ∧ bb ≤ 255) (hG : Gl w) :
    Calls Tryz.prog 4 #[.slice A n c, .slice A1 n1 c1, .slice A2 n2 c2, .int .i64 at_, .int .u8 bb] w fun e w' => e = .returned (.bool true) ∧ Below w.heap.size w w' := by
  have HKn := Lib.hid (known_any w hG)
  have HG := Lib.hid hG
  have HFile := Lib.hid (fun (W : World) (hW : Below w.heap.size w W) => file_any A n c l W (sees_up (h.below hW) hW.size) hr hc hm)
  have HFile1 := Lib.hid (fun (W : World) (hW : Below w.heap.size w W) => file_any A1 n1 c1 l1 W (sees_up (h1.below hW) hW.size) hr1 hc1 hm1)
  have HTurn := Lib.hid (fun (W : World) (hW : Below w.heap.size w W) (t0 : Tr) (B : Option Addr) (m d : Nat) (ht : OkT W B m d t0) (hn : Tn 400 t0) => turn_any t0 B A1 m d n1 c1 l1 W ht hn (sees_up (h1.below hW) hW.size) hr1)
  have HFw := Lib.hid (fun (W : World) (hW : Below w.heap.size w W) => few_any rw_ A2 n2 c2 w.heap.size W (h2.below hW) hW.size (by rw [h2.len]; exact hre.1) (rfit_low hre.2))
  have HMk := Lib.hid (fun (W : World) (hW : Below w.heap.size w W) (hz : rw_.size < 200) => make_any rw_.size rw_ A2 n2 c2 w.heap.size 5 5 W (Nat.le_refl _) (h2.below hW) hW.size hc2 hm2 (by omega) (by decide) (by decide) (by decide) (by decide))
  have hn2 := h2.len
  obtain ⟨fw, hfw⟩ : ∃ b, b = decide (rw_.count n2 200 < 200) := ⟨_, rfl⟩
  rw [← hfw] at HFw
  have HFz : Hid (fw = true → rw_.size < 200) := Lib.hid (fun hb => few_yes hn2 (by rw [hb] at hfw; exact of_decide_eq_true hfw.symm))
  clear h hr h1 hr1 h2 hre hG hfw hn2
  go_enter Tryz.func4, Tryz.ntmps4
  go_wp2_with fail
  (with_reducible refine HKn.out.mono ?_)
  rintro e w1 ⟨rfl, hb1⟩
  have HB1 := Lib.hid hb1
  have HFw1 := Lib.hid (HFw.out w1 hb1)
  have HF1 := Lib.hid (HFile.out w1 hb1)
  clear hb1
  go_wp2_with fail
  (with_reducible refine HFw1.out.mono ?_)
  rintro e w1' ⟨rfl, rfl⟩
  cases fw with
  | false =>
    go_wp2_with fail
    go_ret
    exact ⟨rfl, HB1.out⟩
  | true =>
    have Hsz := Lib.hid (HFz.out rfl)
    go_wp2_with fail
    (with_reducible refine HF1.out.mono ?_)
    rintro e w2 ⟨s, hs, rfl, hb2⟩
    have HB2 := Lib.hid (HB1.out.trans (hb2.mono HB1.out.size))
    clear hb2
    obtain ⟨Wb, cap, hcv, hcap, hbb2, hgl, hsee, hfrz⟩ := conv_bytes s w2
    have HB3 := Lib.hid (HB2.out.trans (hbb2.mono HB2.out.size))
    have HSee := Lib.hid hsee
    have Hfrz := Lib.hid hfrz
    have Hgl := Lib.hid hgl
    clear hsee hfrz hgl hbb2
    go_upto_if 42 with (fail)
    go_cut [] from 40 (fun wx => Byt w w2.heap.size s.size wx)
    case first =>
      by_cases h0 : s.size = 0
      · have h0' : ¬ (0 : Int) < (s.size : Int) := by omega
        clear h0
        go_wp2_with fail
        go_meet
        exact ⟨s.data.toList, HSee.out, HB3.out⟩
      · have h0' : (0 : Int) < (s.size : Int) := by omega
        obtain ⟨j, hj, HJ'⟩ := within_nat at_ s.size (by omega) (by omega) ha
        have HJ : Hid (∀ w, Calls Tryz.prog 10 #[.int .i64 at_, .int .i64 s.size] w fun e w' => e = .returned (.int .i64 j) ∧ w = w') := Lib.hid HJ'
        have hjI : (j : Int) < (s.size : Int) := by omega
        have hj0 : (0 : Int) ≤ (j : Int) := by omega
        obtain ⟨b0, hb0⟩ : ∃ b0 : UInt8, s.data.toList[j]? = some b0 := ⟨_, List.getElem?_eq_getElem (show j < s.data.toList.length from hj)⟩
        have hcj : Wb.cell? ⟨w2.heap.size, j, none⟩ = some (.int .u8 (b0.toNat : Int)) := by
          obtain ⟨a, e, _, h2⟩ := HSee.out.cell j b0 hb0
          injection e with e
          subst e
          rw [Addr.add_lit, Nat.zero_add] at h2
          exact h2
        have hfj := Hfrz.out j hj
        obtain ⟨v, hv⟩ : ∃ v : UInt8, IntKind.u8.wrap ((b0.toNat : Int) + bb) = (v.toNat : Int) := by
          refine ⟨UInt8.ofNat (((b0.toNat : Int) + bb) % 256).toNat, ?_⟩
          rw [IntKind.wrap_u8, UInt8.toNat_ofNat']
          omega
        have HS2 := Lib.hid (sees_set HSee.out hj v)
        have HB4 : Hid (Below w.heap.size w (Wb.setCell ⟨w2.heap.size, j, none⟩ (.int .u8 (v.toNat : Int)))) := Lib.hid (HB3.out.setCell HB2.out.size _)
        clear HJ' hb0 h0
        go_wp2_with fail
        (with_reducible refine (HJ.out _).mono ?_)
        rintro e w4 ⟨rfl, rfl⟩
        go_wp2_with fail
        go_meet
        exact ⟨_, HS2.out, HB4.out⟩
    case rest =>
      obtain ⟨lb, hlb, hbc⟩ := hcut
      obtain ⟨w5, rfl⟩ : ∃ w5 : World, w5 = wc := ⟨_, rfl⟩
      have HB5 := Lib.hid hbc
      have hlbn := hlb.len
      obtain ⟨B, hB⟩ : ∃ B : ByteArray, B = ⟨lb.toArray⟩ := ⟨_, rfl⟩
      have hBz : B.size = s.size := by rw [hB]; show lb.toArray.size = _; rw [List.size_toArray]; exact hlbn.symm
      have HCv := Lib.hid (fun (W : World) (hW : Below w5.heap.size w5 W) => by
        have := run_text (P := Tryz.prog) (c := cap) 26 9 5 Tryz.underlying26 Tryz.underlying5 Tryz.underlying9 (hlb.below hW)
        rw [← hB] at this
        exact this)
      have hBs : B.size ≤ 4000 := by omega
      have HF5 := Lib.hid (HFile1.out w5 hbc)
      clear hlb hbc hlbn hB hBz hcv hcap
      go_wp2_with fail
      (with_reducible refine HF5.out.mono ?_)
      rintro e w6 ⟨s2, hs2, rfl, hb6⟩
      have HB6 := Lib.hid (HB5.out.trans (hb6.mono HB5.out.size))
      have HQ6 := Lib.hid hb6
      have HRl := Lib.hid (rload_any s2 w6 (by omega))
      have HFew := Lib.hid (readI_few s2.data.toList)
      obtain ⟨o, ho⟩ : ∃ o, o = readI s2.data.toList := ⟨_, rfl⟩
      rw [← ho] at HRl HFew
      obtain ⟨T, l0, e0⟩ := o
      clear hb6 ho hs2
      go_wp2_with fail
      (with_reducible refine HRl.out.mono ?_)
      rintro e w7 ⟨Ax, nx, cx, rfl, hX, hnx, hcx, hb7⟩
      have HB7 := Lib.hid (HB6.out.trans (hb7.mono HB6.out.size))
      have HQ7 := Lib.hid (HQ6.out.trans (hb7.mono HQ6.out.size))
      have HX7 : Hid (OkT w7 Ax nx cx T) := Lib.hid ⟨hX, hnx, hcx⟩
      have HRl2 := Lib.hid (rload_any s w7 (by omega))
      have HFew2 := Lib.hid (readI_few s.data.toList)
      obtain ⟨o, ho⟩ : ∃ o, o = readI s.data.toList := ⟨_, rfl⟩
      rw [← ho] at HRl2 HFew2
      obtain ⟨T2, l02, e02⟩ := o
      clear hX hnx hcx hb7 ho
      go_wp2_with fail
      (with_reducible refine HRl2.out.mono ?_)
      rintro e w8 ⟨Ay, ny, cy, rfl, hY, hny, hcy, hb8⟩
      have HB8 := Lib.hid (HB7.out.trans (hb8.mono HB7.out.size))
      have HQ8 := Lib.hid (HQ7.out.trans (hb8.mono HQ7.out.size))
      have HX8 := Lib.hid (HX7.out.below hb8)
      have HY8 : Hid (OkT w8 Ay ny cy T2) := Lib.hid ⟨hY, hny, hcy⟩
      have HTu := Lib.hid (HTurn.out w8 HB8.out T2 Ay ny cy HY8.out HFew2.out)
      clear hY hny hcy hb8
      go_wp2_with fail
      (with_reducible refine HTu.out.mono ?_)
      rintro e w9 ⟨u, Au, nu, cu, rfl, hu, hun, hb9⟩
      have HB9 := Lib.hid (HB8.out.trans (hb9.mono HB8.out.size))
      have HQ9 := Lib.hid (HQ8.out.trans (hb9.mono HQ8.out.size))
      have HX9 := Lib.hid (HX8.out.below hb9)
      have HY9 := Lib.hid (HY8.out.below hb9)
      have HU9 := Lib.hid (And.intro hu hun)
      have HMk9 := Lib.hid (HMk.out w9 HB9.out Hsz.out)
      clear hu hun hb9
      go_wp2_with fail
      (with_reducible refine HMk9.out.mono ?_)
      rintro e wa ⟨Am, nm, cm, rfl, hM, hnm, hcm, hba⟩
      have HBa := Lib.hid (HB9.out.trans (hba.mono HB9.out.size))
      have HQa := Lib.hid (HQ9.out.trans (hba.mono HQ9.out.size))
      have HXa := Lib.hid (HX9.out.below hba)
      have HYa := Lib.hid (HY9.out.below hba)
      have HUa := Lib.hid (HU9.out.1.below hba)
      have HMa : Hid (OkT wa Am nm cm (rw_.makeT (5 : Int).toNat (5 : Int).toNat (5 : Int).toNat .nil)) := Lib.hid ⟨hM, hnm, hcm⟩
      have HMn : Hid (Tn 430 (rw_.makeT (5 : Int).toNat (5 : Int).toNat (5 : Int).toNat .nil)) := Lib.hid ⟨by have := mkT_size (5 : Int).toNat rw_ (5 : Int).toNat (5 : Int).toNat .nil; have := Hsz.out; simp only [Tr.size] at *; omega, mk_nm _ _ _ _ .nil trivial⟩
      clear hM hnm hcm hba
      have hcvq := HCv.out (wa.alloc (Obj.cells #[Value.slice Ax nx cx, Value.slice Au nu cu, Value.slice Am nm cm, Value.slice Ay ny cy, Value.slice none 0 0] 30)) (HQa.out.alloc HQa.out.size _)
      obtain ⟨OX, hOX⟩ : ∃ o, o = Obj.cells #[Value.slice Ax nx cx, Value.slice Au nu cu, Value.slice Am nm cm, Value.slice Ay ny cy, Value.slice none 0 0] 30 := ⟨_, rfl⟩
      obtain ⟨OY, hOY⟩ : ∃ o, o = Obj.cells #[Value.string s, Value.string B, Value.string ⟨#[]⟩] 9 := ⟨_, rfl⟩
      have hbw : Below wa.heap.size wa ((wa.alloc OX).alloc OY) := ((Below.refl _ _).alloc (Nat.le_refl _) _).alloc (by show wa.heap.size ≤ (wa.heap.push _).size; simp) _
      have HT0 : Hid (∀ j, j < 5 → TrPu ((wa.alloc OX).alloc OY) wa.heap.size j) := Lib.hid (fun j hj => trp5 (by rw [two_low, hOX]) ⟨_, _, _, T, rfl, HXa.out.below hbw, tn_mono HFew.out (by omega)⟩ ⟨_, _, _, u, rfl, HUa.out.below hbw, HU9.out.2⟩ ⟨_, _, _, _, rfl, HMa.out.below hbw, HMn.out⟩ ⟨_, _, _, T2, rfl, HYa.out.below hbw, tn_mono HFew2.out (by omega)⟩ ⟨none, 0, 0, .nil, rfl, ⟨rfl, Nat.le_refl _, Nat.zero_le _⟩, Nat.zero_le _, trivial⟩ j hj)
      have HF0 : Hid (∀ j, j < 3 → ∃ x : ByteArray, ((wa.alloc OX).alloc OY).cell? ⟨wa.heap.size + 1, j, none⟩ = some (.string x) ∧ x.size ≤ 4000) := Lib.hid (fun j hj => fil3 (by rw [two_high, hOY]) (by omega) hBs (by decide) j hj)
      have HW0 := Lib.hid (HBa.out.trans (hbw.mono HBa.out.size))
      have HZ0 : Hid (wa.heap.size + 1 < ((wa.alloc OX).alloc OY).heap.size) := Lib.hid (by have := two_high wa OX OY; exact (Array.getElem?_eq_some_iff.1 this).1)
      rw [hOX, hOY] at HT0 HF0 HW0 HZ0
      have HPu := Lib.hid (fun (W : World) (x : ByteArray) (t : Tr) (B : Option Addr) (m d : Nat) (hW : Below w.heap.size w W) (hU : OkT W B m d t) (htn : Tn 430 t) => putE_any x t B m d W (by have := htn.1; omega) htn.2 hU.holds hU.cap.1 hU.cap.2 (HG.out.below hW))
      have HRp := Lib.hid (fun (W : World) (x : ByteArray) (t : Tr) (B : Option Addr) (m d : Nat) (hx : x.size ≤ 4000) (hU : OkT W B m d t) (htn : Tn 430 t) => rputR_any x t B m d W (by omega) (by have := htn.1; omega) htn.2 hU)
      clear hOX hOY hbw OX OY
      go_wp2_with fail
      go_loopw [21] (fun i wr => ∃ (k : Nat), k ≤ 5 ∧ i = .int .i64 k ∧ Hid (Below w.heap.size w wr) ∧ Hid (wa.heap.size + 1 < wr.heap.size) ∧ Hid (∀ j, j < 5 → TrPu wr wa.heap.size j) ∧ Hid (∀ j, j < 3 → ∃ x : ByteArray, wr.cell? ⟨wa.heap.size + 1, j, none⟩ = some (.string x) ∧ x.size ≤ 4000)) (fun i _ => 5 - (intOf i).toNat)
      case atStart => exact ⟨0, by omega, rfl, HW0, HZ0, HT0, HF0⟩
      case round =>
        obtain ⟨i, hi, rfl, HW, HZ, HT, HF⟩ := hrel
        obtain ⟨wx, rfl⟩ : ∃ x : World, x = wr := ⟨_, rfl⟩
        have hi0 : (0 : Int) ≤ (i : Int) := by omega
        by_cases hlt : i < 5
        case neg =>
          have hin : ¬ (i : Int) < 5 := by omega
          go_wp2_with fail
          go_ret
          exact ⟨rfl, HW.out⟩
        have hin : (i : Int) < 5 := by omega
        obtain ⟨At, nt, ct, t, hcell, hok, htn⟩ := HT.out i hlt
        have Hcel := Lib.hid (fun (W : World) (hW : Below wx.heap.size wx W) => (hW.cell (p := ⟨wa.heap.size, i, none⟩) (by have := HZ.out; simp only; omega)).trans hcell)
        have HFc := Lib.hid (fun (W : World) (hW : Below wx.heap.size wx W) (j : Nat) (x : ByteArray) (hx : wx.cell? ⟨wa.heap.size + 1, j, none⟩ = some (.string x)) => (hW.cell (p := ⟨wa.heap.size + 1, j, none⟩) HZ.out).trans hx)
        have Hok := Lib.hid (fun (W : World) (hW : Below wx.heap.size wx W) => hok.below hW)
        have HTn := Lib.hid htn
        have HWx := Lib.hid (fun (W : World) (hW : Below wx.heap.size wx W) => (HW.out.trans (hW.mono HW.out.size) : Below w.heap.size w W))
        have HFt := Lib.hid (fun (W : World) (hW : Below wx.heap.size wx W) => fits_any t At nt ct W (Hok.out W hW).holds (Hok.out W hW).cap.1 (Hok.out W hW).cap.2 (by have := HTn.out.1; omega) HTn.out.2)
        have HRf := Lib.hid (fun (W : World) (hW : Below wx.heap.size wx W) => rfits_any t At nt ct W (Hok.out W hW).holds (by have := HTn.out.1; omega) HTn.out.2)
        obtain ⟨f0, hf0⟩ : ∃ f, f = fitsM t := ⟨_, rfl⟩
        rw [← hf0] at HFt HRf
        have hff : (f0 != f0) = false := by simp
        have p0 : Below wx.heap.size wx wx := Below.refl _ _
        have Hlt := Lib.hid hlt
        clear hf0 hcell hok htn hlt
        go_upto_region 16 with (fail)
        go_region_held3 (fun W => W.cell? ⟨wa.heap.size, i, none⟩ = some (.slice At nt ct))
          (first | exact Hcel.out _ p0.drew | exact Hcel.out _ p1 | exact Hcel.out _ p2)
          (first
          | (go_at_call 18; (with_reducible refine (HFt.out _ p0.drew).mono ?_); rintro e v1 ⟨rfl, hq1⟩; have p1 := p0.drew.trans (hq1.mono p0.drew.size))
          | (go_at_call 19; (with_reducible refine (HRf.out _ p1).mono ?_); rintro e v2 ⟨rfl, hq2⟩; have p2 := p1.trans (hq2.mono p1.size)))
        all_goals
          have HP2 := Lib.hid p2
          clear hq1 hq2 p1 p2 p0
          go_wp2_with fail
          go_loopw [22] (fun i wr => ∃ (k : Nat), k ≤ 3 ∧ i = .int .i64 k ∧ Hid (Below wx.heap.size wx wr)) (fun i _ => 3 - (intOf i).toNat)
          case atStart => exact ⟨0, by omega, rfl, HP2⟩
          case round =>
            obtain ⟨k, hk, rfl, HV⟩ := hrel
            obtain ⟨wy, rfl⟩ : ∃ x : World, x = wr := ⟨_, rfl⟩
            have hk0 : (0 : Int) ≤ (k : Int) := by omega
            by_cases hlt : k < 3
            · have hkn : (k : Int) < 3 := by omega
              obtain ⟨x, hx, hxz⟩ := HF.out k hlt
              have HSc := Lib.hid (fun (W : World) (hW : Below wx.heap.size wx W) => (⟨Hcel.out W hW, HFc.out W hW k x hx⟩ : W.cell? ⟨wa.heap.size, i, none⟩ = some (.slice At nt ct) ∧ W.cell? ⟨wa.heap.size + 1, k, none⟩ = some (.string x)))
              have HPp := Lib.hid (fun (W : World) (hW : Below wx.heap.size wx W) => HPu.out W x t At nt ct (HWx.out W hW) (Hok.out W hW) HTn.out)
              have HPr := Lib.hid (fun (W : World) (hW : Below wx.heap.size wx W) => HRp.out W x t At nt ct hxz (Hok.out W hW) HTn.out)
              obtain ⟨z, hz⟩ : ∃ z, z = putM t x.data.toList := ⟨_, rfl⟩
              rw [← hz] at HPp HPr
              obtain ⟨P, ee⟩ := z
              dsimp only at HPp HPr
              obtain ⟨pp, hpp⟩ : ∃ p, p = mkB P := ⟨_, rfl⟩
              rw [← hpp] at HPp HPr
              have hee : (ee != ee) = false := by simp
              have hps : (pp.toList == pp.toList) = true := by simp
              have r0 := HV.out
              have Hlt3 := Lib.hid hlt
              clear hz hx hlt hpp
              go_upto_region 21 with (fail)
              go_region_held3 (fun W => W.cell? ⟨wa.heap.size, i, none⟩ = some (.slice At nt ct) ∧ W.cell? ⟨wa.heap.size + 1, k, none⟩ = some (.string x))
                (first | exact HSc.out _ r0.drew | exact HSc.out _ r1)
                (first
                | (go_at_call 20; (with_reducible refine (HPp.out _ r0.drew).mono ?_); rintro e v3 ⟨rfl, hq3⟩; have r1 := r0.drew.trans (hq3.mono r0.drew.size)))
              all_goals
                clear hq3
                go_upto_region 22 with (fail)
                go_region_held3 (fun W => W.cell? ⟨wa.heap.size, i, none⟩ = some (.slice At nt ct) ∧ W.cell? ⟨wa.heap.size + 1, k, none⟩ = some (.string x))
                  (first | exact HSc.out _ r1.drew | exact HSc.out _ r2)
                  (first
                  | (go_at_call 21; (with_reducible refine (HPr.out _ r1.drew).mono ?_); rintro e v4 ⟨rfl, hq4⟩; have r2 := r1.drew.trans (hq4.mono r1.drew.size)))
                all_goals
                  have HR2 := Lib.hid r2
                  clear hq4 r0 r1 r2
                  go_wp2_with fail
                  go_roundw
                  case rel => exact ⟨k + 1, Hlt3.out, by go_num, HR2⟩
                  case measure => have := Hlt3.out; simp [intOf]; omega
            · have hkn : ¬ (k : Int) < 3 := by omega
              have hc1 := Hcel.out _ HV.out
              have HC1 := Lib.hid (createE_any t At nt ct wy (Hok.out _ HV.out) (by have := HTn.out.1; omega) HTn.out.2 (HG.out.below (HWx.out _ HV.out)))
              have HC2 := Lib.hid (fun (W : World) (hW : Below wx.heap.size wx W) => rcreateR_any t At nt ct W (by have := HTn.out.1; omega) HTn.out.2 (Hok.out W hW))
              obtain ⟨z, hz⟩ : ∃ z, z = putM t [] := ⟨_, rfl⟩
              rw [← hz] at HC1 HC2
              obtain ⟨P, ee⟩ := z
              dsimp only at HC1 HC2
              obtain ⟨pp, hpp⟩ : ∃ p, p = mkB P := ⟨_, rfl⟩
              rw [← hpp] at HC1 HC2
              have hee : (ee != ee) = false := by simp
              have hps : (pp.toList == pp.toList) = true := by simp
              clear hz hpp
              go_wp2_with fail
              (with_reducible refine HC1.out.mono ?_)
              rintro e v3 ⟨rfl, hq3⟩
              have HV3 := Lib.hid (HV.out.trans (hq3.mono HV.out.size))
              have hc2 := Hcel.out _ HV3.out
              have HC2' := Lib.hid (HC2.out _ HV3.out)
              clear hq3
              go_wp2_with fail
              (with_reducible refine HC2'.out.mono ?_)
              rintro e v4 ⟨rfl, hq4⟩
              have HV4 := Lib.hid (HV3.out.trans (hq4.mono HV3.out.size))
              have HX := Lib.hid (show Hid (Below w.heap.size w v4) ∧ Hid (wa.heap.size + 1 < v4.heap.size) ∧ Hid (∀ j, j < 5 → TrPu v4 wa.heap.size j) ∧ Hid (∀ j, j < 3 → ∃ x : ByteArray, v4.cell? ⟨wa.heap.size + 1, j, none⟩ = some (.string x) ∧ x.size ≤ 4000) from
                ⟨Lib.hid (HWx.out _ HV4.out), Lib.hid (Nat.lt_of_lt_of_le HZ.out HV4.out.size), Lib.hid (fun j hj => (HT.out j hj).below (by have := HZ.out; omega) HV4.out), Lib.hid (fun j hj => by
                  obtain ⟨x, h1, h2⟩ := HF.out j hj
                  exact ⟨x, HFc.out _ HV4.out j x h1, h2⟩)⟩)
              clear hq4
              go_wp2_with fail
              go_roundw
              case rel => exact ⟨i + 1, Hlt.out, by go_num, HX.out.1, HX.out.2.1, HX.out.2.2.1, HX.out.2.2.2⟩
              case measure => have := Hlt.out; simp [intOf]; omega
end Go.Proofs.YtapgaglkkgbgkaaGreatDoor.In
