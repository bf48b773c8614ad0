/- The reference's Fits of ini. Conditions: fewer edges than 2^34; its names' sizes. -/
import Derived.Test.YtapgaglkkgbgkaaGreatDoorMwInRWord
import Derived.Test.YtapgaglkkgbgkaaGreatDoorMwInSelf
import Derived.Test.YtapgaglkkgbgkaaGreatDoorMwTextWords
namespace Go.Proofs.YtapgaglkkgbgkaaGreatDoor.In
open Go.RowKit Go.Proofs.YtapgaglkkgbgkaaGreatDoor.Jd Go.Proofs.YtapgaglkkgbgkaaGreatDoor.Li Go.Proofs.YtapgaglkkgbgkaaGreatDoor.Cl Go.Proofs.YtapgaglkkgbgkaaGreatDoor.Cv
set_option maxRecDepth 100000

theorem one_tr {k : Tr} (h : k.len = 1) : ∃ a b, k = .cons a b .nil := by
  cases k with
  | nil => cases h
  | cons a b r =>
    cases r with
    | nil => exact ⟨a, b, rfl⟩
    | cons _ _ _ => simp [Tr.len] at h
set_option maxHeartbeats 4000000 in
theorem rfits_any (t : Tr) (A : Option Addr) (n c : Nat) (w : World) (h : Holds w w.heap.size A n t) (hsz : t.size ≤ 17179869184) (hnm : Tr.Nm t) :
    Calls Tryz.prog 19 #[.slice A n c] w fun e w' => e = .returned (.int .i64 (fitsM t)) ∧ Below w.heap.size w w' := by
  have hl := h.len
  have hls := t.len_size
  have HC := Lib.hid (rcheck_any t A n c w.heap.size w h (Nat.le_refl _) (by omega) (low_size _ (by omega)) hnm)
  have HH := Lib.hid h
  have Hl := Lib.hid hl
  have HP := Lib.hid rsection_any
  have HCo := Lib.hid rkey_any
  have HVa := Lib.hid rvalue_any
  have Hls := Lib.hid (show ∀ k, (t.dropT k).size ≤ 17179869184 from fun k => Nat.le_trans (dropT_size t k) hsz)
  obtain ⟨f, hf⟩ : ∃ f, f = t.fault := ⟨_, rfl⟩
  have HF : Hid (fitsM t = if f ≠ 0 then (f : Int) else if allT fsB t then 0 else 13) := Lib.hid (by rw [hf]; rfl)
  rw [← hf] at HC
  have hnb : n ≤ 17179869184 := by omega
  by_cases hf0 : f = 0
  · have HF2 : Hid (fitsM t = if allT fsB t then 0 else 13) := Lib.hid (by rw [HF.out, if_neg (by omega)])
    have Hk := Lib.hid (fault_n80 (t := t) (by omega))
    clear h hnm hl hls hf hsz
    subst hf0
    clear HF
    go_enter Tryz.func19, Tryz.ntmps19
    go_wp2_with fail
    (with_reducible refine HC.out.mono ?_)
    rintro e w1 ⟨rfl, hb1⟩
    have HB1 := Lib.hid hb1
    clear hb1
    go_wp2_with fail
    go_loopw [4] (fun i wr => ∃ (k : Nat), k ≤ n ∧ i = .int .i64 k ∧ Hid (Below w.heap.size w wr) ∧ Hid (allT fsB (t.dropT k) = allT fsB t)) (fun i _ => n - (intOf i).toNat)
    case atStart => exact ⟨0, by omega, rfl, HB1, Lib.hid (by rw [dropT_zero])⟩
    case round =>
      obtain ⟨k, hk, rfl, HW, He⟩ := hrel
      obtain ⟨wa, rfl⟩ : ∃ x : World, x = wr := ⟨_, rfl⟩
      by_cases hlt : k < n
      · obtain ⟨b, o, s, kt, r, A', n', c', rfl, hb, hs0, hc0, hn', hc', hk', hr, hd, hd2⟩ := HH.out.split k hlt
        have hs := (HW.out.cell (p := ⟨b, o + k * 2, none⟩) hb).trans hs0
        have hkn : (k : Int) < (n : Int) := by omega
        have hk0 : (0 : Int) ≤ (k : Int) := by omega
        have hpk := n80_drop t k Hk.out
        rw [hd] at hpk
        have hPs := HP.out s wa (by have := hpk.1; omega)
        have HKn := Lib.hid hpk.2.1
        have hsd := Hls.out k
        have He2 : Hid (allT fsB t = (sB s.data.toList && allT fkB kt && allT fsB (t.dropT (k + 1)))) := Lib.hid (by rw [← He.out, hd, hd2]; rfl)
        obtain ⟨u, hu⟩ : ∃ u, u = sB s.data.toList := ⟨_, rfl⟩
        rw [← hu] at hPs He2
        have HPs := Lib.hid hPs
        have HK' := Lib.hid hk'
        have hkl := hk'.len
        have hnb' : n' ≤ 17179869184 := by
          have := kt.len_size
          rw [hd, Tr.size] at hsd
          omega
        have HKl := Lib.hid hkl
        clear hkl hpk hsd hd hd2 hr He hu hPs hk' hs0
        cases u with
        | false =>
          have HV : Hid (fitsM t = 13) := Lib.hid (by rw [HF2.out, He2.out]; simp)
          clear HF2 He2
          go_wp2_with fail
          (with_reducible refine HPs.out.mono ?_)
          rintro e w2 ⟨rfl, hb2⟩
          go_wp2_with fail
          go_ret
          exact ⟨by rw [HV.out]; rfl, HW.out.trans (hb2.mono HW.out.size)⟩
        | true =>
          go_wp2_with fail
          (with_reducible refine HPs.out.mono ?_)
          rintro e w2 ⟨rfl, hb2⟩
          have HB2 := Lib.hid (HW.out.trans (hb2.mono HW.out.size))
          clear hb2 hs
          go_wp2_with fail
          go_loopw [5] (fun i wr => ∃ (j : Nat), j ≤ n' ∧ i = .int .i64 j ∧ Hid (Below w.heap.size w wr) ∧ Hid (allT fkB (kt.dropT j) = allT fkB kt)) (fun i _ => n' - (intOf i).toNat)
          case atStart => exact ⟨0, by omega, rfl, HB2, Lib.hid (by rw [dropT_zero])⟩
          case round =>
            obtain ⟨j, hj, rfl, HBq, He3⟩ := hrel
            have hcq := (HBq.out.cell (p := ⟨b, o + k * 2 + 1, none⟩) hb).trans hc0
            by_cases hjt : j < n'
            · obtain ⟨b2, o2, s2, kt2, r2, A2, n2, c2, rfl, hb2, hs20, hc20, hn2, hc2', hk2, hr2, hd3, hd4⟩ := HK'.out.split j hjt
              have hs2 := (HBq.out.cell (p := ⟨b2, o2 + j * 2, none⟩) hb2).trans hs20
              have hc2 := (HBq.out.cell (p := ⟨b2, o2 + j * 2 + 1, none⟩) hb2).trans hc20
              have hjn : (j : Int) < (n' : Int) := by omega
              have hj0 : (0 : Int) ≤ (j : Int) := by omega
              have hpk := n80_drop kt j HKn.out
              rw [hd3] at hpk
              have He4 : Hid (allT fkB kt = (fkB s2 kt2 && allT fkB (kt.dropT (j + 1)))) := Lib.hid (by rw [← He3.out, hd3, hd4]; rfl)
              obtain ⟨hbe, hke⟩ := eb_ok wr s2 A2 n2 c2
              have hg1 := heap_alloc_new wr (Obj.cells #[.string s2, .slice A2 n2 c2] 56)
              have HKe := Lib.hid hke
              have HBv := Lib.hid (HBq.out.trans (hbe.mono HBq.out.size))
              have hPc := HCo.out s2 (wr.alloc (Obj.cells #[.string s2, .slice A2 n2 c2] 56)) (by have := hpk.1; omega)
              obtain ⟨u, hu⟩ : ∃ u, u = In.kB s2.data.toList := ⟨_, rfl⟩
              rw [← hu] at hPc
              have HPc := Lib.hid hPc
              have hkl2 := hk2.len
              cases u with
              | false =>
                have HV : Hid (fitsM t = 13) := Lib.hid (by rw [HF2.out, He2.out, He4.out, fkB_no hu.symm]; simp)
                clear HF2 He2 He4 hpk hd3 hd4 hr2 He3 hu hPc hk2 hkl2 hbe hke hs20 hc20
                go_wp2_with fail
                (with_reducible refine HPc.out.mono ?_)
                rintro e w3 ⟨rfl, hb3⟩
                go_wp2_with fail
                go_ret
                exact ⟨by rw [HV.out]; rfl, HBv.out.trans (hb3.mono HBv.out.size)⟩
              | true =>
                by_cases h1 : n2 = 1
                · subst h1
                  obtain ⟨s3, k3, rfl⟩ := one_tr hkl2.symm
                  clear hkl2
                  obtain ⟨b3, o3, s3', kt3, r3, A3, n3, c3, rfl, hb3, hs3, hc3, hn3, hc3', hk3, hr3, hd5, hd6⟩ := hk2.split 0 (by omega)
                  rw [dropT_zero] at hd5
                  obtain ⟨rfl, rfl, _⟩ := Tr.cons.inj hd5
                  simp only [Nat.zero_mul, Nat.add_zero] at hs3 hc3
                  have HL3 := Lib.hid (fun (W : World) (hW : Below w.heap.size w W) => (⟨(hW.cell (p := ⟨b3, o3, none⟩) hb3).trans hs3, (hW.cell (p := ⟨b3, o3 + 1, none⟩) hb3).trans hc3⟩ : W.cell? ⟨b3, o3, none⟩ = some (.string s3) ∧ W.cell? ⟨b3, o3 + 1, none⟩ = some (.slice A3 n3 c3)))
                  have hkl3 := hk3.len
                  have hPp := fun W => HVa.out s3 W (by have := hpk.2.1.1; omega)
                  have hfc : fkB s2 (.cons s3 k3 .nil) = (In.vB s3.data.toList && decide (k3.len = 0)) := fkB_one hu.symm
                  rw [hfc] at He4
                  by_cases h3 : n3 = 0
                  · obtain rfl : n3 = 0 := h3
                    rw [decide_eq_true hkl3.symm, Bool.and_true] at He4
                    obtain ⟨v, hv⟩ : ∃ v, v = In.vB s3.data.toList := ⟨_, rfl⟩
                    rw [← hv] at hPp He4
                    have HPp := Lib.hid hPp
                    clear hpk hd3 hd4 hr2 He3 hu hPc hk2 hPp hk3 hr3 hd6 hv hfc hkl3 hbe hke hs20 hc20 hs3 hc3
                    cases v with
                    | false =>
                      have HV : Hid (fitsM t = 13) := Lib.hid (by rw [HF2.out, He2.out, He4.out]; simp)
                      clear HF2 He2 He4
                      go_wp2_with fail
                      (with_reducible refine HPc.out.mono ?_)
                      rintro e w3 ⟨rfl, hb3'⟩
                      obtain ⟨m0, m1⟩ := HKe.out w3 hb3'
                      have HB3 := Lib.hid (HBv.out.trans (hb3'.mono HBv.out.size))
                      obtain ⟨m2, m3⟩ := HL3.out w3 HB3.out
                      go_wp2_with fail
                      (with_reducible refine (HPp.out _).mono ?_)
                      rintro e w4 ⟨rfl, hb4⟩
                      go_wp2_with fail
                      go_ret
                      exact ⟨by rw [HV.out]; rfl, HB3.out.trans (hb4.mono HB3.out.size)⟩
                    | true =>
                      have He5 : Hid (allT fkB (kt.dropT (j + 1)) = allT fkB kt) := Lib.hid (by rw [He4.out]; rfl)
                      clear He4
                      go_wp2_with fail
                      (with_reducible refine HPc.out.mono ?_)
                      rintro e w3 ⟨rfl, hb3'⟩
                      obtain ⟨m0, m1⟩ := HKe.out w3 hb3'
                      have HB3 := Lib.hid (HBv.out.trans (hb3'.mono HBv.out.size))
                      obtain ⟨m2, m3⟩ := HL3.out w3 HB3.out
                      go_wp2_with fail
                      (with_reducible refine (HPp.out _).mono ?_)
                      rintro e w4 ⟨rfl, hb4⟩
                      have HB4 := Lib.hid (HB3.out.trans (hb4.mono HB3.out.size))
                      clear hb4 m0 m1 m2 m3
                      go_wp2_with fail
                      go_roundw
                      case rel => exact ⟨j + 1, by omega, by go_num, HB4, He5⟩
                      case measure => simp [intOf]; omega
                  · rw [decide_eq_false (fun e => h3 (by omega))] at He4
                    have hgt : (0 : Int) < (n3 : Int) := by omega
                    have HV : Hid (fitsM t = 13) := Lib.hid (by rw [HF2.out, He2.out, He4.out]; simp)
                    clear HF2 He2 He4 hpk hd3 hd4 hr2 He3 hu hPc hk2 hPp hk3 hr3 hd6 hfc h3 hkl3 hbe hke hs20 hc20 hs3 hc3
                    go_wp2_with fail
                    (with_reducible refine HPc.out.mono ?_)
                    rintro e w3 ⟨rfl, hb3'⟩
                    obtain ⟨m0, m1⟩ := HKe.out w3 hb3'
                    have HB3 := Lib.hid (HBv.out.trans (hb3'.mono HBv.out.size))
                    obtain ⟨m2, m3⟩ := HL3.out w3 HB3.out
                    go_wp2_with fail
                    go_ret
                    exact ⟨by rw [HV.out]; rfl, HB3.out⟩
                · have hne : ((n2 : Int) != 1) = true := by rw [bne_iff_ne]; omega
                  have HV : Hid (fitsM t = 13) := Lib.hid (by rw [HF2.out, He2.out, He4.out, fkB_len (by omega)]; simp)
                  clear HF2 He2 He4 hpk hd3 hd4 hr2 He3 hu hPc hk2 h1 hkl2 hbe hke hs20 hc20
                  go_wp2_with fail
                  (with_reducible refine HPc.out.mono ?_)
                  rintro e w3 ⟨rfl, hb3'⟩
                  obtain ⟨m0, m1⟩ := HKe.out w3 hb3'
                  have HB3 := Lib.hid (HBv.out.trans (hb3'.mono HBv.out.size))
                  go_wp2_with fail
                  go_ret
                  exact ⟨by rw [HV.out]; rfl, HB3.out⟩
            · obtain rfl : j = n' := by omega
              have He5 : Hid (allT fsB (t.dropT (k + 1)) = allT fsB t) := Lib.hid (by
                have := He3.out
                rw [drop_len kt j (by have := HKl.out; omega)] at this
                rw [He2.out, ← this]; rfl)
              clear He3 He2
              go_wp2_with fail
              go_roundw
              case rel => exact ⟨k + 1, by omega, by go_num, HBq, He5⟩
              case measure => simp [intOf]; omega
      · obtain rfl : k = n := by omega
        have HV : Hid (fitsM t = 0) := Lib.hid (by rw [HF2.out, ← He.out, drop_len t k (by rw [← Hl.out]; exact Nat.le_refl _)]; rfl)
        clear hlt
        go_wp2_with fail
        go_ret
        exact ⟨by rw [HV.out]; rfl, HW.out⟩
  · have HV : Hid (fitsM t = (f : Int)) := Lib.hid (by rw [HF.out, if_pos hf0])
    have hfb : ((f : Int) != 0) = true := bne_iff_ne.2 (by omega)
    clear h hnm hl hls hf hsz HF hf0
    go_enter Tryz.func19, Tryz.ntmps19
    go_wp2_with fail
    (with_reducible refine HC.out.mono ?_)
    rintro e w1 ⟨rfl, hb1⟩
    go_wp2_with fail
    go_ret
    exact ⟨by rw [HV.out]; rfl, hb1⟩
end Go.Proofs.YtapgaglkkgbgkaaGreatDoor.In
