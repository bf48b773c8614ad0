/- The reference's Fits of csv. Conditions: fewer edges than 2^34; its names' sizes. · The reference's Load of csv: what a file is loaded as, the very same as the program's. No conditions. · CsvColumns' walk. Conditions: MaxLen's cell. -/
import Derived.Test.YtkgpjohfkfbfhaaGreatDoorMwRtPutR
import Derived.Test.YtkgpjohfkfbfhaaGreatDoorMwCvGrow
import Derived.Test.YtkgpjohfkfbfhaaGreatDoorMwChkP
import Derived.Test.YtkgpjohfkfbfhaaGreatDoorRcRowsW
import Derived.Test.YtkgpjohfkfbfhaaGreatDoorMwOwnWith
import Derived.Test.YtkgpjohfkfbfhaaGreatDoorMwRQuote
import Derived.Test.YtkgpjohfkfbfhaaGreatDoorMwRtTurnM
import Derived.Test.YtkgpjohfkfbfhaaGreatDoorRtTurn
import Derived.Test.YtkgpjohfkfbfhaaGreatDoorRcFile
namespace Go.Proofs.YtkgpjohfkfbfhaaGreatDoor.Cv
open Go.RowKit Go.Proofs.YtkgpjohfkfbfhaaGreatDoor.Jd Go.Proofs.YtkgpjohfkfbfhaaGreatDoor.Li Go.Proofs.YtkgpjohfkfbfhaaGreatDoor.Pt Go.Proofs.YtkgpjohfkfbfhaaGreatDoor.Cl
set_option maxRecDepth 100000

theorem all_len {f : ByteArray → Tr → Bool} (t : Tr) (k : Nat) (h : t.len ≤ k) : allT f (t.dropT k) = true := by
  rw [drop_len t k h]
  rfl
theorem one_tr {k : Tr} (h : k.len = 1) : ∃ a b, k = .cons a b .nil := by
  cases k with
  | nil => cases h
  | cons a b r =>
    cases r with
    | nil => exact ⟨a, b, rfl⟩
    | cons _ _ _ => simp [Tr.len] at h
set_option maxHeartbeats 4000000 in
theorem rfits_any (t : Tr) (A : Option Addr) (n c : Nat) (w : World) (h : Holds w w.heap.size A n t) (hsz : t.size ≤ 17179869184) (hnm : Tr.Nm t) :
    Calls Tryz.prog 14 #[.slice A n c] w fun e w' => e = .returned (.int .i64 (fitsC t)) ∧ Below w.heap.size w w' := by
  have hl := h.len
  have hls := t.len_size
  have HC := Lib.hid (rcheck_any t A n c w.heap.size w h (Nat.le_refl _) (by omega) (low_size _ (by omega)) hnm)
  have HH := Lib.hid h
  have Hl := Lib.hid hl
  have HP := Lib.hid plain_any
  have HCo := Lib.hid rcolumn_any
  have Hnm := Lib.hid hnm
  obtain ⟨f, hf⟩ : ∃ f, f = t.fault := ⟨_, rfl⟩
  have HF : Hid (fitsC t = if f ≠ 0 then (f : Int) else if allT frB t then 0 else 13) := Lib.hid (by rw [hf]; rfl)
  rw [← hf] at HC
  have hnb : n ≤ 17179869184 := by omega
  clear h hnm hl hls hf
  by_cases hf0 : f = 0
  · have HF2 : Hid (fitsC t = if allT frB t then 0 else 13) := Lib.hid (by rw [HF.out, if_neg (by omega)])
    subst hf0
    clear HF
    go_enter Tryz.func14, Tryz.ntmps14
    go_wp2_with fail
    (with_reducible refine HC.out.mono ?_)
    rintro e w1 ⟨rfl, hb1⟩
    have HB1 := Lib.hid hb1
    clear hb1
    go_wp2_with fail
    go_loopw [4] (fun i wr => ∃ (k : Nat), k ≤ n ∧ i = .int .i64 k ∧ Hid (Below w.heap.size w wr) ∧ Hid (allT frB (t.dropT k) = allT frB t)) (fun i _ => n - (intOf i).toNat)
    case atStart => exact ⟨0, by omega, rfl, HB1, Lib.hid (by rw [dropT_zero])⟩
    case round =>
      obtain ⟨k, hk, rfl, HW, He⟩ := hrel
      obtain ⟨wa, rfl⟩ : ∃ x : World, x = wr := ⟨_, rfl⟩
      by_cases hlt : k < n
      · obtain ⟨b, o, s, kt, r, A', n', c', rfl, hb, hs, hc, hn', hc', hk', hr, hd, hd2⟩ := (HH.out.below HW.out).split k hlt
        have hkn : (k : Int) < (n : Int) := by omega
        have hk0 : (0 : Int) ≤ (k : Int) := by omega
        have hnd := nm_drop t k Hnm.out
        rw [hd] at hnd
        have hPs := HP.out s wa hnd.1
        have hsd := size_drop t k
        have HKn := Lib.hid hnd.2.1
        have He2 : Hid (allT frB t = (nB s && allT fcB kt && allT frB (t.dropT (k + 1)))) := Lib.hid (by rw [← He.out, hd, hd2]; rfl)
        obtain ⟨u, hu⟩ : ∃ u, u = nB s := ⟨_, rfl⟩
        rw [← hu] at hPs He2
        have HPs := Lib.hid hPs
        have HK' := Lib.hid hk'
        have hkl := hk'.len
        have hnb' : n' ≤ 17179869184 := by
          have := kt.len_size
          rw [hd, Tr.size] at hsd
          omega
        have HKl := Lib.hid hkl
        clear hkl hnd hsd hd hd2 hr He hu hPs hk'
        cases u with
        | false =>
          have HV : Hid (fitsC t = 13) := Lib.hid (by rw [HF2.out, He2.out]; simp)
          clear HF2 He2
          go_wp2_with fail
          (with_reducible refine HPs.out.mono ?_)
          rintro e w2 ⟨rfl, rfl⟩
          go_wp2_with fail
          go_ret
          exact ⟨by rw [HV.out]; rfl, HW.out⟩
        | true =>
          go_wp2_with fail
          (with_reducible refine HPs.out.mono ?_)
          rintro e w2 ⟨rfl, rfl⟩
          go_wp2_with fail
          go_loopw [5] (fun i wr => ∃ (j : Nat), j ≤ n' ∧ i = .int .i64 j ∧ Hid (Below wa.heap.size wa wr) ∧ Hid (allT fcB (kt.dropT j) = allT fcB kt)) (fun i _ => n' - (intOf i).toNat)
          case atStart => exact ⟨0, by omega, rfl, Lib.hid (Below.refl _ _), Lib.hid (by rw [dropT_zero])⟩
          case round =>
            obtain ⟨j, hj, rfl, HW2, He3⟩ := hrel
            have HBq : Hid (Below w.heap.size w wr) := Lib.hid (HW.out.trans (HW2.out.mono HW.out.size))
            have hcq := (HW2.out.cell (p := ⟨b, o + k * 2 + 1, none⟩) (Nat.lt_of_lt_of_le hb HW.out.size)).trans hc
            by_cases hjt : j < n'
            · obtain ⟨b2, o2, s2, kt2, r2, A2, n2, c2, rfl, hb2, hs2, hc2, hn2, hc2', hk2, hr2, hd3, hd4⟩ := (HK'.out.below (HW2.out.mono HW.out.size)).split j hjt
              have hjn : (j : Int) < (n' : Int) := by omega
              have hj0 : (0 : Int) ≤ (j : Int) := by omega
              have hnd := nm_drop kt j HKn.out
              rw [hd3] at hnd
              have He4 : Hid (allT fcB kt = (fcB s2 kt2 && allT fcB (kt.dropT (j + 1)))) := Lib.hid (by rw [← He3.out, hd3, hd4]; rfl)
              have hsd := size_drop kt j
              have hPc := fun W => HCo.out s2 W hnd.1
              obtain ⟨u, hu⟩ : ∃ u, u = cB s2 := ⟨_, rfl⟩
              rw [← hu] at hPc
              have HPc := Lib.hid hPc
              have hkl2 := hk2.len
              have hHB2 : Hid (∀ o : Obj, Below w.heap.size w (wr.alloc o)) := Lib.hid fun o => HBq.out.alloc HBq.out.size o
              cases u with
              | false =>
                have HV : Hid (fitsC t = 13) := Lib.hid (by rw [HF2.out, He2.out, He4.out, fcB_no hu.symm]; simp)
                clear HF2 He2 He4 hnd hsd hd3 hd4 hr2 He3 hu hPc hk2 hkl2
                go_wp2_with fail
                (with_reducible refine (HPc.out _).mono ?_)
                rintro e w2 ⟨rfl, rfl⟩
                go_wp2_with fail
                go_ret
                exact ⟨by rw [HV.out]; rfl, hHB2.out _⟩
              | true =>
                by_cases h1 : n2 = 1
                · subst h1
                  obtain ⟨s3, k3, rfl⟩ := one_tr hkl2.symm
                  clear hkl2
                  obtain ⟨b3, o3, s3', kt3, r3, A3, n3, c3, rfl, hb3, hs3, hc3, hn3, hc3', hk3, hr3, hd5, hd6⟩ := hk2.split 0 (by omega)
                  rw [dropT_zero] at hd5
                  obtain ⟨rfl, rfl, _⟩ := Tr.cons.inj hd5
                  simp only [Nat.zero_mul, Nat.add_zero] at hs3 hc3
                  have hs3' : ∀ x, (wr.alloc x).cell? ⟨b3, o3, none⟩ = some (.string s3) := fun x => (World.cell?_alloc_lt _ _ _ (Nat.lt_of_lt_of_le hb3 HBq.out.size)).trans hs3
                  have hc3' : ∀ x, (wr.alloc x).cell? ⟨b3, o3 + 1, none⟩ = some (.slice A3 n3 c3) := fun x => (World.cell?_alloc_lt _ _ _ (Nat.lt_of_lt_of_le hb3 HBq.out.size)).trans hc3
                  have hkl3 := hk3.len
                  have hPp := fun W => HP.out s3 W hnd.2.1.1
                  have hfc : fcB s2 (.cons s3 k3 .nil) = (nB s3 && decide (k3.len = 0)) := by rw [fcB_one hu.symm]; rfl
                  rw [hfc] at He4
                  by_cases h3 : n3 = 0
                  · obtain rfl : n3 = 0 := h3
                    rw [decide_eq_true hkl3.symm, Bool.and_true] at He4
                    obtain ⟨v, hv⟩ : ∃ v, v = nB s3 := ⟨_, rfl⟩
                    rw [← hv] at hPp He4
                    have HPp := Lib.hid hPp
                    clear hnd hsd hd3 hd4 hr2 He3 hu hPc hk2 hPp hk3 hr3 hd6 hv hfc hkl3
                    cases v with
                    | false =>
                      have HV : Hid (fitsC t = 13) := Lib.hid (by rw [HF2.out, He2.out, He4.out]; simp)
                      clear HF2 He2 He4
                      go_wp2_with fail
                      (with_reducible refine (HPc.out _).mono ?_)
                      rintro e w2 ⟨rfl, rfl⟩
                      go_wp2_with fail
                      (with_reducible refine (HPp.out _).mono ?_)
                      rintro e w2 ⟨rfl, rfl⟩
                      go_wp2_with fail
                      go_ret
                      exact ⟨by rw [HV.out]; rfl, hHB2.out _⟩
                    | true =>
                      have He5 : Hid (allT fcB (kt.dropT (j + 1)) = allT fcB kt) := Lib.hid (by rw [He4.out]; rfl)
                      clear He4
                      go_wp2_with fail
                      (with_reducible refine (HPc.out _).mono ?_)
                      rintro e w2 ⟨rfl, rfl⟩
                      go_wp2_with fail
                      (with_reducible refine (HPp.out _).mono ?_)
                      rintro e w2 ⟨rfl, rfl⟩
                      go_wp2_with fail
                      go_roundw
                      case rel => exact ⟨j + 1, by omega, by go_num, Lib.hid (HW2.out.alloc HW2.out.size _), He5⟩
                      case measure => simp [intOf]; omega
                  · rw [decide_eq_false (fun e => h3 (by omega))] at He4
                    have hgt : (0 : Int) < (n3 : Int) := by omega
                    have HV : Hid (fitsC t = 13) := Lib.hid (by rw [HF2.out, He2.out, He4.out]; simp)
                    clear HF2 He2 He4 hnd hsd hd3 hd4 hr2 He3 hu hPc hk2 hPp hk3 hr3 hd6 hfc h3 hkl3
                    go_wp2_with fail
                    (with_reducible refine (HPc.out _).mono ?_)
                    rintro e w2 ⟨rfl, rfl⟩
                    go_wp2_with fail
                    go_ret
                    exact ⟨by rw [HV.out]; rfl, hHB2.out _⟩
                · have hne : ((n2 : Int) != 1) = true := by rw [bne_iff_ne]; omega
                  have HV : Hid (fitsC t = 13) := Lib.hid (by rw [HF2.out, He2.out, He4.out, fcB_len (by omega)]; simp)
                  clear HF2 He2 He4 hnd hsd hd3 hd4 hr2 He3 hu hPc hk2 h1 hkl2
                  go_wp2_with fail
                  (with_reducible refine (HPc.out _).mono ?_)
                  rintro e w2 ⟨rfl, rfl⟩
                  go_wp2_with fail
                  go_ret
                  exact ⟨by rw [HV.out]; rfl, hHB2.out _⟩
            · obtain rfl : j = n' := by omega
              have He5 : Hid (allT frB (t.dropT (k + 1)) = allT frB t) := Lib.hid (by
                have := He3.out
                rw [all_len kt j (by have := HKl.out; omega)] at this
                rw [He2.out, ← this]; rfl)
              clear He3 He2
              go_wp2_with fail
              go_roundw
              case rel => exact ⟨k + 1, by omega, by go_num, HBq, He5⟩
              case measure => simp [intOf]; omega
      · obtain rfl : k = n := by omega
        have HV : Hid (fitsC t = 0) := Lib.hid (by rw [HF2.out, ← He.out, all_len t k (by rw [← Hl.out]; exact Nat.le_refl _)]; rfl)
        clear hlt
        go_wp2_with fail
        go_ret
        exact ⟨by rw [HV.out]; rfl, HW.out⟩
  · have HV : Hid (fitsC t = (f : Int)) := Lib.hid (by rw [HF.out, if_pos hf0])
    have hfb : ((f : Int) != 0) = true := bne_iff_ne.2 (by omega)
    clear HF hf0
    go_enter Tryz.func14, Tryz.ntmps14
    go_wp2_with fail
    (with_reducible refine HC.out.mono ?_)
    rintro e w1 ⟨rfl, hb1⟩
    go_wp2_with fail
    go_ret
    exact ⟨by rw [HV.out]; rfl, hb1⟩
end Go.Proofs.YtkgpjohfkfbfhaaGreatDoor.Cv
namespace Go.Proofs.YtkgpjohfkfbfhaaGreatDoor.Cv
open Go.RowKit Go.Proofs.YtkgpjohfkfbfhaaGreatDoor.Jd Go.Proofs.YtkgpjohfkfbfhaaGreatDoor.Li Go.Proofs.YtkgpjohfkfbfhaaGreatDoor.Pt Go.Proofs.YtkgpjohfkfbfhaaGreatDoor.Cl
set_option maxRecDepth 100000

theorem rowsR_ok (l : Bs) (hl : l.length ≤ 4000) : Tr.Nm (rowsR [] .nil 0 (split l)).2.1 ∧ (rowsR [] .nil 0 (split l)).2.1.size ≤ 17179869184 := by
  have e := rows_same (split l) [] 0
  rw [List.map_nil, accOf] at e
  rw [e]
  by_cases h3 : (rowsF [] 0 (split l)).2.2 = 0
  · rw [if_pos h3]
    have hn := rowsF_nod (split l) [] 0 trivial h3
    have hs : (split l).length ≤ 4000 := Nat.le_trans (split_le _) hl
    obtain ⟨h1, h2, _⟩ := rowsF_ok (split l) [] 0 trivial (fun x hx => Nat.le_trans (split_lens l x hx) hl)
    dsimp only
    rw [accOf_tree hn]
    cases hr : (rowsF [] 0 (split l)).1 with
    | nil => exact ⟨trivial, Nat.zero_le _⟩
    | cons h t =>
      rw [hr] at h1 h2
      exact treeR_ok h1 (by simp only [List.length_cons, List.length_nil] at h2; omega)
  · rw [if_neg h3]
    exact ⟨trivial, Nat.zero_le _⟩
theorem rowsR_line (l : Bs) (h : (rowsR [] .nil 0 (split l)).2.2.2 = 0) : (rowsR [] .nil 0 (split l)).2.2.1 = 0 := by
  have e := rows_same (split l) [] 0
  rw [List.map_nil, accOf] at e
  rw [e] at h ⊢
  by_cases h3 : (rowsF [] 0 (split l)).2.2 = 0
  · rw [if_pos h3]
  · rw [if_neg h3] at h
    exact absurd h h3
def LoadQ (w : World) (o : Tr × Nat × Int) (en : Ending) (w' : World) : Prop :=
  ∃ At nt ct, en = .returned (.tuple #[.slice At nt ct, .int .i64 (o.2.1 : Nat), .int .i64 o.2.2]) ∧ Holds w' w'.heap.size At nt o.1 ∧ nt ≤ ct ∧ ct ≤ maxLen ∧ Below w.heap.size w w'

set_option maxHeartbeats 4000000 in
theorem rload_any (s : ByteArray) (w : World) (hz : s.size ≤ 274877906944) : Calls Tryz.prog 10 #[.string s] w (LoadQ w (readF s.data.toList)) := by
  rw [← load_same]
  have hsl : s.data.toList.length = s.size := rfl
  by_cases h1 : 4000 < s.size
  · have hL : loadR s.data.toList = (.nil, 0, 5) := by rw [loadR, if_pos (by omega)]
    rw [hL]
    have h1' : (4000 : Int) < (s.size : Int) := by omega
    clear hL hsl h1
    go_enter Tryz.func10, Tryz.ntmps10
    go_wp2_with fail
    refine bodyPost_ret (v := .tuple #[.slice none 0 0, .int .i64 0, .int .i64 5]) (by simp [results, Tryz.results10, go_sem]) rfl ?_
    exact ⟨none, 0, 0, rfl, rfl, Nat.le_refl _, Nat.zero_le _, Below.refl _ _⟩
  · have h1' : ¬ (4000 : Int) < (s.size : Int) := by omega
    by_cases h2 : s.size = 0
    · have hL : loadR s.data.toList = (.nil, 0, 2) := by rw [loadR, if_neg (by omega), if_pos (by omega)]
      rw [hL]
      have he := empty_iff s
      rw [decide_eq_true h2] at he
      clear hL hsl h1 h2
      go_enter Tryz.func10, Tryz.ntmps10
      go_wp2_with fail
      refine bodyPost_ret (v := .tuple #[.slice none 0 0, .int .i64 0, .int .i64 2]) (by simp [results, Tryz.results10, go_sem]) rfl ?_
      exact ⟨none, 0, 0, rfl, rfl, Nat.le_refl _, Nat.zero_le _, Below.refl _ _⟩
    · have he := empty_iff s
      rw [decide_eq_false h2] at he
      obtain ⟨hnm, htz⟩ := rowsR_ok s.data.toList (by omega)
      obtain ⟨o, ho⟩ : ∃ o, o = rowsR [] .nil 0 (split s.data.toList) := ⟨_, rfl⟩
      have hL : loadR s.data.toList = if o.2.2.2 ≠ 0 then (.nil, o.2.2.1, o.2.2.2) else if o.2.1.fault ≠ 0 then (.nil, 0, (o.2.1.fault : Nat)) else (o.2.1, 0, 0) := by rw [loadR, if_neg (by omega), if_neg (by omega), ho]
      have hline := rowsR_line s.data.toList
      rw [← ho] at hnm htz hline
      have hll : (split s.data.toList).length ≤ 4000 := Nat.le_trans (split_le _) (by omega)
      have hlens : ∀ x ∈ split s.data.toList, x.1.length ≤ 4000 := fun x hx => Nat.le_trans (split_lens _ x hx) (by omega)
      have HSp := Lib.hid (rsplit_any s w (by omega))
      have HRo := Lib.hid (fun (A : Option Addr) (c : Nat) (W : World) (h : OwnL W w.heap.size A (split s.data.toList).length c (split s.data.toList)) => by
        have := rrows_any (split s.data.toList) A (split s.data.toList).length c W.heap.size W h.sees (Nat.le_refl _) (by omega) hlens
        rw [← ho] at this
        exact this)
      have HL := Lib.hid hL
      have Hnm := Lib.hid hnm
      clear hL hsl h1 h2 hnm ho hlens
      go_enter Tryz.func10, Tryz.ntmps10
      go_wp2_with fail
      (with_reducible refine HSp.out.mono ?_)
      rintro e w1 ⟨A1, c1, rfl, ho1, hb1⟩
      have HRo1 := Lib.hid (HRo.out A1 c1 w1 ho1)
      clear ho1
      go_wp2_with fail
      (with_reducible refine HRo1.out.mono ?_)
      rintro e w2 ⟨A2, At, c2, nt, ct, vs, rfl, ho2, hT, hnt, hct, hb2⟩
      have HB := Lib.hid (hb1.trans (hb2.mono hb1.size))
      have hln := hT.len
      have hls := o.2.1.len_size
      have HC := Lib.hid (rcheck_any o.2.1 At nt ct w2.heap.size w2 hT (Nat.le_refl _) (by omega) (low_size _ (by omega)) Hnm.out)
      have HT := Lib.hid hT
      obtain ⟨e0, he0⟩ : ∃ e0, e0 = o.2.2.2 := ⟨_, rfl⟩
      obtain ⟨l0, hl0⟩ : ∃ l0, l0 = o.2.2.1 := ⟨_, rfl⟩
      obtain ⟨t0, ht0⟩ : ∃ t0, t0 = o.2.1 := ⟨_, rfl⟩
      obtain ⟨f0, hf0⟩ : ∃ f0, f0 = t0.fault := ⟨_, rfl⟩
      rw [← ht0, ← hf0] at HC
      rw [← ht0] at HT
      rw [← he0, ← hl0, ← ht0, ← hf0] at HL
      rw [← he0, ← hl0]
      rw [← he0, ← hl0] at hline
      clear hb1 hb2 ho2 hT hln hls he0 hl0 ht0 hf0 htz
      by_cases h0 : e0 = 0
      · subst h0
        obtain rfl : l0 = 0 := hline rfl
        clear hline
        go_wp2_with fail
        (with_reducible refine HC.out.mono ?_)
        rintro e w3 ⟨rfl, hb3⟩
        have HB3 := Lib.hid (HB.out.trans (hb3.mono HB.out.size))
        have HT3 := Lib.hid ((HT.out.below hb3).more hb3.size)
        clear hb3
        by_cases hf : f0 = 0
        · have HL2 : Hid (loadR s.data.toList = (t0, 0, 0)) := Lib.hid (by rw [HL.out, if_neg (by decide), if_neg (by simpa using hf)])
          subst hf
          go_wp2_with fail
          refine bodyPost_ret (v := .tuple #[.slice At nt ct, .int .i64 0, .int .i64 0]) (by simp [results, Tryz.results10, go_sem]) rfl ?_
          rw [HL2.out]
          exact ⟨At, nt, ct, rfl, HT3.out, hnt, hct, HB3.out⟩
        · have HL2 : Hid (loadR s.data.toList = (.nil, 0, ((f0 : Nat) : Int))) := Lib.hid (by rw [HL.out, if_neg (by decide), if_pos (by simpa using hf)])
          have hfb : ((f0 : Int) != 0) = true := bne_iff_ne.2 (by omega)
          clear hf
          go_wp2_with fail
          refine bodyPost_ret (v := .tuple #[.slice none 0 0, .int .i64 0, .int .i64 f0]) (by simp [results, Tryz.results10, go_sem]) rfl ?_
          rw [HL2.out]
          exact ⟨none, 0, 0, rfl, rfl, Nat.le_refl _, Nat.zero_le _, HB3.out⟩
      · have hvb : (e0 != 0) = true := bne_iff_ne.2 h0
        have hvb2 : (e0 == 0) = false := beq_eq_false_iff_ne.2 h0
        have HL2 : Hid (loadR s.data.toList = (.nil, l0, e0)) := Lib.hid (by rw [HL.out, if_pos h0])
        clear h0 hline
        go_wp2_with fail
        refine bodyPost_ret (v := .tuple #[.slice none 0 0, .int .i64 l0, .int .i64 e0]) (by simp [results, Tryz.results10, go_sem]) rfl ?_
        rw [HL2.out]
        exact ⟨none, 0, 0, rfl, rfl, Nat.le_refl _, Nat.zero_le _, HB.out⟩
end Go.Proofs.YtkgpjohfkfbfhaaGreatDoor.Cv
namespace Go.Proofs.YtkgpjohfkfbfhaaGreatDoor.Cv
open Go.RowKit Go.Proofs.YtkgpjohfkfbfhaaGreatDoor.Jd Go.Proofs.YtkgpjohfkfbfhaaGreatDoor.Li Go.Proofs.YtkgpjohfkfbfhaaGreatDoor.Cl Go.Proofs.YtkgpjohfkfbfhaaGreatDoor.Pt
set_option maxRecDepth 100000

theorem readF_few (l : Bs) : Tn 400 (readF l).1 := by
  by_cases h : (readF l).2.2 = 0
  · rw [← load_same] at h ⊢
    unfold loadR at h ⊢
    by_cases h1 : 4000 < l.length
    · rw [if_pos h1]; exact ⟨Nat.zero_le _, trivial⟩
    · rw [if_neg h1] at h ⊢
      have h2 := (rowsR_ok l (by omega)).1
      split
      · exact ⟨Nat.zero_le _, trivial⟩
      · split
        · exact ⟨Nat.zero_le _, trivial⟩
        · split
          · exact ⟨Nat.zero_le _, trivial⟩
          · rename_i h3
            exact ⟨(fault_asc (Decidable.not_not.1 h3)).2, h2⟩
  · have e : (readF l).1 = .nil := by
      unfold readF at h ⊢
      split
      · rfl
      · split
        · rfl
        · split
          · rfl
          · split
            · rfl
            · rename_i h1 h2 _ _ _ h3 h4
              exfalso
              apply h
              rw [if_neg h1, if_neg h2, h3]
              dsimp only
              rw [if_neg h4]
    rw [e]
    exact ⟨Nat.zero_le _, trivial⟩
end Go.Proofs.YtkgpjohfkfbfhaaGreatDoor.Cv
