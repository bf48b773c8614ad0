/- The law's levels: each level, by the definition that leads there. Conditions: fewer than 2^39 edges. -/
import Derived.Test.YtagoeededpmdkaaScFew
import Derived.Deep.RegionHeld3
namespace Go.Proofs.Ytagoeededpmdkaa.Sc
open Go.RowKit Go.Proofs.Ytagoeededpmdkaa.Nm
set_option maxRecDepth 100000

set_option maxHeartbeats 2000000 in
theorem levels_any (M : Nat) : ∀ (s : List Df) (t : Tr) (A : Option Addr) (n c B : Nat) (d : Int) (A2 : Option Addr) (n2 c2 : Nat) (w : World), t.size ≤ M → Ds w B A n s → FitS s → B ≤ w.heap.size → n ≤ 9223372036854775807 → Holds w B A2 n2 t → t.size ≤ 549755813888 →
    Calls Try.prog 60 #[.slice A n c, .int .i64 d, .slice A2 n2 c2] w fun e w' => e = .returned (.bool (fits s d t)) ∧ Below w.heap.size w w' := by
  induction M with
  | zero =>
    intro s t A n c B d A2 n2 c2 w hM hs hfit hB hn ht hsz
    cases t with
    | nil =>
      have HL := Lib.hid (level_any s .nil A n c B d A2 n2 c2 w hs hfit hB hn ht (by rw [show n2 = 0 from ht]; omega))
      obtain rfl : n2 = 0 := ht
      obtain ⟨v, hv⟩ : ∃ v, v = lvl s d .nil := ⟨_, rfl⟩
      have HV : Hid (fits s d .nil = v) := Lib.hid (by rw [hv, fits, fitsK, Bool.and_true])
      rw [← hv] at HL
      rw [HV.out]
      clear hv hs
      cases v with
      | false =>
        go_enter Try.func60, Try.ntmps60
        go_wp2_with fail
        (with_reducible refine HL.out.mono ?_)
        rintro e w1 ⟨rfl, hb1⟩
        go_wp2_with fail
        go_ret
        exact ⟨rfl, hb1⟩
      | true =>
        go_enter Try.func60, Try.ntmps60
        go_wp2_with fail
        (with_reducible refine HL.out.mono ?_)
        rintro e w1 ⟨rfl, hb1⟩
        go_wp2_with fail
        go_loopw [7] (fun i wr => i = .int .i64 0 ∧ wr = w1) (fun _ _ => 0)
        case atStart => exact ⟨rfl, rfl⟩
        case round =>
          obtain ⟨rfl, rfl⟩ := hrel
          go_wp2_with fail
          go_ret
          exact ⟨rfl, hb1⟩
    | cons _ _ _ => simp [Tr.size] at hM
  | succ M ih =>
    intro s t A n c B d A2 n2 c2 w hM hs hfit hB hn ht hsz
    have hnl := ht.len
    have hn2 : n2 ≤ 549755813889 := by have := t.len_size; omega
    have HL := Lib.hid (level_any s t A n c B d A2 n2 c2 w hs hfit hB hn ht (by omega))
    have Hnl := Lib.hid hnl
    obtain ⟨F, hF⟩ : ∃ F, F = fits s d t := ⟨_, rfl⟩
    have HF := Lib.hid hF
    rw [← hF]
    obtain ⟨v, hv⟩ : ∃ v, v = lvl s d t := ⟨_, rfl⟩
    have HV := Lib.hid hv
    rw [← hv] at HL
    have HX := Lib.hid hfit
    clear hv hF hnl hfit
    cases v with
    | false =>
      have hF2 : F = false := by rw [HF.out, fits, ← HV.out]; rfl
      subst hF2
      go_enter Try.func60, Try.ntmps60
      go_wp2_with fail
      (with_reducible refine HL.out.mono ?_)
      rintro e w1 ⟨rfl, hb1⟩
      go_wp2_with fail
      go_ret
      exact ⟨rfl, hb1⟩
    | true =>
      go_enter Try.func60, Try.ntmps60
      go_wp2_with fail
      (with_reducible refine HL.out.mono ?_)
      rintro e w1 ⟨rfl, hb1⟩
      go_wp2_with fail
      go_loopw [7] (fun i wr => ∃ k : Nat, k ≤ n2 ∧ i = .int .i64 k ∧ Hid (fitsK s d (t.dropT k) = F) ∧ Below w.heap.size w wr) (fun i _ => n2 - (intOf i).toNat)
      case atStart => exact ⟨0, Nat.zero_le _, rfl, by rw [dropT_zero]; exact Lib.hid (by rw [HF.out, fits, ← HV.out, Bool.true_and]), hb1⟩
      case round =>
        obtain ⟨k, hk, rfl, H, hbw⟩ := hrel
        by_cases hlt : k < n2
        · obtain ⟨b, o, x, kt, r, A', n', c', rfl, hb, hsx, hcx, hn', hc', hk', hr, hdr, hd2⟩ := (ht.below (hbw.mono hB)).split k hlt
          have hkn : (k : Int) < (n2 : Int) := by omega
          have hk0 : (0 : Int) ≤ (k : Int) := by omega
          have hsz := hbw.size
          have hszk := size_drop t k
          rw [hdr] at hszk
          simp only [Tr.size] at hszk
          have hd0 : Below wr.heap.size wr wr.drew := (Below.refl _ _).drew
          have hBd : B ≤ wr.drew.heap.size := by simp; omega
          have HT := Lib.hid (to_any s A n c B d x wr.drew (hs.below ((hbw.mono hB).drew))  hBd hn)
          obtain ⟨v, hv⟩ : ∃ v, v = toS s d x.data.toList := ⟨_, rfl⟩
          rw [← hv] at HT
          have HI := Lib.hid (fun W (hbx : Below wr.drew.heap.size wr.drew W) => have hbz : Below wr.heap.size wr W := hd0.trans (hbx.mono (Nat.le_refl _)); ih s kt A n c B v A' n' c' W (by omega) (hs.below ((hbw.mono hB).trans (hbz.mono (Nat.le_trans hB hsz)))) HX.out (Nat.le_trans (Nat.le_trans hB hsz) hbz.size) hn (hk'.below (hbz.mono (Nat.le_trans hB hsz))) (by omega))
          obtain ⟨g, hg⟩ : ∃ g, g = fits s v kt := ⟨_, rfl⟩
          rw [← hg] at HI
          have H2 : Hid (F = (g && fitsK s d (t.dropT (k + 1)))) := Lib.hid (by rw [← H.out, hdr, fitsK_cons, hd2, hg, hv])
          have hbl : b < wr.heap.size := by omega
          have HK := Lib.hid (fun W (hbx : Below wr.drew.heap.size wr.drew W) => (⟨(hbx.cell (p := ⟨b, o + k * 2, none⟩) hbl).trans hsx, (hbx.cell (p := ⟨b, o + k * 2 + 1, none⟩) hbl).trans hcx⟩ : W.cell? ⟨b, o + k * 2, none⟩ = some (.string x) ∧ W.cell? ⟨b, o + k * 2 + 1, none⟩ = some (.slice A' n' c')))
          have hz0 : Below wr.drew.heap.size wr.drew wr.drew := Below.refl _ _
          have HBw := Lib.hid (hbw.trans (hd0.mono hsz))
          clear hv hg hdr hd2 hr hszk hbw hd0 hsx hcx hk'
          cases g with
          | false =>
            have hF2 : F = false := by rw [H2.out]; rfl
            subst hF2
            go_wp2_with fail
            go_region_held3 (fun W => W.cell? ⟨b, o + k * 2, none⟩ = some (.string x) ∧ W.cell? ⟨b, o + k * 2 + 1, none⟩ = some (.slice A' n' c'))
              (first | exact HK.out _ hz2 | exact HK.out _ hz1 | exact HK.out _ hz0)
              (first
              | (go_at_call 57; (with_reducible refine HT.out.mono ?_); rintro e w2 ⟨rfl, hz1⟩)
              | (go_at_call 60; (with_reducible refine (HI.out _ hz1).mono ?_); rintro e w3 ⟨rfl, hb3⟩; have hz2 := hz1.trans (hb3.mono hz1.size)))
            all_goals
              go_wp2_with fail
              go_ret
              exact ⟨rfl, HBw.out.trans (hz2.mono HBw.out.size)⟩
          | true =>
            have H3 : Hid (fitsK s d (t.dropT (k + 1)) = F) := Lib.hid (by rw [H2.out, Bool.true_and])
            go_wp2_with fail
            go_region_held3 (fun W => W.cell? ⟨b, o + k * 2, none⟩ = some (.string x) ∧ W.cell? ⟨b, o + k * 2 + 1, none⟩ = some (.slice A' n' c'))
              (first | exact HK.out _ hz2 | exact HK.out _ hz1 | exact HK.out _ hz0)
              (first
              | (go_at_call 57; (with_reducible refine HT.out.mono ?_); rintro e w2 ⟨rfl, hz1⟩)
              | (go_at_call 60; (with_reducible refine (HI.out _ hz1).mono ?_); rintro e w3 ⟨rfl, hb3⟩; have hz2 := hz1.trans (hb3.mono hz1.size)))
            all_goals
              go_wp2_with fail
              go_roundw
              case rel => exact ⟨k + 1, by omega, by go_num, H3, HBw.out.trans (hz2.mono HBw.out.size)⟩
              case measure => simp [intOf]; omega
        · obtain rfl : k = n2 := by omega
          have hF2 : F = true := by
            have := H.out
            rw [drop_len t k (by rw [← Hnl.out]; exact Nat.le_refl _)] at this
            rw [← this]
            rfl
          subst hF2
          go_wp2_with fail
          go_ret
          exact ⟨rfl, hbw⟩
end Go.Proofs.Ytagoeededpmdkaa.Sc
