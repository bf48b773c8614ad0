/- CodeLong: a text has two bytes that say how long it is, and as many as it has, up to 65535. -/
import Derived.Test.YtfnenafdmpihaaaLess
namespace Go.Proofs.Ytfnenafdmpihaaa
open Go.RowKit

theorem text_full (g k : Nat) (t l : List UInt8) (w : World) (h : Rds w g (leB 2 k ++ (t ++ l)) 0) (hk : k < 65536) (hl : t.length = k) : Calls Try.prog 25 #[.pointer (some ⟨g, 0, none⟩)] w fun en w' => en = .returned (.string ⟨t.toArray⟩) ∧ ReadPost w w' g l 0 := by
  have hr := text_any g _ 0 w h
  have e : rdStep 2 (leB 2 k ++ (t ++ l)) 0 = (k, t ++ l, 0) := by
    rw [rdStep_yes (by rw [List.length_append, leB_length]; omega)]
    have ht : (leB 2 k ++ (t ++ l)).take 2 = leB 2 k := List.take_left' (leB_length 2 k)
    have hd : (leB 2 k ++ (t ++ l)).drop 2 = t ++ l := List.drop_left' (leB_length 2 k)
    rw [ht, hd, valB_leB 2 k hk]
  unfold txStep at hr
  rw [e, txNext_yes (by rw [List.length_append]; omega), List.take_left' hl, List.drop_left' hl] at hr
  exact hr

/-- n bytes, all 0 but the first. -/
def one0 (x : UInt8) (n : Nat) : List UInt8 := x :: List.replicate (n - 1) 0
theorem one0_length {x : UInt8} {n : Nat} (h : 0 < n) : (one0 x n).length = n := by simp [one0]; omega
theorem one0_arr (x : UInt8) {n : Nat} (h : 0 < n) : (Arr n 0 0).setIfInBounds 0 (.int .u8 (x.toNat : Int)) = (byts (one0 x n)).toArray := by
  obtain ⟨m, rfl⟩ : ∃ m, n = m + 1 := ⟨n - 1, by omega⟩
  rw [Arr_zero]
  simp only [one0, byts, List.map_cons, List.replicate_succ, List.setIfInBounds_toArray, List.set_cons_zero, Nat.add_sub_cancel, List.map_replicate]
  rfl

set_option maxHeartbeats 4000000 in
theorem long_any (a : Int) (x : UInt8) (w : World) (ha : (Lit.int .i64 a).wf = true) :
    Calls Try.prog 8 #[.int .i64 a, .int .u8 x.toNat] w fun e w' => e = .returned (.bool true) ∧ Below w.heap.size w w' := by
  have HA := Lib.hid ha
  clear ha
  obtain ⟨i0, hi0, hz0, hs0, hb0⟩ := info_parts info_u8
  go_enter Try.func8, Try.ntmps8
  go_wp2_with fail
  refine (known_any w).mono ?_
  rintro e w1 ⟨rfl, hb1⟩
  go_wp2_with fail
  refine (within_any a 5 (by omega) (by omega) HA.out _).mono ?_
  rintro e w' ⟨rfl, rfl⟩
  obtain ⟨E, hE⟩ : ∃ E : Nat, a % 5 = (E : Int) := ⟨(a % 5).toNat, by omega⟩
  have hE2 : E < 5 := by omega
  rw [hE]
  clear hE
  obtain ⟨n, hn⟩ : ∃ n : Nat, (65533 : Int) + (E : Int) = (n : Int) := ⟨65533 + E, by omega⟩
  have hn1 : 65533 ≤ n := by omega
  have hn2 : n ≤ 65537 := by omega
  have hmk := make_n (P := Try.prog) 22 5 i0 Try.underlying22 hi0 hz0 hs0 hb0 n 0 (by omega)
  clear hi0 hz0 hs0 hb0
  have h0n : 0 < n := by omega
  have hget := Arr_get (n := n) (v := 0) (k := 0) h0n
  have harr := one0_arr x h0n
  have hown : Own (w1.alloc (.cells (byts (one0 x n)).toArray 5)) w1.heap.size (some ⟨w1.heap.size, 0, none⟩) n n (one0 x n) := Own.lit w1 _ n (Nat.le_refl _) (by simp only [maxLen]; omega) (one0_length h0n)
  obtain ⟨S, hS⟩ : ∃ S : ByteArray, S = ⟨(one0 x n).toArray⟩ := ⟨_, rfl⟩
  have hcv := run_text 22 9 5 Try.underlying22 Try.underlying5 Try.underlying9 (c := n) hown.sees
  rw [← hS] at hcv
  have hSz : S.size = n := by rw [hS]; exact one0_length (x := x) h0n
  have HSz := Lib.hid hSz
  have HS := Lib.hid hS
  clear hS hSz hown
  go_wp2_with fail
  clear hcv harr hget hmk
  refine (putText_any none 0 0 [] S _ (Sees.none_ _ _ _) (by omega) (by rw [HSz.out]; simp only [maxLen]; omega)).mono ?_
  rintro e w2 ⟨A2, N2, c2, rfl, ho2, hb2⟩
  obtain ⟨K, hK⟩ : ∃ K : Nat, K = min n 65535 := ⟨_, rfl⟩
  obtain ⟨Z, hZ⟩ : ∃ Z : List UInt8, cutText S = x :: Z ∧ Z.length + 1 = K := by
    refine ⟨(List.replicate (n - 1) 0).take 65534, ?_, ?_⟩
    · unfold cutText
      rw [HS.out]
      rfl
    · rw [List.length_take, List.length_replicate]; omega
  have htB : textB S = leB 2 K ++ ((x :: Z) ++ []) := by
    unfold textB
    rw [hZ.1, List.append_nil, List.length_cons, hZ.2]
  rw [List.nil_append, htB] at ho2
  have hN2 : N2 = K + 2 := by rw [ho2.len]; simp only [List.length_append, leB_length, List.length_cons, List.length_nil, hZ.2]; omega
  subst hN2
  obtain ⟨g2, rfl, _, hg2, hcell⟩ := ho2.head (by omega)
  have hK1 : 65533 ≤ K := by omega
  have hK2 : K ≤ 65535 := by omega
  have hc0 : w2.cell? ⟨g2, 0, none⟩ = some (.int .u8 ((K : Int) % 256)) := (hcell 0 (by omega)).trans (by simp only [leB, List.cons_append, List.getD_cons_zero, UInt8.toNat_ofNat']; rfl)
  have hc1 : w2.cell? ⟨g2, 1, none⟩ = some (.int .u8 ((K : Int) / 256)) := (hcell 1 (by omega)).trans (by
    simp only [leB, List.cons_append, List.getD_cons_succ, List.getD_cons_zero, UInt8.toNat_ofNat']
    rw [show K / 256 % 2 ^ 8 = K / 256 by omega]
    rfl)
  clear hcell
  have hzl : Z.length + 1 = K := hZ.2
  have Hzl := Lib.hid hzl
  clear hZ hzl htB
  by_cases h65 : n ≤ 65535
  · obtain rfl : K = n := by omega
    clear hK
    go_wp2_with fail
    refine (new_any (K + 2) c2 _ _ w2 ho2.sees (by omega)).mono ?_
    rintro e w3 ⟨g, rfl, hg, hr3, hb3⟩
    go_wp2_with fail
    refine (text_full g K (x :: Z) [] w3 hr3 (by omega) Hzl.out).mono ?_
    rintro e w4 ⟨rfl, hp4⟩
    have hr4 := hp4.rds
    have hb4 := hp4.below hg hb3.size
    have hb24 := hb3.trans hb4
    have hc0' := (hb24.cell (p := ⟨g2, 0, none⟩) hg2).trans hc0
    have hc1' := (hb24.cell (p := ⟨g2, 1, none⟩) hg2).trans hc1
    clear hc0 hc1
    have hzl := Hzl.out
    have hx0 : (⟨(x :: Z).toArray⟩ : ByteArray)[0]'(Nat.succ_pos _) = x := rfl
    go_wp2_with fail
    refine (end_nil g w4 hr4).mono ?_
    rintro e w' ⟨rfl, rfl⟩
    go_wp2_with fail
    go_ret
    refine ⟨rfl, hb1.trans ?_⟩
    exact (((Below.refl _ _).alloc (Nat.le_refl _) _).trans ((hb2.trans (hb24.mono hb2.size)).mono (by simp))).mono hb1.size
  · obtain rfl : K = 65535 := by omega
    clear hK
    go_wp2_with fail
    refine (new_any (65535 + 2) c2 _ _ w2 ho2.sees (by omega)).mono ?_
    rintro e w3 ⟨g, rfl, hg, hr3, hb3⟩
    go_wp2_with fail
    refine (text_full g 65535 (x :: Z) [] w3 hr3 (by omega) Hzl.out).mono ?_
    rintro e w4 ⟨rfl, hp4⟩
    have hr4 := hp4.rds
    have hb4 := hp4.below hg hb3.size
    have hb24 := hb3.trans hb4
    have hc0' := (hb24.cell (p := ⟨g2, 0, none⟩) hg2).trans hc0
    have hc1' := (hb24.cell (p := ⟨g2, 1, none⟩) hg2).trans hc1
    clear hc0 hc1
    have hzl := Hzl.out
    have hx0 : (⟨(x :: Z).toArray⟩ : ByteArray)[0]'(Nat.succ_pos _) = x := rfl
    go_wp2_with fail
    refine (end_nil g w4 hr4).mono ?_
    rintro e w' ⟨rfl, rfl⟩
    go_wp2_with fail
    go_ret
    refine ⟨rfl, hb1.trans ?_⟩
    exact (((Below.refl _ _).alloc (Nat.le_refl _) _).trans ((hb2.trans (hb24.mono hb2.size)).mono (by simp))).mono hb1.size
end Go.Proofs.Ytfnenafdmpihaaa
