/- Make: a tree of raw edges. Conditions: fewer than 200 raw edges; at most 100 beside one another, 100 deep. -/
import Derived.Test.YtcfaocjgflefmaaWithW
import Derived.Deep.RegionHeld3
import Derived.IntWalk
namespace Go.Proofs.Ytcfaocjgflefmaa
open Go.RowKit
set_option maxRecDepth 100000

def cut30 (s : ByteArray) : ByteArray := s.extract 0 30
/-- Make: what is still to be gone through, how many edges may still come, how deep, what is made so far. -/
def Tr.makeT (W : Nat) : Tr → Nat → Nat → Tr → Tr
  | .nil, _, _, acc => acc
  | .cons s k r, left, deep, acc => if left = 0 ∨ deep = 0 then acc else r.makeT W (left - 1) deep (acc.withT (cut30 s) (k.makeT W W (deep - 1) .nil))

set_option maxHeartbeats 2000000 in
theorem make_any (N : Nat) : ∀ (t : Tr) (A : Option Addr) (n c B : Nat) (W D : Int) (w : World), t.size ≤ N → Holds w B A n t → B ≤ w.heap.size → n ≤ c → c ≤ maxLen → t.size ≤ 400 → 0 ≤ W → W ≤ 100 → 0 ≤ D → D ≤ 100 →
    Calls Try.prog 14 #[.slice A n c, .int .i64 W, .int .i64 D] w fun e w' => ∃ A' n' c', e = .returned (.slice A' n' c') ∧ Holds w' w'.heap.size A' n' (t.makeT W.toNat W.toNat D.toNat .nil) ∧ n' ≤ c' ∧ c' ≤ maxLen ∧ Below w.heap.size w w' := by
  induction N with
  | zero =>
    intro t A n c B W D w hN h hB hc hm h4 hW hW2 hD hD2
    cases t with
    | nil =>
      obtain rfl : n = 0 := h
      go_enter Try.func14, Try.ntmps14
      go_wp2_with fail
      go_loop [7, 8] (fun v i => v = .slice none 0 0 ∧ i = .int .i64 0) (fun _ _ => 0)
      case atStart => exact ⟨rfl, rfl⟩
      case round =>
        obtain ⟨rfl, rfl⟩ := hrel
        go_wp2_with fail
        go_ret
        exact ⟨none, 0, 0, rfl, rfl, Nat.le_refl _, Nat.zero_le _, Below.refl _ _⟩
    | cons s k r => simp [Tr.size] at hN
  | succ N ih =>
    intro t A n c B W D w hN h hB hc hm h4 hW hW2 hD hD2
    have Hn := Lib.hid h.len
    have hn4 : n ≤ 400 := by have := t.len_size; have := Hn.out; omega
    go_enter Try.func14, Try.ntmps14
    go_wp2_with fail
    go_loopw [7, 8] (fun v i wr => ∃ (k : Nat) (acc : Tr) (At : Option Addr) (nt ct : Nat), k ≤ n ∧ i = .int .i64 k ∧ v = .slice At nt ct ∧ Holds wr wr.heap.size At nt acc ∧ nt ≤ ct ∧ ct ≤ maxLen ∧ nt ≤ k ∧ Below w.heap.size w wr ∧
      Hid ((t.dropT k).makeT W.toNat (W.toNat - k) D.toNat acc = t.makeT W.toNat W.toNat D.toNat .nil)) (fun _ i _ => n - (intOf i).toNat)
    case atStart => exact ⟨0, .nil, none, 0, 0, by omega, rfl, rfl, rfl, Nat.le_refl _, Nat.zero_le _, Nat.le_refl _, Below.refl _ _, by rw [dropT_zero]; exact Lib.hid rfl⟩
    case round =>
      obtain ⟨k, acc, At, nt, ct, hk, rfl, rfl, hacc, hnt, hct, hnk, hbw, He⟩ := hrel
      by_cases hlt : k < n
      · obtain ⟨b, o, s, kt, r, A', n', c', rfl, hb, hs, hcl, hn', hc', hk', hr, hd, hd2⟩ := h.split k hlt
        by_cases hkW : (k : Int) < W
        · by_cases hD0 : 0 < D
          · have hs1 := (hbw.cell (p := ⟨b, o + k * 2, none⟩) (by simp only; omega)).trans hs
            have hc1 := (hbw.cell (p := ⟨b, o + k * 2 + 1, none⟩) (by simp only; omega)).trans hcl
            have hbl : b < wr.heap.size := by have := hbw.size; omega
            have hkn : (k : Int) < (n : Int) := by omega
            have hk0 : (0 : Int) ≤ (k : Int) := by omega
            have hD1 : IntKind.i64.wrap (D - 1) = D - 1 := IntWalk.i64_in _ (by omega)
            have hs0 : (0 : Int) ≤ (s.size : Int) := by omega
            have hbw2 : Below w.heap.size w wr.drew := hbw.drew
            have hkt : Holds wr.drew B A' n' kt := (hk'.below (hbw.mono hB)).drew
            have hszk := size_drop t k
            rw [hd] at hszk
            simp only [Tr.size] at hszk
            have hBr : B ≤ wr.drew.heap.size := by have := hbw.size; simp; omega
            have HC := Lib.hid (ih kt A' n' c' B W (D - 1) wr.drew (by omega) hkt hBr hn' hc' (by omega) hW hW2 (by omega) (by omega))
            have He2 : Hid ((t.dropT (k + 1)).makeT W.toNat (W.toNat - (k + 1)) D.toNat (acc.withT (cut30 s) (kt.makeT W.toNat W.toNat (D - 1).toNat .nil)) = t.makeT W.toNat W.toNat D.toNat .nil) := by
              have := He.out
              rw [hd] at this
              simp only [Tr.makeT] at this
              rw [if_neg (by omega)] at this
              rw [hd2, show W.toNat - (k + 1) = W.toNat - k - 1 by omega, show (D - 1).toNat = D.toNat - 1 by omega]
              exact this
            obtain ⟨x, hx⟩ : ∃ x, x = kt.makeT W.toNat W.toNat (D - 1).toNat .nil := ⟨_, rfl⟩
            rw [← hx] at HC He2
            have hnt5 : nt ≤ 549755813888 := by omega
            clear hx hd hd2 He hszk hN hs hcl
            by_cases h30 : (s.size : Int) ≤ 30
            · have h31 : (30 < (s.size : Int)) = False := by simp; omega
              have hcut : cut30 s = s := by
                unfold cut30
                apply ByteArray.ext
                have : s.data.size = s.size := rfl
                simp [ByteArray.data_extract]
                omega
              rw [hcut] at He2
              clear hcut
              go_wp2_with fail
              go_region_held3 (fun w' => w'.cell? ⟨b, o + k * 2, none⟩ = some (.string s) ∧ w'.cell? ⟨b, o + k * 2 + 1, none⟩ = some (.slice A' n' c')) (first | exact ⟨hs1, hc1⟩ | exact ⟨hs3, hc3⟩ | exact ⟨hs4, hc4⟩)
                (first
                | (go_at_call 14; refine HC.out.mono ?_; rintro e w3 ⟨A3, n3, c3, rfl, hx3, hn3, hm3, hb3⟩; have hs3 := (hb3.cell (p := ⟨b, o + k * 2, none⟩) hbl).trans hs1; have hc3 := (hb3.cell (p := ⟨b, o + k * 2 + 1, none⟩) hbl).trans hc1; have hacc3 := ((hacc.drew).below hb3).more hb3.size)
                | (go_at_call 24; refine (with_any acc x At A3 nt ct n3 c3 w3.heap.size s w3 hacc3 hx3 (Nat.le_refl _) hnt5 hnt hn3 hm3).mono ?_; rintro e w4 ⟨A4, n5, c4, rfl, hx4, hn5, hm4, hb4⟩; have hs4 := (hb4.cell (p := ⟨b, o + k * 2, none⟩) (Nat.lt_of_lt_of_le hbl hb3.size)).trans hs3; have hc4 := (hb4.cell (p := ⟨b, o + k * 2 + 1, none⟩) (Nat.lt_of_lt_of_le hbl hb3.size)).trans hc3))
              all_goals
                go_wp2_with fail
                go_roundw
                case rel => exact ⟨k + 1, acc.withT s x, A4, n5, c4, by omega, by go_num, rfl, hx4, hn5, hm4, by have h1 := hx4.len; have h2 := withT_len s x acc; have h3 := hacc.len; omega, (hbw2.trans (hb3.mono hbw2.size)).trans (hb4.mono (Nat.le_trans hbw2.size hb3.size)), He2⟩
                case measure => simp [intOf]; omega
            · have h31 : (30 < (s.size : Int)) = True := by simp; omega
              have h30' : (30 : Int) ≤ (s.size : Int) := by omega
              rw [show cut30 s = s.extract 0 30 from rfl] at He2
              go_wp2_with fail
              go_region_held3 (fun w' => w'.cell? ⟨b, o + k * 2, none⟩ = some (.string s) ∧ w'.cell? ⟨b, o + k * 2 + 1, none⟩ = some (.slice A' n' c')) (first | exact ⟨hs1, hc1⟩ | exact ⟨hs3, hc3⟩ | exact ⟨hs4, hc4⟩)
                (first
                | (go_at_call 14; refine HC.out.mono ?_; rintro e w3 ⟨A3, n3, c3, rfl, hx3, hn3, hm3, hb3⟩; have hs3 := (hb3.cell (p := ⟨b, o + k * 2, none⟩) hbl).trans hs1; have hc3 := (hb3.cell (p := ⟨b, o + k * 2 + 1, none⟩) hbl).trans hc1; have hacc3 := ((hacc.drew).below hb3).more hb3.size)
                | (go_at_call 24; refine (with_any acc x At A3 nt ct n3 c3 w3.heap.size (s.extract 0 30) w3 hacc3 hx3 (Nat.le_refl _) hnt5 hnt hn3 hm3).mono ?_; rintro e w4 ⟨A4, n5, c4, rfl, hx4, hn5, hm4, hb4⟩; have hs4 := (hb4.cell (p := ⟨b, o + k * 2, none⟩) (Nat.lt_of_lt_of_le hbl hb3.size)).trans hs3; have hc4 := (hb4.cell (p := ⟨b, o + k * 2 + 1, none⟩) (Nat.lt_of_lt_of_le hbl hb3.size)).trans hc3))
              all_goals
                go_wp2_with fail
                go_roundw
                case rel => exact ⟨k + 1, acc.withT (s.extract 0 30) x, A4, n5, c4, by omega, by go_num, rfl, hx4, hn5, hm4, by have h1 := hx4.len; have h2 := withT_len (s.extract 0 30) x acc; have h3 := hacc.len; omega, (hbw2.trans (hb3.mono hbw2.size)).trans (hb4.mono (Nat.le_trans hbw2.size hb3.size)), He2⟩
                case measure => simp [intOf]; omega
          · have hD2' : D ≤ 0 := by omega
            have He2 : Hid (acc = t.makeT W.toNat W.toNat D.toNat .nil) := by
              have := He.out
              rw [hd] at this
              simp only [Tr.makeT] at this
              rw [if_pos (by omega)] at this
              exact this
            clear He hd hd2 hD0
            go_wp2_with fail
            go_ret
            exact ⟨At, nt, ct, rfl, by rw [← He2.out]; exact hacc, hnt, hct, hbw⟩
        · have hkW2 : W ≤ (k : Int) := by omega
          have He2 : Hid (acc = t.makeT W.toNat W.toNat D.toNat .nil) := by
            have := He.out
            rw [hd] at this
            simp only [Tr.makeT] at this
            rw [if_pos (by omega)] at this
            exact this
          clear He hd hd2 hkW
          go_wp2_with fail
          go_ret
          exact ⟨At, nt, ct, rfl, by rw [← He2.out]; exact hacc, hnt, hct, hbw⟩
      · obtain rfl : k = n := by omega
        have He2 : Hid (acc = t.makeT W.toNat W.toNat D.toNat .nil) := by
          have := He.out
          rw [drop_len t k (by rw [← Hn.out]; exact Nat.le_refl _)] at this
          exact this
        clear He hlt
        go_wp2_with fail
        go_ret
        exact ⟨At, nt, ct, rfl, by rw [← He2.out]; exact hacc, hnt, hct, hbw⟩
end Go.Proofs.Ytcfaocjgflefmaa
