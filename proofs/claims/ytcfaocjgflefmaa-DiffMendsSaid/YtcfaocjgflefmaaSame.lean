/- Two trees: whether all is the same; Same of the reference. Conditions: fewer edges than 2^47. -/
import Derived.Test.YtcfaocjgflefmaaCount
import Derived.Test.YtcfaocjgflefmaaWith
import Derived.Deep.QuietTactic
import Derived.BigQuiet
namespace Go.Proofs.Ytcfaocjgflefmaa
open Go.RowKit
set_option maxRecDepth 100000

def Tr.same : Tr → Tr → Bool
  | .nil, .nil => true
  | .cons s k r, .cons s' k' r' => (s.toList == s'.toList) && k.same k' && r.same r'
  | _, _ => false
theorem same_len : ∀ {t u : Tr}, t.same u = true → t.len = u.len
  | .nil, .nil, _ => rfl
  | .cons s k r, .cons s' k' r', h => by
    simp only [Tr.same, Bool.and_eq_true] at h
    simp only [Tr.len, same_len h.2]
  | .nil, .cons _ _ _, h => by simp [Tr.same] at h
  | .cons _ _ _, .nil, h => by simp [Tr.same] at h
theorem same_refl (t : Tr) : t.same t = true := by
  induction t with
  | nil => rfl
  | cons s k r ihk ihr => simp [Tr.same, ihk, ihr]

set_option maxHeartbeats 1000000 in
theorem rsame_any (N : Nat) : ∀ (t u : Tr) (A A2 : Option Addr) (n n2 c c2 B : Nat) (w : World), t.size ≤ N → Holds w B A n t → Holds w B A2 n2 u → B ≤ w.heap.size → n ≤ 140737488351232 → n2 ≤ 140737488351232 → t.Low → u.Low →
    Calls Try.prog 15 #[.slice A n c, .slice A2 n2 c2] w fun e w' => e = .returned (.bool (t.same u)) ∧ ∃ q, w' = w.drewN q := by
  induction N with
  | zero =>
    intro t u A A2 n n2 c c2 B w hN h h2 hB hn hn2 hl hl2
    cases t with
    | cons s k r => simp [Tr.size] at hN
    | nil =>
      obtain rfl : n = 0 := h
      have Hl2 := Lib.hid h2.len
      by_cases h0 : n2 = 0
      · subst h0
        have hu : u = .nil := by
          cases u with
          | nil => rfl
          | cons _ _ _ => have := Hl2.out; simp [Tr.len] at this
        subst hu
        go_enter Try.func15, Try.ntmps15
        go_wp2_with fail
        go_loop [5] (fun i => i = .int .i64 0) (fun _ => 0)
        case atStart => rfl
        case round =>
          subst hrel
          go_wp2_with fail
          go_ret
          exact ⟨rfl, 0, rfl⟩
      · have hne : ((0 : Int) != (n2 : Int)) = true := by rw [bne_iff_ne]; omega
        have hs : Tr.nil.same u = false := by
          cases u with
          | nil => exact absurd Hl2.out (by simpa [Tr.len] using h0)
          | cons _ _ _ => rfl
        have Hs := Lib.hid hs
        clear hs
        go_enter Try.func15, Try.ntmps15
        go_wp2_with fail
        go_ret
        exact ⟨by rw [Hs.out]; rfl, 0, rfl⟩
  | succ N ih =>
    intro t u A A2 n n2 c c2 B w hN h h2 hB hn hn2 hl hl2
    have Hl := Lib.hid h.len
    have Hl2 := Lib.hid h2.len
    by_cases h0 : n = n2
    · subst h0
      have hne : ((n : Int) != (n : Int)) = false := by simp
      go_enter Try.func15, Try.ntmps15
      go_wp2_with fail
      go_loopw [5] (fun i wr => ∃ (k : Nat), k ≤ n ∧ i = .int .i64 k ∧ Holds wr B A n t ∧ Holds wr B A2 n u ∧ B ≤ wr.heap.size ∧ Hid (∃ q, wr = w.drewN q) ∧ Hid ((t.dropT k).same (u.dropT k) = t.same u)) (fun i _ => n - (intOf i).toNat)
      case atStart => exact ⟨0, by omega, rfl, h, h2, hB, Lib.hid ⟨0, rfl⟩, by rw [dropT_zero, dropT_zero]; exact Lib.hid rfl⟩
      case round =>
        obtain ⟨k, hk, rfl, hw1, hw2, hBr, Hq, He⟩ := hrel
        by_cases hlt : k < n
        · obtain ⟨b, o, s, kt, r, A', n', c', rfl, hb, hs, hc, hn', hc', hk', hr, hd, hd2⟩ := hw1.split k hlt
          obtain ⟨b2, o2, s2, kt2, r2, A2', n2', c2', rfl, hb2, hs2, hc2, hn2', hc2', hk2', hr2, hd3, hd4⟩ := hw2.split k hlt
          have hkn : (k : Int) < (n : Int) := by omega
          have hk0 : (0 : Int) ≤ (k : Int) := by omega
          by_cases hss : s.toList = s2.toList
          · have hq1 : (s.toList != s2.toList) = false := by rw [hss]; simp
            have hsz := size_drop t k
            rw [hd] at hsz
            simp only [Tr.size] at hsz
            have hlk := hl.drop k
            rw [hd] at hlk
            have hlk2 := hl2.drop k
            rw [hd3] at hlk2
            have hkl := hk'.len
            have hkl2 := hk2'.len
            have HC := Lib.hid (fun (W : World) (h1 : Holds W B A' n' kt) (h2 : Holds W B A2' n2' kt2) (hW : B ≤ W.heap.size) => ih kt kt2 A' A2' n' n2' c' c2' B W (by omega) h1 h2 hW (by have := hlk.1; omega) (by have := hlk2.1; omega) hlk.2.1 hlk2.2.1)
            have He2 : Hid (t.same u = (kt.same kt2 && (t.dropT (k + 1)).same (u.dropT (k + 1)))) := by
              have := He.out
              rw [hd, hd3] at this
              simp only [Tr.same] at this
              rw [hd2, hd4, ← this, hss]
              exact Lib.hid (by simp)
            obtain ⟨v, hv⟩ : ∃ v, v = kt.same kt2 := ⟨_, rfl⟩
            rw [← hv] at HC He2
            clear hv hq1 hd hd2 hd3 hd4 He hsz hlk hlk2 hkl hkl2 hN
            cases v with
            | true =>
              go_wp2_with fail
              go_quiet ((go_at_call 15; exact Calls.quiet_of (HC.out _ (hk'.drewN _) (hk2'.drewN _) hBr)))
              go_wp2_with fail
              go_roundw
              case rel => exact ⟨k + 1, by omega, by go_num, hw1.drewN _, hw2.drewN _, hBr, Lib.hid (by obtain ⟨q, hq⟩ := Hq.out; rw [hq]; exact ⟨_, World.drewN_drewN _ _ _⟩), by have := He2.out; rw [Bool.true_and] at this; exact Lib.hid this.symm⟩
              case measure => simp [intOf]; omega
            | false =>
              go_wp2_with fail
              go_quiet ((go_at_call 15; exact Calls.quiet_of (HC.out _ (hk'.drewN _) (hk2'.drewN _) hBr)))
              go_wp2_with fail
              go_ret
              exact ⟨by rw [He2.out]; rfl, by obtain ⟨q, hq⟩ := Hq.out; rw [hq]; exact ⟨_, World.drewN_drewN _ _ _⟩⟩
          · have hq1 : (s.toList != s2.toList) = true := by simp [hss]
            have He2 : Hid (t.same u = false) := by
              have := He.out
              rw [hd, hd3] at this
              simp only [Tr.same] at this
              rw [← this]
              exact Lib.hid (by simp [hss])
            clear hd hd2 hd3 hd4 He hN
            go_wp2_with fail
            go_quiet (fail)
            go_wp2_with fail
            go_ret
            exact ⟨by rw [He2.out]; rfl, by obtain ⟨q, hq⟩ := Hq.out; rw [hq]; exact ⟨_, World.drewN_drewN _ _ _⟩⟩
        · obtain rfl : k = n := by omega
          have He2 : Hid (t.same u = true) := by
            have := He.out
            rw [drop_len t k (by rw [← Hl.out]; exact Nat.le_refl _), drop_len u k (by rw [← Hl2.out]; exact Nat.le_refl _)] at this
            exact this.symm
          clear He hlt hN
          go_wp2_with fail
          go_ret
          exact ⟨by rw [He2.out]; rfl, Hq.out⟩
    · have hne : ((n : Int) != (n2 : Int)) = true := by rw [bne_iff_ne]; omega
      have hs : t.same u = false := by
        cases hv : t.same u with
        | false => rfl
        | true => exact absurd (same_len hv) (by rw [← Hl.out, ← Hl2.out]; exact h0)
      have Hs := Lib.hid hs
      clear hs h0
      go_enter Try.func15, Try.ntmps15
      go_wp2_with fail
      go_ret
      exact ⟨by rw [Hs.out]; rfl, 0, rfl⟩
end Go.Proofs.Ytcfaocjgflefmaa
