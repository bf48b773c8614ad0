/- Count, Few: how many raw edges there are, no more than so many counted. Conditions: a slice is no longer than a slice can be. -/
import Derived.Test.YtcfaocjgflefmaaTree
import Derived.Test.YtcfaocjgflefmaaOpen
import Derived.LoopTactic
namespace Go.Proofs.Ytcfaocjgflefmaa
open Go.RowKit
set_option maxRecDepth 100000

/-- Count, round by round: what is still to be looked at, what has been counted. -/
def Tr.count : Tr → Int → Int → Int
  | .nil, n, _ => n
  | .cons _ k r, n, most => if n < most then r.count (n + k.count k.len (most - n)) most else n
theorem count_ge (t : Tr) : ∀ n most, n ≤ t.count n most := by
  induction t with
  | nil => intro n most; exact Int.le_refl _
  | cons s k r ihk ihr =>
    intro n most
    simp only [Tr.count]
    split
    · have h1 := ihk k.len (most - n)
      have h2 := ihr (n + k.count k.len (most - n)) most
      omega
    · exact Int.le_refl _
/-- Where it stays below, all were counted. -/
theorem count_all (t : Tr) : ∀ n most, t.count n most < most → t.count n most + t.len = n + t.size := by
  induction t with
  | nil => intro n most _; simp [Tr.count, Tr.len, Tr.size]
  | cons s k r ihk ihr =>
    intro n most h
    have hg := count_ge (.cons s k r) n most
    simp only [Tr.count] at h hg ⊢
    by_cases hc : n < most
    case neg => rw [if_neg hc] at h; omega
    rw [if_pos hc] at h hg ⊢
    have h0 := count_ge r (n + k.count k.len (most - n)) most
    have h1 := ihk k.len (most - n) (by omega)
    have h2 := ihr _ _ h
    simp only [Tr.len, Tr.size]
    omega
/-- An edge among others. -/
theorem Holds.split {w : World} {B : Nat} : ∀ {t : Tr} {A : Option Addr} {n : Nat} (i : Nat), Holds w B A n t → i < n →
    ∃ (b o : Nat) (s : ByteArray) (k r : Tr) (A' : Option Addr) (n' c' : Nat), A = some ⟨b, o, none⟩ ∧ b < B ∧ w.cell? ⟨b, o + i * 2, none⟩ = some (.string s) ∧ w.cell? ⟨b, o + i * 2 + 1, none⟩ = some (.slice A' n' c') ∧ n' ≤ c' ∧ c' ≤ maxLen ∧
      Holds w B A' n' k ∧ Holds w B (some ⟨b, o + i * 2 + 2, none⟩) (n - i - 1) r ∧ t.dropT i = .cons s k r ∧ t.dropT (i + 1) = r
  | .nil, _, _, i, h, hi => by rw [show _ = 0 from h] at hi; omega
  | .cons s k r, _, n, 0, ⟨b, o, e, hb, hs, ⟨A', n', c', hc, hn, hm, hk⟩, m, hm1, hr⟩, _ => by
    subst hm1
    exact ⟨b, o, s, k, r, A', n', c', e, hb, by simpa using hs, by simpa using hc, hn, hm, hk, by simpa using hr, rfl, by simp [Tr.dropT]⟩
  | .cons s k r, _, n, i + 1, ⟨b, o, e, hb, hs, ⟨A', n', c', hc, hn, hm, hk⟩, m, hm1, hr⟩, hi => by
    subst hm1
    obtain ⟨b', o', s', k', r', A2, n2, c2, e2, hb2, h1, h2, h3, h4, h5, h6, h7, h8⟩ := Holds.split i hr (by omega)
    cases e2
    refine ⟨b, o, s', k', r', A2, n2, c2, e, hb, ?_, ?_, h3, h4, h5, ?_, h7, h8⟩
    · rw [show o + (i + 1) * 2 = o + 2 + i * 2 by omega]; exact h1
    · rw [show o + (i + 1) * 2 + 1 = o + 2 + i * 2 + 1 by omega]; exact h2
    · rw [show o + (i + 1) * 2 + 2 = o + 2 + i * 2 + 2 by omega, show m + 1 - (i + 1) - 1 = m - i - 1 by omega]; exact h6

/-- How long a slice is, at each level. -/
def Tr.Low : Tr → Prop
  | .nil => True
  | .cons _ k r => k.len ≤ 140737488351232 ∧ k.Low ∧ r.Low
theorem count_bd (t : Tr) : ∀ n most : Int, t.Low → t.count n most ≤ max n (most + 140737488351232) := by
  induction t with
  | nil => intro n most _; simp only [Tr.count]; omega
  | cons s k r ihk ihr =>
    intro n most h
    obtain ⟨h1, h2, h3⟩ := h
    simp only [Tr.count]
    split
    · have hk := ihk k.len (most - n) h2
      have hr := ihr (n + k.count k.len (most - n)) most h3
      omega
    · omega
theorem Tr.Low.drop : ∀ {t : Tr} (i : Nat), t.Low → (t.dropT i).Low
  | t, 0, h => by rw [dropT_zero]; exact h
  | .nil, _ + 1, _ => trivial
  | .cons _ _ _, i + 1, h => Tr.Low.drop i h.2.2
theorem size_drop : ∀ (t : Tr) (i : Nat), (t.dropT i).size ≤ t.size
  | t, 0 => by rw [dropT_zero]; exact Nat.le_refl _
  | .nil, _ + 1 => Nat.le_refl _
  | .cons _ _ r, i + 1 => by simp only [Tr.dropT, Tr.size]; have := size_drop r i; omega
theorem drop_len : ∀ (t : Tr) (i : Nat), t.len ≤ i → t.dropT i = .nil
  | .nil, 0, _ => rfl
  | .nil, _ + 1, _ => rfl
  | .cons _ _ _, 0, h => by simp [Tr.len] at h
  | .cons _ _ r, i + 1, h => by simp only [Tr.dropT]; exact drop_len r i (by simp only [Tr.len] at h; omega)

set_option maxHeartbeats 1000000 in
theorem cnt_any (N : Nat) : ∀ (t : Tr) (A : Option Addr) (n c B : Nat) (most : Int) (w : World), t.size ≤ N → Holds w B A n t → B ≤ w.heap.size → n ≤ 140737488351232 → t.Low → 0 ≤ most → most ≤ 200 →
    Calls Try.prog 23 #[.slice A n c, .int .i64 most] w fun e w' => e = .returned (.int .i64 (t.count n most)) ∧ w = w' := by
  induction N with
  | zero =>
    intro t A n c B most w hN h hB hn hl h0 h2
    cases t with
    | nil =>
      obtain rfl : n = 0 := h
      go_enter Try.func23, Try.ntmps23
      go_wp2_with fail
      go_loop [5, 6] (fun v i => v = .int .i64 0 ∧ i = .int .i64 0) (fun _ _ => 0)
      case atStart => exact ⟨rfl, rfl⟩
      case round =>
        obtain ⟨rfl, rfl⟩ := hrel
        go_wp2_with fail
        go_ret
        exact ⟨rfl, rfl⟩
    | cons s k r => simp [Tr.size] at hN
  | succ N ih =>
    intro t A n c B most w hN h hB hn hl h0 h2
    have Hn := Lib.hid h.len
    go_enter Try.func23, Try.ntmps23
    go_wp2_with fail
    go_loop [5, 6] (fun v i => ∃ (k : Nat) (m : Int), k ≤ n ∧ i = .int .i64 k ∧ v = .int .i64 m ∧ 0 ≤ m ∧ m ≤ 140737488351432 ∧ Hid ((t.dropT k).count m most = t.count n most)) (fun _ i => n - (intOf i).toNat)
    case atStart => exact ⟨0, n, by omega, rfl, rfl, by omega, by omega, by rw [dropT_zero]; exact Lib.hid rfl⟩
    case round =>
      obtain ⟨k, m, hk, rfl, rfl, hm0, hm1, He⟩ := hrel
      by_cases hlt : k < n
      · by_cases hmm : m < most
        · obtain ⟨b, o, s, kt, r, A', n', c', rfl, hb, hs, hc, hn', hc', hk', hr, hd, hd2⟩ := h.split k hlt
          have hld := hl.drop k
          rw [hd] at hld
          obtain ⟨hl1, hl2, hl3⟩ := hld
          have hsz := size_drop t k
          rw [hd] at hsz
          simp only [Tr.size] at hsz
          have hkl := hk'.len
          have hbd := count_bd kt n' (most - m) hl2
          have hge := count_ge kt n' (most - m)
          have hn'2 : n' ≤ 140737488351232 := by omega
          have HC := Lib.hid (ih kt A' n' c' B (most - m) w (by omega) hk' hB hn'2 hl2 (by omega) (by omega))
          obtain ⟨C, hC⟩ : ∃ C, C = kt.count n' (most - m) := ⟨_, rfl⟩
          have He2 : Hid (r.count (m + C) most = t.count n most) := by
            have := He.out
            rw [hd] at this
            simp only [Tr.count] at this
            rw [if_pos hmm, ← hkl, ← hC] at this
            exact this
          rw [← hC] at hbd hge HC
          have Hd2 := Lib.hid hd2
          have hnl : ((n : Int) : Int) ≤ 140737488351232 := by omega
          clear hC hd hd2 hkl He hN hsz
          go_wp2_with fail
          refine HC.out.mono ?_
          rintro e w' ⟨rfl, rfl⟩
          go_wp2_with fail
          go_round
          case rel => exact ⟨k + 1, m + C, by omega, by go_num, rfl, by omega, by omega, by rw [Hd2.out]; exact He2⟩
          case measure => simp [intOf]; omega
        · have hmm2 : most ≤ m := by omega
          have He2 : Hid (m = t.count n most) := by
            have := He.out
            obtain ⟨b, o, s, kt, r, A', n', c', _, hb, hs, hc, hn', hc', hk', hr, hd, hd2⟩ := h.split k hlt
            rw [hd] at this
            simp only [Tr.count] at this
            rw [if_neg hmm] at this
            exact this
          clear hmm He
          go_wp2_with fail
          go_ret
          exact ⟨by rw [← He2.out]; rfl, rfl⟩
      · obtain rfl : k = n := by omega
        have He2 : Hid (m = t.count k most) := by
          have := He.out
          rw [drop_len t k (by rw [← Hn.out]; exact Nat.le_refl _)] at this
          exact this
        clear He hlt
        go_wp2_with fail
        go_ret
        exact ⟨by rw [← He2.out]; rfl, rfl⟩

/-- Few: its answer; where it is yes, there are fewer than 200. -/
theorem few_any (t : Tr) (A : Option Addr) (n c B : Nat) (w : World) (h : Holds w B A n t) (hB : B ≤ w.heap.size) (hn : n ≤ 140737488351232) (hl : t.Low) :
    Calls Try.prog 9 #[.slice A n c] w fun e w' => e = .returned (.bool (decide (t.count n 200 < 200))) ∧ w = w' := by
  have HC := Lib.hid (cnt_any t.size t A n c B 200 w (Nat.le_refl _) h hB hn hl (by omega) (by omega))
  go_enter Try.func9, Try.ntmps9
  go_wp2_with fail
  refine HC.out.mono ?_
  rintro e w' ⟨rfl, rfl⟩
  go_wp2_with fail
  go_ret
  exact ⟨rfl, rfl⟩
theorem few_yes {t : Tr} {n : Nat} (hn : n = t.len) (h : t.count n 200 < 200) : t.size < 200 := by
  subst hn
  have := count_all t t.len 200 h
  omega
end Go.Proofs.Ytcfaocjgflefmaa
