/- Depth of the reference. Conditions: fewer than 2^39 edges. -/
import Derived.Test.YtkhjpmefekonhaaSizes
namespace Go.Proofs.Ytkhjpmefekonhaa
open Go.RowKit
set_option maxRecDepth 100000

theorem depth_le (t : Tr) : t.depth ≤ t.size := by
  induction t with
  | nil => exact Nat.le_refl _
  | cons s k r ihk ihr => simp only [Tr.depth, Tr.size]; omega

set_option maxHeartbeats 1000000 in
theorem rdepth_any (N : Nat) : ∀ (t : Tr) (A : Option Addr) (n c B : Nat) (w : World), t.size ≤ N → Holds w B A n t → B ≤ w.heap.size → t.size ≤ 549755813888 →
    Calls Try.prog 29 #[.slice A n c] w fun e w' => e = .returned (.int .i64 (t.depth : Nat)) ∧ w' = w := by
  induction N with
  | zero =>
    intro t A n c B w hN h hB hsz
    cases t with
    | cons s k r => simp [Tr.size] at hN
    | nil =>
      obtain rfl : n = 0 := h
      go_enter Try.func29, Try.ntmps29
      go_wp2_with fail
      go_loop [3, 4] (fun a i => a = .int .i64 0 ∧ i = .int .i64 0) (fun _ _ => 0)
      case atStart => exact ⟨rfl, rfl⟩
      case round =>
        obtain ⟨rfl, rfl⟩ := hrel
        go_wp2_with fail
        go_ret
        exact ⟨rfl, rfl⟩
  | succ N ih =>
    intro t A n c B w hN h hB hsz
    have hls := t.len_size
    have hdz := depth_le t
    have hnl := h.len
    have hnb : n ≤ 549755813888 := by omega
    have Hnl := Lib.hid hnl
    obtain ⟨z, hz⟩ : ∃ z, z = t.depth := ⟨_, rfl⟩
    rw [← hz] at hdz ⊢
    have Hz := Lib.hid hz
    clear hz hnl hls
    go_enter Try.func29, Try.ntmps29
    go_wp2_with fail
    go_loop [3, 4] (fun a i => ∃ (k q : Nat), k ≤ n ∧ i = .int .i64 k ∧ a = .int .i64 q ∧ Hid (max q (t.dropT k).depth = z)) (fun _ i => n - (intOf i).toNat)
    case atStart => exact ⟨0, 0, Nat.zero_le _, rfl, rfl, by rw [dropT_zero, Hz.out]; exact Lib.hid (by omega)⟩
    case round =>
      obtain ⟨k, q, hk, rfl, rfl, He⟩ := hrel
      by_cases hlt : k < n
      · obtain ⟨b, o, s, kt, r, A', n', c', rfl, hb, hs, hc, hn', hc', hk', hr, hd, hd2⟩ := h.split k hlt
        have hkn : (k : Int) < (n : Int) := by omega
        have hk0 : (0 : Int) ≤ (k : Int) := by omega
        have he := He.out
        rw [hd] at he
        simp only [Tr.depth] at he
        have hsz2 := size_drop t k
        rw [hd] at hsz2
        simp only [Tr.size] at hsz2
        have hq : q ≤ 549755813888 := by omega
        have hy1 : kt.depth ≤ 549755813888 := by omega
        have He2 : Hid (max (max q (kt.depth + 1)) (t.dropT (k + 1)).depth = z) := by rw [hd2]; exact Lib.hid (by omega)
        have HC := Lib.hid (ih kt A' n' c' B w (by omega) hk' hB (by omega))
        have Hl := Lib.hid hlt
        obtain ⟨y, hy⟩ : ∃ y, y = kt.depth := ⟨_, rfl⟩
        rw [← hy] at hy1 He2 HC
        clear hd hd2 he hsz2 hlt hy He
        go_wp2_with (go_at_call 29; refine HC.out.mono ?_; rintro e _ ⟨rfl, rfl⟩)
        go_round
        case rel =>
          refine ⟨k + 1, max q (y + 1), by have := Hl.out; omega, by go_num, ?_, He2⟩
          congr 1
          split <;> omega
        case measure => have := Hl.out; simp [intOf]; omega
      · obtain rfl : k = n := by omega
        have he := He.out
        rw [drop_len t k (by rw [← Hnl.out]; exact Nat.le_refl _)] at he
        simp only [Tr.depth] at he
        obtain rfl : q = z := by omega
        clear he He hlt
        go_wp2_with fail
        go_ret
        exact ⟨rfl, rfl⟩
end Go.Proofs.Ytkhjpmefekonhaa
