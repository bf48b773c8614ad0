/- The law's known, same, only. Conditions: fewer than 2^30 names. -/
import Derived.Test.YtclgemkdlgpekaaReRParse
import Derived.BigQuiet
namespace Go.Proofs.Ytclgemkdlgpekaa.Re
open Go.RowKit
set_option maxRecDepth 100000

theorem toList_ne {s r : ByteArray} (h : s ≠ r) : ¬ s.toList = r.toList := fun e => h (bytes_eq e)
theorem ne_beq {s r : ByteArray} (h : s ≠ r) : (s.toList == r.toList) = false := by
  rw [beq_eq_false_iff_ne]
  exact toList_ne h
theorem take_stepS {p q : List ByteArray} {k : Nat} {s : ByteArray} (h : p.take k = q.take k) (h1 : p[k]? = some s) (h2 : q[k]? = some s) : p.take (k + 1) = q.take (k + 1) := by
  rw [List.take_add_one, List.take_add_one, h, h1, h2]

set_option maxHeartbeats 1000000 in
theorem same_any (p p2 : List ByteArray) (A A2 : Option Addr) (n c n2 c2 B : Nat) (w : World) (h1 : SeesV w B A n (p.map Value.string)) (h2 : SeesV w B A2 n2 (p2.map Value.string)) (hn : n ≤ 1073741824) :
    Calls Try.prog 13 #[.slice A n c, .slice A2 n2 c2] w fun e w' => e = .returned (.bool (decide (p = p2))) ∧ ∃ q, w' = w.drewN q := by
  have hl1 := h1.len
  have hl2 := h2.len
  rw [List.length_map] at hl1 hl2
  obtain ⟨v, hv⟩ : ∃ v, v = decide (p = p2) := ⟨_, rfl⟩
  rw [← hv]
  have Hv := Lib.hid hv
  have Hl1 := Lib.hid hl1
  have Hl2 := Lib.hid hl2
  by_cases hnn : n = n2
  · obtain rfl := hnn
    have hnn : ((n : Int) != (n : Int)) = false := by simp
    clear hl1 hl2 hv
    go_enter Try.func13, Try.ntmps13
    go_wp2_with fail
    go_loopw [5] (fun i wr => ∃ k : Nat, k ≤ n ∧ i = .int .i64 k ∧ Hid (p.take k = p2.take k) ∧ Hid (∃ d, wr = w.drewN d)) (fun i _ => n - (intOf i).toNat)
    case atStart => exact ⟨0, Nat.zero_le _, rfl, Lib.hid (by simp), Lib.hid ⟨0, rfl⟩⟩
    case round =>
      obtain ⟨k, hk, rfl, HT, HD⟩ := hrel
      by_cases hlt : k < n
      · obtain ⟨s, b, o, hg1, rfl, hb1, hc1⟩ := strs_at h1 hlt
        obtain ⟨r, b', o', hg2, rfl, hb2, hc2⟩ := strs_at h2 hlt
        obtain ⟨d, hd⟩ := HD.out
        have hw1 : wr.cell? ⟨b, o + k, none⟩ = some (.string s) := by rw [hd]; exact hc1
        have hw2 : wr.cell? ⟨b', o' + k, none⟩ = some (.string r) := by rw [hd]; exact hc2
        have hkn : (k : Int) < (n : Int) := by omega
        have hk0 : (0 : Int) ≤ (k : Int) := by omega
        have Hd := Lib.hid hd
        have Hlt := Lib.hid hlt
        have Hg1 := Lib.hid hg1
        have Hg2 := Lib.hid hg2
        clear hd hlt hg1 hg2 hc1 hc2 HD
        by_cases he : s = r
        · subst he
          have HT2 := Lib.hid (take_stepS HT.out Hg1.out Hg2.out)
          have hee : s.toList = s.toList := rfl
          go_wp2_with fail
          go_quiet (fail)
          go_wp2_with fail
          go_roundw
          case rel => exact ⟨k + 1, Hlt.out, by go_num, HT2, Lib.hid ⟨_, by rw [Hd.out, World.drewN_drewN]⟩⟩
          case measure => have := Hlt.out; simp [intOf]; omega
        · have hee := toList_ne he
          have Hne := Lib.hid (ne_beq he)
          have HF : Hid (decide (p = p2) = false) := Lib.hid (decide_eq_false fun e => he (by
            have h3 := Hg1.out
            rw [e, Hg2.out] at h3
            injection h3 with h3
            exact h3.symm))
          clear he
          go_wp2_with fail
          go_quiet (fail)
          clear hee
          go_wp2_with fail
          all_goals (try (exfalso; rename_i h; simp [Hne.out] at h; done))
          go_ret
          exact ⟨by rw [Hv.out, HF.out]; rfl, _, by rw [Hd.out, World.drewN_drewN]⟩
      · obtain rfl : k = n := by omega
        have HF : Hid (decide (p = p2) = true) := Lib.hid (decide_eq_true (by
          have h3 := HT.out
          rw [List.take_of_length_le (by have := Hl1.out; omega), List.take_of_length_le (by have := Hl2.out; omega)] at h3
          exact h3))
        obtain ⟨d, hd⟩ := HD.out
        have Hd := Lib.hid hd
        clear hlt hd h1 h2
        go_wp2_with fail
        go_ret
        exact ⟨by rw [Hv.out, HF.out]; rfl, d, Hd.out⟩
  · have hne : ((n : Int) != (n2 : Int)) = true := by rw [bne_iff_ne]; omega
    have HF : Hid (decide (p = p2) = false) := Lib.hid (decide_eq_false fun e => hnn (by rw [hl1, hl2, e]))
    clear hl1 hl2 hv hnn h1 h2
    go_enter Try.func13, Try.ntmps13
    go_wp2_with fail
    go_ret
    exact ⟨by rw [Hv.out, HF.out]; rfl, 0, rfl⟩

theorem sees_two (w : World) (a b : ByteArray) : SeesV (w.alloc (.cells #[.string a, .string b] 9)) (w.heap.size + 1) (some ⟨w.heap.size, 0, none⟩) 2 ([a, b].map Value.string) := by
  refine ⟨rfl, fun j u hu => ⟨w.heap.size, 0, rfl, Nat.lt_succ_self _, ?_⟩⟩
  rw [Nat.zero_add, cell_of_row _ _ _ _ _ _ (heap_alloc_new w _)]
  simpa using hu
theorem known_path : pathL [⟨#[97]⟩, ⟨#[98]⟩] = [47, 34, 97, 34, 47, 34, 98, 34] := by decide

set_option maxHeartbeats 1000000 in
theorem known_any (w : World) : Calls Try.prog 8 #[] w fun e w' => e = .returned (.bool true) ∧ Below w.heap.size w w' := by
  have HP := Lib.hid (path_any [⟨#[97]⟩, ⟨#[98]⟩] (some ⟨w.heap.size, 0, none⟩) 2 2 _ _ (by simp) (sees_two w ⟨#[97]⟩ ⟨#[98]⟩) (by decide))
  have HB : Hid (Below w.heap.size w (w.alloc (.cells #[.string ⟨#[97]⟩, .string ⟨#[98]⟩] 9))) := Lib.hid ((Below.refl _ _).alloc (Nat.le_refl _) _)
  obtain ⟨X, hX⟩ : ∃ X : ByteArray, X = mkB (pathL [⟨#[97]⟩, ⟨#[98]⟩]) := ⟨_, rfl⟩
  rw [← hX] at HP
  have hE : (X.toList == [47, 34, 97, 34, 47, 34, 98, 34]) = true := text_lit (by rw [hX, known_path])
  clear hX
  go_enter Try.func8, Try.ntmps8
  go_wp2_with fail
  (with_reducible refine HP.out.mono ?_)
  rintro e w1 ⟨rfl, hb1⟩
  go_wp2_with fail
  go_ret
  exact ⟨rfl, HB.out.trans (hb1.mono HB.out.size)⟩

set_option maxHeartbeats 1000000 in
theorem only_any (A : Option Addr) (n c : Nat) (w : World) : Calls Try.prog 19 #[.slice A n c] w fun e w' => e = .returned (.int .i64 (if n = 0 then 1 else 0)) ∧ w = w' := by
  by_cases h : n = 0
  · subst h
    go_enter Try.func19, Try.ntmps19
    go_wp2_with fail
    go_ret
    exact ⟨rfl, rfl⟩
  · have h0 : ((n : Int) == 0) = false := by rw [beq_eq_false_iff_ne]; omega
    rw [if_neg h]
    clear h
    go_enter Try.func19, Try.ntmps19
    go_wp2_with fail
    go_ret
    exact ⟨rfl, rfl⟩
end Go.Proofs.Ytclgemkdlgpekaa.Re
