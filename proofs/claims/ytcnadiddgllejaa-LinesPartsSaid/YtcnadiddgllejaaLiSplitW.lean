/- LinesSplit's walk. No conditions. -/
import Derived.Test.YtcnadiddgllejaaLiWords
import Derived.Deep.RegionHeld3
namespace Go.Proofs.Ytcnadiddgllejaa.Li
open Go.RowKit
set_option maxRecDepth 100000
attribute [local go_sem ↓] Go.wp_at_zero Go.wp_at_succ

theorem join_bytes (s : ByteArray) : encs (join (split s.data.toList)) = .string s := by rw [join_split]; rfl
theorem split_len (s : ByteArray) : (split s.data.toList).length ≤ s.size := by
  have := split_le s.data.toList
  rwa [Array.length_toList] at this
theorem join_len (s : ByteArray) : (join (split s.data.toList)).length = s.size := by rw [join_split]; exact Array.length_toList

set_option maxHeartbeats 4000000 in
theorem splits_walk (A : Option Addr) (n c : Nat) (l : List Int) (r : ByteArray) (w : World) (h : SeesV w w.heap.size A n (l.map (Value.int .i64))) (hr : ∀ x ∈ l, -9223372036854775808 ≤ x ∧ x ≤ 9223372036854775807) (hc : n ≤ c) (hm : c ≤ maxLen) (hrs : r.size ≤ maxLen) :
    Calls Try.prog 3 #[.slice A n c, .string r] w fun e w' => e = .returned (.bool true) ∧ Below w.heap.size w w' := by
  have HT := Lib.hid (fun W (hb : Below w.heap.size w W) => text_any A n c l W (SeesV.more hb.size (h.below hb)) hr hc hm)
  unfold maxLen at hrs
  have HK := Lib.hid (fun W => known_any W)
  clear h hr hc hm
  by_cases hbig : 200 < r.size
  · have q0 : (200 : Int) < (r.size : Int) := by omega
    go_enter Try.func3, Try.ntmps3
    go_wp2_with fail
    (with_reducible refine (HK.out _).mono ?_)
    rintro e w1 ⟨rfl, hb1⟩
    go_wp2_with fail
    go_ret
    exact ⟨rfl, hb1⟩
  · have q0 : (r.size : Int) ≤ 200 := by omega
    go_enter Try.func3, Try.ntmps3
    go_wp2_with fail
    (with_reducible refine (HK.out _).mono ?_)
    rintro e w1 ⟨rfl, hb1⟩
    go_wp2_with fail
    (with_reducible refine (HT.out _ hb1).mono ?_)
    rintro e w2 ⟨t, ht, rfl, hb2⟩
    have hb12 := hb1.trans (hb2.mono hb1.size)
    clear hb1 hb2
    go_wp2_with fail
    go_loopw [6] (fun i wr => ∃ k : Nat, k ≤ 2 ∧ i = .int .i64 k ∧ Below (w2.heap.size + 1) (w2.alloc (.cells #[.string t, .string r] 9)) wr) (fun i _ => 2 - (intOf i).toNat)
    case atStart => exact ⟨0, by omega, rfl, Below.refl _ _⟩
    case round =>
      obtain ⟨k, hk, rfl, hw⟩ := hrel
      have hws : w2.heap.size + 1 ≤ wr.heap.size := by have := hw.size; simpa using this
      have hwb : Below w.heap.size w wr := (hb12.alloc hb12.size _).trans (hw.mono (by have := hb12.size; omega))
      by_cases hlt : k < 2
      · have q1 : (k : Int) < 2 := by omega
        have q2 : (0 : Int) ≤ (k : Int) := by omega
        obtain ⟨s, hs, hcell⟩ : ∃ s : ByteArray, s.size ≤ 200 ∧ wr.cell? ⟨w2.heap.size, k, none⟩ = some (.string s) := by
          have hc0 := fun j => (hw.cell (p := ⟨w2.heap.size, j, none⟩) (by simp)).trans (cell_of_row _ _ j _ _ _ (heap_alloc_new w2 (.cells #[.string t, .string r] 9)))
          have hk2 : k = 0 ∨ k = 1 := by omega
          rcases hk2 with rfl | rfl
          · exact ⟨t, by omega, hc0 0⟩
          · exact ⟨r, by omega, hc0 1⟩
        obtain ⟨ls, hls⟩ : ∃ ls, ls = split s.data.toList := ⟨_, rfl⟩
        have hll := split_len s
        have hjl := join_len s
        have hjb := join_bytes s
        rw [← hls] at hll hjl hjb
        have HR1 := Lib.hid (fun W => split_any s W (by omega))
        have HR2 := Lib.hid (fun W => rsplit_any s W (by omega))
        rw [← hls] at HR1 HR2
        obtain ⟨q, hq⟩ : ∃ q : ByteArray, encs (endOf ls) = .string q := ⟨_, rfl⟩
        have Hll := Lib.hid hll
        have Hjl := Lib.hid hjl
        have Hjb := Lib.hid hjb
        have Hq := Lib.hid hq
        clear hls hll hjl hjb hq
        go_wp2_with fail
        (with_reducible refine (HR1.out _).mono ?_)
        rintro e w3 ⟨A1, c1, rfl, ho1, hb3⟩
        have hin := ho1.sees
        have hcc := ho1.cap
        have hlw : w2.heap.size < wr.heap.size := by omega
        have HS := Lib.hid (fun W A2 c2 (hb : Below w3.heap.size w3 W) (h2 : SeesL W W.heap.size A2 ls.length ls) => same_any ls A1 A2 ls.length c1 ls.length c2 W.heap.size W (Nat.le_refl _) ((hin.below hb).more hb.size) h2 (by have := Hll.out; omega))
        have HJ := Lib.hid (fun W (hb : Below w3.heap.size w3 W) => join_any ls A1 ls.length c1 W.heap.size W (Nat.le_refl _) ((hin.below hb).more hb.size) (by have := Hll.out; omega) (by have := Hjl.out; omega))
        have HE := Lib.hid (fun W (hb : Below w3.heap.size w3 W) => end_any ls A1 ls.length c1 W.heap.size W (Nat.le_refl _) ((hin.below hb).more hb.size) hcc.1 (by have := Hll.out; omega))
        have HF := Lib.hid (fun W (hb : Below w3.heap.size w3 W) => rend_any ls A1 ls.length c1 W.heap.size W (Nat.le_refl _) ((hin.below hb).more hb.size) hcc.1 (by have := Hll.out; omega))
        rw [Hjb.out] at HJ
        rw [Hq.out] at HE HF
        have hcell3 : w3.cell? ⟨w2.heap.size, k, none⟩ = some (.string s) := (hb3.cell (p := ⟨w2.heap.size, k, none⟩) hlw).trans hcell
        have hlw3 : w2.heap.size < w3.heap.size := Nat.lt_of_lt_of_le hlw hb3.size
        have HC := Lib.hid (fun W (hb : Below w3.heap.size w3 W) => (And.intro hb ((hb.cell (p := ⟨w2.heap.size, k, none⟩) hlw3).trans hcell3) : Below w3.heap.size w3 W ∧ W.cell? ⟨w2.heap.size, k, none⟩ = some (.string s)))
        have hb0 := (Below.refl w3.heap.size w3).drew
        have HB3 := Lib.hid hb3
        clear hin hcc ho1 hcell hb3
        go_wp2_with fail
        go_region_held3 (fun W => Below w3.heap.size w3 W ∧ W.cell? ⟨w2.heap.size, k, none⟩ = some (.string s))
          (first | exact HC.out _ f5 | exact HC.out _ f4 | exact HC.out _ f3 | exact HC.out _ f2 | exact HC.out _ f1 | exact HC.out _ hb0)
          (first
          | (go_at_call 12; (with_reducible refine (HR2.out _).mono ?_); rintro e v1 ⟨A2, c2, rfl, ho2, e1⟩; have f1 := hb0.trans (e1.mono hb0.size); have i2 := ho2.sees)
          | (go_at_call 11; (with_reducible refine (HS.out _ _ _ f1 i2).mono ?_); rintro e v2 ⟨rfl, e2⟩; have f2 := f1.trans (e2.mono f1.size))
          | (go_at_call 13; (with_reducible refine (HJ.out _ f2).mono ?_); rintro e v3 ⟨rfl, e3⟩; have f3 := f2.trans (e3.mono f2.size))
          | (go_at_call 14; (with_reducible refine (HE.out _ f3).mono ?_); rintro e v4 ⟨rfl, e4⟩; have f4 := f3.trans (e4.mono f3.size))
          | (go_at_call 15; (with_reducible refine (HF.out _ f4).mono ?_); rintro e v5 ⟨rfl, rfl⟩; have f5 := f4))
        all_goals
          go_wp2_with fail
          go_roundw
          case rel => exact ⟨k + 1, by omega, by go_num, hw.trans ((HB3.out.trans (f4.mono HB3.out.size)).mono hws)⟩
          case measure => simp [intOf]; omega
      · have q1 : (2 : Int) ≤ (k : Int) := by omega
        go_wp2_with fail
        go_ret
        exact ⟨rfl, hwb⟩
end Go.Proofs.Ytcnadiddgllejaa.Li
