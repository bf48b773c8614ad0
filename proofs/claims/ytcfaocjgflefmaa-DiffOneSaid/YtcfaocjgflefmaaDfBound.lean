/- diff.bounded. Conditions: no tree has more than 1200 edges. -/
import Derived.Test.YtcfaocjgflefmaaDfHold
namespace Go.Proofs.Ytcfaocjgflefmaa.Df
open Go.RowKit Go.Proofs.Ytcfaocjgflefmaa.Pt
set_option maxRecDepth 100000

set_option maxHeartbeats 1000000 in
theorem bounded_any (xs : List Slc) (A0 : Option Addr) (n0 c0 B : Nat) (w : World) (hx : Forest w B A0 xs) (hn0 : n0 = xs.length) (hB : B ≤ w.heap.size) (hl : xs.length ≤ 100) (hxs : ∀ x ∈ xs, x.t.size ≤ 1200) :
    Calls Try.prog 26 #[.slice A0 n0 c0] w fun e w' => e = .returned (.bool true) ∧ Below w.heap.size w w' := by
  have Hn0 := Lib.hid hn0
  have hnb : n0 ≤ 100 := by omega
  have HX := Lib.hid hx
  have Hxs := Lib.hid hxs
  clear hn0 hx hxs
  go_enter Try.func26, Try.ntmps26
  go_wp2_with fail
  go_loopw [8] (fun i wr => ∃ k : Nat, k ≤ n0 ∧ i = .int .i64 k ∧ Hid (Below w.heap.size w wr)) (fun i _ => n0 - (intOf i).toNat)
  case atStart => exact ⟨0, Nat.zero_le _, rfl, Lib.hid (Below.refl _ _)⟩
  case round =>
    obtain ⟨k, hk, rfl, HW⟩ := hrel
    by_cases hlt : k < n0
    · obtain ⟨x, hxk⟩ : ∃ x, xs[k]? = some x := ⟨xs[k]'(by have := Hn0.out; omega), List.getElem?_eq_getElem _⟩
      obtain ⟨b, o, rfl, hbB, hcx, hh⟩ := HX.out k x hxk
      have hxz := Hxs.out x (List.mem_of_getElem? hxk)
      have hcw := (HW.out.cell (p := ⟨b, o + k, none⟩) (show b < w.heap.size by omega)).trans hcx
      have hkn : (k : Int) < (n0 : Int) := by omega
      have hk0 : (0 : Int) ≤ (k : Int) := by omega
      have hsw := HW.out.size
      obtain ⟨W1, hW1⟩ : ∃ W, W = wr.alloc (Obj.cells #[Value.int .i64 1200] 58) := ⟨_, rfl⟩
      have hb1 : Below wr.heap.size wr W1 := by rw [hW1]; exact (Below.refl _ _).alloc (Nat.le_refl _) _
      have hr1 : W1.heap[wr.heap.size]? = some (.cells #[.int .i64 1200] 58 (0, 0)) := by rw [hW1]; exact heap_alloc_new wr _
      have HC := Lib.hid (holds_any (x.t.size + 1) x.t x.at_ x.n x.c B wr.heap.size 1200 W1 (Nat.lt_succ_self _) (hh.keep fun p hp => (hb1.cell (p := p) (by omega)).trans (HW.out.cell (Nat.lt_of_lt_of_le hp hB))) (by omega) hr1 (by omega) (by omega))
      have HB1 := Lib.hid hb1
      have Hlt := Lib.hid hlt
      have Hsw := Lib.hid hsw
      clear hcx hh hxk hxz hb1 hr1 hlt
      go_wp2_with fail
      rw [← hW1]
      (with_reducible refine HC.out.mono ?_)
      rintro e w2 ⟨rfl, h2⟩
      have HW2 := Lib.hid (show Below w.heap.size w w2 from (HW.out.trans (HB1.out.mono Hsw.out)).grown h2.grown (Nat.le_trans Hsw.out HB1.out.size) (fun q e => by injection e with e; omega))
      clear h2
      go_wp2_with fail
      go_roundw
      case rel => exact ⟨k + 1, Hlt.out, by go_num, HW2⟩
      case measure => have := Hlt.out; simp [intOf]; omega
    · obtain rfl : k = n0 := by omega
      clear hlt
      go_wp2_with fail
      go_ret
      exact ⟨rfl, HW.out⟩
end Go.Proofs.Ytcfaocjgflefmaa.Df
