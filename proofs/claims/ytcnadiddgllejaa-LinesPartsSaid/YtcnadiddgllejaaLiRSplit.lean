/- The document's own Split: what it makes of any text. Conditions: fewer than 2^38 bytes. -/
import Derived.Test.YtcnadiddgllejaaLiSplit
import Derived.Deep.LoopGhost
import Derived.IntWalk
namespace Go.Proofs.Ytcnadiddgllejaa.Li
open Go.RowKit
set_option maxRecDepth 100000
attribute [local go_sem ↓] Go.wp_at_zero Go.wp_at_succ

theorem lo_same {s : Bs} {f j : Nat} (h : ¬ f < j) : lo s f j = j := by
  unfold lo
  rw [if_neg]
  intro e
  exact h (cr_pos e)
theorem lo_13 {b : ByteArray} {f i : Nat} (h : f ≤ i) (hi : i < b.size) (h13 : b[i] = 13) : lo b.data.toList f (i + 1) = i := by
  have hl : i < b.data.toList.length := hi
  unfold lo
  rw [if_pos, Nat.add_sub_cancel]
  rw [cr_snoc h hl]
  exact decide_eq_true h13
theorem lo_no {b : ByteArray} {f i : Nat} (h : f ≤ i) (hi : i < b.size) (h13 : b[i] ≠ 13) : lo b.data.toList f (i + 1) = i + 1 := by
  have hl : i < b.data.toList.length := hi
  unfold lo
  rw [if_neg]
  rw [cr_snoc h hl]
  exact fun e => h13 (of_decide_eq_true e)
theorem Sofar.skip {b : ByteArray} {w wr : World} {A : Option Addr} {N c f j : Nat} {ls : List Ln} (h : Sofar b w wr A N c f j ls) (hj : j < b.size) (h10 : b[j] ≠ 10) : Sofar b w wr A N c f (j + 1) ls :=
  ⟨h.inv.other (show j < b.data.toList.length from hj) h10, h.own, h.len, h.keep⟩
theorem Sofar.line2 {b : ByteArray} {w wr w4 : World} {A A4 : Option Addr} {N c c4 f j k : Nat} {ls : List Ln} {o : Obj} (h : Sofar b w wr A N c f j ls) (hj : j < b.size) (h10 : b[j] = 10) (hk : lo b.data.toList f j = k)
    (ho : w4.ownsRow w.heap.size 34 2 (.slice A4 (N + 1) c4) (N + 1) (lcells ls ++ [encs (sl b.data.toList f k), encs (sl b.data.toList k (j + 1))]))
    (hg : (wr.alloc o).drew.grownBy w4 (Value.slice A N c).ownBlock) : Sofar b w w4 A4 (N + 1) c4 (j + 1) (j + 1) (ls ++ [(sl b.data.toList f k, sl b.data.toList k (j + 1))]) := by
  subst hk
  exact h.line hj h10 ho hg

set_option maxHeartbeats 2000000 in
theorem rsplit_any (b : ByteArray) (w : World) (hb : b.size ≤ 274877906944) : Calls Try.prog 12 #[.string b] w (Lines w.heap.size w (split b.data.toList)) := by
  have hlen : b.data.toList.length = b.size := Array.length_toList
  go_enter Try.func12, Try.ntmps12
  go_wp2
  go_loopw [3, 4, 5] (fun v f i wr => ∃ (A : Option Addr) (N c f' j : Nat) (ls : List Ln), Sofar b w wr A N c f' j ls ∧ v = .slice A N c ∧ f = .int .i64 f' ∧ i = .int .i64 j) (fun _ _ i _ => b.size - (intOf i).toNat)
  case atStart => exact ⟨none, 0, 0, 0, 0, [], ⟨Inv.start _, World.ownsRow_nil _ _ _ _, rfl, Below.refl _ _⟩, rfl, rfl, rfl⟩
  case round =>
    obtain ⟨A, N, c, f, j, ls, hS, rfl, rfl, rfl⟩ := hrel
    have hjb : j ≤ b.size := by have := hS.inv.2.1; omega
    have hfj := hS.inv.1
    by_cases hlt : j < b.size
    · have b5 : (j : Int) + 1 ≤ (b.size : Int) := by omega
      by_cases h10 : b[j] = 10
      · have q2 : ((b[j].toNat : Int) != 10) = false := by rw [h10]; rfl
        have Hg := Lib.hid h10
        have HS := Lib.hid hS
        have hN46 : N + 1 ≤ 1099511627776 := by have := hS.len; have := hS.inv.le; omega
        clear h10 hS
        have b1 : (0 : Int) ≤ (f : Int) := by omega
        by_cases hf : f < j
        · obtain ⟨i, rfl⟩ : ∃ i, j = i + 1 := ⟨j - 1, by omega⟩
          have q3 : (f : Int) < (i : Int) + 1 := by omega
          have q3' : (f : Int) < ((i + 1 : Nat) : Int) := by omega
          have b6 : (0 : Int) ≤ (i : Int) := by omega
          have hib : i < b.size := by omega
          have b3 : (i : Int) ≤ (b.size : Int) := by omega
          have b7 : (f : Int) ≤ (i : Int) := by omega
          by_cases h13 : b[i] = 13
          · have q4 : ((b[i].toNat : Int) == 13) = true := by rw [h13]; rfl
            have HL := Lib.hid (lo_13 (by omega : f ≤ i) hib h13)
            clear h13
            have x1 : (f : Int) ≤ (i : Int) + 1 := by omega
            have x2 : (i : Int) + 1 ≤ (b.size : Int) := by omega
            have x3 : (i : Int) ≤ (i : Int) + 1 + 1 := by omega
            have x4 : (i : Int) + 1 ≤ (i : Int) + 1 + 1 := by omega
            have x5 : (i : Int) + 1 + 1 ≤ (b.size : Int) := by omega
            have x6 : (0 : Int) ≤ (i : Int) + 1 := by omega
            have x7 : (0 : Int) ≤ (i : Int) + 1 + 1 := by omega
            have x8 : ((i : Int) + 1).toNat = i + 1 := by omega
            have x9 : ((i : Int) + 1 + 1).toNat = i + 1 + 1 := by omega
            have hsz : w.heap.size ≤ (wr.heap.size) + 1 := by have := HS.out.keep.size; omega
            have y1 : IntKind.i64.wrap ((i : Int) + 1 + 1) = (i : Int) + 1 + 1 := IntWalk.i64_in _ (by omega)
            go_wp2_with fail
            go_region_held3 (fun _ => True) (trivial) ((refine step_append_row rfl (.tmp 30) (.tmp 41) _ _ rfl elem_line rfl rfl ((HS.out.own.alloc _).drew) (src_line_d _ (sl b.data.toList f (i)) (sl b.data.toList (i) ((i + 1) + 1)) _ (by rw [← ext_sl, ← ext_sl]) _ rfl) hN46 (by have := HS.out.keep.size; simp; omega) ?_; intro A4 c4 w4 ho4 hg4 hat4))
            clear y1
            have HP := Lib.hid (HS.out.line2 (by omega) Hg.out HL.out ho4 hg4)
            clear ho4 hg4 hat4
            go_wp2_with fail
            go_roundw
            case rel => exact ⟨A4, N + 1, c4, (i + 1) + 1, (i + 1) + 1, _, HP.out, rfl, by go_num, by go_num⟩
            case measure => simp [intOf]; omega
          · have n13 : b[i].toNat ≠ 13 := fun e => h13 (UInt8.toNat_inj.1 e)
            have q4 : ((b[i].toNat : Int) == 13) = false := by simp; omega
            have HL := Lib.hid (lo_no (by omega : f ≤ i) hib h13)
            clear h13
            have x1 : (f : Int) ≤ (i : Int) + 1 := by omega
            have x2 : (i : Int) + 1 ≤ (b.size : Int) := by omega
            have x3 : (i : Int) ≤ (i : Int) + 1 + 1 := by omega
            have x4 : (i : Int) + 1 ≤ (i : Int) + 1 + 1 := by omega
            have x5 : (i : Int) + 1 + 1 ≤ (b.size : Int) := by omega
            have x6 : (0 : Int) ≤ (i : Int) + 1 := by omega
            have x7 : (0 : Int) ≤ (i : Int) + 1 + 1 := by omega
            have x8 : ((i : Int) + 1).toNat = i + 1 := by omega
            have x9 : ((i : Int) + 1 + 1).toNat = i + 1 + 1 := by omega
            have hsz : w.heap.size ≤ (wr.heap.size) + 1 := by have := HS.out.keep.size; omega
            have y1 : IntKind.i64.wrap ((i : Int) + 1 + 1) = (i : Int) + 1 + 1 := IntWalk.i64_in _ (by omega)
            go_wp2_with fail
            go_region_held3 (fun _ => True) (trivial) ((refine step_append_row rfl (.tmp 30) (.tmp 41) _ _ rfl elem_line rfl rfl ((HS.out.own.alloc _).drew) (src_line_d _ (sl b.data.toList f (i + 1)) (sl b.data.toList (i + 1) (i + 1 + 1)) _ (by rw [← ext_sl, ← ext_sl]) _ rfl) hN46 (by have := HS.out.keep.size; simp; omega) ?_; intro A4 c4 w4 ho4 hg4 hat4))
            clear y1
            have HP := Lib.hid (HS.out.line2 (by omega) Hg.out HL.out ho4 hg4)
            clear ho4 hg4 hat4
            go_wp2_with fail
            go_roundw
            case rel => exact ⟨A4, N + 1, c4, i + 1 + 1, i + 1 + 1, _, HP.out, rfl, by go_num, by go_num⟩
            case measure => simp [intOf]; omega
        · have q3 : (j : Int) ≤ (f : Int) := by omega
          have HL := Lib.hid (lo_same (s := b.data.toList) hf)
          have x3 : (j : Int) ≤ (j : Int) + 1 := by omega
          have x4 : (f : Int) ≤ (j : Int) := by omega
          have x5 : (j : Int) ≤ (b.size : Int) := by omega
          have x6 : (0 : Int) ≤ (j : Int) := by omega
          have x7 : (0 : Int) ≤ (j : Int) + 1 := by omega
          have x8 : ((j : Int) + 1).toNat = j + 1 := by omega
          have y1 : IntKind.i64.wrap ((j : Int) + 1) = (j : Int) + 1 := IntWalk.i64_in _ (by omega)
          go_wp2_with fail
          go_region_held3 (fun _ => True) (trivial) ((refine step_append_row rfl (.tmp 30) (.tmp 41) _ _ rfl elem_line rfl rfl ((HS.out.own.alloc _).drew) (src_line_d _ (sl b.data.toList f (j)) (sl b.data.toList (j) (j + 1)) _ (by rw [← ext_sl, ← ext_sl]) _ rfl) hN46 (by have := HS.out.keep.size; simp; omega) ?_; intro A4 c4 w4 ho4 hg4 hat4))
          clear y1
          have HP := Lib.hid (HS.out.line2 (by omega) Hg.out HL.out ho4 hg4)
          clear ho4 hg4 hat4
          go_wp2_with fail
          go_roundw
          case rel => exact ⟨A4, N + 1, c4, j + 1, j + 1, _, HP.out, rfl, by go_num, by go_num⟩
          case measure => simp [intOf]; omega
      · have n10 : b[j].toNat ≠ 10 := fun e => h10 (UInt8.toNat_inj.1 e)
        have q2 : ((b[j].toNat : Int) != 10) = true := by simp; omega
        have HS := Lib.hid (hS.skip hlt h10)
        clear hS h10
        go_wp2_with fail
        go_roundw
        case rel => exact ⟨A, N, c, f, j + 1, ls, HS.out, rfl, rfl, by go_num⟩
        case measure => simp [intOf]; omega
    · obtain rfl : j = b.size := by omega
      have hl := hS.inv.last hlen.symm
      have hN := hS.len
      rw [hlen] at hl
      by_cases hlt : f < b.size
      · have q0 : (f : Int) < (b.size : Int) := by omega
        rw [if_pos hlt] at hl
        have HL := Lib.hid hl
        have HS := Lib.hid hS
        have HN := Lib.hid hN
        have hN46 : N + 1 ≤ 1099511627776 := by have := hS.inv.le; omega
        clear hl hS hN
        go_wp2_with (at_builtin; refine wpList_append_row rfl (.tmp 49) (.tmp 54) _ _ rfl elem_line rfl rfl (HS.out.own.alloc _) (src_line _ (sl b.data.toList f b.size) [] _ (by rw [← ext_sl]; rfl) _ rfl) hN46 (by have := HS.out.keep.size; simp; omega) ?_; intro A4 c4 w4 ho4 hg4 hat4)
        go_ret
        refine ⟨A4, c4, ?_, ?_, ?_⟩
        · rw [HL.out, List.length_append, ← HN.out]; rfl
        · rw [HL.out, OwnL, lcells_append, List.length_append, ← HN.out]; exact ho4
        · exact (HS.out.keep.alloc HS.out.keep.size _).grown hg4 (by have := HS.out.keep.size; simp; omega) (fun k hk => (HS.out.own.lt k hk).1)
      · have q0 : ¬ (f : Int) < (b.size : Int) := by omega
        rw [if_neg hlt] at hl
        have HL := Lib.hid hl
        have HN := Lib.hid hN
        clear hl hN
        go_wp2_with fail
        go_ret
        refine ⟨A, c, ?_, ?_, hS.keep⟩
        · rw [HL.out, ← HN.out]; rfl
        · rw [HL.out, ← HN.out]; exact hS.own
end Go.Proofs.Ytcnadiddgllejaa.Li
