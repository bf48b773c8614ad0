/- lines.Split: what it makes of any text. Conditions: fewer than 2^38 bytes. -/
import Derived.Test.YtlojjmmjmpffnaaGreatDoorLiRow
import Derived.Deep.RegionHeld3
import Derived.Deep.DrawnRows
import Derived.Outline
namespace Go.Proofs.YtlojjmmjmpffnaaGreatDoor.Li
open Go.RowKit
set_option maxRecDepth 100000
attribute [local go_sem ↓] Go.wp_at_zero Go.wp_at_succ

/-- What is made so far: f lines' bytes are done, j read. -/
structure Sofar (b : ByteArray) (w wr : World) (A : Option Addr) (N c f j : Nat) (ls : List Ln) : Prop where
  inv : Inv b.data.toList f j ls
  own : OwnL wr w.heap.size A N c ls
  len : N = ls.length
  keep : Below w.heap.size w wr
theorem Sofar.line {b : ByteArray} {w wr w4 : World} {A A4 : Option Addr} {N c c4 f j : Nat} {ls : List Ln} {o : Obj} (h : Sofar b w wr A N c f j ls) (hj : j < b.size) (h10 : b[j] = 10)
    (ho : w4.ownsRow w.heap.size 71 2 (.slice A4 (N + 1) c4) (N + 1) (lcells ls ++ [encs (sl b.data.toList f (lo b.data.toList f j)), encs (sl b.data.toList (lo b.data.toList f j) (j + 1))]))
    (hg : (wr.alloc o).drew.grownBy w4 (Value.slice A N c).ownBlock) : Sofar b w w4 A4 (N + 1) c4 (j + 1) (j + 1) (ls ++ [(sl b.data.toList f (lo b.data.toList f j), sl b.data.toList (lo b.data.toList f j) (j + 1))]) where
  inv := h.inv.line (show j < b.data.toList.length from hj) h10
  own := by rw [OwnL, lcells_append]; exact ho
  len := by rw [List.length_append, h.len]; rfl
  keep := (h.keep.alloc h.keep.size _).grown (grown_undrew hg) (by have := h.keep.size; simp; omega) (fun k hk => (h.own.lt k hk).1)
/-- At a label, with k left. -/
def At2 (b : ByteArray) (w : World) (a : Act) (wr : World) (k : Nat) : Prop :=
  ∃ A N c f j ls, Sofar b w wr A N c f j ls ∧ k + j = b.size + 1 ∧ ∃ u1 u2 u7 u8 u9 u10 u11 u12 u13 u14 u15 u16 u17 u18 u19 u20 u21 u22 u23 u24 u25 u26 u27 u28 u29 u30 u31 u32 u33 u34 u35 u36 u37 u38 u39 u40 u41 u42 u43 u44 u45 u46 u47 u48 : Value, a = { tmps := #[.string b, u1, u2, .slice A N c, .int .i64 (f : Int), .int .i64 (lo b.data.toList f j : Int), .int .i64 (j : Int), u7, u8, u9, u10, u11, u12, u13, u14, u15, u16, u17, u18, u19, u20, u21, u22, u23, u24, u25, u26, u27, u28, u29, u30, u31, u32, u33, u34, u35, u36, u37, u38, u39, u40, u41, u42, u43, u44, u45, u46, u47, u48], defers := [] }
def At0 (b : ByteArray) (w : World) (a : Act) (wr : World) (k : Nat) : Prop :=
  ∃ A N c f j ls, Sofar b w wr A N c f j ls ∧ cr b.data.toList f j = false ∧ k + j = b.size + 1 ∧ ∃ u1 u2 u5 u7 u8 u9 u10 u11 u12 u13 u14 u15 u16 u17 u18 u19 u20 u21 u22 u23 u24 u25 u26 u27 u28 u29 u30 u31 u32 u33 u34 u35 u36 u37 u38 u39 u40 u41 u42 u43 u44 u45 u46 u47 u48 : Value, a = { tmps := #[.string b, u1, u2, .slice A N c, .int .i64 (f : Int), u5, .int .i64 (j : Int), u7, u8, u9, u10, u11, u12, u13, u14, u15, u16, u17, u18, u19, u20, u21, u22, u23, u24, u25, u26, u27, u28, u29, u30, u31, u32, u33, u34, u35, u36, u37, u38, u39, u40, u41, u42, u43, u44, u45, u46, u47, u48], defers := [] }
def At1 (b : ByteArray) (w : World) (a : Act) (wr : World) (_ : Nat) : Prop :=
  ∃ A N c f ls, Sofar b w wr A N c f b.size ls ∧ ∃ u1 u2 u5 u7 u8 u9 u10 u11 u12 u13 u14 u15 u16 u17 u18 u19 u20 u21 u22 u23 u24 u25 u26 u27 u28 u29 u30 u31 u32 u33 u34 u35 u36 u37 u38 u39 u40 u41 u42 u43 u44 u45 u46 u47 u48 u6 : Value, a = { tmps := #[.string b, u1, u2, .slice A N c, .int .i64 (f : Int), u5, u6, u7, u8, u9, u10, u11, u12, u13, u14, u15, u16, u17, u18, u19, u20, u21, u22, u23, u24, u25, u26, u27, u28, u29, u30, u31, u32, u33, u34, u35, u36, u37, u38, u39, u40, u41, u42, u43, u44, u45, u46, u47, u48], defers := [] }
def AtL (b : ByteArray) (w : World) (l : Nat) (a : Act) (wr : World) (k : Nat) : Prop :=
  (l = 0 ∧ At0 b w a wr k) ∨ (l = 1 ∧ At1 b w a wr k) ∨ (l = 2 ∧ At2 b w a wr k)
/-- What is handed back: a new row of these lines. -/
def Lines (base : Nat) (w : World) (ls : List Ln) (e : Ending) (w' : World) : Prop :=
  ∃ A c, e = .returned (.slice A ls.length c) ∧ OwnL w' base A ls.length c ls ∧ Below base w w'

theorem scope3 {P : Program} {a : Act} {w : World} {Q : Exit → Act → World → Prop} {c r0 r1 x : Code} (J : Nat → Act → World → Nat → Prop) (m : Nat) (J0 J1 J2 : Act → World → Nat → Prop)
    (hJ : ∀ l a w k, J l a w k → (l = 0 ∧ J0 a w k) ∨ (l = 1 ∧ J1 a w k) ∨ (l = 2 ∧ J2 a w k))
    (h0 : findLabel c 0 = some r0) (h1 : findLabel c 1 = some r1) (h2 : findLabel c 2 = some (.seq .skip x))
    (back : ∀ a w k, J2 a w k → x.wp P (ups J k Q) a w)
    (text : (∀ a w k, J2 a w k → x.wp P (ups J k Q) a w) → ∀ a w k, J0 a w k → r0.wp P (ups J k Q) a w)
    (last : ∀ a w k, J1 a w k → r1.wp P (ups J k Q) a w)
    (first : (∀ a w k, J2 a w k → x.wp P (ups J k Q) a w) → c.wp P (ups J m Q) a w) : (Code.scope c).wp P Q a w := by
  refine wp_scope_ups J m (first back) fun l a w k h => ?_
  rcases hJ l a w k h with ⟨rfl, g⟩ | ⟨rfl, g⟩ | ⟨rfl, g⟩
  · exact ⟨_, h0, text back a w k g⟩
  · exact ⟨_, h1, last a w k g⟩
  · exact ⟨_, h2, wp_seq (wp_skip (back a w k g))⟩

set_option maxHeartbeats 2000000 in
theorem split_big (b : ByteArray) (w : World) (hb : b.size ≤ 4611686018427387904) (hL : (split b.data.toList).length ≤ 1099511627775) : Calls Tryz.prog 25 #[.string b] w (Lines w.heap.size w (split b.data.toList)) := by
  have hlen : b.data.toList.length = b.size := Array.length_toList
  have HLb := Lib.hid hL
  clear hL
  go_enter Tryz.func25, Tryz.ntmps25
  go_wp2
  refine scope3 (AtL b w) (b.size + 1) (At0 b w) (At1 b w) (At2 b w) (fun _ _ _ _ h => h) (by rfl) (by rfl) (by rfl) ?back ?text ?last ?first
  case back =>
    rintro a' wr k ⟨A, N, c, f, j, ls, hS, hk, u1, u2, u7, u8, u9, u10, u11, u12, u13, u14, u15, u16, u17, u18, u19, u20, u21, u22, u23, u24, u25, u26, u27, u28, u29, u30, u31, u32, u33, u34, u35, u36, u37, u38, u39, u40, u41, u42, u43, u44, u45, u46, u47, u48, rfl⟩
    have hcr := lo_le b.data.toList f j hS.inv.1
    have hjb : j ≤ b.size := by have := hS.inv.2.1; omega
    by_cases hlt : j < b.size
    · have q0 : ((j : Int) == (b.size : Int)) = false := by simp; omega
      have hget : b.data.toList[j]'(by omega) = b[j] := rfl
      by_cases h13 : b[j] = 13
      · have q1 : ((b[j].toNat : Int) == 13) = true := by rw [h13]; rfl
        have Hg := Lib.hid h13
        clear h13 hget
        go_wp2_with fail
        go_step3
        refine ⟨k - 1, by omega, .inr (.inr ⟨rfl, A, N, c, f, j + 1, ls, ⟨hS.inv.other (by omega) ?_, hS.own, hS.len, hS.keep⟩, by omega, ?_⟩)⟩
        · show b[j] ≠ 10
          rw [Hg.out]; decide
        · have e : lo b.data.toList f (j + 1) = j := by
            have h1 : cr b.data.toList f (j + 1) = true := by
              rw [cr_snoc hS.inv.1 (by omega)]
              exact decide_eq_true Hg.out
            unfold lo
            rw [if_pos h1, Nat.add_sub_cancel]
          rw [e]
          exact ⟨_, _, _, _, _, _, _, _, _, _, _, _, _, _, _, _, _, _, _, _, _, _, _, _, _, _, _, _, _, _, _, _, _, _, _, _, _, _, _, _, _, _, _, _, rfl⟩
      · have n13 : b[j].toNat ≠ 13 := fun e => h13 (UInt8.toNat_inj.1 e)
        have q1 : ((b[j].toNat : Int) == 13) = false := by simp; omega
        by_cases h10 : b[j] = 10
        · have q2 : ((b[j].toNat : Int) == 10) = true := by rw [h10]; rfl
          have b1 : (0 : Int) ≤ (f : Int) := by omega
          have b2 : (f : Int) ≤ (lo b.data.toList f j : Int) := by omega
          have b3 : (lo b.data.toList f j : Int) ≤ (b.size : Int) := by omega
          have b4 : (lo b.data.toList f j : Int) ≤ (j : Int) + 1 := by omega
          have b5 : (j : Int) + 1 ≤ (b.size : Int) := by omega
          have b6 : (0 : Int) ≤ (lo b.data.toList f j : Int) := by omega
          have Hg := Lib.hid h10
          have HS := Lib.hid hS
          have Hcr := Lib.hid hcr
          have hN46 : N + 1 ≤ 1099511627776 := by have := hS.len; have := hS.inv.le2; have := HLb.out; omega
          clear h10 h13 hget hS hcr
          go_wp2_with fail
          go_region_held3 (fun _ => True) (trivial) ((refine step_append_row rfl (.tmp 24) (.tmp 34) _ _ rfl elem_line rfl rfl ((HS.out.own.alloc _).drew) (src_line_d _ (sl b.data.toList f (lo b.data.toList f j)) (sl b.data.toList (lo b.data.toList f j) (j + 1)) _ (by rw [← ext_sl, ← ext_sl]) _ rfl) hN46 (by have := HS.out.keep.size; simp; omega) ?_; intro A4 c4 w4 ho4 hg4 hat4))
          have HP := Lib.hid (HS.out.line (by omega) Hg.out ho4 hg4)
          go_wp2_with fail
          go_step3
          exact ⟨k - 1, by omega, .inl ⟨rfl, A4, N + 1, c4, j + 1, j + 1, _, HP.out, cr_self _ _, by omega, _, _, _, _, _, _, _, _, _, _, _, _, _, _, _, _, _, _, _, _, _, _, _, _, _, _, _, _, _, _, _, _, _, _, _, _, _, _, _, _, _, _, _, _, _, rfl⟩⟩
        · have n10 : b[j].toNat ≠ 10 := fun e => h10 (UInt8.toNat_inj.1 e)
          have q2 : ((b[j].toNat : Int) == 10) = false := by simp; omega
          have Hg := Lib.hid h10
          have Hf := Lib.hid h13
          clear h10 h13 hget
          go_wp2_with fail
          go_step3
          refine ⟨k - 1, by omega, .inl ⟨rfl, A, N, c, f, j + 1, ls, ⟨hS.inv.other (by omega) Hg.out, hS.own, hS.len, hS.keep⟩, ?_, by omega, _, _, _, _, _, _, _, _, _, _, _, _, _, _, _, _, _, _, _, _, _, _, _, _, _, _, _, _, _, _, _, _, _, _, _, _, _, _, _, _, _, _, _, _, _, rfl⟩⟩
          rw [cr_snoc hS.inv.1 (by omega)]
          exact decide_eq_false Hf.out
    · have hj : j = b.size := by omega
      subst hj
      have q0 : ((b.size : Int) == (b.size : Int)) = true := by simp
      go_wp2_with fail
      go_step3
      exact ⟨0, by omega, .inr (.inl ⟨rfl, A, N, c, f, ls, hS, _, _, _, _, _, _, _, _, _, _, _, _, _, _, _, _, _, _, _, _, _, _, _, _, _, _, _, _, _, _, _, _, _, _, _, _, _, _, _, _, _, _, _, _, _, _, rfl⟩)⟩
  case text =>
    rintro back a' wr k ⟨A, N, c, f, j, ls, hS, hc, hk, u1, u2, u5, u7, u8, u9, u10, u11, u12, u13, u14, u15, u16, u17, u18, u19, u20, u21, u22, u23, u24, u25, u26, u27, u28, u29, u30, u31, u32, u33, u34, u35, u36, u37, u38, u39, u40, u41, u42, u43, u44, u45, u46, u47, u48, rfl⟩
    have e : lo b.data.toList f j = j := by unfold lo; rw [if_neg (by rw [hc]; simp)]
    have HB := Lib.hid back
    have HE := Lib.hid e
    clear back e hc
    go_wp2_with fail
    go_step3
    rename_i K hK
    refine hK _ _ (HB.out _ _ _ ⟨A, N, c, f, j, ls, hS, hk, ?_⟩)
    rw [HE.out]
    exact ⟨_, _, _, _, _, _, _, _, _, _, _, _, _, _, _, _, _, _, _, _, _, _, _, _, _, _, _, _, _, _, _, _, _, _, _, _, _, _, _, _, _, _, _, _, rfl⟩
  case last =>
    rintro a' wr k ⟨A, N, c, f, ls, hS, u1, u2, u5, u7, u8, u9, u10, u11, u12, u13, u14, u15, u16, u17, u18, u19, u20, u21, u22, u23, u24, u25, u26, u27, u28, u29, u30, u31, u32, u33, u34, u35, u36, u37, u38, u39, u40, u41, u42, u43, u44, u45, u46, u47, u48, u6, rfl⟩
    have hl := hS.inv.last hlen.symm
    have hN := hS.len
    rw [hlen] at hl
    by_cases hlt : f < b.size
    · have q0 : (f : Int) < (b.size : Int) := by omega
      rw [if_pos hlt] at hl
      have HL := Lib.hid hl
      have HS := Lib.hid hS
      have HN := Lib.hid hN
      have hN46 : N + 1 ≤ 1099511627776 := by have := hS.inv.le2; have := HLb.out; omega
      clear hl hS hN
      go_wp2_with (at_builtin; refine wpList_append_row rfl (.tmp 41) (.tmp 46) _ _ rfl elem_line rfl rfl (HS.out.own.alloc _) (src_line _ (sl b.data.toList f b.size) [] _ (by rw [← ext_sl]; rfl) _ rfl) hN46 (by have := HS.out.keep.size; simp; omega) ?_; intro A4 c4 w4 ho4 hg4 hat4)
      go_ret
      refine ⟨A4, c4, ?_, ?_, ?_⟩
      · rw [HL.out, List.length_append, ← HN.out]; rfl
      · rw [HL.out, OwnL, lcells_append, List.length_append, ← HN.out]; exact ho4
      · exact (HS.out.keep.alloc HS.out.keep.size _).grown hg4 (by have := HS.out.keep.size; simp; omega) (fun k hk => (HS.out.own.lt k hk).1)
    · have q0 : ¬ (f : Int) < (b.size : Int) := by omega
      rw [if_neg hlt] at hl
      have HL := Lib.hid hl
      have HN := Lib.hid hN
      clear hl hN
      go_wp2_with fail
      go_ret
      refine ⟨A, c, ?_, ?_, hS.keep⟩
      · rw [HL.out, ← HN.out]; rfl
      · rw [HL.out, ← HN.out]; exact hS.own
  case first =>
    intro back
    have HB := Lib.hid back
    clear back
    go_wp2_with fail
    go_step3
    go_wp2_with fail
    go_step3
    rename_i K hK
    exact hK _ _ (HB.out _ _ (b.size + 1) ⟨none, 0, 0, 0, 0, [], ⟨Inv.start _, World.ownsRow_nil _ _ _ _, rfl, Below.refl _ _⟩, rfl, _, _, _, _, _, _, _, _, _, _, _, _, _, _, _, _, _, _, _, _, _, _, _, _, _, _, _, _, _, _, _, _, _, _, _, _, _, _, _, _, _, _, _, _, rfl⟩)
theorem split_any (b : ByteArray) (w : World) (hb : b.size ≤ 274877906944) : Calls Tryz.prog 25 #[.string b] w (Lines w.heap.size w (split b.data.toList)) := by
  refine split_big b w (by omega) ?_
  have h1 := split_le b.data.toList
  have h2 : b.data.toList.length = b.size := Array.length_toList
  omega
end Go.Proofs.YtlojjmmjmpffnaaGreatDoor.Li
