/- lines.Split: what it makes of any text. Conditions: fewer than 2^38 bytes. · lines.Join, lines.End, cmp.Or, the document's own End and Same. Conditions: lengths below 2^40. · cmp.Or of two strings, lines.End, the document's own End; its Same at two rows that are the same. Conditions: lengths below 2^62. -/
import Derived.Test.YtecnilcfhicfmaaGreatDoorMw15
import Derived.Deep.RegionHeld3
import Derived.Deep.DrawnRows
import Derived.Outline
import Derived.Test.YtecnilcfhicfmaaGreatDoorMw31
import Derived.Deep.LoopGhost
import Derived.BigQuiet
import Derived.Deep.QuietTactic
namespace Go.Proofs.YtecnilcfhicfmaaGreatDoor.Li
open Go.RowKit
set_option maxRecDepth 100000
attribute [local go_sem ↓] Go.wp_at_zero Go.wp_at_succ

/-- What is made so far: f lines' bytes are done, j read. -/
structure Sofar (b : ByteArray) (w wr : World) (A : Option Addr) (N c f j : Nat) (ls : List Ln) : Prop where
  inv : Inv b.data.toList f j ls
  own : OwnL wr w.heap.size A N c ls
  len : N = ls.length
  keep : Below w.heap.size w wr
theorem Sofar.line {b : ByteArray} {w wr w4 : World} {A A4 : Option Addr} {N c c4 f j : Nat} {ls : List Ln} {o : Obj} (h : Sofar b w wr A N c f j ls) (hj : j < b.size) (h10 : b[j] = 10)
    (ho : w4.ownsRow w.heap.size 66 2 (.slice A4 (N + 1) c4) (N + 1) (lcells ls ++ [encs (sl b.data.toList f (lo b.data.toList f j)), encs (sl b.data.toList (lo b.data.toList f j) (j + 1))]))
    (hg : (wr.alloc o).drew.grownBy w4 (Value.slice A N c).ownBlock) : Sofar b w w4 A4 (N + 1) c4 (j + 1) (j + 1) (ls ++ [(sl b.data.toList f (lo b.data.toList f j), sl b.data.toList (lo b.data.toList f j) (j + 1))]) where
  inv := h.inv.line (show j < b.data.toList.length from hj) h10
  own := by rw [OwnL, lcells_append]; exact ho
  len := by rw [List.length_append, h.len]; rfl
  keep := (h.keep.alloc h.keep.size _).grown (grown_undrew hg) (by have := h.keep.size; simp; omega) (fun k hk => (h.own.lt k hk).1)
/-- At a label, with k left. -/
def At2 (b : ByteArray) (w : World) (a : Act) (wr : World) (k : Nat) : Prop :=
  ∃ A N c f j ls, Sofar b w wr A N c f j ls ∧ k + j = b.size + 1 ∧ ∃ u1 u2 u7 u8 u9 u10 u11 u12 u13 u14 u15 u16 u17 u18 u19 u20 u21 u22 u23 u24 u25 u26 u27 u28 u29 u30 u31 u32 u33 u34 u35 u36 u37 u38 u39 u40 u41 u42 u43 u44 u45 u46 u47 u48 : Value, a = { tmps := #[.string b, u1, u2, .slice A N c, .int .i64 (f : Int), .int .i64 (lo b.data.toList f j : Int), .int .i64 (j : Int), u7, u8, u9, u10, u11, u12, u13, u14, u15, u16, u17, u18, u19, u20, u21, u22, u23, u24, u25, u26, u27, u28, u29, u30, u31, u32, u33, u34, u35, u36, u37, u38, u39, u40, u41, u42, u43, u44, u45, u46, u47, u48], defers := [] }
def At0 (b : ByteArray) (w : World) (a : Act) (wr : World) (k : Nat) : Prop :=
  ∃ A N c f j ls, Sofar b w wr A N c f j ls ∧ cr b.data.toList f j = false ∧ k + j = b.size + 1 ∧ ∃ u1 u2 u5 u7 u8 u9 u10 u11 u12 u13 u14 u15 u16 u17 u18 u19 u20 u21 u22 u23 u24 u25 u26 u27 u28 u29 u30 u31 u32 u33 u34 u35 u36 u37 u38 u39 u40 u41 u42 u43 u44 u45 u46 u47 u48 : Value, a = { tmps := #[.string b, u1, u2, .slice A N c, .int .i64 (f : Int), u5, .int .i64 (j : Int), u7, u8, u9, u10, u11, u12, u13, u14, u15, u16, u17, u18, u19, u20, u21, u22, u23, u24, u25, u26, u27, u28, u29, u30, u31, u32, u33, u34, u35, u36, u37, u38, u39, u40, u41, u42, u43, u44, u45, u46, u47, u48], defers := [] }
def At1 (b : ByteArray) (w : World) (a : Act) (wr : World) (_ : Nat) : Prop :=
  ∃ A N c f ls, Sofar b w wr A N c f b.size ls ∧ ∃ u1 u2 u5 u7 u8 u9 u10 u11 u12 u13 u14 u15 u16 u17 u18 u19 u20 u21 u22 u23 u24 u25 u26 u27 u28 u29 u30 u31 u32 u33 u34 u35 u36 u37 u38 u39 u40 u41 u42 u43 u44 u45 u46 u47 u48 u6 : Value, a = { tmps := #[.string b, u1, u2, .slice A N c, .int .i64 (f : Int), u5, u6, u7, u8, u9, u10, u11, u12, u13, u14, u15, u16, u17, u18, u19, u20, u21, u22, u23, u24, u25, u26, u27, u28, u29, u30, u31, u32, u33, u34, u35, u36, u37, u38, u39, u40, u41, u42, u43, u44, u45, u46, u47, u48], defers := [] }
def AtL (b : ByteArray) (w : World) (l : Nat) (a : Act) (wr : World) (k : Nat) : Prop :=
  (l = 0 ∧ At0 b w a wr k) ∨ (l = 1 ∧ At1 b w a wr k) ∨ (l = 2 ∧ At2 b w a wr k)
/-- What is handed back: a new row of these lines. -/
def Lines (base : Nat) (w : World) (ls : List Ln) (e : Ending) (w' : World) : Prop :=
  ∃ A c, e = .returned (.slice A ls.length c) ∧ OwnL w' base A ls.length c ls ∧ Below base w w'

theorem scope3 {P : Program} {a : Act} {w : World} {Q : Exit → Act → World → Prop} {c r0 r1 x : Code} (J : Nat → Act → World → Nat → Prop) (m : Nat) (J0 J1 J2 : Act → World → Nat → Prop)
    (hJ : ∀ l a w k, J l a w k → (l = 0 ∧ J0 a w k) ∨ (l = 1 ∧ J1 a w k) ∨ (l = 2 ∧ J2 a w k))
    (h0 : findLabel c 0 = some r0) (h1 : findLabel c 1 = some r1) (h2 : findLabel c 2 = some (.seq .skip x))
    (back : ∀ a w k, J2 a w k → x.wp P (ups J k Q) a w)
    (text : (∀ a w k, J2 a w k → x.wp P (ups J k Q) a w) → ∀ a w k, J0 a w k → r0.wp P (ups J k Q) a w)
    (last : ∀ a w k, J1 a w k → r1.wp P (ups J k Q) a w)
    (first : (∀ a w k, J2 a w k → x.wp P (ups J k Q) a w) → c.wp P (ups J m Q) a w) : (Code.scope c).wp P Q a w := by
  refine wp_scope_ups J m (first back) fun l a w k h => ?_
  rcases hJ l a w k h with ⟨rfl, g⟩ | ⟨rfl, g⟩ | ⟨rfl, g⟩
  · exact ⟨_, h0, text back a w k g⟩
  · exact ⟨_, h1, last a w k g⟩
  · exact ⟨_, h2, wp_seq (wp_skip (back a w k g))⟩

set_option maxHeartbeats 2000000 in
theorem split_big (b : ByteArray) (w : World) (hb : b.size ≤ 4611686018427387904) (hL : (split b.data.toList).length ≤ 1099511627775) : Calls Tryz.prog 19 #[.string b] w (Lines w.heap.size w (split b.data.toList)) := by
  have hlen : b.data.toList.length = b.size := Array.length_toList
  have HLb := Lib.hid hL
  clear hL
  go_enter Tryz.func19, Tryz.ntmps19
  go_wp2
  refine scope3 (AtL b w) (b.size + 1) (At0 b w) (At1 b w) (At2 b w) (fun _ _ _ _ h => h) (by rfl) (by rfl) (by rfl) ?back ?text ?last ?first
  case back =>
    rintro a' wr k ⟨A, N, c, f, j, ls, hS, hk, u1, u2, u7, u8, u9, u10, u11, u12, u13, u14, u15, u16, u17, u18, u19, u20, u21, u22, u23, u24, u25, u26, u27, u28, u29, u30, u31, u32, u33, u34, u35, u36, u37, u38, u39, u40, u41, u42, u43, u44, u45, u46, u47, u48, rfl⟩
    have hcr := lo_le b.data.toList f j hS.inv.1
    have hjb : j ≤ b.size := by have := hS.inv.2.1; omega
    by_cases hlt : j < b.size
    · have q0 : ((j : Int) == (b.size : Int)) = false := by simp; omega
      have hget : b.data.toList[j]'(by omega) = b[j] := rfl
      by_cases h13 : b[j] = 13
      · have q1 : ((b[j].toNat : Int) == 13) = true := by rw [h13]; rfl
        have Hg := Lib.hid h13
        clear h13 hget
        go_wp2_with fail
        go_step3
        refine ⟨k - 1, by omega, .inr (.inr ⟨rfl, A, N, c, f, j + 1, ls, ⟨hS.inv.other (by omega) ?_, hS.own, hS.len, hS.keep⟩, by omega, ?_⟩)⟩
        · show b[j] ≠ 10
          rw [Hg.out]; decide
        · have e : lo b.data.toList f (j + 1) = j := by
            have h1 : cr b.data.toList f (j + 1) = true := by
              rw [cr_snoc hS.inv.1 (by omega)]
              exact decide_eq_true Hg.out
            unfold lo
            rw [if_pos h1, Nat.add_sub_cancel]
          rw [e]
          exact ⟨_, _, _, _, _, _, _, _, _, _, _, _, _, _, _, _, _, _, _, _, _, _, _, _, _, _, _, _, _, _, _, _, _, _, _, _, _, _, _, _, _, _, _, _, rfl⟩
      · have n13 : b[j].toNat ≠ 13 := fun e => h13 (UInt8.toNat_inj.1 e)
        have q1 : ((b[j].toNat : Int) == 13) = false := by simp; omega
        by_cases h10 : b[j] = 10
        · have q2 : ((b[j].toNat : Int) == 10) = true := by rw [h10]; rfl
          have b1 : (0 : Int) ≤ (f : Int) := by omega
          have b2 : (f : Int) ≤ (lo b.data.toList f j : Int) := by omega
          have b3 : (lo b.data.toList f j : Int) ≤ (b.size : Int) := by omega
          have b4 : (lo b.data.toList f j : Int) ≤ (j : Int) + 1 := by omega
          have b5 : (j : Int) + 1 ≤ (b.size : Int) := by omega
          have b6 : (0 : Int) ≤ (lo b.data.toList f j : Int) := by omega
          have Hg := Lib.hid h10
          have HS := Lib.hid hS
          have Hcr := Lib.hid hcr
          have hN46 : N + 1 ≤ 1099511627776 := by have := hS.len; have := hS.inv.le2; have := HLb.out; omega
          clear h10 h13 hget hS hcr
          go_wp2_with fail
          go_region_held3 (fun _ => True) (trivial) ((refine step_append_row rfl (.tmp 24) (.tmp 34) _ _ rfl elem_line rfl rfl ((HS.out.own.alloc _).drew) (src_line_d _ (sl b.data.toList f (lo b.data.toList f j)) (sl b.data.toList (lo b.data.toList f j) (j + 1)) _ (by rw [← ext_sl, ← ext_sl]) _ rfl) hN46 (by have := HS.out.keep.size; simp; omega) ?_; intro A4 c4 w4 ho4 hg4 hat4))
          have HP := Lib.hid (HS.out.line (by omega) Hg.out ho4 hg4)
          go_wp2_with fail
          go_step3
          exact ⟨k - 1, by omega, .inl ⟨rfl, A4, N + 1, c4, j + 1, j + 1, _, HP.out, cr_self _ _, by omega, _, _, _, _, _, _, _, _, _, _, _, _, _, _, _, _, _, _, _, _, _, _, _, _, _, _, _, _, _, _, _, _, _, _, _, _, _, _, _, _, _, _, _, _, _, rfl⟩⟩
        · have n10 : b[j].toNat ≠ 10 := fun e => h10 (UInt8.toNat_inj.1 e)
          have q2 : ((b[j].toNat : Int) == 10) = false := by simp; omega
          have Hg := Lib.hid h10
          have Hf := Lib.hid h13
          clear h10 h13 hget
          go_wp2_with fail
          go_step3
          refine ⟨k - 1, by omega, .inl ⟨rfl, A, N, c, f, j + 1, ls, ⟨hS.inv.other (by omega) Hg.out, hS.own, hS.len, hS.keep⟩, ?_, by omega, _, _, _, _, _, _, _, _, _, _, _, _, _, _, _, _, _, _, _, _, _, _, _, _, _, _, _, _, _, _, _, _, _, _, _, _, _, _, _, _, _, _, _, _, _, rfl⟩⟩
          rw [cr_snoc hS.inv.1 (by omega)]
          exact decide_eq_false Hf.out
    · have hj : j = b.size := by omega
      subst hj
      have q0 : ((b.size : Int) == (b.size : Int)) = true := by simp
      go_wp2_with fail
      go_step3
      exact ⟨0, by omega, .inr (.inl ⟨rfl, A, N, c, f, ls, hS, _, _, _, _, _, _, _, _, _, _, _, _, _, _, _, _, _, _, _, _, _, _, _, _, _, _, _, _, _, _, _, _, _, _, _, _, _, _, _, _, _, _, _, _, _, _, rfl⟩)⟩
  case text =>
    rintro back a' wr k ⟨A, N, c, f, j, ls, hS, hc, hk, u1, u2, u5, u7, u8, u9, u10, u11, u12, u13, u14, u15, u16, u17, u18, u19, u20, u21, u22, u23, u24, u25, u26, u27, u28, u29, u30, u31, u32, u33, u34, u35, u36, u37, u38, u39, u40, u41, u42, u43, u44, u45, u46, u47, u48, rfl⟩
    have e : lo b.data.toList f j = j := by unfold lo; rw [if_neg (by rw [hc]; simp)]
    have HB := Lib.hid back
    have HE := Lib.hid e
    clear back e hc
    go_wp2_with fail
    go_step3
    rename_i K hK
    refine hK _ _ (HB.out _ _ _ ⟨A, N, c, f, j, ls, hS, hk, ?_⟩)
    rw [HE.out]
    exact ⟨_, _, _, _, _, _, _, _, _, _, _, _, _, _, _, _, _, _, _, _, _, _, _, _, _, _, _, _, _, _, _, _, _, _, _, _, _, _, _, _, _, _, _, _, rfl⟩
  case last =>
    rintro a' wr k ⟨A, N, c, f, ls, hS, u1, u2, u5, u7, u8, u9, u10, u11, u12, u13, u14, u15, u16, u17, u18, u19, u20, u21, u22, u23, u24, u25, u26, u27, u28, u29, u30, u31, u32, u33, u34, u35, u36, u37, u38, u39, u40, u41, u42, u43, u44, u45, u46, u47, u48, u6, rfl⟩
    have hl := hS.inv.last hlen.symm
    have hN := hS.len
    rw [hlen] at hl
    by_cases hlt : f < b.size
    · have q0 : (f : Int) < (b.size : Int) := by omega
      rw [if_pos hlt] at hl
      have HL := Lib.hid hl
      have HS := Lib.hid hS
      have HN := Lib.hid hN
      have hN46 : N + 1 ≤ 1099511627776 := by have := hS.inv.le2; have := HLb.out; omega
      clear hl hS hN
      go_wp2_with (at_builtin; refine wpList_append_row rfl (.tmp 41) (.tmp 46) _ _ rfl elem_line rfl rfl (HS.out.own.alloc _) (src_line _ (sl b.data.toList f b.size) [] _ (by rw [← ext_sl]; rfl) _ rfl) hN46 (by have := HS.out.keep.size; simp; omega) ?_; intro A4 c4 w4 ho4 hg4 hat4)
      go_ret
      refine ⟨A4, c4, ?_, ?_, ?_⟩
      · rw [HL.out, List.length_append, ← HN.out]; rfl
      · rw [HL.out, OwnL, lcells_append, List.length_append, ← HN.out]; exact ho4
      · exact (HS.out.keep.alloc HS.out.keep.size _).grown hg4 (by have := HS.out.keep.size; simp; omega) (fun k hk => (HS.out.own.lt k hk).1)
    · have q0 : ¬ (f : Int) < (b.size : Int) := by omega
      rw [if_neg hlt] at hl
      have HL := Lib.hid hl
      have HN := Lib.hid hN
      clear hl hN
      go_wp2_with fail
      go_ret
      refine ⟨A, c, ?_, ?_, hS.keep⟩
      · rw [HL.out, ← HN.out]; rfl
      · rw [HL.out, ← HN.out]; exact hS.own
  case first =>
    intro back
    have HB := Lib.hid back
    clear back
    go_wp2_with fail
    go_step3
    go_wp2_with fail
    go_step3
    rename_i K hK
    exact hK _ _ (HB.out _ _ (b.size + 1) ⟨none, 0, 0, 0, 0, [], ⟨Inv.start _, World.ownsRow_nil _ _ _ _, rfl, Below.refl _ _⟩, rfl, _, _, _, _, _, _, _, _, _, _, _, _, _, _, _, _, _, _, _, _, _, _, _, _, _, _, _, _, _, _, _, _, _, _, _, _, _, _, _, _, _, _, _, _, rfl⟩)
theorem split_any (b : ByteArray) (w : World) (hb : b.size ≤ 274877906944) : Calls Tryz.prog 19 #[.string b] w (Lines w.heap.size w (split b.data.toList)) := by
  refine split_big b w (by omega) ?_
  have h1 := split_le b.data.toList
  have h2 : b.data.toList.length = b.size := Array.length_toList
  omega
end Go.Proofs.YtecnilcfhicfmaaGreatDoor.Li
namespace Go.Proofs.YtecnilcfhicfmaaGreatDoor.Li
open Go.RowKit
set_option maxRecDepth 100000

theorem join_le {ls : List Ln} {j : Nat} {x : Ln} (h : ls[j]? = some x) : (join (ls.take j)).length + x.1.length + x.2.length ≤ (join ls).length := by
  have e : ls = ls.take j ++ (x :: ls.drop (j + 1)) := by
    conv => lhs; rw [← List.take_append_drop j ls]
    obtain ⟨hj, hx⟩ := List.getElem?_eq_some_iff.1 h
    rw [List.drop_eq_getElem_cons hj, hx]
  conv => rhs; rw [e]
  rw [join_append, join, List.length_append, List.length_append, List.length_append]
  omega
theorem join_snoc {ls : List Ln} {j : Nat} {x : Ln} (h : ls[j]? = some x) : join (ls.take (j + 1)) = join (ls.take j) ++ x.1 ++ x.2 := by
  obtain ⟨hj, hx⟩ := List.getElem?_eq_some_iff.1 h
  rw [List.take_succ_eq_append_getElem hj, join_append, hx]
  simp [join]
theorem box2 {w : World} {g : Nat} {u v : Value} {T : TypeId} (h : w.heap[g]? = some (.cells #[u, v] T (0, 0))) : w.cell? ⟨g, 0, none⟩ = some u ∧ w.cell? ⟨g, 1, none⟩ = some v := by
  constructor <;> (rw [cell_of_row _ _ _ _ _ _ h]; rfl)

set_option maxHeartbeats 4000000 in
theorem join_any (ls : List Ln) (A : Option Addr) (n c B : Nat) (w : World) (hB : B ≤ w.heap.size) (h : SeesL w B A n ls) (hn : n ≤ 1099511627776) (hl : (join ls).length ≤ 140737488355328) :
    Calls Tryz.prog 35 #[.slice A n c] w fun e w' => e = .returned (encs (join ls)) ∧ Below w.heap.size w w' := by
  have hlen := h.len
  have HL := Lib.hid hlen
  clear hlen
  go_enter Tryz.func35, Tryz.ntmps35
  go_wp2
  go_loopw [8] (fun i wr => ∃ k : Nat, k ≤ n ∧ i = .int .i64 k ∧ Bld w.heap.size w.heap.size (join (ls.take k)) wr ∧ Below w.heap.size w wr) (fun i _ => n - (intOf i).toNat)
  case atStart => exact ⟨0, Nat.zero_le _, rfl, Lib.fresh_isBuilder 106 5 w, (Below.refl _ _).alloc (Nat.le_refl _) _⟩
  case round =>
    obtain ⟨k, hk, rfl, hb, hw⟩ := hrel
    have hw1 := hw.size
    by_cases hlt : k < n
    · have q0 : (k : Int) < (n : Int) := by omega
      have q1 : (0 : Int) ≤ (k : Int) := by omega
      obtain ⟨x, hx⟩ : ∃ x, ls[k]? = some x := ⟨_, List.getElem?_eq_getElem (by have := HL.out; omega)⟩
      have hle := join_le hx
      obtain ⟨b, o, rfl, hbB, hc1, hc2⟩ := (h.keep (w' := wr) (fun p hp => hw.cell (Nat.lt_of_lt_of_le hp hB))).at_ hx
      have hsz1 : (⟨x.1.toArray⟩ : ByteArray).size = x.1.length := List.size_toArray
      have hsz2 : (⟨x.2.toArray⟩ : ByteArray).size = x.2.length := List.size_toArray
      obtain ⟨s1, hs1⟩ : ∃ s : ByteArray, s = ⟨x.1.toArray⟩ := ⟨_, rfl⟩
      obtain ⟨s2, hs2⟩ : ∃ s : ByteArray, s = ⟨x.2.toArray⟩ := ⟨_, rfl⟩
      have e1 : s1.data.toList = x.1 := by rw [hs1]
      have e2 : s2.data.toList = x.2 := by rw [hs2]
      rw [encs, ← hs1] at hc1
      rw [encs, ← hs2] at hc2
      rw [← hs1] at hsz1
      rw [← hs2] at hsz2
      obtain ⟨W1, hW1⟩ : ∃ W, W = wr.alloc (Obj.cells #[.string s1, .string s2] 66) := ⟨_, rfl⟩
      have hbb : Below wr.heap.size wr W1 := by rw [hW1]; exact (Below.refl _ _).alloc (Nat.le_refl _) _
      have hd1 := hb.keep hbb
      have hg1 : W1.heap[wr.heap.size]? = some (.cells #[.string s1, .string s2] 66 (0, 0)) := by rw [hW1]; exact heap_alloc_new _ _
      have hz1 : W1.heap.size = wr.heap.size + 1 := by rw [hW1]; simp
      have hwl : w.heap.size < wr.heap.size := by
        rcases hb with hb | hb <;> exact hb.lt
      have HX := Lib.hid hx
      have H1 := Lib.hid e1
      have H2 := Lib.hid e2
      have HG := Lib.hid hg1
      have HZ := Lib.hid hz1
      have HS1 := Lib.hid hsz1
      have HS2 := Lib.hid hsz2
      have HE := Lib.hid hle
      have HD := Lib.hid hd1
      have HWW := Lib.hid hW1
      clear hx e1 e2 hg1 hz1 hsz1 hsz2 hle hd1 hs1 hs2 h hb hW1
      go_wp2_with fail
      rw [← HWW.out]
      obtain ⟨p1, p2⟩ := box2 HG.out
      (with_reducible refine (write_any w.heap.size w.heap.size (join (ls.take k)) s1 W1 HD.out (by have := HS1.out; have := HE.out; omega) (by have := HZ.out; omega)).mono ?_)
      rintro e w2 ⟨rfl, hb2, hw2, ho2⟩
      have hg2 : w2.heap[wr.heap.size]? = some (.cells #[.string s1, .string s2] 66 (0, 0)) := (ho2 _ (by have := HZ.out; omega) (by omega) (fun cs fr e => by rw [HG.out] at e; simp at e)).trans HG.out
      obtain ⟨r1, r2⟩ := box2 hg2
      have HO := Lib.hid ho2
      have HB2 := Lib.hid hb2
      clear ho2 hg2 p1 p2 hb2
      go_wp2_with fail
      (with_reducible refine (write_any w.heap.size w.heap.size _ s2 w2 HB2.out (by have := HS1.out; have := HS2.out; have := HE.out; rw [List.length_append, H1.out]; omega) (by have := hw2.size; have := HZ.out; omega)).mono ?_)
      rintro e w3 ⟨rfl, hb3, hw3, ho3⟩
      have HB3 := Lib.hid hb3
      clear hb3 ho3
      go_wp2_with fail
      go_roundw
      case rel =>
        refine ⟨k + 1, by omega, by go_num, ?_, ?_⟩
        · rw [join_snoc HX.out]
          have := HB3.out
          rw [H1.out, H2.out] at this
          exact this
        · exact (hw.trans (hbb.mono hw1)).trans (hw2.trans hw3)
      case measure => simp [intOf]; omega
    · have hkn : (n : Int) ≤ (k : Int) := by omega
      obtain rfl : k = n := by omega
      have e : ls.take k = ls := List.take_of_length_le (by have := HL.out; omega)
      rw [e] at hb
      have HB := Lib.hid (Tryz.Builder_String_any w.heap.size w.heap.size (join ls) wr hb hw1)
      clear e
      go_wp2_with (go_at_call 64; (with_reducible refine HB.out.mono ?_); rintro e w2 ⟨rfl, hb2⟩)
      go_ret
      exact ⟨rfl, hw.trans hb2⟩
end Go.Proofs.YtecnilcfhicfmaaGreatDoor.Li
namespace Go.Proofs.YtecnilcfhicfmaaGreatDoor.Li
open Go.RowKit
set_option maxRecDepth 100000

/-- The first one that is not empty. -/
def or2 (a b : Bs) : Bs := if a = [] then b else a
theorem endOf_or {x : Ln} {r : List Ln} : endOf (x :: r) = or2 x.2 [10] := rfl

set_option maxHeartbeats 1000000 in
theorem or_any (g : Nat) (s t : ByteArray) (w : World) (h0 : w.cell? ⟨g, 0, none⟩ = some (.string s)) (h1 : w.cell? ⟨g, 1, none⟩ = some (.string t)) :
    Calls Tryz.prog 71 #[.slice (some ⟨g, 0, none⟩) 2 2] w fun e w' => e = .returned (encs (or2 s.data.toList t.data.toList)) ∧ w = w' := by
  by_cases hs : s.data.toList = []
  · have e1 : s.toList = [] := by rw [ByteArray.toList_eq]; exact hs
    have e2 : encs (or2 s.data.toList t.data.toList) = .string t := by rw [or2, if_pos hs]; rfl
    have HE := Lib.hid e2
    have hs0 : s = ⟨#[]⟩ := ByteArray.ext (Array.toList_inj.1 hs)
    subst hs0
    clear hs e2
    by_cases ht : t.data.toList = []
    · have ht0 : t = ⟨#[]⟩ := ByteArray.ext (Array.toList_inj.1 ht)
      subst ht0
      clear ht
      go_enter Tryz.func71, Tryz.ntmps71
      go_wp2
      go_loop [8] (fun i => ∃ k : Nat, k ≤ 2 ∧ i = .int .i64 k) (fun i => 2 - (intOf i).toNat)
      case atStart => exact ⟨0, by omega, rfl⟩
      case round =>
        obtain ⟨k, hk, rfl⟩ := hrel
        have hk3 : k = 0 ∨ k = 1 ∨ k = 2 := by omega
        rcases hk3 with rfl | rfl | rfl
        · go_wp2
          go_round
          case rel => exact ⟨1, by omega, rfl⟩
          case measure => simp [intOf]
        · go_wp2
          go_round
          case rel => exact ⟨2, by omega, rfl⟩
          case measure => simp [intOf]
        · go_wp2
          go_ret
          exact ⟨by rw [HE.out]; rfl, rfl⟩
    · have e3 : t.toList ≠ [] := by rw [ByteArray.toList_eq]; exact ht
      have e4 : t.toList.isEmpty = false := by rw [List.isEmpty_eq_false_iff]; exact e3
      have e5 : (t.toList == ([] : List UInt8)) = false := by simpa using e3
      clear ht e3
      go_enter Tryz.func71, Tryz.ntmps71
      go_wp2
      go_loop [8] (fun i => ∃ k : Nat, k ≤ 1 ∧ i = .int .i64 k) (fun i => 2 - (intOf i).toNat)
      case atStart => exact ⟨0, by omega, rfl⟩
      case round =>
        obtain ⟨k, hk, rfl⟩ := hrel
        have hk3 : k = 0 ∨ k = 1 := by omega
        rcases hk3 with rfl | rfl
        · go_wp2
          go_round
          case rel => exact ⟨1, by omega, rfl⟩
          case measure => simp [intOf]
        · go_wp2
          go_ret
          exact ⟨by rw [HE.out]; rfl, rfl⟩
  · have e2 : encs (or2 s.data.toList t.data.toList) = .string s := by rw [or2, if_neg hs]; rfl
    have HE := Lib.hid e2
    have e3 : s.toList ≠ [] := by rw [ByteArray.toList_eq]; exact hs
    have e4 : s.toList.isEmpty = false := by rw [List.isEmpty_eq_false_iff]; exact e3
    have e5 : (s.toList == ([] : List UInt8)) = false := by simpa using e3
    clear hs e2 e3
    go_enter Tryz.func71, Tryz.ntmps71
    go_wp2
    go_loop [8] (fun i => i = .int .i64 ((0 : Nat) : Int)) (fun i => 2 - (intOf i).toNat)
    case atStart => rfl
    case round =>
      subst hrel
      go_wp2
      go_ret
      exact ⟨by rw [HE.out]; rfl, rfl⟩

set_option maxHeartbeats 1000000 in
theorem end_any (ls : List Ln) (A : Option Addr) (n c B : Nat) (w : World) (_ : B ≤ w.heap.size) (h : SeesL w B A n ls) (hc : n ≤ c) (hn : n ≤ 1099511627776) :
    Calls Tryz.prog 65 #[.slice A n c] w fun e w' => e = .returned (encs (endOf ls)) ∧ Below w.heap.size w w' := by
  have hlen := h.len
  cases ls with
  | nil =>
    obtain rfl : n = 0 := hlen
    go_enter Tryz.func65, Tryz.ntmps65
    go_wp2
    go_ret
    exact ⟨rfl, Below.refl _ _⟩
  | cons x r =>
    obtain ⟨m, rfl⟩ : ∃ m, n = m + 1 := ⟨r.length, hlen⟩
    obtain ⟨b, o, rfl, hbB, hc1, hc2⟩ := h.at_ (j := 0) rfl
    obtain ⟨s2, hs2⟩ : ∃ s : ByteArray, s = ⟨x.2.toArray⟩ := ⟨_, rfl⟩
    rw [encs, ← hs2] at hc2
    have e2 : s2.data.toList = x.2 := by rw [hs2]
    have H2 := Lib.hid e2
    rw [Nat.zero_mul, Nat.add_zero] at hc2
    have q0 : ((m : Int) + 1 == 0) = false := by simp; omega
    obtain ⟨W1, hW1⟩ : ∃ W, W = w.alloc (Obj.cells #[.string s2, .string ⟨#[10]⟩] 9) := ⟨_, rfl⟩
    have hg1 : W1.heap[w.heap.size]? = some (.cells #[.string s2, .string ⟨#[10]⟩] 9 (0, 0)) := by rw [hW1]; exact heap_alloc_new _ _
    have hbb : Below w.heap.size w W1 := by rw [hW1]; exact (Below.refl _ _).alloc (Nat.le_refl _) _
    obtain ⟨p1, p2⟩ := box2 hg1
    have HC := Lib.hid (or_any w.heap.size s2 ⟨#[10]⟩ W1 p1 p2)
    have HW := Lib.hid hW1
    clear hs2 e2 hlen h hc1 p1 p2 hg1 hW1
    go_enter Tryz.func65, Tryz.ntmps65
    go_wp2_with fail
    rw [← HW.out]
    (with_reducible refine HC.out.mono ?_)
    rintro e w2 ⟨rfl, rfl⟩
    go_wp2_with fail
    go_ret
    refine ⟨?_, hbb⟩
    rw [endOf_or, ← H2.out]; rfl

set_option maxHeartbeats 1000000 in
theorem below_drewN {b : Nat} {w w' : World} (h : Below b w w') (n : Nat) : Below b w (w'.drewN n) := ⟨h.os, h.tape, h.output, h.size, h.block⟩
theorem neq_line (s t : ByteArray) (w : World) : (binOp .neq 66 (.agg #[.string s, .string t]) (.agg #[.string s, .string t])).run Tryz.prog w = .ok (.bool false) w := by
  have h1 := Tryz.underlying9
  simp [go_sem, run_neq_struct, run_equalIn_struct]


end Go.Proofs.YtecnilcfhicfmaaGreatDoor.Li
