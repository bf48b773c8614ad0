/- lines.Split: what it makes of any text. Conditions: fewer than 2^38 bytes. · lines.Join, lines.End, cmp.Or, the document's own End and Same. Conditions: lengths below 2^40. · cmp.Or of two strings, lines.End, the document's own End; its Same at two rows that are the same. Conditions: lengths below 2^62. · The document's own Split: what it makes of any text. Conditions: fewer than 2^38 bytes. · A number within a bound; the text of pieces; whether the example holds. No conditions but that a row has at most 2^40 numbers. · lines.Trim, the document's own Trim: what they make of any text. Condition: fewer than 2^62 bytes. · lines.Trim: what it makes of any text. Condition: fewer than 2^62 bytes. · csv's words: what may be a value, a name, a column; which trees fit. No conditions. · csv's fields: how wide the first one is; what is written, and what it means. Conditions: texts of fewer than 2^32 bytes; MaxLen's cell. -/
import Derived.Test.YtapgaglkkgbgkaaGreatDoorMwInOne
import Derived.Deep.RegionHeld3
import Derived.Deep.DrawnRows
import Derived.Outline
import Derived.Deep.LoopGhost
import Derived.BigQuiet
import Derived.Deep.QuietTactic
import Derived.IntWalk
import Derived.Test.YtapgaglkkgbgkaaGreatDoorMwEdg
import Derived.Test.YtapgaglkkgbgkaaGreatDoorShelf
import Derived.Test.YtapgaglkkgbgkaaGreatDoorMwWords
import Derived.Lib.Replace
import Derived.Lib.SlicesS
import Derived.Lib.Join
import Derived.WalkMore
import Derived.ScopeJumps
namespace Go.Proofs.YtapgaglkkgbgkaaGreatDoor.Li
open Go.RowKit
set_option maxRecDepth 100000
attribute [local go_sem ↓] Go.wp_at_zero Go.wp_at_succ

structure Sofar (b : ByteArray) (w wr : World) (A : Option Addr) (N c f j : Nat) (ls : List Ln) : Prop where
  inv : Inv b.data.toList f j ls
  own : OwnL wr w.heap.size A N c ls
  len : N = ls.length
  keep : Below w.heap.size w wr
theorem Sofar.line {b : ByteArray} {w wr w4 : World} {A A4 : Option Addr} {N c c4 f j : Nat} {ls : List Ln} {o : Obj} (h : Sofar b w wr A N c f j ls) (hj : j < b.size) (h10 : b[j] = 10)
    (ho : w4.ownsRow w.heap.size 85 2 (.slice A4 (N + 1) c4) (N + 1) (lcells ls ++ [encs (sl b.data.toList f (lo b.data.toList f j)), encs (sl b.data.toList (lo b.data.toList f j) (j + 1))]))
    (hg : (wr.alloc o).drew.grownBy w4 (Value.slice A N c).ownBlock) : Sofar b w w4 A4 (N + 1) c4 (j + 1) (j + 1) (ls ++ [(sl b.data.toList f (lo b.data.toList f j), sl b.data.toList (lo b.data.toList f j) (j + 1))]) where
  inv := h.inv.line (show j < b.data.toList.length from hj) h10
  own := by rw [OwnL, lcells_append]; exact ho
  len := by rw [List.length_append, h.len]; rfl
  keep := (h.keep.alloc h.keep.size _).grown (grown_undrew hg) (by have := h.keep.size; simp; omega) (fun k hk => (h.own.lt k hk).1)
def At2 (b : ByteArray) (w : World) (a : Act) (wr : World) (k : Nat) : Prop :=
  ∃ A N c f j ls, Sofar b w wr A N c f j ls ∧ k + j = b.size + 1 ∧ ∃ u1 u2 u7 u8 u9 u10 u11 u12 u13 u14 u15 u16 u17 u18 u19 u20 u21 u22 u23 u24 u25 u26 u27 u28 u29 u30 u31 u32 u33 u34 u35 u36 u37 u38 u39 u40 u41 u42 u43 u44 u45 u46 u47 u48 : Value, a = { tmps := #[.string b, u1, u2, .slice A N c, .int .i64 (f : Int), .int .i64 (lo b.data.toList f j : Int), .int .i64 (j : Int), u7, u8, u9, u10, u11, u12, u13, u14, u15, u16, u17, u18, u19, u20, u21, u22, u23, u24, u25, u26, u27, u28, u29, u30, u31, u32, u33, u34, u35, u36, u37, u38, u39, u40, u41, u42, u43, u44, u45, u46, u47, u48], defers := [] }
def At0 (b : ByteArray) (w : World) (a : Act) (wr : World) (k : Nat) : Prop :=
  ∃ A N c f j ls, Sofar b w wr A N c f j ls ∧ cr b.data.toList f j = false ∧ k + j = b.size + 1 ∧ ∃ u1 u2 u5 u7 u8 u9 u10 u11 u12 u13 u14 u15 u16 u17 u18 u19 u20 u21 u22 u23 u24 u25 u26 u27 u28 u29 u30 u31 u32 u33 u34 u35 u36 u37 u38 u39 u40 u41 u42 u43 u44 u45 u46 u47 u48 : Value, a = { tmps := #[.string b, u1, u2, .slice A N c, .int .i64 (f : Int), u5, .int .i64 (j : Int), u7, u8, u9, u10, u11, u12, u13, u14, u15, u16, u17, u18, u19, u20, u21, u22, u23, u24, u25, u26, u27, u28, u29, u30, u31, u32, u33, u34, u35, u36, u37, u38, u39, u40, u41, u42, u43, u44, u45, u46, u47, u48], defers := [] }
def At1 (b : ByteArray) (w : World) (a : Act) (wr : World) (_ : Nat) : Prop :=
  ∃ A N c f ls, Sofar b w wr A N c f b.size ls ∧ ∃ u1 u2 u5 u7 u8 u9 u10 u11 u12 u13 u14 u15 u16 u17 u18 u19 u20 u21 u22 u23 u24 u25 u26 u27 u28 u29 u30 u31 u32 u33 u34 u35 u36 u37 u38 u39 u40 u41 u42 u43 u44 u45 u46 u47 u48 u6 : Value, a = { tmps := #[.string b, u1, u2, .slice A N c, .int .i64 (f : Int), u5, u6, u7, u8, u9, u10, u11, u12, u13, u14, u15, u16, u17, u18, u19, u20, u21, u22, u23, u24, u25, u26, u27, u28, u29, u30, u31, u32, u33, u34, u35, u36, u37, u38, u39, u40, u41, u42, u43, u44, u45, u46, u47, u48], defers := [] }
def AtL (b : ByteArray) (w : World) (l : Nat) (a : Act) (wr : World) (k : Nat) : Prop :=
  (l = 0 ∧ At0 b w a wr k) ∨ (l = 1 ∧ At1 b w a wr k) ∨ (l = 2 ∧ At2 b w a wr k)
def Lines (base : Nat) (w : World) (ls : List Ln) (e : Ending) (w' : World) : Prop :=
  ∃ A c, e = .returned (.slice A ls.length c) ∧ OwnL w' base A ls.length c ls ∧ Below base w w'

theorem scope3 {P : Program} {a : Act} {w : World} {Q : Exit → Act → World → Prop} {c r0 r1 x : Code} (J : Nat → Act → World → Nat → Prop) (m : Nat) (J0 J1 J2 : Act → World → Nat → Prop)
    (hJ : ∀ l a w k, J l a w k → (l = 0 ∧ J0 a w k) ∨ (l = 1 ∧ J1 a w k) ∨ (l = 2 ∧ J2 a w k))
    (h0 : findLabel c 0 = some r0) (h1 : findLabel c 1 = some r1) (h2 : findLabel c 2 = some (.seq .skip x))
    (back : ∀ a w k, J2 a w k → x.wp P (ups J k Q) a w)
    (text : (∀ a w k, J2 a w k → x.wp P (ups J k Q) a w) → ∀ a w k, J0 a w k → r0.wp P (ups J k Q) a w)
    (last : ∀ a w k, J1 a w k → r1.wp P (ups J k Q) a w)
    (first : (∀ a w k, J2 a w k → x.wp P (ups J k Q) a w) → c.wp P (ups J m Q) a w) : (Code.scope c).wp P Q a w := by
  refine wp_scope_ups J m (first back) fun l a w k h => ?_
  rcases hJ l a w k h with ⟨rfl, g⟩ | ⟨rfl, g⟩ | ⟨rfl, g⟩
  · exact ⟨_, h0, text back a w k g⟩
  · exact ⟨_, h1, last a w k g⟩
  · exact ⟨_, h2, wp_seq (wp_skip (back a w k g))⟩

set_option maxHeartbeats 2000000 in
theorem split_big (b : ByteArray) (w : World) (hb : b.size ≤ 4611686018427387904) (hL : (split b.data.toList).length ≤ 1099511627775) : Calls Tryz.prog 47 #[.string b] w (Lines w.heap.size w (split b.data.toList)) := by
  have hlen : b.data.toList.length = b.size := Array.length_toList
  have HLb := Lib.hid hL
  clear hL
  go_enter Tryz.func47, Tryz.ntmps47
  go_wp2
  refine scope3 (AtL b w) (b.size + 1) (At0 b w) (At1 b w) (At2 b w) (fun _ _ _ _ h => h) (by rfl) (by rfl) (by rfl) ?back ?text ?last ?first
  case back =>
    rintro a' wr k ⟨A, N, c, f, j, ls, hS, hk, u1, u2, u7, u8, u9, u10, u11, u12, u13, u14, u15, u16, u17, u18, u19, u20, u21, u22, u23, u24, u25, u26, u27, u28, u29, u30, u31, u32, u33, u34, u35, u36, u37, u38, u39, u40, u41, u42, u43, u44, u45, u46, u47, u48, rfl⟩
    have hcr := lo_le b.data.toList f j hS.inv.1
    have hjb : j ≤ b.size := by have := hS.inv.2.1; omega
    by_cases hlt : j < b.size
    · have q0 : ((j : Int) == (b.size : Int)) = false := by simp; omega
      have hget : b.data.toList[j]'(by omega) = b[j] := rfl
      by_cases h13 : b[j] = 13
      · have q1 : ((b[j].toNat : Int) == 13) = true := by rw [h13]; rfl
        have Hg := Lib.hid h13
        clear h13 hget
        go_wp2_with fail
        go_step3
        refine ⟨k - 1, by omega, .inr (.inr ⟨rfl, A, N, c, f, j + 1, ls, ⟨hS.inv.other (by omega) ?_, hS.own, hS.len, hS.keep⟩, by omega, ?_⟩)⟩
        · show b[j] ≠ 10
          rw [Hg.out]; decide
        · have e : lo b.data.toList f (j + 1) = j := by
            have h1 : cr b.data.toList f (j + 1) = true := by
              rw [cr_snoc hS.inv.1 (by omega)]
              exact decide_eq_true Hg.out
            unfold lo
            rw [if_pos h1, Nat.add_sub_cancel]
          rw [e]
          exact ⟨_, _, _, _, _, _, _, _, _, _, _, _, _, _, _, _, _, _, _, _, _, _, _, _, _, _, _, _, _, _, _, _, _, _, _, _, _, _, _, _, _, _, _, _, rfl⟩
      · have n13 : b[j].toNat ≠ 13 := fun e => h13 (UInt8.toNat_inj.1 e)
        have q1 : ((b[j].toNat : Int) == 13) = false := by simp; omega
        by_cases h10 : b[j] = 10
        · have q2 : ((b[j].toNat : Int) == 10) = true := by rw [h10]; rfl
          have b1 : (0 : Int) ≤ (f : Int) := by omega
          have b2 : (f : Int) ≤ (lo b.data.toList f j : Int) := by omega
          have b3 : (lo b.data.toList f j : Int) ≤ (b.size : Int) := by omega
          have b4 : (lo b.data.toList f j : Int) ≤ (j : Int) + 1 := by omega
          have b5 : (j : Int) + 1 ≤ (b.size : Int) := by omega
          have b6 : (0 : Int) ≤ (lo b.data.toList f j : Int) := by omega
          have Hg := Lib.hid h10
          have HS := Lib.hid hS
          have Hcr := Lib.hid hcr
          have hN46 : N + 1 ≤ 1099511627776 := by have := hS.len; have := hS.inv.le2; have := HLb.out; omega
          clear h10 h13 hget hS hcr
          go_wp2_with fail
          go_region_held3 (fun _ => True) (trivial) ((refine step_append_row rfl (.tmp 24) (.tmp 34) _ _ rfl elem_line rfl rfl ((HS.out.own.alloc _).drew) (src_line_d _ (sl b.data.toList f (lo b.data.toList f j)) (sl b.data.toList (lo b.data.toList f j) (j + 1)) _ (by rw [← ext_sl, ← ext_sl]) _ rfl) hN46 (by have := HS.out.keep.size; simp; omega) ?_; intro A4 c4 w4 ho4 hg4 hat4))
          have HP := Lib.hid (HS.out.line (by omega) Hg.out ho4 hg4)
          go_wp2_with fail
          go_step3
          exact ⟨k - 1, by omega, .inl ⟨rfl, A4, N + 1, c4, j + 1, j + 1, _, HP.out, cr_self _ _, by omega, _, _, _, _, _, _, _, _, _, _, _, _, _, _, _, _, _, _, _, _, _, _, _, _, _, _, _, _, _, _, _, _, _, _, _, _, _, _, _, _, _, _, _, _, _, rfl⟩⟩
        · have n10 : b[j].toNat ≠ 10 := fun e => h10 (UInt8.toNat_inj.1 e)
          have q2 : ((b[j].toNat : Int) == 10) = false := by simp; omega
          have Hg := Lib.hid h10
          have Hf := Lib.hid h13
          clear h10 h13 hget
          go_wp2_with fail
          go_step3
          refine ⟨k - 1, by omega, .inl ⟨rfl, A, N, c, f, j + 1, ls, ⟨hS.inv.other (by omega) Hg.out, hS.own, hS.len, hS.keep⟩, ?_, by omega, _, _, _, _, _, _, _, _, _, _, _, _, _, _, _, _, _, _, _, _, _, _, _, _, _, _, _, _, _, _, _, _, _, _, _, _, _, _, _, _, _, _, _, _, _, rfl⟩⟩
          rw [cr_snoc hS.inv.1 (by omega)]
          exact decide_eq_false Hf.out
    · have hj : j = b.size := by omega
      subst hj
      have q0 : ((b.size : Int) == (b.size : Int)) = true := by simp
      go_wp2_with fail
      go_step3
      exact ⟨0, by omega, .inr (.inl ⟨rfl, A, N, c, f, ls, hS, _, _, _, _, _, _, _, _, _, _, _, _, _, _, _, _, _, _, _, _, _, _, _, _, _, _, _, _, _, _, _, _, _, _, _, _, _, _, _, _, _, _, _, _, _, _, rfl⟩)⟩
  case text =>
    rintro back a' wr k ⟨A, N, c, f, j, ls, hS, hc, hk, u1, u2, u5, u7, u8, u9, u10, u11, u12, u13, u14, u15, u16, u17, u18, u19, u20, u21, u22, u23, u24, u25, u26, u27, u28, u29, u30, u31, u32, u33, u34, u35, u36, u37, u38, u39, u40, u41, u42, u43, u44, u45, u46, u47, u48, rfl⟩
    have e : lo b.data.toList f j = j := by unfold lo; rw [if_neg (by rw [hc]; simp)]
    have HB := Lib.hid back
    have HE := Lib.hid e
    clear back e hc
    go_wp2_with fail
    go_step3
    rename_i K hK
    refine hK _ _ (HB.out _ _ _ ⟨A, N, c, f, j, ls, hS, hk, ?_⟩)
    rw [HE.out]
    exact ⟨_, _, _, _, _, _, _, _, _, _, _, _, _, _, _, _, _, _, _, _, _, _, _, _, _, _, _, _, _, _, _, _, _, _, _, _, _, _, _, _, _, _, _, _, rfl⟩
  case last =>
    rintro a' wr k ⟨A, N, c, f, ls, hS, u1, u2, u5, u7, u8, u9, u10, u11, u12, u13, u14, u15, u16, u17, u18, u19, u20, u21, u22, u23, u24, u25, u26, u27, u28, u29, u30, u31, u32, u33, u34, u35, u36, u37, u38, u39, u40, u41, u42, u43, u44, u45, u46, u47, u48, u6, rfl⟩
    have hl := hS.inv.last hlen.symm
    have hN := hS.len
    rw [hlen] at hl
    by_cases hlt : f < b.size
    · have q0 : (f : Int) < (b.size : Int) := by omega
      rw [if_pos hlt] at hl
      have HL := Lib.hid hl
      have HS := Lib.hid hS
      have HN := Lib.hid hN
      have hN46 : N + 1 ≤ 1099511627776 := by have := hS.inv.le2; have := HLb.out; omega
      clear hl hS hN
      go_wp2_with (at_builtin; refine wpList_append_row rfl (.tmp 41) (.tmp 46) _ _ rfl elem_line rfl rfl (HS.out.own.alloc _) (src_line _ (sl b.data.toList f b.size) [] _ (by rw [← ext_sl]; rfl) _ rfl) hN46 (by have := HS.out.keep.size; simp; omega) ?_; intro A4 c4 w4 ho4 hg4 hat4)
      go_ret
      refine ⟨A4, c4, ?_, ?_, ?_⟩
      · rw [HL.out, List.length_append, ← HN.out]; rfl
      · rw [HL.out, OwnL, lcells_append, List.length_append, ← HN.out]; exact ho4
      · exact (HS.out.keep.alloc HS.out.keep.size _).grown hg4 (by have := HS.out.keep.size; simp; omega) (fun k hk => (HS.out.own.lt k hk).1)
    · have q0 : ¬ (f : Int) < (b.size : Int) := by omega
      rw [if_neg hlt] at hl
      have HL := Lib.hid hl
      have HN := Lib.hid hN
      clear hl hN
      go_wp2_with fail
      go_ret
      refine ⟨A, c, ?_, ?_, hS.keep⟩
      · rw [HL.out, ← HN.out]; rfl
      · rw [HL.out, ← HN.out]; exact hS.own
  case first =>
    intro back
    have HB := Lib.hid back
    clear back
    go_wp2_with fail
    go_step3
    go_wp2_with fail
    go_step3
    rename_i K hK
    exact hK _ _ (HB.out _ _ (b.size + 1) ⟨none, 0, 0, 0, 0, [], ⟨Inv.start _, World.ownsRow_nil _ _ _ _, rfl, Below.refl _ _⟩, rfl, _, _, _, _, _, _, _, _, _, _, _, _, _, _, _, _, _, _, _, _, _, _, _, _, _, _, _, _, _, _, _, _, _, _, _, _, _, _, _, _, _, _, _, _, rfl⟩)
theorem split_any (b : ByteArray) (w : World) (hb : b.size ≤ 274877906944) : Calls Tryz.prog 47 #[.string b] w (Lines w.heap.size w (split b.data.toList)) := by
  refine split_big b w (by omega) ?_
  have h1 := split_le b.data.toList
  have h2 : b.data.toList.length = b.size := Array.length_toList
  omega
end Go.Proofs.YtapgaglkkgbgkaaGreatDoor.Li
namespace Go.Proofs.YtapgaglkkgbgkaaGreatDoor.Li
open Go.RowKit
set_option maxRecDepth 100000

theorem join_le {ls : List Ln} {j : Nat} {x : Ln} (h : ls[j]? = some x) : (join (ls.take j)).length + x.1.length + x.2.length ≤ (join ls).length := by
  have e : ls = ls.take j ++ (x :: ls.drop (j + 1)) := by
    conv => lhs; rw [← List.take_append_drop j ls]
    obtain ⟨hj, hx⟩ := List.getElem?_eq_some_iff.1 h
    rw [List.drop_eq_getElem_cons hj, hx]
  conv => rhs; rw [e]
  rw [join_append, join, List.length_append, List.length_append, List.length_append]
  omega
theorem join_snoc {ls : List Ln} {j : Nat} {x : Ln} (h : ls[j]? = some x) : join (ls.take (j + 1)) = join (ls.take j) ++ x.1 ++ x.2 := by
  obtain ⟨hj, hx⟩ := List.getElem?_eq_some_iff.1 h
  rw [List.take_succ_eq_append_getElem hj, join_append, hx]
  simp [join]
theorem box2 {w : World} {g : Nat} {u v : Value} {T : TypeId} (h : w.heap[g]? = some (.cells #[u, v] T (0, 0))) : w.cell? ⟨g, 0, none⟩ = some u ∧ w.cell? ⟨g, 1, none⟩ = some v := by
  constructor <;> (rw [cell_of_row _ _ _ _ _ _ h]; rfl)

set_option maxHeartbeats 4000000 in
theorem join_any (ls : List Ln) (A : Option Addr) (n c B : Nat) (w : World) (hB : B ≤ w.heap.size) (h : SeesL w B A n ls) (hn : n ≤ 1099511627776) (hl : (join ls).length ≤ 140737488355328) :
    Calls Tryz.prog 67 #[.slice A n c] w fun e w' => e = .returned (encs (join ls)) ∧ Below w.heap.size w w' := by
  have hlen := h.len
  have HL := Lib.hid hlen
  clear hlen
  go_enter Tryz.func67, Tryz.ntmps67
  go_wp2
  go_loopw [8] (fun i wr => ∃ k : Nat, k ≤ n ∧ i = .int .i64 k ∧ Bld w.heap.size w.heap.size (join (ls.take k)) wr ∧ Below w.heap.size w wr) (fun i _ => n - (intOf i).toNat)
  case atStart => exact ⟨0, Nat.zero_le _, rfl, Lib.fresh_isBuilder 139 5 w, (Below.refl _ _).alloc (Nat.le_refl _) _⟩
  case round =>
    obtain ⟨k, hk, rfl, hb, hw⟩ := hrel
    have hw1 := hw.size
    by_cases hlt : k < n
    · have q0 : (k : Int) < (n : Int) := by omega
      have q1 : (0 : Int) ≤ (k : Int) := by omega
      obtain ⟨x, hx⟩ : ∃ x, ls[k]? = some x := ⟨_, List.getElem?_eq_getElem (by have := HL.out; omega)⟩
      have hle := join_le hx
      obtain ⟨b, o, rfl, hbB, hc1, hc2⟩ := (h.keep (w' := wr) (fun p hp => hw.cell (Nat.lt_of_lt_of_le hp hB))).at_ hx
      have hsz1 : (⟨x.1.toArray⟩ : ByteArray).size = x.1.length := List.size_toArray
      have hsz2 : (⟨x.2.toArray⟩ : ByteArray).size = x.2.length := List.size_toArray
      obtain ⟨s1, hs1⟩ : ∃ s : ByteArray, s = ⟨x.1.toArray⟩ := ⟨_, rfl⟩
      obtain ⟨s2, hs2⟩ : ∃ s : ByteArray, s = ⟨x.2.toArray⟩ := ⟨_, rfl⟩
      have e1 : s1.data.toList = x.1 := by rw [hs1]
      have e2 : s2.data.toList = x.2 := by rw [hs2]
      rw [encs, ← hs1] at hc1
      rw [encs, ← hs2] at hc2
      rw [← hs1] at hsz1
      rw [← hs2] at hsz2
      obtain ⟨W1, hW1⟩ : ∃ W, W = wr.alloc (Obj.cells #[.string s1, .string s2] 85) := ⟨_, rfl⟩
      have hbb : Below wr.heap.size wr W1 := by rw [hW1]; exact (Below.refl _ _).alloc (Nat.le_refl _) _
      have hd1 := hb.keep hbb
      have hg1 : W1.heap[wr.heap.size]? = some (.cells #[.string s1, .string s2] 85 (0, 0)) := by rw [hW1]; exact heap_alloc_new _ _
      have hz1 : W1.heap.size = wr.heap.size + 1 := by rw [hW1]; simp
      have hwl : w.heap.size < wr.heap.size := by
        rcases hb with hb | hb <;> exact hb.lt
      have HX := Lib.hid hx
      have H1 := Lib.hid e1
      have H2 := Lib.hid e2
      have HG := Lib.hid hg1
      have HZ := Lib.hid hz1
      have HS1 := Lib.hid hsz1
      have HS2 := Lib.hid hsz2
      have HE := Lib.hid hle
      have HD := Lib.hid hd1
      have HWW := Lib.hid hW1
      clear hx e1 e2 hg1 hz1 hsz1 hsz2 hle hd1 hs1 hs2 h hb hW1
      go_wp2_with fail
      rw [← HWW.out]
      obtain ⟨p1, p2⟩ := box2 HG.out
      (with_reducible refine (write_any w.heap.size w.heap.size (join (ls.take k)) s1 W1 HD.out (by have := HS1.out; have := HE.out; omega) (by have := HZ.out; omega)).mono ?_)
      rintro e w2 ⟨rfl, hb2, hw2, ho2⟩
      have hg2 : w2.heap[wr.heap.size]? = some (.cells #[.string s1, .string s2] 85 (0, 0)) := (ho2 _ (by have := HZ.out; omega) (by omega) (fun cs fr e => by rw [HG.out] at e; simp at e)).trans HG.out
      obtain ⟨r1, r2⟩ := box2 hg2
      have HO := Lib.hid ho2
      have HB2 := Lib.hid hb2
      clear ho2 hg2 p1 p2 hb2
      go_wp2_with fail
      (with_reducible refine (write_any w.heap.size w.heap.size _ s2 w2 HB2.out (by have := HS1.out; have := HS2.out; have := HE.out; rw [List.length_append, H1.out]; omega) (by have := hw2.size; have := HZ.out; omega)).mono ?_)
      rintro e w3 ⟨rfl, hb3, hw3, ho3⟩
      have HB3 := Lib.hid hb3
      clear hb3 ho3
      go_wp2_with fail
      go_roundw
      case rel =>
        refine ⟨k + 1, by omega, by go_num, ?_, ?_⟩
        · rw [join_snoc HX.out]
          have := HB3.out
          rw [H1.out, H2.out] at this
          exact this
        · exact (hw.trans (hbb.mono hw1)).trans (hw2.trans hw3)
      case measure => simp [intOf]; omega
    · have hkn : (n : Int) ≤ (k : Int) := by omega
      obtain rfl : k = n := by omega
      have e : ls.take k = ls := List.take_of_length_le (by have := HL.out; omega)
      rw [e] at hb
      have HB := Lib.hid (Tryz.Builder_String_any w.heap.size w.heap.size (join ls) wr hb hw1)
      clear e
      go_wp2_with (go_at_call 86; (with_reducible refine HB.out.mono ?_); rintro e w2 ⟨rfl, hb2⟩)
      go_ret
      exact ⟨rfl, hw.trans hb2⟩
end Go.Proofs.YtapgaglkkgbgkaaGreatDoor.Li
namespace Go.Proofs.YtapgaglkkgbgkaaGreatDoor.Li
open Go.RowKit
set_option maxRecDepth 100000

def or2 (a b : Bs) : Bs := if a = [] then b else a
theorem endOf_or {x : Ln} {r : List Ln} : endOf (x :: r) = or2 x.2 [10] := rfl

set_option maxHeartbeats 1000000 in
theorem or_any (g : Nat) (s t : ByteArray) (w : World) (h0 : w.cell? ⟨g, 0, none⟩ = some (.string s)) (h1 : w.cell? ⟨g, 1, none⟩ = some (.string t)) :
    Calls Tryz.prog 66 #[.slice (some ⟨g, 0, none⟩) 2 2] w fun e w' => e = .returned (encs (or2 s.data.toList t.data.toList)) ∧ w = w' := by
  by_cases hs : s.data.toList = []
  · have e1 : s.toList = [] := by rw [ByteArray.toList_eq]; exact hs
    have e2 : encs (or2 s.data.toList t.data.toList) = .string t := by rw [or2, if_pos hs]; rfl
    have HE := Lib.hid e2
    have hs0 : s = ⟨#[]⟩ := ByteArray.ext (Array.toList_inj.1 hs)
    subst hs0
    clear hs e2
    by_cases ht : t.data.toList = []
    · have ht0 : t = ⟨#[]⟩ := ByteArray.ext (Array.toList_inj.1 ht)
      subst ht0
      clear ht
      go_enter Tryz.func66, Tryz.ntmps66
      go_wp2
      go_loop [8] (fun i => ∃ k : Nat, k ≤ 2 ∧ i = .int .i64 k) (fun i => 2 - (intOf i).toNat)
      case atStart => exact ⟨0, by omega, rfl⟩
      case round =>
        obtain ⟨k, hk, rfl⟩ := hrel
        have hk3 : k = 0 ∨ k = 1 ∨ k = 2 := by omega
        rcases hk3 with rfl | rfl | rfl
        · go_wp2
          go_round
          case rel => exact ⟨1, by omega, rfl⟩
          case measure => simp [intOf]
        · go_wp2
          go_round
          case rel => exact ⟨2, by omega, rfl⟩
          case measure => simp [intOf]
        · go_wp2
          go_ret
          exact ⟨by rw [HE.out]; rfl, rfl⟩
    · have e3 : t.toList ≠ [] := by rw [ByteArray.toList_eq]; exact ht
      have e4 : t.toList.isEmpty = false := by rw [List.isEmpty_eq_false_iff]; exact e3
      have e5 : (t.toList == ([] : List UInt8)) = false := by simpa using e3
      clear ht e3
      go_enter Tryz.func66, Tryz.ntmps66
      go_wp2
      go_loop [8] (fun i => ∃ k : Nat, k ≤ 1 ∧ i = .int .i64 k) (fun i => 2 - (intOf i).toNat)
      case atStart => exact ⟨0, by omega, rfl⟩
      case round =>
        obtain ⟨k, hk, rfl⟩ := hrel
        have hk3 : k = 0 ∨ k = 1 := by omega
        rcases hk3 with rfl | rfl
        · go_wp2
          go_round
          case rel => exact ⟨1, by omega, rfl⟩
          case measure => simp [intOf]
        · go_wp2
          go_ret
          exact ⟨by rw [HE.out]; rfl, rfl⟩
  · have e2 : encs (or2 s.data.toList t.data.toList) = .string s := by rw [or2, if_neg hs]; rfl
    have HE := Lib.hid e2
    have e3 : s.toList ≠ [] := by rw [ByteArray.toList_eq]; exact hs
    have e4 : s.toList.isEmpty = false := by rw [List.isEmpty_eq_false_iff]; exact e3
    have e5 : (s.toList == ([] : List UInt8)) = false := by simpa using e3
    clear hs e2 e3
    go_enter Tryz.func66, Tryz.ntmps66
    go_wp2
    go_loop [8] (fun i => i = .int .i64 ((0 : Nat) : Int)) (fun i => 2 - (intOf i).toNat)
    case atStart => rfl
    case round =>
      subst hrel
      go_wp2
      go_ret
      exact ⟨by rw [HE.out]; rfl, rfl⟩

set_option maxHeartbeats 1000000 in
theorem end_any (ls : List Ln) (A : Option Addr) (n c B : Nat) (w : World) (_ : B ≤ w.heap.size) (h : SeesL w B A n ls) (hc : n ≤ c) (hn : n ≤ 1099511627776) :
    Calls Tryz.prog 50 #[.slice A n c] w fun e w' => e = .returned (encs (endOf ls)) ∧ Below w.heap.size w w' := by
  have hlen := h.len
  cases ls with
  | nil =>
    obtain rfl : n = 0 := hlen
    go_enter Tryz.func50, Tryz.ntmps50
    go_wp2
    go_ret
    exact ⟨rfl, Below.refl _ _⟩
  | cons x r =>
    obtain ⟨m, rfl⟩ : ∃ m, n = m + 1 := ⟨r.length, hlen⟩
    obtain ⟨b, o, rfl, hbB, hc1, hc2⟩ := h.at_ (j := 0) rfl
    obtain ⟨s2, hs2⟩ : ∃ s : ByteArray, s = ⟨x.2.toArray⟩ := ⟨_, rfl⟩
    rw [encs, ← hs2] at hc2
    have e2 : s2.data.toList = x.2 := by rw [hs2]
    have H2 := Lib.hid e2
    rw [Nat.zero_mul, Nat.add_zero] at hc2
    have q0 : ((m : Int) + 1 == 0) = false := by simp; omega
    obtain ⟨W1, hW1⟩ : ∃ W, W = w.alloc (Obj.cells #[.string s2, .string ⟨#[10]⟩] 9) := ⟨_, rfl⟩
    have hg1 : W1.heap[w.heap.size]? = some (.cells #[.string s2, .string ⟨#[10]⟩] 9 (0, 0)) := by rw [hW1]; exact heap_alloc_new _ _
    have hbb : Below w.heap.size w W1 := by rw [hW1]; exact (Below.refl _ _).alloc (Nat.le_refl _) _
    obtain ⟨p1, p2⟩ := box2 hg1
    have HC := Lib.hid (or_any w.heap.size s2 ⟨#[10]⟩ W1 p1 p2)
    have HW := Lib.hid hW1
    clear hs2 e2 hlen h hc1 p1 p2 hg1 hW1
    go_enter Tryz.func50, Tryz.ntmps50
    go_wp2_with fail
    rw [← HW.out]
    (with_reducible refine HC.out.mono ?_)
    rintro e w2 ⟨rfl, rfl⟩
    go_wp2_with fail
    go_ret
    refine ⟨?_, hbb⟩
    rw [endOf_or, ← H2.out]; rfl

set_option maxHeartbeats 1000000 in
theorem rend_any (ls : List Ln) (A : Option Addr) (n c B : Nat) (w : World) (_ : B ≤ w.heap.size) (h : SeesL w B A n ls) (hc : n ≤ c) (hn : n ≤ 1099511627776) :
    Calls Tryz.prog 41 #[.slice A n c] w fun e w' => e = .returned (encs (endOf ls)) ∧ w = w' := by
  have hlen := h.len
  cases ls with
  | nil =>
    obtain rfl : n = 0 := hlen
    go_enter Tryz.func41, Tryz.ntmps41
    go_wp2
    go_ret
    exact ⟨rfl, rfl⟩
  | cons x r =>
    obtain ⟨m, rfl⟩ : ∃ m, n = m + 1 := ⟨r.length, hlen⟩
    obtain ⟨b, o, rfl, hbB, hc1, hc2⟩ := h.at_ (j := 0) rfl
    obtain ⟨s2, hs2⟩ : ∃ s : ByteArray, s = ⟨x.2.toArray⟩ := ⟨_, rfl⟩
    have hv : encs (endOf (x :: r)) = if x.2 = [] then .string ⟨#[10]⟩ else .string s2 := by
      rw [endOf_or, or2]
      by_cases h0 : x.2 = []
      · rw [if_pos h0, if_pos h0]; rfl
      · rw [if_neg h0, if_neg h0, hs2]; rfl
    rw [encs, ← hs2] at hc2
    have e2 : s2.data.toList = x.2 := by rw [hs2]
    rw [Nat.zero_mul, Nat.add_zero] at hc2
    have q0 : ((m : Int) + 1 == 0) = false := by simp; omega
    by_cases h0 : x.2 = []
    · rw [if_pos h0] at hv
      have hs0 : s2 = ⟨#[]⟩ := ByteArray.ext (Array.toList_inj.1 (e2.trans h0))
      subst hs0
      have HV := Lib.hid hv
      clear hv hs2 e2 h0 hlen h hc1
      go_enter Tryz.func41, Tryz.ntmps41
      go_wp2_with fail
      go_ret
      exact ⟨by rw [HV.out]; rfl, rfl⟩
    · rw [if_neg h0] at hv
      have HV := Lib.hid hv
      have e3 : s2.toList ≠ [] := by rw [ByteArray.toList_eq, e2]; exact h0
      have e4 : s2.toList.isEmpty = false := by rw [List.isEmpty_eq_false_iff]; exact e3
      have e5 : (s2.toList == ([] : List UInt8)) = false := by simpa using e3
      clear hv hs2 e2 h0 hlen h hc1 e3
      go_enter Tryz.func41, Tryz.ntmps41
      go_wp2_with fail
      go_ret
      exact ⟨by rw [HV.out]; rfl, rfl⟩

theorem below_drewN {b : Nat} {w w' : World} (h : Below b w w') (n : Nat) : Below b w (w'.drewN n) := ⟨h.os, h.tape, h.output, h.size, h.block⟩
end Go.Proofs.YtapgaglkkgbgkaaGreatDoor.Li
namespace Go.Proofs.YtapgaglkkgbgkaaGreatDoor.Li
open Go.RowKit
set_option maxRecDepth 100000
attribute [local go_sem ↓] Go.wp_at_zero Go.wp_at_succ

theorem lo_same {s : Bs} {f j : Nat} (h : ¬ f < j) : lo s f j = j := by
  unfold lo
  rw [if_neg]
  intro e
  exact h (cr_pos e)
theorem lo_13 {b : ByteArray} {f i : Nat} (h : f ≤ i) (hi : i < b.size) (h13 : b[i] = 13) : lo b.data.toList f (i + 1) = i := by
  have hl : i < b.data.toList.length := hi
  unfold lo
  rw [if_pos, Nat.add_sub_cancel]
  rw [cr_snoc h hl]
  exact decide_eq_true h13
theorem lo_no {b : ByteArray} {f i : Nat} (h : f ≤ i) (hi : i < b.size) (h13 : b[i] ≠ 13) : lo b.data.toList f (i + 1) = i + 1 := by
  have hl : i < b.data.toList.length := hi
  unfold lo
  rw [if_neg]
  rw [cr_snoc h hl]
  exact fun e => h13 (of_decide_eq_true e)
theorem Sofar.skip {b : ByteArray} {w wr : World} {A : Option Addr} {N c f j : Nat} {ls : List Ln} (h : Sofar b w wr A N c f j ls) (hj : j < b.size) (h10 : b[j] ≠ 10) : Sofar b w wr A N c f (j + 1) ls :=
  ⟨h.inv.other (show j < b.data.toList.length from hj) h10, h.own, h.len, h.keep⟩
theorem Sofar.line2 {b : ByteArray} {w wr w4 : World} {A A4 : Option Addr} {N c c4 f j k : Nat} {ls : List Ln} {o : Obj} (h : Sofar b w wr A N c f j ls) (hj : j < b.size) (h10 : b[j] = 10) (hk : lo b.data.toList f j = k)
    (ho : w4.ownsRow w.heap.size 85 2 (.slice A4 (N + 1) c4) (N + 1) (lcells ls ++ [encs (sl b.data.toList f k), encs (sl b.data.toList k (j + 1))]))
    (hg : (wr.alloc o).drew.grownBy w4 (Value.slice A N c).ownBlock) : Sofar b w w4 A4 (N + 1) c4 (j + 1) (j + 1) (ls ++ [(sl b.data.toList f k, sl b.data.toList k (j + 1))]) := by
  subst hk
  exact h.line hj h10 ho hg

set_option maxHeartbeats 2000000 in
theorem rsplit_any (b : ByteArray) (w : World) (hb : b.size ≤ 274877906944) : Calls Tryz.prog 27 #[.string b] w (Lines w.heap.size w (split b.data.toList)) := by
  have hlen : b.data.toList.length = b.size := Array.length_toList
  go_enter Tryz.func27, Tryz.ntmps27
  go_wp2
  go_loopw [3, 4, 5] (fun v f i wr => ∃ (A : Option Addr) (N c f' j : Nat) (ls : List Ln), Sofar b w wr A N c f' j ls ∧ v = .slice A N c ∧ f = .int .i64 f' ∧ i = .int .i64 j) (fun _ _ i _ => b.size - (intOf i).toNat)
  case atStart => exact ⟨none, 0, 0, 0, 0, [], ⟨Inv.start _, World.ownsRow_nil _ _ _ _, rfl, Below.refl _ _⟩, rfl, rfl, rfl⟩
  case round =>
    obtain ⟨A, N, c, f, j, ls, hS, rfl, rfl, rfl⟩ := hrel
    have hjb : j ≤ b.size := by have := hS.inv.2.1; omega
    have hfj := hS.inv.1
    by_cases hlt : j < b.size
    · have b5 : (j : Int) + 1 ≤ (b.size : Int) := by omega
      by_cases h10 : b[j] = 10
      · have q2 : ((b[j].toNat : Int) != 10) = false := by rw [h10]; rfl
        have Hg := Lib.hid h10
        have HS := Lib.hid hS
        have hN46 : N + 1 ≤ 1099511627776 := by have := hS.len; have := hS.inv.le; omega
        clear h10 hS
        have b1 : (0 : Int) ≤ (f : Int) := by omega
        by_cases hf : f < j
        · obtain ⟨i, rfl⟩ : ∃ i, j = i + 1 := ⟨j - 1, by omega⟩
          have q3 : (f : Int) < (i : Int) + 1 := by omega
          have q3' : (f : Int) < ((i + 1 : Nat) : Int) := by omega
          have b6 : (0 : Int) ≤ (i : Int) := by omega
          have hib : i < b.size := by omega
          have b3 : (i : Int) ≤ (b.size : Int) := by omega
          have b7 : (f : Int) ≤ (i : Int) := by omega
          by_cases h13 : b[i] = 13
          · have q4 : ((b[i].toNat : Int) == 13) = true := by rw [h13]; rfl
            have HL := Lib.hid (lo_13 (by omega : f ≤ i) hib h13)
            clear h13
            have x1 : (f : Int) ≤ (i : Int) + 1 := by omega
            have x2 : (i : Int) + 1 ≤ (b.size : Int) := by omega
            have x3 : (i : Int) ≤ (i : Int) + 1 + 1 := by omega
            have x4 : (i : Int) + 1 ≤ (i : Int) + 1 + 1 := by omega
            have x5 : (i : Int) + 1 + 1 ≤ (b.size : Int) := by omega
            have x6 : (0 : Int) ≤ (i : Int) + 1 := by omega
            have x7 : (0 : Int) ≤ (i : Int) + 1 + 1 := by omega
            have x8 : ((i : Int) + 1).toNat = i + 1 := by omega
            have x9 : ((i : Int) + 1 + 1).toNat = i + 1 + 1 := by omega
            have hsz : w.heap.size ≤ (wr.heap.size) + 1 := by have := HS.out.keep.size; omega
            have y1 : IntKind.i64.wrap ((i : Int) + 1 + 1) = (i : Int) + 1 + 1 := IntWalk.i64_in _ (by omega)
            go_wp2_with fail
            go_region_held3 (fun _ => True) (trivial) ((refine step_append_row rfl (.tmp 30) (.tmp 41) _ _ rfl elem_line rfl rfl ((HS.out.own.alloc _).drew) (src_line_d _ (sl b.data.toList f (i)) (sl b.data.toList (i) ((i + 1) + 1)) _ (by rw [← ext_sl, ← ext_sl]) _ rfl) hN46 (by have := HS.out.keep.size; simp; omega) ?_; intro A4 c4 w4 ho4 hg4 hat4))
            clear y1
            have HP := Lib.hid (HS.out.line2 (by omega) Hg.out HL.out ho4 hg4)
            clear ho4 hg4 hat4
            go_wp2_with fail
            go_roundw
            case rel => exact ⟨A4, N + 1, c4, (i + 1) + 1, (i + 1) + 1, _, HP.out, rfl, by go_num, by go_num⟩
            case measure => simp [intOf]; omega
          · have n13 : b[i].toNat ≠ 13 := fun e => h13 (UInt8.toNat_inj.1 e)
            have q4 : ((b[i].toNat : Int) == 13) = false := by simp; omega
            have HL := Lib.hid (lo_no (by omega : f ≤ i) hib h13)
            clear h13
            have x1 : (f : Int) ≤ (i : Int) + 1 := by omega
            have x2 : (i : Int) + 1 ≤ (b.size : Int) := by omega
            have x3 : (i : Int) ≤ (i : Int) + 1 + 1 := by omega
            have x4 : (i : Int) + 1 ≤ (i : Int) + 1 + 1 := by omega
            have x5 : (i : Int) + 1 + 1 ≤ (b.size : Int) := by omega
            have x6 : (0 : Int) ≤ (i : Int) + 1 := by omega
            have x7 : (0 : Int) ≤ (i : Int) + 1 + 1 := by omega
            have x8 : ((i : Int) + 1).toNat = i + 1 := by omega
            have x9 : ((i : Int) + 1 + 1).toNat = i + 1 + 1 := by omega
            have hsz : w.heap.size ≤ (wr.heap.size) + 1 := by have := HS.out.keep.size; omega
            have y1 : IntKind.i64.wrap ((i : Int) + 1 + 1) = (i : Int) + 1 + 1 := IntWalk.i64_in _ (by omega)
            go_wp2_with fail
            go_region_held3 (fun _ => True) (trivial) ((refine step_append_row rfl (.tmp 30) (.tmp 41) _ _ rfl elem_line rfl rfl ((HS.out.own.alloc _).drew) (src_line_d _ (sl b.data.toList f (i + 1)) (sl b.data.toList (i + 1) (i + 1 + 1)) _ (by rw [← ext_sl, ← ext_sl]) _ rfl) hN46 (by have := HS.out.keep.size; simp; omega) ?_; intro A4 c4 w4 ho4 hg4 hat4))
            clear y1
            have HP := Lib.hid (HS.out.line2 (by omega) Hg.out HL.out ho4 hg4)
            clear ho4 hg4 hat4
            go_wp2_with fail
            go_roundw
            case rel => exact ⟨A4, N + 1, c4, i + 1 + 1, i + 1 + 1, _, HP.out, rfl, by go_num, by go_num⟩
            case measure => simp [intOf]; omega
        · have q3 : (j : Int) ≤ (f : Int) := by omega
          have HL := Lib.hid (lo_same (s := b.data.toList) hf)
          have x3 : (j : Int) ≤ (j : Int) + 1 := by omega
          have x4 : (f : Int) ≤ (j : Int) := by omega
          have x5 : (j : Int) ≤ (b.size : Int) := by omega
          have x6 : (0 : Int) ≤ (j : Int) := by omega
          have x7 : (0 : Int) ≤ (j : Int) + 1 := by omega
          have x8 : ((j : Int) + 1).toNat = j + 1 := by omega
          have y1 : IntKind.i64.wrap ((j : Int) + 1) = (j : Int) + 1 := IntWalk.i64_in _ (by omega)
          go_wp2_with fail
          go_region_held3 (fun _ => True) (trivial) ((refine step_append_row rfl (.tmp 30) (.tmp 41) _ _ rfl elem_line rfl rfl ((HS.out.own.alloc _).drew) (src_line_d _ (sl b.data.toList f (j)) (sl b.data.toList (j) (j + 1)) _ (by rw [← ext_sl, ← ext_sl]) _ rfl) hN46 (by have := HS.out.keep.size; simp; omega) ?_; intro A4 c4 w4 ho4 hg4 hat4))
          clear y1
          have HP := Lib.hid (HS.out.line2 (by omega) Hg.out HL.out ho4 hg4)
          clear ho4 hg4 hat4
          go_wp2_with fail
          go_roundw
          case rel => exact ⟨A4, N + 1, c4, j + 1, j + 1, _, HP.out, rfl, by go_num, by go_num⟩
          case measure => simp [intOf]; omega
      · have n10 : b[j].toNat ≠ 10 := fun e => h10 (UInt8.toNat_inj.1 e)
        have q2 : ((b[j].toNat : Int) != 10) = true := by simp; omega
        have HS := Lib.hid (hS.skip hlt h10)
        clear hS h10
        go_wp2_with fail
        go_roundw
        case rel => exact ⟨A, N, c, f, j + 1, ls, HS.out, rfl, rfl, by go_num⟩
        case measure => simp [intOf]; omega
    · obtain rfl : j = b.size := by omega
      have hl := hS.inv.last hlen.symm
      have hN := hS.len
      rw [hlen] at hl
      by_cases hlt : f < b.size
      · have q0 : (f : Int) < (b.size : Int) := by omega
        rw [if_pos hlt] at hl
        have HL := Lib.hid hl
        have HS := Lib.hid hS
        have HN := Lib.hid hN
        have hN46 : N + 1 ≤ 1099511627776 := by have := hS.inv.le; omega
        clear hl hS hN
        go_wp2_with (at_builtin; refine wpList_append_row rfl (.tmp 49) (.tmp 54) _ _ rfl elem_line rfl rfl (HS.out.own.alloc _) (src_line _ (sl b.data.toList f b.size) [] _ (by rw [← ext_sl]; rfl) _ rfl) hN46 (by have := HS.out.keep.size; simp; omega) ?_; intro A4 c4 w4 ho4 hg4 hat4)
        go_ret
        refine ⟨A4, c4, ?_, ?_, ?_⟩
        · rw [HL.out, List.length_append, ← HN.out]; rfl
        · rw [HL.out, OwnL, lcells_append, List.length_append, ← HN.out]; exact ho4
        · exact (HS.out.keep.alloc HS.out.keep.size _).grown hg4 (by have := HS.out.keep.size; simp; omega) (fun k hk => (HS.out.own.lt k hk).1)
      · have q0 : ¬ (f : Int) < (b.size : Int) := by omega
        rw [if_neg hlt] at hl
        have HL := Lib.hid hl
        have HN := Lib.hid hN
        clear hl hN
        go_wp2_with fail
        go_ret
        refine ⟨A, c, ?_, ?_, hS.keep⟩
        · rw [HL.out, ← HN.out]; rfl
        · rw [HL.out, ← HN.out]; exact hS.own
end Go.Proofs.YtapgaglkkgbgkaaGreatDoor.Li
namespace Go.Proofs.YtapgaglkkgbgkaaGreatDoor.Li
open Go.RowKit
set_option maxRecDepth 100000

set_option maxHeartbeats 400000 in
theorem SeesV.more {w : World} {B B' n : Nat} {A : Option Addr} {vs : List Value} (hB : B ≤ B') (h : SeesV w B A n vs) : SeesV w B' A n vs :=
  ⟨h.len, fun j u hu => by
    obtain ⟨b, o, ha, hb, hc⟩ := h.cell j u hu
    exact ⟨b, o, ha, Nat.lt_of_lt_of_le hb hB, hc⟩⟩
def pieces : Array Value := #[.string ⟨#[97]⟩, .string ⟨#[98, 32, 99]⟩, .string ⟨#[32]⟩, .string ⟨#[9]⟩, .string ⟨#[10]⟩, .string ⟨#[13, 10]⟩, .string ⟨#[13]⟩, .string ⟨#[10]⟩, .string ⟨#[61]⟩, .string ⟨#[]⟩]
theorem piece (w : World) (e : TypeId) (j : Nat) (hj : j < 10) : ∃ s : ByteArray, s.size ≤ 3 ∧ (w.alloc (.cells #[.string ⟨#[97]⟩, .string ⟨#[98, 32, 99]⟩, .string ⟨#[32]⟩, .string ⟨#[9]⟩, .string ⟨#[10]⟩, .string ⟨#[13, 10]⟩, .string ⟨#[13]⟩, .string ⟨#[10]⟩, .string ⟨#[61]⟩, .string ⟨#[]⟩] e)).cell? ⟨w.heap.size, j, none⟩ = some (.string s) := by
  have hc := fun j => cell_of_row _ _ j _ _ _ (heap_alloc_new w (.cells #[.string ⟨#[97]⟩, .string ⟨#[98, 32, 99]⟩, .string ⟨#[32]⟩, .string ⟨#[9]⟩, .string ⟨#[10]⟩, .string ⟨#[13, 10]⟩, .string ⟨#[13]⟩, .string ⟨#[10]⟩, .string ⟨#[61]⟩, .string ⟨#[]⟩] e))
  match j, hj with
  | 0, _ => exact ⟨_, by decide, hc 0⟩
  | 1, _ => exact ⟨_, by decide, hc 1⟩
  | 2, _ => exact ⟨_, by decide, hc 2⟩
  | 3, _ => exact ⟨_, by decide, hc 3⟩
  | 4, _ => exact ⟨_, by decide, hc 4⟩
  | 5, _ => exact ⟨_, by decide, hc 5⟩
  | 6, _ => exact ⟨_, by decide, hc 6⟩
  | 7, _ => exact ⟨_, by decide, hc 7⟩
  | 8, _ => exact ⟨_, by decide, hc 8⟩
  | 9, _ => exact ⟨_, by decide, hc 9⟩

end Go.Proofs.YtapgaglkkgbgkaaGreatDoor.Li
namespace Go.Proofs.YtapgaglkkgbgkaaGreatDoor.Li
open Go.RowKit
set_option maxRecDepth 100000

theorem blank_any (c : UInt8) (w : World) : Calls Tryz.prog 98 #[.int .u8 (c.toNat : Int)] w fun e w' => e = .returned (.bool (bl c)) ∧ w = w' := by
  by_cases h1 : c = 32
  · subst h1
    go_enter Tryz.func98, Tryz.ntmps98
    go_wp2
    go_ret
    exact ⟨rfl, rfl⟩
  · have n1 : c.toNat ≠ 32 := fun e => h1 (UInt8.toNat_inj.1 e)
    have q1 : ((c.toNat : Int) == 32) = false := by simp; omega
    by_cases h2 : c = 9
    · subst h2
      go_enter Tryz.func98, Tryz.ntmps98
      go_wp2
      go_ret
      exact ⟨rfl, rfl⟩
    · have n2 : c.toNat ≠ 9 := fun e => h2 (UInt8.toNat_inj.1 e)
      have q2 : ((c.toNat : Int) == 9) = false := by simp; omega
      have hb : bl c = false := by simp [bl, h1, h2]
      rw [hb]
      clear hb h1 h2 n1 n2
      go_enter Tryz.func98, Tryz.ntmps98
      go_wp2
      go_ret
      exact ⟨rfl, rfl⟩
def Trimmed (b : ByteArray) (w : World) (e : Ending) (w' : World) : Prop :=
  e = .returned (.tuple #[.string (fr b), .string (mi b), .string (ba b)]) ∧ Below w.heap.size w w'

set_option maxHeartbeats 2000000 in
theorem rtrim_any (b : ByteArray) (w : World) (hb : b.size ≤ 4611686018427387904) : Calls Tryz.prog 72 #[.string b] w (Trimmed b w) := by
  have hlen : b.data.toList.length = b.size := Array.length_toList
  have hen := en_le b.data.toList
  obtain ⟨i0, hi0⟩ : ∃ i, i = tl b.data.toList := ⟨_, rfl⟩
  obtain ⟨k0, hk0⟩ : ∃ k, k = en b.data.toList := ⟨_, rfl⟩
  rw [← hi0, ← hk0, hlen] at hen
  have Hi := Lib.hid hi0
  have Hk := Lib.hid hk0
  clear hi0 hk0
  go_enter Tryz.func72, Tryz.ntmps72
  go_wp2_with fail
  go_loop [5] (fun i => ∃ k : Nat, k ≤ i0 ∧ i = .int .i64 k) (fun i => b.size - (intOf i).toNat)
  case atStart => exact ⟨0, Nat.zero_le _, rfl⟩
  case round =>
    obtain ⟨i, hi, rfl⟩ := hrel
    by_cases hlt : i < b.size
    · have q0 : (i : Int) < (b.size : Int) := by omega
      have q1 : (0 : Int) ≤ (i : Int) := by omega
      have hget : b.data.toList[i]'(by omega) = b[i] := rfl
      by_cases hin : i < i0
      · have hbl : bl b[i] = true := by rw [← hget]; exact tl_in _ _ _ (by rw [← Hi.out]; exact hin)
        have HB := Lib.hid (fun W => blank_any b[i] W)
        rw [hbl] at HB
        clear hget hbl
        go_wp2_with fail
        (with_reducible refine (HB.out _).mono ?_)
        rintro e w2 ⟨rfl, rfl⟩
        go_wp2_with fail
        go_round
        case rel => exact ⟨i + 1, by omega, by go_num⟩
        case measure => simp [intOf]; omega
      · obtain rfl : i0 = i := by omega
        have hbl : bl b[i0] = false := by
          have := tl_out b.data.toList (by rw [← Hi.out, hlen]; exact hlt)
          simp only [← Hi.out] at this
          exact this
        have HB := Lib.hid (fun W => blank_any b[i0] W)
        rw [hbl] at HB
        clear hget hbl
        go_wp2_with fail
        (with_reducible refine (HB.out _).mono ?_)
        rintro e w2 ⟨rfl, rfl⟩
        go_wp2_with fail
        go_loop [6] (fun i => ∃ k : Nat, k0 ≤ k ∧ k ≤ b.size ∧ i = .int .i64 k) (fun i => (intOf i).toNat)
        case atStart => exact ⟨b.size, hen.2, Nat.le_refl _, rfl⟩
        case round =>
          obtain ⟨k, hk1, hk2, rfl⟩ := hrel
          by_cases hkk : k0 < k
          · obtain ⟨j, rfl⟩ : ∃ j, k = j + 1 := ⟨k - 1, by omega⟩
            have r0 : (i0 : Int) < (j : Int) + 1 := by omega
            have r1 : (0 : Int) ≤ (j : Int) := by omega
            have r2 : (j : Int) < (b.size : Int) := by omega
            have hjb : j < b.size := by omega
            have hbl2 : bl b[j] = true := en_in b.data.toList j (by rw [hlen]; exact hjb) (by rw [← Hk.out]; omega)
            have HB2 := Lib.hid (fun W => blank_any b[j] W)
            rw [hbl2] at HB2
            clear hbl2
            go_wp2_with fail
            (with_reducible refine (HB2.out _).mono ?_)
            rintro e w3 ⟨rfl, rfl⟩
            go_wp2_with fail
            go_round
            case rel => exact ⟨j, by omega, by omega, by go_num⟩
            case measure => simp [intOf]
          · obtain rfl : k0 = k := by omega
            have s0 : (0 : Int) ≤ (i0 : Int) := by omega
            have s1 : (i0 : Int) ≤ (k0 : Int) := by omega
            have s2 : (k0 : Int) ≤ (b.size : Int) := by omega
            have s3 : (0 : Int) ≤ (k0 : Int) := by omega
            have s4 : (i0 : Int) ≤ (b.size : Int) := by omega
            have HF : Hid (Value.string (b.extract 0 i0) = .string (fr b) ∧ Value.string (b.extract i0 k0) = .string (mi b) ∧ Value.string (b.extract k0 b.size) = .string (ba b)) := Lib.hid ⟨by rw [ext_sl, Hi.out]; rfl, by rw [ext_sl, Hi.out, Hk.out]; rfl, by rw [ext_sl, Hk.out, ← hlen]; rfl⟩
            by_cases hik : i0 < k0
            · obtain ⟨j, rfl⟩ : ∃ j, k0 = j + 1 := ⟨k0 - 1, by omega⟩
              have r0 : (i0 : Int) < (j : Int) + 1 := by omega
              have r1 : (0 : Int) ≤ (j : Int) := by omega
              have r2 : (j : Int) < (b.size : Int) := by omega
              have r3 : (j : Int) + 1 ≤ (b.size : Int) := by omega
              have r4 : (i0 : Int) ≤ (j : Int) + 1 := by omega
              have r5 : (0 : Int) ≤ (j : Int) + 1 := by omega
              have r6 : ((j : Int) + 1).toNat = j + 1 := by omega
              have hjb : j < b.size := by omega
              have hbl2 : bl b[j] = false := by
                have := en_out b.data.toList (by rw [← Hi.out, ← Hk.out]; exact hik) (by rw [← Hk.out, hlen]; omega)
                simp only [← Hk.out, Nat.add_sub_cancel] at this
                exact this
              have HB2 := Lib.hid (fun W => blank_any b[j] W)
              rw [hbl2] at HB2
              clear hbl2
              go_wp2_with fail
              (with_reducible refine (HB2.out _).mono ?_)
              rintro e w3 ⟨rfl, rfl⟩
              go_wp2_with fail
              go_quiet (fail)
              go_wp2_with fail
              go_ret3
              exact ⟨by rw [← HF.out.1, ← HF.out.2.1, ← HF.out.2.2]; rfl, below_drewN (Below.refl _ _) _⟩
            · have r0 : (k0 : Int) ≤ (i0 : Int) := by omega
              go_wp2_with fail
              go_quiet (fail)
              go_wp2_with fail
              go_ret3
              exact ⟨by rw [← HF.out.1, ← HF.out.2.1, ← HF.out.2.2]; rfl, below_drewN (Below.refl _ _) _⟩
    · have q0 : (b.size : Int) ≤ (i : Int) := by omega
      obtain rfl : i0 = i := by omega
      go_wp2_with fail
      go_loop [6] (fun i => ∃ k : Nat, k0 ≤ k ∧ k ≤ b.size ∧ i = .int .i64 k) (fun i => (intOf i).toNat)
      case atStart => exact ⟨b.size, hen.2, Nat.le_refl _, rfl⟩
      case round =>
        obtain ⟨k, hk1, hk2, rfl⟩ := hrel
        by_cases hkk : k0 < k
        · obtain ⟨j, rfl⟩ : ∃ j, k = j + 1 := ⟨k - 1, by omega⟩
          have r0 : (i0 : Int) < (j : Int) + 1 := by omega
          have r1 : (0 : Int) ≤ (j : Int) := by omega
          have r2 : (j : Int) < (b.size : Int) := by omega
          have hjb : j < b.size := by omega
          have hbl2 : bl b[j] = true := en_in b.data.toList j (by rw [hlen]; exact hjb) (by rw [← Hk.out]; omega)
          have HB2 := Lib.hid (fun W => blank_any b[j] W)
          rw [hbl2] at HB2
          clear hbl2
          go_wp2_with fail
          (with_reducible refine (HB2.out _).mono ?_)
          rintro e w3 ⟨rfl, rfl⟩
          go_wp2_with fail
          go_round
          case rel => exact ⟨j, by omega, by omega, by go_num⟩
          case measure => simp [intOf]
        · obtain rfl : k0 = k := by omega
          have s0 : (0 : Int) ≤ (i0 : Int) := by omega
          have s1 : (i0 : Int) ≤ (k0 : Int) := by omega
          have s2 : (k0 : Int) ≤ (b.size : Int) := by omega
          have s3 : (0 : Int) ≤ (k0 : Int) := by omega
          have s4 : (i0 : Int) ≤ (b.size : Int) := by omega
          have HF : Hid (Value.string (b.extract 0 i0) = .string (fr b) ∧ Value.string (b.extract i0 k0) = .string (mi b) ∧ Value.string (b.extract k0 b.size) = .string (ba b)) := Lib.hid ⟨by rw [ext_sl, Hi.out]; rfl, by rw [ext_sl, Hi.out, Hk.out]; rfl, by rw [ext_sl, Hk.out, ← hlen]; rfl⟩
          by_cases hik : i0 < k0
          · obtain ⟨j, rfl⟩ : ∃ j, k0 = j + 1 := ⟨k0 - 1, by omega⟩
            have r0 : (i0 : Int) < (j : Int) + 1 := by omega
            have r1 : (0 : Int) ≤ (j : Int) := by omega
            have r2 : (j : Int) < (b.size : Int) := by omega
            have r3 : (j : Int) + 1 ≤ (b.size : Int) := by omega
            have r4 : (i0 : Int) ≤ (j : Int) + 1 := by omega
            have r5 : (0 : Int) ≤ (j : Int) + 1 := by omega
            have r6 : ((j : Int) + 1).toNat = j + 1 := by omega
            have hjb : j < b.size := by omega
            have hbl2 : bl b[j] = false := by
              have := en_out b.data.toList (by rw [← Hi.out, ← Hk.out]; exact hik) (by rw [← Hk.out, hlen]; omega)
              simp only [← Hk.out, Nat.add_sub_cancel] at this
              exact this
            have HB2 := Lib.hid (fun W => blank_any b[j] W)
            rw [hbl2] at HB2
            clear hbl2
            go_wp2_with fail
            (with_reducible refine (HB2.out _).mono ?_)
            rintro e w3 ⟨rfl, rfl⟩
            go_wp2_with fail
            go_quiet (fail)
            go_wp2_with fail
            go_ret3
            exact ⟨by rw [← HF.out.1, ← HF.out.2.1, ← HF.out.2.2]; rfl, below_drewN (Below.refl _ _) _⟩
          · have r0 : (k0 : Int) ≤ (i0 : Int) := by omega
            go_wp2_with fail
            go_quiet (fail)
            go_wp2_with fail
            go_ret3
            exact ⟨by rw [← HF.out.1, ← HF.out.2.1, ← HF.out.2.2]; rfl, below_drewN (Below.refl _ _) _⟩
end Go.Proofs.YtapgaglkkgbgkaaGreatDoor.Li
namespace Go.Proofs.YtapgaglkkgbgkaaGreatDoor.Li
open Go.RowKit
set_option maxRecDepth 100000

theorem left_drop (l : Bs) : Lib.trimLeftS l [32, 9] = l.drop (tl l) := tl_drop l
theorem right_take (l : Bs) : Lib.trimRightS l [32, 9] = l.take (tr l) := tr_take l

set_option maxHeartbeats 2000000 in
theorem trim_any (b : ByteArray) (w : World) (hb : b.size ≤ 4611686018427387904) : Calls Tryz.prog 87 #[.string b] w (Trimmed b w) := by
  have hlen : b.data.toList.length = b.size := Array.length_toList
  have hen := en_le b.data.toList
  have hms := mi_size b
  obtain ⟨r, hr⟩ : ∃ r : ByteArray, r = ⟨(Lib.trimLeftS b.data.toList [32, 9]).toArray⟩ := ⟨_, rfl⟩
  have hrl : r.data.toList = b.data.toList.drop (tl b.data.toList) := by rw [hr, left_drop]
  have hrs : r.size = b.size - tl b.data.toList := by
    have : r.data.toList.length = r.size := Array.length_toList
    rw [← this, hrl, List.length_drop, hlen]
  have hL := Tryz.strings_TrimLeft b w
  rw [← hr] at hL
  have hm : (⟨(Lib.trimRightS r.data.toList [32, 9]).toArray⟩ : ByteArray) = mi b := by
    rw [hrl, right_take, mi]
    congr 2
    unfold sl en
    rw [List.take_drop]
  have hR := fun W => Tryz.strings_TrimRight r W (by rw [hrs]; omega)
  rw [hm] at hR
  have hf : Value.string (b.extract 0 (tl b.data.toList)) = .string (fr b) := by rw [ext_sl]; rfl
  have hba : Value.string (r.extract (mi b).size r.size) = .string (ba b) := by
    rw [ext_sl, hrl, hms, hrs, ba, encs]
    congr 3
    unfold sl
    rw [← hlen, List.take_length, List.take_of_length_le (by rw [List.length_drop]; exact Nat.le_refl _), List.drop_drop]
    congr 1
    omega
  rw [hlen] at hen
  obtain ⟨i0, hi0⟩ : ∃ i, i = tl b.data.toList := ⟨_, rfl⟩
  obtain ⟨M, hM⟩ : ∃ M, M = mi b := ⟨_, rfl⟩
  have hw1 : IntKind.i64.wrap ((b.size : Int) - (r.size : Int)) = (i0 : Int) := by
    rw [IntKind.wrap_i64, hrs]
    omega
  rw [← hi0] at hf hen
  rw [← hM] at hms hR hba
  have hmr : M.size ≤ r.size := by omega
  have s0 : (0 : Int) ≤ (i0 : Int) := by omega
  have s1 : (i0 : Int) ≤ (b.size : Int) := by omega
  have s2 : (0 : Int) ≤ (M.size : Int) := by omega
  have s3 : (M.size : Int) ≤ (r.size : Int) := by omega
  have HL := Lib.hid hL
  have HR := Lib.hid hR
  have Hf := Lib.hid hf
  have Hba := Lib.hid hba
  have HM := Lib.hid hM
  clear hL hR hf hba hM hi0 hrl hrs hr hm hms hlen hen hmr
  go_enter Tryz.func87, Tryz.ntmps87
  go_wp2_with fail
  (with_reducible refine HL.out.mono ?_)
  rintro e w1 ⟨rfl, hb1⟩
  go_wp2_with fail
  (with_reducible refine (HR.out _).mono ?_)
  rintro e w2 ⟨rfl, hb2⟩
  go_wp2_with fail
  go_quiet (fail)
  go_wp2_with fail
  go_ret3
  exact ⟨by rw [← Hf.out, ← HM.out, ← Hba.out]; rfl, below_drewN (hb1.trans (hb2.mono hb1.size)) _⟩
end Go.Proofs.YtapgaglkkgbgkaaGreatDoor.Li
namespace Go.Proofs.YtapgaglkkgbgkaaGreatDoor.Cv
open Go.RowKit Go.Proofs.YtapgaglkkgbgkaaGreatDoor.Jd
set_option maxRecDepth 100000

def Pl (s : ByteArray) : Prop := ∀ (j : Nat) b, s.data.toList[j]? = some b → b.toNat < 256
def vB (s : ByteArray) : Bool := decide (s.size ≤ 80) && !(Lib.containsAny s.data.toList [10, 13])
def nB (s : ByteArray) : Bool := decide (0 < s.size) && vB s
def cB (s : ByteArray) : Bool := nB s && !(s.toList == [107, 101, 121])
def fvB (s : ByteArray) (k : Tr) : Bool := nB s && decide (k.len = 0)
def fcB (s : ByteArray) (k : Tr) : Bool := cB s && (match k with | .cons s2 k2 .nil => fvB s2 k2 | _ => false)
def allT (f : ByteArray → Tr → Bool) : Tr → Bool
  | .nil => true
  | .cons s k r => f s k && allT f r
def frB (s : ByteArray) (k : Tr) : Bool := nB s && allT fcB k
def fitsC (t : Tr) : Int := if t.fault ≠ 0 then (t.fault : Int) else if allT frB t then 0 else 13
theorem fcB_one {s s2 : ByteArray} {k2 : Tr} (h : cB s = true) : fcB s (.cons s2 k2 .nil) = fvB s2 k2 := by
  unfold fcB
  rw [h]
  rfl
theorem empty_iff (s : ByteArray) : (s.toList == ([] : List UInt8)) = decide (s.size = 0) := by
  rw [ByteArray.toList_eq]
  have hs : s.size = s.data.toList.length := rfl
  cases h : s.data.toList with
  | nil => rw [hs, h]; rfl
  | cons x r => rw [hs, h]; simp
end Go.Proofs.YtapgaglkkgbgkaaGreatDoor.Cv
namespace Go.Proofs.YtapgaglkkgbgkaaGreatDoor.Cv
open Go.RowKit Go.Proofs.YtapgaglkkgbgkaaGreatDoor.Jd
set_option maxRecDepth 100000

def wid : Bool → List UInt8 → Nat
  | _, [] => 0
  | q, c :: r => if c = 34 then wid (!q) r + 1 else if c = 44 ∧ q = false then 0 else wid q r + 1
theorem wid_le : ∀ (l : List UInt8) (q : Bool), wid q l ≤ l.length
  | [], _ => Nat.le_refl _
  | c :: r, q => by
    rw [wid, List.length_cons]
    have h1 := wid_le r (!q)
    have h2 := wid_le r q
    split
    · omega
    · split <;> omega
theorem drop_at {s : ByteArray} {k : Nat} (h : k < s.size) : s.data.toList.drop k = s[k] :: s.data.toList.drop (k + 1) := by
  rw [List.drop_eq_getElem_cons (show k < s.data.toList.length from h)]
  rfl

set_option maxHeartbeats 2000000 in
def unq (l : List UInt8) : List UInt8 × Bool :=
  if Lib.hasPrefix l [34] = false then (l, !(decide (0 ≤ Lib.indexByte l 34))) else
  if Lib.hasSuffix (Lib.trimPrefix l [34]) [34] = false then ([], false) else
  if decide (0 ≤ Lib.indexByte (Lib.replaceAll (Lib.trimSuffix (Lib.trimPrefix l [34]) [34]) [34, 34] []) 34) = true then ([], false) else
  (Lib.replaceAll (Lib.trimSuffix (Lib.trimPrefix l [34]) [34]) [34, 34] [34], true)
def Gl (w : World) : Prop := ∃ m, w.cell? ⟨0, 0, none⟩ = some (.int .i64 m)
theorem Gl.below {w w' : World} (h : Gl w) (hb : Below w.heap.size w w') : Gl w' := by
  obtain ⟨m, hm⟩ := h
  exact ⟨m, (hb.cell (p := ⟨0, 0, none⟩) (World.block_lt_of_cell? w ⟨0, 0, none⟩ hm)).trans hm⟩
end Go.Proofs.YtapgaglkkgbgkaaGreatDoor.Cv
