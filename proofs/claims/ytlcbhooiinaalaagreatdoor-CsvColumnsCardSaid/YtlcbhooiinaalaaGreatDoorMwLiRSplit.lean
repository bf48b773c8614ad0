/- The document's own Split: what it makes of any text. Conditions: fewer than 2^38 bytes. · The reference's Load of csv: what a file is loaded as, the very same as the program's. No conditions. · Two trees: whether all is the same; Same of the reference. Conditions: fewer edges than 2^47. -/
import Derived.Test.YtlcbhooiinaalaaGreatDoorMwCvReadM
import Derived.Deep.LoopGhost
import Derived.IntWalk
import Derived.Test.YtlcbhooiinaalaaGreatDoorRcRowsW
import Derived.Test.YtlcbhooiinaalaaGreatDoorChkRef
import Derived.Test.YtlcbhooiinaalaaGreatDoorMwRQuote
import Derived.Test.YtlcbhooiinaalaaGreatDoorMwCount
import Derived.Test.YtlcbhooiinaalaaGreatDoorMwGrow
import Derived.Deep.QuietTactic
import Derived.BigQuiet
namespace Go.Proofs.YtlcbhooiinaalaaGreatDoor.Li
open Go.RowKit
set_option maxRecDepth 100000
attribute [local go_sem ↓] Go.wp_at_zero Go.wp_at_succ

theorem lo_same {s : Bs} {f j : Nat} (h : ¬ f < j) : lo s f j = j := by
  unfold lo
  rw [if_neg]
  intro e
  exact h (cr_pos e)
theorem lo_13 {b : ByteArray} {f i : Nat} (h : f ≤ i) (hi : i < b.size) (h13 : b[i] = 13) : lo b.data.toList f (i + 1) = i := by
  have hl : i < b.data.toList.length := hi
  unfold lo
  rw [if_pos, Nat.add_sub_cancel]
  rw [cr_snoc h hl]
  exact decide_eq_true h13
theorem lo_no {b : ByteArray} {f i : Nat} (h : f ≤ i) (hi : i < b.size) (h13 : b[i] ≠ 13) : lo b.data.toList f (i + 1) = i + 1 := by
  have hl : i < b.data.toList.length := hi
  unfold lo
  rw [if_neg]
  rw [cr_snoc h hl]
  exact fun e => h13 (of_decide_eq_true e)
theorem Sofar.skip {b : ByteArray} {w wr : World} {A : Option Addr} {N c f j : Nat} {ls : List Ln} (h : Sofar b w wr A N c f j ls) (hj : j < b.size) (h10 : b[j] ≠ 10) : Sofar b w wr A N c f (j + 1) ls :=
  ⟨h.inv.other (show j < b.data.toList.length from hj) h10, h.own, h.len, h.keep⟩
theorem Sofar.line2 {b : ByteArray} {w wr w4 : World} {A A4 : Option Addr} {N c c4 f j k : Nat} {ls : List Ln} {o : Obj} (h : Sofar b w wr A N c f j ls) (hj : j < b.size) (h10 : b[j] = 10) (hk : lo b.data.toList f j = k)
    (ho : w4.ownsRow w.heap.size 88 2 (.slice A4 (N + 1) c4) (N + 1) (lcells ls ++ [encs (sl b.data.toList f k), encs (sl b.data.toList k (j + 1))]))
    (hg : (wr.alloc o).drew.grownBy w4 (Value.slice A N c).ownBlock) : Sofar b w w4 A4 (N + 1) c4 (j + 1) (j + 1) (ls ++ [(sl b.data.toList f k, sl b.data.toList k (j + 1))]) := by
  subst hk
  exact h.line hj h10 ho hg

set_option maxHeartbeats 2000000 in
theorem rsplit_any (b : ByteArray) (w : World) (hb : b.size ≤ 274877906944) : Calls Tryz.prog 30 #[.string b] w (Lines w.heap.size w (split b.data.toList)) := by
  have hlen : b.data.toList.length = b.size := Array.length_toList
  go_enter Tryz.func30, Tryz.ntmps30
  go_wp2
  go_loopw [3, 4, 5] (fun v f i wr => ∃ (A : Option Addr) (N c f' j : Nat) (ls : List Ln), Sofar b w wr A N c f' j ls ∧ v = .slice A N c ∧ f = .int .i64 f' ∧ i = .int .i64 j) (fun _ _ i _ => b.size - (intOf i).toNat)
  case atStart => exact ⟨none, 0, 0, 0, 0, [], ⟨Inv.start _, World.ownsRow_nil _ _ _ _, rfl, Below.refl _ _⟩, rfl, rfl, rfl⟩
  case round =>
    obtain ⟨A, N, c, f, j, ls, hS, rfl, rfl, rfl⟩ := hrel
    have hjb : j ≤ b.size := by have := hS.inv.2.1; omega
    have hfj := hS.inv.1
    by_cases hlt : j < b.size
    · have b5 : (j : Int) + 1 ≤ (b.size : Int) := by omega
      by_cases h10 : b[j] = 10
      · have q2 : ((b[j].toNat : Int) != 10) = false := by rw [h10]; rfl
        have Hg := Lib.hid h10
        have HS := Lib.hid hS
        have hN46 : N + 1 ≤ 1099511627776 := by have := hS.len; have := hS.inv.le; omega
        clear h10 hS
        have b1 : (0 : Int) ≤ (f : Int) := by omega
        by_cases hf : f < j
        · obtain ⟨i, rfl⟩ : ∃ i, j = i + 1 := ⟨j - 1, by omega⟩
          have q3 : (f : Int) < (i : Int) + 1 := by omega
          have q3' : (f : Int) < ((i + 1 : Nat) : Int) := by omega
          have b6 : (0 : Int) ≤ (i : Int) := by omega
          have hib : i < b.size := by omega
          have b3 : (i : Int) ≤ (b.size : Int) := by omega
          have b7 : (f : Int) ≤ (i : Int) := by omega
          by_cases h13 : b[i] = 13
          · have q4 : ((b[i].toNat : Int) == 13) = true := by rw [h13]; rfl
            have HL := Lib.hid (lo_13 (by omega : f ≤ i) hib h13)
            clear h13
            have x1 : (f : Int) ≤ (i : Int) + 1 := by omega
            have x2 : (i : Int) + 1 ≤ (b.size : Int) := by omega
            have x3 : (i : Int) ≤ (i : Int) + 1 + 1 := by omega
            have x4 : (i : Int) + 1 ≤ (i : Int) + 1 + 1 := by omega
            have x5 : (i : Int) + 1 + 1 ≤ (b.size : Int) := by omega
            have x6 : (0 : Int) ≤ (i : Int) + 1 := by omega
            have x7 : (0 : Int) ≤ (i : Int) + 1 + 1 := by omega
            have x8 : ((i : Int) + 1).toNat = i + 1 := by omega
            have x9 : ((i : Int) + 1 + 1).toNat = i + 1 + 1 := by omega
            have hsz : w.heap.size ≤ (wr.heap.size) + 1 := by have := HS.out.keep.size; omega
            have y1 : IntKind.i64.wrap ((i : Int) + 1 + 1) = (i : Int) + 1 + 1 := IntWalk.i64_in _ (by omega)
            go_wp2_with fail
            go_region_held3 (fun _ => True) (trivial) ((refine step_append_row rfl (.tmp 30) (.tmp 41) _ _ rfl elem_line rfl rfl ((HS.out.own.alloc _).drew) (src_line_d _ (sl b.data.toList f (i)) (sl b.data.toList (i) ((i + 1) + 1)) _ (by rw [← ext_sl, ← ext_sl]) _ rfl) hN46 (by have := HS.out.keep.size; simp; omega) ?_; intro A4 c4 w4 ho4 hg4 hat4))
            clear y1
            have HP := Lib.hid (HS.out.line2 (by omega) Hg.out HL.out ho4 hg4)
            clear ho4 hg4 hat4
            go_wp2_with fail
            go_roundw
            case rel => exact ⟨A4, N + 1, c4, (i + 1) + 1, (i + 1) + 1, _, HP.out, rfl, by go_num, by go_num⟩
            case measure => simp [intOf]; omega
          · have n13 : b[i].toNat ≠ 13 := fun e => h13 (UInt8.toNat_inj.1 e)
            have q4 : ((b[i].toNat : Int) == 13) = false := by simp; omega
            have HL := Lib.hid (lo_no (by omega : f ≤ i) hib h13)
            clear h13
            have x1 : (f : Int) ≤ (i : Int) + 1 := by omega
            have x2 : (i : Int) + 1 ≤ (b.size : Int) := by omega
            have x3 : (i : Int) ≤ (i : Int) + 1 + 1 := by omega
            have x4 : (i : Int) + 1 ≤ (i : Int) + 1 + 1 := by omega
            have x5 : (i : Int) + 1 + 1 ≤ (b.size : Int) := by omega
            have x6 : (0 : Int) ≤ (i : Int) + 1 := by omega
            have x7 : (0 : Int) ≤ (i : Int) + 1 + 1 := by omega
            have x8 : ((i : Int) + 1).toNat = i + 1 := by omega
            have x9 : ((i : Int) + 1 + 1).toNat = i + 1 + 1 := by omega
            have hsz : w.heap.size ≤ (wr.heap.size) + 1 := by have := HS.out.keep.size; omega
            have y1 : IntKind.i64.wrap ((i : Int) + 1 + 1) = (i : Int) + 1 + 1 := IntWalk.i64_in _ (by omega)
            go_wp2_with fail
            go_region_held3 (fun _ => True) (trivial) ((refine step_append_row rfl (.tmp 30) (.tmp 41) _ _ rfl elem_line rfl rfl ((HS.out.own.alloc _).drew) (src_line_d _ (sl b.data.toList f (i + 1)) (sl b.data.toList (i + 1) (i + 1 + 1)) _ (by rw [← ext_sl, ← ext_sl]) _ rfl) hN46 (by have := HS.out.keep.size; simp; omega) ?_; intro A4 c4 w4 ho4 hg4 hat4))
            clear y1
            have HP := Lib.hid (HS.out.line2 (by omega) Hg.out HL.out ho4 hg4)
            clear ho4 hg4 hat4
            go_wp2_with fail
            go_roundw
            case rel => exact ⟨A4, N + 1, c4, i + 1 + 1, i + 1 + 1, _, HP.out, rfl, by go_num, by go_num⟩
            case measure => simp [intOf]; omega
        · have q3 : (j : Int) ≤ (f : Int) := by omega
          have HL := Lib.hid (lo_same (s := b.data.toList) hf)
          have x3 : (j : Int) ≤ (j : Int) + 1 := by omega
          have x4 : (f : Int) ≤ (j : Int) := by omega
          have x5 : (j : Int) ≤ (b.size : Int) := by omega
          have x6 : (0 : Int) ≤ (j : Int) := by omega
          have x7 : (0 : Int) ≤ (j : Int) + 1 := by omega
          have x8 : ((j : Int) + 1).toNat = j + 1 := by omega
          have y1 : IntKind.i64.wrap ((j : Int) + 1) = (j : Int) + 1 := IntWalk.i64_in _ (by omega)
          go_wp2_with fail
          go_region_held3 (fun _ => True) (trivial) ((refine step_append_row rfl (.tmp 30) (.tmp 41) _ _ rfl elem_line rfl rfl ((HS.out.own.alloc _).drew) (src_line_d _ (sl b.data.toList f (j)) (sl b.data.toList (j) (j + 1)) _ (by rw [← ext_sl, ← ext_sl]) _ rfl) hN46 (by have := HS.out.keep.size; simp; omega) ?_; intro A4 c4 w4 ho4 hg4 hat4))
          clear y1
          have HP := Lib.hid (HS.out.line2 (by omega) Hg.out HL.out ho4 hg4)
          clear ho4 hg4 hat4
          go_wp2_with fail
          go_roundw
          case rel => exact ⟨A4, N + 1, c4, j + 1, j + 1, _, HP.out, rfl, by go_num, by go_num⟩
          case measure => simp [intOf]; omega
      · have n10 : b[j].toNat ≠ 10 := fun e => h10 (UInt8.toNat_inj.1 e)
        have q2 : ((b[j].toNat : Int) != 10) = true := by simp; omega
        have HS := Lib.hid (hS.skip hlt h10)
        clear hS h10
        go_wp2_with fail
        go_roundw
        case rel => exact ⟨A, N, c, f, j + 1, ls, HS.out, rfl, rfl, by go_num⟩
        case measure => simp [intOf]; omega
    · obtain rfl : j = b.size := by omega
      have hl := hS.inv.last hlen.symm
      have hN := hS.len
      rw [hlen] at hl
      by_cases hlt : f < b.size
      · have q0 : (f : Int) < (b.size : Int) := by omega
        rw [if_pos hlt] at hl
        have HL := Lib.hid hl
        have HS := Lib.hid hS
        have HN := Lib.hid hN
        have hN46 : N + 1 ≤ 1099511627776 := by have := hS.inv.le; omega
        clear hl hS hN
        go_wp2_with (at_builtin; refine wpList_append_row rfl (.tmp 49) (.tmp 54) _ _ rfl elem_line rfl rfl (HS.out.own.alloc _) (src_line _ (sl b.data.toList f b.size) [] _ (by rw [← ext_sl]; rfl) _ rfl) hN46 (by have := HS.out.keep.size; simp; omega) ?_; intro A4 c4 w4 ho4 hg4 hat4)
        go_ret
        refine ⟨A4, c4, ?_, ?_, ?_⟩
        · rw [HL.out, List.length_append, ← HN.out]; rfl
        · rw [HL.out, OwnL, lcells_append, List.length_append, ← HN.out]; exact ho4
        · exact (HS.out.keep.alloc HS.out.keep.size _).grown hg4 (by have := HS.out.keep.size; simp; omega) (fun k hk => (HS.out.own.lt k hk).1)
      · have q0 : ¬ (f : Int) < (b.size : Int) := by omega
        rw [if_neg hlt] at hl
        have HL := Lib.hid hl
        have HN := Lib.hid hN
        clear hl hN
        go_wp2_with fail
        go_ret
        refine ⟨A, c, ?_, ?_, hS.keep⟩
        · rw [HL.out, ← HN.out]; rfl
        · rw [HL.out, ← HN.out]; exact hS.own
end Go.Proofs.YtlcbhooiinaalaaGreatDoor.Li
namespace Go.Proofs.YtlcbhooiinaalaaGreatDoor.Cv
open Go.RowKit Go.Proofs.YtlcbhooiinaalaaGreatDoor.Jd Go.Proofs.YtlcbhooiinaalaaGreatDoor.Li Go.Proofs.YtlcbhooiinaalaaGreatDoor.Pt Go.Proofs.YtlcbhooiinaalaaGreatDoor.Cl
set_option maxRecDepth 100000

/-- The tree of a file's rows. -/
theorem rowsR_ok (l : Bs) (hl : l.length ≤ 4000) : Tr.Nm (rowsR [] .nil 0 (split l)).2.1 ∧ (rowsR [] .nil 0 (split l)).2.1.size ≤ 17179869184 := by
  have e := rows_same (split l) [] 0
  rw [List.map_nil, accOf] at e
  rw [e]
  by_cases h3 : (rowsF [] 0 (split l)).2.2 = 0
  · rw [if_pos h3]
    have hn := rowsF_nod (split l) [] 0 trivial h3
    have hs : (split l).length ≤ 4000 := Nat.le_trans (split_le _) hl
    obtain ⟨h1, h2, _⟩ := rowsF_ok (split l) [] 0 trivial (fun x hx => Nat.le_trans (split_lens l x hx) hl)
    dsimp only
    rw [accOf_tree hn]
    cases hr : (rowsF [] 0 (split l)).1 with
    | nil => exact ⟨trivial, Nat.zero_le _⟩
    | cons h t =>
      rw [hr] at h1 h2
      exact treeR_ok h1 (by simp only [List.length_cons, List.length_nil] at h2; omega)
  · rw [if_neg h3]
    exact ⟨trivial, Nat.zero_le _⟩
theorem rowsR_line (l : Bs) (h : (rowsR [] .nil 0 (split l)).2.2.2 = 0) : (rowsR [] .nil 0 (split l)).2.2.1 = 0 := by
  have e := rows_same (split l) [] 0
  rw [List.map_nil, accOf] at e
  rw [e] at h ⊢
  by_cases h3 : (rowsF [] 0 (split l)).2.2 = 0
  · rw [if_pos h3]
  · rw [if_neg h3] at h
    exact absurd h h3
/-- What Load answers. -/
def LoadQ (w : World) (o : Tr × Nat × Int) (en : Ending) (w' : World) : Prop :=
  ∃ At nt ct, en = .returned (.tuple #[.slice At nt ct, .int .i64 (o.2.1 : Nat), .int .i64 o.2.2]) ∧ Holds w' w'.heap.size At nt o.1 ∧ nt ≤ ct ∧ ct ≤ maxLen ∧ Below w.heap.size w w'

set_option maxHeartbeats 4000000 in
theorem rload_any (s : ByteArray) (w : World) (hz : s.size ≤ 274877906944) : Calls Tryz.prog 13 #[.string s] w (LoadQ w (readF s.data.toList)) := by
  rw [← load_same]
  have hsl : s.data.toList.length = s.size := rfl
  by_cases h1 : 4000 < s.size
  · have hL : loadR s.data.toList = (.nil, 0, 5) := by rw [loadR, if_pos (by omega)]
    rw [hL]
    have h1' : (4000 : Int) < (s.size : Int) := by omega
    clear hL hsl h1
    go_enter Tryz.func13, Tryz.ntmps13
    go_wp2_with fail
    refine bodyPost_ret (v := .tuple #[.slice none 0 0, .int .i64 0, .int .i64 5]) (by simp [results, Tryz.results13, go_sem]) rfl ?_
    exact ⟨none, 0, 0, rfl, rfl, Nat.le_refl _, Nat.zero_le _, Below.refl _ _⟩
  · have h1' : ¬ (4000 : Int) < (s.size : Int) := by omega
    by_cases h2 : s.size = 0
    · have hL : loadR s.data.toList = (.nil, 0, 2) := by rw [loadR, if_neg (by omega), if_pos (by omega)]
      rw [hL]
      have he := empty_iff s
      rw [decide_eq_true h2] at he
      clear hL hsl h1 h2
      go_enter Tryz.func13, Tryz.ntmps13
      go_wp2_with fail
      refine bodyPost_ret (v := .tuple #[.slice none 0 0, .int .i64 0, .int .i64 2]) (by simp [results, Tryz.results13, go_sem]) rfl ?_
      exact ⟨none, 0, 0, rfl, rfl, Nat.le_refl _, Nat.zero_le _, Below.refl _ _⟩
    · have he := empty_iff s
      rw [decide_eq_false h2] at he
      obtain ⟨hnm, htz⟩ := rowsR_ok s.data.toList (by omega)
      obtain ⟨o, ho⟩ : ∃ o, o = rowsR [] .nil 0 (split s.data.toList) := ⟨_, rfl⟩
      have hL : loadR s.data.toList = if o.2.2.2 ≠ 0 then (.nil, o.2.2.1, o.2.2.2) else if o.2.1.fault ≠ 0 then (.nil, 0, (o.2.1.fault : Nat)) else (o.2.1, 0, 0) := by rw [loadR, if_neg (by omega), if_neg (by omega), ho]
      have hline := rowsR_line s.data.toList
      rw [← ho] at hnm htz hline
      have hll : (split s.data.toList).length ≤ 4000 := Nat.le_trans (split_le _) (by omega)
      have hlens : ∀ x ∈ split s.data.toList, x.1.length ≤ 4000 := fun x hx => Nat.le_trans (split_lens _ x hx) (by omega)
      have HSp := Lib.hid (rsplit_any s w (by omega))
      have HRo := Lib.hid (fun (A : Option Addr) (c : Nat) (W : World) (h : OwnL W w.heap.size A (split s.data.toList).length c (split s.data.toList)) => by
        have := rrows_any (split s.data.toList) A (split s.data.toList).length c W.heap.size W h.sees (Nat.le_refl _) (by omega) hlens
        rw [← ho] at this
        exact this)
      have HL := Lib.hid hL
      have Hnm := Lib.hid hnm
      clear hL hsl h1 h2 hnm ho hlens
      go_enter Tryz.func13, Tryz.ntmps13
      go_wp2_with fail
      (with_reducible refine HSp.out.mono ?_)
      rintro e w1 ⟨A1, c1, rfl, ho1, hb1⟩
      have HRo1 := Lib.hid (HRo.out A1 c1 w1 ho1)
      clear ho1
      go_wp2_with fail
      (with_reducible refine HRo1.out.mono ?_)
      rintro e w2 ⟨A2, At, c2, nt, ct, vs, rfl, ho2, hT, hnt, hct, hb2⟩
      have HB := Lib.hid (hb1.trans (hb2.mono hb1.size))
      have hln := hT.len
      have hls := o.2.1.len_size
      have HC := Lib.hid (rcheck_any o.2.1 At nt ct w2.heap.size w2 hT (Nat.le_refl _) (by omega) (low_size _ (by omega)) Hnm.out)
      have HT := Lib.hid hT
      obtain ⟨e0, he0⟩ : ∃ e0, e0 = o.2.2.2 := ⟨_, rfl⟩
      obtain ⟨l0, hl0⟩ : ∃ l0, l0 = o.2.2.1 := ⟨_, rfl⟩
      obtain ⟨t0, ht0⟩ : ∃ t0, t0 = o.2.1 := ⟨_, rfl⟩
      obtain ⟨f0, hf0⟩ : ∃ f0, f0 = t0.fault := ⟨_, rfl⟩
      rw [← ht0, ← hf0] at HC
      rw [← ht0] at HT
      rw [← he0, ← hl0, ← ht0, ← hf0] at HL
      rw [← he0, ← hl0]
      rw [← he0, ← hl0] at hline
      clear hb1 hb2 ho2 hT hln hls he0 hl0 ht0 hf0 htz
      by_cases h0 : e0 = 0
      · subst h0
        obtain rfl : l0 = 0 := hline rfl
        clear hline
        go_wp2_with fail
        (with_reducible refine HC.out.mono ?_)
        rintro e w3 ⟨rfl, hb3⟩
        have HB3 := Lib.hid (HB.out.trans (hb3.mono HB.out.size))
        have HT3 := Lib.hid ((HT.out.below hb3).more hb3.size)
        clear hb3
        by_cases hf : f0 = 0
        · have HL2 : Hid (loadR s.data.toList = (t0, 0, 0)) := Lib.hid (by rw [HL.out, if_neg (by decide), if_neg (by simpa using hf)])
          subst hf
          go_wp2_with fail
          refine bodyPost_ret (v := .tuple #[.slice At nt ct, .int .i64 0, .int .i64 0]) (by simp [results, Tryz.results13, go_sem]) rfl ?_
          rw [HL2.out]
          exact ⟨At, nt, ct, rfl, HT3.out, hnt, hct, HB3.out⟩
        · have HL2 : Hid (loadR s.data.toList = (.nil, 0, ((f0 : Nat) : Int))) := Lib.hid (by rw [HL.out, if_neg (by decide), if_pos (by simpa using hf)])
          have hfb : ((f0 : Int) != 0) = true := bne_iff_ne.2 (by omega)
          clear hf
          go_wp2_with fail
          refine bodyPost_ret (v := .tuple #[.slice none 0 0, .int .i64 0, .int .i64 f0]) (by simp [results, Tryz.results13, go_sem]) rfl ?_
          rw [HL2.out]
          exact ⟨none, 0, 0, rfl, rfl, Nat.le_refl _, Nat.zero_le _, HB3.out⟩
      · have hvb : (e0 != 0) = true := bne_iff_ne.2 h0
        have hvb2 : (e0 == 0) = false := beq_eq_false_iff_ne.2 h0
        have HL2 : Hid (loadR s.data.toList = (.nil, l0, e0)) := Lib.hid (by rw [HL.out, if_pos h0])
        clear h0 hline
        go_wp2_with fail
        refine bodyPost_ret (v := .tuple #[.slice none 0 0, .int .i64 l0, .int .i64 e0]) (by simp [results, Tryz.results13, go_sem]) rfl ?_
        rw [HL2.out]
        exact ⟨none, 0, 0, rfl, rfl, Nat.le_refl _, Nat.zero_le _, HB.out⟩
end Go.Proofs.YtlcbhooiinaalaaGreatDoor.Cv
namespace Go.Proofs.YtlcbhooiinaalaaGreatDoor
open Go.RowKit
set_option maxRecDepth 100000

def Tr.same : Tr → Tr → Bool
  | .nil, .nil => true
  | .cons s k r, .cons s' k' r' => (s.toList == s'.toList) && k.same k' && r.same r'
  | _, _ => false
theorem same_len : ∀ {t u : Tr}, t.same u = true → t.len = u.len
  | .nil, .nil, _ => rfl
  | .cons s k r, .cons s' k' r', h => by
    simp only [Tr.same, Bool.and_eq_true] at h
    simp only [Tr.len, same_len h.2]
  | .nil, .cons _ _ _, h => by simp [Tr.same] at h
  | .cons _ _ _, .nil, h => by simp [Tr.same] at h
theorem same_refl (t : Tr) : t.same t = true := by
  induction t with
  | nil => rfl
  | cons s k r ihk ihr => simp [Tr.same, ihk, ihr]

set_option maxHeartbeats 1000000 in
theorem rsame_any (N : Nat) : ∀ (t u : Tr) (A A2 : Option Addr) (n n2 c c2 B : Nat) (w : World), t.size ≤ N → Holds w B A n t → Holds w B A2 n2 u → B ≤ w.heap.size → n ≤ 140737488351232 → n2 ≤ 140737488351232 → t.Low → u.Low →
    Calls Tryz.prog 14 #[.slice A n c, .slice A2 n2 c2] w fun e w' => e = .returned (.bool (t.same u)) ∧ ∃ q, w' = w.drewN q := by
  induction N with
  | zero =>
    intro t u A A2 n n2 c c2 B w hN h h2 hB hn hn2 hl hl2
    cases t with
    | cons s k r => simp [Tr.size] at hN
    | nil =>
      obtain rfl : n = 0 := h
      have Hl2 := Lib.hid h2.len
      by_cases h0 : n2 = 0
      · subst h0
        have hu : u = .nil := by
          cases u with
          | nil => rfl
          | cons _ _ _ => have := Hl2.out; simp [Tr.len] at this
        subst hu
        go_enter Tryz.func14, Tryz.ntmps14
        go_wp2_with fail
        go_loop [5] (fun i => i = .int .i64 0) (fun _ => 0)
        case atStart => rfl
        case round =>
          subst hrel
          go_wp2_with fail
          go_ret
          exact ⟨rfl, 0, rfl⟩
      · have hne : ((0 : Int) != (n2 : Int)) = true := by rw [bne_iff_ne]; omega
        have hs : Tr.nil.same u = false := by
          cases u with
          | nil => exact absurd Hl2.out (by simpa [Tr.len] using h0)
          | cons _ _ _ => rfl
        have Hs := Lib.hid hs
        clear hs
        go_enter Tryz.func14, Tryz.ntmps14
        go_wp2_with fail
        go_ret
        exact ⟨by rw [Hs.out]; rfl, 0, rfl⟩
  | succ N ih =>
    intro t u A A2 n n2 c c2 B w hN h h2 hB hn hn2 hl hl2
    have Hl := Lib.hid h.len
    have Hl2 := Lib.hid h2.len
    by_cases h0 : n = n2
    · subst h0
      have hne : ((n : Int) != (n : Int)) = false := by simp
      go_enter Tryz.func14, Tryz.ntmps14
      go_wp2_with fail
      go_loopw [5] (fun i wr => ∃ (k : Nat), k ≤ n ∧ i = .int .i64 k ∧ Holds wr B A n t ∧ Holds wr B A2 n u ∧ B ≤ wr.heap.size ∧ Hid (∃ q, wr = w.drewN q) ∧ Hid ((t.dropT k).same (u.dropT k) = t.same u)) (fun i _ => n - (intOf i).toNat)
      case atStart => exact ⟨0, by omega, rfl, h, h2, hB, Lib.hid ⟨0, rfl⟩, by rw [dropT_zero, dropT_zero]; exact Lib.hid rfl⟩
      case round =>
        obtain ⟨k, hk, rfl, hw1, hw2, hBr, Hq, He⟩ := hrel
        by_cases hlt : k < n
        · obtain ⟨b, o, s, kt, r, A', n', c', rfl, hb, hs, hc, hn', hc', hk', hr, hd, hd2⟩ := hw1.split k hlt
          obtain ⟨b2, o2, s2, kt2, r2, A2', n2', c2', rfl, hb2, hs2, hc2, hn2', hc2', hk2', hr2, hd3, hd4⟩ := hw2.split k hlt
          have hkn : (k : Int) < (n : Int) := by omega
          have hk0 : (0 : Int) ≤ (k : Int) := by omega
          by_cases hss : s.toList = s2.toList
          · have hq1 : (s.toList != s2.toList) = false := by rw [hss]; simp
            have hsz := size_drop t k
            rw [hd] at hsz
            simp only [Tr.size] at hsz
            have hlk := hl.drop k
            rw [hd] at hlk
            have hlk2 := hl2.drop k
            rw [hd3] at hlk2
            have hkl := hk'.len
            have hkl2 := hk2'.len
            have HC := Lib.hid (fun (W : World) (h1 : Holds W B A' n' kt) (h2 : Holds W B A2' n2' kt2) (hW : B ≤ W.heap.size) => ih kt kt2 A' A2' n' n2' c' c2' B W (by omega) h1 h2 hW (by have := hlk.1; omega) (by have := hlk2.1; omega) hlk.2.1 hlk2.2.1)
            have He2 : Hid (t.same u = (kt.same kt2 && (t.dropT (k + 1)).same (u.dropT (k + 1)))) := by
              have := He.out
              rw [hd, hd3] at this
              simp only [Tr.same] at this
              rw [hd2, hd4, ← this, hss]
              exact Lib.hid (by simp)
            obtain ⟨v, hv⟩ : ∃ v, v = kt.same kt2 := ⟨_, rfl⟩
            rw [← hv] at HC He2
            clear hv hq1 hd hd2 hd3 hd4 He hsz hlk hlk2 hkl hkl2 hN
            cases v with
            | true =>
              go_wp2_with fail
              go_quiet ((go_at_call 14; exact Calls.quiet_of (HC.out _ (hk'.drewN _) (hk2'.drewN _) hBr)))
              go_wp2_with fail
              go_roundw
              case rel => exact ⟨k + 1, by omega, by go_num, hw1.drewN _, hw2.drewN _, hBr, Lib.hid (by obtain ⟨q, hq⟩ := Hq.out; rw [hq]; exact ⟨_, World.drewN_drewN _ _ _⟩), by have := He2.out; rw [Bool.true_and] at this; exact Lib.hid this.symm⟩
              case measure => simp [intOf]; omega
            | false =>
              go_wp2_with fail
              go_quiet ((go_at_call 14; exact Calls.quiet_of (HC.out _ (hk'.drewN _) (hk2'.drewN _) hBr)))
              go_wp2_with fail
              go_ret
              exact ⟨by rw [He2.out]; rfl, by obtain ⟨q, hq⟩ := Hq.out; rw [hq]; exact ⟨_, World.drewN_drewN _ _ _⟩⟩
          · have hq1 : (s.toList != s2.toList) = true := by simp [hss]
            have He2 : Hid (t.same u = false) := by
              have := He.out
              rw [hd, hd3] at this
              simp only [Tr.same] at this
              rw [← this]
              exact Lib.hid (by simp [hss])
            clear hd hd2 hd3 hd4 He hN
            go_wp2_with fail
            go_quiet (fail)
            go_wp2_with fail
            go_ret
            exact ⟨by rw [He2.out]; rfl, by obtain ⟨q, hq⟩ := Hq.out; rw [hq]; exact ⟨_, World.drewN_drewN _ _ _⟩⟩
        · obtain rfl : k = n := by omega
          have He2 : Hid (t.same u = true) := by
            have := He.out
            rw [drop_len t k (by rw [← Hl.out]; exact Nat.le_refl _), drop_len u k (by rw [← Hl2.out]; exact Nat.le_refl _)] at this
            exact this.symm
          clear He hlt hN
          go_wp2_with fail
          go_ret
          exact ⟨by rw [He2.out]; rfl, Hq.out⟩
    · have hne : ((n : Int) != (n2 : Int)) = true := by rw [bne_iff_ne]; omega
      have hs : t.same u = false := by
        cases hv : t.same u with
        | false => rfl
        | true => exact absurd (same_len hv) (by rw [← Hl.out, ← Hl2.out]; exact h0)
      have Hs := Lib.hid hs
      clear hs h0
      go_enter Tryz.func14, Tryz.ntmps14
      go_wp2_with fail
      go_ret
      exact ⟨by rw [Hs.out]; rfl, 0, rfl⟩
end Go.Proofs.YtlcbhooiinaalaaGreatDoor
