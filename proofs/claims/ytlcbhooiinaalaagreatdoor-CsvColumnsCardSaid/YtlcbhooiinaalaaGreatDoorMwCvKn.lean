/- csv's closed readings. No conditions. · csv's laws: a number within a bound; the chapter's example; what a tree's text is. Conditions: MaxLen's cell. · strings.Builder.WriteString at a builder of the call's own. Conditions: at most 2^47 bytes. · lines.Join, lines.End, cmp.Or, the document's own End and Same. Conditions: lengths below 2^40. -/
import Derived.Test.YtlcbhooiinaalaaGreatDoorMwRQuote
import Derived.Test.YtlcbhooiinaalaaGreatDoorWithW
import Derived.Deep.RegionHeld3
import Derived.Deep.CutRange
import Derived.Test.YtlcbhooiinaalaaGreatDoorMwLiRow
import Derived.Test.YtlcbhooiinaalaaGreatDoorShelf
import Derived.Lib.Builder
import Derived.Lib.AppendStr
import Derived.Laws.Externs
import Derived.Outline
import Derived.Test.YtlcbhooiinaalaaGreatDoorMwCvReadM
import Derived.Deep.LoopGhost
import Derived.BigQuiet
import Derived.Deep.QuietTactic
namespace Go.Proofs.YtlcbhooiinaalaaGreatDoor.Cv
open Go.RowKit Go.Proofs.YtlcbhooiinaalaaGreatDoor.Jd Go.Proofs.YtlcbhooiinaalaaGreatDoor.Li Go.Proofs.YtlcbhooiinaalaaGreatDoor.Cl
set_option maxRecDepth 100000

instance rwEq : DecidableEq Rw := fun a b =>
  if h : a.fs = b.fs ∧ a.en = b.en then isTrue (by cases a; cases b; cases h.1; cases h.2; rfl) else isFalse (fun hab => h (by cases hab; exact ⟨rfl, rfl⟩))

def T1 : Tr := (.cons ⟨#[120]⟩ (.cons ⟨#[97]⟩ (.cons ⟨#[49]⟩ .nil .nil) .nil) .nil)
def T2 : Tr := (.cons ⟨#[120]⟩ .nil .nil)
def T3 : Tr := (.cons ⟨#[120, 44]⟩ (.cons ⟨#[97, 44, 34, 98]⟩ (.cons ⟨#[32, 121, 32]⟩ .nil .nil) .nil) .nil)
theorem pl_kn : plB [107, 101, 121, 44, 97, 10, 120, 44, 49, 10] = true := by decide +kernel
theorem rw_kn : rowsF [] 0 (split [107, 101, 121, 44, 97, 10, 120, 44, 49, 10]) = ([⟨[([107, 101, 121], [107, 101, 121]), ([97], [97])], ⟨#[10]⟩⟩, ⟨[([120], [120]), ([49], [49])], ⟨#[10]⟩⟩], 0, 0) := by decide +kernel
theorem rd_kn : readF [107, 101, 121, 44, 97, 10, 120, 44, 49, 10] = (T1, 0, 0) := readF_ok (by decide) rw_kn ((tree1 _ _ (by decide +kernel)).trans (by rfl)) (by decide +kernel)
theorem pl_k0 : plB [107, 101, 121, 10] = true := by decide +kernel
theorem rw_k0 : rowsF [] 0 (split [107, 101, 121, 10]) = ([⟨[([107, 101, 121], [107, 101, 121])], ⟨#[10]⟩⟩], 0, 0) := by decide +kernel
theorem rd_k0 : readF [107, 101, 121, 10] = (.nil, 0, 0) := readF_ok (by decide) rw_k0 (tree0 _) (by decide +kernel)
theorem pl_k1 : plB [34, 107, 101, 121, 34, 44, 97, 13, 10, 120, 44, 49, 13, 10] = true := by decide +kernel
theorem rw_k1 : rowsF [] 0 (split [34, 107, 101, 121, 34, 44, 97, 13, 10, 120, 44, 49, 13, 10]) = ([⟨[([34, 107, 101, 121, 34], [107, 101, 121]), ([97], [97])], ⟨#[13, 10]⟩⟩, ⟨[([120], [120]), ([49], [49])], ⟨#[13, 10]⟩⟩], 0, 0) := by decide +kernel
theorem rd_k1 : readF [34, 107, 101, 121, 34, 44, 97, 13, 10, 120, 44, 49, 13, 10] = (T1, 0, 0) := readF_ok (by decide) rw_k1 ((tree1 _ _ (by decide +kernel)).trans (by rfl)) (by decide +kernel)
theorem pl_k2 : plB [107, 101, 121, 44, 97, 44, 98, 10, 120, 44, 44, 34, 34, 10] = true := by decide +kernel
theorem rw_k2 : rowsF [] 0 (split [107, 101, 121, 44, 97, 44, 98, 10, 120, 44, 44, 34, 34, 10]) = ([⟨[([107, 101, 121], [107, 101, 121]), ([97], [97]), ([98], [98])], ⟨#[10]⟩⟩, ⟨[([120], [120]), ([], []), ([34, 34], [])], ⟨#[10]⟩⟩], 0, 0) := by decide +kernel
theorem rd_k2 : readF [107, 101, 121, 44, 97, 44, 98, 10, 120, 44, 44, 34, 34, 10] = (T2, 0, 0) := readF_ok (by decide) rw_k2 ((tree1 _ _ (by decide +kernel)).trans (by rfl)) (by decide +kernel)
theorem pl_k3 : plB [107, 101, 121, 44, 34, 97, 44, 34, 34, 98, 34, 10, 34, 120, 44, 34, 44, 32, 121, 32, 10] = true := by decide +kernel
theorem rw_k3 : rowsF [] 0 (split [107, 101, 121, 44, 34, 97, 44, 34, 34, 98, 34, 10, 34, 120, 44, 34, 44, 32, 121, 32, 10]) = ([⟨[([107, 101, 121], [107, 101, 121]), ([34, 97, 44, 34, 34, 98, 34], [97, 44, 34, 98])], ⟨#[10]⟩⟩, ⟨[([34, 120, 44, 34], [120, 44]), ([32, 121, 32], [32, 121, 32])], ⟨#[10]⟩⟩], 0, 0) := by decide +kernel
theorem rd_k3 : readF [107, 101, 121, 44, 34, 97, 44, 34, 34, 98, 34, 10, 34, 120, 44, 34, 44, 32, 121, 32, 10] = (T3, 0, 0) := readF_ok (by decide) rw_k3 ((tree1 _ _ (by decide +kernel)).trans (by rfl)) (by decide +kernel)
theorem pl_k4 : plB [107, 101, 121, 44, 97] = true := by decide +kernel
theorem rw_k4 : rowsF [] 0 (split [107, 101, 121, 44, 97]) = ([⟨[([107, 101, 121], [107, 101, 121]), ([97], [97])], ⟨#[]⟩⟩], 0, 0) := by decide +kernel
theorem rd_k4 : readF [107, 101, 121, 44, 97] = (.nil, 0, 0) := readF_ok (by decide) rw_k4 (tree0 _) (by decide +kernel)
theorem pl_k5 : plB [] = true := by decide +kernel
theorem rd_k5 : readF [] = (.nil, 0, 2) := by rfl
theorem pl_k6 : plB [110, 97, 109, 101, 44, 97, 10] = true := by decide +kernel
theorem rd_k6 : readF [110, 97, 109, 101, 44, 97, 10] = (.nil, 1, 6) := readF_no (q := []) (by decide) (by decide +kernel) (by decide)
theorem pl_k7 : plB [107, 101, 121, 44, 97, 44, 97, 10] = true := by decide +kernel
theorem rd_k7 : readF [107, 101, 121, 44, 97, 44, 97, 10] = (.nil, 1, 7) := readF_no (q := []) (by decide) (by decide +kernel) (by decide)
theorem pl_k8 : plB [107, 101, 121, 44, 107, 101, 121, 10] = true := by decide +kernel
theorem rd_k8 : readF [107, 101, 121, 44, 107, 101, 121, 10] = (.nil, 1, 6) := readF_no (q := []) (by decide) (by decide +kernel) (by decide)
theorem pl_k9 : plB [107, 101, 121, 44, 10] = true := by decide +kernel
theorem rd_k9 : readF [107, 101, 121, 44, 10] = (.nil, 1, 6) := readF_no (q := []) (by decide) (by decide +kernel) (by decide)
theorem pl_k10 : plB [107, 101, 121, 44, 97, 10, 120, 10] = true := by decide +kernel
theorem rd_k10 : readF [107, 101, 121, 44, 97, 10, 120, 10] = (.nil, 2, 6) := readF_no (q := []) (by decide) (by decide +kernel) (by decide)
theorem pl_k11 : plB [107, 101, 121, 44, 97, 10, 120, 44, 49, 44, 50, 10] = true := by decide +kernel
theorem rd_k11 : readF [107, 101, 121, 44, 97, 10, 120, 44, 49, 44, 50, 10] = (.nil, 2, 6) := readF_no (q := []) (by decide) (by decide +kernel) (by decide)
theorem pl_k12 : plB [107, 101, 121, 44, 97, 10, 120, 44, 49, 10, 120, 44, 50, 10] = true := by decide +kernel
theorem rd_k12 : readF [107, 101, 121, 44, 97, 10, 120, 44, 49, 10, 120, 44, 50, 10] = (.nil, 3, 7) := readF_no (q := []) (by decide) (by decide +kernel) (by decide)
theorem pl_k13 : plB [107, 101, 121, 44, 97, 10, 44, 49, 10] = true := by decide +kernel
theorem rd_k13 : readF [107, 101, 121, 44, 97, 10, 44, 49, 10] = (.nil, 2, 6) := readF_no (q := []) (by decide) (by decide +kernel) (by decide)
theorem pl_k14 : plB [107, 101, 121, 44, 97, 10, 120, 44, 34, 49, 10] = true := by decide +kernel
theorem rd_k14 : readF [107, 101, 121, 44, 97, 10, 120, 44, 34, 49, 10] = (.nil, 2, 6) := readF_no (q := []) (by decide) (by decide +kernel) (by decide)
theorem pl_k15 : plB [107, 101, 121, 44, 97, 10, 120, 44, 34, 49, 34, 50, 10] = true := by decide +kernel
theorem rd_k15 : readF [107, 101, 121, 44, 97, 10, 120, 44, 34, 49, 34, 50, 10] = (.nil, 2, 6) := readF_no (q := []) (by decide) (by decide +kernel) (by decide)
theorem pl_k16 : plB [107, 101, 121, 44, 97, 10, 120, 44, 49, 34, 10] = true := by decide +kernel
theorem rd_k16 : readF [107, 101, 121, 44, 97, 10, 120, 44, 49, 34, 10] = (.nil, 2, 6) := readF_no (q := []) (by decide) (by decide +kernel) (by decide)
theorem pl_k17 : plB [107, 101, 121, 10, 10] = true := by decide +kernel
theorem rd_k17 : readF [107, 101, 121, 10, 10] = (.nil, 2, 6) := readF_no (q := []) (by decide) (by decide +kernel) (by decide)
theorem pl_k18 : plB [107, 101, 121, 44, 97, 10, 120, 44, 49, 13, 50, 10] = true := by decide +kernel
theorem rd_k18 : readF [107, 101, 121, 44, 97, 10, 120, 44, 49, 13, 50, 10] = (.nil, 2, 6) := readF_no (q := []) (by decide) (by decide +kernel) (by decide)
theorem tx_nil : Pt.ba (Tr.text Tr.nil) = ⟨#[123, 125]⟩ := by decide +kernel
theorem tx_T1 : Pt.ba (Tr.text T1) = ⟨#[123, 34, 120, 34, 58, 32, 123, 34, 97, 34, 58, 32, 123, 34, 49, 34, 58, 32, 123, 125, 125, 125, 125]⟩ := by decide +kernel
theorem tx_T2 : Pt.ba (Tr.text T2) = ⟨#[123, 34, 120, 34, 58, 32, 123, 125, 125]⟩ := by decide +kernel
theorem tx_T3 : Pt.ba (Tr.text T3) = ⟨#[123, 34, 120, 44, 34, 58, 32, 123, 34, 97, 44, 92, 34, 98, 34, 58, 32, 123, 34, 32, 121, 32, 34, 58, 32, 123, 125, 125, 125, 125]⟩ := by decide +kernel
end Go.Proofs.YtlcbhooiinaalaaGreatDoor.Cv
namespace Go.Proofs.YtlcbhooiinaalaaGreatDoor.Cv
open Go.RowKit Go.Proofs.YtlcbhooiinaalaaGreatDoor.Jd Go.Proofs.YtlcbhooiinaalaaGreatDoor.Li Go.Proofs.YtlcbhooiinaalaaGreatDoor.Cl
set_option maxRecDepth 100000

theorem tmod_pos7 {a n : Int} (hn : 0 < n) (h : 0 ≤ a.tmod n) : a.tmod n = a % n := by
  have h1 := Int.tmod_add_mul_tdiv a n
  have h2 := Int.tmod_lt_of_pos a hn
  conv => rhs; rw [← h1]
  rw [Int.add_mul_emod_self_left, Int.emod_eq_of_lt h h2]
theorem tmod_neg7 {a n : Int} (hn : 0 < n) (h : a.tmod n < 0) : a.tmod n + n = a % n := by
  have h1 := Int.tmod_add_mul_tdiv a n
  have h2 := Int.lt_tmod_of_pos a hn
  conv => rhs; rw [← h1]
  rw [Int.add_mul_emod_self_left, ← Int.add_emod_right, Int.emod_eq_of_lt (by omega) (by omega)]
set_option maxHeartbeats 400000 in
theorem within_any (a n : Int) (hn : 0 < n) (hn2 : n ≤ 2147483647) (ha : -9223372036854775808 ≤ a ∧ a ≤ 9223372036854775807) (w : World) : Calls Tryz.prog 10 #[.int .i64 a, .int .i64 n] w fun e w' => e = .returned (.int .i64 (a % n)) ∧ w = w' := by
  obtain ⟨hx1, hx2⟩ := ha
  have hm1 := Int.tmod_lt_of_pos a hn
  have hm2 := Int.lt_tmod_of_pos a hn
  by_cases h : a.tmod n < 0
  · have Hf := Lib.hid (tmod_neg7 hn h)
    go_enter Tryz.func10, Tryz.ntmps10
    go_wp2
    go_ret
    exact ⟨by rw [← Hf.out]; rfl, rfl⟩
  · have Hf := Lib.hid (tmod_pos7 hn (by omega : 0 ≤ a.tmod n))
    go_enter Tryz.func10, Tryz.ntmps10
    go_wp2
    go_ret
    exact ⟨by rw [← Hf.out]; rfl, rfl⟩
theorem within_nat (a : Int) (n : Nat) (hn : 0 < n) (hn2 : n ≤ 2147483647) (ha : -9223372036854775808 ≤ a ∧ a ≤ 9223372036854775807) : ∃ j : Nat, j < n ∧ ∀ w, Calls Tryz.prog 10 #[.int .i64 a, .int .i64 n] w fun e w' => e = .returned (.int .i64 j) ∧ w = w' := by
  refine ⟨(a % n).toNat, by have := Int.emod_lt_of_pos a (show (0 : Int) < n by omega); have := Int.emod_nonneg a (show (n : Int) ≠ 0 by omega); omega, fun w => ?_⟩
  rw [Int.toNat_of_nonneg (Int.emod_nonneg a (by omega))]
  exact within_any a n (by omega) (by omega) ha w

theorem text_of (T : Tr) (b : ByteArray) (hb : Pt.ba T.text = b) (hs : T.size ≤ 1000) (hl : T.text.length ≤ 1000) (W : World) (A : Option Addr) (n c : Nat) (h : Holds W W.heap.size A n T) :
    Calls Tryz.prog 27 #[.slice A n c] W fun e w' => e = .returned (.string b) ∧ Below W.heap.size W w' :=
  (Pt.rtext_any T.size T A n c W.heap.size W (Nat.le_refl _) h (Nat.le_refl _) (by omega) (by omega)).mono fun _ _ ⟨e, q, hw⟩ => ⟨by rw [e, hb], hw ▸ below_drewN (Below.refl _ _) q⟩

set_option maxHeartbeats 2000000 in
theorem known_any (w : World) (hG : Gl w) : Calls Tryz.prog 8 #[] w fun e w' => e = .returned (.bool true) ∧ Below w.heap.size w w' := by
  have hl := load_any ⟨#[107, 101, 121, 44, 97, 10, 120, 44, 49, 10]⟩ w (plB_pl pl_kn) hG
  rw [show readF (ByteArray.mk #[107, 101, 121, 44, 97, 10, 120, 44, 49, 10]).data.toList = (T1, 0, 0) from rd_kn] at hl
  have HL := Lib.hid hl
  have HT := Lib.hid (fun (W : World) (A : Option Addr) (n c : Nat) (h : Holds W W.heap.size A n T1) => text_of T1 _ tx_T1 (by decide) (by decide) W A n c h)
  clear hl
  go_enter Tryz.func8, Tryz.ntmps8
  go_wp2_with fail
  (with_reducible refine HL.out.mono ?_)
  rintro e w1 ⟨At, ct, rfl, hh, hc, hb⟩
  have hh1 := hh.to (B := w1.heap.size) (fun b hb => hb.2)
  have HH := Lib.hid (fun W (hW : Below w1.heap.size w1 W) => HT.out W At T1.len ct ((hh1.keep (w' := W) fun p hp => hW.cell hp).more hW.size))
  have HB := Lib.hid hb
  clear hh hh1 hc hb
  go_wp2_with fail
  (with_reducible refine (HH.out _ (Below.refl _ _)).mono ?_)
  rintro e v1 ⟨rfl, f1⟩
  go_wp2_with fail
  go_ret
  exact ⟨rfl, HB.out.trans (f1.mono HB.out.size)⟩
end Go.Proofs.YtlcbhooiinaalaaGreatDoor.Cv
namespace Go.Proofs.YtlcbhooiinaalaaGreatDoor.Li
open Go.RowKit
set_option maxRecDepth 100000

theorem size_b : (Tryz.prog.info? 156).map (·.size) = some 2 := by kernel_rfl
theorem lies_b : liesAt Tryz.prog Tryz.prog.depth 156 (2 / Tryz.prog.cellsOf 156) 0 156 1 = true := by kernel_rfl
abbrev Bld (B b : Nat) (l : Bs) (w : World) : Prop := Lib.IsBuilder 156 5 B b (Lib.byteCells l) w

set_option maxHeartbeats 1000000 in
theorem used_any (b : Nat) (w : World) (h0 : w.cell? ⟨b, 0, none⟩ = some (.pointer (some ⟨b, 0, none⟩))) :
    Calls Tryz.prog 137 #[.pointer (some ⟨b, 0, none⟩)] w fun e w' => e = .returned (.tuple #[]) ∧ w = w' := by
  obtain ⟨j, hj, _⟩ := Option.map_eq_some_iff.1 size_b
  have hq := Lib.run_neq_ptr_same (P := Tryz.prog) w ⟨b, 0, none⟩ Tryz.underlying154 hj
  go_enter Tryz.func137, Tryz.ntmps137
  go_wp2
  go_end0
  exact ⟨rfl, rfl⟩

set_option maxHeartbeats 1000000 in
theorem fresh_any (b : Nat) (w : World) (h0 : w.cell? ⟨b, 0, none⟩ = some (.pointer none)) (hsh : w.shape? b = some (156, 2)) (hfz : w.frozen? ⟨b, 0, none⟩ = false) :
    Calls Tryz.prog 137 #[.pointer (some ⟨b, 0, none⟩)] w fun e w' => e = .returned (.tuple #[]) ∧ w' = w.setCell ⟨b, 0, none⟩ (.pointer (some ⟨b, 0, none⟩)) := by
  obtain ⟨j, hj, hjs⟩ := Option.map_eq_some_iff.1 size_b
  have k1 := Lib.run_to_unsafe (P := Tryz.prog) w ⟨b, 0, none⟩ Tryz.underlying154 Tryz.underlying209 hj (by rw [hjs]; decide) hsh (Nat.zero_lt_succ 1)
  have k2 := Lib.run_from_unsafe (P := Tryz.prog) w ⟨b, 0, none⟩ Tryz.underlying209 Tryz.underlying154 hj hsh lies_b
  go_enter Tryz.func137, Tryz.ntmps137
  go_wp2
  rw [run_callFunc_extern Tryz.func159 (by kernel_rfl) (by kernel_rfl) (by kernel_rfl) (e := Extern.AbiNoEscape.same) (by kernel_rfl)]
  rw [Lib.run_noEscape]
  simp only [Result.andThen]
  rw [Oper.upon_value]
  go_wp2
  go_end0
  exact ⟨rfl, rfl⟩
theorem check_any (B b : Nat) (bs : List Value) (w : World) (h : Lib.IsBuilder 156 5 B b bs w) :
    Calls Tryz.prog 137 #[.pointer (some ⟨b, 0, none⟩)] w fun e w' => e = .returned (.tuple #[]) ∧ Lib.BuilderAt 156 5 B b (.pointer (some ⟨b, 0, none⟩)) bs w' ∧ Below B w w' ∧ (∀ g, g ≠ b → w'.heap[g]? = w.heap[g]?) ∧ w.heap.size ≤ w'.heap.size := by
  rcases h with h | h
  · refine (fresh_any b w h.cell0 h.shape h.frozen0).mono ?_
    rintro e w' ⟨rfl, rfl⟩
    exact ⟨rfl, h.used _, (Below.refl B w).setCell (p := ⟨b, 0, none⟩) h.1 _, fun g hg => heap_setCell_other _ _ _ _ hg, by simp [World.setCell]⟩
  · refine (used_any b w h.cell0).mono ?_
    rintro e w' ⟨rfl, rfl⟩
    exact ⟨rfl, h, Below.refl B _, fun _ _ => rfl, Nat.le_refl _⟩

/-- All but block b and rows of bytes stays. -/
def Others (b : Nat) (w w' : World) : Prop := ∀ g, g < w.heap.size → g ≠ b → (∀ cs fr, w.heap[g]? ≠ some (.cells cs 5 fr)) → w'.heap[g]? = w.heap[g]?
set_option maxHeartbeats 2000000 in
theorem write_any (B b : Nat) (l : Bs) (s : ByteArray) (w : World) (h : Bld B b l w) (hlen : l.length + s.size ≤ 140737488355328) (hBw : B ≤ w.heap.size) :
    Calls Tryz.prog 107 #[.pointer (some ⟨b, 0, none⟩), .string s] w fun e w' => e = .returned (.tuple #[.int .i64 s.size, .nilIface]) ∧ Bld B b (l ++ s.data.toList) w' ∧ Below B w w' ∧ Others b w w' := by
  obtain ⟨i0, hi, hz0, hz1, hz2⟩ := info_parts info_u8
  have hll := Lib.byteCells_length l
  have HB := Lib.hid hll
  clear hll
  go_enter Tryz.func107, Tryz.ntmps107
  go_wp2_with (go_at_call 137; (with_reducible refine (check_any B b _ _ h).mono ?_))
  rintro e w1 ⟨rfl, h1, hb1, ho1, hz⟩
  have Ho1 := Lib.hid ho1
  clear ho1
  obtain ⟨hB, v, hbk, hown, hne⟩ := h1
  have c0 : w1.cell? ⟨b, 0, none⟩ = some (.pointer (some ⟨b, 0, none⟩)) := by rw [Lib.cell_of_heap hbk]; rfl
  have c1 : w1.cell? ⟨b, 1, none⟩ = some v := by rw [Lib.cell_of_heap hbk]; rfl
  have hlt : b < w1.heap.size := (Array.getElem?_eq_some_iff.1 hbk).1
  have hB1 : B ≤ w1.heap.size := Nat.le_trans hBw hb1.size
  have HK := Lib.hid hbk
  clear hbk
  go_wp2_with (at_builtin; refine Lib.wpList_append_own_string _ rfl _ _ 26 9 rfl B 5 i0 Tryz.underlying26 Tryz.underlying9 hi hz0 hz1 hz2 _ _ _ rfl hown s rfl ?c3 ?c4 ?c5 ?_)
  case c3 => have := HB.out; unfold maxLen; omega
  case c4 => have := HB.out; omega
  case c5 => exact hB1
  intro v' w2 hown' hgrow _
  have hb2 : w2.heap[b]? = some (.cells #[.pointer (some ⟨b, 0, none⟩), v] 156 (0, 0)) := by
    rw [hgrow.block b hlt (fun e => hne e.symm)]
    exact HK.out
  have d0 : w2.cell? ⟨b, 0, none⟩ = some (.pointer (some ⟨b, 0, none⟩)) := by rw [Lib.cell_of_heap hb2]; rfl
  have d1 : w2.cell? ⟨b, 1, none⟩ = some v := by rw [Lib.cell_of_heap hb2]; rfl
  have f1 : w2.frozen? ⟨b, 1, none⟩ = false := Lib.frozen_of_heap hb2 1
  obtain ⟨ao, n', cap, rfl⟩ : ∃ ao n' cap, v' = .slice ao n' cap := by
    rcases hown'.2 with ⟨hv, _⟩ | ⟨g, cap, cur, hv, _⟩
    · exact ⟨_, _, _, hv⟩
    · exact ⟨_, _, _, hv⟩
  have HK2 := Lib.hid hb2
  have HO := Lib.hid hown'
  clear hb2 hown'
  go_wp2_with fail
  go_ret2
  refine ⟨rfl, ?_, ?_, ?_⟩
  · right
    have hc : Lib.byteCells (l ++ s.data.toList) = Lib.byteCells l ++ Lib.strCells s := by rw [Lib.strCells_eq]; simp [Lib.byteCells]
    rw [hc]
    exact Lib.BuilderAt.put (T := 156) (e := 5) hB HK2.out (bs' := Lib.byteCells l ++ Lib.strCells s) (by simpa [Lib.strCells_length] using HO.out) (by decide)
  · exact (hb1.grown hgrow hB1 (fun k hk => (hown.lt k hk).1)).setCell (p := ⟨b, 1, none⟩) hB _
  · intro g hg hgb hgc
    rw [heap_setCell_other _ _ _ _ hgb, hgrow.block g (by omega) (fun e => ?_), Ho1.out g hgb]
    rcases hown.2 with ⟨e1, _⟩ | ⟨g', cap', cur, e1, _, hh, _⟩
    · rw [e1] at e; cases e
    · rw [e1] at e
      injection e with e
      simp only at e
      subst e
      rw [Ho1.out g hgb] at hh
      exact hgc _ _ hh
theorem Bld.keep {B b : Nat} {l : Bs} {w w' : World} (h : Bld B b l w) (hb : Below w.heap.size w w') : Bld B b l w' := by
  have main : ∀ p, Lib.BuilderAt 156 5 B b p (Lib.byteCells l) w → Lib.BuilderAt 156 5 B b p (Lib.byteCells l) w' := by
    rintro p ⟨h1, v, h2, h3, h4⟩
    exact ⟨h1, v, below_box hb h2, h3.kept (row := none) ⟨hb.os, hb.tape, hb.output, hb.size, fun i hi _ => hb.block i hi⟩ (by cases hv : v.ownBlock <;> simp), h4⟩
  rcases h with h | h
  · exact .inl (main _ h)
  · exact .inr (main _ h)
end Go.Proofs.YtlcbhooiinaalaaGreatDoor.Li
namespace Go.Proofs.YtlcbhooiinaalaaGreatDoor.Li
open Go.RowKit
set_option maxRecDepth 100000

theorem join_le {ls : List Ln} {j : Nat} {x : Ln} (h : ls[j]? = some x) : (join (ls.take j)).length + x.1.length + x.2.length ≤ (join ls).length := by
  have e : ls = ls.take j ++ (x :: ls.drop (j + 1)) := by
    conv => lhs; rw [← List.take_append_drop j ls]
    obtain ⟨hj, hx⟩ := List.getElem?_eq_some_iff.1 h
    rw [List.drop_eq_getElem_cons hj, hx]
  conv => rhs; rw [e]
  rw [join_append, join, List.length_append, List.length_append, List.length_append]
  omega
theorem join_snoc {ls : List Ln} {j : Nat} {x : Ln} (h : ls[j]? = some x) : join (ls.take (j + 1)) = join (ls.take j) ++ x.1 ++ x.2 := by
  obtain ⟨hj, hx⟩ := List.getElem?_eq_some_iff.1 h
  rw [List.take_succ_eq_append_getElem hj, join_append, hx]
  simp [join]
theorem box2 {w : World} {g : Nat} {u v : Value} {T : TypeId} (h : w.heap[g]? = some (.cells #[u, v] T (0, 0))) : w.cell? ⟨g, 0, none⟩ = some u ∧ w.cell? ⟨g, 1, none⟩ = some v := by
  constructor <;> (rw [cell_of_row _ _ _ _ _ _ h]; rfl)

set_option maxHeartbeats 4000000 in
theorem join_any (ls : List Ln) (A : Option Addr) (n c B : Nat) (w : World) (hB : B ≤ w.heap.size) (h : SeesL w B A n ls) (hn : n ≤ 1099511627776) (hl : (join ls).length ≤ 140737488355328) :
    Calls Tryz.prog 73 #[.slice A n c] w fun e w' => e = .returned (encs (join ls)) ∧ Below w.heap.size w w' := by
  have hlen := h.len
  have HL := Lib.hid hlen
  clear hlen
  go_enter Tryz.func73, Tryz.ntmps73
  go_wp2
  go_loopw [8] (fun i wr => ∃ k : Nat, k ≤ n ∧ i = .int .i64 k ∧ Bld w.heap.size w.heap.size (join (ls.take k)) wr ∧ Below w.heap.size w wr) (fun i _ => n - (intOf i).toNat)
  case atStart => exact ⟨0, Nat.zero_le _, rfl, Lib.fresh_isBuilder 156 5 w, (Below.refl _ _).alloc (Nat.le_refl _) _⟩
  case round =>
    obtain ⟨k, hk, rfl, hb, hw⟩ := hrel
    have hw1 := hw.size
    by_cases hlt : k < n
    · have q0 : (k : Int) < (n : Int) := by omega
      have q1 : (0 : Int) ≤ (k : Int) := by omega
      obtain ⟨x, hx⟩ : ∃ x, ls[k]? = some x := ⟨_, List.getElem?_eq_getElem (by have := HL.out; omega)⟩
      have hle := join_le hx
      obtain ⟨b, o, rfl, hbB, hc1, hc2⟩ := (h.keep (w' := wr) (fun p hp => hw.cell (Nat.lt_of_lt_of_le hp hB))).at_ hx
      have hsz1 : (⟨x.1.toArray⟩ : ByteArray).size = x.1.length := List.size_toArray
      have hsz2 : (⟨x.2.toArray⟩ : ByteArray).size = x.2.length := List.size_toArray
      obtain ⟨s1, hs1⟩ : ∃ s : ByteArray, s = ⟨x.1.toArray⟩ := ⟨_, rfl⟩
      obtain ⟨s2, hs2⟩ : ∃ s : ByteArray, s = ⟨x.2.toArray⟩ := ⟨_, rfl⟩
      have e1 : s1.data.toList = x.1 := by rw [hs1]
      have e2 : s2.data.toList = x.2 := by rw [hs2]
      rw [encs, ← hs1] at hc1
      rw [encs, ← hs2] at hc2
      rw [← hs1] at hsz1
      rw [← hs2] at hsz2
      obtain ⟨W1, hW1⟩ : ∃ W, W = wr.alloc (Obj.cells #[.string s1, .string s2] 88) := ⟨_, rfl⟩
      have hbb : Below wr.heap.size wr W1 := by rw [hW1]; exact (Below.refl _ _).alloc (Nat.le_refl _) _
      have hd1 := hb.keep hbb
      have hg1 : W1.heap[wr.heap.size]? = some (.cells #[.string s1, .string s2] 88 (0, 0)) := by rw [hW1]; exact heap_alloc_new _ _
      have hz1 : W1.heap.size = wr.heap.size + 1 := by rw [hW1]; simp
      have hwl : w.heap.size < wr.heap.size := by
        rcases hb with hb | hb <;> exact hb.lt
      have HX := Lib.hid hx
      have H1 := Lib.hid e1
      have H2 := Lib.hid e2
      have HG := Lib.hid hg1
      have HZ := Lib.hid hz1
      have HS1 := Lib.hid hsz1
      have HS2 := Lib.hid hsz2
      have HE := Lib.hid hle
      have HD := Lib.hid hd1
      have HWW := Lib.hid hW1
      clear hx e1 e2 hg1 hz1 hsz1 hsz2 hle hd1 hs1 hs2 h hb hW1
      go_wp2_with fail
      rw [← HWW.out]
      obtain ⟨p1, p2⟩ := box2 HG.out
      (with_reducible refine (write_any w.heap.size w.heap.size (join (ls.take k)) s1 W1 HD.out (by have := HS1.out; have := HE.out; omega) (by have := HZ.out; omega)).mono ?_)
      rintro e w2 ⟨rfl, hb2, hw2, ho2⟩
      have hg2 : w2.heap[wr.heap.size]? = some (.cells #[.string s1, .string s2] 88 (0, 0)) := (ho2 _ (by have := HZ.out; omega) (by omega) (fun cs fr e => by rw [HG.out] at e; simp at e)).trans HG.out
      obtain ⟨r1, r2⟩ := box2 hg2
      have HO := Lib.hid ho2
      have HB2 := Lib.hid hb2
      clear ho2 hg2 p1 p2 hb2
      go_wp2_with fail
      (with_reducible refine (write_any w.heap.size w.heap.size _ s2 w2 HB2.out (by have := HS1.out; have := HS2.out; have := HE.out; rw [List.length_append, H1.out]; omega) (by have := hw2.size; have := HZ.out; omega)).mono ?_)
      rintro e w3 ⟨rfl, hb3, hw3, ho3⟩
      have HB3 := Lib.hid hb3
      clear hb3 ho3
      go_wp2_with fail
      go_roundw
      case rel =>
        refine ⟨k + 1, by omega, by go_num, ?_, ?_⟩
        · rw [join_snoc HX.out]
          have := HB3.out
          rw [H1.out, H2.out] at this
          exact this
        · exact (hw.trans (hbb.mono hw1)).trans (hw2.trans hw3)
      case measure => simp [intOf]; omega
    · have hkn : (n : Int) ≤ (k : Int) := by omega
      obtain rfl : k = n := by omega
      have e : ls.take k = ls := List.take_of_length_le (by have := HL.out; omega)
      rw [e] at hb
      have HB := Lib.hid (Tryz.Builder_String_any w.heap.size w.heap.size (join ls) wr hb hw1)
      clear e
      go_wp2_with (go_at_call 108; (with_reducible refine HB.out.mono ?_); rintro e w2 ⟨rfl, hb2⟩)
      go_ret
      exact ⟨rfl, hw.trans hb2⟩
end Go.Proofs.YtlcbhooiinaalaaGreatDoor.Li
