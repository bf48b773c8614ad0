/- tree.Check: the first fault of a tree. Conditions: edges below 2^34, names below 2^47 bytes. · strings.IndexRune in the text "\n\r" at a rune from 128 on: there is none. · strings.IndexAny of a line's end in a text of any bytes, eight at most: where the first one stands, or there is none. · strings.IndexRune in the text of two brackets at a rune from 128 on: there is none. · strings.IndexAny of a bracket in a text of any bytes, eight at most: where the first one stands, or there is none. · strings.ContainsAny of "[;#" in a text of one byte. -/
import Derived.Test.YtgefoehpdiiomaaGreatDoorMwJudge
import Derived.Test.YtgefoehpdiiomaaGreatDoorShelf
import Derived.Test.YtgefoehpdiiomaaGreatDoorWithW
import Derived.Outline
import Derived.Laws.RangeAny
import Derived.Laws.Runes
import Derived.WalkMore
import Derived.BigQuiet
import Derived.Shelf.Small.Utf8
import Derived.Lib.OthersKept
import Derived.Lib.IndexAny
import Derived.Shelf.Strings.IndexAnyAll
namespace Go.Proofs.YtgefoehpdiiomaaGreatDoor.Jd
open Go.RowKit Go.Shelf
set_option maxRecDepth 100000
attribute [local go_sem] Oper.semAt_some

/-- Names that memory can hold. -/
def Tr.Nm : Tr → Prop
  | .nil => True
  | .cons s k r => s.size ≤ 140737488351232 ∧ Tr.Nm k ∧ Tr.Nm r
theorem flat_nm : ∀ (t : Tr) (d : Nat) (x : Nat × ByteArray × Nat), Tr.Nm t → x ∈ t.flat d → x.2.1.size ≤ 140737488351232
  | .nil, _, _, _, h => by cases h
  | .cons s k r, d, x, ⟨h1, h2, h3⟩, h => by
    simp only [Tr.flat, List.mem_cons, List.mem_append] at h
    rcases h with rfl | h | h
    · exact h1
    · exact flat_nm k _ x h2 h
    · exact flat_nm r _ x h3 h

section
variable {W W' : World} {B b o n c : Nat} {E : TypeId} {cur : Array Value} {L : List ByteArray} {A : Option Addr}
theorem Jdg.keeps (h : Jdg W B b o E cur n L A c) (hE : kinds E = false) (hk : Keeps (pI kinds) B W W') : Jdg W' B b o E cur n L A c := by
  refine ⟨hk.same _ _ h.heap (by simp [pI, hE]), h.told, h.names, ⟨h.row.1, ?_⟩, h.far, Nat.le_trans h.le hk.size⟩
  rcases h.row.2 with e | ⟨g1, cap, cu, e, hg, hh, rest⟩
  · exact .inl e
  · exact .inr ⟨g1, cap, cu, e, hg, hk.same _ _ hh rfl, rest⟩
theorem Jdg.chg (h : Jdg W B b o E cur n L A c) (hE : kinds E = false) (hb : B ≤ b) (hc : Chg b (Value.slice A L.length c).ownBlock W W') : Keeps (pB kinds) B W W' := by
  have hrow := h.row.lt
  refine ⟨hc.os, hc.tape, hc.output, hc.size, fun k hk => hc.block k (Nat.lt_of_lt_of_le hk h.le) (by omega) (fun e => by have := (hrow k e.symm).1; omega), fun k ob hk hp => ?_⟩
  refine (hc.block k (Array.getElem?_eq_some_iff.1 hk).1 (fun e => ?_) (fun e => ?_)).trans hk
  · subst e
    rw [h.heap] at hk
    cases hk
    simp [pB, hE] at hp
  · rcases h.row.2 with ⟨e1, _⟩ | ⟨g1, cap, cu, e1, hg, hh, _⟩
    · rw [e1] at e; cases e
    · rw [e1] at e
      injection e with e
      subst e
      rw [hh] at hk
      cases hk
      simp [pB] at hp
      exact absurd hp (by decide)
theorem Jdg.ne (h : Jdg W B b o E cur n L A c) {g : Nat} {cs : Array Value} {e : TypeId} {fr : Nat × Nat} (hg : W.heap[g]? = some (.cells cs e fr)) (he : e ≠ 9) : some g ≠ (Value.slice A L.length c).ownBlock := by
  intro e1
  rcases h.row.2 with ⟨e2, _⟩ | ⟨g1, cap, cu, e2, _, hh, _⟩
  · rw [e2] at e1; cases e1
  · rw [e2] at e1
    injection e1 with e1
    simp only at e1
    subst e1
    rw [hh] at hg
    injection hg with hg
    injection hg with _ hg
    exact he hg.symm
end
theorem judgeRun_ok {n : Nat} {L : List ByteArray} {x : Nat × ByteArray × Nat} {r : List (Nat × ByteArray × Nat)} (h : judgeE n L x.1 x.2.1 = 0) : judgeRun n L (x :: r) = judgeRun (n + 1) (judgeL L x.1 x.2.1) r := if_pos h
theorem judgeRun_no {n : Nat} {L : List ByteArray} {x : Nat × ByteArray × Nat} {r : List (Nat × ByteArray × Nat)} (h : ¬ judgeE n L x.1 x.2.1 = 0) : judgeRun n L (x :: r) = judgeE n L x.1 x.2.1 := if_neg h

/-- What stands in the boxes, these edges having come. -/
def ChkI (B g gr : Nat) (t : Tr) (w0 : World) (pre : List Handed) (W : World) : Prop :=
  (∃ cur L A c rest, Jdg W B g 0 105 cur pre.length L A c ∧ pre.map Handed.word ++ rest = t.flat 1 ∧ judgeRun pre.length L rest = t.fault ∧ Smooth L.length rest ∧ pre.length ≤ 400) ∧
  W.heap[gr]? = some (.cells #[.int .i64 0] 31 (0, 0)) ∧ Below B w0 W
def ChkX (B gr : Nat) (t : Tr) (w0 : World) (c : Code) (_ : List Handed) (W : World) : Prop :=
  c = .ret ∧ W.heap[gr]? = some (.cells #[.int .i64 (t.fault : Nat)] 31 (0, 0)) ∧ Below B w0 W
theorem ChkI.bears (B g gr : Nat) (t : Tr) (w0 : World) : Bears kinds B (ChkI B g gr t w0) := by
  rintro pre W W' ⟨⟨cur, L, A, c, rest, h1, h2⟩, h3, h4⟩ hk
  exact ⟨⟨cur, L, A, c, rest, h1.keeps rfl hk, h2⟩, hk.same _ _ h3 rfl, h4.trans hk.below⟩
theorem ChkX.bears (B gr : Nat) (t : Tr) (w0 : World) (c : Code) : Bears kinds B (ChkX B gr t w0 c) := by
  rintro pre W W' ⟨h1, h3, h4⟩ hk
  exact ⟨h1, hk.same _ _ h3 rfl, h4.trans hk.below⟩

set_option maxHeartbeats 2000000 in
theorem check_any (A : Option Addr) (c : Nat) (t : Tr) (w : World) (h : Holds w w.heap.size A t.len t) (hc : t.len ≤ c) (hm : c ≤ maxLen) (hsz : t.size ≤ 17179869184) (hnm : Tr.Nm t) :
    Calls Tryz.prog 40 #[.slice A t.len c] w fun e w' => e = .returned (.int .i64 (t.fault : Nat)) ∧ Below w.heap.size w w' := by
  obtain ⟨xs, hxs, hseq⟩ := edges_seq 3 A c t w h hc hm (by omega)
  obtain ⟨xl, hxl2⟩ : ∃ n, n = t.len := ⟨_, rfl⟩
  rw [← hxl2] at hc hseq ⊢
  have Hxs := Lib.hid hxs
  have Hnm := Lib.hid hnm
  clear hxs hxl2 hnm
  refine (callsIn_wide (n := 4)).1 ?_
  refine callsIn_of_wp_marks Tryz.func40 rfl trivial ?_ rfl
  simp only [Tryz.ntmps40, List.size_toArray, List.length_cons, List.length_nil, Nat.reduceAdd, Nat.reduceSub, Array.replicate_succ, Array.replicate_zero, List.push_toArray, List.append_toArray, List.nil_append, List.cons_append]
  gi_wp2_with (refine ⟨trivial, ?_⟩; gi_at_call 61; refine (callsIn_wide.2 (edges_any _ _ _ _)).mono ?_; rintro e w1 ⟨rfl, rfl⟩)
  have hgr := heap_alloc_new w (.cells #[.int .i64 0] 31)
  have hgx := heap_alloc_new (w.alloc (.cells #[.int .i64 0] 31)) (.cells #[.int .i64 0, .slice none 0 0] 105)
  have htx := heap_alloc_new ((w.alloc (.cells #[.int .i64 0] 31)).alloc (.cells #[.int .i64 0, .slice none 0 0] 105)) (.cells #[.slice A xl c] 30)
  simp only [World.size_alloc] at hgx htx
  have hb3 : Below w.heap.size w (((w.alloc (.cells #[.int .i64 0] 31)).alloc (.cells #[.int .i64 0, .slice none 0 0] 105)).alloc (.cells #[.slice A xl c] 30)) :=
    (((Below.refl _ w).alloc (Nat.le_refl _) _).alloc (by simp) _).alloc (by simp; omega) _
  refine wpIn_rangeFunc_T (T := kinds) (B := w.heap.size) rfl (by omega) (gf := 80) (lb := #[.pointer (some ⟨w.heap.size + 1 + 1, 0, none⟩)]) rfl trivial (enters_of Tryz.func80 (by kernel_rfl) rfl)
    (hseq _ hb3 _ (by rw [cell_of_row _ _ 0 _ _ _ htx]; rfl)) (Below.refl _ _) (by simp; omega) (fun _ => rfl)
    (ChkI w.heap.size (w.heap.size + 1) w.heap.size t w) (ChkX w.heap.size w.heap.size t w) (ChkI.bears _ _ _ _ _) (ChkX.bears _ _ _ _) ?start ?round ?done ?stop
  case start =>
    refine ⟨⟨_, [], none, 0, t.flat 1, ⟨heap_keep hgx _, rfl, rfl, World.ownsRow_nil _ _ _ _, by simp [Value.ownBlock], by simp; omega⟩, rfl, judge_all t, smooth_all t, Nat.zero_le _⟩, heap_keep (heap_keep hgr _) _, hb3⟩
  case stop =>
    rintro D c' pre W hD _ ⟨rfl, hb2, hB⟩ hK
    have hne : w.heap.size ≠ D := by simp at hD; omega
    have hc3 : (W.putObj D (.deferred none)).cell? ⟨w.heap.size, 0, none⟩ = some (.int .i64 (t.fault : Nat)) := by rw [cell_of_row _ _ 0 _ _ _ ((World.putObj_heap_other hne).trans hb2)]; rfl
    have HK := Lib.hid hK
    clear hb2 hK h hseq hne
    gi_wp2
    refine ⟨by simp, .inl ⟨_, _, rfl, run_takeDeferred HK.out, ?_⟩⟩
    refine ⟨_, by simp [results, Tryz.results40, go_sem, hc3]; rfl, ?_, hB.trans (belowK_b (w := w) (Nat.le_refl _) W D _ _ (by simp at hD; omega) HK.out rfl rfl)⟩
    rfl
  case done =>
    rintro D W hD ⟨⟨cur, L, A1, c1, rest, hJ, hfl, hrun, hsm, h400⟩, hb2, hB⟩ hK
    have hz : t.fault = 0 := by
      rw [← Hxs.out] at hfl
      have : rest = [] := by
        have := congrArg List.length hfl
        rw [List.length_append] at this
        exact List.eq_nil_of_length_eq_zero (by omega)
      subst this
      rw [← hrun]; rfl
    have hc2 : W.cell? ⟨w.heap.size, 0, none⟩ = some (.int .i64 0) := by rw [cell_of_row W _ 0 _ _ _ hb2]; rfl
    have hf2 : W.frozen? ⟨w.heap.size, 0, none⟩ = false := by simp [World.frozen?, hb2]
    have hne : w.heap.size ≠ D := by simp at hD; omega
    have hK2 : (W.setCell ⟨w.heap.size, 0, none⟩ (.int .i64 0)).heap[D]? = some (.deferred (some [])) := heap_far hK (fun e => hne e.symm) _
    have hc3 : ((W.setCell ⟨w.heap.size, 0, none⟩ (.int .i64 0)).putObj D (.deferred none)).cell? ⟨w.heap.size, 0, none⟩ = some (.int .i64 0) := by rw [cell_of_row _ _ 0 _ _ _ ((World.putObj_heap_other hne).trans (box_set hb2))]; rfl
    have Hz := Lib.hid hz
    have HK := Lib.hid hK2
    clear hb2 hK hK2 h hseq hz hJ hfl hrun hsm hne
    gi_wp2
    refine ⟨by simp, .inl ⟨_, _, rfl, run_takeDeferred HK.out, ?_⟩⟩
    refine ⟨_, by simp [results, Tryz.results40, go_sem, hc3]; rfl, by rw [Hz.out]; rfl, (hB.setCell (Nat.le_refl _) _).trans (belowK_b (w := w) (Nat.le_refl _) _ D _ _ (by simp at hD; omega) HK.out rfl rfl)⟩
  case round =>
    rintro l pre x W ⟨⟨cur, L, A1, c1, rest, hJ, hfl, hrun, hsm, h400⟩, hb2, hB⟩ hpre hle
    obtain ⟨sfx, hsfx⟩ := hpre
    have hrest : rest = x.word :: sfx.map Handed.word := by
      rw [← Hxs.out, ← hsfx, List.append_assoc, List.map_append] at hfl
      exact List.append_cancel_left hfl
    subst hrest
    have hxn : x.name.size ≤ 140737488351232 := flat_nm t 1 x.word Hnm.out (by rw [← hfl]; simp)
    have hfl2 : (pre ++ [x]).map Handed.word ++ sfx.map Handed.word = t.flat 1 := by rw [← hfl]; simp
    have hlen : (pre ++ [x]).length = pre.length + 1 := by simp
    obtain ⟨hd1, hd2, hsm2⟩ := hsm
    obtain ⟨k, hk⟩ : ∃ k, k = pre.length := ⟨_, rfl⟩
    rw [← hk] at hJ hrun h400 hlen
    obtain ⟨d, nm, xa, xn, xc⟩ := x
    simp only [Handed.word] at hd1 hd2 hsm2 hrun hxn
    have Hrun := Lib.hid hrun
    have Hfl := Lib.hid hfl2
    have Hlen := Lib.hid hlen
    have Hsm := Lib.hid hsm2
    have Hk := Lib.hid hk
    clear hseq h hfl hsfx hrun hfl2 hlen hsm2 hk
    simp only [Handed.args]
    gi_wp2
    refine ⟨Keeps.alloc _ W _ hB.size, fun W2 hk2 hsz2 => ?_⟩
    have hkI : Keeps (pI kinds) w.heap.size W W2 := (Keeps.alloc _ W _ hB.size).trans (hk2.of fun _ => pI_pC)
    have hgx : W2.heap[W.heap.size]? = some (.cells #[.string nm, .slice xa xn xc] 59 (0, 0)) := hk2.same _ _ (heap_alloc_new W _) rfl
    have hb2' := hkI.same _ _ hb2 rfl
    have hJ2 := hJ.keeps rfl hkI
    have hB2 : Below w.heap.size w W2 := hB.trans hkI.below
    have hcx : W2.cell? ⟨W.heap.size, 0, none⟩ = some (.string nm) := by rw [cell_of_row W2 _ 0 _ _ _ hgx]; rfl
    have HE := Lib.hid (edge_any W2 w.heap.size (w.heap.size + 1) 0 k c1 d 105 cur L A1 nm hJ2 h400 hd1 hd2 hxn)
    have Hb := Lib.hid hb2'
    have HJ2 := Lib.hid hJ2
    clear hb2 hb2' hJ hJ2 hgx
    have hrow2 := HJ2.out
    by_cases hz : judgeE k L d nm = 0
    · have hz2 := HE.out
      rw [hz, Int.natCast_zero] at hz2
      have HE2 := Lib.hid hz2
      have hle400 := (judgeE_zero hz).1
      have Hz := Lib.hid hz
      clear hz2 HE hz
      gi_wp2_with (refine ⟨trivial, ?_⟩; gi_at_call 62; refine (CallsIn.inRound l (callsIn_wide.2 HE2.out)).mono ?_; rintro e w3 ⟨rfl, hT⟩)
      obtain ⟨cur', L', A', c', hJ3, hL3, _, _, hch⟩ := hT
      have hL3 := hL3 Hz.out
      subst hL3
      have hkp := HJ2.out.chg rfl (by omega) hch
      have hlL := judgeL_length (s := nm) hd1 hd2
      refine ⟨hkp, ⟨cur', _, A', c', sfx.map Handed.word, by rw [Hlen.out]; exact hJ3, Hfl.out, ?_, by rw [hlL]; exact Hsm.out, by rw [Hlen.out]; exact hle400⟩, ?_, hB2.trans hkp.below⟩
      · rw [Hlen.out]
        have := Hrun.out
        rw [judgeRun_ok Hz.out] at this
        exact this
      · exact (hch.block _ (Array.getElem?_eq_some_iff.1 Hb.out).1 (by omega) (HJ2.out.ne Hb.out (by decide))).trans Hb.out
    · obtain ⟨q, hq⟩ : ∃ q, q = judgeE k L d nm := ⟨_, rfl⟩
      have hqf : t.fault = q := by
        have := Hrun.out
        rw [judgeRun_no hz] at this
        rw [hq]; exact this.symm
      have hz2 := HE.out
      rw [← hq] at hz hz2
      have HE2 := Lib.hid hz2
      have hq0 : ((q : Int) == 0) = false := by simp; exact hz
      have hq1 : ((q : Int) != 0) = true := by simp; exact hz
      have hq2 : ¬ (q : Int) = 0 := by omega
      have Hqf := Lib.hid hqf
      clear hz2 HE hq hqf hz
      gi_wp2_with (refine ⟨trivial, ?_⟩; gi_at_call 62; refine (CallsIn.inRound l (callsIn_wide.2 HE2.out)).mono ?_; rintro e w3 ⟨rfl, cur', L', A', c', hJ3, _, _, _, hch⟩; have hb4 := (hch.block _ (Array.getElem?_eq_some_iff.1 Hb.out).1 (by omega) (HJ2.out.ne Hb.out (by decide))).trans Hb.out; have hc4 : w3.cell? ⟨w.heap.size, 0, none⟩ = some (.int .i64 0) := (by rw [cell_of_row w3 _ 0 _ _ _ hb4]; rfl); have hf4 : w3.frozen? ⟨w.heap.size, 0, none⟩ = false := (by simp [World.frozen?, hb4]); have hkp := HJ2.out.chg rfl (by omega) hch; have Hb4 := Lib.hid hb4; clear hb4)
      have hkq : Keeps (pB kinds) w.heap.size W2 (w3.setCell ⟨w.heap.size, 0, none⟩ (.int .i64 (q : Nat))) := hkp.trans (Keeps.setCell (o := .cells #[.int .i64 0] 31 (0, 0)) w3 _ Hb4.out rfl (Nat.le_refl _))
      exact ⟨hkq, rfl, by rw [Hqf.out]; exact box_set Hb4.out, hB2.trans hkq.below⟩
end Go.Proofs.YtgefoehpdiiomaaGreatDoor.Jd
namespace Go.Proofs.YtgefoehpdiiomaaGreatDoor.Cv
open Go.RowKit
set_option maxRecDepth 100000

theorem ascii_nl : ∀ (j : Nat) b, (ByteArray.mk #[10, 13]).data.toList[j]? = some b → b.toNat < 128 := by
  intro j b h
  match j, h with
  | 0, h => simp at h; subst h; decide
  | 1, h => simp at h; subst h; decide
  | j + 2, h => simp at h
theorem encode_sorts {r : Int} (h : 128 ≤ r) (hv : Utf8.valid r = true) : (∃ a b : UInt8, Utf8.encode r = ⟨#[a, b]⟩ ∧ 128 ≤ b.toNat) ∨ (∃ a b c : UInt8, Utf8.encode r = ⟨#[a, b, c]⟩) ∨ (∃ a b c d : UInt8, Utf8.encode r = ⟨#[a, b, c, d]⟩) := by
  unfold Utf8.encode
  rw [if_pos hv]
  have h1 : ¬ r.toNat < 128 := by omega
  rw [if_neg h1]
  by_cases h2 : r.toNat < 2048
  · rw [if_pos h2]
    refine .inl ⟨_, _, rfl, ?_⟩
    rw [UInt8.toNat_ofNat']
    have := Nat.mod_lt r.toNat (show 0 < 64 by decide)
    rw [Nat.mod_eq_of_lt (by omega)]; omega
  · rw [if_neg h2]
    by_cases h3 : r.toNat < 65536
    · rw [if_pos h3]; exact .inr (.inl ⟨_, _, _, rfl⟩)
    · rw [if_neg h3]; exact .inr (.inr ⟨_, _, _, _, rfl⟩)
theorem valid_same (r : Int) : Lib.validRune r = Utf8.valid r := by
  unfold Lib.validRune Utf8.valid
  rw [Bool.eq_iff_iff]
  simp only [decide_eq_true_eq, Bool.or_eq_true, Bool.and_eq_true]
  omega
theorem validR (r : Int) (w : World) : Calls Tryz.prog 152 #[.int .i32 r] w fun e w' => e = .returned (.bool (Utf8.valid r)) ∧ w' = w := by
  have h := Any.utf8_ValidRune (ρ := Tryz.lays150_ren) { Tryz.lays150 with } r w
  rw [valid_same] at h
  exact h
theorem byteAt (s : ByteArray) (c : Int) (w : World) : Calls Tryz.prog 151 #[.string s, .int .u8 c] w fun e w' => e = .returned (.int .i64 (Lib.indexByte s.data.toList c.toNat.toUInt8)) ∧ w' = w :=
  Any.strings_IndexByte (ρ := Tryz.lays150_ren) { Tryz.lays150 with } s c w

set_option maxHeartbeats 1000000 in
theorem indexRune_nr (r : Int) (w : World) (h : 128 ≤ r) : Calls Tryz.prog 122 #[.string ⟨#[10, 13]⟩, .int .i32 r] w fun e w' => e = .returned (.int .i64 (-1)) ∧ Below w.heap.size w w' := by
  by_cases he : r = 65533
  · subst he
    have HB : ∀ i, Below w.heap.size w (w.iter ⟨#[10, 13]⟩ i) := fun i => (Below.refl _ _).alloc (Nat.le_refl _) _
    have n0 := fun ty => run_next_ascii (P := Tryz.prog) w ⟨#[10, 13]⟩ 0 ty (by decide) (by decide)
    have n1 := fun ty => run_next_ascii (P := Tryz.prog) w ⟨#[10, 13]⟩ 1 ty (by decide) (by decide)
    have n2 := fun ty => run_next_end (P := Tryz.prog) w ⟨#[10, 13]⟩ 2 ty (by decide)
    go_enter Tryz.func122, Tryz.ntmps122
    go_wp2_with fail
    go_loopg [5, 6] 2 (fun g _ _ wx => ∃ i : Nat, i + g = 2 ∧ wx = w.iter ⟨#[10, 13]⟩ i)
    case atStart => exact ⟨0, by omega, rfl⟩
    case round =>
      obtain ⟨i, hig, rfl⟩ := hrel
      cases gk with
      | zero =>
        obtain rfl : i = 2 := by omega
        go_wp2_with fail
        go_ret
        exact ⟨rfl, HB _⟩
      | succ g =>
        by_cases h0 : i = 0
        · subst h0
          go_wp2_with fail
          go_roundg g
          case measure => omega
          case rel => exact ⟨1, by omega, rfl⟩
        · obtain rfl : i = 1 := by omega
          go_wp2_with fail
          go_roundg g
          case measure => omega
          case rel => exact ⟨2, by omega, rfl⟩
  · have he' : ((r : Int) == 65533) = false := beq_eq_false_iff_ne.2 he
    have H0 : ((0 : Int) ≤ r) := by omega
    have H1 : ¬ (r < 128) := by omega
    cases hv : Utf8.valid r
    · have HV := Lib.hid (validR r w)
      rw [hv] at HV
      go_enter Tryz.func122, Tryz.ntmps122
      go_wp2_with fail
      (with_reducible refine HV.out.mono ?_)
      rintro e w1 ⟨rfl, rfl⟩
      go_wp2_with fail
      go_ret
      exact ⟨rfl, Below.refl _ _⟩
    · have HV := Lib.hid (validR r w)
      rw [hv] at HV
      have hcv : ∀ W, (convert 21 9 (.int .i32 r)).run Tryz.prog W = .ok (.string (Utf8.encode r)) W := fun W => run_convert_int_string W 21 9 .i32 r rfl rfl
      rcases encode_sorts h hv with ⟨a, b, hab, hb⟩ | ⟨a, b, c, hab⟩ | ⟨a, b, c, d, hab⟩
      · rw [hab] at hcv
        have HI : Hid (∀ W, Calls Tryz.prog 151 #[.string ⟨#[]⟩, .int .u8 b.toNat] W fun e w' => e = .returned (.int .i64 (-1)) ∧ w' = W) := Lib.hid fun W => byteAt ⟨#[]⟩ b.toNat W
        have hsl : ∀ W, (Instr.slice 9 (.string ⟨#[10, 13]⟩) (some (.int .i64 2)) none none).run Tryz.prog W = .ok (.string ⟨#[]⟩) W := by
          intro W
          first | rfl | exact run_slice_string_l (P := Tryz.prog) W 9 ⟨#[10, 13]⟩ rfl .i64 2 (by decide) (by decide) | simp
        have hne : ((((ByteArray.mk #[10, 13])[1]'(by decide)).toNat : Int) != (((ByteArray.mk #[a, b])[1]'(by show 1 < 2; decide)).toNat : Int)) = true := by
          show ((13 : Int) != (b.toNat : Int)) = true
          exact bne_iff_ne.2 (by omega)
        go_enter Tryz.func122, Tryz.ntmps122
        go_wp2_with fail
        (with_reducible refine HV.out.mono ?_)
        rintro e w1 ⟨rfl, rfl⟩
        go_wp2_with fail
        go_step3
        go_wp2_with fail
        go_loopg [9] 1 (fun g i wx => g = 1 ∧ i = .int .i64 1 ∧ wx = w1)
        case atStart => exact ⟨rfl, rfl, rfl⟩
        case round =>
          obtain ⟨rfl, rfl, rfl⟩ := hrel
          go_wp2_with fail
          go_step3
          go_wp2_with fail
          go_quiet (fail)
          go_wp2_with fail
          go_quiet ((refine Calls.mono (HI.out _) ?_; rintro e w' ⟨rfl, rfl⟩; exact ⟨rfl, _, rfl⟩))
          go_wp2_with fail
          rw [Exit.noGoto_ret]
          simp only [Exit.inBlock, Exit.then, Exit.noGoto_ret]
          go_ret
          exact ⟨rfl, below_drewN (Below.refl _ _) _⟩
      · rw [hab] at hcv
        go_enter Tryz.func122, Tryz.ntmps122
        go_wp2_with fail
        (with_reducible refine HV.out.mono ?_)
        rintro e w1 ⟨rfl, rfl⟩
        go_wp2_with fail
        go_step3
        go_wp2_with fail
        go_loopg [9] 1 (fun g i wx => g = 1 ∧ i = .int .i64 2 ∧ wx = w1)
        case atStart => exact ⟨rfl, rfl, rfl⟩
        case round =>
          obtain ⟨rfl, rfl, rfl⟩ := hrel
          go_wp2_with fail
          rw [Exit.noGoto_ret]
          go_ret
          exact ⟨rfl, Below.refl _ _⟩
      · rw [hab] at hcv
        go_enter Tryz.func122, Tryz.ntmps122
        go_wp2_with fail
        (with_reducible refine HV.out.mono ?_)
        rintro e w1 ⟨rfl, rfl⟩
        go_wp2_with fail
        go_step3
        go_wp2_with fail
        go_loopg [9] 1 (fun g i wx => g = 1 ∧ i = .int .i64 3 ∧ wx = w1)
        case atStart => exact ⟨rfl, rfl, rfl⟩
        case round =>
          obtain ⟨rfl, rfl, rfl⟩ := hrel
          go_wp2_with fail
          rw [Exit.noGoto_ret]
          go_ret
          exact ⟨rfl, Below.refl _ _⟩
end Go.Proofs.YtgefoehpdiiomaaGreatDoor.Cv
namespace Go.Proofs.YtgefoehpdiiomaaGreatDoor.Cv
open Go.RowKit Go.Lib
set_option maxRecDepth 100000

theorem decode_skip (s : ByteArray) (pos j : Nat) (h1 : pos < j) (h2 : j < pos + (Utf8.decode s pos).2) : j < s.size ∧ 128 ≤ (s.get! j).toNat := by
  have hw : (Utf8.decode s pos).2 ≤ 4 ∧ (2 ≤ (Utf8.decode s pos).2 → pos + 1 < s.size ∧ (s.get! (pos + 1)).toNat / 64 = 2) ∧ (3 ≤ (Utf8.decode s pos).2 → pos + 2 < s.size ∧ (s.get! (pos + 2)).toNat / 64 = 2) ∧ (4 ≤ (Utf8.decode s pos).2 → pos + 3 < s.size ∧ (s.get! (pos + 3)).toNat / 64 = 2) := by
    simp only [Utf8.decode]
    repeat' split
    all_goals simp_all
  obtain ⟨k4, k1, k2, k3⟩ := hw
  have hj : j = pos + 1 ∨ j = pos + 2 ∨ j = pos + 3 := by omega
  rcases hj with rfl | rfl | rfl
  · obtain ⟨a, b⟩ := k1 (by omega); exact ⟨a, by omega⟩
  · obtain ⟨a, b⟩ := k2 (by omega); exact ⟨a, by omega⟩
  · obtain ⟨a, b⟩ := k3 (by omega); exact ⟨a, by omega⟩
theorem nr_high {b : UInt8} (h : 128 ≤ b.toNat) : ([10, 13] : List UInt8).contains b = false := by
  rw [Bool.eq_false_iff]
  intro hc
  simp at hc
  rcases hc with rfl | rfl <;> simp at h
theorem noAny_jump {s : ByteArray} {i : Nat} (h : NoAny s.data.toList [10, 13] i) (hi : i < s.size) (hx : 128 ≤ (s[i]'hi).toNat) : NoAny s.data.toList [10, 13] (i + (Utf8.decode s i).2) := by
  intro j b hj hb
  rcases Nat.lt_trichotomy j i with hl | rfl | hg
  · exact h j b hl hb
  · have := Lib.data_getElem? s j hi
    rw [this] at hb; cases hb
    exact nr_high hx
  · obtain ⟨hs, hh⟩ := decode_skip s i j hg hj
    have := Lib.data_getElem? s j hs
    rw [this] at hb; cases hb
    refine nr_high ?_
    have e : s.get! j = s[j]'hs := by simp [ByteArray.get!, getElem!_pos, hs]; rfl
    rwa [e] at hh

set_option maxHeartbeats 1000000 in
theorem indexAny_nr (s : ByteArray) (w : World) (h8 : s.size ≤ 8) : Calls Tryz.prog 105 #[.string s, .string ⟨#[10, 13]⟩] w fun e w' => e = .returned (.int .i64 (Lib.indexAny s.data.toList [10, 13])) ∧ Below w.heap.size w w' := by
  have HU : Hid (∀ W, Calls Tryz.prog 123 #[.int .i64 s.size] W fun e w' => e = .returned (.bool (decide ((8 : Int) < (s.size : Int)))) ∧ w' = W) := Lib.hid fun W => Any.strings_shouldUseASCIISet (ρ := Tryz.lays150_ren) { Tryz.lays150 with } s.size W
  have h8z : decide ((8 : Int) < (s.size : Int)) = false := decide_eq_false (by omega)
  rw [h8z] at HU
  go_enter Tryz.func105, Tryz.ntmps105
  go_wp2_with fail
  (with_reducible refine (HU.out _).mono ?_)
  rintro e w1 ⟨rfl, rfl⟩
  go_wp2_with fail
  go_loopg [9, 10] s.size (fun g _ _ wx => ∃ i : Nat, i + g = s.size ∧ Hid (wx.heap[w1.heap.size]? = some (.stringIter s i)) ∧ Hid (Below w1.heap.size w1 wx) ∧ Hid (NoAny s.data.toList [10, 13] i))
  case atStart => exact ⟨0, by omega, Lib.hid (World.iter_heap w1 s 0), Lib.hid ((Below.refl _ _).alloc (Nat.le_refl _) _), Lib.hid (NoAny.zero _ _)⟩
  case round =>
    obtain ⟨i, hig, HK, HB, HN⟩ := hrel
    cases gk with
    | zero =>
      obtain rfl : i = s.size := by omega
      have hnx := fun ty => run_next_end_at (P := Tryz.prog) wr w1.heap.size s s.size ty HK.out (by omega)
      go_wp2_with fail
      go_ret
      exact ⟨by rw [Lib.indexAny_none (by rw [← Lib.size_eq]; exact HN.out)]; rfl, HB.out⟩
    | succ g =>
      have hi : i < s.size := by omega
      obtain ⟨x, hx⟩ : ∃ x : UInt8, s[i]'hi = x := ⟨_, rfl⟩
      have Hx : Hid (s.data.toList[i]? = some x) := Lib.hid (by rw [← hx]; exact Lib.data_getElem? s i hi)
      by_cases hlt : x.toNat < 128
      · have hnx := fun ty => run_next_ascii_at (P := Tryz.prog) wr w1.heap.size s i ty HK.out hi (by rw [hx]; exact hlt)
        rw [hx] at hnx
        have HK2 := Lib.hid (Lib.iterAt_heap wr w1.heap.size s i (i + 1) HK.out)
        have HB2 := Lib.hid (Lib.below_iterAt HB.out (k := w1.heap.size) (Nat.le_refl _) s (i + 1))
        obtain ⟨W, hW⟩ : ∃ W, wr.iterAt w1.heap.size s (i + 1) = W := ⟨_, rfl⟩
        rw [hW] at hnx HK2 HB2
        have HR : Hid (Calls Tryz.prog 122 #[.string ⟨#[10, 13]⟩, .int .i32 x.toNat] W fun e w' => e = .returned (.int .i64 (Lib.indexByte [10, 13] x)) ∧ w' = W) := Lib.hid (by
          have h := Any.strings_IndexRune_ascii (ρ := Tryz.lays150_ren) { Tryz.lays150 with } ⟨#[10, 13]⟩ x.toNat W (by omega) (by omega)
          have hb : ((x.toNat : Int)).toNat.toUInt8 = x := by simp
          rw [hb] at h; exact h)
        have hcon := Lib.contains_iff_indexByte [10, 13] x
        clear hx hW
        cases hin : ([10, 13] : List UInt8).contains x
        · rw [hin] at hcon
          have hge : ¬ ((0 : Int) ≤ Lib.indexByte [10, 13] x) := of_decide_eq_false hcon.symm
          clear hcon
          go_wp2_with fail
          (with_reducible refine HR.out.mono ?_)
          rintro e w2 ⟨rfl, rfl⟩
          go_wp2_with fail
          go_roundg g
          case measure => omega
          case rel => exact ⟨i + 1, by omega, HK2, HB2, Lib.hid (HN.out.succ Hx.out hin)⟩
        · rw [hin] at hcon
          have hge : (0 : Int) ≤ Lib.indexByte [10, 13] x := of_decide_eq_true hcon.symm
          clear hcon
          go_wp2_with fail
          (with_reducible refine HR.out.mono ?_)
          rintro e w2 ⟨rfl, rfl⟩
          go_wp2_with fail
          go_ret
          exact ⟨by rw [Lib.indexAny_hit HN.out Hx.out hin]; rfl, HB2.out⟩
      · have hnx := fun ty => run_next_any_at (P := Tryz.prog) wr w1.heap.size s i ty HK.out hi
        have hhi := decode_high s i hi (by rw [hx]; omega)
        have HN2 := Lib.hid (noAny_jump HN.out hi (by rw [hx]; omega))
        have hle : i + (Utf8.decode s i).2 ≤ s.size := by
          by_cases h1 : (Utf8.decode s i).2 = 1
          · omega
          · have := (decode_skip s i (i + (Utf8.decode s i).2 - 1) (by omega) (by omega)).1; omega
        obtain ⟨r, hr⟩ : ∃ r : Nat, (Utf8.decode s i).1 = r := ⟨_, rfl⟩
        obtain ⟨k, hk⟩ : ∃ k : Nat, (Utf8.decode s i).2 = k := ⟨_, rfl⟩
        rw [hr, hk] at hnx hhi
        rw [hk] at HN2 hle
        obtain ⟨hr128, hk1⟩ := hhi
        have HK2 := Lib.hid (Lib.iterAt_heap wr w1.heap.size s i (i + k) HK.out)
        have HB2 := Lib.hid (Lib.below_iterAt HB.out (k := w1.heap.size) (Nat.le_refl _) s (i + k))
        obtain ⟨W, hW⟩ : ∃ W, wr.iterAt w1.heap.size s (i + k) = W := ⟨_, rfl⟩
        rw [hW] at hnx HK2 HB2
        have HR := Lib.hid (indexRune_nr (r : Int) W (by omega))
        clear hx hW hr hk
        go_wp2_with fail
        (with_reducible refine HR.out.mono ?_)
        rintro e w2 ⟨rfl, hb2⟩
        go_wp2_with fail
        go_roundg (s.size - (i + k))
        case measure => omega
        case rel => exact ⟨i + k, by omega, Lib.hid ((hb2.block _ (Array.getElem?_eq_some_iff.1 HK2.out).1).trans HK2.out), Lib.hid (HB2.out.trans (hb2.mono HB2.out.size)), HN2⟩

theorem indexAny_all (s : ByteArray) (w : World) (hs : s.size < 4294967281) : Calls Tryz.prog 105 #[.string s, .string ⟨#[10, 13]⟩] w fun e w' => e = .returned (.int .i64 (Lib.indexAny s.data.toList [10, 13])) ∧ Below w.heap.size w w' := by
  by_cases h8 : s.size ≤ 8
  · exact indexAny_nr s w h8
  · have h116 : (Tryz.prog.info? (Tryz.lays150_ren.t 116)).map (fun i => (i.zero, i.size)) = some (some (.agg (Array.replicate 256 (.bool false))), 256) := by kernel_rfl
    have h := Any.strings_IndexAny_long (ρ := Tryz.lays150_ren) { Tryz.lays150 with } (zero_of_info h116).1 (zero_of_info h116).2 s ⟨#[10, 13]⟩ w (by decide) (by omega) hs (by decide) ascii_nl
    exact h.mono fun e w' k => ⟨k.1, by rw [k.2]; exact ((Below.refl _ _).alloc (Nat.le_refl _) _).alloc (by show w.heap.size ≤ (w.heap.push _).size; simp) _⟩

/-- strings.ContainsAny of a line's end, in any bytes. -/
theorem containsAny_nr (s : ByteArray) (w : World) (hs : s.size < 4294967281) : Calls Tryz.prog 84 #[.string s, .string ⟨#[10, 13]⟩] w fun e w' => e = .returned (.bool (Lib.containsAny s.data.toList [10, 13])) ∧ Below w.heap.size w w' := by
  have H := Lib.hid (indexAny_all s w hs)
  have HV : Lib.containsAny s.data.toList [10, 13] = decide ((0 : Int) ≤ Lib.indexAny s.data.toList [10, 13]) := rfl
  rw [HV]
  clear HV hs
  obtain ⟨v, hv⟩ : ∃ v, v = Lib.indexAny s.data.toList [10, 13] := ⟨_, rfl⟩
  rw [← hv] at H ⊢
  go_enter Tryz.func84, Tryz.ntmps84
  go_wp2_with fail
  (with_reducible refine H.out.mono ?_)
  rintro e w1 ⟨rfl, hb⟩
  go_wp2_with fail
  go_ret
  exact ⟨by rw [hv]; rfl, hb⟩
end Go.Proofs.YtgefoehpdiiomaaGreatDoor.Cv
namespace Go.Proofs.YtgefoehpdiiomaaGreatDoor.Cv
open Go.RowKit
set_option maxRecDepth 100000

theorem ascii_br : ∀ (j : Nat) b, (ByteArray.mk #[91, 93]).data.toList[j]? = some b → b.toNat < 128 := by
  intro j b h
  match j, h with
  | 0, h => simp at h; subst h; decide
  | 1, h => simp at h; subst h; decide
  | j + 2, h => simp at h
set_option maxHeartbeats 1000000 in
theorem indexRune_br (r : Int) (w : World) (h : 128 ≤ r) : Calls Tryz.prog 122 #[.string ⟨#[91, 93]⟩, .int .i32 r] w fun e w' => e = .returned (.int .i64 (-1)) ∧ Below w.heap.size w w' := by
  by_cases he : r = 65533
  · subst he
    have HB : ∀ i, Below w.heap.size w (w.iter ⟨#[91, 93]⟩ i) := fun i => (Below.refl _ _).alloc (Nat.le_refl _) _
    have n0 := fun ty => run_next_ascii (P := Tryz.prog) w ⟨#[91, 93]⟩ 0 ty (by decide) (by decide)
    have n1 := fun ty => run_next_ascii (P := Tryz.prog) w ⟨#[91, 93]⟩ 1 ty (by decide) (by decide)
    have n2 := fun ty => run_next_end (P := Tryz.prog) w ⟨#[91, 93]⟩ 2 ty (by decide)
    go_enter Tryz.func122, Tryz.ntmps122
    go_wp2_with fail
    go_loopg [5, 6] 2 (fun g _ _ wx => ∃ i : Nat, i + g = 2 ∧ wx = w.iter ⟨#[91, 93]⟩ i)
    case atStart => exact ⟨0, by omega, rfl⟩
    case round =>
      obtain ⟨i, hig, rfl⟩ := hrel
      cases gk with
      | zero =>
        obtain rfl : i = 2 := by omega
        go_wp2_with fail
        go_ret
        exact ⟨rfl, HB _⟩
      | succ g =>
        by_cases h0 : i = 0
        · subst h0
          go_wp2_with fail
          go_roundg g
          case measure => omega
          case rel => exact ⟨1, by omega, rfl⟩
        · obtain rfl : i = 1 := by omega
          go_wp2_with fail
          go_roundg g
          case measure => omega
          case rel => exact ⟨2, by omega, rfl⟩
  · have he' : ((r : Int) == 65533) = false := beq_eq_false_iff_ne.2 he
    have H0 : ((0 : Int) ≤ r) := by omega
    have H1 : ¬ (r < 128) := by omega
    cases hv : Utf8.valid r
    · have HV := Lib.hid (validR r w)
      rw [hv] at HV
      go_enter Tryz.func122, Tryz.ntmps122
      go_wp2_with fail
      (with_reducible refine HV.out.mono ?_)
      rintro e w1 ⟨rfl, rfl⟩
      go_wp2_with fail
      go_ret
      exact ⟨rfl, Below.refl _ _⟩
    · have HV := Lib.hid (validR r w)
      rw [hv] at HV
      have hcv : ∀ W, (convert 21 9 (.int .i32 r)).run Tryz.prog W = .ok (.string (Utf8.encode r)) W := fun W => run_convert_int_string W 21 9 .i32 r rfl rfl
      rcases encode_sorts h hv with ⟨a, b, hab, hb⟩ | ⟨a, b, c, hab⟩ | ⟨a, b, c, d, hab⟩
      · rw [hab] at hcv
        have HI : Hid (∀ W, Calls Tryz.prog 151 #[.string ⟨#[]⟩, .int .u8 b.toNat] W fun e w' => e = .returned (.int .i64 (-1)) ∧ w' = W) := Lib.hid fun W => byteAt ⟨#[]⟩ b.toNat W
        have hsl : ∀ W, (Instr.slice 9 (.string ⟨#[91, 93]⟩) (some (.int .i64 2)) none none).run Tryz.prog W = .ok (.string ⟨#[]⟩) W := by
          intro W
          first | rfl | exact run_slice_string_l (P := Tryz.prog) W 9 ⟨#[91, 93]⟩ rfl .i64 2 (by decide) (by decide) | simp
        have hne : ((((ByteArray.mk #[91, 93])[1]'(by decide)).toNat : Int) != (((ByteArray.mk #[a, b])[1]'(by show 1 < 2; decide)).toNat : Int)) = true := by
          show ((93 : Int) != (b.toNat : Int)) = true
          exact bne_iff_ne.2 (by omega)
        go_enter Tryz.func122, Tryz.ntmps122
        go_wp2_with fail
        (with_reducible refine HV.out.mono ?_)
        rintro e w1 ⟨rfl, rfl⟩
        go_wp2_with fail
        go_step3
        go_wp2_with fail
        go_loopg [9] 1 (fun g i wx => g = 1 ∧ i = .int .i64 1 ∧ wx = w1)
        case atStart => exact ⟨rfl, rfl, rfl⟩
        case round =>
          obtain ⟨rfl, rfl, rfl⟩ := hrel
          go_wp2_with fail
          go_step3
          go_wp2_with fail
          go_quiet (fail)
          go_wp2_with fail
          go_quiet ((refine Calls.mono (HI.out _) ?_; rintro e w' ⟨rfl, rfl⟩; exact ⟨rfl, _, rfl⟩))
          go_wp2_with fail
          rw [Exit.noGoto_ret]
          simp only [Exit.inBlock, Exit.then, Exit.noGoto_ret]
          go_ret
          exact ⟨rfl, below_drewN (Below.refl _ _) _⟩
      · rw [hab] at hcv
        go_enter Tryz.func122, Tryz.ntmps122
        go_wp2_with fail
        (with_reducible refine HV.out.mono ?_)
        rintro e w1 ⟨rfl, rfl⟩
        go_wp2_with fail
        go_step3
        go_wp2_with fail
        go_loopg [9] 1 (fun g i wx => g = 1 ∧ i = .int .i64 2 ∧ wx = w1)
        case atStart => exact ⟨rfl, rfl, rfl⟩
        case round =>
          obtain ⟨rfl, rfl, rfl⟩ := hrel
          go_wp2_with fail
          rw [Exit.noGoto_ret]
          go_ret
          exact ⟨rfl, Below.refl _ _⟩
      · rw [hab] at hcv
        go_enter Tryz.func122, Tryz.ntmps122
        go_wp2_with fail
        (with_reducible refine HV.out.mono ?_)
        rintro e w1 ⟨rfl, rfl⟩
        go_wp2_with fail
        go_step3
        go_wp2_with fail
        go_loopg [9] 1 (fun g i wx => g = 1 ∧ i = .int .i64 3 ∧ wx = w1)
        case atStart => exact ⟨rfl, rfl, rfl⟩
        case round =>
          obtain ⟨rfl, rfl, rfl⟩ := hrel
          go_wp2_with fail
          rw [Exit.noGoto_ret]
          go_ret
          exact ⟨rfl, Below.refl _ _⟩
end Go.Proofs.YtgefoehpdiiomaaGreatDoor.Cv
namespace Go.Proofs.YtgefoehpdiiomaaGreatDoor.Cv
open Go.RowKit Go.Lib
set_option maxRecDepth 100000

theorem br_high {b : UInt8} (h : 128 ≤ b.toNat) : ([91, 93] : List UInt8).contains b = false := by
  rw [Bool.eq_false_iff]
  intro hc
  simp at hc
  rcases hc with rfl | rfl <;> simp at h
theorem noAny_jump_br {s : ByteArray} {i : Nat} (h : NoAny s.data.toList [91, 93] i) (hi : i < s.size) (hx : 128 ≤ (s[i]'hi).toNat) : NoAny s.data.toList [91, 93] (i + (Utf8.decode s i).2) := by
  intro j b hj hb
  rcases Nat.lt_trichotomy j i with hl | rfl | hg
  · exact h j b hl hb
  · have := Lib.data_getElem? s j hi
    rw [this] at hb; cases hb
    exact br_high hx
  · obtain ⟨hs, hh⟩ := decode_skip s i j hg hj
    have := Lib.data_getElem? s j hs
    rw [this] at hb; cases hb
    refine br_high ?_
    have e : s.get! j = s[j]'hs := by simp [ByteArray.get!, getElem!_pos, hs]; rfl
    rwa [e] at hh

set_option maxHeartbeats 1000000 in
theorem indexAny_br (s : ByteArray) (w : World) (h8 : s.size ≤ 8) : Calls Tryz.prog 105 #[.string s, .string ⟨#[91, 93]⟩] w fun e w' => e = .returned (.int .i64 (Lib.indexAny s.data.toList [91, 93])) ∧ Below w.heap.size w w' := by
  have HU : Hid (∀ W, Calls Tryz.prog 123 #[.int .i64 s.size] W fun e w' => e = .returned (.bool (decide ((8 : Int) < (s.size : Int)))) ∧ w' = W) := Lib.hid fun W => Any.strings_shouldUseASCIISet (ρ := Tryz.lays150_ren) { Tryz.lays150 with } s.size W
  have h8z : decide ((8 : Int) < (s.size : Int)) = false := decide_eq_false (by omega)
  rw [h8z] at HU
  go_enter Tryz.func105, Tryz.ntmps105
  go_wp2_with fail
  (with_reducible refine (HU.out _).mono ?_)
  rintro e w1 ⟨rfl, rfl⟩
  go_wp2_with fail
  go_loopg [9, 10] s.size (fun g _ _ wx => ∃ i : Nat, i + g = s.size ∧ Hid (wx.heap[w1.heap.size]? = some (.stringIter s i)) ∧ Hid (Below w1.heap.size w1 wx) ∧ Hid (NoAny s.data.toList [91, 93] i))
  case atStart => exact ⟨0, by omega, Lib.hid (World.iter_heap w1 s 0), Lib.hid ((Below.refl _ _).alloc (Nat.le_refl _) _), Lib.hid (NoAny.zero _ _)⟩
  case round =>
    obtain ⟨i, hig, HK, HB, HN⟩ := hrel
    cases gk with
    | zero =>
      obtain rfl : i = s.size := by omega
      have hnx := fun ty => run_next_end_at (P := Tryz.prog) wr w1.heap.size s s.size ty HK.out (by omega)
      go_wp2_with fail
      go_ret
      exact ⟨by rw [Lib.indexAny_none (by rw [← Lib.size_eq]; exact HN.out)]; rfl, HB.out⟩
    | succ g =>
      have hi : i < s.size := by omega
      obtain ⟨x, hx⟩ : ∃ x : UInt8, s[i]'hi = x := ⟨_, rfl⟩
      have Hx : Hid (s.data.toList[i]? = some x) := Lib.hid (by rw [← hx]; exact Lib.data_getElem? s i hi)
      by_cases hlt : x.toNat < 128
      · have hnx := fun ty => run_next_ascii_at (P := Tryz.prog) wr w1.heap.size s i ty HK.out hi (by rw [hx]; exact hlt)
        rw [hx] at hnx
        have HK2 := Lib.hid (Lib.iterAt_heap wr w1.heap.size s i (i + 1) HK.out)
        have HB2 := Lib.hid (Lib.below_iterAt HB.out (k := w1.heap.size) (Nat.le_refl _) s (i + 1))
        obtain ⟨W, hW⟩ : ∃ W, wr.iterAt w1.heap.size s (i + 1) = W := ⟨_, rfl⟩
        rw [hW] at hnx HK2 HB2
        have HR : Hid (Calls Tryz.prog 122 #[.string ⟨#[91, 93]⟩, .int .i32 x.toNat] W fun e w' => e = .returned (.int .i64 (Lib.indexByte [91, 93] x)) ∧ w' = W) := Lib.hid (by
          have h := Any.strings_IndexRune_ascii (ρ := Tryz.lays150_ren) { Tryz.lays150 with } ⟨#[91, 93]⟩ x.toNat W (by omega) (by omega)
          have hb : ((x.toNat : Int)).toNat.toUInt8 = x := by simp
          rw [hb] at h; exact h)
        have hcon := Lib.contains_iff_indexByte [91, 93] x
        clear hx hW
        cases hin : ([91, 93] : List UInt8).contains x
        · rw [hin] at hcon
          have hge : ¬ ((0 : Int) ≤ Lib.indexByte [91, 93] x) := of_decide_eq_false hcon.symm
          clear hcon
          go_wp2_with fail
          (with_reducible refine HR.out.mono ?_)
          rintro e w2 ⟨rfl, rfl⟩
          go_wp2_with fail
          go_roundg g
          case measure => omega
          case rel => exact ⟨i + 1, by omega, HK2, HB2, Lib.hid (HN.out.succ Hx.out hin)⟩
        · rw [hin] at hcon
          have hge : (0 : Int) ≤ Lib.indexByte [91, 93] x := of_decide_eq_true hcon.symm
          clear hcon
          go_wp2_with fail
          (with_reducible refine HR.out.mono ?_)
          rintro e w2 ⟨rfl, rfl⟩
          go_wp2_with fail
          go_ret
          exact ⟨by rw [Lib.indexAny_hit HN.out Hx.out hin]; rfl, HB2.out⟩
      · have hnx := fun ty => run_next_any_at (P := Tryz.prog) wr w1.heap.size s i ty HK.out hi
        have hhi := decode_high s i hi (by rw [hx]; omega)
        have HN2 := Lib.hid (noAny_jump_br HN.out hi (by rw [hx]; omega))
        have hle : i + (Utf8.decode s i).2 ≤ s.size := by
          by_cases h1 : (Utf8.decode s i).2 = 1
          · omega
          · have := (decode_skip s i (i + (Utf8.decode s i).2 - 1) (by omega) (by omega)).1; omega
        obtain ⟨r, hr⟩ : ∃ r : Nat, (Utf8.decode s i).1 = r := ⟨_, rfl⟩
        obtain ⟨k, hk⟩ : ∃ k : Nat, (Utf8.decode s i).2 = k := ⟨_, rfl⟩
        rw [hr, hk] at hnx hhi
        rw [hk] at HN2 hle
        obtain ⟨hr128, hk1⟩ := hhi
        have HK2 := Lib.hid (Lib.iterAt_heap wr w1.heap.size s i (i + k) HK.out)
        have HB2 := Lib.hid (Lib.below_iterAt HB.out (k := w1.heap.size) (Nat.le_refl _) s (i + k))
        obtain ⟨W, hW⟩ : ∃ W, wr.iterAt w1.heap.size s (i + k) = W := ⟨_, rfl⟩
        rw [hW] at hnx HK2 HB2
        have HR := Lib.hid (indexRune_br (r : Int) W (by omega))
        clear hx hW hr hk
        go_wp2_with fail
        (with_reducible refine HR.out.mono ?_)
        rintro e w2 ⟨rfl, hb2⟩
        go_wp2_with fail
        go_roundg (s.size - (i + k))
        case measure => omega
        case rel => exact ⟨i + k, by omega, Lib.hid ((hb2.block _ (Array.getElem?_eq_some_iff.1 HK2.out).1).trans HK2.out), Lib.hid (HB2.out.trans (hb2.mono HB2.out.size)), HN2⟩

theorem indexAny_all_br (s : ByteArray) (w : World) (hs : s.size < 4294967281) : Calls Tryz.prog 105 #[.string s, .string ⟨#[91, 93]⟩] w fun e w' => e = .returned (.int .i64 (Lib.indexAny s.data.toList [91, 93])) ∧ Below w.heap.size w w' := by
  by_cases h8 : s.size ≤ 8
  · exact indexAny_br s w h8
  · have h116 : (Tryz.prog.info? (Tryz.lays150_ren.t 116)).map (fun i => (i.zero, i.size)) = some (some (.agg (Array.replicate 256 (.bool false))), 256) := by kernel_rfl
    have h := Any.strings_IndexAny_long (ρ := Tryz.lays150_ren) { Tryz.lays150 with } (zero_of_info h116).1 (zero_of_info h116).2 s ⟨#[91, 93]⟩ w (by decide) (by omega) hs (by decide) ascii_br
    exact h.mono fun e w' k => ⟨k.1, by rw [k.2]; exact ((Below.refl _ _).alloc (Nat.le_refl _) _).alloc (by show w.heap.size ≤ (w.heap.push _).size; simp) _⟩

/-- strings.ContainsAny of a bracket, in any bytes. -/
theorem containsAny_br (s : ByteArray) (w : World) (hs : s.size < 4294967281) : Calls Tryz.prog 84 #[.string s, .string ⟨#[91, 93]⟩] w fun e w' => e = .returned (.bool (Lib.containsAny s.data.toList [91, 93])) ∧ Below w.heap.size w w' := by
  have H := Lib.hid (indexAny_all_br s w hs)
  have HV : Lib.containsAny s.data.toList [91, 93] = decide ((0 : Int) ≤ Lib.indexAny s.data.toList [91, 93]) := rfl
  rw [HV]
  clear HV hs
  obtain ⟨v, hv⟩ : ∃ v, v = Lib.indexAny s.data.toList [91, 93] := ⟨_, rfl⟩
  rw [← hv] at H ⊢
  go_enter Tryz.func84, Tryz.ntmps84
  go_wp2_with fail
  (with_reducible refine H.out.mono ?_)
  rintro e w1 ⟨rfl, hb⟩
  go_wp2_with fail
  go_ret
  exact ⟨by rw [hv]; rfl, hb⟩
end Go.Proofs.YtgefoehpdiiomaaGreatDoor.Cv
namespace Go.Proofs.YtgefoehpdiiomaaGreatDoor.Cv
open Go.RowKit Go.Lib
set_option maxRecDepth 100000

theorem ascii_3 : ∀ (j : Nat) b, (ByteArray.mk #[91, 59, 35]).data.toList[j]? = some b → b.toNat < 128 := by
  intro j b h
  match j, h with
  | 0, h => simp at h; subst h; decide
  | 1, h => simp at h; subst h; decide
  | 2, h => simp at h; subst h; decide
  | j + 3, h => simp at h
theorem c3_high {b : UInt8} (h : 128 ≤ b.toNat) : ([91, 59, 35] : List UInt8).contains b = false := by
  rw [Bool.eq_false_iff]
  intro hc
  simp at hc
  rcases hc with rfl | rfl | rfl <;> simp at h
theorem decode_alone (s : ByteArray) (h1 : s.size = 1) (hx : 128 ≤ (s[0]'(by omega)).toNat) : Utf8.decode s 0 = (65533, 1) := by
  have hg : ∀ j, 1 ≤ j → ¬ j < s.size := fun j hj => by omega
  have e : s.get! 0 = s[0]'(by omega) := by simp [ByteArray.get!, getElem!_pos, h1]; rfl
  simp only [Utf8.decode, e]
  repeat' split
  all_goals first | rfl | (exfalso; omega) | simp_all
set_option maxHeartbeats 1000000 in
theorem indexRune_3 (w : World) : Calls Tryz.prog 122 #[.string ⟨#[91, 59, 35]⟩, .int .i32 65533] w fun e w' => e = .returned (.int .i64 (-1)) ∧ Below w.heap.size w w' := by
  have HB : ∀ i, Below w.heap.size w (w.iter ⟨#[91, 59, 35]⟩ i) := fun i => (Below.refl _ _).alloc (Nat.le_refl _) _
  have n0 := fun ty => run_next_ascii (P := Tryz.prog) w ⟨#[91, 59, 35]⟩ 0 ty (by decide) (by decide)
  have n1 := fun ty => run_next_ascii (P := Tryz.prog) w ⟨#[91, 59, 35]⟩ 1 ty (by decide) (by decide)
  have n2 := fun ty => run_next_ascii (P := Tryz.prog) w ⟨#[91, 59, 35]⟩ 2 ty (by decide) (by decide)
  have n3 := fun ty => run_next_end (P := Tryz.prog) w ⟨#[91, 59, 35]⟩ 3 ty (by decide)
  go_enter Tryz.func122, Tryz.ntmps122
  go_wp2_with fail
  go_loopg [5, 6] 3 (fun g _ _ wx => ∃ i : Nat, i + g = 3 ∧ wx = w.iter ⟨#[91, 59, 35]⟩ i)
  case atStart => exact ⟨0, by omega, rfl⟩
  case round =>
    obtain ⟨i, hig, rfl⟩ := hrel
    cases gk with
    | zero =>
      obtain rfl : i = 3 := by omega
      go_wp2_with fail
      go_ret
      exact ⟨rfl, HB _⟩
    | succ g =>
      by_cases h0 : i = 0
      · subst h0
        go_wp2_with fail
        go_roundg g
        case measure => omega
        case rel => exact ⟨1, by omega, rfl⟩
      · by_cases h1 : i = 1
        · subst h1
          go_wp2_with fail
          go_roundg g
          case measure => omega
          case rel => exact ⟨2, by omega, rfl⟩
        · obtain rfl : i = 2 := by omega
          go_wp2_with fail
          go_roundg g
          case measure => omega
          case rel => exact ⟨3, by omega, rfl⟩

set_option maxHeartbeats 1000000 in
theorem indexAny_one (s : ByteArray) (w : World) (h1 : s.size = 1) : Calls Tryz.prog 105 #[.string s, .string ⟨#[91, 59, 35]⟩] w fun e w' => e = .returned (.int .i64 (Lib.indexAny s.data.toList [91, 59, 35])) ∧ Below w.heap.size w w' := by
  have HU : Hid (∀ W, Calls Tryz.prog 123 #[.int .i64 s.size] W fun e w' => e = .returned (.bool (decide ((8 : Int) < (s.size : Int)))) ∧ w' = W) := Lib.hid fun W => Any.strings_shouldUseASCIISet (ρ := Tryz.lays150_ren) { Tryz.lays150 with } s.size W
  have h8z : decide ((8 : Int) < (s.size : Int)) = false := decide_eq_false (by omega)
  rw [h8z] at HU
  have H1 := Lib.hid h1
  have hs0 : ¬ s.size = 0 := by omega
  clear h1
  go_enter Tryz.func105, Tryz.ntmps105
  go_wp2_with fail
  (with_reducible refine (HU.out _).mono ?_)
  rintro e w1 ⟨rfl, rfl⟩
  go_wp2_with fail
  go_loopg [9, 10] s.size (fun g _ _ wx => ∃ i : Nat, i + g = s.size ∧ Hid (wx.heap[w1.heap.size]? = some (.stringIter s i)) ∧ Hid (Below w1.heap.size w1 wx) ∧ Hid (NoAny s.data.toList [91, 59, 35] i))
  case atStart => exact ⟨0, by omega, Lib.hid (World.iter_heap w1 s 0), Lib.hid ((Below.refl _ _).alloc (Nat.le_refl _) _), Lib.hid (NoAny.zero _ _)⟩
  case round =>
    obtain ⟨i, hig, HK, HB, HN⟩ := hrel
    cases gk with
    | zero =>
      obtain rfl : i = s.size := by omega
      have hnx := fun ty => run_next_end_at (P := Tryz.prog) wr w1.heap.size s s.size ty HK.out (by omega)
      go_wp2_with fail
      go_ret
      exact ⟨by rw [Lib.indexAny_none (by rw [← Lib.size_eq]; exact HN.out)]; rfl, HB.out⟩
    | succ g =>
      have hi : i < s.size := by omega
      obtain ⟨x, hx⟩ : ∃ x : UInt8, s[i]'hi = x := ⟨_, rfl⟩
      have Hx : Hid (s.data.toList[i]? = some x) := Lib.hid (by rw [← hx]; exact Lib.data_getElem? s i hi)
      by_cases hlt : x.toNat < 128
      · have hnx := fun ty => run_next_ascii_at (P := Tryz.prog) wr w1.heap.size s i ty HK.out hi (by rw [hx]; exact hlt)
        rw [hx] at hnx
        have HK2 := Lib.hid (Lib.iterAt_heap wr w1.heap.size s i (i + 1) HK.out)
        have HB2 := Lib.hid (Lib.below_iterAt HB.out (k := w1.heap.size) (Nat.le_refl _) s (i + 1))
        obtain ⟨W, hW⟩ : ∃ W, wr.iterAt w1.heap.size s (i + 1) = W := ⟨_, rfl⟩
        rw [hW] at hnx HK2 HB2
        have HR : Hid (Calls Tryz.prog 122 #[.string ⟨#[91, 59, 35]⟩, .int .i32 x.toNat] W fun e w' => e = .returned (.int .i64 (Lib.indexByte [91, 59, 35] x)) ∧ w' = W) := Lib.hid (by
          have h := Any.strings_IndexRune_ascii (ρ := Tryz.lays150_ren) { Tryz.lays150 with } ⟨#[91, 59, 35]⟩ x.toNat W (by omega) (by omega)
          have hb : ((x.toNat : Int)).toNat.toUInt8 = x := by simp
          rw [hb] at h; exact h)
        have hcon := Lib.contains_iff_indexByte [91, 59, 35] x
        clear hx hW
        cases hin : ([91, 59, 35] : List UInt8).contains x
        · rw [hin] at hcon
          have hge : ¬ ((0 : Int) ≤ Lib.indexByte [91, 59, 35] x) := of_decide_eq_false hcon.symm
          clear hcon
          go_wp2_with fail
          (with_reducible refine HR.out.mono ?_)
          rintro e w2 ⟨rfl, rfl⟩
          go_wp2_with fail
          go_roundg g
          case measure => omega
          case rel => exact ⟨i + 1, by omega, HK2, HB2, Lib.hid (HN.out.succ Hx.out hin)⟩
        · rw [hin] at hcon
          have hge : (0 : Int) ≤ Lib.indexByte [91, 59, 35] x := of_decide_eq_true hcon.symm
          clear hcon
          go_wp2_with fail
          (with_reducible refine HR.out.mono ?_)
          rintro e w2 ⟨rfl, rfl⟩
          go_wp2_with fail
          go_ret
          exact ⟨by rw [Lib.indexAny_hit HN.out Hx.out hin]; rfl, HB2.out⟩
      · obtain rfl : i = 0 := by have := H1.out; omega
        have hnx := fun ty => run_next_any_at (P := Tryz.prog) wr w1.heap.size s 0 ty HK.out hi
        have hd := decode_alone s H1.out (by rw [hx]; omega)
        rw [hd] at hnx
        have HN2 : Hid (NoAny s.data.toList [91, 59, 35] (0 + 1)) := Lib.hid (HN.out.succ Hx.out (c3_high (by omega)))
        have HK2 := Lib.hid (Lib.iterAt_heap wr w1.heap.size s 0 (0 + 1) HK.out)
        have HB2 := Lib.hid (Lib.below_iterAt HB.out (k := w1.heap.size) (Nat.le_refl _) s (0 + 1))
        dsimp only at hnx
        obtain ⟨W, hW⟩ : ∃ W, wr.iterAt w1.heap.size s (0 + 1) = W := ⟨_, rfl⟩
        rw [hW] at hnx HK2 HB2
        have HR := Lib.hid (indexRune_3 W)
        clear hx hW hd
        go_wp2_with fail
        (with_reducible refine HR.out.mono ?_)
        rintro e w2 ⟨rfl, hb2⟩
        go_wp2_with fail
        go_roundg (s.size - (0 + 1))
        case measure => omega
        case rel => exact ⟨0 + 1, by omega, Lib.hid ((hb2.block _ (Array.getElem?_eq_some_iff.1 HK2.out).1).trans HK2.out), Lib.hid (HB2.out.trans (hb2.mono HB2.out.size)), HN2⟩
/-- strings.ContainsAny of these three, in one byte. -/
theorem containsAny_one (s : ByteArray) (w : World) (hs : s.size = 1) : Calls Tryz.prog 84 #[.string s, .string ⟨#[91, 59, 35]⟩] w fun e w' => e = .returned (.bool (Lib.containsAny s.data.toList [91, 59, 35])) ∧ Below w.heap.size w w' := by
  have H := Lib.hid (indexAny_one s w hs)
  have HV : Lib.containsAny s.data.toList [91, 59, 35] = decide ((0 : Int) ≤ Lib.indexAny s.data.toList [91, 59, 35]) := rfl
  rw [HV]
  clear HV hs
  obtain ⟨v, hv⟩ : ∃ v, v = Lib.indexAny s.data.toList [91, 59, 35] := ⟨_, rfl⟩
  rw [← hv] at H ⊢
  go_enter Tryz.func84, Tryz.ntmps84
  go_wp2_with fail
  (with_reducible refine H.out.mono ?_)
  rintro e w1 ⟨rfl, hb⟩
  go_wp2_with fail
  go_ret
  exact ⟨by rw [hv]; rfl, hb⟩
end Go.Proofs.YtgefoehpdiiomaaGreatDoor.Cv
