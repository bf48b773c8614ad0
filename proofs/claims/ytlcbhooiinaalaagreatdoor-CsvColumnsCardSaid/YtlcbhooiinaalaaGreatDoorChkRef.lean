/- The reference's checker: it goes through a tree level by level. Conditions: fewer than 2^47 edges beside one another. -/
import Derived.Test.YtlcbhooiinaalaaGreatDoorMwChkMath
import Derived.Test.YtlcbhooiinaalaaGreatDoorJudge
import Derived.Test.YtlcbhooiinaalaaGreatDoorMwChkP
import Derived.Test.YtlcbhooiinaalaaGreatDoorMwCount
import Derived.Deep.QuietTactic
import Derived.BigQuiet
import Derived.IntWalk
namespace Go.Proofs.YtlcbhooiinaalaaGreatDoor.Jd
open Go.RowKit
set_option maxRecDepth 100000

/-- The name ahead of the k-th edge. -/
def nameAt : Tr → Nat → Option ByteArray
  | .nil, _ => none
  | .cons s _ _, 0 => some s
  | .cons _ _ r, k + 1 => nameAt r k
def prv (t : Tr) (k : Nat) : Option ByteArray := if k = 0 then none else nameAt t (k - 1)
theorem nameAt_drop : ∀ (t : Tr) (k : Nat) {s : ByteArray} {kt r : Tr}, t.dropT k = .cons s kt r → nameAt t k = some s
  | .nil, k, _, _, _, h => by cases k <;> simp [Tr.dropT] at h
  | .cons s0 k0 r0, 0, s, kt, r, h => by
    rw [dropT_zero] at h
    injection h with h _ _
    rw [← h]; rfl
  | .cons s0 k0 r0, k + 1, _, _, _, h => by
    simp only [Tr.dropT] at h
    exact nameAt_drop r0 k h

/-- The checker's box. -/
def Ckr (w : World) (g n e : Nat) : Prop := w.heap[g]? = some (.cells #[.int .i64 n, .int .i64 e] 103 (0, 0))
theorem Ckr.cells {w : World} {g n e : Nat} (h : Ckr w g n e) : w.cell? ⟨g, 0, none⟩ = some (.int .i64 n) ∧ w.cell? ⟨g, 1, none⟩ = some (.int .i64 e) ∧ (∀ o, w.frozen? ⟨g, o, none⟩ = false) ∧ g < w.heap.size := by
  unfold Ckr at h
  exact ⟨by rw [cell_of_row w g 0 _ _ _ h]; rfl, by rw [cell_of_row w g 1 _ _ _ h]; rfl, fun o => by simp [World.frozen?, h], (Array.getElem?_eq_some_iff.1 h).1⟩
theorem Ckr.set0 {w : World} {g n e : Nat} (h : Ckr w g n e) (n' : Nat) (v : Value) (hv : v = .int .i64 (n' : Int)) : Ckr (w.setCell ⟨g, 0, none⟩ v) g n' e := by
  unfold Ckr at h ⊢
  rw [heap_setCell_same w g 0 _ _ _ h, hv]; rfl
theorem Ckr.set1 {w : World} {g n e : Nat} (h : Ckr w g n e) (e' : Nat) (v : Value) (hv : v = .int .i64 (e' : Int)) : Ckr (w.setCell ⟨g, 1, none⟩ v) g n e' := by
  unfold Ckr at h ⊢
  rw [heap_setCell_same w g 1 _ _ _ h, hv]; rfl
theorem Ckr.drew {w : World} {g n e : Nat} (h : Ckr w g n e) : Ckr w.drew g n e := h
theorem Ckr.drewN {w : World} {g n e : Nat} (h : Ckr w g n e) (q : Nat) : Ckr (w.drewN q) g n e := h

/-- What walk's loop keeps: as if it began at the k-th edge; or a fault was found. -/
def WalkI (d : Nat) (t : Tr) (m0 : Nat) (k m e : Nat) : Prop :=
  (e = 0 → m ≤ 400 ∧ walkC d (t.dropT k) (prv t k) m = walkC d t none m0) ∧ (e ≠ 0 → walkC d t none m0 = (m, e))
theorem WalkI.start (d : Nat) (t : Tr) (m0 : Nat) (h : m0 ≤ 400) : WalkI d t m0 0 m0 0 := ⟨fun _ => ⟨h, by rw [dropT_zero]; rfl⟩, fun h => absurd rfl h⟩
theorem WalkI.fin {d m0 k m e : Nat} {t : Tr} (h : WalkI d t m0 k m e) (hk : t.len ≤ k) : walkC d t none m0 = (m, e) := by
  by_cases he : e = 0
  · subst he
    rw [← (h.1 rfl).2, drop_len t k hk]
    rfl
  · exact h.2 he
section
variable {d m0 k m : Nat} {t kt r : Tr} {s : ByteArray}
theorem WalkI.step (h : WalkI d t m0 k m 0) (hd : t.dropT k = .cons s kt r) (hd2 : t.dropT (k + 1) = r) :
    (400 < m + 1 → WalkI d t m0 (k + 1) (m + 1) 4) ∧
    (¬ 400 < m + 1 → 12 < d → WalkI d t m0 (k + 1) (m + 1) 11) ∧
    (¬ 400 < m + 1 → ¬ 12 < d → 80 < s.size → WalkI d t m0 (k + 1) (m + 1) 5) ∧
    (¬ 400 < m + 1 → ¬ 12 < d → ¬ 80 < s.size → notAfter (prv t k) s = true → WalkI d t m0 (k + 1) (m + 1) 12) ∧
    (¬ 400 < m + 1 → ¬ 12 < d → ¬ 80 < s.size → ¬ notAfter (prv t k) s = true → WalkI d t m0 (k + 1) (walkC (d + 1) kt none (m + 1)).1 (walkC (d + 1) kt none (m + 1)).2) := by
  obtain ⟨_, hw⟩ := h.1 rfl
  rw [hd] at hw
  simp only [walkC] at hw
  have hn : nameAt t k = some s := nameAt_drop t k hd
  refine ⟨fun h1 => ?_, fun h1 h2 => ?_, fun h1 h2 h3 => ?_, fun h1 h2 h3 h4 => ?_, fun h1 h2 h3 h4 => ?_⟩
  · rw [if_pos h1] at hw
    exact ⟨fun e => absurd e (by decide), fun _ => hw.symm⟩
  · rw [if_neg h1, if_pos h2] at hw
    exact ⟨fun e => absurd e (by decide), fun _ => hw.symm⟩
  · rw [if_neg h1, if_neg h2, if_pos h3] at hw
    exact ⟨fun e => absurd e (by decide), fun _ => hw.symm⟩
  · rw [if_neg h1, if_neg h2, if_neg h3, if_pos h4] at hw
    exact ⟨fun e => absurd e (by decide), fun _ => hw.symm⟩
  · rw [if_neg h1, if_neg h2, if_neg h3, if_neg h4] at hw
    constructor
    · intro hz
      rw [if_pos hz] at hw
      refine ⟨(walkC_le kt (d + 1) (m + 1) none (by omega)).2.2.1 hz, ?_⟩
      rw [hd2, ← hw, prv, if_neg (by omega), Nat.add_sub_cancel, hn]
    · intro hz
      rw [if_neg hz] at hw
      exact hw.symm
end

theorem nm_drop : ∀ (t : Tr) (k : Nat), Tr.Nm t → Tr.Nm (t.dropT k)
  | t, 0, h => by rw [dropT_zero]; exact h
  | .nil, _ + 1, _ => trivial
  | .cons _ _ r, k + 1, h => nm_drop r k h.2.2
theorem keep_of {w w' : World} {B g : Nat} (hg : w.grownBy w' (some g)) (hB : B ≤ g) (hl : g < w.heap.size) : ∀ p : Addr, p.block < B → w'.cell? p = w.cell? p :=
  fun p hp => World.cell?_of_block (hg.block p.block (by omega) (fun e => by injection e with e; omega))
theorem grown_trans {w w' w'' : World} {g : Nat} (h : w.grownBy w' (some g)) (k : w'.grownBy w'' (some g)) : w.grownBy w'' (some g) :=
  ⟨k.os.trans h.os, k.tape.trans h.tape, k.output.trans h.output, Nat.le_trans h.size k.size, fun i hi hn => (k.block i (Nat.lt_of_lt_of_le hi h.size) hn).trans (h.block i hi hn)⟩

theorem grown_drewN {w w' : World} {row : Option Nat} (h : w.grownBy w' row) (q : Nat) : w.grownBy (w'.drewN q) row := ⟨h.os, h.tape, h.output, h.size, h.block⟩

set_option maxHeartbeats 4000000 in
theorem rwalk_any (N : Nat) : ∀ (t : Tr) (A : Option Addr) (n c B d m g : Nat) (w : World), t.size ≤ N → Holds w B A n t → B ≤ g → Ckr w g m 0 → m ≤ 400 → n ≤ 140737488351232 → t.Low → Tr.Nm t → d ≤ 13 →
    Calls Tryz.prog 56 #[.pointer (some ⟨g, 0, none⟩), .slice A n c, .int .i64 d] w fun e w' => (∃ v, e = .returned v) ∧ Ckr w' g (walkC d t none m).1 (walkC d t none m).2 ∧ w.grownBy w' (some g) := by
  induction N with
  | zero =>
    intro t A n c B d m g w hN h hB hC hm hn hl hnm hd
    cases t with
    | nil =>
      obtain rfl : n = 0 := h
      have HC := Lib.hid hC
      obtain ⟨hc0, hc1, hf, hgl⟩ := hC.cells
      clear hC hf
      go_enter Tryz.func56, Tryz.ntmps56
      go_wp2_with fail
      go_loop [6] (fun i => i = .int .i64 0) (fun _ => 0)
      case atStart => exact rfl
      case round =>
        subst hrel
        go_wp2_with fail
        go_end0
        exact ⟨⟨_, rfl⟩, HC.out, World.grownBy.refl _ _⟩
    | cons s k r => simp [Tr.size] at hN
  | succ N ih =>
    intro t A n c B d m g w hN h hB hC hm hn hl hnm hd
    have Hn := Lib.hid h.len
    have HC0 := Lib.hid hC
    have HI0 := Lib.hid (WalkI.start d t m hm)
    have hgl := hC.cells.2.2.2
    clear hC
    go_enter Tryz.func56, Tryz.ntmps56
    go_wp2_with fail
    go_loopw [6] (fun i wr => ∃ k m' e' : Nat, k ≤ n ∧ i = .int .i64 k ∧ Hid (Ckr wr g m' e') ∧ w.grownBy wr (some g) ∧ Hid (WalkI d t m k m' e')) (fun i _ => n - (intOf i).toNat)
    case atStart => exact ⟨0, m, 0, Nat.zero_le _, rfl, HC0, World.grownBy.refl _ _, HI0⟩
    case round =>
      obtain ⟨k, m', e', hk, rfl, HC, hgr, HI⟩ := hrel
      obtain ⟨hc0, hc1, hf, hgl2⟩ := HC.out.cells
      by_cases hlt : k < n
      · by_cases he : e' = 0
        · subst he
          obtain ⟨b, o, s, kt, r, A', n', c', rfl, hb, hs, hcl, hn', hc', hk', hr, hd1, hd2⟩ := (h.keep (keep_of hgr hB hgl)).split k hlt
          have hbg : b ≠ g := by omega
          have hS := HI.out.step hd1 hd2
          have hm4 := (HI.out.1 rfl).1
          have HC1 := Lib.hid (HC.out.set0 (m' + 1) (.int .i64 ((m' : Int) + 1)) rfl)
          have hgr1 : w.grownBy (wr.setCell ⟨g, 0, none⟩ (.int .i64 ((m' : Int) + 1))) (some g) := grown_trans hgr (grown_set wr ⟨g, 0, none⟩ _)
          have hc10 : (wr.setCell ⟨g, 0, none⟩ (.int .i64 ((m' : Int) + 1))).cell? ⟨g, 0, none⟩ = some (.int .i64 ((m' : Int) + 1)) := HC1.out.cells.1
          have hf0 := hf 0
          have hf1 : (wr.setCell ⟨g, 0, none⟩ (.int .i64 ((m' : Int) + 1))).frozen? ⟨g, 1, none⟩ = false := HC1.out.cells.2.2.1 1
          have hc11 : (wr.setCell ⟨g, 0, none⟩ (.int .i64 ((m' : Int) + 1))).cell? ⟨g, 1, none⟩ = some (.int .i64 0) := HC1.out.cells.2.1
          have hs1 : (wr.setCell ⟨g, 0, none⟩ (.int .i64 ((m' : Int) + 1))).cell? ⟨b, o + k * 2, none⟩ = some (.string s) := (World.cell?_setCell_other _ _ _ _ (fun e => hbg (congrArg Addr.block e).symm)).trans hs
          have hcl1 : (wr.setCell ⟨g, 0, none⟩ (.int .i64 ((m' : Int) + 1))).cell? ⟨b, o + k * 2 + 1, none⟩ = some (.slice A' n' c') := (World.cell?_setCell_other _ _ _ _ (fun e => hbg (congrArg Addr.block e).symm)).trans hcl
          have hkn : (k : Int) < (n : Int) := by omega
          have hk0 : (0 : Int) ≤ (k : Int) := by omega
          have hnms : s.size ≤ 140737488351232 := by
            have := nm_drop t k hnm
            rw [hd1] at this
            exact this.1
          have Hlt := Lib.hid hlt
          obtain ⟨hS1, hS2, hS3, hS4, hS5⟩ := hS
          by_cases h1 : 400 < m' + 1
          · have h1' : (400 : Int) < (m' : Int) + 1 := by omega
            have HS := Lib.hid (hS1 h1)
            clear hd1 hd2 hS1 hS2 hS3 hS4 hS5 h1 hf hlt
            go_wp2_with fail
            go_roundw
            case rel => exact ⟨k + 1, _, _, Hlt.out, by go_num, Lib.hid (HC1.out.set1 4 _ rfl), grown_trans hgr1 (grown_set _ ⟨g, 1, none⟩ _), HS⟩
            case measure => simp [intOf]; omega
          have h1' : ¬ (400 : Int) < (m' : Int) + 1 := by omega
          by_cases h2 : 12 < d
          · have h2' : (12 : Int) < (d : Int) := by omega
            have HS := Lib.hid (hS2 h1 h2)
            clear hd1 hd2 hS1 hS2 hS3 hS4 hS5 h1 h2 hf hlt
            go_wp2_with fail
            go_roundw
            case rel => exact ⟨k + 1, _, _, Hlt.out, by go_num, Lib.hid (HC1.out.set1 11 _ rfl), grown_trans hgr1 (grown_set _ ⟨g, 1, none⟩ _), HS⟩
            case measure => simp [intOf]; omega
          have h2' : ¬ (12 : Int) < (d : Int) := by omega
          by_cases h3 : 80 < s.size
          · have h3' : (80 : Int) < (s.size : Int) := by omega
            have HS := Lib.hid (hS3 h1 h2 h3)
            clear hd1 hd2 hS1 hS2 hS3 hS4 hS5 h1 h2 h3 hf hlt
            go_wp2_with fail
            go_roundw
            case rel => exact ⟨k + 1, _, _, Hlt.out, by go_num, Lib.hid (HC1.out.set1 5 _ rfl), grown_trans hgr1 (grown_set _ ⟨g, 1, none⟩ _), HS⟩
            case measure => simp [intOf]; omega
          have h3' : ¬ (80 : Int) < (s.size : Int) := by omega
          have hbl : b < wr.heap.size := World.block_lt_of_cell? _ _ hs
          by_cases h4 : notAfter (prv t k) s = true
          · have HS := Lib.hid (hS4 h1 h2 h3 h4)
            have hk1 : 0 < k := by
              rcases Nat.eq_zero_or_pos k with e | e
              · subst e; simp [prv, notAfter] at h4
              · exact e
            obtain ⟨j, hj⟩ : ∃ j, k = j + 1 := ⟨k - 1, by omega⟩
            obtain ⟨b', o', p, kt', r', A3, n3, c3, e, _, hsp, _, _, _, _, _, hdp, _⟩ := (h.keep (keep_of hgr hB hgl)).split j (by omega)
            cases e
            have hp : prv t k = some p := by rw [prv, if_neg (by omega), hj, Nat.add_sub_cancel]; exact nameAt_drop t j hdp
            rw [hp] at h4
            have h4' : Op.bytesLess p.toList s.toList = false := by simpa [notAfter] using h4
            have hj1 : (k : Int) - 1 = (j : Int) := by omega
            have hj0 : (0 : Int) ≤ (j : Int) := by omega
            have hjn : (j : Int) < (n : Int) := by omega
            have hjb : j ≤ 140737488351232 := by omega
            have hkb : k ≤ 140737488351232 := by omega
            have hg : (0 : Int) < (k : Int) := by omega
            have hs3 : (wr.setCell ⟨g, 0, none⟩ (.int .i64 ((m' : Int) + 1))).cell? ⟨b, o + j * 2, none⟩ = some (.string p) := (World.cell?_setCell_other _ _ _ _ (fun e => hbg (congrArg Addr.block e).symm)).trans hsp
            clear hd1 hd2 hS1 hS2 hS3 hS4 hS5 h1 h2 h3 h4 hf hlt hj hp hdp hsp
            rcases not_lt h4' with h5 | ⟨h5, h6⟩
            all_goals
              clear h4'
              go_wp2_with fail
              go_quiet (fail)
              have HC2 := HC1.out.drewN nq
              have hf2 : ((wr.setCell ⟨g, 0, none⟩ (.int .i64 ((m' : Int) + 1))).drewN nq).frozen? ⟨g, 1, none⟩ = false := HC2.cells.2.2.1 1
              have hc21 : ((wr.setCell ⟨g, 0, none⟩ (.int .i64 ((m' : Int) + 1))).drewN nq).cell? ⟨g, 1, none⟩ = some (.int .i64 0) := HC2.cells.2.1
              go_wp2_with fail
              go_roundw
              case rel => exact ⟨k + 1, _, _, Hlt.out, by go_num, Lib.hid (HC2.set1 12 _ rfl), grown_trans (grown_drewN hgr1 _) (grown_set _ ⟨g, 1, none⟩ _), HS⟩
              case measure => simp [intOf]; omega
          · have HS := Lib.hid (hS5 h1 h2 h3 h4)
            have hld := hl.drop k
            rw [hd1] at hld
            obtain ⟨hl1, hll, _⟩ := hld
            have hnb : n' ≤ 140737488351232 := by rw [hk'.len]; exact hl1
            have hlnm : Tr.Nm kt := by
              have := nm_drop t k hnm
              rw [hd1] at this
              exact this.2.1
            have hszk := size_drop t k
            rw [hd1] at hszk
            simp only [Tr.size] at hszk
            have hktN : kt.size ≤ N := by omega
            have hm5 : m' + 1 ≤ 400 := by omega
            have hkp : ∀ p : Addr, p.block < B → (wr.setCell ⟨g, 0, none⟩ (.int .i64 ((m' : Int) + 1))).cell? p = wr.cell? p := fun p hp => World.cell?_setCell_other _ _ _ _ (fun e => by have := congrArg Addr.block e; simp only at this; omega)
            have hd12 : d ≤ 12 := by omega
            have Hkp := Lib.hid hkp
            clear hN hszk hl1 hkp
            rcases Nat.eq_zero_or_pos k with hk1 | hk1
            · have hg : ¬ ((0 : Int) < (k : Int)) := by omega
              have hg2 : ¬ (0 < k) := by omega
              clear hd1 hd2 hS1 hS2 hS3 hS4 hS5 h1 h2 h3 h4 hf hlt hk1
              go_wp2_with fail
              go_quiet (fail)
              have hcall := ih kt A' n' c' B (d + 1) (m' + 1) g ((wr.setCell ⟨g, 0, none⟩ (.int .i64 ((m' : Int) + 1))).drewN nq) (by omega) (hk'.keep (w' := (wr.setCell ⟨g, 0, none⟩ (.int .i64 ((m' : Int) + 1))).drewN nq) (fun p hp => Hkp.out p hp)) hB (HC1.out.drewN nq) (by omega) hnb hll hlnm (by omega)
              rw [show (((d + 1 : Nat)) : Int) = (d : Int) + 1 from rfl] at hcall
              have HCall := Lib.hid hcall
              clear hcall
              have hcl2 : ((wr.setCell ⟨g, 0, none⟩ (.int .i64 ((m' : Int) + 1))).drewN nq).cell? ⟨b, o + k * 2 + 1, none⟩ = some (.slice A' n' c') := hcl1
              go_wp2_with fail
              refine HCall.out.mono ?_
              rintro e w3 ⟨⟨v, rfl⟩, hC3, hg3⟩
              go_wp2_with fail
              go_roundw
              case rel => exact ⟨k + 1, _, _, Hlt.out, by go_num, Lib.hid hC3, grown_trans (grown_drewN hgr1 _) hg3, HS⟩
              case measure => simp [intOf]; omega
            · obtain ⟨j, hj⟩ : ∃ j, k = j + 1 := ⟨k - 1, by omega⟩
              obtain ⟨b', o', p, kt', r', A3, n3, c3, e, _, hsp, _, _, _, _, _, hdp, _⟩ := (h.keep (keep_of hgr hB hgl)).split j (by omega)
              cases e
              have hp : prv t k = some p := by rw [prv, if_neg (by omega), hj, Nat.add_sub_cancel]; exact nameAt_drop t j hdp
              rw [hp] at h4
              have h4' : Op.bytesLess p.toList s.toList = true := by simpa [notAfter] using h4
              have hj1 : (k : Int) - 1 = (j : Int) := by omega
              have hj0 : (0 : Int) ≤ (j : Int) := by omega
              have hjn : (j : Int) < (n : Int) := by omega
              have hjb : j ≤ 140737488351232 := by omega
              have hkb : k ≤ 140737488351232 := by omega
              have hg : (0 : Int) < (k : Int) := by omega
              have hk2 : 0 < k := hk1
              have hwj : IntKind.i64.wrap (j : Int) = (j : Int) := IntWalk.i64_in _ (by omega)
              have hs3 : (wr.setCell ⟨g, 0, none⟩ (.int .i64 ((m' : Int) + 1))).cell? ⟨b, o + j * 2, none⟩ = some (.string p) := (World.cell?_setCell_other _ _ _ _ (fun e => hbg (congrArg Addr.block e).symm)).trans hsp
              clear hd1 hd2 hS1 hS2 hS3 hS4 hS5 h1 h2 h3 h4 hf hlt hj hp hdp hsp
              obtain ⟨h5, h6⟩ := lt_not h4'
              clear h4'
              go_wp2_with fail
              go_quiet (fail)
              have hcall := ih kt A' n' c' B (d + 1) (m' + 1) g ((wr.setCell ⟨g, 0, none⟩ (.int .i64 ((m' : Int) + 1))).drewN nq) (by omega) (hk'.keep (w' := (wr.setCell ⟨g, 0, none⟩ (.int .i64 ((m' : Int) + 1))).drewN nq) (fun p hp => Hkp.out p hp)) hB (HC1.out.drewN nq) (by omega) hnb hll hlnm (by omega)
              rw [show (((d + 1 : Nat)) : Int) = (d : Int) + 1 from rfl] at hcall
              have HCall := Lib.hid hcall
              clear hcall
              have hcl2 : ((wr.setCell ⟨g, 0, none⟩ (.int .i64 ((m' : Int) + 1))).drewN nq).cell? ⟨b, o + k * 2 + 1, none⟩ = some (.slice A' n' c') := hcl1
              go_wp2_with fail
              refine HCall.out.mono ?_
              rintro e w3 ⟨⟨v, rfl⟩, hC3, hg3⟩
              go_wp2_with fail
              go_roundw
              case rel => exact ⟨k + 1, _, _, Hlt.out, by go_num, Lib.hid hC3, grown_trans (grown_drewN hgr1 _) hg3, HS⟩
              case measure => simp [intOf]; omega
        · have he2 : ((e' : Int) == 0) = false := by simpa using he
          have he3 : ¬ (e' : Int) = 0 := by omega
          have hfin : walkC d t none m = (m', e') := HI.out.2 he
          have Hfin := Lib.hid hfin
          have hkn : (k : Int) < (n : Int) := by omega
          clear hfin he hf hlt
          go_wp2_with fail
          go_end0
          exact ⟨⟨_, rfl⟩, by rw [Hfin.out]; exact HC.out, hgr⟩
      · obtain rfl : k = n := by omega
        have hfin : walkC d t none m = (m', e') := HI.out.fin (by rw [← Hn.out]; exact Nat.le_refl _)
        have Hfin := Lib.hid hfin
        clear hfin hf hlt
        go_wp2_with fail
        go_end0
        exact ⟨⟨_, rfl⟩, by rw [Hfin.out]; exact HC.out, hgr⟩

/-- Check of the reference: the same fault. -/
theorem rcheck_any (t : Tr) (A : Option Addr) (n c B : Nat) (w : World) (h : Holds w B A n t) (hB : B ≤ w.heap.size) (hn : n ≤ 140737488351232) (hl : t.Low) (hnm : Tr.Nm t) :
    Calls Tryz.prog 31 #[.slice A n c] w fun e w' => e = .returned (.int .i64 (t.fault : Nat)) ∧ Below w.heap.size w w' := by
  have hC : Ckr (w.alloc (.cells #[.int .i64 0, .int .i64 0] 103)) w.heap.size 0 0 := heap_alloc_new w _
  have hcall := rwalk_any t.size t A n c B 1 0 w.heap.size (w.alloc (.cells #[.int .i64 0, .int .i64 0] 103)) (Nat.le_refl _) (h.keep fun p hp => World.cell?_alloc_lt _ _ _ (Nat.lt_of_lt_of_le hp hB)) hB hC (by omega) hn hl hnm (by omega)
  obtain ⟨q, hq⟩ : ∃ q, q = t.fault := ⟨_, rfl⟩
  rw [← hq]
  have Hq := Lib.hid hq
  have HCall := Lib.hid hcall
  clear hcall hC hq
  go_enter Tryz.func31, Tryz.ntmps31
  go_wp2_with fail
  refine HCall.out.mono ?_
  rintro e w3 ⟨⟨v, rfl⟩, hC3, hg3⟩
  have hc3 := hC3.cells.2.1
  have he : (walkC 1 t none 0).2 = q := by rw [Hq.out]; rfl
  rw [he] at hc3
  clear he hC3
  go_wp2_with fail
  go_ret
  exact ⟨rfl, ((Below.refl _ w).alloc (Nat.le_refl _) _).grown hg3 (by simp) (fun k e => by injection e with e; omega)⟩
end Go.Proofs.YtlcbhooiinaalaaGreatDoor.Jd
