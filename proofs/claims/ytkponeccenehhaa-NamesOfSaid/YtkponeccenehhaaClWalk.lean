/- NamesOf: a tree's edges are parted by a set, each as it is, in order: the law's walk. No conditions. -/
import Derived.Test.YtkponeccenehhaaClOf
import Derived.Test.YtkponeccenehhaaClRof
import Derived.Test.YtkponeccenehhaaMake
import Derived.Test.YtkponeccenehhaaSame
import Derived.Test.YtkponeccenehhaaRaws
import Derived.Test.YtkponeccenehhaaNmOpen
import Derived.Test.YtkponeccenehhaaNmHas
namespace Go.Proofs.Ytkponeccenehhaa.Cl
open Go.RowKit Go.Proofs.Ytkponeccenehhaa.Nm
set_option maxRecDepth 100000

theorem withT_size {name : ByteArray} {x : Tr} : ∀ {t : Tr}, (t.withT name x).size ≤ t.size + x.size + 1
  | .nil => by simp [Tr.withT, Tr.size]
  | .cons s k r => by
    have := withT_size (name := name) (x := x) (t := r)
    unfold Tr.withT
    split
    · simp only [Tr.size]; omega
    · split
      · simp only [Tr.size]; omega
      · simp only [Tr.size]; omega
theorem makeT_size (W : Nat) : ∀ (t : Tr) (l d : Nat) (acc : Tr), (t.makeT W l d acc).size ≤ acc.size + t.size
  | .nil, _, _, acc => by simp [Tr.makeT]
  | .cons s k r, l, d, acc => by
    unfold Tr.makeT
    split
    · simp only [Tr.size]; omega
    · have h1 := makeT_size W r (l - 1) d (acc.withT (cut30 s) (k.makeT W W (d - 1) .nil))
      have h2 := makeT_size W k W (d - 1) .nil
      have h3 := withT_size (name := cut30 s) (x := k.makeT W W (d - 1) .nil) (t := acc)
      simp only [Tr.size] at h2 ⊢
      omega
theorem low_small : ∀ {t : Tr}, t.size ≤ 140737488351232 → t.Low
  | .nil, _ => trivial
  | .cons _ k r, h => by
    simp only [Tr.size] at h
    have := k.len_size
    exact ⟨by omega, low_small (by omega), low_small (by omega)⟩
theorem part_size (f : List UInt8 → Bool) : ∀ t : Tr, (part f t).size ≤ t.size
  | .nil => by simp [part]
  | .cons s k r => by
    have := part_size f r
    unfold part
    split <;> simp only [Tr.size] <;> omega
theorem part_in {f : List UInt8 → Bool} : ∀ {t : Tr} {k : Nat} {s : ByteArray} {kt r : Tr}, (part f t).dropT k = .cons s kt r → f s.data.toList = true
  | .nil, 0, _, _, _, h => by simp [part, dropT_zero] at h
  | .nil, _ + 1, _, _, _, h => by simp [part, Tr.dropT] at h
  | .cons s0 k0 r0, k, s, kt, r, h => by
    unfold part at h
    split at h
    · rename_i h0
      cases k with
      | zero => rw [dropT_zero] at h; injection h with h1 _ _; subst h1; exact h0
      | succ k => exact part_in (t := r0) h
    · exact part_in (t := r0) h

set_option maxHeartbeats 4000000 in
theorem namesOf_walk (r : Tr) (A : Option Addr) (n c : Nat) (a : St) (A2 : Option Addr) (n2 c2 : Nat) (w : World) (h : Holds w w.heap.size A n r) (hn : n ≤ 140737488351232) (hl : r.Low) (hc : n ≤ c) (hm : c ≤ maxLen) (ha : In w a A2 n2) :
    Calls Try.prog 3 #[.slice A n c, .agg #[.bool a.all, .slice A2 n2 c2]] w fun e w' => e = .returned (.bool true) ∧ Below w.heap.size w w' := by
  have hF := fun (W : World) (hW : Below w.heap.size w W) => _root_.Go.Proofs.Ytkponeccenehhaa.few_any r A n c w.heap.size W (h.below hW) hW.size hn hl
  have hF2 := fun (W : World) => Nm.few_any a.all A2 n2 c2 W
  by_cases hr : r.count n 200 < 200
  · rw [decide_eq_true hr] at hF
    have HF := Lib.hid hF
    by_cases hn25 : n2 ≤ 25
    · rw [decide_eq_true hn25] at hF2
      have HF2 := Lib.hid hF2
      have hrz := few_yes h.len hr
      have hM := fun (W : World) (hW : Below w.heap.size w W) => make_any r.size r A n c w.heap.size 10 3 W (Nat.le_refl _) (h.below hW) hW.size hc hm (by omega) (by omega) (by omega) (by omega) (by omega)
      have hzt := makeT_size (10 : Int).toNat r (10 : Int).toNat (3 : Int).toNat .nil
      obtain ⟨t, ht⟩ : ∃ t, t = r.makeT (10 : Int).toNat (10 : Int).toNat (3 : Int).toNat .nil := ⟨_, rfl⟩
      rw [← ht] at hM hzt
      simp only [Tr.size] at hzt
      have hz1 : t.size ≤ 200 := by omega
      have HM := Lib.hid hM
      have Ha := Lib.hid ha
      clear hF hF2 hM ht hzt hr hrz h hl ha
      go_enter Try.func3, Try.ntmps3
      go_wp2_with fail
      (with_reducible refine (Nm.known_any _).mono ?_)
      rintro e w1 ⟨rfl, hb1⟩
      have g0 := Below.box hb1 (heap_alloc_new w _)
      have hw1 : Below w.heap.size w w1 := ((Below.refl _ _).alloc (Nat.le_refl _) _).trans (hb1.mono (by simp))
      have hsz1 : w.heap.size < w1.heap.size := (Array.getElem?_eq_some_iff.1 g0).1
      obtain ⟨p0, p1, _, _⟩ := box2 g0
      clear hb1
      go_wp2_with fail
      (with_reducible refine (HF.out w1 hw1).mono ?_)
      rintro e _ ⟨rfl, rfl⟩
      go_wp2_with fail
      (with_reducible refine (HF2.out _).mono ?_)
      rintro e w2 ⟨rfl, hb2⟩
      have g1 := Below.box hb2 g0
      have hw2 := hw1.trans (hb2.mono hw1.size)
      clear p0 p1 g0 hw1 hb2 hsz1
      go_wp2_with fail
      (with_reducible refine (HM.out w2 hw2).mono ?_)
      rintro e w3 ⟨B, m, d, rfl, ht3, hmd, hd3, hb3⟩
      have g2 := Below.box hb3 g1
      have hw3 := hw2.trans (hb3.mono hw2.size)
      obtain ⟨p0, p1, _, _⟩ := box2 g2
      have hmz : m ≤ 200 := by have := ht3.len; have := t.len_size; omega
      have hO := Lib.hid (of_any a A2 n2 c2 t B m d w3 (Ha.out.below hw3) (by omega) ht3 (by omega))
      clear hw2 hb3 g1
      go_wp2_with fail
      (with_reducible refine hO.out.mono ?_)
      rintro e w4 ⟨A4, n4, c4, A5, n5, c5, rfl, h4, h5, hs4, _, _, _, _, hb4⟩
      have g3 := Below.box hb4 g2
      have hw4 := hw3.trans (hb4.mono hw3.size)
      obtain ⟨p0, p1, _, _⟩ := box2 g3
      have ht4 := (ht3.below hb4).more hb4.size
      have Hs4 := Lib.hid hs4
      have hO2 := Lib.hid (rof_any a A2 n2 c2 t B m d w4 (Ha.out.below hw4) (by omega) ht4 (by omega))
      clear hw3 hb4 g2 hs4 ht3 hO
      go_wp2_with fail
      (with_reducible refine hO2.out.mono ?_)
      rintro e w5 ⟨A6, n6, c6, A7, n7, c7, rfl, h6, h7, hs6, _, _, _, _, hb5⟩
      have g4 := Below.box hb5 g3
      have hw5 := hw4.trans (hb5.mono hw4.size)
      have ht5 := (ht4.below hb5).more hb5.size
      have h4' := (h4.below hb5).more hb5.size
      have h5' := (h5.below hb5).more hb5.size
      have hzx := part_size (fun x => a.mem x) t
      have hzy := part_size (fun x => !a.mem x) t
      have Hw5 := Lib.hid hw5
      clear hs6 hw4 hb5 g3 ht4 h4 h5 hO2
      obtain ⟨X, hX⟩ : ∃ X, X = part (fun x => a.mem x) t := ⟨_, rfl⟩
      obtain ⟨Y, hY⟩ : ∃ Y, Y = part (fun x => !a.mem x) t := ⟨_, rfl⟩
      have HX := Lib.hid hX
      have HY := Lib.hid hY
      rw [← hX] at h4' h6 hzx
      rw [← hY] at h5' h7 hzy
      clear hX hY
      have hlx : X.Low := low_small (by omega)
      have hly : Y.Low := low_small (by omega)
      have l4 : n4 ≤ 200 := by have := h4'.len; have := X.len_size; omega
      have l5 : n5 ≤ 200 := by have := h5'.len; have := Y.len_size; omega
      have l6 : n6 ≤ 200 := by have := h6.len; have := X.len_size; omega
      have l7 : n7 ≤ 200 := by have := h7.len; have := Y.len_size; omega
      have S1 := Lib.hid (rsame_any X.size X X A4 A6 n4 n6 c4 c6 w5.heap.size w5 (Nat.le_refl _) h4' h6 (Nat.le_refl _) (by omega) (by omega) hlx hlx)
      have S2 := Lib.hid (fun q => rsame_any Y.size Y Y A5 A7 n5 n7 c5 c7 w5.heap.size (w5.drewN q) (Nat.le_refl _) (h5'.drewN q) (h7.drewN q) (Nat.le_refl _) (by omega) (by omega) hly hly)
      have G4 := Lib.hid g4
      have H4 := Lib.hid h4'
      have H5 := Lib.hid h5'
      have HT := Lib.hid ht5
      have Hlx := Lib.hid hlx
      have Hly := Lib.hid hly
      simp only [same_refl] at S1 S2
      have hsum : (n4 : Int) + (n5 : Int) = (m : Int) := by have := Hs4.out; omega
      have hne : ((m : Int) != (m : Int)) = false := by simp
      have hwr : IntKind.i64.wrap ((n4 : Int) + (n5 : Int)) = (m : Int) := by rw [IntKind.wrap_i64]; omega
      clear g4 h4' h5' h6 h7 hlx hly ht5 hw5 hzx hzy
      go_wp2_with fail
      (with_reducible refine S1.out.mono ?_)
      rintro e _ ⟨rfl, q, rfl⟩
      go_wp2_with fail
      (with_reducible refine (S2.out q).mono ?_)
      rintro e _ ⟨rfl, q2, rfl⟩
      go_wp2_with fail
      clear S1 S2
      go_loopw [10] (fun i wr => ∃ k : Nat, k ≤ n4 ∧ i = .int .i64 k ∧ Below w5.heap.size w5 wr) (fun i _ => n4 - (intOf i).toNat)
      case atStart => exact ⟨0, Nat.zero_le _, rfl, by first | exact below_drewN (Below.refl _ _) _ | exact below_drewN (below_drewN (Below.refl _ _) _) _⟩
      case round =>
        obtain ⟨k, hk, rfl, hbw⟩ := hrel
        by_cases hlt : k < n4
        · obtain ⟨b, o, x, kt, rr, A', n', c', rfl, hb, hs, hcx, hn', hc', hk', hrr, hd, hd2⟩ := (H4.out.below hbw).split k hlt
          have hmx : a.mem x.data.toList = true := by rw [HX.out] at hd; exact part_in hd
          have HC := Lib.hid (has_name a A2 n2 c2 x wr.drew (Ha.out.below (Hw5.out.trans (hbw.drew.mono Hw5.out.size))) (by omega))
          rw [hmx] at HC
          have hkn : (k : Int) < (n4 : Int) := by omega
          have hk0 : (0 : Int) ≤ (k : Int) := by omega
          have HK := Lib.hid (fun W (hb' : Below wr.heap.size wr W) => (⟨(box2 (Below.box hb' (Below.box hbw G4.out))).1, (box2 (Below.box hb' (Below.box hbw G4.out))).2.1, (hb'.cell (p := ⟨b, o + k * 2, none⟩) (by have := hbw.size; show b < _; omega)).trans hs⟩ : W.cell? ⟨w.heap.size, 0, none⟩ = some (.bool a.all) ∧ W.cell? ⟨w.heap.size, 1, none⟩ = some (.slice A2 n2 c2) ∧ W.cell? ⟨b, o + k * 2, none⟩ = some (.string x)))
          have hb0 : Below wr.heap.size wr wr.drew := (Below.refl _ _).drew
          clear hmx hd hd2 hk' hrr
          go_wp2_with fail
          go_region_held3 (fun W => W.cell? ⟨w.heap.size, 0, none⟩ = some (.bool a.all) ∧ W.cell? ⟨w.heap.size, 1, none⟩ = some (.slice A2 n2 c2) ∧ W.cell? ⟨b, o + k * 2, none⟩ = some (.string x))
            (first | exact HK.out _ hbr | exact HK.out _ hb0)
            ((go_at_call 12; (with_reducible refine HC.out.mono ?_); rintro e w7 ⟨rfl, hb7⟩; have hbr : Below wr.heap.size wr w7 := hb0.trans hb7))
          all_goals
            go_wp2_with fail
            go_roundw
            case rel => exact ⟨k + 1, by omega, by go_num, hbw.trans (hbr.mono hbw.size)⟩
            case measure => simp [intOf]; omega
        · obtain rfl : k = n4 := by omega
          obtain ⟨p0, p1, _, _⟩ := box2 (Below.box hbw G4.out)
          have hNot := Lib.hid (not_at (W1 := w5) a A2 n2 c2 (by omega) wr hbw (Ha.out.below (Hw5.out.trans (hbw.mono Hw5.out.size))))
          have hnl : (nott a).l.length ≤ 25 := by have := nott_le a; have := Ha.out.len; omega
          clear hlt
          go_wp2_with fail
          (with_reducible refine hNot.out.mono ?_)
          rintro e w7 ⟨A8, c8, rfl, hi8, hb7⟩
          have ht7 := (HT.out.below hb7).more hb7.size
          have hO3 := (of_any (nott a) A8 (nott a).l.length c8 t B m d w7 hi8 (by omega) ht7 (by omega))
          simp only [nott_mem, Bool.not_not] at hO3
          have HO3 := Lib.hid hO3
          clear hO3 hnl ht7 hi8 p0 p1
          go_wp2_with fail
          (with_reducible refine HO3.out.mono ?_)
          rintro e w8 ⟨A8, n8, c8, A9, n9, c9, rfl, h8, h9, _, _, _, _, _, hb8⟩
          rw [← HX.out] at h9
          rw [← HY.out] at h8
          have hb9 : Below w5.heap.size w5 w8 := hb7.trans (hb8.mono hb7.size)
          have h4' := (H4.out.below hb9).more hb9.size
          have h5' := (H5.out.below hb9).more hb9.size
          have l8 : n8 = n5 := by have := h8.len; have := h5'.len; omega
          have l9 : n9 = k := by have := h9.len; have := h4'.len; omega
          subst l8; subst l9
          have S1 := Lib.hid (rsame_any Y.size Y Y A8 A5 _ _ c8 c5 w8.heap.size w8 (Nat.le_refl _) h8 h5' (Nat.le_refl _) (by omega) (by omega) Hly.out Hly.out)
          have S2 := Lib.hid (fun q => rsame_any X.size X X A9 A4 _ _ c9 c4 w8.heap.size (w8.drewN q) (Nat.le_refl _) (h9.drewN q) (h4'.drewN q) (Nat.le_refl _) (by omega) (by omega) Hlx.out Hlx.out)
          simp only [same_refl] at S1 S2
          have HB9 := Lib.hid hb9
          clear h8 h9 h4' h5' hb8 hb9 HO3
          go_wp2_with fail
          (with_reducible refine S1.out.mono ?_)
          rintro e _ ⟨rfl, q3, rfl⟩
          go_wp2_with fail
          (with_reducible refine (S2.out q3).mono ?_)
          rintro e _ ⟨rfl, q4, rfl⟩
          go_wp2_with fail
          go_ret
          exact ⟨rfl, Hw5.out.trans ((by first | exact below_drewN HB9.out _ | exact below_drewN (below_drewN HB9.out _) _ : Below w5.heap.size w5 _).mono Hw5.out.size)⟩
    · rw [decide_eq_false hn25] at hF2
      have HF := Lib.hid hF
      have HF2 := Lib.hid hF2
      clear hF hF2 hr h hl ha hn25
      go_enter Try.func3, Try.ntmps3
      go_wp2_with fail
      (with_reducible refine (Nm.known_any _).mono ?_)
      rintro e w1 ⟨rfl, hb1⟩
      have g0 := Below.box hb1 (heap_alloc_new w _)
      have hw1 : Below w.heap.size w w1 := ((Below.refl _ _).alloc (Nat.le_refl _) _).trans (hb1.mono (by simp))
      obtain ⟨p0, p1, _, _⟩ := box2 g0
      clear hb1
      go_wp2_with fail
      (with_reducible refine (HF.out w1 hw1).mono ?_)
      rintro e _ ⟨rfl, rfl⟩
      go_wp2_with fail
      (with_reducible refine (HF2.out _).mono ?_)
      rintro e w2 ⟨rfl, hb2⟩
      go_wp2_with fail
      go_ret
      exact ⟨rfl, hw1.trans (hb2.mono hw1.size)⟩
  · rw [decide_eq_false hr] at hF
    have HF := Lib.hid hF
    clear hF hF2 hr h hl ha
    go_enter Try.func3, Try.ntmps3
    go_wp2_with fail
    (with_reducible refine (Nm.known_any _).mono ?_)
    rintro e w1 ⟨rfl, hb1⟩
    have hw1 : Below w.heap.size w w1 := ((Below.refl _ _).alloc (Nat.le_refl _) _).trans (hb1.mono (by simp))
    clear hb1
    go_wp2_with fail
    (with_reducible refine (HF.out w1 hw1).mono ?_)
    rintro e _ ⟨rfl, rfl⟩
    go_wp2_with fail
    go_ret
    exact ⟨rfl, hw1⟩
end Go.Proofs.Ytkponeccenehhaa.Cl
