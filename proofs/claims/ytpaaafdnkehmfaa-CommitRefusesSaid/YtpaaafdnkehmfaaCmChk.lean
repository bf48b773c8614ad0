/- commit: check, and what it asks of a name. No conditions but that there are no more than 2^40 files. -/
import Derived.Test.YtpaaafdnkehmfaaCmFrom
namespace Go.Proofs.Ytpaaafdnkehmfaa.Vf
open Go.RowKit
set_option maxRecDepth 100000

theorem same_any (x y : BS) (v : Value) (g : Nat) (w : World) (_ : v.cells = #[v]) (h0 : w.cell? ⟨g, 0, none⟩ = some (.string ⟨x.toArray⟩)) :
    Calls Try.prog 68 #[.agg #[.string ⟨y.toArray⟩, v], .pointer (some ⟨g, 0, none⟩)] w fun e w' => e = .returned (.bool (y == x)) ∧ Below w.heap.size w w' := by
  have hg : g < w.heap.size := World.block_lt_of_cell? w ⟨g, 0, none⟩ h0
  go_enter Try.func68, Try.ntmps68
  go_wp2_with fail
  go_ret
  exact ⟨rfl, (Below.refl _ _).alloc (Nat.le_refl _) _⟩
set_option maxHeartbeats 4000000 in
theorem indexf_any (rs : FL) (x : BS) (A : Option Addr) (n c g : Nat) (w : World) (h : Fr w (fun g => g < w.heap.size) A n rs) (hn : n ≤ 1099511627776) (h0 : w.cell? ⟨g, 0, none⟩ = some (.string ⟨x.toArray⟩)) :
    Calls Try.prog 80 #[.slice A n c, .func (.func 68) #[] #[.pointer (some ⟨g, 0, none⟩)]] w fun e w' => ∃ i : Int, e = .returned (.int .i64 i) ∧ (decide (0 ≤ i) = rs.any fun y => y.1 == x) ∧ Below w.heap.size w w' := by
  have hg : g < w.heap.size := World.block_lt_of_cell? w ⟨g, 0, none⟩ h0
  have Hl := Lib.hid h.len
  have HH := Lib.hid h
  have HF := Lib.hid (fun (W : World) (hW : Below w.heap.size w W) (y : BS) (v : Value) (hv : v.cells = #[v]) => same_any x y v g W hv ((hW.cell (p := ⟨g, 0, none⟩) hg).trans h0))
  clear h h0
  go_enter Try.func80, Try.ntmps80
  go_wp2_with fail
  go_loopw [8] (fun i wr => ∃ (k : Nat), k ≤ n ∧ i = .int .i64 k ∧ Hid (Below w.heap.size w wr) ∧ Hid (((rs.drop k).any fun y => y.1 == x) = rs.any fun y => y.1 == x)) (fun i _ => n - (intOf i).toNat)
  case atStart => exact ⟨0, Nat.zero_le _, rfl, Lib.hid (Below.refl _ _), Lib.hid rfl⟩
  case round =>
    obtain ⟨k, hk, rfl, HW, HA⟩ := hrel
    by_cases hlt : k < n
    · have hkl : k < rs.length := by have := Hl.out; omega
      obtain ⟨y, hy⟩ : ∃ x, rs[k]? = some x := ⟨_, List.getElem?_eq_getElem hkl⟩
      have hye : rs[k] = y := (List.getElem?_eq_some_iff.1 hy).2
      obtain ⟨b, o, Af, nf, cf, rfl, hbl, hc1, hc2, hsf, _, _⟩ := (HH.out.below HW.out).at_ k y hy
      have hkn : (k : Int) < (n : Int) := by omega
      have hk0 : (0 : Int) ≤ (k : Int) := by omega
      have HC := Lib.hid (HF.out wr HW.out y.1 (.slice Af nf cf) rfl)
      obtain ⟨u, hu⟩ : ∃ u, u = (y.1 == x) := ⟨_, rfl⟩
      rw [← hu] at HC
      have HA2 : Hid ((rs.any fun y => y.1 == x) = (u || (rs.drop (k + 1)).any fun y => y.1 == x)) := Lib.hid (by rw [← HA.out, List.drop_eq_getElem_cons hkl, List.any_cons, hye, hu])
      have Hlt := Lib.hid hlt
      clear hu hlt HA hy hkl hye hsf
      cases u with
      | false =>
        go_wp2_with fail
        (with_reducible refine HC.out.mono ?_)
        rintro e w2 ⟨rfl, hb2⟩
        have HW2 := Lib.hid (HW.out.trans (hb2.mono HW.out.size))
        clear hb2
        go_wp2_with fail
        go_roundw
        case rel => exact ⟨k + 1, Hlt.out, by go_num, HW2, Lib.hid (by rw [HA2.out]; rfl)⟩
        case measure => have := Hlt.out; simp [intOf]; omega
      | true =>
        go_wp2_with fail
        (with_reducible refine HC.out.mono ?_)
        rintro e w2 ⟨rfl, hb2⟩
        have HW2 := Lib.hid (HW.out.trans (hb2.mono HW.out.size))
        clear hb2
        go_wp2_with fail
        go_ret
        exact ⟨(k : Int), rfl, by rw [HA2.out, Bool.true_or]; exact decide_eq_true hk0, HW2.out⟩
    · obtain rfl : k = n := by omega
      have HA2 : Hid ((rs.any fun y => y.1 == x) = false) := Lib.hid (by
        have := HA.out
        rw [List.drop_of_length_le (by rw [← Hl.out]; exact Nat.le_refl _)] at this
        exact this.symm)
      clear hlt HA
      go_wp2_with fail
      go_ret
      exact ⟨-1, rfl, by rw [HA2.out]; rfl, HW.out⟩
theorem containsf_any (rs : FL) (x : BS) (A : Option Addr) (n c g : Nat) (w : World) (h : Fr w (fun g => g < w.heap.size) A n rs) (hn : n ≤ 1099511627776) (h0 : w.cell? ⟨g, 0, none⟩ = some (.string ⟨x.toArray⟩)) :
    Calls Try.prog 67 #[.slice A n c, .func (.func 68) #[] #[.pointer (some ⟨g, 0, none⟩)]] w fun e w' => e = .returned (.bool (rs.any fun y => y.1 == x)) ∧ Below w.heap.size w w' := by
  have HC := Lib.hid (indexf_any rs x A n c g w h hn h0)
  obtain ⟨v, hv⟩ : ∃ v, v = rs.any fun y => y.1 == x := ⟨_, rfl⟩
  rw [← hv] at HC
  rw [← hv]
  clear hv h hn h0
  go_enter Try.func67, Try.ntmps67
  go_wp2_with fail
  (with_reducible refine HC.out.mono ?_)
  rintro e w1 ⟨i, rfl, hi, hb1⟩
  have Hi := Lib.hid hi
  clear hi
  go_wp2_with fail
  go_ret
  exact ⟨by rw [← Hi.out]; rfl, hb1⟩
theorem chkL_next {l : FL} {k : Nat} {x : BS × BS} (h : l[k]? = some x) : chkL (l.take k) (l.drop k) = if chk1 (l.take k) x = 0 then chkL (l.take (k + 1)) (l.drop (k + 1)) else chk1 (l.take k) x := by
  obtain ⟨hk, rfl⟩ := List.getElem?_eq_some_iff.1 h
  rw [List.drop_eq_getElem_cons hk, chkL, List.take_succ_eq_append_getElem hk]
set_option maxHeartbeats 4000000 in
theorem check_any (l : FL) (A : Option Addr) (n c : Nat) (w : World) (h : Fr w (fun g => g < w.heap.size) A n l) (hn : n ≤ 1099511627776) (hnc : n ≤ c) :
    Calls Try.prog 54 #[.slice A n c] w fun e w' => e = .returned (.int .i64 (chk l)) ∧ Below w.heap.size w w' := by
  have Hl := Lib.hid h.len
  have HH := Lib.hid h
  clear h
  by_cases h1 : n < 1
  · have e1 : chk l = 1 := by unfold chk; rw [if_pos (by have := Hl.out; omega)]
    have q1 : (n : Int) < 1 := by omega
    rw [e1]
    clear e1 h1
    go_enter Try.func54, Try.ntmps54
    go_wp2_with fail
    go_ret
    exact ⟨rfl, Below.refl _ _⟩
  by_cases h8 : 8 < n
  · have e1 : chk l = 1 := by unfold chk; rw [if_pos (by have := Hl.out; omega)]
    have q1 : ¬ (n : Int) < 1 := by omega
    have q2 : (8 : Int) < (n : Int) := by omega
    rw [e1]
    clear e1 h1 h8
    go_enter Try.func54, Try.ntmps54
    go_wp2_with fail
    go_ret
    exact ⟨rfl, Below.refl _ _⟩
  have e1 : chk l = chkL [] l := by unfold chk; rw [if_neg (by have := Hl.out; omega)]
  have q1 : ¬ (n : Int) < 1 := by omega
  have q2 : ¬ (8 : Int) < (n : Int) := by omega
  have hn8 : n ≤ 8 := by omega
  rw [e1]
  clear e1 h1 h8 hn
  go_enter Try.func54, Try.ntmps54
  go_wp2_with fail
  clear q1 q2
  go_loopw [15] (fun i wr => ∃ (k : Nat), k ≤ n ∧ i = .int .i64 k ∧ Hid (Below w.heap.size w wr) ∧ Hid (chkL [] l = chkL (l.take k) (l.drop k))) (fun i _ => n - (intOf i).toNat)
  case atStart => exact ⟨0, Nat.zero_le _, rfl, Lib.hid (Below.refl _ _), Lib.hid rfl⟩
  case round =>
    obtain ⟨k, hk, rfl, HW, HA⟩ := hrel
    by_cases hlt : k < n
    · have hkl : k < l.length := by have := Hl.out; omega
      obtain ⟨⟨s, xb⟩, hx⟩ : ∃ x, l[k]? = some x := ⟨_, List.getElem?_eq_getElem hkl⟩
      have hF := HH.out.below HW.out
      obtain ⟨b, o, Af, nf, cf, rfl, hbl, hc1, hc2, hsf, _, hcm⟩ := hF.at_ k (s, xb) hx
      have hlen : nf = xb.length := hsf.len
      subst hlen
      simp only at hc1 hc2 hsf
      have hkn : (k : Int) < (n : Int) := by omega
      have hk0 : (0 : Int) ≤ (k : Int) := by omega
      have hkc : (k : Int) ≤ (c : Int) := by omega
      have hnx := chkL_next hx
      obtain ⟨W1, hW1⟩ : ∃ W, W = wr.alloc (Obj.cells #[.string ⟨s.toArray⟩, .slice Af xb.length cf] 56) := ⟨_, rfl⟩
      have hb1 : Below wr.heap.size wr W1 := by rw [hW1]; exact (Below.refl _ _).alloc (Nat.le_refl _) _
      have hx1 : Bx W1 wr.heap.size [.string ⟨s.toArray⟩, .slice Af xb.length cf] 56 := by rw [hW1]; exact Bx.new wr _ _
      have hC := containsf_any (l.take k) s (some ⟨b, o, none⟩) k c wr.heap.size W1 (((hF.take (by omega : k ≤ n)).below (hb1.mono HW.out.size)).more (fun g hg => Nat.lt_of_lt_of_le hg (Nat.le_trans HW.out.size hb1.size))) (by omega) (hx1.cells 0)
      have hw1 : Below w.heap.size w W1 := HW.out.trans (hb1.mono HW.out.size)
      have z0 : W1.cell? ⟨wr.heap.size, 0, none⟩ = some (.string ⟨s.toArray⟩) := hx1.cells 0
      have z1 : W1.cell? ⟨wr.heap.size, 1, none⟩ = some (.slice Af xb.length cf) := hx1.cells 1
      have hl1 : wr.heap.size < W1.heap.size := hx1.lt
      have HC := Lib.hid hC
      have HW1 := Lib.hid hw1
      have HNX := Lib.hid hnx
      have HLT := Lib.hid hlt
      have HX := Lib.hid hx
      clear hC hw1 hnx hlt hx hx1 hb1 hF hsf hcm
      by_cases f1 : s.length < 1 ∨ 20 < s.length ∨ s = jN ∨ s = mN
      · have e1 : chk1 (l.take k) (s, xb) = 12 := by unfold chk1; rw [if_pos (by exact f1)]
        have HR : Hid (chkL [] l = 12) := Lib.hid (by rw [HA.out, HNX.out, if_neg (by rw [e1]; decide), e1])
        clear e1 HNX HA HC
        by_cases g1 : s.length < 1
        · have g1' : (s.length : Int) < 1 := by omega
          subst hW1
          clear f1 g1
          go_wp2_with fail
          go_ret
          exact ⟨by rw [HR.out]; rfl, HW1.out⟩
        have g1' : ¬ (s.length : Int) < 1 := by omega
        by_cases g2 : 20 < s.length
        · have g2' : (20 : Int) < (s.length : Int) := by omega
          subst hW1
          clear f1 g1 g2
          go_wp2_with fail
          go_ret
          exact ⟨by rw [HR.out]; rfl, HW1.out⟩
        have g2' : ¬ (20 : Int) < (s.length : Int) := by omega
        by_cases g3 : s = jN
        · have g3' : (s == [106, 111, 117, 114, 110, 97, 108]) = true := by rw [g3]; rfl
          subst hW1
          clear f1 g1 g2 g3
          go_wp2_with fail
          go_ret
          exact ⟨by rw [HR.out]; rfl, HW1.out⟩
        have g3' : (s == [106, 111, 117, 114, 110, 97, 108]) = false := by simpa [jN] using g3
        have g4' : (s == [109, 97, 114, 107]) = true := by
          rcases f1 with f | f | f | f
          · exact absurd f g1
          · exact absurd f g2
          · exact absurd f g3
          · rw [f]; rfl
        subst hW1
        clear f1 g1 g2 g3
        go_wp2_with fail
        go_ret
        exact ⟨by rw [HR.out]; rfl, HW1.out⟩
      · have g1' : ¬ (s.length : Int) < 1 := by omega
        have g2' : ¬ (20 : Int) < (s.length : Int) := by omega
        have g3' : (s == [106, 111, 117, 114, 110, 97, 108]) = false := by
          have : s ≠ jN := fun e => f1 (.inr (.inr (.inl e)))
          simpa [jN] using this
        have g4' : (s == [109, 97, 114, 107]) = false := by
          have : s ≠ mN := fun e => f1 (.inr (.inr (.inr e)))
          simpa [mN] using this
        by_cases f2 : ((l.take k).any fun y => y.1 == s) = true
        · have e1 : chk1 (l.take k) (s, xb) = 7 := by unfold chk1; rw [if_neg (by exact f1), if_pos (by exact f2)]
          have HR : Hid (chkL [] l = 7) := Lib.hid (by rw [HA.out, HNX.out, if_neg (by rw [e1]; decide), e1])
          rw [f2] at HC
          clear e1 HNX HA f1 f2
          subst hW1
          go_wp2_with (go_at_call 67; (with_reducible refine HC.out.mono ?_); rintro e w2 ⟨rfl, hb2⟩)
          go_ret
          exact ⟨by rw [HR.out]; rfl, HW1.out.trans (hb2.mono HW1.out.size)⟩
        have f2' : ((l.take k).any fun y => y.1 == s) = false := (Bool.not_eq_true _).mp f2
        by_cases f3 : 8000 < xb.length
        · have e1 : chk1 (l.take k) (s, xb) = 5 := by unfold chk1; rw [if_neg (by exact f1), if_neg (by exact f2), if_pos f3]
          have HR : Hid (chkL [] l = 5) := Lib.hid (by rw [HA.out, HNX.out, if_neg (by rw [e1]; decide), e1])
          rw [f2'] at HC
          have f3' : (8000 : Int) < (xb.length : Int) := by omega
          clear e1 HNX HA f1 f2 f2' f3
          subst hW1
          go_wp2_with (go_at_call 67; (with_reducible refine HC.out.mono ?_); rintro e w2 ⟨rfl, hb2⟩; have y1 := (hb2.cell (p := ⟨wr.heap.size, 1, none⟩) hl1).trans z1)
          go_ret
          exact ⟨by rw [HR.out]; rfl, HW1.out.trans (hb2.mono HW1.out.size)⟩
        · have e1 : chk1 (l.take k) (s, xb) = 0 := by unfold chk1; rw [if_neg (by exact f1), if_neg (by exact f2), if_neg f3]
          have HA2 : Hid (chkL [] l = chkL (l.take (k + 1)) (l.drop (k + 1))) := Lib.hid (by rw [HA.out, HNX.out, if_pos e1])
          rw [f2'] at HC
          have f3' : ¬ (8000 : Int) < (xb.length : Int) := by omega
          clear e1 HNX HA f1 f2 f2' f3
          subst hW1
          go_wp2_with (go_at_call 67; (with_reducible refine HC.out.mono ?_); rintro e w2 ⟨rfl, hb2⟩; have y1 := (hb2.cell (p := ⟨wr.heap.size, 1, none⟩) hl1).trans z1)
          go_roundw
          case rel => exact ⟨k + 1, HLT.out, by go_num, Lib.hid (HW1.out.trans (hb2.mono HW1.out.size)), HA2⟩
          case measure => have := HLT.out; simp [intOf]; omega
    · obtain rfl : k = n := by omega
      have hkn : ¬ (k : Int) < (k : Int) := by omega
      have HR : Hid (chkL [] l = 0) := Lib.hid (by rw [HA.out, List.drop_of_length_le (by rw [← Hl.out]; exact Nat.le_refl _), chkL])
      clear HA
      go_wp2_with fail
      go_ret
      exact ⟨by rw [HR.out]; rfl, HW.out⟩
end Go.Proofs.Ytpaaafdnkehmfaa.Vf
