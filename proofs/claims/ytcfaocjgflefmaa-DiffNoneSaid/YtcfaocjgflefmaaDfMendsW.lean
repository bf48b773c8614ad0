/- DiffMends. No conditions. -/
import Derived.Test.YtcfaocjgflefmaaDfKnown
import Derived.Test.YtcfaocjgflefmaaDfSmall
namespace Go.Proofs.Ytcfaocjgflefmaa.Df
open Go.RowKit Go.Proofs.Ytcfaocjgflefmaa.Pt
set_option maxRecDepth 100000

theorem with_size_le {p : ByteArray} {y : Tr} : ∀ {t : Tr}, (t.withT p y).size + (kidT t p).size ≤ t.size + y.size + 1 ∧ (t.atIs p = true → (t.withT p y).size + (kidT t p).size ≤ t.size + y.size)
  | .nil => ⟨by show (Tr.cons p y .nil).size + Tr.nil.size ≤ _; simp [Tr.size], fun h => by rw [nil_is] at h; cases h⟩
  | .cons s k r => by
    rcases cases3 s p with c1 | ⟨c1, c2⟩ | ⟨c1, c2, _⟩
    · rw [withT_lt c1, kidT_lt c1, Pt.atIs_lt c1]
      obtain ⟨h1, h2⟩ := with_size_le (p := p) (y := y) (t := r)
      simp only [Tr.size]
      exact ⟨by omega, fun h => by have := h2 h; omega⟩
    · rw [withT_eq c1 c2, kidT_eq c1 c2]
      simp only [Tr.size]
      exact ⟨by omega, fun _ => by omega⟩
    · rw [withT_gt c1 c2, kidT_gt c1 c2, atIs_ge c1, c2]
      simp only [Tr.size]
      exact ⟨by omega, fun h => by cases h⟩
theorem put_size_le {x : Tr} : ∀ (ps : List ByteArray) (t : Tr), (putT t ps x).size ≤ t.size + ps.length + x.size
  | [], t => by rw [show putT t [] x = x by cases t <;> rfl]; omega
  | p :: ps, t => by
    have h1 := put_size_le (x := x) ps (kidT t p)
    have h2 := (with_size_le (p := p) (y := putT (kidT t p) ps x) (t := t)).1
    rw [putT]
    simp only [List.length_cons]
    omega
theorem drop_size_le : ∀ (ps : List ByteArray) (t : Tr), (dropP t ps).size ≤ t.size
  | [], t => by rw [show dropP t [] = .nil by cases t <;> rfl]; simp [Tr.size]
  | [p], t => by
    have := withoutT_size (name := p) (t := t)
    unfold dropP
    split <;> omega
  | p :: q :: ps, t => by
    have h1 := drop_size_le (q :: ps) (kidT t p)
    unfold dropP
    split
    · rename_i h
      have h2 := (with_size_le (p := p) (y := dropP (kidT t p) (q :: ps)) (t := t)).2 h
      omega
    · omega
theorem get_size_le : ∀ (ps : List ByteArray) (t : Tr), (getT t ps).1.size ≤ t.size
  | [], t => by rw [getT]; exact Nat.le_refl _
  | p :: ps, t => by
    rw [getT]
    split
    · exact Nat.le_trans (get_size_le ps _) (kidT_size t p)
    · simp [Tr.size]
theorem mend_size_le (b a : Tr) (p : List ByteArray) : (mend b a p).size ≤ a.size + p.length + b.size := by
  unfold mend
  split
  · have h1 := put_size_le (x := (getT b p).1) p a
    have h2 := get_size_le p b
    omega
  · have := drop_size_le p a
    omega
structure MdI (w4 wr : World) (N : Nat) (a b : Tr) (A : Option Addr) (n c : Nat) (u : Tr) (k : Nat) : Prop where
  ok : OkT wr A n c u
  eq : u = ((dP N a b).take k).foldl (mend b) a
  asc : AscD u
  size : u.size ≤ a.size + k * 1400
  below : Below w4.heap.size w4 wr

set_option maxHeartbeats 4000000 in
theorem mends_walk (r s : Tr) (A A2 : Option Addr) (n n2 c c2 : Nat) (w : World) (h : Holds w w.heap.size A n r) (h2 : Holds w w.heap.size A2 n2 s) (hc : n ≤ c) (hm : c ≤ maxLen) (hc2 : n2 ≤ c2) (hm2 : c2 ≤ maxLen) (hr : r.len ≤ 140737488351232 ∧ r.Fit) (hs : s.len ≤ 140737488351232 ∧ s.Fit) :
    Calls Try.prog 5 #[.slice A n c, .slice A2 n2 c2] w fun e w' => e = .returned (.bool true) ∧ Below w.heap.size w w' := by
  have hn : n ≤ 140737488351232 := by rw [h.len]; exact hr.1
  have hn2 : n2 ≤ 140737488351232 := by rw [h2.len]; exact hs.1
  have HK := Lib.hid (known_any w)
  have hF := fun (W : World) (hW : Below w.heap.size w W) => few_any r A n c w.heap.size W (h.below hW) hW.size hn (fit_low hr.2)
  have hF2 := fun (W : World) (hW : Below w.heap.size w W) => few_any s A2 n2 c2 w.heap.size W (h2.below hW) hW.size hn2 (fit_low hs.2)
  by_cases h1c : r.count n 200 < 200
  · by_cases h2c : s.count n2 200 < 200
    · rw [decide_eq_true h1c] at hF
      rw [decide_eq_true h2c] at hF2
      have hrz := few_yes h.len h1c
      have hsz := few_yes h2.len h2c
      have HS := Lib.hid (fun (W : World) (hW : Below w.heap.size w W) => small_any 8 (by omega) 5 (by omega) 5 r A n c w.heap.size W rfl (h.below hW) hr.2 hW.size hc hm)
      have HS2 := Lib.hid (fun (W : World) (hW : Below w.heap.size w W) => small_any 8 (by omega) 5 (by omega) 5 s A2 n2 c2 w.heap.size W rfl (h2.below hW) hs.2 hW.size hc2 hm2)
      have HF := Lib.hid hF
      have HF2 := Lib.hid hF2
      clear hF hF2 h1c h2c h h2 hr hs hn hn2
      go_enter Try.func5, Try.ntmps5
      go_wp2_with fail
      (with_reducible refine HK.out.mono ?_)
      rintro e w1 ⟨rfl, hb1⟩
      have HB1 := Lib.hid hb1
      clear hb1
      go_wp2_with fail
      (with_reducible refine (HF.out w1 HB1.out).mono ?_)
      rintro e _ ⟨rfl, rfl⟩
      go_wp2_with fail
      (with_reducible refine (HF2.out w1 HB1.out).mono ?_)
      rintro e _ ⟨rfl, rfl⟩
      go_wp2_with fail
      refine (HS.out w1 HB1.out).mono ?_
      rintro e w2 ⟨Aa, na, ca, a, rfl, ha1, ha2, ha3, ⟨ha4, ha5⟩, hb2⟩
      have HB2 := Lib.hid (HB1.out.trans (hb2.mono HB1.out.size))
      have Hoa := Lib.hid (show OkT w2 Aa na ca a from ⟨ha1, ha2, ha3⟩)
      have Haa := Lib.hid ha5
      clear ha1 hb2 ha5
      go_wp2_with fail
      refine (HS2.out w2 HB2.out).mono ?_
      rintro e w3 ⟨Ab, nb', cb, b, rfl, hb1, hb2, hb3, ⟨hb4, hb5⟩, hb6⟩
      have HB3 := Lib.hid (HB2.out.trans (hb6.mono HB2.out.size))
      have Hob := Lib.hid (show OkT w3 Ab nb' cb b from ⟨hb1, hb2, hb3⟩)
      have Hoa3 := Lib.hid (Hoa.out.below hb6)
      have Hab := Lib.hid hb5
      have HP := Lib.hid (paths_any 1000 (by omega) a b Aa Ab na ca nb' cb w3 Hoa3.out Hob.out (by omega) (by omega) (by omega) Haa.out hb5)
      clear hb1 hb6 hb5
      go_wp2_with fail
      (with_reducible refine HP.out.mono ?_)
      rintro e w4 ⟨Ap, np, cp, xs, rfl, hO, hq, hb4'⟩
      have Hq := Lib.hid hO.sees
      rw [hq] at Hq
      have hln : np ≤ 400 := by have h1 := hO.len; have h2 := congrArg List.length hq; have h3 := dP_len 1000 Haa.out Hab.out; rw [qp, List.length_map] at h2; omega
      have HB4 := Lib.hid (HB3.out.trans (hb4'.mono HB3.out.size))
      have HI0 := Lib.hid (show MdI w4 w4 1000 a b Aa na ca a 0 from ⟨Hoa3.out.below hb4', rfl, Haa.out, by omega, Below.refl _ _⟩)
      have Hob4 := Lib.hid (Hob.out.below hb4')
      clear hO hq hb4'
      go_wp2_with fail
      go_loopw [5, 8] (fun v i wr => ∃ (k : Nat) (A : Option Addr) (n c : Nat) (u : Tr), k ≤ np ∧ i = .int .i64 k ∧ v = .slice A n c ∧ Hid (MdI w4 wr 1000 a b A n c u k)) (fun _ i _ => np - (intOf i).toNat)
      case atStart => exact ⟨0, Aa, na, ca, a, Nat.zero_le _, rfl, rfl, HI0⟩
      case round =>
        obtain ⟨k, A, n, c, u, hk, rfl, rfl, HI⟩ := hrel
        by_cases hlt : k < np
        · obtain ⟨p, hp⟩ : ∃ p, (dP 1000 a b)[k]? = some p := ⟨_, List.getElem?_eq_getElem (by rw [← Hq.out.len]; exact hlt)⟩
          obtain ⟨bp, op, Af, nf, cf, rfl, hbp, hcp, hsp, hnf, hcf⟩ := Hq.out.at_ k p hp
          have hpl := dP_short 1000 a b p (List.mem_of_getElem? hp)
          have hcpw := (HI.out.below.cell (p := ⟨bp, op + k, none⟩) hbp).trans hcp
          have hkn : (k : Int) < (np : Int) := by omega
          have hk0 : (0 : Int) ≤ (k : Int) := by omega
          have Hsp := Lib.hid (fun (W : World) (hW : Below w4.heap.size w4 W) => seesV_more (hsp.below hW) hW.size)
          have HG := Lib.hid (rget_any b p Ab Af nb' cb nf cf wr (Hob4.out.below HI.out.below) (Hsp.out wr HI.out.below) (by omega) (by omega))
          have Hbpw := Lib.hid (fun (W : World) (hW : Below w4.heap.size w4 W) => (hW.cell (p := ⟨bp, op + k, none⟩) hbp).trans hcp)
          have hfold := show ((dP 1000 a b).take (k + 1)).foldl (mend b) a = mend b u p from by
            rw [List.take_add_one, hp, List.foldl_append, ← HI.out.eq]
            rfl
          have Hfold := Lib.hid hfold
          have hsz := HI.out.size
          have hmz := mend_size_le b u p
          have Hmz := Lib.hid hmz
          have hgz := get_size_le p b
          have Hgz := Lib.hid hgz
          have hma := mend_ascD (p := p) HI.out.asc Hab.out
          have Hma := Lib.hid hma
          have Hlt := Lib.hid hlt
          have hue : Hid (mend b u p = if (getT b p).2 = true then putT u p (getT b p).1 else dropP u p) := Lib.hid rfl
          obtain ⟨x, v, hxv⟩ : ∃ x v, getT b p = (x, v) := ⟨_, _, rfl⟩
          rw [hxv] at HG hue Hgz
          have Hsz := Lib.hid hsz
          have Hpl := Lib.hid hpl
          clear hp hcp hsp hlt hfold hmz hgz hma hxv hsz hpl
          cases v with
          | true =>
            have Hu := Lib.hid (show mend b u p = putT u p x from by rw [hue.out, if_pos rfl])
            have Hma2 := Lib.hid (show AscD (putT u p x) from by rw [← Hu.out]; exact Hma.out)
            have Hmz2 := Lib.hid (show (putT u p x).size ≤ u.size + p.length + b.size from by rw [← Hu.out]; exact Hmz.out)
            clear hue
            go_wp2_with fail
            (with_reducible refine HG.out.mono ?_)
            rintro e w5 ⟨Ax, nx, cx, rfl, hox, q, hw5⟩
            have hb5 : Below w4.heap.size w4 w5 := by rw [hw5]; exact below_drewN HI.out.below q
            have HB5 := Lib.hid hb5
            have hbx : Below wr.heap.size wr w5 := by rw [hw5]; exact below_drewN (Below.refl _ _) q
            have hox5 : OkT w5 Ax nx cx x := by
              rw [hw5]
              exact ⟨hox.holds.drewN q, hox.cap⟩
            have hc5 := Hbpw.out w5 hb5
            have HPt := Lib.hid (rput_any (x := x) p u A Af Ax n c nf cf nx cx w5 (HI.out.ok.below hbx) hox5 (Hsp.out w5 hb5) hnf (by have := Hsz.out; omega))
            clear hb5 hox hox5 hw5 hbx
            go_wp2_with fail
            (with_reducible refine HPt.out.mono ?_)
            rintro e w6 ⟨A6, n6, c6, rfl, ho6, hb6⟩
            have HI6 := Lib.hid (show MdI w4 w6 1000 a b A6 n6 c6 (putT u p x) (k + 1) from ⟨ho6, by rw [Hfold.out, Hu.out], Hma2.out, by
              have h1 := Hmz2.out
              have := Hsz.out
              have := Hpl.out
              omega, HB5.out.trans (hb6.mono HB5.out.size)⟩)
            clear ho6 hb6
            go_wp2_with fail
            go_roundw
            case rel => exact ⟨k + 1, A6, n6, c6, _, Hlt.out, by go_num, rfl, HI6⟩
            case measure => have := Hlt.out; simp [intOf]; omega
          | false =>
            have Hu := Lib.hid (show mend b u p = dropP u p from by rw [hue.out, if_neg (by simp)])
            have Hma2 := Lib.hid (show AscD (dropP u p) from by rw [← Hu.out]; exact Hma.out)
            have Hmz2 := Lib.hid (show (dropP u p).size ≤ u.size + p.length + b.size from by rw [← Hu.out]; exact Hmz.out)
            clear hue
            go_wp2_with fail
            (with_reducible refine HG.out.mono ?_)
            rintro e w5 ⟨Ax, nx, cx, rfl, hox, q, hw5⟩
            have hb5 : Below w4.heap.size w4 w5 := by rw [hw5]; exact below_drewN HI.out.below q
            have HB5 := Lib.hid hb5
            have hbx : Below wr.heap.size wr w5 := by rw [hw5]; exact below_drewN (Below.refl _ _) q
            have hc5 := Hbpw.out w5 hb5
            have HPt := Lib.hid (rdrop_any p u A Af n c nf cf w5 (HI.out.ok.below hbx) (Hsp.out w5 hb5) hnf (by have := Hpl.out; omega) (by have := Hsz.out; omega))
            clear hb5 hox hw5 hbx
            go_wp2_with fail
            (with_reducible refine HPt.out.mono ?_)
            rintro e w6 ⟨A6, n6, c6, rfl, ho6, hb6⟩
            have HI6 := Lib.hid (show MdI w4 w6 1000 a b A6 n6 c6 (dropP u p) (k + 1) from ⟨ho6, by rw [Hfold.out, Hu.out], Hma2.out, by
              have h1 := Hmz2.out
              have := Hsz.out
              have := Hpl.out
              omega, HB5.out.trans (hb6.mono HB5.out.size)⟩)
            clear ho6 hb6
            go_wp2_with fail
            go_roundw
            case rel => exact ⟨k + 1, A6, n6, c6, _, Hlt.out, by go_num, rfl, HI6⟩
            case measure => have := Hlt.out; simp [intOf]; omega
        · obtain rfl : k = np := by omega
          have hub : u = b := by
            rw [HI.out.eq, List.take_of_length_le (by rw [Hq.out.len]; exact Nat.le_refl _)]
            exact mends 1000 (by omega) Haa.out Hab.out
          have hu4 := HI.out.size
          have HSm := Lib.hid (same_ok HI.out.ok (Hob4.out.below HI.out.below) (by omega) (by omega) (v := true) (by rw [hub]; exact same_refl b))
          have HBr := Lib.hid (HB4.out.trans (HI.out.below.mono HB4.out.size))
          clear hub hlt hu4
          go_wp2_with fail
          (with_reducible refine HSm.out.mono ?_)
          rintro e w5 ⟨rfl, hb5⟩
          have HB5 := Lib.hid (HBr.out.trans (hb5.mono HBr.out.size))
          clear hb5
          go_wp2_with fail
          go_ret
          exact ⟨rfl, HB5.out⟩
    · rw [decide_eq_true h1c] at hF
      rw [decide_eq_false h2c] at hF2
      have HF := Lib.hid hF
      have HF2 := Lib.hid hF2
      clear hF hF2 h1c h2c h h2
      go_enter Try.func5, Try.ntmps5
      go_wp2_with fail
      (with_reducible refine HK.out.mono ?_)
      rintro e w1 ⟨rfl, hb1⟩
      go_wp2_with fail
      (with_reducible refine (HF.out w1 hb1).mono ?_)
      rintro e _ ⟨rfl, rfl⟩
      go_wp2_with fail
      (with_reducible refine (HF2.out w1 hb1).mono ?_)
      rintro e _ ⟨rfl, rfl⟩
      go_wp2_with fail
      go_ret
      exact ⟨rfl, hb1⟩
  · rw [decide_eq_false h1c] at hF
    have HF := Lib.hid hF
    clear hF hF2 h1c h h2
    go_enter Try.func5, Try.ntmps5
    go_wp2_with fail
    (with_reducible refine HK.out.mono ?_)
    rintro e w1 ⟨rfl, hb1⟩
    go_wp2_with fail
    (with_reducible refine (HF.out w1 hb1).mono ?_)
    rintro e _ ⟨rfl, rfl⟩
    go_wp2_with fail
    go_ret
    exact ⟨rfl, hb1⟩
end Go.Proofs.Ytcfaocjgflefmaa.Df
