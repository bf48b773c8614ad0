/- vfs: Flush. No conditions but that there is no more than 2^40 of anything. -/
import Derived.Test.YtpaaafdnkehmfaaVfRead
namespace Go.Proofs.Ytpaaafdnkehmfaa.Vf
open Go.RowKit
set_option maxRecDepth 100000

theorem ops_next {s : Sn} {j : Nat} {x : BS × Option BS} (h : s[j]? = some x) (l : FL) : ops (s.take (j + 1)) l = wth x.1 x.2 (ops (s.take j) l) := by
  rw [take_snoc h, ops_app]; rfl
theorem anew_next {s : Sn} {j : Nat} {x : BS × Option BS} (h : s[j]? = some x) (f l : FL) : anew f (s.take (j + 1)) l = wth x.1 (fnd f x.1) (anew f (s.take j) l) := by
  rw [take_snoc h, anew_app]; rfl
section
variable {w W : World} {B p : Nat} {l1 l2 l' : FL} {s : Sn} {R : R4} {m1 m2 : Value} {A : Option Addr} {n c : Nat} {vs : List Value}
/-- An item of the row, and that bytes lie so. -/
theorem VpB.item (h : VpB w B p l1 l2 s R m1 m2 A n c vs) {j : Nat} (hj : j < n) : ∃ g x o A' n' c', A = some ⟨g, 0, none⟩ ∧ g < w.heap.size ∧ s[j]? = some (x.data.toList, o) ∧ w.cell? ⟨g, j * 3, none⟩ = some (.string x) ∧ w.cell? ⟨g, j * 3 + 1, none⟩ = some (.slice A' n' c') ∧ w.cell? ⟨g, j * 3 + 2, none⟩ = some (.bool o.isNone) ∧ Bz w B (.slice A' n' c') (o.getD []) := by
  obtain ⟨⟨k, o⟩, hs⟩ : ∃ x, s[j]? = some x := ⟨_, List.getElem?_eq_getElem (by have := h.len; omega)⟩
  obtain ⟨g, x, A', n', c', e, hg, r0, r1, r2, hxk, hbz, _⟩ := row_item (W := w) h.own h.row (fun _ _ => rfl) (fun _ _ => rfl) hs
  subst hxk
  exact ⟨g, x, o, A', n', c', e, hg, hs, r0, r1, r2, hbz⟩
end

section
variable {V : Vm} {w : World} {B p N : Nat}
set_option maxHeartbeats 2000000 in
theorem flush_any (h : Vp w B p V) (hl : Lim V N) (hN : N ≤ 1099511627776) : Calls Try.prog 18 #[.pointer (some ⟨p, 0, none⟩)] w (Did (.int .i64 V.flush.1) V.flush.2 B p w) := by
  have hst := stops_any h hl hN
  have HV := Lib.hid h
  have HLim := Lib.hid hl
  have HN := Lib.hid hN
  have HST := Lib.hid hst
  obtain ⟨m1, m2, As, ns, cs, vs, h⟩ := h
  have c8 : w.cell? ⟨p, 8, none⟩ = some (.bool V.dead) := h.box.cells 8
  clear h hl hN hst
  by_cases hd : V.dead = true
  · have hw : V.flush = (15, V) := by unfold Vm.flush; rw [if_pos hd]
    rw [hd] at c8
    rw [hw]
    clear hw hd
    go_enter Try.func18, Try.ntmps18
    go_wp2_with fail
    go_ret
    exact ⟨rfl, HV.out, Mo.refl _ _ _⟩
  · have hd' : V.dead = false := by simpa using hd
    rw [hd'] at c8
    cases ht : V.tick.dead with
    | true =>
      have hw : V.flush = (15, V.tick) := by unfold Vm.flush; rw [if_neg hd, if_pos ht]
      rw [hw]
      rw [ht] at HST
      clear hw hd hd' ht
      go_enter Try.func18, Try.ntmps18
      go_wp2_with (go_at_call 48; (with_reducible refine HST.out.mono ?_); rintro e W7 ⟨rfl, hv7, hm7⟩)
      go_ret
      exact ⟨rfl, hv7, hm7⟩
    | false =>
      have hw : V.flush = (0, { V.tick with fl := V.now, since := [] }) := by unfold Vm.flush; rw [if_neg hd, if_neg (by rw [ht]; simp)]
      rw [hw]
      rw [ht] at HST
      clear hw hd hd' ht
      go_enter Try.func18, Try.ntmps18
      go_upto_region 3 with (go_at_call 48; (with_reducible refine HST.out.mono ?_); rintro e W1 ⟨rfl, hv7, hm7⟩)
      obtain ⟨m1', m2', A, n, c, us, h1⟩ := hv7
      have h1 := h1.parts
      have d4 : W1.cell? ⟨p, 4, none⟩ = some (.slice A n c) := h1.box.cells 4
      have hn := h1.len
      have H1 := Lib.hid h1
      have HM1 := Lib.hid hm7
      have HNL := Lib.hid hn
      have hsn := HLim.out.since
      have hn40 : n ≤ 1099511627776 := by have := HN.out; rw [show V.tick.since = V.since from rfl] at hn; omega
      clear h1 hm7 hn hsn c8
      go_wp2_with fail
      go_loopw [18] (fun i wr => ∃ k : Nat, k ≤ n ∧ i = .int .i64 (k : Int) ∧ Mo B p W1 wr ∧ ∃ mv, VpB wr B p V.now (ops (V.since.take k) V.fl) V.since V.tick.r4 m1' mv A n c us) (fun i _ => n - (intOf i).toNat)
      case atStart => exact ⟨0, Nat.zero_le _, rfl, Mo.refl _ _ _, m2', H1.out⟩
      case round =>
        obtain ⟨k, hk, rfl, hmo, mv, hP⟩ := hrel
        by_cases hlt : k < n
        · obtain ⟨g, x, o, A', n', c', rfl, hg, hsk, r0, r1, r2, hbz⟩ := hP.item hlt
          have hkn : (k : Int) < (n : Int) := by omega
          have hk0 : (0 : Int) ≤ (k : Int) := by omega
          have hsl : V.since[k]? = some (x.data.toList, o) := hsk
          have hlim := HLim.out
          have hmem := ws_mem hsl
          have htot := hlim.tot
          have hle := wf_ops (V.since.take k) V.fl
          have htk := ws_take_le V.since k
          have huw := used_wf (ops (V.since.take k) V.fl)
          have hxl : x.data.toList.length = x.size := Array.length_toList
          have hNN := HN.out
          obtain ⟨W3, hW3⟩ : ∃ W, W = wr.alloc (Obj.cells #[.string x, .slice A' n' c', .bool o.isNone] 84) := ⟨_, rfl⟩
          have hb3 : Below wr.heap.size wr W3 := by rw [hW3]; exact (Below.refl _ _).alloc (Nat.le_refl _) _
          have hx3 : Bx W3 wr.heap.size [.string x, .slice A' n' c', .bool o.isNone] 84 := by rw [hW3]; exact Bx.new wr _ _
          have hP3 := hP.below hb3
          have hset := set_any (o := 2) (s := x) (ob := o) hP3.drew.box rfl rfl hP3.drew.f2 (asc_ops _ hlim.asc) (by unfold maxLen; omega) ((hbz.keep (Ks.of hb3)).keep fun _ _ => rfl) rfl (by omega) (by omega) hP3.lt hP3.drew.le
          have hnx := ops_next hsl V.fl
          have x0 : W3.cell? ⟨wr.heap.size, 0, none⟩ = some (.string x) := hx3.cells 0
          have x1 : W3.cell? ⟨wr.heap.size, 1, none⟩ = some (.slice A' n' c') := hx3.cells 1
          have x2 : W3.cell? ⟨wr.heap.size, 2, none⟩ = some (.bool o.isNone) := hx3.cells 2
          have HSET := Lib.hid hset
          have HP3 := Lib.hid hP3
          have HB3 := Lib.hid hb3
          have HNX := Lib.hid hnx
          have HMO := Lib.hid hmo
          have HLT := Lib.hid hlt
          clear hset hP3 hx3 hb3 hnx hmo hP hbz hsk hsl hlim hmem htot hle htk huw hxl hNN hk hg hlt
          generalize o.isNone = gb at HSET x2 r2 hW3
          subst hW3
          go_wp2_with fail
          go_region_with (go_at_call 49; (with_reducible refine HSET.out.mono ?_); intro e W5 he; obtain ⟨rfl, hmo5, ⟨mv5, hP5⟩, _⟩ := HP3.out.drew.set2 he; clear he; have HP5 := Lib.hid hP5; have HM5 := Lib.hid hmo5; clear hP5 hmo5)
          go_wp2_with fail
          go_roundw
          case rel => exact ⟨k + 1, by have := HLT.out; omega, by go_num, (HMO.out.trans (Mo.of HB3.out)).trans HM5.out.undrew, mv5, by rw [HNX.out]; exact HP5.out⟩
          case measure => have := HLT.out; simp [intOf]; omega
        · have hkn : ¬ (k : Int) < (n : Int) := by omega
          have z4 : wr.cell? ⟨p, 4, none⟩ = some (.slice A n c) := hP.box.cells 4
          have f4 := hP.box.free 4
          have hkl : k = V.since.length := by have := HNL.out; rw [show V.tick.since = V.since from rfl] at this; omega
          have HP := Lib.hid hP
          have HMO := Lib.hid hmo
          have HKL := Lib.hid hkl
          clear hP hmo hk hlt hkl
          go_wp2_with fail
          go_ret
          have hb9 := HP.out.box.set 4 (.slice none 0 0)
          obtain ⟨hq, hm9⟩ := HP.out.turn (R' := V.tick.r4) (s' := []) (vs' := []) ((Mv.setCell wr ⟨p, 4, none⟩ (.slice none 0 0)).weak fun k _ e => .inl e) hb9 (World.ownsRow_nil _ _ _ _) trivial
          refine ⟨rfl, VpB.whole (V := ({ V.tick with fl := V.now, since := [] } : Vm)) (m1 := m1') (m2 := mv) (A := none) (n := 0) (c := 0) (vs := []) ?_, (HM1.out.trans HMO.out).trans hm9⟩
          rw [HKL.out, List.take_length] at hq
          exact hq
end
end Go.Proofs.Ytpaaafdnkehmfaa.Vf
