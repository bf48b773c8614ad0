/- commit: one step: a Write, a Remove, a Flush, where there was no error ahead. No conditions but that there is no more than 2^40 of anything. -/
import Derived.Test.YtpaaafdnkehmfaaCmMem
namespace Go.Proofs.Ytpaaafdnkehmfaa.Vf
open Go.RowKit
set_option maxRecDepth 100000

/-- A step was done. -/
def DidW (R : Int × Vm) (B p q : Nat) (L J : Value) (w : World) (en : Ending) (w' : World) : Prop := en = .returned (.tuple #[]) ∧ Vp w' B p R.2 ∧ Bx w' q (bxW p L J R.1) 95 ∧ Mq B p q w w'
section
variable {V : Vm} {w : World} {B p q N : Nat} {L J : Value} {e : Int}
theorem workKd (hq : Bx w q (bxW p L J e) 95) : Kd w q := hq.kd (by decide) (by decide)
/-- The box, behind a call on the files, its error written. -/
theorem did_step {w1 : World} {V' : Vm} {e' : Int} (h : Vp w B p V) (hq : Bx w q (bxW p L J e) 95) (hv : Vp w1 B p V') (hm : Mo B p w w1) :
    Bx w1 q (bxW p L J e) 95 ∧ DidW (e', V') B p q L J w (.returned (.tuple #[])) (w1.setCell ⟨q, 3, none⟩ (.int .i64 e')) := by
  have hq1 : Bx w1 q (bxW p L J e) 95 := hq.eq (hm.block q hq.lt fun g => by
    rcases g with g | ⟨_, g⟩
    · exact h.not_kd (g ▸ workKd hq)
    · exact g (workKd hq))
  have hs : Mv w1 (w1.setCell ⟨q, 3, none⟩ (.int .i64 e')) (· = q) := Mv.setCell _ _ _
  exact ⟨hq1, rfl, hv.far hs hq1 (by decide) (by decide) (by decide), hq1.set 3 _, (Mq.of hm).trans (hs.weak fun k _ e => .inr (.inl e))⟩
set_option maxHeartbeats 2000000 in
theorem wflush_any (h : Vp w B p V) (hq : Bx w q (bxW p L J e) 95) (hl : Lim V N) (hN : N ≤ 1099511627776) :
    Calls Try.prog 73 #[.pointer (some ⟨q, 0, none⟩)] w (DidW (stq (e, V) .f) B p q L J w) := by
  have c0 : w.cell? ⟨q, 0, none⟩ = some (.pointer (some ⟨p, 0, none⟩)) := hq.cells 0
  have c3 : w.cell? ⟨q, 3, none⟩ = some (.int .i64 e) := hq.cells 3
  by_cases he : e = 0
  · have hst : stq (e, V) .f = V.flush := by unfold stq; rw [if_pos he]; rfl
    rw [hst]
    have hf := flush_any h hl hN
    have H := Lib.hid h
    have HQ := Lib.hid hq
    have HF := Lib.hid hf
    subst he
    clear h hq hf hl hN hst
    go_enter Try.func73, Try.ntmps73
    go_upto_region 1 with fail
    go_wp2_with (go_at_call 18; (with_reducible refine HF.out.mono ?_); rintro en w1 ⟨rfl, hv1, hm1⟩; obtain ⟨hq1, hd⟩ := did_step (e' := V.flush.1) H.out HQ.out hv1 hm1; have HD := Lib.hid hd; clear hd hv1 hm1; have f3 := hq1.free 3; have d3 : w1.cell? ⟨q, 3, none⟩ = some (.int .i64 0) := hq1.cells 3)
    go_end0
    exact HD.out
  · have hst : stq (e, V) .f = (e, V) := stq_err he _
    rw [hst]
    have h0 : (e == 0) = false := by simp [he]
    have H := Lib.hid h
    have HQ := Lib.hid hq
    clear h hq hl hN hst he
    go_enter Try.func73, Try.ntmps73
    go_wp2_with fail
    go_end0
    exact ⟨rfl, H.out, HQ.out, Mq.refl _ _ _ _⟩
set_option maxHeartbeats 2000000 in
theorem wremove_any {s : ByteArray} (h : Vp w B p V) (hq : Bx w q (bxW p L J e) 95) (hl : Lim V N) (hs : s.size ≤ maxLen) (hN : N + s.size + 1 ≤ 1099511627776) :
    Calls Try.prog 74 #[.pointer (some ⟨q, 0, none⟩), .string s] w (DidW (stq (e, V) (.r s.data.toList)) B p q L J w) := by
  have c0 : w.cell? ⟨q, 0, none⟩ = some (.pointer (some ⟨p, 0, none⟩)) := hq.cells 0
  have c3 : w.cell? ⟨q, 3, none⟩ = some (.int .i64 e) := hq.cells 3
  by_cases he : e = 0
  · have hst : stq (e, V) (.r s.data.toList) = V.remove s.data.toList := by unfold stq; rw [if_pos he]; rfl
    rw [hst]
    have hf := remove_any h hl hs hN
    have H := Lib.hid h
    have HQ := Lib.hid hq
    have HF := Lib.hid hf
    subst he
    clear h hq hf hl hs hN hst
    go_enter Try.func74, Try.ntmps74
    go_upto_region 1 with fail
    go_wp2_with (go_at_call 39; (with_reducible refine HF.out.mono ?_); rintro en w1 ⟨rfl, hv1, hm1⟩; obtain ⟨hq1, hd⟩ := did_step (e' := (V.remove s.data.toList).1) H.out HQ.out hv1 hm1; have HD := Lib.hid hd; clear hd hv1 hm1; have f3 := hq1.free 3; have d3 : w1.cell? ⟨q, 3, none⟩ = some (.int .i64 0) := hq1.cells 3)
    go_end0
    exact HD.out
  · have hst : stq (e, V) (.r s.data.toList) = (e, V) := stq_err he _
    rw [hst]
    have h0 : (e == 0) = false := by simp [he]
    have H := Lib.hid h
    have HQ := Lib.hid hq
    clear h hq hl hs hN hst he
    go_enter Try.func74, Try.ntmps74
    go_wp2_with fail
    go_end0
    exact ⟨rfl, H.out, HQ.out, Mq.refl _ _ _ _⟩
set_option maxHeartbeats 2000000 in
theorem wwrite_any {s : ByteArray} {A : Option Addr} {n c : Nat} {b : BS} (h : Vp w B p V) (hq : Bx w q (bxW p L J e) 95) (hl : Lim V N) (hS : Sees w w.heap.size A n b) (hs : s.size ≤ maxLen) (hN : N + 21 + b.length ≤ 1099511627776) :
    Calls Try.prog 72 #[.pointer (some ⟨q, 0, none⟩), .agg #[.string s, .slice A n c]] w (DidW (stq (e, V) (.w s.data.toList b)) B p q L J w) := by
  obtain ⟨W1, hW1⟩ : ∃ W, W = w.alloc (Obj.cells #[.string s, .slice A n c] 56) := ⟨_, rfl⟩
  have hb1 : Below w.heap.size w W1 := by rw [hW1]; exact (Below.refl _ _).alloc (Nat.le_refl _) _
  have hx1 : Bx W1 w.heap.size [.string s, .slice A n c] 56 := by rw [hW1]; exact Bx.new w _ _
  have hv1 := h.below hb1
  have hq1 := hq.below hb1 hq.lt
  have c0 : W1.cell? ⟨q, 0, none⟩ = some (.pointer (some ⟨p, 0, none⟩)) := hq1.cells 0
  have c3 : W1.cell? ⟨q, 3, none⟩ = some (.int .i64 e) := hq1.cells 3
  have x0 : W1.cell? ⟨w.heap.size, 0, none⟩ = some (.string s) := hx1.cells 0
  have x1 : W1.cell? ⟨w.heap.size, 1, none⟩ = some (.slice A n c) := hx1.cells 1
  have hmq : Mq B p q w W1 := Mv.of hb1 _
  by_cases he : e = 0
  · have hst : stq (e, V) (.w s.data.toList b) = V.write s.data.toList b := by unfold stq; rw [if_pos he]; rfl
    rw [hst]
    have hf := write_any (s := s) (c := c) hv1.drew hl ((hS.below hb1).more hb1.size).drew hs hN
    have H := Lib.hid hv1
    have HQ := Lib.hid hq1
    have HF := Lib.hid hf
    have HM := Lib.hid hmq
    subst he
    clear h hq hf hl hs hN hst hS hb1 hx1 hv1 hq1 hmq
    subst hW1
    go_enter Try.func72, Try.ntmps72
    go_upto_region 2 with fail
    go_region_with (go_at_call 19; (with_reducible refine HF.out.mono ?_); rintro en w1 ⟨rfl, hv1, hm1⟩; obtain ⟨hq1, hd⟩ := did_step (e' := (V.write s.data.toList b).1) H.out HQ.out hv1 hm1.undrew; have HD := Lib.hid hd; clear hd hv1 hm1; have f3 := hq1.free 3; have d3 : w1.cell? ⟨q, 3, none⟩ = some (.int .i64 0) := hq1.cells 3)
    all_goals
      go_end0
      exact ⟨rfl, HD.out.2.1, HD.out.2.2.1, HM.out.trans HD.out.2.2.2⟩
  · have hst : stq (e, V) (.w s.data.toList b) = (e, V) := stq_err he _
    rw [hst]
    have h0 : (e == 0) = false := by simp [he]
    have H := Lib.hid hv1
    have HQ := Lib.hid hq1
    have HM := Lib.hid hmq
    clear h hq hl hs hN hst hS he hb1 hx1 hv1 hq1 hmq
    subst hW1
    go_enter Try.func72, Try.ntmps72
    go_wp2_with fail
    go_end0
    exact ⟨rfl, H.out, HQ.out, HM.out⟩
end
end Go.Proofs.Ytpaaafdnkehmfaa.Vf
