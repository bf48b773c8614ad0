/- vfs: Read, Write, Remove. No conditions but that there is no more than 2^40 of anything. -/
import Derived.Test.YtpaaafdnkehmfaaVfClone
namespace Go.Proofs.Ytpaaafdnkehmfaa.Vf
open Go.RowKit
set_option maxRecDepth 100000

section
variable {w : World} {B p N : Nat} {mv : Value} {l : FL} {s : ByteArray}
theorem at2_any {o : Nat} (hc : w.cell? ⟨p, o, none⟩ = some mv) (hF : Fs w B mv l) (hs : s.size ≤ maxLen) :
    Calls Try.prog 50 #[.pointer (some ⟨p, o, none⟩), .string s] w fun e w' => ∃ A c, e = .returned (.agg #[.string s, .slice A (olen (fnd l s.data.toList)) c, .bool (fnd l s.data.toList).isNone]) ∧ Bz w B (.slice A (olen (fnd l s.data.toList)) c) ((fnd l s.data.toList).getD []) ∧ Below w.heap.size w w' := by
  refine (at_any hc hF hs).mono fun e w' => ?_
  rintro ⟨v, rfl, hb, _, hbw⟩
  obtain ⟨A, n, c, rfl, hn, -⟩ := hb.ex
  have e : n = olen (fnd l s.data.toList) := by rw [hn]; cases fnd l s.data.toList <;> rfl
  subst e
  exact ⟨A, c, rfl, hb, hbw⟩
end
theorem field1 (a b c : Value) (w : World) : (Instr.field 84 (.agg #[a, b, c]) 1).run Try.prog w = .ok b w := by kernel_rfl
theorem field2 (a b c : Value) (w : World) : (Instr.field 84 (.agg #[a, b, c]) 2).run Try.prog w = .ok c w := by kernel_rfl

section
variable {V : Vm} {w : World} {B p N n c : Nat} {s : ByteArray} {A : Option Addr} {b : BS}
set_option maxHeartbeats 2000000 in
theorem write_any (h : Vp w B p V) (hl : Lim V N) (hS : Sees w w.heap.size A n b) (hs : s.size ≤ maxLen) (hN : N + 21 + b.length ≤ 1099511627776) :
    Calls Try.prog 19 #[.pointer (some ⟨p, 0, none⟩), .string s, .slice A n c] w (Did (.int .i64 (V.write s.data.toList b).1) (V.write s.data.toList b).2 B p w) := by
  have hsz : s.data.toList.length = s.size := Array.length_toList
  have hVp := h
  obtain ⟨m1, m2, As, ns, cs, vs, h⟩ := h
  have h := h.parts
  have c8 : w.cell? ⟨p, 8, none⟩ = some (.bool V.dead) := h.box.cells 8
  have c1 : w.cell? ⟨p, 1, none⟩ = some (.int .i64 (used V.now : Int)) := h.box.cells 1
  have c5 : w.cell? ⟨p, 5, none⟩ = some (.int .i64 V.room) := h.box.cells 5
  have hat := at2_any (s := s) (o := 0) (show w.drew.cell? ⟨p, 0, none⟩ = some m1 from h.box.cells 0) h.drew.f1 hs
  have hlen := hS.len
  have H := Lib.hid h
  have HV := Lib.hid hVp
  have HLim := Lib.hid hl
  have HS := Lib.hid hS
  have HN := Lib.hid hN
  have HAT := Lib.hid hat
  have HSZ := Lib.hid hsz
  have HLen := Lib.hid hlen
  clear h hVp hl hS hN hat hs hsz hlen
  by_cases hd : V.dead = true
  · have hw : V.write s.data.toList b = (15, V) := by unfold Vm.write; rw [if_pos hd]
    rw [hd] at c8
    rw [hw]
    clear hw hd
    go_enter Try.func19, Try.ntmps19
    go_wp2_with fail
    go_ret
    exact ⟨rfl, HV.out, Mo.refl _ _ _⟩
  · have hd' : V.dead = false := by simpa using hd
    rw [hd'] at c8
    by_cases hk : s.size < 1 ∨ 20 < s.size
    · have hw : V.write s.data.toList b = (12, V) := by unfold Vm.write; rw [if_neg hd, if_pos (by rw [HSZ.out]; exact hk)]
      rw [hw]
      clear hw hd hd'
      by_cases h1 : s.size < 1
      · have k1 : (s.size : Int) < 1 := by omega
        clear h1 hk
        go_enter Try.func19, Try.ntmps19
        go_wp2_with fail
        go_ret
        exact ⟨rfl, HV.out, Mo.refl _ _ _⟩
      · have k1 : ¬ (s.size : Int) < 1 := by omega
        have k2 : (20 : Int) < (s.size : Int) := by omega
        clear h1 hk
        go_enter Try.func19, Try.ntmps19
        go_wp2_with fail
        go_ret
        exact ⟨rfl, HV.out, Mo.refl _ _ _⟩
    · have k1 : ¬ (s.size : Int) < 1 := by omega
      have k2 : ¬ (20 : Int) < (s.size : Int) := by omega
      have eu := used_wth s.data.toList (some b) HLim.out.ascNow
      have el := olen_fnd_le s.data.toList V.now
      have hnow := HLim.out.now
      have hN := HN.out
      have hlen := HLen.out
      rw [show olen (some b) = b.length from rfl] at eu
      have w1 : IntKind.i64.wrap ((used V.now : Int) - (olen (fnd V.now s.data.toList) : Int)) = (used V.now : Int) - (olen (fnd V.now s.data.toList) : Int) := by rw [IntKind.wrap_i64]; omega
      have w2 : IntKind.i64.wrap ((used V.now : Int) - (olen (fnd V.now s.data.toList) : Int) + (n : Int)) = (used (wth s.data.toList (some b) V.now) : Int) := by rw [IntKind.wrap_i64]; omega
      have hw : V.write s.data.toList b = if V.room < (used (wth s.data.toList (some b) V.now) : Int) then (14, V) else ((V.does s.data.toList (some b)).says, V.does s.data.toList (some b)) := by
        unfold Vm.write; rw [if_neg hd, if_neg (by rw [HSZ.out]; exact hk)]
      have HK := Lib.hid hk
      clear hd hd' hk el hnow hN hlen eu
      generalize used (wth s.data.toList (some b) V.now) = u' at w2 hw
      generalize olen (fnd V.now s.data.toList) = k0 at w1 w2 HAT
      have hf := field1
      by_cases hr : V.room < (u' : Int)
      · rw [if_pos hr] at hw
        rw [hw]
        clear hw
        go_enter Try.func19, Try.ntmps19
        go_wp2_with fail
        go_region_held3 (fun W => W.cell? ⟨p, 1, none⟩ = some (.int .i64 (used V.now : Int)) ∧ W.cell? ⟨p, 5, none⟩ = some (.int .i64 V.room)) (first | exact ⟨c1, c5⟩ | exact ⟨d1, d5⟩)
          ((go_at_call 50; (with_reducible refine HAT.out.mono ?_); rintro e W2 ⟨A0, c0, rfl, hb0, hb2⟩; have d1 := (hb2.cell (p := ⟨p, 1, none⟩) H.out.box.lt).trans c1; have d5 := (hb2.cell (p := ⟨p, 5, none⟩) H.out.box.lt).trans c5))
        go_wp2_with fail
        go_ret
        have hb3 : Below w.heap.size w W2 := ⟨hb2.os, hb2.tape, hb2.output, hb2.size, hb2.block⟩
        exact ⟨rfl, HV.out.below hb3, Mo.of hb3⟩
      · rw [if_neg hr] at hw
        rw [hw]
        clear hw
        go_enter Try.func19, Try.ntmps19
        go_wp2_with fail
        go_region_held3 (fun W => W.cell? ⟨p, 1, none⟩ = some (.int .i64 (used V.now : Int)) ∧ W.cell? ⟨p, 5, none⟩ = some (.int .i64 V.room)) (first | exact ⟨c1, c5⟩ | exact ⟨d1, d5⟩)
          ((go_at_call 50; (with_reducible refine HAT.out.mono ?_); rintro e W2 ⟨A0, c0, rfl, hb0, hb2⟩; have d1 := (hb2.cell (p := ⟨p, 1, none⟩) H.out.box.lt).trans c1; have d5 := (hb2.cell (p := ⟨p, 5, none⟩) H.out.box.lt).trans c5))
        have hb3 : Below w.heap.size w W2 := ⟨hb2.os, hb2.tape, hb2.output, hb2.size, hb2.block⟩
        have hcl := clone_any (c := c) ((HS.out.below hb3).more hb3.size) (by have := HLen.out; have := HN.out; omega)
        have HB3 := Lib.hid hb3
        have HCL := Lib.hid hcl
        clear hb3 hcl hb0 hb2 d1 d5 c1 c5 c8
        go_wp2_with (first
          | (go_at_call 52; (with_reducible refine HCL.out.mono ?_); rintro e W3 ⟨A3, n3, c3, rfl, hn3, _, hz3, hb4⟩; have hch : Calls Try.prog 51 #[.pointer (some ⟨p, 0, none⟩), .agg #[.string s, .slice A3 n3 c3, .bool false]] W3 (Did (.int .i64 (V.does s.data.toList (some b)).says) (V.does s.data.toList (some b)) B p W3) := change_any (ob := some b) (s := s) (((HV.out.below HB3.out).below hb4)) HLim.out (by simp only [olen]; have := HN.out; have := HK.out; have := HSZ.out; omega) (hz3.more (Nat.le_trans H.out.le HB3.out.size)); have HCH := Lib.hid hch; clear hch hn3 hz3)
          | (go_at_call 51; (with_reducible refine HCH.out.mono ?_); rintro e W4 ⟨rfl, hv4, hm4⟩))
        go_ret
        exact ⟨rfl, hv4, (Mo.of (HB3.out.trans (hb4.mono HB3.out.size))).trans hm4⟩
end
end Go.Proofs.Ytpaaafdnkehmfaa.Vf
