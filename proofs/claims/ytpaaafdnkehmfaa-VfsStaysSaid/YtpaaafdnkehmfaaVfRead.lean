/- vfs: Read, Remove. No conditions but that there is no more than 2^40 of anything. -/
import Derived.Test.YtpaaafdnkehmfaaVfWrite
namespace Go.Proofs.Ytpaaafdnkehmfaa.Vf
open Go.RowKit
set_option maxRecDepth 100000

def Vm.read (V : Vm) (k : BS) : BS × Bool × Int := if V.dead = true then ([], false, 15) else ((fnd V.now k).getD [], (fnd V.now k).isSome, 0)
/-- What a Read answers: bytes of its own. -/
def ReadP (R : BS × Bool × Int) (w : World) (e : Ending) (w' : World) : Prop :=
  ∃ A n c, e = .returned (.tuple #[.slice A n c, .bool R.2.1, .int .i64 R.2.2]) ∧ n = R.1.length ∧ w'.ownsRow w.heap.size 5 1 (.slice A n c) n (byts R.1) ∧ Bz w' w.heap.size (.slice A n c) R.1 ∧ Below w.heap.size w w'

theorem below_und {B : Nat} {w w' : World} (h : Below B w.drew w') : Below B w w' := ⟨h.os, h.tape, h.output, h.size, h.block⟩
section
variable {V : Vm} {w : World} {B p N : Nat} {s : ByteArray}
set_option maxHeartbeats 2000000 in
theorem remove_any (h : Vp w B p V) (hl : Lim V N) (hs : s.size ≤ maxLen) (hN : N + s.size + 1 ≤ 1099511627776) :
    Calls Try.prog 39 #[.pointer (some ⟨p, 0, none⟩), .string s] w (Did (.int .i64 (V.remove s.data.toList).1) (V.remove s.data.toList).2 B p w) := by
  have hsz : s.data.toList.length = s.size := Array.length_toList
  have hVp := h
  obtain ⟨m1, m2, As, ns, cs, vs, h⟩ := h
  have h := h.parts
  have c8 : w.cell? ⟨p, 8, none⟩ = some (.bool V.dead) := h.box.cells 8
  have hat := at2_any (s := s) (o := 0) (show w.cell? ⟨p, 0, none⟩ = some m1 from h.box.cells 0) h.f1 hs
  have HV := Lib.hid hVp
  have HLim := Lib.hid hl
  have HN := Lib.hid hN
  have HAT := Lib.hid hat
  have HSZ := Lib.hid hsz
  clear h hVp hl hN hat hs hsz
  by_cases hd : V.dead = true
  · have hw : V.remove s.data.toList = (15, V) := by unfold Vm.remove; rw [if_pos hd]
    rw [hd] at c8
    rw [hw]
    clear hw hd
    go_enter Try.func39, Try.ntmps39
    go_wp2_with fail
    go_ret
    exact ⟨rfl, HV.out, Mo.refl _ _ _⟩
  · have hd' : V.dead = false := by simpa using hd
    rw [hd'] at c8
    have hf := field2
    cases hfn : fnd V.now s.data.toList with
    | none =>
      have hw : V.remove s.data.toList = (2, V) := by unfold Vm.remove; rw [if_neg hd, if_pos hfn]
      rw [hw]
      have hat2 := HAT.out
      rw [hfn] at hat2
      simp only [olen, Option.isNone_none] at hat2
      have HAT2 := Lib.hid hat2
      clear hw hd hd' hfn HAT hat2
      go_enter Try.func39, Try.ntmps39
      go_wp2_with (go_at_call 50; (with_reducible refine HAT2.out.mono ?_); rintro e W2 ⟨A0, c0, rfl, hb0, hb2⟩)
      go_ret
      exact ⟨rfl, HV.out.below hb2, Mo.of hb2⟩
    | some bs =>
      have hw : V.remove s.data.toList = ((V.does s.data.toList none).says, V.does s.data.toList none) := by unfold Vm.remove; rw [if_neg hd, if_neg (by rw [hfn]; simp)]
      rw [hw]
      have hat2 := HAT.out
      rw [hfn] at hat2
      simp only [olen, Option.isNone_some] at hat2
      have HAT2 := Lib.hid hat2
      clear hw hd hd' hfn HAT hat2
      go_enter Try.func39, Try.ntmps39
      go_wp2_with (first
        | (go_at_call 50; (with_reducible refine HAT2.out.mono ?_); rintro e W2 ⟨A0, c0, rfl, hb0, hb2⟩; have HB2 := Lib.hid hb2; have hch : Calls Try.prog 51 #[.pointer (some ⟨p, 0, none⟩), .agg #[.string s, .slice none 0 0, .bool true]] W2 (Did (.int .i64 (V.does s.data.toList none).says) (V.does s.data.toList none) B p W2) := change_any (ob := none) (s := s) (HV.out.below hb2) HLim.out (by simp only [olen]; have := HN.out; have := HSZ.out; omega) (Bz.nil _ _); have HCH := Lib.hid hch; clear hch hb0 hb2)
        | (go_at_call 51; (with_reducible refine HCH.out.mono ?_); rintro e W4 ⟨rfl, hv4, hm4⟩))
      go_ret
      exact ⟨rfl, hv4, (Mo.of HB2.out).trans hm4⟩
set_option maxHeartbeats 2000000 in
theorem read_any (h : Vp w B p V) (hl : Lim V N) (hs : s.size ≤ maxLen) (hN : N ≤ 1099511627776) :
    Calls Try.prog 21 #[.pointer (some ⟨p, 0, none⟩), .string s] w (ReadP (V.read s.data.toList) w) := by
  obtain ⟨m1, m2, As, ns, cs, vs, h⟩ := h
  have h := h.parts
  have c8 : w.cell? ⟨p, 8, none⟩ = some (.bool V.dead) := h.box.cells 8
  have hat := at2_any (s := s) (o := 0) (show w.cell? ⟨p, 0, none⟩ = some m1 from h.box.cells 0) h.f1 hs
  have hu : ((fnd V.now s.data.toList).getD []).length ≤ N := by
    have h1 := olen_fnd_le s.data.toList V.now
    have h2 := hl.now
    cases hc : fnd V.now s.data.toList with
    | none => exact Nat.zero_le _
    | some b => rw [hc] at h1; simp only [olen] at h1; show b.length ≤ N; omega
  have HAT := Lib.hid hat
  have HU := Lib.hid hu
  have HN := Lib.hid hN
  clear h hl hat hs hu hN
  by_cases hd : V.dead = true
  · have hw : V.read s.data.toList = ([], false, 15) := by unfold Vm.read; rw [if_pos hd]
    rw [hd] at c8
    rw [hw]
    clear hw hd
    go_enter Try.func21, Try.ntmps21
    go_wp2_with fail
    go_ret3
    exact ⟨none, 0, 0, rfl, rfl, by simpa [byts] using World.ownsRow_nil _ _ _ _, Bz.nil _ _, Below.refl _ _⟩
  · have hd' : V.dead = false := by simpa using hd
    rw [hd'] at c8
    have hw : V.read s.data.toList = ((fnd V.now s.data.toList).getD [], (fnd V.now s.data.toList).isSome, 0) := by unfold Vm.read; rw [if_neg hd]
    rw [hw]
    clear hw hd hd'
    generalize olen (fnd V.now s.data.toList) = k0 at HAT
    have e1 : (fnd V.now s.data.toList).isSome = !(fnd V.now s.data.toList).isNone := by cases fnd V.now s.data.toList <;> rfl
    rw [e1]
    clear e1
    generalize (fnd V.now s.data.toList).isNone = g0 at HAT ⊢
    generalize (fnd V.now s.data.toList).getD [] = b0 at HAT HU ⊢
    go_enter Try.func21, Try.ntmps21
    go_wp2_with (go_at_call 50; (with_reducible refine HAT.out.mono ?_); rintro e W2 ⟨A0, c0, rfl, hb0, hb2⟩)
    have hz2 := hb0.keep (Ks.of hb2)
    have hbx : Bx (W2.alloc (Obj.cells #[.string s, .slice A0 k0 c0, .bool g0] 84)) W2.heap.size [.string s, .slice A0 k0 c0, .bool g0] 84 := Bx.new _ _ _
    obtain ⟨W3, hW3⟩ : ∃ W, W = W2.alloc (Obj.cells #[.string s, .slice A0 k0 c0, .bool g0] 84) := ⟨_, rfl⟩
    rw [← hW3] at hbx
    have hb3 : Below W2.heap.size W2 W3 := by rw [hW3]; exact (Below.refl _ _).alloc (Nat.le_refl _) _
    obtain ⟨A1, n1, c1, ee, hS, _⟩ := (hz2.keep (Ks.of hb3)).sees
    injection ee with ea eb ec
    subst ea; subst eb; subst ec
    have x1 : W3.cell? ⟨W2.heap.size, 1, none⟩ = some (.slice A0 k0 c0) := hbx.cells 1
    have x2 : W3.cell? ⟨W2.heap.size, 2, none⟩ = some (.bool g0) := hbx.cells 2
    have hcl := clone_any (c := c0) (show Sees W3.drew W3.drew.heap.size A0 k0 b0 from hS.drew) (by have := hS.len; have := HU.out; have := HN.out; omega)
    have HCL := Lib.hid hcl
    have HB2 := Lib.hid hb2
    have HB3 := Lib.hid hb3
    have HBX := Lib.hid hbx
    clear hz2 hbx hb3 hS hcl hb0 hb2
    subst hW3
    go_wp2_with fail
    go_region_held3 (fun W => W.cell? ⟨W2.heap.size, 1, none⟩ = some (.slice A0 k0 c0) ∧ W.cell? ⟨W2.heap.size, 2, none⟩ = some (.bool g0)) (first | exact ⟨x1, x2⟩ | exact ⟨y1, y2⟩)
      ((go_at_call 52; (with_reducible refine HCL.out.mono ?_); rintro e W4 ⟨A4, n4, c4, rfl, hn4, ho4, hz4, hb4⟩; have HN4 := Lib.hid hn4; clear hn4; have y1 := (hb4.cell (p := ⟨W2.heap.size, 1, none⟩) HBX.out.lt).trans x1; have y2 := (hb4.cell (p := ⟨W2.heap.size, 2, none⟩) HBX.out.lt).trans x2))
    go_wp2_with fail
    go_ret3
    have hb5 : Below w.heap.size w W4 := HB2.out.trans ((HB3.out.trans ((below_und hb4).mono HB3.out.size)).mono HB2.out.size)
    refine ⟨A4, n4, c4, rfl, HN4.out, ?_, hz4.more (Nat.le_trans HB2.out.size HB3.out.size), hb5⟩
    refine ⟨ho4.1, ?_⟩
    rcases ho4.2 with e | ⟨g, cap, cur, e, hg, rest⟩
    · exact .inl e
    · exact .inr ⟨g, cap, cur, e, Nat.le_trans (Nat.le_trans HB2.out.size HB3.out.size) hg, rest⟩
end
end Go.Proofs.Ytpaaafdnkehmfaa.Vf
