/- vfs: what only asks, or turns a cell of the box: New, Dead, Ops, Used, Room, Stop, stops. No conditions but that there is no more than 2^40 of anything. -/
import Derived.Test.YtpaaafdnkehmfaaVfMem
import Derived.LoopTactic
import Derived.LoopIn
import Derived.Deep.RegionHeld3
import Derived.Deep.RegionWith
import Derived.Deep.RegionLaw
import Derived.Deep.QuietTactic
import Derived.Deep.LoopGhost
import Derived.BigQuiet
import Derived.ProofKit
namespace Go.Proofs.Ytpaaafdnkehmfaa.Vf
open Go.RowKit
set_option maxRecDepth 100000

theorem VpAt.turn {w w' : World} {B p : Nat} {V V' : Vm} {m1 m2 : Value} {A : Option Addr} {n c : Nat} {vs : List Value} (h : VpAt w B p V m1 m2 A n c vs) (hm : Mv w w' (· = p)) (hb : Bx w' p (bxV V' m1 m2 A n c) 72)
    (e1 : V'.now = V.now) (e2 : V'.fl = V.fl) (e3 : V'.since = V.since) : Vp w' B p V' ∧ Mo B p w w' := by
  have hk : Ks w w' := hm.ks fun k e => by rw [e]; exact not_kd_bx h.box (.inl rfl)
  have hlt := h.lt
  refine ⟨⟨m1, m2, A, n, c, vs, hb, ?_, ?_, h.far, hm.row h.own fun k e q => ?_, ?_, h.lt, Nat.le_trans h.le hm.size⟩, hm.weak fun k _ e => .inl e⟩
  · rw [e1]
    exact h.f1.keep hk fun b e hl => hm.block b hl fun q => by have := (h.f1.not_kd e).1; omega
  · rw [e2]
    exact h.f2.keep hk fun b e hl => hm.block b hl fun q => by have := (h.f2.not_kd e).1; omega
  · have := (h.own.lt k e).1
    omega
  · rw [e3]; exact h.row.keep hk

theorem new_any (n : Int) (w : World) : Calls Try.prog 14 #[.int .i64 n] w fun e w' => e = .returned (.pointer (some ⟨w.heap.size, 0, none⟩)) ∧ Bx w' w.heap.size (bx0 (Vm.new n)) 72 ∧ Below w.heap.size w w' ∧ w'.heap.size = w.heap.size + 1 := by
  go_enter Try.func14, Try.ntmps14
  go_wp2_with fail
  all_goals
    go_ret
    refine ⟨rfl, ?_, (Below.refl _ _).alloc (Nat.le_refl _) _, by simp⟩
  all_goals
    first
      | (have e : (Vm.new n).room = 0 := by (simp only [Vm.new]; omega)
         have h := Bx.new w [.map none, .int .i64 0, .map none, .int .i64 0, .slice none 0 0, .int .i64 0, .int .i64 0, .int .i64 0, .bool false] 72
         rw [show bx0 (Vm.new n) = [.map none, .int .i64 0, .map none, .int .i64 0, .slice none 0 0, .int .i64 (Vm.new n).room, .int .i64 0, .int .i64 0, .bool false] from rfl, e]
         exact h)
      | (have e : (Vm.new n).room = 1048576 := by (simp only [Vm.new]; omega)
         have h := Bx.new w [.map none, .int .i64 0, .map none, .int .i64 0, .slice none 0 0, .int .i64 1048576, .int .i64 0, .int .i64 0, .bool false] 72
         rw [show bx0 (Vm.new n) = [.map none, .int .i64 0, .map none, .int .i64 0, .slice none 0 0, .int .i64 (Vm.new n).room, .int .i64 0, .int .i64 0, .bool false] from rfl, e]
         exact h)
      | (have e : (Vm.new n).room = n := by (simp only [Vm.new]; omega)
         have h := Bx.new w [.map none, .int .i64 0, .map none, .int .i64 0, .slice none 0 0, .int .i64 n, .int .i64 0, .int .i64 0, .bool false] 72
         rw [show bx0 (Vm.new n) = [.map none, .int .i64 0, .map none, .int .i64 0, .slice none 0 0, .int .i64 (Vm.new n).room, .int .i64 0, .int .i64 0, .bool false] from rfl, e]
         exact h)

section
variable {V : Vm} {w : World} {B p N : Nat}
theorem dead_any (h : Vp w B p V) : Calls Try.prog 22 #[.pointer (some ⟨p, 0, none⟩)] w fun e w' => e = .returned (.bool V.dead) ∧ w = w' := by
  obtain ⟨m1, m2, A, n, c, vs, h⟩ := h
  have c8 : w.cell? ⟨p, 8, none⟩ = some (.bool V.dead) := h.box.cells 8
  go_enter Try.func22, Try.ntmps22
  go_wp2_with fail
  go_ret
  exact ⟨rfl, rfl⟩
theorem ops_any (h : Vp w B p V) : Calls Try.prog 31 #[.pointer (some ⟨p, 0, none⟩)] w fun e w' => e = .returned (.int .i64 (V.ops : Int)) ∧ w = w' := by
  obtain ⟨m1, m2, A, n, c, vs, h⟩ := h
  have c6 : w.cell? ⟨p, 6, none⟩ = some (.int .i64 (V.ops : Int)) := h.box.cells 6
  go_enter Try.func31, Try.ntmps31
  go_wp2_with fail
  go_ret
  exact ⟨rfl, rfl⟩
theorem used_any (h : Vp w B p V) : Calls Try.prog 45 #[.pointer (some ⟨p, 0, none⟩)] w fun e w' => e = .returned (.int .i64 (used V.now : Int)) ∧ w = w' := by
  obtain ⟨m1, m2, A, n, c, vs, h⟩ := h
  have c1 : w.cell? ⟨p, 1, none⟩ = some (.int .i64 (used V.now : Int)) := h.box.cells 1
  go_enter Try.func45, Try.ntmps45
  go_wp2_with fail
  go_ret
  exact ⟨rfl, rfl⟩
theorem room_any (h : Vp w B p V) : Calls Try.prog 36 #[.pointer (some ⟨p, 0, none⟩)] w fun e w' => e = .returned (.int .i64 V.room) ∧ w = w' := by
  obtain ⟨m1, m2, A, n, c, vs, h⟩ := h
  have c5 : w.cell? ⟨p, 5, none⟩ = some (.int .i64 V.room) := h.box.cells 5
  go_enter Try.func36, Try.ntmps36
  go_wp2_with fail
  go_ret
  exact ⟨rfl, rfl⟩
theorem stop_any (h : Vp w B p V) (k : Int) : Calls Try.prog 27 #[.pointer (some ⟨p, 0, none⟩), .int .i64 k] w (Did (.tuple #[]) (V.stopAt k) B p w) := by
  obtain ⟨m1, m2, A, n, c, vs, h⟩ := h
  have hb := h.box
  have c7 : w.cell? ⟨p, 7, none⟩ = some (.int .i64 V.stop) := hb.cells 7
  have f7 := hb.free 7
  have H := Lib.hid h
  clear h hb
  go_enter Try.func27, Try.ntmps27
  go_wp2_with fail
  go_end0
  exact ⟨rfl, H.out.turn (Mv.setCell _ _ _) (H.out.box.set 7 _) rfl rfl rfl⟩
theorem stops_any (h : Vp w B p V) (hl : Lim V N) (hN : N ≤ 1099511627776) : Calls Try.prog 48 #[.pointer (some ⟨p, 0, none⟩)] w (Did (.bool V.tick.dead) V.tick B p w) := by
  obtain ⟨m1, m2, A, n, c, vs, h⟩ := h
  have hb := h.box
  have c6 : w.cell? ⟨p, 6, none⟩ = some (.int .i64 (V.ops : Int)) := hb.cells 6
  have c7 : w.cell? ⟨p, 7, none⟩ = some (.int .i64 V.stop) := hb.cells 7
  have c8 : w.cell? ⟨p, 8, none⟩ = some (.bool V.dead) := hb.cells 8
  have f6 := hb.free 6
  have f7 := hb.free 7
  have f8 := hb.free 8
  have hn := hl.num
  have hs := hl.stop
  have e1 : IntKind.i64.wrap ((V.ops : Int) + 1) = (V.ops : Int) + 1 := by rw [IntKind.wrap_i64]; omega
  have H := Lib.hid h
  clear h hb
  have mv3 : ∀ (a b c : Value), Mv w (((w.setCell ⟨p, 6, none⟩ a).setCell ⟨p, 7, none⟩ b).setCell ⟨p, 8, none⟩ c) (· = p) := fun a b c => (((Mv.setCell _ _ _).trans (Mv.setCell _ _ _)).trans (Mv.setCell _ _ _)).weak fun k _ e => by rcases e with (e | e) | e <;> exact e
  have HM := Lib.hid mv3
  clear mv3
  by_cases hp : 0 < V.stop
  · have e2 : IntKind.i64.wrap (V.stop - 1) = V.stop - 1 := by rw [IntKind.wrap_i64]; omega
    by_cases h1 : V.stop = 1
    · have h1' : (V.stop - 1 == 0) = true := by simp; omega
      have et : V.tick = { V with ops := V.ops + 1, stop := 0, dead := true } := by simp only [Vm.tick, h1]; rfl
      have HT := Lib.hid et
      clear et
      go_enter Try.func48, Try.ntmps48
      go_wp2_with fail
      go_ret
      rw [HT.out]
      exact ⟨rfl, H.out.turn (HM.out _ _ _) (((H.out.box.set 6 _).set 7 _).set 8 _) rfl rfl rfl⟩
    · have h1' : (V.stop - 1 == 0) = false := by simp; omega
      have et : V.tick = { V with ops := V.ops + 1, stop := V.stop - 1, dead := false } := by simp only [Vm.tick, if_pos hp, h1]; rfl
      have HT := Lib.hid et
      clear et
      go_enter Try.func48, Try.ntmps48
      go_wp2_with fail
      go_ret
      rw [HT.out]
      exact ⟨rfl, H.out.turn (HM.out _ _ _) (((H.out.box.set 6 _).set 7 _).set 8 _) rfl rfl rfl⟩
  · have et : V.tick = { V with ops := V.ops + 1 } := by simp only [Vm.tick, if_neg hp]
    have HT := Lib.hid et
    clear et
    go_enter Try.func48, Try.ntmps48
    go_wp2_with fail
    go_ret
    rw [HT.out]
    exact ⟨rfl, H.out.turn (Mv.setCell _ _ _) (H.out.box.set 6 _) rfl rfl rfl⟩
end
end Go.Proofs.Ytpaaafdnkehmfaa.Vf
