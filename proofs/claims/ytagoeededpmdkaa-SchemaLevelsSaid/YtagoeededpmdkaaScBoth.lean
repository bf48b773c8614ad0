/- cadenceref3's Both, Not, the law's Make of names, at a world behind another one. Conditions: fewer than 4,096 names in each. -/
import Derived.Test.YtagoeededpmdkaaNmPickAnd
import Derived.Test.YtagoeededpmdkaaNmRefNot
import Derived.Test.YtagoeededpmdkaaNmMake
import Derived.Test.YtagoeededpmdkaaScState
namespace Go.Proofs.Ytagoeededpmdkaa.Nm
open Go.RowKit
set_option maxRecDepth 100000

set_option maxHeartbeats 1000000 in
theorem rboth4_any (a b : St) (A A2 : Option Addr) (n c n2 c2 : Nat) (w : World) (h : In w a A n) (h2 : In w b A2 n2) (hn : n ≤ 137438953472) (hn2 : n2 ≤ 137438953472) :
    Calls Try.prog 95 #[.agg #[.bool a.all, .slice A n c], .agg #[.bool b.all, .slice A2 n2 c2]] w (Told (both a b) w) := by
  obtain ⟨W1, hW1, g0, g1, g2, gs, gb⟩ := three w (Obj.cells #[Value.bool a.all, Value.slice A n c] 60) (Obj.cells #[Value.bool b.all, Value.slice A2 n2 c2] 60) (Obj.cells #[Value.bool false, Value.slice none 0 0] 60)
  have HP : Hid (Calls Try.prog 140 #[.agg #[.bool a.all, .slice A n c], .agg #[.bool b.all, .slice A2 n2 c2], .bool true] W1 (Told (both a b) W1)) := Lib.hid (pick_and a b A A2 n c n2 c2 W1 (h.below gb) (h2.below gb) hn hn2)
  obtain ⟨s, hs⟩ : ∃ s, s = both a b := ⟨_, rfl⟩
  rw [← hs] at HP ⊢
  clear hs h h2
  obtain ⟨p0, p1, _, _⟩ := box2 g0
  obtain ⟨p2, p3, _, _⟩ := box2 g1
  have hgs : w.heap.size ≤ W1.heap.size := by omega
  clear gs
  go_enter Try.func95, Try.ntmps95
  go_wp2_with fail
  rw [← hW1]
  clear hW1
  refine HP.out.mono ?_
  rintro e w1 ⟨A1, c1, rfl, hs1, hb1⟩
  have hbx := Below.box hb1 g2
  obtain ⟨r2, r3, r4, r5⟩ := box2 hbx
  go_wp2_with fail
  refine bodyPost_ret (v := .agg #[.bool s.all, .slice A1 s.l.length c1]) (by simp [results, Try.results95, go_sem, r2, r3]) rfl ?_
  exact told_put hbx hs1 rfl (gb.trans (hb1.mono hgs)) (by omega) rfl

end Go.Proofs.Ytagoeededpmdkaa.Nm
namespace Go.Proofs.Ytagoeededpmdkaa.Sc
open Go.RowKit Go.Proofs.Ytagoeededpmdkaa.Nm
set_option maxRecDepth 100000
/-- A set is told, and all that lay in W1 lies as it lay. -/
theorem rboth_at {W1 : World} (a b : St) (A A2 : Option Addr) (n c n2 c2 : Nat) (hn : n ≤ 4096) (hn2 : n2 ≤ 4096) (W : World) (hb : Below W1.heap.size W1 W) (h : In W a A n) (h2 : In W b A2 n2) :
    Calls Try.prog 95 #[.agg #[.bool a.all, .slice A n c], .agg #[.bool b.all, .slice A2 n2 c2]] W (At W1 (both a b)) := by
  refine (rboth4_any a b A A2 n c n2 c2 W h h2 (by omega) (by omega)).mono ?_
  rintro e w' ⟨A', c', rfl, hs, hb'⟩
  exact ⟨A', c', rfl, ⟨hs⟩, hb.trans (hb'.mono hb.size)⟩
theorem rnot_at {W1 : World} (a : St) (A : Option Addr) (n c : Nat) (hn : n ≤ 4096) (W : World) (hb : Below W1.heap.size W1 W) (h : In W a A n) :
    Calls Try.prog 96 #[.agg #[.bool a.all, .slice A n c]] W (At W1 (nott a)) := by
  refine (rnot_any a A n c W h (by omega)).mono ?_
  rintro e w' ⟨A', c', rfl, hs, hb'⟩
  exact ⟨A', c', rfl, ⟨hs⟩, hb.trans (hb'.mono hb.size)⟩
theorem make_at {W1 : World} (a : St) (A : Option Addr) (n c : Nat) (hn : n ≤ 9223372036854775807) (hl : ∀ x ∈ a.l, x.length ≤ maxLen) (W : World) (hb : Below W1.heap.size W1 W) (h : In W a A n) :
    Calls Try.prog 40 #[.agg #[.bool a.all, .slice A n c]] W fun e w' => ∃ m : St, m.l.length ≤ 6 ∧ At W1 m e w' := by
  refine (make_any a A n c W h hn hl).mono ?_
  rintro e w' ⟨m, hm, A', c', rfl, hi, hb'⟩
  exact ⟨m, hm, A', c', rfl, hi, hb.trans (hb'.mono hb.size)⟩
end Go.Proofs.Ytagoeededpmdkaa.Sc
