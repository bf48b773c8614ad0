/- cadenceref3's Both, Either: what is in both sets, in one or both. Conditions: fewer than 2^37 names in each. -/
import Derived.Test.YtnjabeeogmldlaaNmPickAnd
import Derived.Test.YtnjabeeogmldlaaNmPickOr
namespace Go.Proofs.Ytnjabeeogmldlaa.Nm
open Go.RowKit
set_option maxRecDepth 100000

set_option maxHeartbeats 1000000 in
theorem rboth_any (a b : St) (A A2 : Option Addr) (n c n2 c2 : Nat) (w : World) (h : In w a A n) (h2 : In w b A2 n2) (hn : n ≤ 137438953472) (hn2 : n2 ≤ 137438953472) :
    Calls Try.prog 50 #[.agg #[.bool a.all, .slice A n c], .agg #[.bool b.all, .slice A2 n2 c2]] w (Told (both a b) w) := by
  obtain ⟨W1, hW1, g0, g1, g2, gs, gb⟩ := three w (Obj.cells #[Value.bool a.all, Value.slice A n c] 65) (Obj.cells #[Value.bool b.all, Value.slice A2 n2 c2] 65) (Obj.cells #[Value.bool false, Value.slice none 0 0] 65)
  have HP : Hid (Calls Try.prog 95 #[.agg #[.bool a.all, .slice A n c], .agg #[.bool b.all, .slice A2 n2 c2], .bool true] W1 (Told (both a b) W1)) := Lib.hid (pick_and a b A A2 n c n2 c2 W1 (h.below gb) (h2.below gb) hn hn2)
  obtain ⟨s, hs⟩ : ∃ s, s = both a b := ⟨_, rfl⟩
  rw [← hs] at HP ⊢
  clear hs h h2
  obtain ⟨p0, p1, _, _⟩ := box2 g0
  obtain ⟨p2, p3, _, _⟩ := box2 g1
  have hgs : w.heap.size ≤ W1.heap.size := by omega
  clear gs
  go_enter Try.func50, Try.ntmps50
  go_wp2_with fail
  rw [← hW1]
  clear hW1
  refine HP.out.mono ?_
  rintro e w1 ⟨A1, c1, rfl, hs1, hb1⟩
  have hbx := Below.box hb1 g2
  obtain ⟨r2, r3, r4, r5⟩ := box2 hbx
  go_wp2_with fail
  refine bodyPost_ret (v := .agg #[.bool s.all, .slice A1 s.l.length c1]) (by simp [results, Try.results50, go_sem, r2, r3]) rfl ?_
  exact told_put hbx hs1 rfl (gb.trans (hb1.mono hgs)) (by omega) rfl

set_option maxHeartbeats 1000000 in
theorem reither_any (a b : St) (A A2 : Option Addr) (n c n2 c2 : Nat) (w : World) (h : In w a A n) (h2 : In w b A2 n2) (hn : n ≤ 137438953472) (hn2 : n2 ≤ 137438953472) :
    Calls Try.prog 52 #[.agg #[.bool a.all, .slice A n c], .agg #[.bool b.all, .slice A2 n2 c2]] w (Told (either a b) w) := by
  obtain ⟨W1, hW1, g0, g1, g2, gs, gb⟩ := three w (Obj.cells #[Value.bool a.all, Value.slice A n c] 65) (Obj.cells #[Value.bool b.all, Value.slice A2 n2 c2] 65) (Obj.cells #[Value.bool false, Value.slice none 0 0] 65)
  have HP : Hid (Calls Try.prog 95 #[.agg #[.bool a.all, .slice A n c], .agg #[.bool b.all, .slice A2 n2 c2], .bool false] W1 (Told (either a b) W1)) := Lib.hid (pick_or a b A A2 n c n2 c2 W1 (h.below gb) (h2.below gb) hn hn2)
  obtain ⟨s, hs⟩ : ∃ s, s = either a b := ⟨_, rfl⟩
  rw [← hs] at HP ⊢
  clear hs h h2
  obtain ⟨p0, p1, _, _⟩ := box2 g0
  obtain ⟨p2, p3, _, _⟩ := box2 g1
  have hgs : w.heap.size ≤ W1.heap.size := by omega
  clear gs
  go_enter Try.func52, Try.ntmps52
  go_wp2_with fail
  rw [← hW1]
  clear hW1
  refine HP.out.mono ?_
  rintro e w1 ⟨A1, c1, rfl, hs1, hb1⟩
  have hbx := Below.box hb1 g2
  obtain ⟨r2, r3, r4, r5⟩ := box2 hbx
  go_wp2_with fail
  refine bodyPost_ret (v := .agg #[.bool s.all, .slice A1 s.l.length c1]) (by simp [results, Try.results52, go_sem, r2, r3]) rfl ?_
  exact told_put hbx hs1 rfl (gb.trans (hb1.mono hgs)) (by omega) rfl
end Go.Proofs.Ytnjabeeogmldlaa.Nm
