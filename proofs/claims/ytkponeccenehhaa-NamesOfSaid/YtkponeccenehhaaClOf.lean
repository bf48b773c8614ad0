/- tree.Get at no path; names.Of: a tree's edges parted by a set. Conditions: fewer than 2^39 edges, 2^37 names. -/
import Derived.Test.YtkponeccenehhaaClPart
namespace Go.Proofs.Ytkponeccenehhaa.Cl
open Go.RowKit Go.Proofs.Ytkponeccenehhaa.Nm
set_option maxRecDepth 100000

theorem get_nil (t : Tr) (A : Option Addr) (n c : Nat) (w : World) (h : Holds w w.heap.size A n t) (hsz : t.size ≤ 549755813888) :
    Calls Try.prog 23 #[.slice A n c, .slice none 0 0] w fun e w' => ∃ A' c', e = .returned (.tuple #[.slice A' n c', .bool true]) ∧ n ≤ c' ∧ c' ≤ maxLen ∧ Holds w' w'.heap.size A' n t ∧ Below w.heap.size w w' := by
  have HC := Lib.hid (clone_any t A n c w h hsz)
  clear h
  go_enter Try.func23, Try.ntmps23
  go_wp2_with fail
  go_loop [0, 12] (fun x i => x = .slice A n c ∧ i = .int .i64 0) (fun _ _ => 0)
  case atStart => exact ⟨rfl, rfl⟩
  case round =>
    obtain ⟨rfl, rfl⟩ := hrel
    go_wp2_with fail
    (with_reducible refine HC.out.mono ?_)
    rintro e w1 ⟨A1, c1, rfl, h1, h2, h3, h4⟩
    go_wp2_with fail
    go_ret2
    exact ⟨A1, c1, rfl, h1, h2, h3, h4⟩

set_option maxHeartbeats 2000000 in
theorem of_any (a : St) (A2 : Option Addr) (n2 c2 : Nat) (t : Tr) (A : Option Addr) (n c : Nat) (w : World) (h : In w a A2 n2) (hn2 : n2 ≤ 274877906944) (ht : Holds w w.heap.size A n t) (hsz : t.size ≤ 549755813888) :
    Calls Try.prog 9 #[.slice A n c, .agg #[.bool a.all, .slice A2 n2 c2]] w fun e w' =>
      ∃ A4 n4 c4 A5 n5 c5, e = .returned (.tuple #[.slice A4 n4 c4, .slice A5 n5 c5]) ∧ Holds w' w'.heap.size A4 n4 (part (fun x => a.mem x) t) ∧ Holds w' w'.heap.size A5 n5 (part (fun x => !a.mem x) t) ∧ n4 + n5 = n ∧ n4 ≤ c4 ∧ n5 ≤ c5 ∧ c4 ≤ maxLen ∧ c5 ≤ maxLen ∧ Below w.heap.size w w' := by
  obtain ⟨W1, hW1⟩ : ∃ W, W = w.alloc (Obj.cells #[Value.bool a.all, Value.slice A2 n2 c2] 25) := ⟨_, rfl⟩
  have g0 : W1.heap[w.heap.size]? = some (Obj.cells #[Value.bool a.all, Value.slice A2 n2 c2] 25) := by rw [hW1, heap_alloc_new]
  have hb1 : Below w.heap.size w W1 := by rw [hW1]; exact (Below.refl _ _).alloc (Nat.le_refl _) _
  have HF := Lib.hid (from_any a A2 n2 c2 W1 (h.below hb1) hn2)
  have HB1 := Lib.hid hb1
  have Ht := Lib.hid ht
  have h0 := h
  have ht0 := ht
  clear h ht hb1
  go_enter Try.func9, Try.ntmps9
  go_wp2_with fail
  rw [← hW1]
  obtain ⟨q0, q1, _, _⟩ := box2 g0
  go_wp2_with fail
  (with_reducible refine HF.out.mono ?_)
  rintro e w2 ⟨A3, c3, rfl, hs2, hb2⟩
  obtain ⟨n3, hn3⟩ : ∃ n3, n3 = (fr a).l.length := ⟨_, rfl⟩
  rw [← hn3] at hs2 ⊢
  have Hn3 := Lib.hid hn3
  obtain ⟨y, hy⟩ : ∃ y, y = (fr a).all := ⟨_, rfl⟩
  rw [← hy]
  have Hy := Lib.hid hy
  obtain ⟨W3, hW3⟩ : ∃ W, W = w2.alloc (Obj.cells #[Value.bool y, Value.slice A3 n3 c3] 49) := ⟨_, rfl⟩
  have g3 : W3.heap[w2.heap.size]? = some (Obj.cells #[Value.bool y, Value.slice A3 n3 c3] 49) := by rw [hW3, heap_alloc_new]
  have hb3 : Below w2.heap.size w2 W3 := by rw [hW3]; exact (Below.refl _ _).alloc (Nat.le_refl _) _
  have hbz : Below w.heap.size w W3 := (HB1.out.trans (hb2.mono HB1.out.size)).trans (hb3.mono (Nat.le_trans HB1.out.size hb2.size))
  have HG := Lib.hid (get_nil t A n c W3 ((Ht.out.below hbz).more hbz.size) hsz)
  have HG3 := Lib.hid g3
  have Hs3 : Hid (SeesV W3 W3.heap.size A3 n3 ((fr a).l.map encs)) := Lib.hid ((In.mk hs2).below hb3).sees
  have HBZ := Lib.hid hbz
  clear hs2 hb2 hb3 hbz hn3 hy
  go_wp2_with fail
  rw [← hW3]
  clear hW3
  (with_reducible refine HG.out.mono ?_)
  rintro e w4 ⟨A4, c4, rfl, hn4, hm4, hh4, hb4⟩
  obtain ⟨r0, r1, _, _⟩ := box2 (Below.box hb4 HG3.out)
  rw [Hy.out] at r0
  have hln := ht0.len
  have hls := t.len_size
  have hfl := fr_le a
  have hin := h0.len
  have HC := (split_any (fr a) (ord_pair _) A3 n3 c3 w2.heap.size t A4 n c4 w4 (((In.mk Hs3.out).below hb4).sees) (by rw [Hn3.out]; omega) r0 r1 hh4 (by omega))
  have hmf : ∀ (fn : Fn) (first cap : Array Value) (w : World), (Instr.makeFunc fn first cap).run Try.prog w = .ok (.func fn first cap) w := fun _ _ _ _ => rfl
  simp only [fr_mem] at HC
  have HC := Lib.hid HC
  clear hln hls hfl hin
  go_wp2_with fail
  (with_reducible refine HC.out.mono ?_)
  rintro e w5 ⟨A5, n5, c5, A6, n6, c6, rfl, h5, h6, e1, e2, e3, e4, e5, hb5⟩
  have hb6 := HBZ.out.trans ((hb4.trans (hb5.mono hb4.size)).mono HBZ.out.size)
  go_wp2_with fail
  go_ret2
  exact ⟨A5, n5, c5, A6, n6, c6, rfl, h5, h6, e1, e2, e3, e4, e5, hb6⟩
end Go.Proofs.Ytkponeccenehhaa.Cl
