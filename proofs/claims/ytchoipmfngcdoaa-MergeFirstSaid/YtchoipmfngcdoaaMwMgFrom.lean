/- merge: a tree, or nothing without edges. No conditions. · merge: that a tree has no more edges than there is room for, none too deep. Conditions: it has no more. · merge: that all three are bounded. Conditions: at most 1200 edges, none deeper than 12. · merge.Merge: what comes of three trees. Conditions: at most 1200 edges each, none deeper than 12, in order. · merge: where the sides change different edges. No conditions. · merge: a merge is told name by name. No conditions. · merge: MergeGone's mathematics. No conditions. · merge: two values where one may stand. No conditions. -/
import Derived.Test.YtchoipmfngcdoaaMgMerged
import Derived.Test.YtchoipmfngcdoaaMgName
namespace Go.Proofs.Ytchoipmfngcdoaa.Mg
open Go.RowKit Go.Proofs.Ytchoipmfngcdoaa.Pt Go.Proofs.Ytchoipmfngcdoaa.Df Go.Proofs.Ytchoipmfngcdoaa.Sc Go.Proofs.Ytchoipmfngcdoaa.Cl
set_option maxRecDepth 100000

/-- Nothing has no edges. -/
def ifS (v : Bool) (s : Sl) : Sl := if v = true then s else nil4
set_option maxHeartbeats 1000000 in
theorem from_any (v : Bool) (A : Option Addr) (n c : Nat) (w : World) :
    Calls Try.prog 22 #[.agg #[.bool v, .slice A n c]] w fun e w' => e = .returned (.agg #[.bool v, .slice (ifS v ⟨A, n, c⟩).A (ifS v ⟨A, n, c⟩).n (ifS v ⟨A, n, c⟩).c]) ∧ Below w.heap.size w w' := by
  cases v with
  | true =>
    obtain ⟨W2, hW2, hb, hz, g1, g2⟩ := boxes2 w [.bool true, .slice A n c] [.bool true, .slice A n c] 26 61
    obtain ⟨e0, e1⟩ := g2.c2
    have HB := Lib.hid hb
    clear hb g1 g2
    go_enter Try.func22, Try.ntmps22
    go_wp2_with fail
    rw [← hW2]
    refine bodyPost_ret (v := .agg #[.bool true, .slice A n c]) (by simp [results, Try.results22, go_sem, e0, e1]) rfl ?_
    exact ⟨rfl, HB.out⟩
  | false =>
    obtain ⟨W2, hW2, hb, hz, g1, g2⟩ := boxes2 w [.bool false, .slice A n c] [.bool false, .slice none 0 0] 26 61
    obtain ⟨c1, c2⟩ := g1.c2
    obtain ⟨d0, d1⟩ := g2.c2
    obtain ⟨z0, z1⟩ := g2.f2
    have HB := Lib.hid hb
    clear hb g1 g2
    go_enter Try.func22, Try.ntmps22
    go_wp2_with fail
    rw [← hW2]
    go_wp2_with fail
    refine bodyPost_ret (v := .agg #[.bool false, .slice none 0 0]) (by simp [results, Try.results22, go_sem, d0, d1]) rfl ?_
    exact ⟨rfl, HB.out⟩

set_option maxHeartbeats 4000000 in
theorem eachr_any (v0 v1 v2 : Bool) (A0 A1 A2 : Option Addr) (n0 c0 n1 c1 n2 c2 : Nat) (w : World) :
    Calls Try.prog 21 #[.agg #[.bool v0, .slice A0 n0 c0, .bool v1, .slice A1 n1 c1, .bool v2, .slice A2 n2 c2], .func (.func 22) #[] #[]] w fun e w' => e = .returned (.agg #[.bool v0, .slice (ifS v0 ⟨A0, n0, c0⟩).A (ifS v0 ⟨A0, n0, c0⟩).n (ifS v0 ⟨A0, n0, c0⟩).c, .bool v1, .slice (ifS v1 ⟨A1, n1, c1⟩).A (ifS v1 ⟨A1, n1, c1⟩).n (ifS v1 ⟨A1, n1, c1⟩).c, .bool v2, .slice (ifS v2 ⟨A2, n2, c2⟩).A (ifS v2 ⟨A2, n2, c2⟩).n (ifS v2 ⟨A2, n2, c2⟩).c]) ∧ Below w.heap.size w w' := by
  obtain ⟨W2, hW2, hb, hz, g1, g2⟩ := boxes2 w [.bool v0, .slice A0 n0 c0, .bool v1, .slice A1 n1 c1, .bool v2, .slice A2 n2 c2] zs6 66 63
  have HL := Lib.hid (fun (W : World) (hW : Below W2.heap.size W2 W) => Bx.c6 (g1.below hW (by omega)))
  have HB := Lib.hid hb
  have Hz := Lib.hid hz
  have HG := Lib.hid g2
  have HW := Lib.hid from_any
  clear hb hz g1 g2
  have HP2 := Lib.hid (fun (W V : World) (hW : Below W2.heap.size W2 W) (hv : ∀ b o, b ≠ w.heap.size + 1 → V.cell? ⟨b, o, none⟩ = W.cell? ⟨b, o, none⟩) => (show V.cell? ⟨w.heap.size, 0, none⟩ = some (.bool v0) ∧ V.cell? ⟨w.heap.size, 1, none⟩ = some (.slice A0 n0 c0) ∧ V.cell? ⟨w.heap.size, 2, none⟩ = some (.bool v1) ∧ V.cell? ⟨w.heap.size, 3, none⟩ = some (.slice A1 n1 c1) ∧ V.cell? ⟨w.heap.size, 4, none⟩ = some (.bool v2) ∧ V.cell? ⟨w.heap.size, 5, none⟩ = some (.slice A2 n2 c2) from by
    obtain ⟨l0, l1, l2, l3, l4, l5⟩ := HL.out W hW
    have h0 : w.heap.size ≠ w.heap.size + 1 := by omega
    exact ⟨(hv _ _ h0).trans l0, (hv _ _ h0).trans l1, (hv _ _ h0).trans l2, (hv _ _ h0).trans l3, (hv _ _ h0).trans l4, (hv _ _ h0).trans l5⟩))
  have HP := Lib.hid (fun (W : World) (hW : Below W2.heap.size W2 W) => HP2.out W W hW (fun _ _ _ => rfl))
  have HBc := Lib.hid (Below.refl W2.heap.size W2).drew
  have hgl := HG.out.lt
  clear HL
  go_enter Try.func21, Try.ntmps21
  go_wp2_with fail
  rw [← hW2]
  clear hW2
  go_upto_region 1 with (fail)
  go_region_held3 (fun W => W.cell? ⟨w.heap.size, 0, none⟩ = some (.bool v0) ∧ W.cell? ⟨w.heap.size, 1, none⟩ = some (.slice A0 n0 c0) ∧ W.cell? ⟨w.heap.size, 2, none⟩ = some (.bool v1) ∧ W.cell? ⟨w.heap.size, 3, none⟩ = some (.slice A1 n1 c1) ∧ W.cell? ⟨w.heap.size, 4, none⟩ = some (.bool v2) ∧ W.cell? ⟨w.heap.size, 5, none⟩ = some (.slice A2 n2 c2))
    (first | with_reducible exact HP.out _ HBc.out | with_reducible exact HP2.out _ _ HBc.out (fun b o hb => keep_s6 _ _ _ _ _ _ _ b o hb))
    ((go_at_call 22; (with_reducible refine (HW.out _ _ _ _ _).mono ?_); rintro e w3 ⟨rfl, hb3⟩; have HBc := Lib.hid (show Below W2.heap.size W2 w3 from HBc.out.trans (hb3.mono HBc.out.size)); have g3 := HG.out.below HBc.out HG.out.lt; obtain ⟨d0, d1, d2, d3, d4, d5⟩ := g3.c6; obtain ⟨z0, z1, z2, z3, z4, z5⟩ := g3.f6; have HG3 := Lib.hid g3; clear hb3 g3))
  all_goals
    go_wp2_with fail
    obtain ⟨e0, e1, e2, e3, e4, e5⟩ := (HG3.out.s6 (.bool v0) (.slice (ifS v0 ⟨A0, n0, c0⟩).A (ifS v0 ⟨A0, n0, c0⟩).n (ifS v0 ⟨A0, n0, c0⟩).c) (.bool v1) (.slice (ifS v1 ⟨A1, n1, c1⟩).A (ifS v1 ⟨A1, n1, c1⟩).n (ifS v1 ⟨A1, n1, c1⟩).c) (.bool v2) (.slice (ifS v2 ⟨A2, n2, c2⟩).A (ifS v2 ⟨A2, n2, c2⟩).n (ifS v2 ⟨A2, n2, c2⟩).c)).c6
    refine bodyPost_ret (v := .agg #[.bool v0, .slice (ifS v0 ⟨A0, n0, c0⟩).A (ifS v0 ⟨A0, n0, c0⟩).n (ifS v0 ⟨A0, n0, c0⟩).c, .bool v1, .slice (ifS v1 ⟨A1, n1, c1⟩).A (ifS v1 ⟨A1, n1, c1⟩).n (ifS v1 ⟨A1, n1, c1⟩).c, .bool v2, .slice (ifS v2 ⟨A2, n2, c2⟩).A (ifS v2 ⟨A2, n2, c2⟩).n (ifS v2 ⟨A2, n2, c2⟩).c]) (by simp [results, Try.results21, go_sem, e0, e1, e2, e3, e4, e5]) rfl ?_
    have hz := Hz.out
    exact ⟨rfl, below_s6 (HB.out.trans (HBc.out.mono HB.out.size)) (by omega) ..⟩
end Go.Proofs.Ytchoipmfngcdoaa.Mg
namespace Go.Proofs.Ytchoipmfngcdoaa.Mg
open Go.RowKit Go.Proofs.Ytchoipmfngcdoaa.Pt Go.Proofs.Ytchoipmfngcdoaa.Df Go.Proofs.Ytchoipmfngcdoaa.Sc Go.Proofs.Ytchoipmfngcdoaa.Cl
set_option maxRecDepth 100000

/-- The room is v now; nothing else that was there is another one. -/
structure RoomP (w w' : World) (g : Nat) (v : Int) : Prop where
  cell : w'.heap[g]? = some (.cells #[.int .i64 v] 85 (0, 0))
  grown : w.grownBy w' (some g)
theorem RoomP.trans {w w1 w2 : World} {g : Nat} {v u : Int} (h : RoomP w w1 g v) (h2 : RoomP w1 w2 g u) : RoomP w w2 g u := ⟨h2.cell, h.grown.trans h2.grown⟩
theorem RoomP.alloc {w w2 : World} {g : Nat} {u : Int} {o : Obj} (h2 : RoomP (w.alloc o) w2 g u) : RoomP w w2 g u := ⟨h2.cell, (World.grownBy_alloc w o _).trans h2.grown⟩
theorem RoomP.keepB {w w1 : World} {g B : Nat} {v : Int} (h : RoomP w w1 g v) (hB : B ≤ g) (hg : g < w.heap.size) : ∀ p : Addr, p.block < B → w1.cell? p = w.cell? p := fun p hp => World.cell?_of_block (h.grown.block p.block (by omega) (fun e => by injection e with e; omega))
theorem RoomP.cellAt {w w1 : World} {g q : Nat} {v : Int} {u : Value} (h : RoomP w w1 g v) (hq : q ≠ g) (hc : w.cell? ⟨q, 0, none⟩ = some u) : w1.cell? ⟨q, 0, none⟩ = some u :=
  h.grown.cell hc (fun e => by injection e with e; exact hq e)
theorem room_lt {w : World} {g : Nat} {v : Int} (h : w.heap[g]? = some (.cells #[.int .i64 v] 85 (0, 0))) : g < w.heap.size := (Array.getElem?_eq_some_iff.1 h).1
theorem size_dropk : ∀ (t : Tr) (k : Nat), k ≤ t.len → (t.dropT k).size + k ≤ t.size
  | t, 0, _ => by rw [dropT_zero]; exact Nat.le_refl _
  | .nil, k + 1, h => by simp [Tr.len] at h
  | .cons _ _ r, k + 1, h => by
    simp only [Tr.len] at h
    have := size_dropk r k (by omega)
    simp only [Tr.dropT, Tr.size]
    omega
/-- How deep edges stand. -/
def dep : Tr → Nat
  | .nil => 0
  | .cons _ k r => max (dep k + 1) (dep r)
theorem dep_drop : ∀ {t : Tr} {k : Nat} {s : ByteArray} {kt r : Tr}, t.dropT k = .cons s kt r → dep kt + 1 ≤ dep t
  | t, 0, s, kt, r, h => by
    rw [dropT_zero] at h
    subst h
    exact Nat.le_max_left _ _
  | .nil, k + 1, s, kt, r, h => by rw [drop_len .nil (k + 1) (by simp [Tr.len])] at h; cases h
  | .cons _ _ r', k + 1, s, kt, r, h => by
    simp only [Tr.dropT] at h
    exact Nat.le_trans (dep_drop h) (Nat.le_max_right _ _)
def HoldsOK (N : Nat) : Prop := ∀ (t : Tr) (A : Option Addr) (n c B g : Nat) (V D : Int) (w : World), t.size < N → D + dep t ≤ 13 → 1 ≤ D → Holds w B A n t → B ≤ g → w.heap[g]? = some (.cells #[.int .i64 V] 85 (0, 0)) → (t.size : Int) ≤ V → V ≤ 100000 →
  Calls Try.prog 30 #[.pointer (some ⟨g, 0, none⟩), .slice A n c, .int .i64 D] w fun e w' => e = .returned (.bool true) ∧ RoomP w w' g (V - t.size)

set_option maxHeartbeats 1000000 in
theorem holds1_any (N : Nat) (IH : HoldsOK N) (t : Tr) (s : ByteArray) (A : Option Addr) (n c B g g2 g3 : Nat) (V D : Int) (w : World) (hN : t.size < N) (hD : D + 1 + dep t ≤ 13) (hD1 : 1 ≤ D) (h : Holds w B A n t) (hB : B ≤ g) (hr : w.heap[g]? = some (.cells #[.int .i64 V] 85 (0, 0))) (hV : (t.size : Int) ≤ V) (hV2 : V ≤ 100000)
    (hg2 : w.cell? ⟨g2, 0, none⟩ = some (.pointer (some ⟨g, 0, none⟩))) (hg3 : w.cell? ⟨g3, 0, none⟩ = some (.int .i64 D)) :
    Calls Try.prog 37 #[.agg #[.string s, .slice A n c], .pointer (some ⟨g2, 0, none⟩), .pointer (some ⟨g3, 0, none⟩)] w fun e w' => e = .returned (.bool false) ∧ RoomP w w' g (V - t.size) := by
  have hgs : g2 < w.heap.size := World.block_lt_of_cell? w ⟨g2, 0, none⟩ hg2
  have hgs3 : g3 < w.heap.size := World.block_lt_of_cell? w ⟨g3, 0, none⟩ hg3
  have hgl := room_lt hr
  obtain ⟨W1, hW1⟩ : ∃ W, W = w.alloc (Obj.cells #[Value.string s, Value.slice A n c] 51) := ⟨_, rfl⟩
  have hb1 : Below w.heap.size w W1 := by rw [hW1]; exact (Below.refl _ _).alloc (Nat.le_refl _) _
  have hg1 : W1.heap[w.heap.size]? = some (Obj.cells #[Value.string s, Value.slice A n c] 51) := by rw [hW1]; exact heap_alloc_new w _
  have q1 : W1.cell? ⟨w.heap.size, 1, none⟩ = some (.slice A n c) := by rw [cell_of_row _ _ _ _ _ _ hg1]; rfl
  have q2 := (hb1.cell (p := ⟨g2, 0, none⟩) hgs).trans hg2
  have q3 := (hb1.cell (p := ⟨g3, 0, none⟩) hgs3).trans hg3
  have hDw : IntKind.i64.wrap (D + 1) = D + 1 := by rw [IntKind.wrap_i64]; omega
  have HC := Lib.hid (IH t A n c B g V (D + 1) W1 hN hD (by omega) (h.keep fun p hp => hb1.cell (by omega)) hB ((hb1.block g hgl).trans hr) hV hV2)
  have HW := Lib.hid hW1
  clear hg1 hb1 h hr IH hN
  go_enter Try.func37, Try.ntmps37
  go_wp2_with fail
  rw [← hW1]
  go_wp2_with fail
  (with_reducible refine HC.out.mono ?_)
  rintro e w2 ⟨rfl, h2⟩
  have H2 := Lib.hid (show RoomP w w2 g (V - t.size) from by rw [HW.out] at h2; exact h2.alloc)
  clear h2
  go_wp2_with fail
  go_ret
  exact ⟨rfl, H2.out⟩

def RoomI (w wr : World) (g : Nat) (V : Int) (t : Tr) (k : Nat) (v : Int) : Prop := RoomP w wr g v ∧ v = V - ((t.size : Int) - (t.dropT k).size - k)
set_option maxHeartbeats 1000000 in
theorem idxh_any (N : Nat) (IH : HoldsOK N) (t : Tr) (A : Option Addr) (n c B g g2 g3 : Nat) (V D : Int) (w : World) (hN : t.size < N + 1) (hD : D + dep t ≤ 13) (hD1 : 1 ≤ D) (hz : t.size ≤ 100000) (h : Holds w B A n t) (hB : B ≤ g) (hr : w.heap[g]? = some (.cells #[.int .i64 V] 85 (0, 0))) (hV : (t.size : Int) - n ≤ V) (hV2 : V ≤ 100000)
    (hg2 : w.cell? ⟨g2, 0, none⟩ = some (.pointer (some ⟨g, 0, none⟩))) (hne : g2 ≠ g) (hg3 : w.cell? ⟨g3, 0, none⟩ = some (.int .i64 D)) (hne3 : g3 ≠ g) :
    Calls Try.prog 49 #[.slice A n c, .func (.func 37) #[] #[.pointer (some ⟨g2, 0, none⟩), .pointer (some ⟨g3, 0, none⟩)]] w fun e w' => e = .returned (.int .i64 (-1)) ∧ RoomP w w' g (V - ((t.size : Int) - n)) := by
  have hgl := room_lt hr
  have Hl := Lib.hid h.len
  have hls := t.len_size
  have hnb : n ≤ 200000 := by have := Hl.out; omega
  have HH := Lib.hid h
  have Hg2 := Lib.hid hg2
  have Hg3 := Lib.hid hg3
  have H0 := Lib.hid (show RoomI w w g V t 0 V from ⟨⟨hr, ⟨rfl, rfl, rfl, Nat.le_refl _, fun _ _ _ => rfl⟩⟩, by rw [dropT_zero]; omega⟩)
  have Hls := Lib.hid hls
  clear h hg2 hg3 hr hls
  go_enter Try.func49, Try.ntmps49
  go_wp2_with fail
  go_loopw [8] (fun i wr => ∃ (k : Nat) (v : Int), k ≤ n ∧ i = .int .i64 k ∧ Hid (RoomI w wr g V t k v)) (fun i _ => n - (intOf i).toNat)
  case atStart => exact ⟨0, V, Nat.zero_le _, rfl, H0⟩
  case round =>
    obtain ⟨k, v, hk, rfl, HI⟩ := hrel
    by_cases hlt : k < n
    · have hkeep := HI.out.1.keepB hB hgl
      obtain ⟨b, o, s, kt, r, A', n', c', rfl, hb2, hs2, hc2, hn', hc', hk', hrr, hd, hd2⟩ := (HH.out.keep hkeep).split k hlt
      have hrl := hrr.len
      have hrz := r.len_size
      have hsz : (t.dropT k).size = kt.size + r.size + 1 := by rw [hd]; rfl
      have hv := HI.out.2
      have hle := size_dropk t k (by rw [← Hl.out]; exact hk)
      have hkn : (k : Int) < (n : Int) := by omega
      have hk0 : (0 : Int) ≤ (k : Int) := by omega
      have hcap : n ≤ t.size := by have := Hls.out; have := Hl.out; omega
      have HC := Lib.hid (holds1_any N IH kt s A' n' c' B g g2 g3 v D wr (by omega) (by have := dep_drop hd; omega) hD1 hk' hB HI.out.1.cell (by omega) (by omega) (HI.out.1.cellAt hne Hg2.out) (HI.out.1.cellAt hne3 Hg3.out))
      have HV := Lib.hid (show v - (kt.size : Int) = V - ((t.size : Int) - (t.dropT (k + 1)).size - ((k + 1 : Nat) : Int)) by rw [hd2]; omega)
      have Hlt := Lib.hid hlt
      clear hd hd2 hk' hrr hlt hrl hrz hsz hv hle hkeep hcap
      go_wp2_with fail
      (with_reducible refine HC.out.mono ?_)
      rintro e w2 ⟨rfl, h2⟩
      have HI2 := Lib.hid (show RoomI w w2 g V t (k + 1) (v - kt.size) from ⟨HI.out.1.trans h2, HV.out⟩)
      clear h2
      go_wp2_with fail
      go_roundw
      case rel => exact ⟨k + 1, _, Hlt.out, by go_num, HI2⟩
      case measure => have := Hlt.out; simp [intOf]; omega
    · obtain rfl : k = n := by omega
      have HP := Lib.hid (show RoomP w wr g (V - ((t.size : Int) - k)) from by
        have h1 := HI.out.2
        rw [drop_len t k (by rw [Hl.out]; exact Nat.le_refl _)] at h1
        have e : v = V - ((t.size : Int) - k) := by rw [h1]; simp [Tr.size]
        rw [← e]
        exact HI.out.1)
      clear hlt
      go_wp2_with fail
      go_ret
      exact ⟨rfl, HP.out⟩

set_option maxHeartbeats 1000000 in
theorem conth_any (N : Nat) (IH : HoldsOK N) (t : Tr) (A : Option Addr) (n c B g g2 g3 : Nat) (V D : Int) (w : World) (hN : t.size < N + 1) (hD : D + dep t ≤ 13) (hD1 : 1 ≤ D) (hz : t.size ≤ 100000) (h : Holds w B A n t) (hB : B ≤ g) (hr : w.heap[g]? = some (.cells #[.int .i64 V] 85 (0, 0))) (hV : (t.size : Int) - n ≤ V) (hV2 : V ≤ 100000)
    (hg2 : w.cell? ⟨g2, 0, none⟩ = some (.pointer (some ⟨g, 0, none⟩))) (hne : g2 ≠ g) (hg3 : w.cell? ⟨g3, 0, none⟩ = some (.int .i64 D)) (hne3 : g3 ≠ g) :
    Calls Try.prog 36 #[.slice A n c, .func (.func 37) #[] #[.pointer (some ⟨g2, 0, none⟩), .pointer (some ⟨g3, 0, none⟩)]] w fun e w' => e = .returned (.bool false) ∧ RoomP w w' g (V - ((t.size : Int) - n)) := by
  have HC := Lib.hid (idxh_any N IH t A n c B g g2 g3 V D w hN hD hD1 hz h hB hr hV hV2 hg2 hne hg3 hne3)
  clear IH hN h hr hV hV2 hg2 hg3 hD hD1
  go_enter Try.func36, Try.ntmps36
  go_wp2_with fail
  (with_reducible refine HC.out.mono ?_)
  rintro e w2 ⟨rfl, h2⟩
  have H2 := Lib.hid h2
  clear h2
  go_wp2_with fail
  go_ret
  exact ⟨rfl, H2.out⟩

set_option maxHeartbeats 2000000 in
theorem holds_any : ∀ N : Nat, HoldsOK N := by
  intro N
  induction N with
  | zero => intro t A n c B g V D w hN; omega
  | succ N IH =>
    intro t A n c B g V D w hN hD hD1 h hB hr hV hV2
    have hl := h.len
    have hls := t.len_size
    have hgl := room_lt hr
    have hnV : (n : Int) ≤ V := by omega
    have q4 : w.cell? ⟨g, 0, none⟩ = some (.int .i64 V) := by rw [cell_of_row _ _ _ _ _ _ hr]; rfl
    have q5 : w.frozen? ⟨g, 0, none⟩ = false := by simp [World.frozen?, hr]
    obtain ⟨W1, hW1⟩ : ∃ W, W = w.setCell ⟨g, 0, none⟩ (.int .i64 (V - n)) := ⟨_, rfl⟩
    have hs1 : W1.heap.size = w.heap.size := by rw [hW1]; simp [World.setCell]
    have hr1 : W1.heap[g]? = some (.cells #[.int .i64 (V - n)] 85 (0, 0)) := by
      rw [hW1, heap_setCell_same w g 0 _ _ _ hr]
      rfl
    obtain ⟨W2, hW2, hb2, hz2, g1, g2⟩ := boxes2 W1 [.pointer (some ⟨g, 0, none⟩)] [.int .i64 D] 90 3
    rw [hs1] at g1 g2
    have hr2 : W2.heap[g]? = some (.cells #[.int .i64 (V - n)] 85 (0, 0)) := (hb2.block g (by omega)).trans hr1
    have p1 : W2.cell? ⟨w.heap.size, 0, none⟩ = some (.pointer (some ⟨g, 0, none⟩)) := g1.cells 0
    have p3 : W2.cell? ⟨w.heap.size + 1, 0, none⟩ = some (.int .i64 D) := g2.cells 0
    have hgr : w.grownBy W2 (some g) := by
      refine ⟨?_, ?_, ?_, by omega, fun k hk hkg => ?_⟩
      · rw [hb2.os, hW1]; rfl
      · rw [hb2.tape, hW1]; rfl
      · rw [hb2.output, hW1]; rfl
      · rw [hb2.block k (by omega), hW1]
        exact Below.heap_setCell _ _ _ k (fun e => hkg (by rw [e]))
    have HC := Lib.hid (conth_any N IH t A n c B g w.heap.size (w.heap.size + 1) (V - n) D W2 hN hD hD1 (by omega) (h.keep fun p hp => World.cell?_of_block (hgr.block p.block (by omega) (fun e => by injection e with e; omega))) hB hr2 (by omega) (by omega) p1 (by omega) p3 (by omega))
    have HG := Lib.hid hgr
    have hnb : n ≤ 100000 := by omega
    have hv0 : (0 : Int) ≤ V - n := by omega
    have hvd : (V - (n : Int)) - ((t.size : Int) - n) = V - t.size := by omega
    rw [hvd] at HC
    have hV0 : 0 ≤ V := by omega
    have p2 : W2.cell? ⟨g, 0, none⟩ = some (.int .i64 (V - n)) := by rw [cell_of_row _ _ _ _ _ _ hr2]; rfl
    have hd12 : 0 < n → D ≤ 12 := fun hn => by
      cases t with
      | nil => simp [Tr.len] at hl; omega
      | cons s k r => have : dep k + 1 ≤ dep (.cons s k r) := Nat.le_max_left _ _; omega
    clear h hr hr1 hr2 hgr hl hls hvd IH hN hV hs1 hb2 g1 g2 hz2
    by_cases hn0 : n = 0
    · subst hn0
      clear hd12
      go_enter Try.func30, Try.ntmps30
      have e0 : V - ((0 : Nat) : Int) = V := by simp
      rw [e0] at hW1 p2
      go_wp2_with fail
      rw [← hW1, ← hW2]
      (with_reducible refine HC.out.mono ?_)
      rintro e w3 ⟨rfl, h3⟩
      have H3 := Lib.hid (show RoomP w w3 g (V - t.size) from ⟨h3.cell, HG.out.trans h3.grown⟩)
      clear h3
      go_wp2_with fail
      go_ret
      exact ⟨rfl, H3.out⟩
    · have hd12 := hd12 (by omega)
      have hn1 : (0 : Int) < n := by omega
      go_enter Try.func30, Try.ntmps30
      go_wp2_with fail
      rw [← hW1, ← hW2]
      go_wp2_with fail
      (with_reducible refine HC.out.mono ?_)
      rintro e w3 ⟨rfl, h3⟩
      have H3 := Lib.hid (show RoomP w w3 g (V - t.size) from ⟨h3.cell, HG.out.trans h3.grown⟩)
      clear h3
      go_wp2_with fail
      go_ret
      exact ⟨rfl, H3.out⟩
end Go.Proofs.Ytchoipmfngcdoaa.Mg
namespace Go.Proofs.Ytchoipmfngcdoaa.Mg
open Go.RowKit Go.Proofs.Ytchoipmfngcdoaa.Pt Go.Proofs.Ytchoipmfngcdoaa.Df Go.Proofs.Ytchoipmfngcdoaa.Sc Go.Proofs.Ytchoipmfngcdoaa.Cl
set_option maxRecDepth 100000

structure Bd (x : Op) : Prop where
  size : x.t.size ≤ 1200
  dep : dep x.t ≤ 12
set_option maxHeartbeats 1000000 in
theorem bounded_any (x : Op) (A : Option Addr) (n c : Nat) (w : World) (h : OpB w w.heap.size A n c x) (hx : Bd x) :
    Calls Try.prog 24 #[.agg #[.bool x.is, .slice A n c]] w fun e w' => e = .returned (.bool true) ∧ Below w.heap.size w w' := by
  obtain ⟨W2, hW2, hb, hz, g1, g2⟩ := boxes2 w [.bool x.is, .slice A n c] [.int .i64 1200] 61 85
  obtain ⟨c1, c2⟩ := g1.c2
  have hs := hx.size
  have hd := hx.dep
  have HC := Lib.hid (holds_any (x.t.size + 1) x.t A n c w.heap.size (w.heap.size + 1) 1200 1 W2 (Nat.lt_succ_self _) (by omega) (by omega) (h.below hb).hold (by omega) g2 (by omega) (by omega))
  have HB := Lib.hid hb
  clear h hb g1 g2 hs hd hx
  go_enter Try.func24, Try.ntmps24
  go_wp2_with fail
  rw [← hW2]
  (with_reducible refine HC.out.mono ?_)
  rintro e w2 ⟨rfl, h2⟩
  have H2 := Lib.hid (HB.out.grown h2.grown HB.out.size (fun q e => by injection e with e; omega))
  clear h2
  go_wp2_with fail
  go_ret
  exact ⟨rfl, H2.out⟩

set_option maxHeartbeats 4000000 in
theorem eachb3_any (o a b : Op) (so sa sb : Sl) (w : World) (h : Pl3 w w.heap.size o a b so sa sb) (ho : Bd o) (ha : Bd a) (hb_ : Bd b) :
    Calls Try.prog 23 #[o3v o a b so sa sb, .func (.func 24) #[] #[]] w fun e w' => e = .returned (.agg #[.bool true, .bool true, .bool true]) ∧ Below w.heap.size w w' := by
  obtain ⟨W2, hW2, hb, hz, g1, g2⟩ := boxes2 w [.bool o.is, .slice so.A so.n so.c, .bool a.is, .slice sa.A sa.n sa.c, .bool b.is, .slice sb.A sb.n sb.c] [.bool false, .bool false, .bool false] 63 69
  have HL := Lib.hid (fun (W : World) (hW : Below W2.heap.size W2 W) => Bx.c6 (g1.below hW (by omega)))
  have Ho := Lib.hid (fun (W : World) (hW : Below W2.heap.size W2 W) => bounded_any o so.A so.n so.c W ((((h.ho).below hb).below (hW.mono hb.size)).toB fun _ hp => Nat.lt_of_lt_of_le hp (Nat.le_trans hb.size hW.size)) ho)
  have Ha := Lib.hid (fun (W : World) (hW : Below W2.heap.size W2 W) => bounded_any a sa.A sa.n sa.c W ((((h.ha).below hb).below (hW.mono hb.size)).toB fun _ hp => Nat.lt_of_lt_of_le hp (Nat.le_trans hb.size hW.size)) ha)
  have Hb := Lib.hid (fun (W : World) (hW : Below W2.heap.size W2 W) => bounded_any b sb.A sb.n sb.c W ((((h.hb).below hb).below (hW.mono hb.size)).toB fun _ hp => Nat.lt_of_lt_of_le hp (Nat.le_trans hb.size hW.size)) hb_)
  have HB := Lib.hid hb
  have Hz := Lib.hid hz
  have HG := Lib.hid g2
  clear hb hz g1 g2 h ho ha hb_
  obtain ⟨oi, ot⟩ := o
  obtain ⟨ai, at_⟩ := a
  obtain ⟨bi, bt⟩ := b
  obtain ⟨oA, on, oc⟩ := so
  obtain ⟨aA, an, ac⟩ := sa
  obtain ⟨bA, bn, bc⟩ := sb
  simp only at HL Ho Ha Hb
  have HP2 := Lib.hid (fun (W V : World) (hW : Below W2.heap.size W2 W) (hv : ∀ b o, b ≠ w.heap.size + 1 → V.cell? ⟨b, o, none⟩ = W.cell? ⟨b, o, none⟩) => (show V.cell? ⟨w.heap.size, 0, none⟩ = some (.bool oi) ∧ V.cell? ⟨w.heap.size, 1, none⟩ = some (.slice oA on oc) ∧ V.cell? ⟨w.heap.size, 2, none⟩ = some (.bool ai) ∧ V.cell? ⟨w.heap.size, 3, none⟩ = some (.slice aA an ac) ∧ V.cell? ⟨w.heap.size, 4, none⟩ = some (.bool bi) ∧ V.cell? ⟨w.heap.size, 5, none⟩ = some (.slice bA bn bc) from by
    obtain ⟨l0, l1, l2, l3, l4, l5⟩ := HL.out W hW
    have h0 : w.heap.size ≠ w.heap.size + 1 := by omega
    exact ⟨(hv _ _ h0).trans l0, (hv _ _ h0).trans l1, (hv _ _ h0).trans l2, (hv _ _ h0).trans l3, (hv _ _ h0).trans l4, (hv _ _ h0).trans l5⟩))
  have HP := Lib.hid (fun (W : World) (hW : Below W2.heap.size W2 W) => HP2.out W W hW (fun _ _ _ => rfl))
  have HBc := Lib.hid (Below.refl W2.heap.size W2).drew
  have hgl := HG.out.lt
  clear HL
  go_enter Try.func23, Try.ntmps23
  go_wp2_with fail
  rw [← hW2]
  clear hW2
  go_upto_region 1 with (fail)
  go_region_held3 (fun W => W.cell? ⟨w.heap.size, 0, none⟩ = some (.bool oi) ∧ W.cell? ⟨w.heap.size, 1, none⟩ = some (.slice oA on oc) ∧ W.cell? ⟨w.heap.size, 2, none⟩ = some (.bool ai) ∧ W.cell? ⟨w.heap.size, 3, none⟩ = some (.slice aA an ac) ∧ W.cell? ⟨w.heap.size, 4, none⟩ = some (.bool bi) ∧ W.cell? ⟨w.heap.size, 5, none⟩ = some (.slice bA bn bc))
    (first | with_reducible exact HP.out _ HBc.out | with_reducible exact HP2.out _ _ HBc.out (fun b o hb => keep_s3 _ _ _ _ b o hb))
    ((go_at_call 24; (first | (with_reducible refine (Ho.out _ HBc.out).mono ?_) | (with_reducible refine (Ha.out _ HBc.out).mono ?_) | (with_reducible refine (Hb.out _ HBc.out).mono ?_)); rintro e w3 ⟨rfl, hb3⟩; have HBc := Lib.hid (show Below W2.heap.size W2 w3 from HBc.out.trans (hb3.mono HBc.out.size)); have g3 := HG.out.below HBc.out HG.out.lt; obtain ⟨d0, d1, d2⟩ := g3.c3; obtain ⟨z0, z1, z2⟩ := g3.f3; have HG3 := Lib.hid g3; clear hb3 g3))
  all_goals
    go_wp2_with fail
    obtain ⟨e0, e1, e2⟩ := (HG3.out.s3 (.bool true) (.bool true) (.bool true)).c3
    refine bodyPost_ret (v := .agg #[.bool true, .bool true, .bool true]) (by simp [results, Try.results23, go_sem, e0, e1, e2]) rfl ?_
    have hz := Hz.out
    exact ⟨rfl, below_s3 (HB.out.trans (HBc.out.mono HB.out.size)) (by omega) ..⟩
end Go.Proofs.Ytchoipmfngcdoaa.Mg
namespace Go.Proofs.Ytchoipmfngcdoaa.Mg
open Go.RowKit Go.Proofs.Ytchoipmfngcdoaa.Pt Go.Proofs.Ytchoipmfngcdoaa.Df Go.Proofs.Ytchoipmfngcdoaa.Sc Go.Proofs.Ytchoipmfngcdoaa.Cl
set_option maxRecDepth 100000

def MergeP (w : World) (m : Mo) (e : Ending) (w' : World) : Prop :=
  ∃ s1 s2 s3 s4 : Sl, e = .returned (.tuple #[.agg #[.bool m.o.is, .slice s1.A s1.n s1.c], .agg #[.bool m.a.is, .slice s2.A s2.n s2.c], .agg #[.bool m.b.is, .slice s3.A s3.n s3.c], .slice s4.A s4.n s4.c]) ∧ OpN3 w w' m.o m.a m.b s1 s2 s3 ∧ CfP w' (fun b => w.heap.size ≤ b ∧ b < w'.heap.size) s4 m.l ∧ Below w.heap.size w w'
theorem ifS_op {w : World} {B : Nat} {s : Sl} {x : Op} (hx : OpK x) (h : OpB w B s.A s.n s.c x) : OpB w B (ifS x.is s).A (ifS x.is s).n (ifS x.is s).c x := by
  unfold ifS
  split
  · exact h
  · rename_i hi
    have hn := hx.nil (by simpa using hi)
    exact ⟨by rw [hn]; rfl, Nat.le_refl _, Nat.zero_le _⟩

theorem Mv.s2 (w : World) {g : Nat} (b0 b1 : Value) : Mv w (st2 w g b0 b1) (fun k => k = g) :=
  ((Mv.set1 w g 0 b0).trans (Mv.set1 _ g 1 b1)).weak fun _ _ e => e.elim id id
/-- Three stores, one behind the other. -/
theorem stores3 {W9 : World} {g8 g9 g10 : Nat} {T : TypeId} {x0 x1 x2 x3 x4 x5 y0 y1 y2 y3 y4 y5 : Value} (h8 : Bx W9 g8 [x0, x1] T) (h9 : Bx W9 g9 [x2, x3] T) (h10 : Bx W9 g10 [x4, x5] T) (n1 : g8 ≠ g9) (n2 : g8 ≠ g10) (n3 : g9 ≠ g10) :
    Bx (st2 (st2 (st2 W9 g8 y0 y1) g9 y2 y3) g10 y4 y5) g8 [y0, y1] T ∧ Bx (st2 (st2 (st2 W9 g8 y0 y1) g9 y2 y3) g10 y4 y5) g9 [y2, y3] T ∧ Bx (st2 (st2 (st2 W9 g8 y0 y1) g9 y2 y3) g10 y4 y5) g10 [y4, y5] T :=
  have a1 := h8.s2 y0 y1
  have b1 := (Mv.s2 W9 (g := g8) y0 y1).bx h9 (Ne.symm n1)
  have c1 := (Mv.s2 W9 (g := g8) y0 y1).bx h10 (Ne.symm n2)
  have a2 := (Mv.s2 (st2 W9 g8 y0 y1) (g := g9) y2 y3).bx a1 n1
  have b2 := b1.s2 y2 y3
  have c2 := (Mv.s2 (st2 W9 g8 y0 y1) (g := g9) y2 y3).bx c1 (Ne.symm n3)
  have a3 := (Mv.s2 (st2 (st2 W9 g8 y0 y1) g9 y2 y3) (g := g10) y4 y5).bx a2 n2
  have b3 := (Mv.s2 (st2 (st2 W9 g8 y0 y1) g9 y2 y3) (g := g10) y4 y5).bx b2 n3
  have c3 := c2.s2 y4 y5
  ⟨a3, b3, c3⟩
theorem Bx.drew {w : World} {g : Nat} {vs : List Value} {T : TypeId} (h : Bx w g vs T) : Bx w.drew g vs T := h
/-- Trees and conflicts stay through the stores. -/
theorem merge_fin {w W7 W9 : World} {m : Mo} {s1 s2 s3 s4 : Sl} {g8 g9 g10 : Nat} (hw : Below w.heap.size w W9) (h7 : w.heap.size ≤ W7.heap.size) (hn : OpN3 W7 W9 m.o m.a m.b s1 s2 s3) (hc : CfP W9 (fun b => W7.heap.size ≤ b ∧ b < W9.heap.size) s4 m.l) (k8 : g8 < W7.heap.size) (k9 : g9 < W7.heap.size) (k10 : g10 < W7.heap.size) (l8 : w.heap.size ≤ g8) (l9 : w.heap.size ≤ g9) (l10 : w.heap.size ≤ g10) (y0 y1 y2 y3 y4 y5 : Value) :
    MergeP w m (.returned (.tuple #[.agg #[.bool m.o.is, .slice s1.A s1.n s1.c], .agg #[.bool m.a.is, .slice s2.A s2.n s2.c], .agg #[.bool m.b.is, .slice s3.A s3.n s3.c], .slice s4.A s4.n s4.c])) (st2 (st2 (st2 W9 g8 y0 y1) g9 y2 y3) g10 y4 y5).drew := by
  have dr : ∀ (V : World) (p : Addr), V.drew.cell? p = V.cell? p := fun _ _ => rfl
  have hv : ∀ b o, (W7.heap.size ≤ b ∧ b < W9.heap.size) → (st2 (st2 (st2 W9 g8 y0 y1) g9 y2 y3) g10 y4 y5).drew.cell? ⟨b, o, none⟩ = W9.cell? ⟨b, o, none⟩ := fun b o hb => (dr _ _).trans ((keep_s2 (st2 (st2 W9 g8 y0 y1) g9 y2 y3) y4 y5 b o (by omega)).trans ((keep_s2 (st2 W9 g8 y0 y1) y2 y3 b o (by omega)).trans (keep_s2 W9 y0 y1 b o (by omega))))
  have hs : (st2 (st2 (st2 W9 g8 y0 y1) g9 y2 y3) g10 y4 y5).drew.heap.size = W9.heap.size := by simp [World.drew]
  have one : ∀ {x : Op} {s : Sl}, OpN W7 W9 s.A s.n s.c x → OpP (st2 (st2 (st2 W9 g8 y0 y1) g9 y2 y3) g10 y4 y5).drew (fun b => w.heap.size ≤ b ∧ b < (st2 (st2 (st2 W9 g8 y0 y1) g9 y2 y3) g10 y4 y5).drew.heap.size) s.A s.n s.c x := fun h => OpP.more (OpP.keep h hv) fun b hb => ⟨Nat.le_trans h7 hb.1, by rw [hs]; exact hb.2⟩
  have hb3 : Below w.heap.size w (st2 (st2 (st2 W9 g8 y0 y1) g9 y2 y3) g10 y4 y5) := below_s2 (below_s2 (below_s2 hw l8 y0 y1) l9 y2 y3) l10 y4 y5
  exact ⟨s1, s2, s3, s4, rfl, ⟨one hn.1, one hn.2.1, one hn.2.2⟩, CfP.more (CfP.keep hc hv) fun b hb => ⟨Nat.le_trans h7 hb.1, by rw [hs]; exact hb.2⟩, hb3.drew⟩

set_option maxHeartbeats 8000000 in
theorem merge_any (sc : List Df) (S : Sl) (o a b : Op) (so sa sb : Sl) (w : World) (h : Pl3 w w.heap.size o a b so sa sb) (hk : K3 o a b) (ho : Bd o) (ha : Bd a) (hb_ : Bd b) (hS : Ds w w.heap.size S.A S.n sc) (hSn : S.n ≤ 1000000) (hfit : FitS sc) :
    Calls Try.prog 8 #[.slice S.A S.n S.c, .agg #[.bool o.is, .slice so.A so.n so.c], .agg #[.bool a.is, .slice sa.A sa.n sa.c], .agg #[.bool b.is, .slice sb.A sb.n sb.c]] w (MergeP w (mrg sc (sz3 o a b + 1) 0 [] o a b)) := by
  obtain ⟨W1, hW1, hb1, hz1, g1, g2⟩ := boxes2 w [.bool o.is, .slice so.A so.n so.c] [.bool a.is, .slice sa.A sa.n sa.c] 26 26
  obtain ⟨W2, hW2, hb2, hz2, g3, g4⟩ := boxes2 W1 [.bool b.is, .slice sb.A sb.n sb.c] [.bool false, .slice none 0 0] 26 26
  obtain ⟨W3, hW3, hb3, hz3, g5, g6⟩ := boxes2 W2 [.bool false, .slice none 0 0] [.bool false, .slice none 0 0] 26 26
  have hz1' : W1.heap.size = w.heap.size + 1 + 1 := by omega
  have hz2' : W2.heap.size = w.heap.size + 1 + 1 + 1 + 1 := by omega
  rw [hz1'] at g3 g4
  rw [hz2'] at g5 g6
  have hb12 := hb1.trans (hb2.mono hb1.size)
  have hb13 := hb12.trans (hb3.mono hb12.size)
  have g1 := (g1.below hb2 (by omega)).below hb3 (by omega)
  have g2 := (g2.below hb2 (by omega)).below hb3 (by omega)
  have g3 := g3.below hb3 (by omega)
  have g4 := g4.below hb3 (by omega)
  have hz : W3.heap.size = w.heap.size + 6 := by omega
  obtain ⟨a0, a1⟩ := g1.c2
  obtain ⟨a2, a3⟩ := g2.c2
  obtain ⟨a4, a5⟩ := g3.c2
  have HE := Lib.hid (eachr_any o.is a.is b.is so.A sa.A sb.A so.n so.c sa.n sa.c sb.n sb.c W3)
  have hP : ∀ W, Below w.heap.size w W → Pl3 W W.heap.size o a b (ifS o.is so) (ifS a.is sa) (ifS b.is sb) := fun W hW => by
    have h' := (h.below hW).more hW.size
    exact ⟨ifS_op hk.o h'.ho, ifS_op hk.a h'.ha, ifS_op hk.b h'.hb⟩
  have HBd := Lib.hid (fun (W : World) (hW : Below w.heap.size w W) => eachb3_any o a b (ifS o.is so) (ifS a.is sa) (ifS b.is sb) W (hP W hW) ho ha hb_)
  have hszs : sz3 o a b ≤ 3600 := by have := ho.size; have := ha.size; have := hb_.size; unfold sz3; omega
  have HM := Lib.hid (fun (W : World) (hW : Below w.heap.size w W) => merged_any sc (sz3 o a b + 1) (by omega) S nil4 0 [] (fun _ => False) o a b (ifS o.is so) (ifS a.is sa) (ifS b.is sb) W ⟨hP W hW, hk, (hS.below hW).more hW.size, hSn, hfit, ⟨rfl, fun j u hu => by simp at hu⟩, fun _ e => e.elim, by simp; omega, Nat.lt_succ_self _⟩)
  obtain ⟨m, hm⟩ : ∃ m, m = mrg sc (sz3 o a b + 1) 0 [] o a b := ⟨_, rfl⟩
  rw [← hm] at HM ⊢
  obtain ⟨so', hso⟩ : ∃ s, s = ifS o.is so := ⟨_, rfl⟩
  obtain ⟨sa', hsa⟩ : ∃ s, s = ifS a.is sa := ⟨_, rfl⟩
  obtain ⟨sb', hsb⟩ : ∃ s, s = ifS b.is sb := ⟨_, rfl⟩
  rw [← hso, ← hsa, ← hsb] at HM HBd
  rw [show (⟨so.A, so.n, so.c⟩ : Sl) = so from rfl, show (⟨sa.A, sa.n, sa.c⟩ : Sl) = sa from rfl, show (⟨sb.A, sb.n, sb.c⟩ : Sl) = sb from rfl, ← hso, ← hsa, ← hsb] at HE
  have HB3 := Lib.hid hb13
  have Hz := Lib.hid hz
  have HR8 := Lib.hid g4
  have HR9 := Lib.hid g5
  have HR10 := Lib.hid g6
  clear h hk ho ha hb_ hS hSn hfit hb1 hb2 hb3 hb12 hb13 hz1 hz2 hz3 hz hz1' hz2' g1 g2 g3 g4 g5 g6 hP hszs hm hso hsa hsb
  go_enter Try.func8, Try.ntmps8
  go_wp2_with fail
  rw [← hW1, ← hW2, ← hW3]
  (with_reducible refine HE.out.mono ?_)
  rintro e w4 ⟨rfl, hb4⟩
  have HB4 := Lib.hid (HB3.out.trans (hb4.mono HB3.out.size))
  have H4 := Lib.hid hb4
  obtain ⟨W5, hW5, hb5, hz5, g7⟩ := box1 w4 [.bool o.is, .slice so'.A so'.n so'.c, .bool a.is, .slice sa'.A sa'.n sa'.c, .bool b.is, .slice sb'.A sb'.n sb'.c] 63
  have HB5 := Lib.hid (HB4.out.trans (hb5.mono HB4.out.size))
  have H5 := Lib.hid hb5
  have HC := Lib.hid (HBd.out W5 HB5.out)
  obtain ⟨b0, b1, b2, b3, b4, b5⟩ := g7.c6
  have HG7 := Lib.hid g7
  clear hb4 hb5 hz5 g7 a0 a1 a2 a3 a4 a5 hW1 hW2 hW3
  go_wp2_with fail
  rw [← hW5]
  (with_reducible refine HC.out.mono ?_)
  rintro e w6 ⟨rfl, hb6⟩
  have H6 := Lib.hid hb6
  obtain ⟨W7, hW7, hb7, hz7, g8⟩ := box1 w6 [.bool true, .bool true, .bool true] 69
  have h67 : Below W5.heap.size W5 W7 := H6.out.trans (hb7.mono H6.out.size)
  have HB7 := Lib.hid (HB5.out.trans (h67.mono HB5.out.size))
  have H57 := Lib.hid h67
  have HM7 := Lib.hid (HM.out W7 HB7.out)
  have hg7 := HG7.out.below h67 HG7.out.lt
  have hgl7 : w4.heap.size < w6.heap.size := Nat.lt_of_lt_of_le HG7.out.lt H6.out.size
  obtain ⟨b0, b1, b2, b3, b4, b5⟩ := hg7.c6
  obtain ⟨c0', c1', c2', c3', c4', c5'⟩ := (HG7.out.below H6.out HG7.out.lt).c6
  clear hb6 hb7 hz7 g8 h67 hg7 hW5
  go_wp2_with fail
  rw [← hW7]
  (with_reducible refine HM7.out.mono ?_)
  rintro e w8 ⟨s1, s2, s3, s4, rfl, h1, h2, h3, hb8⟩
  have H8 := Lib.hid hb8
  have G1 := Lib.hid h1
  have G2 := Lib.hid h2
  obtain ⟨W9, hW9, hb9, hz9, g9⟩ := box1 w8 [.bool m.o.is, .slice s1.A s1.n s1.c, .bool m.a.is, .slice s2.A s2.n s2.c, .bool m.b.is, .slice s3.A s3.n s3.c, .slice s4.A s4.n s4.c] 73
  have h39 : Below W3.heap.size W3 W9 := (H4.out.trans (H5.out.mono H4.out.size)).trans ((H57.out.trans ((H8.out.trans (hb9.mono H8.out.size)).mono H57.out.size)).mono (H4.out.trans (H5.out.mono H4.out.size)).size)
  have HB9 := Lib.hid (HB3.out.trans (h39.mono HB3.out.size))
  have H79 := Lib.hid (H8.out.trans (hb9.mono H8.out.size))
  have H9 := Lib.hid hb9
  have r8 := HR8.out.below h39 HR8.out.lt
  have r9 := HR9.out.below h39 HR9.out.lt
  have r10 := HR10.out.below h39 HR10.out.lt
  have hl9 := g9.lt
  obtain ⟨x0, x1⟩ := r8.c2
  obtain ⟨x2, x3⟩ := r9.c2
  obtain ⟨x4, x5⟩ := r10.c2
  obtain ⟨z0, z1⟩ := r8.f2
  obtain ⟨z2, z3⟩ := r9.f2
  obtain ⟨z4, z5⟩ := r10.f2
  have hcs : ∀ W : World, (∀ j, W.cell? ⟨w8.heap.size, j, none⟩ = W9.cell? ⟨w8.heap.size, j, none⟩) → W.cell? ⟨w8.heap.size, 0, none⟩ = some (.bool m.o.is) ∧ W.cell? ⟨w8.heap.size, 1, none⟩ = some (.slice s1.A s1.n s1.c) ∧ W.cell? ⟨w8.heap.size, 2, none⟩ = some (.bool m.a.is) ∧ W.cell? ⟨w8.heap.size, 3, none⟩ = some (.slice s2.A s2.n s2.c) ∧ W.cell? ⟨w8.heap.size, 4, none⟩ = some (.bool m.b.is) ∧ W.cell? ⟨w8.heap.size, 5, none⟩ = some (.slice s3.A s3.n s3.c) ∧ W.cell? ⟨w8.heap.size, 6, none⟩ = some (.slice s4.A s4.n s4.c) := fun W hW => ⟨(hW 0).trans (g9.cells 0), (hW 1).trans (g9.cells 1), (hW 2).trans (g9.cells 2), (hW 3).trans (g9.cells 3), (hW 4).trans (g9.cells 4), (hW 5).trans (g9.cells 5), (hW 6).trans (g9.cells 6)⟩
  have HCS := Lib.hid hcs
  clear h1 h2 h3 hb8 hb9 hz9 h39 hcs b0 b1 b2 b3 b4 b5 c0' c1' c2' c3' c4' c5' hW7
  go_upto_region 6 with (fail)
  try rw [← hW9]
  clear hW9
  have h8s : W3.heap.size ≤ w8.heap.size := by
    have e1 := (H4.out.trans (H5.out.mono H4.out.size)).size
    have e2 := H57.out.size
    have e3 := H8.out.size
    omega
  have hzz := Hz.out
  have far : ∀ (V : World) (g k j : Nat) (v : Value), g < W3.heap.size → (V.setCell ⟨g, k, none⟩ v).cell? ⟨w8.heap.size, j, none⟩ = V.cell? ⟨w8.heap.size, j, none⟩ := fun V g k j v hg => World.cell?_setCell_far _ _ _ _ (by simp only [ne_eq]; omega)
  have f8 : ∀ (V : World) (k j : Nat) (v : Value), (V.setCell ⟨w.heap.size + 1 + 1 + 1, k, none⟩ v).cell? ⟨w8.heap.size, j, none⟩ = V.cell? ⟨w8.heap.size, j, none⟩ := fun V k j v => far V _ k j v (by omega)
  have f9 : ∀ (V : World) (k j : Nat) (v : Value), (V.setCell ⟨w.heap.size + 1 + 1 + 1 + 1, k, none⟩ v).cell? ⟨w8.heap.size, j, none⟩ = V.cell? ⟨w8.heap.size, j, none⟩ := fun V k j v => far V _ k j v (by omega)
  have f10 : ∀ (V : World) (k j : Nat) (v : Value), (V.setCell ⟨w.heap.size + 1 + 1 + 1 + 1 + 1, k, none⟩ v).cell? ⟨w8.heap.size, j, none⟩ = V.cell? ⟨w8.heap.size, j, none⟩ := fun V k j v => far V _ k j v (by omega)
  have FD := Lib.hid (show ∀ (V : World) (p : Addr), V.drew.cell? p = V.cell? p from fun _ _ => rfl)
  have F8 := Lib.hid f8
  have F9 := Lib.hid f9
  have F10 := Lib.hid f10
  have H8s := Lib.hid h8s
  have R8 := Lib.hid r8
  have R9 := Lib.hid r9
  have R10 := Lib.hid r10
  have G9 := Lib.hid g9
  clear far f8 f9 f10 h8s hzz r8 r9 r10 g9
  go_region_held3 (fun W => W.cell? ⟨w8.heap.size, 0, none⟩ = some (.bool m.o.is) ∧ W.cell? ⟨w8.heap.size, 1, none⟩ = some (.slice s1.A s1.n s1.c) ∧ W.cell? ⟨w8.heap.size, 2, none⟩ = some (.bool m.a.is) ∧ W.cell? ⟨w8.heap.size, 3, none⟩ = some (.slice s2.A s2.n s2.c) ∧ W.cell? ⟨w8.heap.size, 4, none⟩ = some (.bool m.b.is) ∧ W.cell? ⟨w8.heap.size, 5, none⟩ = some (.slice s3.A s3.n s3.c) ∧ W.cell? ⟨w8.heap.size, 6, none⟩ = some (.slice s4.A s4.n s4.c))
    ((refine HCS.out _ (fun j => ?_); (try simp only [FD.out, F8.out, F9.out, F10.out]); (try rfl)))
    (fail)
  all_goals
    go_wp2_with fail
    have hzz := Hz.out
    obtain ⟨v8, v9, v10⟩ := stores3 (y0 := .bool m.o.is) (y1 := .slice s1.A s1.n s1.c) (y2 := .bool m.a.is) (y3 := .slice s2.A s2.n s2.c) (y4 := .bool m.b.is) (y5 := .slice s3.A s3.n s3.c) R8.out R9.out R10.out (by omega) (by omega) (by omega)
    obtain ⟨e0, e1⟩ := v8.drew.c2
    obtain ⟨e2, e3⟩ := v9.drew.c2
    obtain ⟨e4, e5⟩ := v10.drew.c2
    refine bodyPost_ret (v := .tuple #[.agg #[.bool m.o.is, .slice s1.A s1.n s1.c], .agg #[.bool m.a.is, .slice s2.A s2.n s2.c], .agg #[.bool m.b.is, .slice s3.A s3.n s3.c], .slice s4.A s4.n s4.c]) (by simp [results, Try.results8, go_sem, e0, e1, e2, e3, e4, e5]) rfl ?_
    have h7 : W3.heap.size ≤ W7.heap.size := by
      have e1 := (H4.out.trans (H5.out.mono H4.out.size)).size
      have e2 := H57.out.size
      omega
    have h9s := H9.out.size
    exact merge_fin (W7 := W7) HB9.out (by omega) (OpN3.grow (w1 := W7) G1.out (Nat.le_refl _) H9.out) ((G2.out.keep fun b o hb => H9.out.cell (p := ⟨b, o, none⟩) (hb.elim (fun e => e.elim) fun e => e.2)).more fun b hb => hb.elim (fun e => e.elim) fun e => ⟨e.1, by omega⟩) (by omega) (by omega) (by omega) (by omega) (by omega) (by omega) ..
end Go.Proofs.Ytchoipmfngcdoaa.Mg
namespace Go.Proofs.Ytchoipmfngcdoaa.Mg
open Go.RowKit Go.Proofs.Ytchoipmfngcdoaa.Pt Go.Proofs.Ytchoipmfngcdoaa.Df Go.Proofs.Ytchoipmfngcdoaa.Sc Go.Proofs.Ytchoipmfngcdoaa.Cl
set_option maxRecDepth 100000

theorem op_ext {x y : Op} (hx : AscD x.t) (hy : AscD y.t) (hi : x.is = y.is) (h : ∀ s, x.below s = y.below s) : x = y := by
  have ht : x.t = y.t := ext_at hx.asc hy.asc (fun s => congrArg Op.is (h s)) (fun s _ => congrArg Op.t (h s))
  obtain ⟨xi, xt⟩ := x
  obtain ⟨yi, yt⟩ := y
  simp only at hi ht
  rw [hi, ht]
/-- One side is the old one: the other one is what comes. -/
theorem mrg_old {S : List Df} {N : Nat} {d : Int} {p : List ByteArray} {o a b x : Op} (h : (a = o ∧ x = b) ∨ (b = o ∧ x = a)) : mrg S (N + 1) d p o a b = ⟨x, x, x, []⟩ := by
  rw [mrg_eq]
  by_cases h1 : a.same b = true
  · rw [if_pos h1]
    have e := op_same h1
    subst e
    rcases h with ⟨_, rfl⟩ | ⟨_, rfl⟩ <;> rfl
  · rw [if_neg h1]
    rcases h with ⟨rfl, rfl⟩ | ⟨rfl, rfl⟩
    · rw [if_pos (op_refl _)]
    · have h2 : ¬ x.same b = true := h1
      rw [if_neg h2, if_pos (op_refl _)]
theorem mrg_apart {S : List Df} {N : Nat} {d : Int} {p : List ByteArray} {o a b c : Op} (hk : K3 o a b) (hc : AscD c.t) (hi : c.is = true) (ha : a.is = true) (hb : b.is = true) (hl : ∀ t, lvl S d t = true)
    (h : ∀ s, (a.below s = o.below s ∧ c.below s = b.below s) ∨ (b.below s = o.below s ∧ c.below s = a.below s)) : mrg S (N + 1 + 1) d p o a b = ⟨c, c, c, []⟩ := by
  rw [mrg_eq]
  by_cases h1 : a.same b = true
  · rw [if_pos h1]
    have e := op_same h1
    have : c = a := op_ext hc hk.a.asc (by rw [hi, ha]) fun s => by
      rcases h s with ⟨_, h2⟩ | ⟨_, h2⟩
      · rw [h2, e]
      · exact h2
    rw [this]
  · rw [if_neg h1]
    by_cases h2 : a.same o = true
    · rw [if_pos h2]
      have e := op_same h2
      have : c = b := op_ext hc hk.b.asc (by rw [hi, hb]) fun s => by
        rcases h s with ⟨_, h3⟩ | ⟨h3, h4⟩
        · exact h3
        · rw [h4, h3, e]
      rw [this]
    · rw [if_neg h2]
      by_cases h3 : b.same o = true
      · rw [if_pos h3]
        have e := op_same h3
        have : c = a := op_ext hc hk.a.asc (by rw [hi, ha]) fun s => by
          rcases h s with ⟨h3, h4⟩ | ⟨_, h4⟩
          · rw [h4, h3, e]
          · exact h4
        rw [this]
      · rw [if_neg h3, if_neg (by rw [ha, hb]; decide), byN, if_pos (by rw [hl, hl]; rfl)]
        have hs : ∀ s, sub S (N + 1) d p o a b s = ⟨c.below s, c.below s, c.below s, []⟩ := fun s => mrg_old ((h s).imp (fun h => h) fun h => h)
        have he : ∀ {f : ByteArray → Op}, (∀ s, f s = c.below s) → edgesOf f (nsU o.t a.t b.t) = c.t := fun {f} hf => by
          refine edges_eq (fun s hn => ?_) (fun s => ?_) (nsU_pair _ _ _) hc.asc (fun s _ => by rw [hf s]; exact ⟨rfl, rfl⟩) fun s hcs => ?_
          · rw [hf s] at hn ⊢
            exact kidT_not hn
          · rw [hf s]
            exact kidT_asc hc
          · refine (mem_nsU hk.o.asc.asc hk.a.asc.asc hk.b.asc.asc).2 ?_
            rcases h s with ⟨_, h4⟩ | ⟨_, h4⟩
            · exact .inr (.inr ((congrArg Op.is h4).symm.trans hcs))
            · exact .inr (.inl ((congrArg Op.is h4).symm.trans hcs))
        have hf : ((nsU o.t a.t b.t).flatMap fun s => (sub S (N + 1) d p o a b s).l) = [] := by
          rw [List.flatMap_eq_nil_iff]
          intro s _
          rw [hs s]
        rw [hf, he (f := fun s => (sub S (N + 1) d p o a b s).o) fun s => by rw [hs s], he (f := fun s => (sub S (N + 1) d p o a b s).a) fun s => by rw [hs s], he (f := fun s => (sub S (N + 1) d p o a b s).b) fun s => by rw [hs s]]
        obtain ⟨ci, ct⟩ := c
        simp only at hi
        rw [hi]
end Go.Proofs.Ytchoipmfngcdoaa.Mg
namespace Go.Proofs.Ytchoipmfngcdoaa.Mg
open Go.RowKit Go.Proofs.Ytchoipmfngcdoaa.Pt Go.Proofs.Ytchoipmfngcdoaa.Df Go.Proofs.Ytchoipmfngcdoaa.Sc Go.Proofs.Ytchoipmfngcdoaa.Cl
set_option maxRecDepth 100000

theorem flat_one {α : Type} {f : ByteArray → List α} {k : ByteArray} : ∀ {l : List ByteArray}, l.Nodup → k ∈ l → (∀ s ∈ l, s ≠ k → f s = []) → l.flatMap f = f k
  | [], _, hk, _ => by simp at hk
  | x :: l, hn, hk, h => by
    rw [List.nodup_cons] at hn
    rw [List.flatMap_cons]
    by_cases e : x = k
    · subst e
      have : l.flatMap f = [] := List.flatMap_eq_nil_iff.2 fun s hs => h s (List.mem_cons_of_mem _ hs) fun e => hn.1 (e ▸ hs)
      rw [this, List.append_nil]
    · rw [h x List.mem_cons_self e, List.nil_append]
      exact flat_one hn.2 ((List.mem_cons.1 hk).resolve_left fun e2 => e e2.symm) fun s hs => h s (List.mem_cons_of_mem _ hs)
/-- Edges that are a tree's. -/
theorem edges_op {f : ByteArray → Op} {o a b c : Op} (hk : K3 o a b) (hc : AscD c.t) (hf : ∀ s ∈ nsU o.t a.t b.t, f s = c.below s) (hn : ∀ s, (f s).is = false → (f s).t = .nil) (ha : ∀ s, AscD (f s).t) (hm : ∀ s, c.t.atIs s = true → o.t.atIs s = true ∨ a.t.atIs s = true ∨ b.t.atIs s = true) : edgesOf f (nsU o.t a.t b.t) = c.t :=
  edges_eq hn ha (nsU_pair _ _ _) hc.asc (fun s hs => by rw [hf s hs]; exact ⟨rfl, rfl⟩) fun s hs => (mem_nsU hk.o.asc.asc hk.a.asc.asc hk.b.asc.asc).2 (hm s hs)
theorem edges_all {f : ByteArray → Op} {o a b c : Op} (hk : K3 o a b) (hc : AscD c.t) (hf : ∀ s, f s = c.below s) (hm : ∀ s, c.t.atIs s = true → o.t.atIs s = true ∨ a.t.atIs s = true ∨ b.t.atIs s = true) : edgesOf f (nsU o.t a.t b.t) = c.t :=
  edges_op hk hc (fun s _ => hf s) (fun s hn => by rw [hf s] at hn ⊢; exact kidT_not hn) (fun s => by rw [hf s]; exact kidT_asc hc) hm
theorem mrg_names {S : List Df} {N : Nat} {d : Int} {p : List ByteArray} {o a b : Op} (hk : K3 o a b) (ha : a.is = true) (hb : b.is = true) (hl : ∀ t, lvl S d t = true) :
    mrg S (N + 1 + 1) d p o a b = ⟨⟨true, edgesOf (fun s => (sub S (N + 1) d p o a b s).o) (nsU o.t a.t b.t)⟩, ⟨true, edgesOf (fun s => (sub S (N + 1) d p o a b s).a) (nsU o.t a.t b.t)⟩, ⟨true, edgesOf (fun s => (sub S (N + 1) d p o a b s).b) (nsU o.t a.t b.t)⟩, (nsU o.t a.t b.t).flatMap fun s => (sub S (N + 1) d p o a b s).l⟩ := by
  have fin : ∀ {c : Op}, AscD c.t → c.is = true → (∀ s, sub S (N + 1) d p o a b s = ⟨c.below s, c.below s, c.below s, []⟩) → (∀ s, c.t.atIs s = true → o.t.atIs s = true ∨ a.t.atIs s = true ∨ b.t.atIs s = true) →
      (⟨c, c, c, []⟩ : Mo) = ⟨⟨true, edgesOf (fun s => (sub S (N + 1) d p o a b s).o) (nsU o.t a.t b.t)⟩, ⟨true, edgesOf (fun s => (sub S (N + 1) d p o a b s).a) (nsU o.t a.t b.t)⟩, ⟨true, edgesOf (fun s => (sub S (N + 1) d p o a b s).b) (nsU o.t a.t b.t)⟩, (nsU o.t a.t b.t).flatMap fun s => (sub S (N + 1) d p o a b s).l⟩ := fun {c} hc hi hs hm => by
    have hf : ((nsU o.t a.t b.t).flatMap fun s => (sub S (N + 1) d p o a b s).l) = [] := List.flatMap_eq_nil_iff.2 fun s _ => by rw [hs s]
    rw [hf, edges_all (f := fun s => (sub S (N + 1) d p o a b s).o) hk hc (fun s => by rw [hs s]) hm, edges_all (f := fun s => (sub S (N + 1) d p o a b s).a) hk hc (fun s => by rw [hs s]) hm, edges_all (f := fun s => (sub S (N + 1) d p o a b s).b) hk hc (fun s => by rw [hs s]) hm]
    obtain ⟨ci, ct⟩ := c
    simp only at hi
    rw [hi]
  rw [mrg_eq]
  by_cases h1 : a.same b = true
  · rw [if_pos h1]
    have e := op_same h1
    exact fin hk.a.asc ha (fun s => by
      unfold sub
      rw [mrg_eq, if_pos (by rw [e]; exact op_refl _)]) fun s h => .inr (.inl h)
  · rw [if_neg h1]
    by_cases h2 : a.same o = true
    · rw [if_pos h2]
      have e := op_same h2
      exact fin hk.b.asc hb (fun s => mrg_old (.inl ⟨by rw [e], rfl⟩)) fun s h => .inr (.inr h)
    · rw [if_neg h2]
      by_cases h3 : b.same o = true
      · rw [if_pos h3]
        have e := op_same h3
        exact fin hk.a.asc ha (fun s => mrg_old (.inr ⟨by rw [e], rfl⟩)) fun s h => .inr (.inl h)
      · rw [if_neg h3, if_neg (by rw [ha, hb]; decide), byN, if_pos (by rw [hl, hl]; rfl)]
/-- What one side took away, and the other one changed. -/
theorem mrg_took {S : List Df} {N : Nat} {d : Int} {p : List ByteArray} {o a b : Op} (h1 : a ≠ b) (h2 : a ≠ o) (h3 : b ≠ o) (h4 : (a.is && b.is) = false) : mrg S (N + 1) d p o a b = ⟨o, a, b, [(p, kGone)]⟩ := by
  rw [mrg_eq, if_neg fun h => h1 (op_same h), if_neg fun h => h2 (op_same h), if_neg fun h => h3 (op_same h), if_pos h4]
/-- All stay, and it is told at one edge. -/
theorem mrg_one {S : List Df} {N : Nat} {d : Int} {p : List ByteArray} {o a b : Op} {k : ByteArray} {kd : Int} (hk : K3 o a b) (ho : o.is = true) (ha : a.is = true) (hb : b.is = true) (hl : ∀ t, lvl S d t = true) (hko : o.t.atIs k = true)
    (hsub : sub S (N + 1) d p o a b k = ⟨o.below k, a.below k, b.below k, [(p ++ [k], kd)]⟩) (h : ∀ s, s ≠ k → a.below s = o.below s ∧ b.below s = o.below s) : mrg S (N + 1 + 1) d p o a b = ⟨o, a, b, [(p ++ [k], kd)]⟩ := by
  have hs : ∀ s, s ≠ k → sub S (N + 1) d p o a b s = ⟨o.below s, a.below s, b.below s, []⟩ := fun s e => by
    obtain ⟨e1, e2⟩ := h s e
    rw [e1, e2]
    exact mrg_old (.inl ⟨e1, e2.symm⟩)
  have all : ∀ s, (sub S (N + 1) d p o a b s).o = o.below s ∧ (sub S (N + 1) d p o a b s).a = a.below s ∧ (sub S (N + 1) d p o a b s).b = b.below s := fun s => by
    by_cases e : s = k
    · rw [e, hsub]; exact ⟨rfl, rfl, rfl⟩
    · rw [hs s e]; exact ⟨rfl, rfl, rfl⟩
  have hf : ((nsU o.t a.t b.t).flatMap fun s => (sub S (N + 1) d p o a b s).l) = [(p ++ [k], kd)] := by
    rw [flat_one (k := k) (nsU_nodup _ _ _) ((mem_nsU hk.o.asc.asc hk.a.asc.asc hk.b.asc.asc).2 (.inl hko)) fun s _ e => by rw [hs s e], hsub]
  rw [mrg_names hk ha hb hl, hf, edges_all (f := fun s => (sub S (N + 1) d p o a b s).o) hk hk.o.asc (fun s => (all s).1) fun s h => .inl h, edges_all (f := fun s => (sub S (N + 1) d p o a b s).a) hk hk.a.asc (fun s => (all s).2.1) fun s h => .inr (.inl h), edges_all (f := fun s => (sub S (N + 1) d p o a b s).b) hk hk.b.asc (fun s => (all s).2.2) fun s h => .inr (.inr h)]
  obtain ⟨oi, ot⟩ := o
  obtain ⟨ai, at_⟩ := a
  obtain ⟨bi, bt⟩ := b
  simp only at ho ha hb
  rw [ho, ha, hb]
end Go.Proofs.Ytchoipmfngcdoaa.Mg
namespace Go.Proofs.Ytchoipmfngcdoaa.Mg
open Go.RowKit Go.Proofs.Ytchoipmfngcdoaa.Pt Go.Proofs.Ytchoipmfngcdoaa.Df Go.Proofs.Ytchoipmfngcdoaa.Sc Go.Proofs.Ytchoipmfngcdoaa.Cl
set_option maxRecDepth 100000

theorem tail_at {k s : ByteArray} {t r : Tr} (h : AscD (.cons k t r)) (hs : s ≠ k) : (Tr.cons k t r).atIs s = r.atIs s ∧ kidT (.cons k t r) s = kidT r s := by
  rcases cases3 k s with c1 | ⟨_, c2⟩ | ⟨c1, c2, c3⟩
  · rw [Pt.atIs_lt c1, kidT_lt c1]; exact ⟨rfl, rfl⟩
  · exact absurd (names_of_eq c2).symm hs
  · have hno : r.atIs s = false := by
      cases e : r.atIs s with
      | false => rfl
      | true =>
        have h1 := h.asc
        unfold Tr.Asc at h1
        rw [bn_cons, List.pairwise_cons] at h1
        have h2 := h1.1 s.data.toList (List.mem_map_of_mem (is_mem e))
        exact absurd (List.lt_trans h2 ((less_iff s k).1 c3)) (List.lt_irrefl _)
    rw [atIs_ge c1, c2, kidT_gt c1 c2, hno, kidT_not hno]
    exact ⟨rfl, rfl⟩
theorem head_at (k : ByteArray) (t r : Tr) : (Tr.cons k t r).atIs k = true ∧ kidT (.cons k t r) k = t := head_is k t r
theorem below_tail {k s : ByteArray} {t r : Tr} {v : Bool} (h : AscD (.cons k t r)) (hs : s ≠ k) : (Op.mk v (.cons k t r)).below s = (Op.mk v r).below s := by
  obtain ⟨h1, h2⟩ := tail_at h hs
  simp only [Op.below, h1, h2]
theorem below_head (k : ByteArray) (t r : Tr) (v : Bool) : (Op.mk v (.cons k t r)).below k = ⟨true, t⟩ := by
  obtain ⟨h1, h2⟩ := head_at k t r
  simp only [Op.below, h1, h2]
theorem below_no {k : ByteArray} {r : Tr} {v : Bool} (h : r.atIs k = false) : (Op.mk v r).below k = ⟨false, .nil⟩ := by
  simp only [Op.below, h, kidT_not h]
/-- One side has no k, the other one has another k. -/
theorem mrg_gone {S : List Df} {N : Nat} {d : Int} {p : List ByteArray} {k : ByteArray} {old now r : Tr} (left : Bool) (ho : OpK ⟨true, .cons k old r⟩) (hn : OpK ⟨true, .cons k now r⟩) (hr : OpK ⟨true, r⟩) (hk : r.atIs k = false) (hl : ∀ t, lvl S d t = true) (hne : old ≠ now) :
    mrg S (N + 1 + 1) d p ⟨true, .cons k old r⟩ (if left = true then ⟨true, .cons k now r⟩ else ⟨true, r⟩) (if left = true then ⟨true, r⟩ else ⟨true, .cons k now r⟩) =
      ⟨⟨true, .cons k old r⟩, if left = true then ⟨true, .cons k now r⟩ else ⟨true, r⟩, if left = true then ⟨true, r⟩ else ⟨true, .cons k now r⟩, [(p ++ [k], kGone)]⟩ := by
  have e0 : (Op.mk true (.cons k old r)).below k = ⟨true, old⟩ := below_head k old r true
  have e1 : (Op.mk true (.cons k now r)).below k = ⟨true, now⟩ := below_head k now r true
  have e2 : (Op.mk true r).below k = ⟨false, .nil⟩ := below_no hk
  have n1 : (⟨true, now⟩ : Op) ≠ ⟨true, old⟩ := fun e => hne (by injection e with _ e; exact e.symm)
  have hs : ∀ s, s ≠ k → (Op.mk true (.cons k now r)).below s = (Op.mk true (.cons k old r)).below s ∧ (Op.mk true r).below s = (Op.mk true (.cons k old r)).below s := fun s h => by
    rw [below_tail ho.asc h, below_tail hn.asc h]
    exact ⟨rfl, rfl⟩
  cases left with
  | true =>
    refine mrg_one ⟨ho, hn, hr⟩ rfl rfl rfl hl (head_at k old r).1 ?_ hs
    unfold sub
    simp only [if_true, e0, e1, e2]
    exact mrg_took (fun e => by injection e with e _; cases e) n1 (fun e => by injection e with e _; cases e) rfl
  | false =>
    refine mrg_one ⟨ho, hr, hn⟩ rfl rfl rfl hl (head_at k old r).1 ?_ fun s h => ⟨(hs s h).2, (hs s h).1⟩
    unfold sub
    simp only [Bool.false_eq_true, if_false, e0, e1, e2]
    exact mrg_took (fun e => by injection e with e _; cases e) (fun e => by injection e with e _; cases e) n1 rfl
end Go.Proofs.Ytchoipmfngcdoaa.Mg
namespace Go.Proofs.Ytchoipmfngcdoaa.Mg
open Go.RowKit Go.Proofs.Ytchoipmfngcdoaa.Pt Go.Proofs.Ytchoipmfngcdoaa.Df Go.Proofs.Ytchoipmfngcdoaa.Sc Go.Proofs.Ytchoipmfngcdoaa.Cl
set_option maxRecDepth 100000

theorem two_le {α : Type} {u v : α} (h : u ≠ v) : ∀ {l : List α}, u ∈ l → v ∈ l → 2 ≤ l.length
  | [], hu, _ => by simp at hu
  | [x], hu, hv => by
    rw [List.mem_singleton] at hu hv
    exact absurd (hu.trans hv.symm) h
  | _ :: _ :: _, _, _ => by simp
theorem mrg_a_nil {S : List Df} : ∀ {N : Nat} {d : Int} {p : List ByteArray} {o a b : Op}, K3 o a b → (mrg S N d p o a b).a.is = false → (mrg S N d p o a b).a.t = .nil
  | 0, _, _, _, _, _, hk, h => hk.a.nil h
  | N + 1, d, p, o, a, b, hk, h => by
    rw [mrg_eq] at h ⊢
    split at h
    · rename_i h1; rw [if_pos h1]; exact hk.a.nil h
    · rename_i h1
      rw [if_neg h1]
      split at h
      · rename_i h2; rw [if_pos h2]; exact hk.b.nil h
      · rename_i h2
        rw [if_neg h2]
        split at h
        · rename_i h3; rw [if_pos h3]; exact hk.a.nil h
        · rename_i h3
          rw [if_neg h3]
          split at h
          · rename_i h4; rw [if_pos h4]; exact hk.a.nil h
          · rename_i h4
            rw [if_neg h4]
            unfold byN at h ⊢
            split at h
            · cases h
            · rename_i h5; rw [if_neg h5]; exact hk.a.nil h
/-- Both sides have a value of their own. -/
theorem mrg_clash {S : List Df} {N : Nat} {d : Int} {p : List ByteArray} {o a b : Op} {u v : ByteArray} (hk : K3 o a b) (ha : a.is = true) (hb : b.is = true) (h1 : a ≠ b) (h2 : a ≠ o) (h3 : b ≠ o) (hl : ∀ t : Tr, 2 ≤ t.len → lvl S d t = false) (huv : u ≠ v)
    (hau : a.t.atIs u = true) (hbv : b.t.atIs v = true) (hbu : b.below u = o.below u) (hav : a.below v = o.below v) : mrg S (N + 1 + 1) d p o a b = ⟨o, a, b, [(p, kShape)]⟩ := by
  rw [mrg_eq, if_neg fun h => h1 (op_same h), if_neg fun h => h2 (op_same h), if_neg fun h => h3 (op_same h), if_neg (by rw [ha, hb]; decide)]
  unfold byN
  have hu : sub S (N + 1) d p o a b u = ⟨a.below u, a.below u, a.below u, []⟩ := mrg_old (.inr ⟨hbu, rfl⟩)
  have hv : sub S (N + 1) d p o a b v = ⟨b.below v, b.below v, b.below v, []⟩ := mrg_old (.inl ⟨hav, rfl⟩)
  have hn : ∀ s, (sub S (N + 1) d p o a b s).a.is = false → (sub S (N + 1) d p o a b s).a.t = .nil := fun s => mrg_a_nil ⟨hk.o.below s, hk.a.below s, hk.b.below s⟩
  have mu := (mem_nsU hk.o.asc.asc hk.a.asc.asc hk.b.asc.asc).2 (.inr (.inl hau))
  have mv := (mem_nsU hk.o.asc.asc hk.a.asc.asc hk.b.asc.asc).2 (.inr (.inr hbv))
  have eu := ((edges_at (f := fun s => (sub S (N + 1) d p o a b s).a) hn (nsU_pair o.t a.t b.t) u).1 mu).1
  have ev := ((edges_at (f := fun s => (sub S (N + 1) d p o a b s).a) hn (nsU_pair o.t a.t b.t) v).1 mv).1
  rw [hu] at eu
  rw [hv] at ev
  have e1 : (edgesOf (fun s => (sub S (N + 1) d p o a b s).a) (nsU o.t a.t b.t)).atIs u = true := eu.trans hau
  have e2 : (edgesOf (fun s => (sub S (N + 1) d p o a b s).a) (nsU o.t a.t b.t)).atIs v = true := ev.trans hbv
  have hlen := two_le huv (is_mem e1) (is_mem e2)
  rw [names_length] at hlen
  rw [if_neg (by rw [hl _ hlen, Bool.false_and]; decide)]
/-- A field of all names. -/
abbrev fAll (to : Int) : Fld := ⟨⟨true, []⟩, to, false⟩
abbrev wideS : List Df := [⟨[fAll 0], false, false⟩]
abbrev oneS : List Df := [⟨[fAll 1], false, false⟩, ⟨[fAll 2], true, false⟩, ⟨[], false, false⟩]
theorem wide_lvl (t : Tr) : lvl wideS 0 t = true := by
  simp [lvl, counts, toF, needs, Nm.St.mem]
theorem one_lvl (t : Tr) : lvl oneS 0 t = true := by
  simp [lvl, counts, toF, needs, Nm.St.mem]
theorem one_lvl1 (t : Tr) (h : 2 ≤ t.len) : lvl oneS 1 t = false := by
  have : ¬ t.len = 1 := by omega
  simp [lvl, counts, this]
theorem one_to (x : List UInt8) : toS oneS 0 x = 1 := by
  simp [toS, toF, Nm.St.mem]
theorem wide_to (x : List UInt8) : toS wideS 0 x = 0 := by
  simp [toS, toF, Nm.St.mem]
end Go.Proofs.Ytchoipmfngcdoaa.Mg
