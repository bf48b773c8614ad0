/- diff.bounded: that trees have no more edges than there is room for. Conditions: they have no more. -/
import Derived.Test.YtcfaocjgflefmaaDfTold
import Derived.Outline
namespace Go.Proofs.Ytcfaocjgflefmaa.Df
open Go.RowKit Go.Proofs.Ytcfaocjgflefmaa.Pt
set_option maxRecDepth 100000

/-- The room is v now; nothing else that was there is another one. -/
structure RoomP (w w' : World) (g : Nat) (v : Int) : Prop where
  cell : w'.heap[g]? = some (.cells #[.int .i64 v] 58 (0, 0))
  grown : w.grownBy w' (some g)
theorem RoomP.trans {w w1 w2 : World} {g : Nat} {v u : Int} (h : RoomP w w1 g v) (h2 : RoomP w1 w2 g u) : RoomP w w2 g u := ⟨h2.cell, h.grown.trans h2.grown⟩
theorem RoomP.alloc {w w2 : World} {g : Nat} {u : Int} {o : Obj} (h2 : RoomP (w.alloc o) w2 g u) : RoomP w w2 g u := ⟨h2.cell, (World.grownBy_alloc w o _).trans h2.grown⟩
theorem RoomP.keepB {w w1 : World} {g B : Nat} {v : Int} (h : RoomP w w1 g v) (hB : B ≤ g) (hg : g < w.heap.size) : ∀ p : Addr, p.block < B → w1.cell? p = w.cell? p := fun p hp => World.cell?_of_block (h.grown.block p.block (by omega) (fun e => by injection e with e; omega))
theorem RoomP.cellAt {w w1 : World} {g q : Nat} {v : Int} {u : Value} (h : RoomP w w1 g v) (hq : q ≠ g) (hc : w.cell? ⟨q, 0, none⟩ = some u) : w1.cell? ⟨q, 0, none⟩ = some u :=
  h.grown.cell hc (fun e => by injection e with e; exact hq e)
theorem room_lt {w : World} {g : Nat} {v : Int} (h : w.heap[g]? = some (.cells #[.int .i64 v] 58 (0, 0))) : g < w.heap.size := (Array.getElem?_eq_some_iff.1 h).1
theorem size_dropk : ∀ (t : Tr) (k : Nat), k ≤ t.len → (t.dropT k).size + k ≤ t.size
  | t, 0, _ => by rw [dropT_zero]; exact Nat.le_refl _
  | .nil, k + 1, h => by simp [Tr.len] at h
  | .cons _ _ r, k + 1, h => by
    simp only [Tr.len] at h
    have := size_dropk r k (by omega)
    simp only [Tr.dropT, Tr.size]
    omega
def HoldsOK (N : Nat) : Prop := ∀ (t : Tr) (A : Option Addr) (n c B g : Nat) (V : Int) (w : World), t.size < N → Holds w B A n t → B ≤ g → w.heap[g]? = some (.cells #[.int .i64 V] 58 (0, 0)) → (t.size : Int) ≤ V → V ≤ 100000 →
  Calls Try.prog 34 #[.pointer (some ⟨g, 0, none⟩), .slice A n c] w fun e w' => e = .returned (.bool true) ∧ RoomP w w' g (V - t.size)

set_option maxHeartbeats 1000000 in
theorem holds1_any (N : Nat) (IH : HoldsOK N) (t : Tr) (s : ByteArray) (A : Option Addr) (n c B g g2 : Nat) (V : Int) (w : World) (hN : t.size < N) (h : Holds w B A n t) (hB : B ≤ g) (hr : w.heap[g]? = some (.cells #[.int .i64 V] 58 (0, 0))) (hV : (t.size : Int) ≤ V) (hV2 : V ≤ 100000)
    (hg2 : w.cell? ⟨g2, 0, none⟩ = some (.pointer (some ⟨g, 0, none⟩))) :
    Calls Try.prog 41 #[.agg #[.string s, .slice A n c], .pointer (some ⟨g2, 0, none⟩)] w fun e w' => e = .returned (.bool false) ∧ RoomP w w' g (V - t.size) := by
  have hgs := block_lt hg2
  simp only at hgs
  have hgl := room_lt hr
  obtain ⟨W1, hW1⟩ : ∃ W, W = w.alloc (Obj.cells #[Value.string s, Value.slice A n c] 45) := ⟨_, rfl⟩
  have hb1 : Below w.heap.size w W1 := by rw [hW1]; exact (Below.refl _ _).alloc (Nat.le_refl _) _
  have hg1 : W1.heap[w.heap.size]? = some (Obj.cells #[Value.string s, Value.slice A n c] 45) := by rw [hW1]; exact heap_alloc_new w _
  have q1 : W1.cell? ⟨w.heap.size, 1, none⟩ = some (.slice A n c) := by rw [cell_of_row _ _ _ _ _ _ hg1]; rfl
  have q2 := (hb1.cell (p := ⟨g2, 0, none⟩) hgs).trans hg2
  have HC := Lib.hid (IH t A n c B g V W1 hN (h.keep fun p hp => hb1.cell (by omega)) hB ((hb1.block g hgl).trans hr) hV hV2)
  have HW := Lib.hid hW1
  clear hg1 hb1 h hr IH hN
  go_enter Try.func41, Try.ntmps41
  go_wp2_with fail
  rw [← hW1]
  go_wp2_with fail
  (with_reducible refine HC.out.mono ?_)
  rintro e w2 ⟨rfl, h2⟩
  have H2 := Lib.hid (show RoomP w w2 g (V - t.size) from by rw [HW.out] at h2; exact h2.alloc)
  clear h2
  go_wp2_with fail
  go_ret
  exact ⟨rfl, H2.out⟩

def RoomI (w wr : World) (g : Nat) (V : Int) (t : Tr) (k : Nat) (v : Int) : Prop := RoomP w wr g v ∧ v = V - ((t.size : Int) - (t.dropT k).size - k)
set_option maxHeartbeats 1000000 in
theorem idxh_any (N : Nat) (IH : HoldsOK N) (t : Tr) (A : Option Addr) (n c B g g2 : Nat) (V : Int) (w : World) (hN : t.size < N + 1) (hz : t.size ≤ 100000) (h : Holds w B A n t) (hB : B ≤ g) (hr : w.heap[g]? = some (.cells #[.int .i64 V] 58 (0, 0))) (hV : (t.size : Int) - n ≤ V) (hV2 : V ≤ 100000)
    (hg2 : w.cell? ⟨g2, 0, none⟩ = some (.pointer (some ⟨g, 0, none⟩))) (hne : g2 ≠ g) :
    Calls Try.prog 44 #[.slice A n c, .func (.func 41) #[] #[.pointer (some ⟨g2, 0, none⟩)]] w fun e w' => e = .returned (.int .i64 (-1)) ∧ RoomP w w' g (V - ((t.size : Int) - n)) := by
  have hgl := room_lt hr
  have Hl := Lib.hid h.len
  have hls := t.len_size
  have hnb : n ≤ 200000 := by have := Hl.out; omega
  have HH := Lib.hid h
  have Hg2 := Lib.hid hg2
  have H0 := Lib.hid (show RoomI w w g V t 0 V from ⟨⟨hr, ⟨rfl, rfl, rfl, Nat.le_refl _, fun _ _ _ => rfl⟩⟩, by rw [dropT_zero]; omega⟩)
  have Hls := Lib.hid hls
  clear h hg2 hr hls
  go_enter Try.func44, Try.ntmps44
  go_wp2_with fail
  go_loopw [8] (fun i wr => ∃ (k : Nat) (v : Int), k ≤ n ∧ i = .int .i64 k ∧ Hid (RoomI w wr g V t k v)) (fun i _ => n - (intOf i).toNat)
  case atStart => exact ⟨0, V, Nat.zero_le _, rfl, H0⟩
  case round =>
    obtain ⟨k, v, hk, rfl, HI⟩ := hrel
    by_cases hlt : k < n
    · have hkeep := HI.out.1.keepB hB hgl
      obtain ⟨b, o, s, kt, r, A', n', c', rfl, hb2, hs2, hc2, hn', hc', hk', hrr, hd, hd2⟩ := (HH.out.keep hkeep).split k hlt
      have hrl := hrr.len
      have hrz := r.len_size
      have hsz : (t.dropT k).size = kt.size + r.size + 1 := by rw [hd]; rfl
      have hv := HI.out.2
      have hle := size_dropk t k (by rw [← Hl.out]; exact hk)
      have hkn : (k : Int) < (n : Int) := by omega
      have hk0 : (0 : Int) ≤ (k : Int) := by omega
      have hcap : n ≤ t.size := by have := Hls.out; have := Hl.out; omega
      have HC := Lib.hid (holds1_any N IH kt s A' n' c' B g g2 v wr (by omega) hk' hB HI.out.1.cell (by omega) (by omega) (HI.out.1.cellAt hne Hg2.out))
      have HV := Lib.hid (show v - (kt.size : Int) = V - ((t.size : Int) - (t.dropT (k + 1)).size - ((k + 1 : Nat) : Int)) by rw [hd2]; omega)
      have Hlt := Lib.hid hlt
      clear hd hd2 hk' hrr hlt hrl hrz hsz hv hle hkeep hcap
      go_wp2_with fail
      (with_reducible refine HC.out.mono ?_)
      rintro e w2 ⟨rfl, h2⟩
      have HI2 := Lib.hid (show RoomI w w2 g V t (k + 1) (v - kt.size) from ⟨HI.out.1.trans h2, HV.out⟩)
      clear h2
      go_wp2_with fail
      go_roundw
      case rel => exact ⟨k + 1, _, Hlt.out, by go_num, HI2⟩
      case measure => have := Hlt.out; simp [intOf]; omega
    · obtain rfl : k = n := by omega
      have HP := Lib.hid (show RoomP w wr g (V - ((t.size : Int) - k)) from by
        have h1 := HI.out.2
        rw [drop_len t k (by rw [Hl.out]; exact Nat.le_refl _)] at h1
        have e : v = V - ((t.size : Int) - k) := by rw [h1]; simp [Tr.size]
        rw [← e]
        exact HI.out.1)
      clear hlt
      go_wp2_with fail
      go_ret
      exact ⟨rfl, HP.out⟩

set_option maxHeartbeats 1000000 in
theorem conth_any (N : Nat) (IH : HoldsOK N) (t : Tr) (A : Option Addr) (n c B g g2 : Nat) (V : Int) (w : World) (hN : t.size < N + 1) (hz : t.size ≤ 100000) (h : Holds w B A n t) (hB : B ≤ g) (hr : w.heap[g]? = some (.cells #[.int .i64 V] 58 (0, 0))) (hV : (t.size : Int) - n ≤ V) (hV2 : V ≤ 100000)
    (hg2 : w.cell? ⟨g2, 0, none⟩ = some (.pointer (some ⟨g, 0, none⟩))) (hne : g2 ≠ g) :
    Calls Try.prog 40 #[.slice A n c, .func (.func 41) #[] #[.pointer (some ⟨g2, 0, none⟩)]] w fun e w' => e = .returned (.bool false) ∧ RoomP w w' g (V - ((t.size : Int) - n)) := by
  have HC := Lib.hid (idxh_any N IH t A n c B g g2 V w hN hz h hB hr hV hV2 hg2 hne)
  clear IH hN h hr hV hV2 hg2
  go_enter Try.func40, Try.ntmps40
  go_wp2_with fail
  (with_reducible refine HC.out.mono ?_)
  rintro e w2 ⟨rfl, h2⟩
  have H2 := Lib.hid h2
  clear h2
  go_wp2_with fail
  go_ret
  exact ⟨rfl, H2.out⟩

set_option maxHeartbeats 1000000 in
theorem holds_any : ∀ N : Nat, HoldsOK N := by
  intro N
  induction N with
  | zero => intro t A n c B g V w hN; omega
  | succ N IH =>
    intro t A n c B g V w hN h hB hr hV hV2
    have hl := h.len
    have hls := t.len_size
    have hgl := room_lt hr
    have hnV : (n : Int) ≤ V := by omega
    have q4 : w.cell? ⟨g, 0, none⟩ = some (.int .i64 V) := by rw [cell_of_row _ _ _ _ _ _ hr]; rfl
    have q5 : w.frozen? ⟨g, 0, none⟩ = false := by simp [World.frozen?, hr]
    obtain ⟨W1, hW1⟩ : ∃ W, W = w.setCell ⟨g, 0, none⟩ (.int .i64 (V - n)) := ⟨_, rfl⟩
    have hs1 : W1.heap.size = w.heap.size := by rw [hW1]; simp [World.setCell]
    have hr1 : W1.heap[g]? = some (.cells #[.int .i64 (V - n)] 58 (0, 0)) := by
      rw [hW1, heap_setCell_same w g 0 _ _ _ hr]
      rfl
    obtain ⟨W2, hW2⟩ : ∃ W, W = W1.alloc (Obj.cells #[Value.pointer (some ⟨g, 0, none⟩)] 63) := ⟨_, rfl⟩
    have hr2 : W2.heap[g]? = some (.cells #[.int .i64 (V - n)] 58 (0, 0)) := by
      rw [hW2, heap_alloc_old W1 _ (by rw [hs1]; exact hgl)]
      exact hr1
    have hne : w.heap.size ≠ g := by omega
    have p1 : W2.cell? ⟨w.heap.size, 0, none⟩ = some (.pointer (some ⟨g, 0, none⟩)) := by
      have hn := heap_alloc_new W1 (Obj.cells #[Value.pointer (some ⟨g, 0, none⟩)] 63)
      rw [hs1] at hn
      rw [hW2, cell_of_row _ _ _ _ _ _ hn]
      rfl
    have hgr : w.grownBy W2 (some g) := by
      rw [hW2, hW1]
      refine ⟨rfl, rfl, rfl, by simp [World.setCell], fun k hk hkg => ?_⟩
      rw [heap_alloc_old _ _ (by simp [World.setCell]; exact hk)]
      exact Below.heap_setCell _ _ _ k (fun e => hkg (by rw [e]))
    have HC := Lib.hid (conth_any N IH t A n c B g w.heap.size (V - n) W2 hN (by omega) (h.keep fun p hp => World.cell?_of_block (hgr.block p.block (by omega) (fun e => by injection e with e; omega))) hB hr2 (by omega) (by omega) p1 hne)
    have HG := Lib.hid hgr
    have hnb : n ≤ 100000 := by omega
    have hv0 : (0 : Int) ≤ V - n := by omega
    have hvd : (V - (n : Int)) - ((t.size : Int) - n) = V - t.size := by omega
    rw [hvd] at HC
    have hV0 : 0 ≤ V := by omega
    have p2 : W2.cell? ⟨g, 0, none⟩ = some (.int .i64 (V - n)) := by rw [cell_of_row _ _ _ _ _ _ hr2]; rfl
    clear h hr hr1 hr2 hgr hl hls hvd IH hN hV hs1
    go_enter Try.func34, Try.ntmps34
    go_wp2_with fail
    rw [← hW1, ← hW2]
    go_wp2_with fail
    (with_reducible refine HC.out.mono ?_)
    rintro e w3 ⟨rfl, h3⟩
    have H3 := Lib.hid (show RoomP w w3 g (V - t.size) from ⟨h3.cell, HG.out.trans h3.grown⟩)
    clear h3
    go_wp2_with fail
    go_ret
    exact ⟨rfl, H3.out⟩
end Go.Proofs.Ytcfaocjgflefmaa.Df
