/- Plain: raw edges as they stand. Conditions: fewer than 400 raw edges. -/
import Derived.Test.YtebiinjcegdmpaaEdg
import Derived.Deep.RegionHeld3
import Derived.Outline
namespace Go.Proofs.Ytebiinjcegdmpaa.Jd
open Go.RowKit Go.Proofs.Ytebiinjcegdmpaa.Cl
set_option maxRecDepth 100000

/-- The first edges. -/
def takeT : Tr → Nat → Tr
  | .nil, _ => .nil
  | .cons _ _ _, 0 => .nil
  | .cons s k r, i + 1 => .cons s k (takeT r i)
theorem takeT_zero (t : Tr) : takeT t 0 = .nil := by cases t <;> rfl
theorem takeT_all : ∀ (t : Tr) (i : Nat), t.len ≤ i → takeT t i = t
  | .nil, _, _ => rfl
  | .cons _ _ _, 0, h => by simp [Tr.len] at h
  | .cons _ _ r, i + 1, h => by rw [takeT, takeT_all r i (by simp only [Tr.len] at h; omega)]
theorem takeT_succ : ∀ (t : Tr) (i : Nat) {s : ByteArray} {k r : Tr}, t.dropT i = .cons s k r → takeT t (i + 1) = appT (takeT t i) (.cons s k .nil)
  | .nil, i, _, _, _, h => by cases i <;> simp [Tr.dropT] at h
  | .cons s0 k0 r0, 0, s, k, r, h => by
    rw [dropT_zero] at h
    injection h with h1 h2 h3
    subst h1; subst h2; subst h3
    rw [takeT_zero, appT, takeT, takeT_zero]
  | .cons s0 k0 r0, i + 1, s, k, r, h => by
    simp only [Tr.dropT] at h
    rw [takeT, takeT_succ r0 i h, takeT, appT]

theorem below_undrew {w w' : World} (h : Below w.drew.heap.size w.drew w') : Below w.heap.size w w' := ⟨h.os, h.tape, h.output, h.size, h.block⟩
theorem grown_undrew {W w4 : World} {row : Option Nat} (h : W.drew.grownBy w4 row) : W.grownBy w4 row := ⟨h.os, h.tape, h.output, h.size, h.block⟩
theorem src_edge_d (W : World) (s : ByteArray) (A : Option Addr) (n c g : Nat) (hg : g = W.heap.size) : Src Try.prog 2 28 (.slice (some ⟨g, 0, none⟩) 1 1) 1 [.string s, .slice A n c] (W.alloc (Obj.cells #[Value.string s, Value.slice A n c] 44)).drew := by
  subst hg
  exact src_edges rfl (fun j u hu => by
    rw [World.cell?_drew, cell_of_row _ _ _ _ _ _ (heap_alloc_new W _), Nat.zero_add, ← hu]
    match j, hu with
    | 0, _ => rfl
    | 1, _ => rfl
    | j + 2, hu => simp at hu) (fun u hu => by simp only [List.mem_cons, List.not_mem_nil, or_false] at hu; rcases hu with rfl | rfl <;> rfl)
def PlainP (w : World) (n : Nat) (t : Tr) (e : Ending) (w' : World) : Prop := ∃ A' c' vs, e = .returned (.slice A' n c') ∧ Edg w' w.heap.size w.heap.size A' n c' t vs ∧ Below w.heap.size w w'

set_option maxHeartbeats 2000000 in
theorem plain_any (N : Nat) : ∀ (t : Tr) (A : Option Addr) (n c B : Nat) (w : World), t.size ≤ N → Holds w B A n t → B ≤ w.heap.size → t.size ≤ 400 →
    Calls Try.prog 16 #[.slice A n c] w (PlainP w n t) := by
  induction N with
  | zero =>
    intro t A n c B w hN h hB h4
    cases t with
    | nil =>
      obtain rfl : n = 0 := h
      go_enter Try.func16, Try.ntmps16
      go_wp2_with fail
      go_loop [3, 4] (fun v i => v = .slice none 0 0 ∧ i = .int .i64 0) (fun _ _ => 0)
      case atStart => exact ⟨rfl, rfl⟩
      case round =>
        obtain ⟨rfl, rfl⟩ := hrel
        go_wp2_with fail
        go_ret
        exact ⟨none, 0, [], rfl, Edg.nil _ _ _, Below.refl _ _⟩
    | cons s k r => simp [Tr.size] at hN
  | succ N ih =>
    intro t A n c B w hN h hB h4
    have Hn := Lib.hid h.len
    have hn4 : n ≤ 400 := by have := t.len_size; have := Hn.out; omega
    go_enter Try.func16, Try.ntmps16
    go_wp2_with fail
    go_loopw [3, 4] (fun v i wr => ∃ (k : Nat) (At : Option Addr) (ct : Nat) (vs : List Value), k ≤ n ∧ i = .int .i64 k ∧ v = .slice At k ct ∧ Hid (Edg wr w.heap.size w.heap.size At k ct (takeT t k) vs) ∧ Below w.heap.size w wr) (fun _ i _ => n - (intOf i).toNat)
    case atStart => exact ⟨0, none, 0, [], Nat.zero_le _, rfl, rfl, by rw [takeT_zero]; exact Lib.hid (Edg.nil _ _ _), Below.refl _ _⟩
    case round =>
      obtain ⟨k, At, ct, vs, hk, rfl, rfl, HE, hbw⟩ := hrel
      by_cases hlt : k < n
      · obtain ⟨b, o, s, kt, r, A', n', c', rfl, hb, hs, hcl, hn', hc', hk', hr, hd, hd2⟩ := h.split k hlt
        have hs1 := (hbw.cell (p := ⟨b, o + k * 2, none⟩) (by simp only; omega)).trans hs
        have hc1 := (hbw.cell (p := ⟨b, o + k * 2 + 1, none⟩) (by simp only; omega)).trans hcl
        have hbl : b < wr.heap.size := by have := hbw.size; omega
        have hkn : (k : Int) < (n : Int) := by omega
        have hk0 : (0 : Int) ≤ (k : Int) := by omega
        have hkt : Holds wr.drew B A' n' kt := (hk'.below (hbw.mono hB)).drew
        have hszk := size_drop t k
        rw [hd] at hszk
        simp only [Tr.size] at hszk
        have hBr : B ≤ wr.drew.heap.size := by have := hbw.size; simp; omega
        have HC := Lib.hid (ih kt A' n' c' B wr.drew (by omega) hkt hBr (by omega))
        have hT := takeT_succ t k hd
        have HT := Lib.hid hT
        have hk1 : k + 1 ≤ 1099511627776 := by omega
        have hWr := hbw.size
        clear hd hd2 hszk hN hs hcl hT
        go_wp2_with fail
        go_region_held3 (fun w' => w'.cell? ⟨b, o + k * 2, none⟩ = some (.string s) ∧ w'.cell? ⟨b, o + k * 2 + 1, none⟩ = some (.slice A' n' c')) (first | exact ⟨hs1, hc1⟩ | exact ⟨hs3, hc3⟩ | exact ⟨hs4, hc4⟩ | exact ⟨hs5, hc5⟩)
          (first
          | (go_at_call 16; refine HC.out.mono ?_; rintro e w3 ⟨A3, c3, us, rfl, hE3, hb3⟩; have hs3 := (hb3.cell (p := ⟨b, o + k * 2, none⟩) hbl).trans hs1; have hc3 := (hb3.cell (p := ⟨b, o + k * 2 + 1, none⟩) hbl).trans hc1; have hEr := HE.out.below (below_undrew hb3); have HE3 := Lib.hid hE3; clear hE3; have hs4 := (World.cell?_alloc_lt w3 (Obj.cells #[Value.string s, Value.slice A3 n' c3] 44) ⟨b, o + k * 2, none⟩ (Nat.lt_of_lt_of_le hbl hb3.size)).trans hs3; have hc4 := (World.cell?_alloc_lt w3 (Obj.cells #[Value.string s, Value.slice A3 n' c3] 44) ⟨b, o + k * 2 + 1, none⟩ (Nat.lt_of_lt_of_le hbl hb3.size)).trans hc3)
          | (refine step_append_row rfl (.tmp 11) (.tmp 24) _ _ rfl elem_edge rfl rfl (hEr.own.alloc _) (src_edge _ s A3 n' c3 _ rfl) hk1 (by have := hb3.size; simp at this ⊢; omega) ?_; intro A4 c4 w4 ho4 hg4 hat4; have hb4 : w4.heap[b]? = (w3.alloc (Obj.cells #[Value.string s, Value.slice A3 n' c3] 44)).heap[b]? := hg4.block b (by have := hb3.size; simp at this ⊢; omega) (fun e => by have := (hEr.own.lt b e.symm).1; omega); have hs5 : w4.cell? ⟨b, o + k * 2, none⟩ = some (.string s) := (World.cell?_of_block hb4).trans hs4; have hc5 : w4.cell? ⟨b, o + k * 2 + 1, none⟩ = some (.slice A' n' c') := (World.cell?_of_block hb4).trans hc4))
        all_goals
          have hEa := hEr.below (w' := w3.alloc (Obj.cells #[Value.string s, Value.slice A3 n' c3] 44)) ((Below.refl _ _).alloc (Nat.le_refl _) _)
          have hz3 : wr.heap.size ≤ w3.heap.size := hb3.size
          have hkid : RowP (w3.alloc (Obj.cells #[Value.string s, Value.slice A3 n' c3] 44)) (fun b => w.heap.size ≤ b ∧ b < (w3.alloc (Obj.cells #[Value.string s, Value.slice A3 n' c3] 44)).heap.size ∧ some b ≠ (Value.slice At k ct).ownBlock) [.string s, .slice A3 n' c3] (.cons s kt .nil) := by
            refine RowP.one ?_ HE3.out.cap.1 HE3.out.cap.2
            refine ((HE3.out.holdsP (Nat.le_refl _)).keep (w' := w3.alloc (Obj.cells #[Value.string s, Value.slice A3 n' c3] 44)) (fun b o hb => World.cell?_alloc_lt _ _ _ hb.2)).more (fun b hb => ⟨?_, ?_, fun e => ?_⟩)
            · have : wr.heap.size ≤ b := hb.1
              omega
            · have := hb.2
              simp
              omega
            · have h1 := (HE.out.own.lt b e.symm).2
              have : wr.heap.size ≤ b := hb.1
              omega
          have hP := hEa.push hkid ho4 hg4 (fun a ha => (hat4 a ha).imp (fun e => Nat.le_of_eq e.symm) id)
          rw [← HT.out] at hP
          have HP := Lib.hid hP
          have hb4w : Below w.heap.size w w4 := ((hbw.trans ((below_undrew hb3).mono hWr)).alloc (by omega) _).grown hg4 (by simp; omega) (fun q hq => (hEr.own.lt q hq).1)
          clear hP hkid hEa hb4
          go_wp2_with fail
          go_roundw
          case rel => exact ⟨k + 1, A4, c4, _, by omega, by go_num, rfl, HP, hb4w⟩
          case measure => simp [intOf]; omega
      · obtain rfl : k = n := by omega
        have hE := HE.out
        rw [takeT_all t k (by rw [← Hn.out]; exact Nat.le_refl _)] at hE
        have HE2 := Lib.hid hE
        clear hlt hE
        go_wp2_with fail
        go_ret
        exact ⟨At, ct, vs, rfl, HE2.out, hbw⟩
end Go.Proofs.Ytebiinjcegdmpaa.Jd
