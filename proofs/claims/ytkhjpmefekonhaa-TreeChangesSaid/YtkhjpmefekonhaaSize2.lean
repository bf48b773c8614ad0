/- tree.Size: how many edges. Conditions: fewer than 2^34 edges. -/
import Derived.Test.YtkhjpmefekonhaaText
namespace Go.Proofs.Ytkhjpmefekonhaa
open Go.RowKit Go.Shelf
set_option maxRecDepth 100000
attribute [local go_sem] Oper.semAt_some

/-- The count so far. -/
def SizeI (B g : Nat) (w0 : World) (pre : List Handed) (W : World) : Prop :=
  W.heap[g]? = some (.cells #[.int .i64 (pre.length : Nat)] 3 (0, 0)) ∧ Below B w0 W
theorem SizeI.bears (B g : Nat) (w0 : World) : Bears kinds B (SizeI B g w0) := by
  intro pre W W' ⟨h2, hB⟩ hk
  exact ⟨hk.same _ _ h2 rfl, hB.trans hk.below⟩

set_option maxHeartbeats 2000000 in
theorem size_any (A : Option Addr) (c : Nat) (t : Tr) (w : World) (h : Holds w w.heap.size A t.len t) (hc : t.len ≤ c) (hm : c ≤ maxLen) (hsz : t.size ≤ 17179869184) :
    Calls Try.prog 26 #[.slice A t.len c] w fun e w' => e = .returned (.int .i64 (t.size : Nat)) ∧ Below w.heap.size w w' := by
  obtain ⟨xs, hxs, hseq⟩ := edges_seq 3 A c t w h hc hm (by omega)
  have hxl : xs.length = t.size := by rw [← List.length_map (f := Handed.word), hxs, Tr.flat_length]
  obtain ⟨xl, hxl2⟩ : ∃ n, n = t.len := ⟨_, rfl⟩
  obtain ⟨z, hz⟩ : ∃ z, z = t.size := ⟨_, rfl⟩
  rw [← hz] at hxl hsz ⊢
  rw [← hxl2] at hc hseq ⊢
  have Hxl := Lib.hid hxl
  clear hxs hxl2 hz hxl
  refine (callsIn_wide (n := 4)).1 ?_
  refine callsIn_of_wp_marks Try.func26 rfl trivial ?_ rfl
  simp only [Try.ntmps26, List.size_toArray, List.length_cons, List.length_nil, Nat.reduceAdd, Nat.reduceSub, Array.replicate_succ, Array.replicate_zero, List.push_toArray, List.append_toArray, List.nil_append, List.cons_append]
  gi_wp2_with (refine ⟨trivial, ?_⟩; gi_at_call 47; refine (callsIn_wide.2 (edges_any _ _ _ _)).mono ?_; rintro e w1 ⟨rfl, rfl⟩)
  have hgx := heap_alloc_new w (.cells #[.int .i64 0] 3)
  have htx := heap_alloc_new (w.alloc (.cells #[.int .i64 0] 3)) (.cells #[.slice A xl c] 27)
  simp only [World.size_alloc] at hgx htx
  refine wpIn_rangeFunc_T (T := kinds) (B := w.heap.size) rfl (by omega) (gf := 84) (lb := #[.pointer (some ⟨w.heap.size + 1, 0, none⟩)]) rfl trivial (enters_of Try.func84 (by kernel_rfl) rfl)
    (hseq _ (((Below.refl _ w).alloc (Nat.le_refl _) _).alloc (by simp) _) _ (by rw [cell_of_row _ _ 0 _ _ _ htx]; rfl)) (Below.refl _ _) (by simp; omega) (fun _ => rfl)
    (SizeI w.heap.size w.heap.size w) (fun _ _ _ => False) (SizeI.bears _ _ _) (fun _ _ _ _ h _ => h) ?start ?round ?done ?stop
  case start => exact ⟨heap_keep hgx _, ((Below.refl _ w).alloc (Nat.le_refl _) _).alloc (by simp) _⟩
  case stop =>
    intro D c pre W _ _ h
    exact h.elim
  case done =>
    rintro D W hD ⟨hb2, hB⟩ hK
    rw [Hxl.out] at hb2
    have hc2 : W.cell? ⟨w.heap.size, 0, none⟩ = some (.int .i64 (z : Nat)) := by rw [cell_of_row W _ 0 _ _ _ hb2]; rfl
    have HK := Lib.hid hK
    clear hb2 hK h hseq
    gi_wp2
    refine ⟨by simp, .inl ⟨_, _, rfl, run_takeDeferred HK.out, ?_⟩⟩
    refine ⟨_, results_tmp rfl _ _ _, ?_, hB.trans (belowK_b (w := w) (Nat.le_refl _) W D _ _ (by simp at hD; omega) HK.out rfl rfl)⟩
    rfl
  case round =>
    rintro l pre x W hI hpre hle
    have hpl : pre.length + 1 ≤ z := by
      rw [← Hxl.out]
      have := hpre.length_le
      simpa using this
    obtain ⟨hb2, hB⟩ := hI
    obtain ⟨k, hk⟩ : ∃ k, k = pre.length := ⟨_, rfl⟩
    rw [← hk] at hb2 hpl
    have Hk := Lib.hid hk
    clear hk h hseq
    obtain ⟨d, nm, xa, xn, xc⟩ := x
    simp only [Handed.args]
    gi_wp2
    refine ⟨Keeps.refl _ _ W, fun W2 hk2 hsz2 => ?_⟩
    have hkI : Keeps (pI kinds) w.heap.size W W2 := hk2.of fun _ => pI_pC
    have hb2' := hkI.same _ _ hb2 rfl
    have hB2 : Below w.heap.size w W2 := hB.trans hkI.below
    have hc2 : W2.cell? ⟨w.heap.size, 0, none⟩ = some (.int .i64 (k : Nat)) := by rw [cell_of_row W2 _ 0 _ _ _ hb2']; rfl
    have hf2 : W2.frozen? ⟨w.heap.size, 0, none⟩ = false := by simp [World.frozen?, hb2']
    have Hb := Lib.hid hb2'
    clear hb2 hb2'
    gi_wp2
    refine ⟨Keeps.setCell (o := .cells #[.int .i64 (k : Nat)] 3 (0, 0)) W2 _ Hb.out rfl (Nat.le_refl _), ?_, hB2.setCell (Nat.le_refl _) _⟩
    rw [box_set Hb.out, List.length_append, ← Hk.out]
    rfl
end Go.Proofs.Ytkhjpmefekonhaa
