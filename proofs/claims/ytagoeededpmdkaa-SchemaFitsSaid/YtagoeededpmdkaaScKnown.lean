/- The law's known: the chapter's example; blocks laid one behind the other. No conditions. -/
import Derived.Test.YtagoeededpmdkaaScCheckA
import Derived.Test.YtagoeededpmdkaaScFitsW
namespace Go.Proofs.Ytagoeededpmdkaa.Sc
open Go.RowKit Go.Proofs.Ytagoeededpmdkaa.Nm
set_option maxRecDepth 100000

/-- Blocks laid one behind the other. -/
def lay (w : World) : List Obj → World
  | [] => w
  | o :: r => lay (w.alloc o) r
theorem lay_facts : ∀ (os : List Obj) (w : World), (lay w os).heap.size = w.heap.size + os.length ∧ Below w.heap.size w (lay w os) ∧ ∀ i o, os[i]? = some o → (lay w os).heap[w.heap.size + i]? = some o
  | [], w => ⟨rfl, Below.refl _ _, fun i o h => by simp at h⟩
  | x :: r, w => by
    obtain ⟨h1, h2, h3⟩ := lay_facts r (w.alloc x)
    refine ⟨by simp only [lay]; rw [h1]; simp; omega, ((Below.refl w.heap.size w).alloc (Nat.le_refl _) x).trans (h2.mono (by simp)), fun i o h => ?_⟩
    cases i with
    | zero =>
      simp only [List.getElem?_cons_zero, Option.some.injEq] at h
      subst h
      exact (h2.block _ (by simp)).trans (heap_alloc_new w x)
    | succ i =>
      simp only [List.getElem?_cons_succ] at h
      have := h3 i o h
      simp only [lay]
      rw [← this]
      congr 1
      simp
      omega

/-- Definitions whose cells lie at one place. -/
theorem Ds.one {w : World} {B b : Nat} {d : Df} (hb : b < B) (h : DfAt w B b 0 d) : Ds w B (some ⟨b, 0, none⟩) 1 [d] :=
  ⟨rfl, fun j f hf => by
    match j with
    | 0 => simp only [List.getElem?_cons_zero, Option.some.injEq] at hf; subst hf; exact ⟨b, 0, rfl, hb, by simpa using h⟩
    | j + 1 => simp at hf⟩
theorem Fs.none_ (w : World) (B : Nat) (A : Option Addr) : Fs w B A 0 [] := ⟨rfl, fun j f hf => by simp at hf⟩

def s0 : List Df := [⟨[], false, false⟩]
theorem s0_fit : FitS s0 := by
  intro d hd
  simp only [s0, List.mem_singleton] at hd
  subst hd
  exact ⟨by simp, fun f hf => by cases hf⟩
theorem s0_chk : chk s0 = 0 := by rfl
theorem s0_nil : fits s0 0 .nil = true := by rfl
theorem s0_a : fits s0 0 (.cons ⟨#[97]⟩ .nil .nil) = false := by rfl
theorem s0_to : toS s0 0 (⟨#[97]⟩ : ByteArray).data.toList = -1 := by rfl

set_option maxHeartbeats 1000000 in
theorem known_any (w : World) : Calls Try.prog 46 #[] w fun e w' => e = .returned (.bool true) ∧ Below w.heap.size w w' := by
  obtain ⟨W1, hW1⟩ : ∃ W, W = w.alloc (Obj.cells #[Value.slice none 0 0, Value.bool false, Value.bool false] 80) := ⟨_, rfl⟩
  have g0 : W1.heap[w.heap.size]? = some (Obj.cells #[Value.slice none 0 0, Value.bool false, Value.bool false] 80) := by rw [hW1, heap_alloc_new]
  have hb1 : Below w.heap.size w W1 := by rw [hW1]; exact (Below.refl _ _).alloc (Nat.le_refl _) _
  have hl : w.heap.size < W1.heap.size := (Array.getElem?_eq_some_iff.1 g0).1
  obtain ⟨p0, p1, p2⟩ := box3 g0
  have hD : Ds W1 W1.heap.size (some ⟨w.heap.size, 0, none⟩) 1 s0 := Ds.one hl ⟨none, 0, 0, p0, p1, p2, Fs.none_ _ _ _, Nat.le_refl _, Nat.zero_le _⟩
  have HD := Lib.hid hD
  have HC := Lib.hid (check_any s0 (some ⟨w.heap.size, 0, none⟩) 1 1 W1.heap.size W1 (Nat.le_refl _) hD s0_fit (by omega))
  rw [s0_chk] at HC
  have HF : Hid (∀ W, Below W1.heap.size W1 W → Calls Try.prog 55 #[.slice (some ⟨w.heap.size, 0, none⟩) 1 1, .int .i64 0, .slice none 0 0] W fun e w' => e = .returned (.bool true) ∧ Below W1.heap.size W1 w') := Lib.hid fun W hb => by
    have := fits_any s0 .nil (some ⟨w.heap.size, 0, none⟩) 1 1 W1.heap.size 0 none 0 0 W (HD.out.below hb) s0_fit hb.size (by omega) rfl (by simp [Tr.size])
    rw [s0_nil] at this
    exact this.mono fun e w' h => ⟨h.1, hb.trans (h.2.mono hb.size)⟩
  have HG : Hid (∀ W, Below W1.heap.size W1 W → Calls Try.prog 55 #[.slice (some ⟨w.heap.size, 0, none⟩) 1 1, .int .i64 0, .slice (some ⟨W.heap.size, 0, none⟩) 1 1] (W.alloc (Obj.cells #[Value.string ⟨#[97]⟩, Value.slice none 0 0] 32)) fun e w' => e = .returned (.bool false) ∧ Below W1.heap.size W1 w') := Lib.hid fun W hb => by
    have hbb : Below W1.heap.size W1 (W.alloc (Obj.cells #[Value.string ⟨#[97]⟩, Value.slice none 0 0] 32)) := hb.alloc hb.size _
    have hbx := box2 (heap_alloc_new W (Obj.cells #[Value.string ⟨#[97]⟩, Value.slice none 0 0] 32))
    have := fits_any s0 (.cons ⟨#[97]⟩ .nil .nil) (some ⟨w.heap.size, 0, none⟩) 1 1 (W.heap.size + 1) 0 (some ⟨W.heap.size, 0, none⟩) 1 1 (W.alloc (Obj.cells #[Value.string ⟨#[97]⟩, Value.slice none 0 0] 32)) ((HD.out.below hbb).more (by have := hb.size; omega)) s0_fit (by simp) (by omega)
      ⟨W.heap.size, 0, rfl, by omega, hbx.1, ⟨none, 0, 0, hbx.2.1, Nat.le_refl _, Nat.zero_le _, rfl⟩, 0, rfl, rfl⟩ (by simp [Tr.size])
    rw [s0_a] at this
    exact this.mono fun e w' h => ⟨h.1, hbb.trans (h.2.mono hbb.size)⟩
  have HT : Hid (∀ W, Below W1.heap.size W1 W → Calls Try.prog 57 #[.slice (some ⟨w.heap.size, 0, none⟩) 1 1, .int .i64 0, .string ⟨#[97]⟩] W fun e w' => e = .returned (.int .i64 (-1)) ∧ Below W1.heap.size W1 w') := Lib.hid fun W hb => by
    have := to_any s0 (some ⟨w.heap.size, 0, none⟩) 1 1 W1.heap.size 0 ⟨#[97]⟩ W (HD.out.below hb) hb.size (by omega)
    rw [s0_to] at this
    exact this.mono fun e w' h => ⟨h.1, hb.trans (h.2.mono hb.size)⟩
  have HB1 := Lib.hid hb1
  have HW1 := Lib.hid hW1
  clear hb1 hW1 hD g0 p0 p1 p2
  go_enter Try.func46, Try.ntmps46
  go_wp2_with fail
  rw [← HW1.out]
  (with_reducible refine HC.out.mono ?_)
  rintro e w1 ⟨rfl, hb1⟩
  go_wp2_with fail
  (with_reducible refine (HF.out _ hb1).mono ?_)
  rintro e w2 ⟨rfl, hb2⟩
  go_wp2_with fail
  (with_reducible refine (HG.out _ hb2).mono ?_)
  rintro e w3 ⟨rfl, hb3⟩
  go_wp2_with fail
  (with_reducible refine (HT.out _ hb3).mono ?_)
  rintro e w4 ⟨rfl, hb4⟩
  go_wp2_with fail
  go_ret
  exact ⟨rfl, HB1.out.trans (hb4.mono HB1.out.size)⟩
end Go.Proofs.Ytagoeededpmdkaa.Sc
