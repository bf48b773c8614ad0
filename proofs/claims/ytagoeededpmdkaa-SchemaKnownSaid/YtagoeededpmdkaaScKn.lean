/- SchemaKnown: the law's walk. No conditions. -/
import Derived.Test.YtagoeededpmdkaaScMany
import Derived.Deep.RegionHeld3
namespace Go.Proofs.Ytagoeededpmdkaa.Sc
open Go.RowKit Go.Proofs.Ytagoeededpmdkaa.Nm
set_option maxRecDepth 100000

theorem value_any (x : ByteArray) (w : World) : Calls Try.prog 59 #[.string x] w fun e w' => e = .returned (.slice (some ⟨w.heap.size, 0, none⟩) 1 1) ∧ w' = w.alloc (Obj.cells #[Value.string x, Value.slice none 0 0] 32) := by
  go_enter Try.func59, Try.ntmps59
  go_wp2_with fail
  go_ret
  exact ⟨rfl, rfl⟩

def s1 : List Df := [⟨[⟨⟨false, [[97], [98]]⟩, 1, true⟩, ⟨⟨true, [[97], [98], [110, 111]]⟩, 2, false⟩], false, false⟩, ⟨[⟨⟨true, []⟩, 2, false⟩], true, false⟩, ⟨[], false, false⟩, ⟨[⟨⟨true, []⟩, 2, false⟩], false, true⟩]
def tv : Tr := (.cons ⟨#[118]⟩ .nil .nil)
def tt : Tr := (.cons ⟨#[117]⟩ .nil (.cons ⟨#[118]⟩ .nil .nil))
def trees : List (Tr × Bool) := [((.cons ⟨#[97]⟩ tv (.cons ⟨#[98]⟩ tv .nil)), true), ((.cons ⟨#[97]⟩ tv .nil), false), ((.cons ⟨#[97]⟩ tv (.cons ⟨#[98]⟩ tt .nil)), false), ((.cons ⟨#[97]⟩ tv (.cons ⟨#[98]⟩ .nil .nil)), false), ((.cons ⟨#[97]⟩ tv (.cons ⟨#[98]⟩ tv (.cons ⟨#[120]⟩ .nil .nil))), true), ((.cons ⟨#[97]⟩ tv (.cons ⟨#[98]⟩ tv (.cons ⟨#[120]⟩ tv .nil))), false), ((.cons ⟨#[97]⟩ tv (.cons ⟨#[98]⟩ tv (.cons ⟨#[110, 111]⟩ .nil .nil))), false), (.nil, false)]
theorem s1_fit : FitS s1 := by
  intro d hd
  simp only [s1, List.mem_cons, List.not_mem_nil, or_false] at hd
  rcases hd with rfl | rfl | rfl | rfl
  all_goals
    refine ⟨by simp, fun f hf => ?_⟩
    simp only [List.mem_cons, List.not_mem_nil, or_false] at hf
  · rcases hf with rfl | rfl <;> simp
  · subst hf; simp
  · subst hf; simp
theorem s1_chk : chk s1 = 0 := by
  have ht : twice ⟨⟨true, [[97], [98], [110, 111]]⟩, 2, false⟩ ⟨⟨false, [[97], [98]]⟩, 1, true⟩ = false := by
    refine twice_no rfl (fun x => ?_)
    simp only [St.mem, List.mem_cons, List.not_mem_nil, or_false]
    by_cases h1 : x = [97]
    · subst h1; rfl
    · by_cases h2 : x = [98]
      · subst h2; rfl
      · simp [h1, h2]
  have e : dsC 4 s1 = 0 := by
    refine dsC_ok fun d hd => ?_
    simp only [s1, List.mem_cons, List.not_mem_nil, or_false] at hd
    rcases hd with rfl | rfl | rfl | rfl
    · show fsC 4 [] _ = 0
      refine fsC_ok fun k f hf => ?_
      match k with
      | 0 =>
        simp only [List.getElem?_cons_zero, Option.some.injEq] at hf
        subst hf
        exact fldC_ok (by simp) (by simp) (by simp) rfl (by simp)
      | 1 =>
        simp only [List.getElem?_cons_succ, List.getElem?_cons_zero, Option.some.injEq] at hf
        subst hf
        refine fldC_ok (by simp) (by simp) (by simp) rfl (fun g hg => ?_)
        simp only [List.take_succ_cons, List.take_zero, List.mem_singleton] at hg
        subst hg
        exact ht
      | k + 2 => simp at hf
    · rfl
    · rfl
    · rfl
  exact e
theorem trees_fit : ∀ x ∈ trees, fits s1 0 x.1 = x.2 ∧ x.1.size ≤ 10 := by
  intro x hx
  simp only [trees, List.mem_cons, List.not_mem_nil, or_false] at hx
  rcases hx with rfl | rfl | rfl | rfl | rfl | rfl | rfl | rfl <;> exact ⟨by rfl, by decide⟩

theorem kc0 : fits s1 1 tv = true := by rfl
theorem kc1 : fits s1 1 tt = false := by rfl
theorem kc2 : fits s1 1 .nil = false := by rfl
theorem kc3 : fits s1 3 tt = true := by rfl
theorem kc4 : fits s1 3 .nil = false := by rfl
theorem kc5 : fits s1 2 .nil = true := by rfl
theorem kc6 : toS s1 0 [110, 111] = -1 := by rfl
theorem kc7 : toS s1 0 [98] = 1 := by rfl
theorem kc8 : toS s1 0 [113] = 2 := by rfl
theorem kc9 : fits s1 4 .nil = false := by rfl
theorem kc10 : fits s1 (-1) .nil = false := by rfl

/-- Edges at the front of a block. -/
theorem holds_cons {w : World} {B b o m n c : Nat} {A : Option Addr} {s : ByteArray} {k r : Tr} (hb : b < B) (h1 : w.cell? ⟨b, o, none⟩ = some (.string s)) (h2 : w.cell? ⟨b, o + 1, none⟩ = some (.slice A n c)) (hn : n ≤ c) (hc : c ≤ maxLen) (hk : Holds w B A n k) (hr : Holds w B (some ⟨b, o + 2, none⟩) m r) : Holds w B (some ⟨b, o, none⟩) (m + 1) (.cons s k r) :=
  ⟨b, o, rfl, hb, h1, ⟨A, n, c, h2, hn, hc, hk⟩, m, rfl, hr⟩
def IsI (W1 : World) (x : Int) (e : Ending) (w' : World) : Prop := e = .returned (.int .i64 x) ∧ Below W1.heap.size W1 w'
theorem cell_in {w : World} {g : Nat} {cur : Array Value} {T : TypeId} (h : w.heap[g]? = some (.cells cur T (0, 0))) (q : Nat) (u : Value) (hu : cur[q]? = some u) : w.cell? ⟨g, q, none⟩ = some u := by
  rw [cell_of_row w g q _ _ _ h, hu]
theorem kn_schema {W W2 w1 : World} (hW2 : W2 = lay w1 [Obj.cells #[Value.string ⟨#[97]⟩, Value.string ⟨#[98]⟩] 9, Obj.cells #[Value.string ⟨#[97]⟩, Value.string ⟨#[98]⟩, Value.string ⟨#[110, 111]⟩] 9, Obj.cells #[Value.bool false, Value.slice (some ⟨w1.heap.size, 0, none⟩) 2 2, Value.int .i64 1, Value.bool true, Value.bool true, Value.slice (some ⟨w1.heap.size + 1, 0, none⟩) 3 3, Value.int .i64 2, Value.bool false] 83, Obj.cells #[Value.bool true, Value.slice none 0 0, Value.int .i64 2, Value.bool false] 83, Obj.cells #[Value.bool true, Value.slice none 0 0, Value.int .i64 2, Value.bool false] 83, Obj.cells #[Value.slice (some ⟨w1.heap.size + 1 + 1, 0, none⟩) 2 2, Value.bool false, Value.bool false, Value.slice (some ⟨w1.heap.size + 1 + 1 + 1, 0, none⟩) 1 1, Value.bool true, Value.bool false, Value.slice none 0 0, Value.bool false, Value.bool false, Value.slice (some ⟨w1.heap.size + 1 + 1 + 1 + 1, 0, none⟩) 1 1, Value.bool false, Value.bool true] 80]) (hb : Below W2.heap.size W2 W) : Ds W W2.heap.size (some ⟨w1.heap.size + 1 + 1 + 1 + 1 + 1, 0, none⟩) 4 s1 := by
  obtain ⟨hs, _, hg⟩ := lay_facts [Obj.cells #[Value.string ⟨#[97]⟩, Value.string ⟨#[98]⟩] 9, Obj.cells #[Value.string ⟨#[97]⟩, Value.string ⟨#[98]⟩, Value.string ⟨#[110, 111]⟩] 9, Obj.cells #[Value.bool false, Value.slice (some ⟨w1.heap.size, 0, none⟩) 2 2, Value.int .i64 1, Value.bool true, Value.bool true, Value.slice (some ⟨w1.heap.size + 1, 0, none⟩) 3 3, Value.int .i64 2, Value.bool false] 83, Obj.cells #[Value.bool true, Value.slice none 0 0, Value.int .i64 2, Value.bool false] 83, Obj.cells #[Value.bool true, Value.slice none 0 0, Value.int .i64 2, Value.bool false] 83, Obj.cells #[Value.slice (some ⟨w1.heap.size + 1 + 1, 0, none⟩) 2 2, Value.bool false, Value.bool false, Value.slice (some ⟨w1.heap.size + 1 + 1 + 1, 0, none⟩) 1 1, Value.bool true, Value.bool false, Value.slice none 0 0, Value.bool false, Value.bool false, Value.slice (some ⟨w1.heap.size + 1 + 1 + 1 + 1, 0, none⟩) 1 1, Value.bool false, Value.bool true] 80] w1
  rw [← hW2] at hs hg
  simp only [List.length_cons, List.length_nil] at hs

  have g0 : W.heap[w1.heap.size]? = some (Obj.cells #[Value.string ⟨#[97]⟩, Value.string ⟨#[98]⟩] 9) := Below.box hb (hg 0 _ rfl)
  have g1 : W.heap[w1.heap.size + 1]? = some (Obj.cells #[Value.string ⟨#[97]⟩, Value.string ⟨#[98]⟩, Value.string ⟨#[110, 111]⟩] 9) := Below.box hb (hg 1 _ rfl)
  have g2 : W.heap[w1.heap.size + 1 + 1]? = some (Obj.cells #[Value.bool false, Value.slice (some ⟨w1.heap.size, 0, none⟩) 2 2, Value.int .i64 1, Value.bool true, Value.bool true, Value.slice (some ⟨w1.heap.size + 1, 0, none⟩) 3 3, Value.int .i64 2, Value.bool false] 83) := Below.box hb (hg 2 _ rfl)
  have g3 : W.heap[w1.heap.size + 1 + 1 + 1]? = some (Obj.cells #[Value.bool true, Value.slice none 0 0, Value.int .i64 2, Value.bool false] 83) := Below.box hb (hg 3 _ rfl)
  have g4 : W.heap[w1.heap.size + 1 + 1 + 1 + 1]? = some (Obj.cells #[Value.bool true, Value.slice none 0 0, Value.int .i64 2, Value.bool false] 83) := Below.box hb (hg 4 _ rfl)
  have g5 : W.heap[w1.heap.size + 1 + 1 + 1 + 1 + 1]? = some (Obj.cells #[Value.slice (some ⟨w1.heap.size + 1 + 1, 0, none⟩) 2 2, Value.bool false, Value.bool false, Value.slice (some ⟨w1.heap.size + 1 + 1 + 1, 0, none⟩) 1 1, Value.bool true, Value.bool false, Value.slice none 0 0, Value.bool false, Value.bool false, Value.slice (some ⟨w1.heap.size + 1 + 1 + 1 + 1, 0, none⟩) 1 1, Value.bool false, Value.bool true] 80) := Below.box hb (hg 5 _ rfl)
  have hl : w1.heap.size + 6 = W2.heap.size := by omega
  have v0 : SeesV W W2.heap.size (some ⟨w1.heap.size, 0, none⟩) 2 (([[97], [98]] : List (List UInt8)).map encs) := ⟨rfl, fun j u hu => ⟨_, _, rfl, by omega, by
    rw [Nat.zero_add, cell_of_row _ _ _ _ _ _ g0, ← hu]; simp [encs]⟩⟩
  have v1 : SeesV W W2.heap.size (some ⟨w1.heap.size + 1, 0, none⟩) 3 (([[97], [98], [110, 111]] : List (List UInt8)).map encs) := ⟨rfl, fun j u hu => ⟨_, _, rfl, by omega, by
    rw [Nat.zero_add, cell_of_row _ _ _ _ _ _ g1, ← hu]; simp [encs]⟩⟩
  have v2 : SeesV W W2.heap.size none 0 (([] : List (List UInt8)).map encs) := ⟨rfl, fun j u hu => by simp at hu⟩
  have f2 : Fs W W2.heap.size (some ⟨w1.heap.size + 1 + 1, 0, none⟩) 2 [⟨⟨false, [[97], [98]]⟩, 1, true⟩, ⟨⟨true, [[97], [98], [110, 111]]⟩, 2, false⟩] :=
    RowF.fs (fs := [⟨⟨false, [[97], [98]]⟩, 1, true⟩, ⟨⟨true, [[97], [98], [110, 111]]⟩, 2, false⟩]) (vs := [Value.bool false, Value.slice (some ⟨w1.heap.size, 0, none⟩) 2 2, Value.int .i64 1, Value.bool true, Value.bool true, Value.slice (some ⟨w1.heap.size + 1, 0, none⟩) 3 3, Value.int .i64 2, Value.bool false]) ⟨rfl, rfl, rfl, v0, by omega, by simp [maxLen], rfl, rfl, rfl, v1, by omega, by simp [maxLen], trivial⟩ (by omega) (fun j u hu => by rw [Nat.zero_add, cell_of_row _ _ _ _ _ _ g2, ← hu]; simp)
  have f3 : Fs W W2.heap.size (some ⟨w1.heap.size + 1 + 1 + 1, 0, none⟩) 1 [⟨⟨true, []⟩, 2, false⟩] :=
    RowF.fs (fs := [⟨⟨true, []⟩, 2, false⟩]) (vs := [Value.bool true, Value.slice none 0 0, Value.int .i64 2, Value.bool false]) ⟨rfl, rfl, rfl, v2, by omega, by simp [maxLen], trivial⟩ (by omega) (fun j u hu => by rw [Nat.zero_add, cell_of_row _ _ _ _ _ _ g3, ← hu]; simp)
  have f4 : Fs W W2.heap.size (some ⟨w1.heap.size + 1 + 1 + 1 + 1, 0, none⟩) 1 [⟨⟨true, []⟩, 2, false⟩] :=
    RowF.fs (fs := [⟨⟨true, []⟩, 2, false⟩]) (vs := [Value.bool true, Value.slice none 0 0, Value.int .i64 2, Value.bool false]) ⟨rfl, rfl, rfl, v2, by omega, by simp [maxLen], trivial⟩ (by omega) (fun j u hu => by rw [Nat.zero_add, cell_of_row _ _ _ _ _ _ g4, ← hu]; simp)
  exact RowD.ds (fs := s1) (vs := [Value.slice (some ⟨w1.heap.size + 1 + 1, 0, none⟩) 2 2, Value.bool false, Value.bool false, Value.slice (some ⟨w1.heap.size + 1 + 1 + 1, 0, none⟩) 1 1, Value.bool true, Value.bool false, Value.slice none 0 0, Value.bool false, Value.bool false, Value.slice (some ⟨w1.heap.size + 1 + 1 + 1 + 1, 0, none⟩) 1 1, Value.bool false, Value.bool true]) ⟨rfl, rfl, f2, by omega, by simp [maxLen], rfl, rfl, f3, by omega, by simp [maxLen], rfl, rfl, Fs.none_ _ _ _, by omega, by simp [maxLen], rfl, rfl, f4, by omega, by simp [maxLen], trivial⟩ (by omega) (fun j u hu => by rw [Nat.zero_add, cell_of_row _ _ _ _ _ _ g5, ← hu]; simp)

set_option maxHeartbeats 1000000 in
theorem kn_trees {W9 W2 : World} (hW9 : W9 = lay W2 [Obj.cells #[Value.string ⟨#[118]⟩, Value.slice none 0 0] 32, Obj.cells #[Value.string ⟨#[117]⟩, Value.slice none 0 0, Value.string ⟨#[118]⟩, Value.slice none 0 0] 32, Obj.cells #[Value.string ⟨#[97]⟩, Value.slice (some ⟨W2.heap.size, 0, none⟩) 1 1, Value.string ⟨#[98]⟩, Value.slice (some ⟨W2.heap.size, 0, none⟩) 1 1] 32, Obj.cells #[Value.string ⟨#[97]⟩, Value.slice (some ⟨W2.heap.size, 0, none⟩) 1 1] 32, Obj.cells #[Value.string ⟨#[97]⟩, Value.slice (some ⟨W2.heap.size, 0, none⟩) 1 1, Value.string ⟨#[98]⟩, Value.slice (some ⟨W2.heap.size + 1, 0, none⟩) 2 2] 32, Obj.cells #[Value.string ⟨#[97]⟩, Value.slice (some ⟨W2.heap.size, 0, none⟩) 1 1, Value.string ⟨#[98]⟩, Value.slice none 0 0] 32, Obj.cells #[Value.string ⟨#[97]⟩, Value.slice (some ⟨W2.heap.size, 0, none⟩) 1 1, Value.string ⟨#[98]⟩, Value.slice (some ⟨W2.heap.size, 0, none⟩) 1 1, Value.string ⟨#[120]⟩, Value.slice none 0 0] 32, Obj.cells #[Value.string ⟨#[97]⟩, Value.slice (some ⟨W2.heap.size, 0, none⟩) 1 1, Value.string ⟨#[98]⟩, Value.slice (some ⟨W2.heap.size, 0, none⟩) 1 1, Value.string ⟨#[120]⟩, Value.slice (some ⟨W2.heap.size, 0, none⟩) 1 1] 32, Obj.cells #[Value.string ⟨#[97]⟩, Value.slice (some ⟨W2.heap.size, 0, none⟩) 1 1, Value.string ⟨#[98]⟩, Value.slice (some ⟨W2.heap.size, 0, none⟩) 1 1, Value.string ⟨#[110, 111]⟩, Value.slice none 0 0] 32, Obj.cells #[Value.slice (some ⟨W2.heap.size + 1 + 1, 0, none⟩) 2 2, Value.slice (some ⟨W2.heap.size + 1 + 1 + 1, 0, none⟩) 1 1, Value.slice (some ⟨W2.heap.size + 1 + 1 + 1 + 1, 0, none⟩) 2 2, Value.slice (some ⟨W2.heap.size + 1 + 1 + 1 + 1 + 1, 0, none⟩) 2 2, Value.slice (some ⟨W2.heap.size + 1 + 1 + 1 + 1 + 1 + 1, 0, none⟩) 3 3, Value.slice (some ⟨W2.heap.size + 1 + 1 + 1 + 1 + 1 + 1 + 1, 0, none⟩) 3 3, Value.slice (some ⟨W2.heap.size + 1 + 1 + 1 + 1 + 1 + 1 + 1 + 1, 0, none⟩) 3 3, Value.slice none 0 0] 27, Obj.cells #[Value.bool true, Value.bool false, Value.bool false, Value.bool false, Value.bool true, Value.bool false, Value.bool false, Value.bool false] 4]) : Holds W9 W9.heap.size (some ⟨W2.heap.size, 0, none⟩) 1 tv ∧ Holds W9 W9.heap.size (some ⟨W2.heap.size + 1, 0, none⟩) 2 tt ∧
    ∀ k, k < 8 → ∃ (A : Option Addr) (n c : Nat) (x : Tr × Bool), W9.cell? ⟨W2.heap.size + 1 + 1 + 1 + 1 + 1 + 1 + 1 + 1 + 1, k, none⟩ = some (.slice A n c) ∧ W9.cell? ⟨W2.heap.size + 1 + 1 + 1 + 1 + 1 + 1 + 1 + 1 + 1 + 1, k, none⟩ = some (.bool x.2) ∧ x ∈ trees ∧ Holds W9 W9.heap.size A n x.1 := by
  obtain ⟨hs, _, hg⟩ := lay_facts [Obj.cells #[Value.string ⟨#[118]⟩, Value.slice none 0 0] 32, Obj.cells #[Value.string ⟨#[117]⟩, Value.slice none 0 0, Value.string ⟨#[118]⟩, Value.slice none 0 0] 32, Obj.cells #[Value.string ⟨#[97]⟩, Value.slice (some ⟨W2.heap.size, 0, none⟩) 1 1, Value.string ⟨#[98]⟩, Value.slice (some ⟨W2.heap.size, 0, none⟩) 1 1] 32, Obj.cells #[Value.string ⟨#[97]⟩, Value.slice (some ⟨W2.heap.size, 0, none⟩) 1 1] 32, Obj.cells #[Value.string ⟨#[97]⟩, Value.slice (some ⟨W2.heap.size, 0, none⟩) 1 1, Value.string ⟨#[98]⟩, Value.slice (some ⟨W2.heap.size + 1, 0, none⟩) 2 2] 32, Obj.cells #[Value.string ⟨#[97]⟩, Value.slice (some ⟨W2.heap.size, 0, none⟩) 1 1, Value.string ⟨#[98]⟩, Value.slice none 0 0] 32, Obj.cells #[Value.string ⟨#[97]⟩, Value.slice (some ⟨W2.heap.size, 0, none⟩) 1 1, Value.string ⟨#[98]⟩, Value.slice (some ⟨W2.heap.size, 0, none⟩) 1 1, Value.string ⟨#[120]⟩, Value.slice none 0 0] 32, Obj.cells #[Value.string ⟨#[97]⟩, Value.slice (some ⟨W2.heap.size, 0, none⟩) 1 1, Value.string ⟨#[98]⟩, Value.slice (some ⟨W2.heap.size, 0, none⟩) 1 1, Value.string ⟨#[120]⟩, Value.slice (some ⟨W2.heap.size, 0, none⟩) 1 1] 32, Obj.cells #[Value.string ⟨#[97]⟩, Value.slice (some ⟨W2.heap.size, 0, none⟩) 1 1, Value.string ⟨#[98]⟩, Value.slice (some ⟨W2.heap.size, 0, none⟩) 1 1, Value.string ⟨#[110, 111]⟩, Value.slice none 0 0] 32, Obj.cells #[Value.slice (some ⟨W2.heap.size + 1 + 1, 0, none⟩) 2 2, Value.slice (some ⟨W2.heap.size + 1 + 1 + 1, 0, none⟩) 1 1, Value.slice (some ⟨W2.heap.size + 1 + 1 + 1 + 1, 0, none⟩) 2 2, Value.slice (some ⟨W2.heap.size + 1 + 1 + 1 + 1 + 1, 0, none⟩) 2 2, Value.slice (some ⟨W2.heap.size + 1 + 1 + 1 + 1 + 1 + 1, 0, none⟩) 3 3, Value.slice (some ⟨W2.heap.size + 1 + 1 + 1 + 1 + 1 + 1 + 1, 0, none⟩) 3 3, Value.slice (some ⟨W2.heap.size + 1 + 1 + 1 + 1 + 1 + 1 + 1 + 1, 0, none⟩) 3 3, Value.slice none 0 0] 27, Obj.cells #[Value.bool true, Value.bool false, Value.bool false, Value.bool false, Value.bool true, Value.bool false, Value.bool false, Value.bool false] 4] W2
  rw [← hW9] at hs hg
  simp only [List.length_cons, List.length_nil] at hs
  have g0 : W9.heap[W2.heap.size]? = some (Obj.cells #[Value.string ⟨#[118]⟩, Value.slice none 0 0] 32) := hg 0 _ rfl
  have g1 : W9.heap[W2.heap.size + 1]? = some (Obj.cells #[Value.string ⟨#[117]⟩, Value.slice none 0 0, Value.string ⟨#[118]⟩, Value.slice none 0 0] 32) := hg 1 _ rfl
  have g2 : W9.heap[W2.heap.size + 1 + 1]? = some (Obj.cells #[Value.string ⟨#[97]⟩, Value.slice (some ⟨W2.heap.size, 0, none⟩) 1 1, Value.string ⟨#[98]⟩, Value.slice (some ⟨W2.heap.size, 0, none⟩) 1 1] 32) := hg 2 _ rfl
  have g3 : W9.heap[W2.heap.size + 1 + 1 + 1]? = some (Obj.cells #[Value.string ⟨#[97]⟩, Value.slice (some ⟨W2.heap.size, 0, none⟩) 1 1] 32) := hg 3 _ rfl
  have g4 : W9.heap[W2.heap.size + 1 + 1 + 1 + 1]? = some (Obj.cells #[Value.string ⟨#[97]⟩, Value.slice (some ⟨W2.heap.size, 0, none⟩) 1 1, Value.string ⟨#[98]⟩, Value.slice (some ⟨W2.heap.size + 1, 0, none⟩) 2 2] 32) := hg 4 _ rfl
  have g5 : W9.heap[W2.heap.size + 1 + 1 + 1 + 1 + 1]? = some (Obj.cells #[Value.string ⟨#[97]⟩, Value.slice (some ⟨W2.heap.size, 0, none⟩) 1 1, Value.string ⟨#[98]⟩, Value.slice none 0 0] 32) := hg 5 _ rfl
  have g6 : W9.heap[W2.heap.size + 1 + 1 + 1 + 1 + 1 + 1]? = some (Obj.cells #[Value.string ⟨#[97]⟩, Value.slice (some ⟨W2.heap.size, 0, none⟩) 1 1, Value.string ⟨#[98]⟩, Value.slice (some ⟨W2.heap.size, 0, none⟩) 1 1, Value.string ⟨#[120]⟩, Value.slice none 0 0] 32) := hg 6 _ rfl
  have g7 : W9.heap[W2.heap.size + 1 + 1 + 1 + 1 + 1 + 1 + 1]? = some (Obj.cells #[Value.string ⟨#[97]⟩, Value.slice (some ⟨W2.heap.size, 0, none⟩) 1 1, Value.string ⟨#[98]⟩, Value.slice (some ⟨W2.heap.size, 0, none⟩) 1 1, Value.string ⟨#[120]⟩, Value.slice (some ⟨W2.heap.size, 0, none⟩) 1 1] 32) := hg 7 _ rfl
  have g8 : W9.heap[W2.heap.size + 1 + 1 + 1 + 1 + 1 + 1 + 1 + 1]? = some (Obj.cells #[Value.string ⟨#[97]⟩, Value.slice (some ⟨W2.heap.size, 0, none⟩) 1 1, Value.string ⟨#[98]⟩, Value.slice (some ⟨W2.heap.size, 0, none⟩) 1 1, Value.string ⟨#[110, 111]⟩, Value.slice none 0 0] 32) := hg 8 _ rfl
  have g9 : W9.heap[W2.heap.size + 1 + 1 + 1 + 1 + 1 + 1 + 1 + 1 + 1]? = some (Obj.cells #[Value.slice (some ⟨W2.heap.size + 1 + 1, 0, none⟩) 2 2, Value.slice (some ⟨W2.heap.size + 1 + 1 + 1, 0, none⟩) 1 1, Value.slice (some ⟨W2.heap.size + 1 + 1 + 1 + 1, 0, none⟩) 2 2, Value.slice (some ⟨W2.heap.size + 1 + 1 + 1 + 1 + 1, 0, none⟩) 2 2, Value.slice (some ⟨W2.heap.size + 1 + 1 + 1 + 1 + 1 + 1, 0, none⟩) 3 3, Value.slice (some ⟨W2.heap.size + 1 + 1 + 1 + 1 + 1 + 1 + 1, 0, none⟩) 3 3, Value.slice (some ⟨W2.heap.size + 1 + 1 + 1 + 1 + 1 + 1 + 1 + 1, 0, none⟩) 3 3, Value.slice none 0 0] 27) := hg 9 _ rfl
  have g10 : W9.heap[W2.heap.size + 1 + 1 + 1 + 1 + 1 + 1 + 1 + 1 + 1 + 1]? = some (Obj.cells #[Value.bool true, Value.bool false, Value.bool false, Value.bool false, Value.bool true, Value.bool false, Value.bool false, Value.bool false] 4) := hg 10 _ rfl
  have hv : Holds W9 W9.heap.size (some ⟨W2.heap.size, 0, none⟩) 1 tv := holds_cons (by omega) (cell_in g0 0 _ rfl) (cell_in g0 1 _ rfl) (Nat.le_refl 0) (Nat.zero_le _) rfl rfl
  have ht : Holds W9 W9.heap.size (some ⟨W2.heap.size + 1, 0, none⟩) 2 tt := holds_cons (by omega) (cell_in g1 0 _ rfl) (cell_in g1 1 _ rfl) (Nat.le_refl 0) (Nat.zero_le _) rfl (holds_cons (by omega) (cell_in g1 2 _ rfl) (cell_in g1 3 _ rfl) (Nat.le_refl 0) (Nat.zero_le _) rfl rfl)
  refine ⟨hv, ht, fun k hk => ?_⟩
  match k, hk with
  | 0, _ => exact ⟨(some ⟨W2.heap.size + 1 + 1, 0, none⟩), 2, 2, ((.cons ⟨#[97]⟩ tv (.cons ⟨#[98]⟩ tv .nil)), true), cell_in g9 0 _ rfl, cell_in g10 0 _ rfl, by simp [trees], (holds_cons (by omega) (cell_in g2 0 _ rfl) (cell_in g2 1 _ rfl) (Nat.le_refl 1) (by simp [maxLen]) hv (holds_cons (by omega) (cell_in g2 2 _ rfl) (cell_in g2 3 _ rfl) (Nat.le_refl 1) (by simp [maxLen]) hv rfl))⟩
  | 1, _ => exact ⟨(some ⟨W2.heap.size + 1 + 1 + 1, 0, none⟩), 1, 1, ((.cons ⟨#[97]⟩ tv .nil), false), cell_in g9 1 _ rfl, cell_in g10 1 _ rfl, by simp [trees], (holds_cons (by omega) (cell_in g3 0 _ rfl) (cell_in g3 1 _ rfl) (Nat.le_refl 1) (by simp [maxLen]) hv rfl)⟩
  | 2, _ => exact ⟨(some ⟨W2.heap.size + 1 + 1 + 1 + 1, 0, none⟩), 2, 2, ((.cons ⟨#[97]⟩ tv (.cons ⟨#[98]⟩ tt .nil)), false), cell_in g9 2 _ rfl, cell_in g10 2 _ rfl, by simp [trees], (holds_cons (by omega) (cell_in g4 0 _ rfl) (cell_in g4 1 _ rfl) (Nat.le_refl 1) (by simp [maxLen]) hv (holds_cons (by omega) (cell_in g4 2 _ rfl) (cell_in g4 3 _ rfl) (Nat.le_refl 2) (by simp [maxLen]) ht rfl))⟩
  | 3, _ => exact ⟨(some ⟨W2.heap.size + 1 + 1 + 1 + 1 + 1, 0, none⟩), 2, 2, ((.cons ⟨#[97]⟩ tv (.cons ⟨#[98]⟩ .nil .nil)), false), cell_in g9 3 _ rfl, cell_in g10 3 _ rfl, by simp [trees], (holds_cons (by omega) (cell_in g5 0 _ rfl) (cell_in g5 1 _ rfl) (Nat.le_refl 1) (by simp [maxLen]) hv (holds_cons (by omega) (cell_in g5 2 _ rfl) (cell_in g5 3 _ rfl) (Nat.le_refl 0) (Nat.zero_le _) rfl rfl))⟩
  | 4, _ => exact ⟨(some ⟨W2.heap.size + 1 + 1 + 1 + 1 + 1 + 1, 0, none⟩), 3, 3, ((.cons ⟨#[97]⟩ tv (.cons ⟨#[98]⟩ tv (.cons ⟨#[120]⟩ .nil .nil))), true), cell_in g9 4 _ rfl, cell_in g10 4 _ rfl, by simp [trees], (holds_cons (by omega) (cell_in g6 0 _ rfl) (cell_in g6 1 _ rfl) (Nat.le_refl 1) (by simp [maxLen]) hv (holds_cons (by omega) (cell_in g6 2 _ rfl) (cell_in g6 3 _ rfl) (Nat.le_refl 1) (by simp [maxLen]) hv (holds_cons (by omega) (cell_in g6 4 _ rfl) (cell_in g6 5 _ rfl) (Nat.le_refl 0) (Nat.zero_le _) rfl rfl)))⟩
  | 5, _ => exact ⟨(some ⟨W2.heap.size + 1 + 1 + 1 + 1 + 1 + 1 + 1, 0, none⟩), 3, 3, ((.cons ⟨#[97]⟩ tv (.cons ⟨#[98]⟩ tv (.cons ⟨#[120]⟩ tv .nil))), false), cell_in g9 5 _ rfl, cell_in g10 5 _ rfl, by simp [trees], (holds_cons (by omega) (cell_in g7 0 _ rfl) (cell_in g7 1 _ rfl) (Nat.le_refl 1) (by simp [maxLen]) hv (holds_cons (by omega) (cell_in g7 2 _ rfl) (cell_in g7 3 _ rfl) (Nat.le_refl 1) (by simp [maxLen]) hv (holds_cons (by omega) (cell_in g7 4 _ rfl) (cell_in g7 5 _ rfl) (Nat.le_refl 1) (by simp [maxLen]) hv rfl)))⟩
  | 6, _ => exact ⟨(some ⟨W2.heap.size + 1 + 1 + 1 + 1 + 1 + 1 + 1 + 1, 0, none⟩), 3, 3, ((.cons ⟨#[97]⟩ tv (.cons ⟨#[98]⟩ tv (.cons ⟨#[110, 111]⟩ .nil .nil))), false), cell_in g9 6 _ rfl, cell_in g10 6 _ rfl, by simp [trees], (holds_cons (by omega) (cell_in g8 0 _ rfl) (cell_in g8 1 _ rfl) (Nat.le_refl 1) (by simp [maxLen]) hv (holds_cons (by omega) (cell_in g8 2 _ rfl) (cell_in g8 3 _ rfl) (Nat.le_refl 1) (by simp [maxLen]) hv (holds_cons (by omega) (cell_in g8 4 _ rfl) (cell_in g8 5 _ rfl) (Nat.le_refl 0) (Nat.zero_le _) rfl rfl)))⟩
  | 7, _ => exact ⟨none, 0, 0, (.nil, false), cell_in g9 7 _ rfl, cell_in g10 7 _ rfl, by simp [trees], rfl⟩

/-- What the law's calls tell. -/
structure KnC (S A : Value) (b : Bool) (q : Nat) (W9 : World) : Prop where
  h0 : ∀ W, Below W9.heap.size W9 W → Calls Try.prog 49 #[S] W (IsI W9 0)
  hk : ∀ W, Below W9.heap.size W9 W → Calls Try.prog 55 #[S, .int .i64 0, A] W (Is W9 b)
  h1 : ∀ W, Below W9.heap.size W9 W → Calls Try.prog 55 #[S, .int .i64 1, Value.slice (some ⟨q, 0, none⟩) 1 1] W (Is W9 true)
  h2 : ∀ W, Below W9.heap.size W9 W → Calls Try.prog 55 #[S, .int .i64 1, Value.slice (some ⟨q + 1, 0, none⟩) 2 2] W (Is W9 false)
  h3 : ∀ W, Below W9.heap.size W9 W → Calls Try.prog 55 #[S, .int .i64 1, Value.slice none 0 0] W (Is W9 false)
  h4 : ∀ W, Below W9.heap.size W9 W → Calls Try.prog 55 #[S, .int .i64 3, Value.slice (some ⟨q + 1, 0, none⟩) 2 2] W (Is W9 true)
  h5 : ∀ W, Below W9.heap.size W9 W → Calls Try.prog 55 #[S, .int .i64 3, Value.slice none 0 0] W (Is W9 false)
  h6 : ∀ W, Below W9.heap.size W9 W → Calls Try.prog 55 #[S, .int .i64 2, Value.slice none 0 0] W (Is W9 true)
  h7 : ∀ W, Below W9.heap.size W9 W → Calls Try.prog 57 #[S, .int .i64 0, .string ⟨#[110, 111]⟩] W (IsI W9 (-1))
  h8 : ∀ W, Below W9.heap.size W9 W → Calls Try.prog 57 #[S, .int .i64 0, .string ⟨#[98]⟩] W (IsI W9 1)
  h9 : ∀ W, Below W9.heap.size W9 W → Calls Try.prog 57 #[S, .int .i64 0, .string ⟨#[113]⟩] W (IsI W9 2)
  h10 : ∀ W, Below W9.heap.size W9 W → Calls Try.prog 55 #[S, .int .i64 4, Value.slice none 0 0] W (Is W9 false)
  h11 : ∀ W, Below W9.heap.size W9 W → Calls Try.prog 55 #[S, .int .i64 (-1), Value.slice none 0 0] W (Is W9 false)
theorem kn_calls {W9 : World} {p q n c : Nat} {A : Option Addr} {x : Tr × Bool} (hD : Ds W9 W9.heap.size (some ⟨p, 0, none⟩) 4 s1) (hx : x ∈ trees) (hA : Holds W9 W9.heap.size A n x.1) (hv : Holds W9 W9.heap.size (some ⟨q, 0, none⟩) 1 tv) (ht : Holds W9 W9.heap.size (some ⟨q + 1, 0, none⟩) 2 tt) : KnC (.slice (some ⟨p, 0, none⟩) 4 4) (.slice A n c) x.2 q W9 := by
  have fit : ∀ (d : Int) (t : Tr) (A : Option Addr) (n c : Nat) (b : Bool), fits s1 d t = b → t.size ≤ 10 → Holds W9 W9.heap.size A n t → ∀ W, Below W9.heap.size W9 W → Calls Try.prog 55 #[.slice (some ⟨p, 0, none⟩) 4 4, .int .i64 d, .slice A n c] W (Is W9 b) := by
    intro d t A n c b hf hs hh W hb
    refine (fits_any s1 t (some ⟨p, 0, none⟩) 4 4 W9.heap.size d A n c W (hD.below hb) s1_fit hb.size (by omega) (hh.below hb) (by omega)).mono fun e w' h => ?_
    rw [hf] at h
    exact ⟨h.1, hb.trans (h.2.mono hb.size)⟩
  have to' : ∀ (d : Int) (x : ByteArray) (v : Int), toS s1 d x.data.toList = v → ∀ W, Below W9.heap.size W9 W → Calls Try.prog 57 #[.slice (some ⟨p, 0, none⟩) 4 4, .int .i64 d, .string x] W (IsI W9 v) := by
    intro d x v hf W hb
    refine (to_any s1 (some ⟨p, 0, none⟩) 4 4 W9.heap.size d x W (hD.below hb) hb.size (by omega)).mono fun e w' h => ?_
    rw [hf] at h
    exact ⟨h.1, hb.trans (h.2.mono hb.size)⟩
  have hz := trees_fit x hx
  refine ⟨?_, fit 0 x.1 A n c x.2 hz.1 hz.2 hA, fit 1 tv _ 1 1 _ kc0 (by decide) hv, fit 1 tt _ 2 2 _ kc1 (by decide) ht, fit 1 .nil none 0 0 _ kc2 (by decide) rfl, fit 3 tt _ 2 2 _ kc3 (by decide) ht, fit 3 .nil none 0 0 _ kc4 (by decide) rfl, fit 2 .nil none 0 0 _ kc5 (by decide) rfl, to' 0 ⟨#[110, 111]⟩ (-1) kc6, to' 0 ⟨#[98]⟩ 1 kc7, to' 0 ⟨#[113]⟩ 2 kc8, fit 4 .nil none 0 0 _ kc9 (by decide) rfl, fit (-1) .nil none 0 0 _ kc10 (by decide) rfl⟩
  intro W hb
  have := check_any s1 (some ⟨p, 0, none⟩) 4 4 W9.heap.size W hb.size (hD.below hb) s1_fit (by omega)
  rw [s1_chk] at this
  exact this.mono fun e w' h => ⟨h.1, hb.trans (h.2.mono hb.size)⟩


set_option maxHeartbeats 4000000 in
theorem kn_walk (a : Int) (w : World) (ha : -9223372036854775808 ≤ a ∧ a ≤ 9223372036854775807) :
    Calls Try.prog 12 #[.int .i64 a] w fun e w' => e = .returned (.bool true) ∧ Below w.heap.size w w' := by
  obtain ⟨k, hk, HN1'⟩ := within_nat a 8 (by omega) (by omega) ha
  have HN : Hid (∀ w, Calls Try.prog 51 #[.int .i64 a, .int .i64 8] w fun e w' => e = .returned (.int .i64 k) ∧ w = w') := Lib.hid HN1'
  clear HN1'
  go_enter Try.func12, Try.ntmps12
  go_wp2_with fail
  (with_reducible refine (known_any _).mono ?_)
  rintro e w1 ⟨rfl, hb1⟩
  go_wp2_with fail
  obtain ⟨W2, hW2⟩ : ∃ W, W = lay w1 [Obj.cells #[Value.string ⟨#[97]⟩, Value.string ⟨#[98]⟩] 9, Obj.cells #[Value.string ⟨#[97]⟩, Value.string ⟨#[98]⟩, Value.string ⟨#[110, 111]⟩] 9, Obj.cells #[Value.bool false, Value.slice (some ⟨w1.heap.size, 0, none⟩) 2 2, Value.int .i64 1, Value.bool true, Value.bool true, Value.slice (some ⟨w1.heap.size + 1, 0, none⟩) 3 3, Value.int .i64 2, Value.bool false] 83, Obj.cells #[Value.bool true, Value.slice none 0 0, Value.int .i64 2, Value.bool false] 83, Obj.cells #[Value.bool true, Value.slice none 0 0, Value.int .i64 2, Value.bool false] 83, Obj.cells #[Value.slice (some ⟨w1.heap.size + 1 + 1, 0, none⟩) 2 2, Value.bool false, Value.bool false, Value.slice (some ⟨w1.heap.size + 1 + 1 + 1, 0, none⟩) 1 1, Value.bool true, Value.bool false, Value.slice none 0 0, Value.bool false, Value.bool false, Value.slice (some ⟨w1.heap.size + 1 + 1 + 1 + 1, 0, none⟩) 1 1, Value.bool false, Value.bool true] 80] := ⟨_, rfl⟩
  have HW2 : Hid (W2 = (((((w1.alloc (Obj.cells #[Value.string ⟨#[97]⟩, Value.string ⟨#[98]⟩] 9)).alloc (Obj.cells #[Value.string ⟨#[97]⟩, Value.string ⟨#[98]⟩, Value.string ⟨#[110, 111]⟩] 9)).alloc (Obj.cells #[Value.bool false, Value.slice (some ⟨w1.heap.size, 0, none⟩) 2 2, Value.int .i64 1, Value.bool true, Value.bool true, Value.slice (some ⟨w1.heap.size + 1, 0, none⟩) 3 3, Value.int .i64 2, Value.bool false] 83)).alloc (Obj.cells #[Value.bool true, Value.slice none 0 0, Value.int .i64 2, Value.bool false] 83)).alloc (Obj.cells #[Value.bool true, Value.slice none 0 0, Value.int .i64 2, Value.bool false] 83)).alloc (Obj.cells #[Value.slice (some ⟨w1.heap.size + 1 + 1, 0, none⟩) 2 2, Value.bool false, Value.bool false, Value.slice (some ⟨w1.heap.size + 1 + 1 + 1, 0, none⟩) 1 1, Value.bool true, Value.bool false, Value.slice none 0 0, Value.bool false, Value.bool false, Value.slice (some ⟨w1.heap.size + 1 + 1 + 1 + 1, 0, none⟩) 1 1, Value.bool false, Value.bool true] 80)) := Lib.hid hW2
  rw [← HW2.out]
  have HS := Lib.hid (fun W hb => kn_schema (W := W) hW2 hb)
  have HL2 := Lib.hid (lay_facts [Obj.cells #[Value.string ⟨#[97]⟩, Value.string ⟨#[98]⟩] 9, Obj.cells #[Value.string ⟨#[97]⟩, Value.string ⟨#[98]⟩, Value.string ⟨#[110, 111]⟩] 9, Obj.cells #[Value.bool false, Value.slice (some ⟨w1.heap.size, 0, none⟩) 2 2, Value.int .i64 1, Value.bool true, Value.bool true, Value.slice (some ⟨w1.heap.size + 1, 0, none⟩) 3 3, Value.int .i64 2, Value.bool false] 83, Obj.cells #[Value.bool true, Value.slice none 0 0, Value.int .i64 2, Value.bool false] 83, Obj.cells #[Value.bool true, Value.slice none 0 0, Value.int .i64 2, Value.bool false] 83, Obj.cells #[Value.slice (some ⟨w1.heap.size + 1 + 1, 0, none⟩) 2 2, Value.bool false, Value.bool false, Value.slice (some ⟨w1.heap.size + 1 + 1 + 1, 0, none⟩) 1 1, Value.bool true, Value.bool false, Value.slice none 0 0, Value.bool false, Value.bool false, Value.slice (some ⟨w1.heap.size + 1 + 1 + 1 + 1, 0, none⟩) 1 1, Value.bool false, Value.bool true] 80] w1).2.1
  rw [← hW2] at HL2
  obtain ⟨p, hp⟩ : ∃ p, p = w1.heap.size + 1 + 1 + 1 + 1 + 1 := ⟨_, rfl⟩
  rw [← hp] at HS
  simp only [← hp]
  clear HW2 hW2 hp
  (with_reducible refine (value_any _ _).mono ?_)
  rintro e w2 ⟨rfl, rfl⟩
  go_wp2_with fail
  obtain ⟨W9, hW9⟩ : ∃ W, W = lay W2 [Obj.cells #[Value.string ⟨#[118]⟩, Value.slice none 0 0] 32, Obj.cells #[Value.string ⟨#[117]⟩, Value.slice none 0 0, Value.string ⟨#[118]⟩, Value.slice none 0 0] 32, Obj.cells #[Value.string ⟨#[97]⟩, Value.slice (some ⟨W2.heap.size, 0, none⟩) 1 1, Value.string ⟨#[98]⟩, Value.slice (some ⟨W2.heap.size, 0, none⟩) 1 1] 32, Obj.cells #[Value.string ⟨#[97]⟩, Value.slice (some ⟨W2.heap.size, 0, none⟩) 1 1] 32, Obj.cells #[Value.string ⟨#[97]⟩, Value.slice (some ⟨W2.heap.size, 0, none⟩) 1 1, Value.string ⟨#[98]⟩, Value.slice (some ⟨W2.heap.size + 1, 0, none⟩) 2 2] 32, Obj.cells #[Value.string ⟨#[97]⟩, Value.slice (some ⟨W2.heap.size, 0, none⟩) 1 1, Value.string ⟨#[98]⟩, Value.slice none 0 0] 32, Obj.cells #[Value.string ⟨#[97]⟩, Value.slice (some ⟨W2.heap.size, 0, none⟩) 1 1, Value.string ⟨#[98]⟩, Value.slice (some ⟨W2.heap.size, 0, none⟩) 1 1, Value.string ⟨#[120]⟩, Value.slice none 0 0] 32, Obj.cells #[Value.string ⟨#[97]⟩, Value.slice (some ⟨W2.heap.size, 0, none⟩) 1 1, Value.string ⟨#[98]⟩, Value.slice (some ⟨W2.heap.size, 0, none⟩) 1 1, Value.string ⟨#[120]⟩, Value.slice (some ⟨W2.heap.size, 0, none⟩) 1 1] 32, Obj.cells #[Value.string ⟨#[97]⟩, Value.slice (some ⟨W2.heap.size, 0, none⟩) 1 1, Value.string ⟨#[98]⟩, Value.slice (some ⟨W2.heap.size, 0, none⟩) 1 1, Value.string ⟨#[110, 111]⟩, Value.slice none 0 0] 32, Obj.cells #[Value.slice (some ⟨W2.heap.size + 1 + 1, 0, none⟩) 2 2, Value.slice (some ⟨W2.heap.size + 1 + 1 + 1, 0, none⟩) 1 1, Value.slice (some ⟨W2.heap.size + 1 + 1 + 1 + 1, 0, none⟩) 2 2, Value.slice (some ⟨W2.heap.size + 1 + 1 + 1 + 1 + 1, 0, none⟩) 2 2, Value.slice (some ⟨W2.heap.size + 1 + 1 + 1 + 1 + 1 + 1, 0, none⟩) 3 3, Value.slice (some ⟨W2.heap.size + 1 + 1 + 1 + 1 + 1 + 1 + 1, 0, none⟩) 3 3, Value.slice (some ⟨W2.heap.size + 1 + 1 + 1 + 1 + 1 + 1 + 1 + 1, 0, none⟩) 3 3, Value.slice none 0 0] 27, Obj.cells #[Value.bool true, Value.bool false, Value.bool false, Value.bool false, Value.bool true, Value.bool false, Value.bool false, Value.bool false] 4] := ⟨_, rfl⟩
  have HW9 : Hid (W9 = ((((((((((W2.alloc (Obj.cells #[Value.string ⟨#[118]⟩, Value.slice none 0 0] 32)).alloc (Obj.cells #[Value.string ⟨#[117]⟩, Value.slice none 0 0, Value.string ⟨#[118]⟩, Value.slice none 0 0] 32)).alloc (Obj.cells #[Value.string ⟨#[97]⟩, Value.slice (some ⟨W2.heap.size, 0, none⟩) 1 1, Value.string ⟨#[98]⟩, Value.slice (some ⟨W2.heap.size, 0, none⟩) 1 1] 32)).alloc (Obj.cells #[Value.string ⟨#[97]⟩, Value.slice (some ⟨W2.heap.size, 0, none⟩) 1 1] 32)).alloc (Obj.cells #[Value.string ⟨#[97]⟩, Value.slice (some ⟨W2.heap.size, 0, none⟩) 1 1, Value.string ⟨#[98]⟩, Value.slice (some ⟨W2.heap.size + 1, 0, none⟩) 2 2] 32)).alloc (Obj.cells #[Value.string ⟨#[97]⟩, Value.slice (some ⟨W2.heap.size, 0, none⟩) 1 1, Value.string ⟨#[98]⟩, Value.slice none 0 0] 32)).alloc (Obj.cells #[Value.string ⟨#[97]⟩, Value.slice (some ⟨W2.heap.size, 0, none⟩) 1 1, Value.string ⟨#[98]⟩, Value.slice (some ⟨W2.heap.size, 0, none⟩) 1 1, Value.string ⟨#[120]⟩, Value.slice none 0 0] 32)).alloc (Obj.cells #[Value.string ⟨#[97]⟩, Value.slice (some ⟨W2.heap.size, 0, none⟩) 1 1, Value.string ⟨#[98]⟩, Value.slice (some ⟨W2.heap.size, 0, none⟩) 1 1, Value.string ⟨#[120]⟩, Value.slice (some ⟨W2.heap.size, 0, none⟩) 1 1] 32)).alloc (Obj.cells #[Value.string ⟨#[97]⟩, Value.slice (some ⟨W2.heap.size, 0, none⟩) 1 1, Value.string ⟨#[98]⟩, Value.slice (some ⟨W2.heap.size, 0, none⟩) 1 1, Value.string ⟨#[110, 111]⟩, Value.slice none 0 0] 32)).alloc (Obj.cells #[Value.slice (some ⟨W2.heap.size + 1 + 1, 0, none⟩) 2 2, Value.slice (some ⟨W2.heap.size + 1 + 1 + 1, 0, none⟩) 1 1, Value.slice (some ⟨W2.heap.size + 1 + 1 + 1 + 1, 0, none⟩) 2 2, Value.slice (some ⟨W2.heap.size + 1 + 1 + 1 + 1 + 1, 0, none⟩) 2 2, Value.slice (some ⟨W2.heap.size + 1 + 1 + 1 + 1 + 1 + 1, 0, none⟩) 3 3, Value.slice (some ⟨W2.heap.size + 1 + 1 + 1 + 1 + 1 + 1 + 1, 0, none⟩) 3 3, Value.slice (some ⟨W2.heap.size + 1 + 1 + 1 + 1 + 1 + 1 + 1 + 1, 0, none⟩) 3 3, Value.slice none 0 0] 27)).alloc (Obj.cells #[Value.bool true, Value.bool false, Value.bool false, Value.bool false, Value.bool true, Value.bool false, Value.bool false, Value.bool false] 4)) := Lib.hid hW9
  rw [← HW9.out]
  obtain ⟨hv, ht, hT⟩ := kn_trees hW9
  obtain ⟨A, n, c, x, c1, c2, hx, hA⟩ := hT k hk
  have HL9 := Lib.hid (lay_facts [Obj.cells #[Value.string ⟨#[118]⟩, Value.slice none 0 0] 32, Obj.cells #[Value.string ⟨#[117]⟩, Value.slice none 0 0, Value.string ⟨#[118]⟩, Value.slice none 0 0] 32, Obj.cells #[Value.string ⟨#[97]⟩, Value.slice (some ⟨W2.heap.size, 0, none⟩) 1 1, Value.string ⟨#[98]⟩, Value.slice (some ⟨W2.heap.size, 0, none⟩) 1 1] 32, Obj.cells #[Value.string ⟨#[97]⟩, Value.slice (some ⟨W2.heap.size, 0, none⟩) 1 1] 32, Obj.cells #[Value.string ⟨#[97]⟩, Value.slice (some ⟨W2.heap.size, 0, none⟩) 1 1, Value.string ⟨#[98]⟩, Value.slice (some ⟨W2.heap.size + 1, 0, none⟩) 2 2] 32, Obj.cells #[Value.string ⟨#[97]⟩, Value.slice (some ⟨W2.heap.size, 0, none⟩) 1 1, Value.string ⟨#[98]⟩, Value.slice none 0 0] 32, Obj.cells #[Value.string ⟨#[97]⟩, Value.slice (some ⟨W2.heap.size, 0, none⟩) 1 1, Value.string ⟨#[98]⟩, Value.slice (some ⟨W2.heap.size, 0, none⟩) 1 1, Value.string ⟨#[120]⟩, Value.slice none 0 0] 32, Obj.cells #[Value.string ⟨#[97]⟩, Value.slice (some ⟨W2.heap.size, 0, none⟩) 1 1, Value.string ⟨#[98]⟩, Value.slice (some ⟨W2.heap.size, 0, none⟩) 1 1, Value.string ⟨#[120]⟩, Value.slice (some ⟨W2.heap.size, 0, none⟩) 1 1] 32, Obj.cells #[Value.string ⟨#[97]⟩, Value.slice (some ⟨W2.heap.size, 0, none⟩) 1 1, Value.string ⟨#[98]⟩, Value.slice (some ⟨W2.heap.size, 0, none⟩) 1 1, Value.string ⟨#[110, 111]⟩, Value.slice none 0 0] 32, Obj.cells #[Value.slice (some ⟨W2.heap.size + 1 + 1, 0, none⟩) 2 2, Value.slice (some ⟨W2.heap.size + 1 + 1 + 1, 0, none⟩) 1 1, Value.slice (some ⟨W2.heap.size + 1 + 1 + 1 + 1, 0, none⟩) 2 2, Value.slice (some ⟨W2.heap.size + 1 + 1 + 1 + 1 + 1, 0, none⟩) 2 2, Value.slice (some ⟨W2.heap.size + 1 + 1 + 1 + 1 + 1 + 1, 0, none⟩) 3 3, Value.slice (some ⟨W2.heap.size + 1 + 1 + 1 + 1 + 1 + 1 + 1, 0, none⟩) 3 3, Value.slice (some ⟨W2.heap.size + 1 + 1 + 1 + 1 + 1 + 1 + 1 + 1, 0, none⟩) 3 3, Value.slice none 0 0] 27, Obj.cells #[Value.bool true, Value.bool false, Value.bool false, Value.bool false, Value.bool true, Value.bool false, Value.bool false, Value.bool false] 4] W2).2.1
  rw [← hW9] at HL9
  have HK := Lib.hid (kn_calls (c := c) ((HS.out W9 HL9.out).more HL9.out.size) hx hA hv ht)
  obtain ⟨b, hb⟩ : ∃ b, b = x.2 := ⟨_, rfl⟩
  rw [← hb] at c2 HK
  clear hb HW9 hW9 hT hv ht hA hx HS
  have hl9 : W2.heap.size ≤ W9.heap.size := HL9.out.size
  have HB := Lib.hid (hb1.trans ((HL2.out.trans (HL9.out.mono HL2.out.size)).mono hb1.size))
  have hk0 : (0 : Int) ≤ (k : Int) := by omega
  have hk8 : (k : Int) < 8 := by omega
  clear hb1 hl9
  (with_reducible refine (HN.out _).mono ?_)
  rintro e w2 ⟨rfl, rfl⟩
  go_wp2_with fail
  have HK9 := Lib.hid (fun W (hb : Below W9.heap.size W9 W) => (⟨hb, (hb.cell (p := ⟨W2.heap.size + 1 + 1 + 1 + 1 + 1 + 1 + 1 + 1 + 1, k, none⟩) (block_lt c1)).trans c1, (hb.cell (p := ⟨W2.heap.size + 1 + 1 + 1 + 1 + 1 + 1 + 1 + 1 + 1 + 1, k, none⟩) (block_lt c2)).trans c2⟩ : Below W9.heap.size W9 W ∧ W.cell? ⟨W2.heap.size + 1 + 1 + 1 + 1 + 1 + 1 + 1 + 1 + 1, k, none⟩ = some (.slice A n c) ∧ W.cell? ⟨W2.heap.size + 1 + 1 + 1 + 1 + 1 + 1 + 1 + 1 + 1 + 1, k, none⟩ = some (.bool b)))
  have hz0 : Below W9.heap.size W9 W9.drew := (Below.refl _ _).drew
  have hbb : (b == b) = true := by simp
  simp only [List.append]
  go_region_held3 (fun W => Below W9.heap.size W9 W ∧ W.cell? ⟨W2.heap.size + 1 + 1 + 1 + 1 + 1 + 1 + 1 + 1 + 1, k, none⟩ = some (.slice A n c) ∧ W.cell? ⟨W2.heap.size + 1 + 1 + 1 + 1 + 1 + 1 + 1 + 1 + 1 + 1, k, none⟩ = some (.bool b))
    (first | exact HK9.out _ hz11 | exact HK9.out _ hz10 | exact HK9.out _ hz9 | exact HK9.out _ hz8 | exact HK9.out _ hz7 | exact HK9.out _ hz6 | exact HK9.out _ hz5 | exact HK9.out _ hz4 | exact HK9.out _ hz3 | exact HK9.out _ hz2 | exact HK9.out _ hz1 | exact HK9.out _ hbk | exact HK9.out _ hb0 | exact HK9.out _ hz0)
    (first
      | (go_at_call 49; (with_reducible refine (HK.out.h0 _ hz0).mono ?_); rintro e w0 ⟨rfl, hb0⟩)
      | (go_at_call 55; (with_reducible refine (HK.out.hk _ hb0).mono ?_); rintro e w3 ⟨rfl, hbk⟩)

      | (go_at_call 55; (with_reducible refine (HK.out.h1 _ hbk).mono ?_); rintro e v1 ⟨rfl, hz1⟩)
      | (go_at_call 55; (with_reducible refine (HK.out.h2 _ hz1).mono ?_); rintro e v2 ⟨rfl, hz2⟩)
      | (go_at_call 55; (with_reducible refine (HK.out.h3 _ hz2).mono ?_); rintro e v3 ⟨rfl, hz3⟩)
      | (go_at_call 55; (with_reducible refine (HK.out.h4 _ hz3).mono ?_); rintro e v4 ⟨rfl, hz4⟩)
      | (go_at_call 55; (with_reducible refine (HK.out.h5 _ hz4).mono ?_); rintro e v5 ⟨rfl, hz5⟩)
      | (go_at_call 55; (with_reducible refine (HK.out.h6 _ hz5).mono ?_); rintro e v6 ⟨rfl, hz6⟩)
      | (go_at_call 57; (with_reducible refine (HK.out.h7 _ hz6).mono ?_); rintro e v7 ⟨rfl, hz7⟩)
      | (go_at_call 57; (with_reducible refine (HK.out.h8 _ hz7).mono ?_); rintro e v8 ⟨rfl, hz8⟩)
      | (go_at_call 57; (with_reducible refine (HK.out.h9 _ hz8).mono ?_); rintro e v9 ⟨rfl, hz9⟩)
      | (go_at_call 55; (with_reducible refine (HK.out.h10 _ hz9).mono ?_); rintro e v10 ⟨rfl, hz10⟩)
      | (go_at_call 55; (with_reducible refine (HK.out.h11 _ hz10).mono ?_); rintro e v11 ⟨rfl, hz11⟩))
  all_goals
    go_wp2_with fail
    go_ret
    exact ⟨rfl, HB.out.trans (hz11.mono HB.out.size)⟩
end Go.Proofs.Ytagoeededpmdkaa.Sc
