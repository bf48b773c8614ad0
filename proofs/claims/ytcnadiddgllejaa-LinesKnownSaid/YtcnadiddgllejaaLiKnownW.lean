/- LinesKnown's walk. No conditions. -/
import Derived.Test.YtcnadiddgllejaaLiSplitW
namespace Go.Proofs.Ytcnadiddgllejaa.Li
open Go.RowKit
set_option maxRecDepth 100000
attribute [local go_sem ↓] Go.wp_at_zero Go.wp_at_succ

def allocs (w : World) : List Obj → World
  | [] => w
  | o :: r => allocs (w.alloc o) r
theorem allocs_below : ∀ (os : List Obj) (w : World), Below w.heap.size w (allocs w os)
  | [], w => Below.refl _ _
  | o :: r, w => ((Below.refl _ _).alloc (Nat.le_refl _) o).trans ((allocs_below r (w.alloc o)).mono (by simp))
theorem allocs_get : ∀ (os : List Obj) (w : World) (i : Nat) (o : Obj), os[i]? = some o → (allocs w os).heap[w.heap.size + i]? = some o
  | [], w, i, o, h => by simp at h
  | o' :: r, w, 0, o, h => by
    simp only [List.getElem?_cons_zero, Option.some.injEq] at h
    subst h
    have := (allocs_below r (w.alloc o')).block w.heap.size (by simp)
    rw [Nat.add_zero, allocs, this]
    exact heap_alloc_new w o'
  | o' :: r, w, i + 1, o, h => by
    simp only [List.getElem?_cons_succ] at h
    have := allocs_get r (w.alloc o') i o h
    rw [allocs, show w.heap.size + (i + 1) = (w.alloc o').heap.size + i by simp; omega]
    exact this
theorem allocs_size : ∀ (os : List Obj) (w : World), (allocs w os).heap.size = w.heap.size + os.length
  | [], w => rfl
  | o :: r, w => by rw [allocs, allocs_size r (w.alloc o)]; simp; omega

/-- What the law lays: texts, lines, ends. -/
def laid (g : Nat) : List Obj := [.cells #[.string ⟨#[]⟩, .string ⟨#[10]⟩, .string ⟨#[97, 10]⟩, .string ⟨#[97, 13, 10, 98]⟩, .string ⟨#[13, 10, 13]⟩, .string ⟨#[97, 13, 98, 10]⟩, .string ⟨#[10, 10]⟩, .string ⟨#[97, 13, 13, 10]⟩] 9,
  .cells #[.string ⟨#[]⟩, .string ⟨#[10]⟩] 34,
  .cells #[.string ⟨#[97]⟩, .string ⟨#[10]⟩] 34,
  .cells #[.string ⟨#[97]⟩, .string ⟨#[13, 10]⟩, .string ⟨#[98]⟩, .string ⟨#[]⟩] 34,
  .cells #[.string ⟨#[]⟩, .string ⟨#[13, 10]⟩, .string ⟨#[13]⟩, .string ⟨#[]⟩] 34,
  .cells #[.string ⟨#[97, 13, 98]⟩, .string ⟨#[10]⟩] 34,
  .cells #[.string ⟨#[]⟩, .string ⟨#[10]⟩, .string ⟨#[]⟩, .string ⟨#[10]⟩] 34,
  .cells #[.string ⟨#[97, 13]⟩, .string ⟨#[13, 10]⟩] 34,
  .cells #[.slice none 0 0, .slice (some ⟨g + 1, 0, none⟩) 1 1, .slice (some ⟨g + 1 + 1, 0, none⟩) 1 1, .slice (some ⟨g + 1 + 1 + 1, 0, none⟩) 2 2, .slice (some ⟨g + 1 + 1 + 1 + 1, 0, none⟩) 2 2, .slice (some ⟨g + 1 + 1 + 1 + 1 + 1, 0, none⟩) 1 1, .slice (some ⟨g + 1 + 1 + 1 + 1 + 1 + 1, 0, none⟩) 2 2, .slice (some ⟨g + 1 + 1 + 1 + 1 + 1 + 1 + 1, 0, none⟩) 1 1] 26,
  .cells #[.string ⟨#[10]⟩, .string ⟨#[10]⟩, .string ⟨#[10]⟩, .string ⟨#[13, 10]⟩, .string ⟨#[13, 10]⟩, .string ⟨#[10]⟩, .string ⟨#[10]⟩, .string ⟨#[13, 10]⟩] 9]
theorem sees_block {W : World} {g n : Nat} {ls : List Ln} {arr : Array Value} {e : TypeId} (h : W.heap[g]? = some (.cells arr e (0, 0))) (ha : arr.toList = lcells ls) (hn : n = ls.length) : SeesL W W.heap.size (some ⟨g, 0, none⟩) n ls :=
  ⟨hn, fun j u hu => ⟨g, 0, rfl, (Array.getElem?_eq_some_iff.1 h).1, by rw [cell_of_row _ _ _ _ _ _ h, Nat.zero_add, ← Array.getElem?_toList, ha]; exact hu⟩⟩
structure Row8 (W : World) (g k : Nat) (s e : ByteArray) (A : Option Addr) (n : Nat) (ls : List Ln) : Prop where
  split : ls = Li.split s.data.toList
  ends : encs (endOf ls) = .string e
  text : W.cell? ⟨g, k, none⟩ = some (.string s)
  row : W.cell? ⟨g + 1 + 1 + 1 + 1 + 1 + 1 + 1 + 1, k, none⟩ = some (.slice A n n)
  end_ : W.cell? ⟨g + 1 + 1 + 1 + 1 + 1 + 1 + 1 + 1 + 1, k, none⟩ = some (.string e)
  sees : SeesL W W.heap.size A n ls
  small : s.size ≤ 4 ∧ n ≤ 2
theorem row8 (w : World) (k : Nat) (hk : k < 8) : ∃ s e A n ls, Row8 (allocs w (laid w.heap.size)) w.heap.size k s e A n ls := by
  have hg := fun i o h => allocs_get (laid w.heap.size) w i o h
  have c0 := fun j => cell_of_row _ _ j _ _ _ (hg 0 _ rfl)
  have c8 := fun j => cell_of_row _ _ j _ _ _ (hg 8 _ rfl)
  have c9 := fun j => cell_of_row _ _ j _ _ _ (hg 9 _ rfl)
  match k, hk with
  | 0, _ => exact ⟨⟨#[]⟩, ⟨#[10]⟩, none, 0, [], by rfl, rfl, c0 0, c8 0, c9 0, SeesL.nil _ _ _, by decide⟩
  | 1, _ => exact ⟨⟨#[10]⟩, ⟨#[10]⟩, some ⟨w.heap.size + 1, 0, none⟩, 1, [([], [10])], by rfl, rfl, c0 1, c8 1, c9 1, sees_block (hg 1 _ rfl) rfl rfl, by decide⟩
  | 2, _ => exact ⟨⟨#[97, 10]⟩, ⟨#[10]⟩, some ⟨w.heap.size + 2, 0, none⟩, 1, [([97], [10])], by rfl, rfl, c0 2, c8 2, c9 2, sees_block (hg 2 _ rfl) rfl rfl, by decide⟩
  | 3, _ => exact ⟨⟨#[97, 13, 10, 98]⟩, ⟨#[13, 10]⟩, some ⟨w.heap.size + 3, 0, none⟩, 2, [([97], [13, 10]), ([98], [])], by rfl, rfl, c0 3, c8 3, c9 3, sees_block (hg 3 _ rfl) rfl rfl, by decide⟩
  | 4, _ => exact ⟨⟨#[13, 10, 13]⟩, ⟨#[13, 10]⟩, some ⟨w.heap.size + 4, 0, none⟩, 2, [([], [13, 10]), ([13], [])], by rfl, rfl, c0 4, c8 4, c9 4, sees_block (hg 4 _ rfl) rfl rfl, by decide⟩
  | 5, _ => exact ⟨⟨#[97, 13, 98, 10]⟩, ⟨#[10]⟩, some ⟨w.heap.size + 5, 0, none⟩, 1, [([97, 13, 98], [10])], by rfl, rfl, c0 5, c8 5, c9 5, sees_block (hg 5 _ rfl) rfl rfl, by decide⟩
  | 6, _ => exact ⟨⟨#[10, 10]⟩, ⟨#[10]⟩, some ⟨w.heap.size + 6, 0, none⟩, 2, [([], [10]), ([], [10])], by rfl, rfl, c0 6, c8 6, c9 6, sees_block (hg 6 _ rfl) rfl rfl, by decide⟩
  | 7, _ => exact ⟨⟨#[97, 13, 13, 10]⟩, ⟨#[13, 10]⟩, some ⟨w.heap.size + 7, 0, none⟩, 1, [([97, 13], [13, 10])], by rfl, rfl, c0 7, c8 7, c9 7, sees_block (hg 7 _ rfl) rfl rfl, by decide⟩

set_option maxHeartbeats 4000000 in
theorem known_walk (a : Int) (w : World) (ha : -9223372036854775808 ≤ a ∧ a ≤ 9223372036854775807) :
    Calls Try.prog 5 #[.int .i64 a] w fun e w' => e = .returned (.bool true) ∧ Below w.heap.size w w' := by
  have HK := Lib.hid (fun W => known_any W)
  obtain ⟨k, hk, HJ'⟩ := within_nat a 8 (by omega) (by omega) ha
  have HJ0 : Hid (∀ w, Calls Try.prog 16 #[.int .i64 a, .int .i64 8] w fun e w' => e = .returned (.int .i64 k) ∧ w = w') := Lib.hid HJ'
  clear HJ'
  go_enter Try.func5, Try.ntmps5
  go_wp2_with fail
  (with_reducible refine (HK.out _).mono ?_)
  rintro e w1 ⟨rfl, hb1⟩
  go_wp2_with fail
  obtain ⟨s, dd, A, n, ls, h8⟩ := row8 w1 k hk
  have hbw := allocs_below (laid w1.heap.size) w1
  have hsz := allocs_size (laid w1.heap.size) w1
  obtain ⟨W, hW⟩ : ∃ W, W = allocs w1 (laid w1.heap.size) := ⟨_, rfl⟩
  rw [← hW] at h8 hbw hsz
  change Calls _ _ _ (allocs w1 (laid w1.heap.size)) _
  rw [← hW]
  have hsz2 : W.heap.size = w1.heap.size + 10 := hsz
  have Hsz := Lib.hid hsz2
  have H8 := Lib.hid h8
  clear h8 hsz hsz2 hW
  have Hin := Lib.hid (fun W' (hb : Below W.heap.size W W') => (H8.out.sees.below hb).more hb.size)
  have HC := Lib.hid (fun W' (hb : Below W.heap.size W W') => (And.intro hb (And.intro ((hb.cell (p := ⟨w1.heap.size, k, none⟩) (by have := Hsz.out; simp only; omega)).trans H8.out.text) (And.intro ((hb.cell (p := ⟨w1.heap.size + 1 + 1 + 1 + 1 + 1 + 1 + 1 + 1, k, none⟩) (by have := Hsz.out; simp only; omega)).trans H8.out.row) ((hb.cell (p := ⟨w1.heap.size + 1 + 1 + 1 + 1 + 1 + 1 + 1 + 1 + 1, k, none⟩) (by have := Hsz.out; simp only; omega)).trans H8.out.end_))) : Below W.heap.size W W' ∧ W'.cell? ⟨w1.heap.size, k, none⟩ = some (.string s) ∧ W'.cell? ⟨w1.heap.size + 1 + 1 + 1 + 1 + 1 + 1 + 1 + 1, k, none⟩ = some (.slice A n n) ∧ W'.cell? ⟨w1.heap.size + 1 + 1 + 1 + 1 + 1 + 1 + 1 + 1 + 1, k, none⟩ = some (.string dd)))
  have HR1 := Lib.hid (fun W => split_any s W (by have := H8.out.small; omega))
  rw [← H8.out.split] at HR1
  have hnl := H8.out.sees.len
  have HS := Lib.hid (fun W' A2 c2 (hb : Below W.heap.size W W') (h2 : SeesL W' W'.heap.size A2 ls.length ls) => same_any ls A2 A ls.length c2 n n W'.heap.size W' (Nat.le_refl _) h2 (Hin.out W' hb) (by have := H8.out.small; omega))
  have HJ := Lib.hid (fun W' (hb : Below W.heap.size W W') => join_any ls A n n W'.heap.size W' (Nat.le_refl _) (Hin.out W' hb) (by have := H8.out.small; omega) (by rw [H8.out.split, join_len]; have := H8.out.small; omega))
  have HE := Lib.hid (fun W' (hb : Below W.heap.size W W') => end_any ls A n n W'.heap.size W' (Nat.le_refl _) (Hin.out W' hb) (Nat.le_refl _) (by have := H8.out.small; omega))
  rw [H8.out.split, join_bytes] at HJ
  rw [H8.out.ends] at HE
  have b1 : (0 : Int) ≤ (k : Int) := by omega
  have b2 : (k : Int) < 8 := by omega
  have hb0 := (Below.refl W.heap.size W).drew
  clear hnl
  (with_reducible refine (HJ0.out _).mono ?_)
  rintro e w3 ⟨rfl, rfl⟩
  go_wp2_with fail
  go_region_held3 (fun W' => Below W.heap.size W W' ∧ W'.cell? ⟨w1.heap.size, k, none⟩ = some (.string s) ∧ W'.cell? ⟨w1.heap.size + 1 + 1 + 1 + 1 + 1 + 1 + 1 + 1, k, none⟩ = some (.slice A n n) ∧ W'.cell? ⟨w1.heap.size + 1 + 1 + 1 + 1 + 1 + 1 + 1 + 1 + 1, k, none⟩ = some (.string dd))
    (first | exact HC.out _ f4 | exact HC.out _ f3 | exact HC.out _ f2 | exact HC.out _ f1 | exact HC.out _ hb0)
    (first
    | (go_at_call 10; (with_reducible refine (HR1.out _).mono ?_); rintro e v1 ⟨A2, c2, rfl, ho2, e1⟩; have f1 := hb0.trans (e1.mono hb0.size); have i2 := ho2.sees)
    | (go_at_call 11; (with_reducible refine (HS.out _ _ _ f1 i2).mono ?_); rintro e v2 ⟨rfl, e2⟩; have f2 := f1.trans (e2.mono f1.size))
    | (go_at_call 14; (with_reducible refine (HE.out _ f2).mono ?_); rintro e v4 ⟨rfl, e4⟩; have f3 := f2.trans (e4.mono f2.size))
    | (go_at_call 13; (with_reducible refine (HJ.out _ f3).mono ?_); rintro e v3 ⟨rfl, e3⟩; have f4 := f3.trans (e3.mono f3.size)))
  all_goals
    go_wp2_with fail
    go_ret
    exact ⟨rfl, (hb1.trans (hbw.mono hb1.size)).trans (f4.mono (by have := hb1.size; have := hbw.size; omega))⟩
end Go.Proofs.Ytcnadiddgllejaa.Li
