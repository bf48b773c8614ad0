/- TreeKnown: these trees' texts and bytes are just these. No conditions. -/
import Derived.Test.YtmeibcbfjgikhaaLaw2
import Derived.Deep.RegionHeld3
namespace Go.Proofs.Ytmeibcbfjgikhaa
open Go.RowKit
set_option maxRecDepth 100000

/-- Blocks laid one behind the other. -/
def laid (w : World) : List Obj → World
  | [] => w
  | o :: l => laid (w.alloc o) l
theorem laid_size : ∀ (l : List Obj) (w : World), (laid w l).heap.size = w.heap.size + l.length
  | [], _ => rfl
  | o :: l, w => by rw [laid, laid_size l]; simp; omega
theorem laid_old : ∀ (l : List Obj) (w : World) (k : Nat), k < w.heap.size → (laid w l).heap[k]? = w.heap[k]?
  | [], _, _, _ => rfl
  | o :: l, w, k, h => by rw [laid, laid_old l _ k (by simp; omega), Below.heap_alloc w o k h]
theorem laid_get : ∀ (l : List Obj) (w : World) (i : Nat) (o : Obj), l[i]? = some o → (laid w l).heap[w.heap.size + i]? = some o
  | [], _, _, _, h => by simp at h
  | o :: l, w, 0, o', h => by
    rw [laid, laid_old l _ _ (by simp)]
    simp at h
    subst h
    exact heap_alloc_new w o
  | o :: l, w, i + 1, o', h => by
    have := laid_get l (w.alloc o) i o' (by simpa using h)
    rw [laid]
    rw [World.size_alloc] at this
    rw [show w.heap.size + (i + 1) = w.heap.size + 1 + i from by omega]
    exact this
theorem laid_below (l : List Obj) (w : World) : Below w.heap.size w (laid w l) := by
  have : ∀ (l : List Obj) (w : World) (B : Nat), B ≤ w.heap.size → Below B w (laid w l) := by
    intro l
    induction l with
    | nil => intro w B _; exact Below.refl _ _
    | cons o l ih => intro w B hB; exact ((Below.refl B w).alloc hB o).trans (ih (w.alloc o) B (by simp; omega))
  exact this l w _ (Nat.le_refl _)

def kt0 : Tr := .nil
theorem kt0_text : kt0.text = [123, 125] := by rfl
theorem kt0_bin : kt0.bin = [0, 0] := by rfl
def kt1 : Tr := .cons ⟨#[]⟩ .nil .nil
theorem kt1_text : kt1.text = [123, 34, 34, 58, 32, 123, 125, 125] := by rfl
theorem kt1_bin : kt1.bin = [1, 0, 0, 0, 0, 0] := by rfl
def kt2 : Tr := .cons ⟨#[97]⟩ (.cons ⟨#[98]⟩ .nil .nil) (.cons ⟨#[99]⟩ .nil .nil)
theorem kt2_text : kt2.text = [123, 34, 97, 34, 58, 32, 123, 34, 98, 34, 58, 32, 123, 125, 125, 44, 32, 34, 99, 34, 58, 32, 123, 125, 125] := by rfl
theorem kt2_bin : kt2.bin = [2, 0, 1, 0, 97, 1, 0, 1, 0, 98, 0, 0, 1, 0, 99, 0, 0] := by rfl
def kt3 : Tr := .cons ⟨#[34, 92]⟩ .nil .nil
theorem kt3_text : kt3.text = [123, 34, 92, 34, 92, 92, 34, 58, 32, 123, 125, 125] := by rfl
theorem kt3_bin : kt3.bin = [1, 0, 2, 0, 34, 92, 0, 0] := by rfl
def kt4 : Tr := .cons ⟨#[0, 31, 127, 255, 126, 32]⟩ .nil .nil
theorem kt4_text : kt4.text = [123, 34, 92, 120, 48, 48, 92, 120, 49, 102, 92, 120, 55, 102, 92, 120, 102, 102, 126, 32, 34, 58, 32, 123, 125, 125] := by rfl
theorem kt4_bin : kt4.bin = [1, 0, 6, 0, 0, 31, 127, 255, 126, 32, 0, 0] := by rfl

def knownObjs (w1 : World) : List Obj := [(Obj.cells #[.string ⟨#[]⟩, .slice none 0 0] 32), (Obj.cells #[.string ⟨#[98]⟩, .slice none 0 0] 32), (Obj.cells #[.string ⟨#[97]⟩, .slice (some ⟨w1.heap.size + 1, 0, none⟩) 1 1, .string ⟨#[99]⟩, .slice none 0 0] 32), (Obj.cells #[.string ⟨#[34, 92]⟩, .slice none 0 0] 32), (Obj.cells #[.string ⟨#[0, 31, 127, 255, 126, 32]⟩, .slice none 0 0] 32), (Obj.cells #[.slice none 0 0, .slice (some ⟨w1.heap.size, 0, none⟩) 1 1, .slice (some ⟨w1.heap.size + 1 + 1, 0, none⟩) 2 2, .slice (some ⟨w1.heap.size + 1 + 1 + 1, 0, none⟩) 1 1, .slice (some ⟨w1.heap.size + 1 + 1 + 1 + 1, 0, none⟩) 1 1] 27), (Obj.cells #[.string ⟨#[123, 125]⟩, .string ⟨#[123, 34, 34, 58, 32, 123, 125, 125]⟩, .string ⟨#[123, 34, 97, 34, 58, 32, 123, 34, 98, 34, 58, 32, 123, 125, 125, 44, 32, 34, 99, 34, 58, 32, 123, 125, 125]⟩, .string ⟨#[123, 34, 92, 34, 92, 92, 34, 58, 32, 123, 125, 125]⟩, .string ⟨#[123, 34, 92, 120, 48, 48, 92, 120, 49, 102, 92, 120, 55, 102, 92, 120, 102, 102, 126, 32, 34, 58, 32, 123, 125, 125]⟩] 9), (Obj.cells #[.int .u8 0, .int .u8 0] 5), (Obj.cells #[.int .u8 1, .int .u8 0, .int .u8 0, .int .u8 0, .int .u8 0, .int .u8 0] 5), (Obj.cells #[.int .u8 2, .int .u8 0, .int .u8 1, .int .u8 0, .int .u8 97, .int .u8 1, .int .u8 0, .int .u8 1, .int .u8 0, .int .u8 98, .int .u8 0, .int .u8 0, .int .u8 1, .int .u8 0, .int .u8 99, .int .u8 0, .int .u8 0] 5), (Obj.cells #[.int .u8 1, .int .u8 0, .int .u8 2, .int .u8 0, .int .u8 34, .int .u8 92, .int .u8 0, .int .u8 0] 5), (Obj.cells #[.int .u8 1, .int .u8 0, .int .u8 6, .int .u8 0, .int .u8 0, .int .u8 31, .int .u8 127, .int .u8 255, .int .u8 126, .int .u8 32, .int .u8 0, .int .u8 0] 5), (Obj.cells #[.slice (some ⟨w1.heap.size + 1 + 1 + 1 + 1 + 1 + 1 + 1, 0, none⟩) 2 2, .slice (some ⟨w1.heap.size + 1 + 1 + 1 + 1 + 1 + 1 + 1 + 1, 0, none⟩) 6 6, .slice (some ⟨w1.heap.size + 1 + 1 + 1 + 1 + 1 + 1 + 1 + 1 + 1, 0, none⟩) 17 17, .slice (some ⟨w1.heap.size + 1 + 1 + 1 + 1 + 1 + 1 + 1 + 1 + 1 + 1, 0, none⟩) 8 8, .slice (some ⟨w1.heap.size + 1 + 1 + 1 + 1 + 1 + 1 + 1 + 1 + 1 + 1 + 1, 0, none⟩) 12 12] 30)]

theorem lit_sees {w : World} {g n : Nat} {cs : Array Value} {l : List UInt8} {e : TypeId} (h : w.heap[g]? = some (.cells cs e (0, 0))) (hc : cs = (byts l).toArray) (hn : n = l.length := by rfl) : Sees w w.heap.size (some ⟨g, 0, none⟩) n l :=
  ⟨hn, fun j u hu => ⟨⟨g, 0, none⟩, rfl, (Array.getElem?_eq_some_iff.1 h).1, by
    rw [Addr.add_lit, Nat.zero_add, cell_of_row w _ _ _ _ _ h, hc]
    simp [byts, hu]⟩⟩

set_option maxHeartbeats 4000000 in
theorem treeKnown_walk (a : Int) (w : World) (wf : (Lit.int .i64 a).wf = true) : Calls Try.prog 10 #[.int .i64 a] w fun e w' => e = .returned (.bool true) ∧ Below w.heap.size w w' := by
  have hw5 := fun W => within_any a 5 (by omega) (by omega) wf W
  have hk0 : 0 ≤ a % 5 := Int.emod_nonneg _ (by omega)
  have hk5 : a % 5 < 5 := Int.emod_lt_of_pos _ (by omega)
  obtain ⟨k, hk⟩ : ∃ k : Int, k = a % 5 := ⟨_, rfl⟩
  rw [← hk] at hk0 hk5 hw5
  have Hw5 := Lib.hid hw5
  clear hk hw5
  go_enter Try.func10, Try.ntmps10
  go_wp2_with fail
  refine (known_any w).mono ?_
  rintro e w1 ⟨rfl, hb1⟩
  go_wp2_with fail
  refine (Hw5.out _).mono ?_
  rintro e w2 ⟨rfl, rfl⟩
  obtain ⟨W, hW⟩ : ∃ W : World, W = (((((((((((((w1.alloc (Obj.cells #[.string ⟨#[]⟩, .slice none 0 0] 32)).alloc (Obj.cells #[.string ⟨#[98]⟩, .slice none 0 0] 32)).alloc (Obj.cells #[.string ⟨#[97]⟩, .slice (some ⟨w1.heap.size + 1, 0, none⟩) 1 1, .string ⟨#[99]⟩, .slice none 0 0] 32)).alloc (Obj.cells #[.string ⟨#[34, 92]⟩, .slice none 0 0] 32)).alloc (Obj.cells #[.string ⟨#[0, 31, 127, 255, 126, 32]⟩, .slice none 0 0] 32)).alloc (Obj.cells #[.slice none 0 0, .slice (some ⟨w1.heap.size, 0, none⟩) 1 1, .slice (some ⟨w1.heap.size + 1 + 1, 0, none⟩) 2 2, .slice (some ⟨w1.heap.size + 1 + 1 + 1, 0, none⟩) 1 1, .slice (some ⟨w1.heap.size + 1 + 1 + 1 + 1, 0, none⟩) 1 1] 27)).alloc (Obj.cells #[.string ⟨#[123, 125]⟩, .string ⟨#[123, 34, 34, 58, 32, 123, 125, 125]⟩, .string ⟨#[123, 34, 97, 34, 58, 32, 123, 34, 98, 34, 58, 32, 123, 125, 125, 44, 32, 34, 99, 34, 58, 32, 123, 125, 125]⟩, .string ⟨#[123, 34, 92, 34, 92, 92, 34, 58, 32, 123, 125, 125]⟩, .string ⟨#[123, 34, 92, 120, 48, 48, 92, 120, 49, 102, 92, 120, 55, 102, 92, 120, 102, 102, 126, 32, 34, 58, 32, 123, 125, 125]⟩] 9)).alloc (Obj.cells #[.int .u8 0, .int .u8 0] 5)).alloc (Obj.cells #[.int .u8 1, .int .u8 0, .int .u8 0, .int .u8 0, .int .u8 0, .int .u8 0] 5)).alloc (Obj.cells #[.int .u8 2, .int .u8 0, .int .u8 1, .int .u8 0, .int .u8 97, .int .u8 1, .int .u8 0, .int .u8 1, .int .u8 0, .int .u8 98, .int .u8 0, .int .u8 0, .int .u8 1, .int .u8 0, .int .u8 99, .int .u8 0, .int .u8 0] 5)).alloc (Obj.cells #[.int .u8 1, .int .u8 0, .int .u8 2, .int .u8 0, .int .u8 34, .int .u8 92, .int .u8 0, .int .u8 0] 5)).alloc (Obj.cells #[.int .u8 1, .int .u8 0, .int .u8 6, .int .u8 0, .int .u8 0, .int .u8 31, .int .u8 127, .int .u8 255, .int .u8 126, .int .u8 32, .int .u8 0, .int .u8 0] 5)).alloc (Obj.cells #[.slice (some ⟨w1.heap.size + 1 + 1 + 1 + 1 + 1 + 1 + 1, 0, none⟩) 2 2, .slice (some ⟨w1.heap.size + 1 + 1 + 1 + 1 + 1 + 1 + 1 + 1, 0, none⟩) 6 6, .slice (some ⟨w1.heap.size + 1 + 1 + 1 + 1 + 1 + 1 + 1 + 1 + 1, 0, none⟩) 17 17, .slice (some ⟨w1.heap.size + 1 + 1 + 1 + 1 + 1 + 1 + 1 + 1 + 1 + 1, 0, none⟩) 8 8, .slice (some ⟨w1.heap.size + 1 + 1 + 1 + 1 + 1 + 1 + 1 + 1 + 1 + 1 + 1, 0, none⟩) 12 12] 30)) := ⟨_, rfl⟩
  have hWl : W = laid w1 (knownObjs w1) := hW
  rw [← hW]
  have hb0 : W.heap[w1.heap.size]? = some (Obj.cells #[.string ⟨#[]⟩, .slice none 0 0] 32) := by have := laid_get (knownObjs w1) w1 0 _ rfl; rw [← hWl] at this; exact this
  have hb1 : W.heap[w1.heap.size + 1]? = some (Obj.cells #[.string ⟨#[98]⟩, .slice none 0 0] 32) := by have := laid_get (knownObjs w1) w1 1 _ rfl; rw [← hWl] at this; exact this
  have hb2 : W.heap[w1.heap.size + 1 + 1]? = some (Obj.cells #[.string ⟨#[97]⟩, .slice (some ⟨w1.heap.size + 1, 0, none⟩) 1 1, .string ⟨#[99]⟩, .slice none 0 0] 32) := by have := laid_get (knownObjs w1) w1 2 _ rfl; rw [← hWl] at this; exact this
  have hb3 : W.heap[w1.heap.size + 1 + 1 + 1]? = some (Obj.cells #[.string ⟨#[34, 92]⟩, .slice none 0 0] 32) := by have := laid_get (knownObjs w1) w1 3 _ rfl; rw [← hWl] at this; exact this
  have hb4 : W.heap[w1.heap.size + 1 + 1 + 1 + 1]? = some (Obj.cells #[.string ⟨#[0, 31, 127, 255, 126, 32]⟩, .slice none 0 0] 32) := by have := laid_get (knownObjs w1) w1 4 _ rfl; rw [← hWl] at this; exact this
  have hb5 : W.heap[w1.heap.size + 1 + 1 + 1 + 1 + 1]? = some (Obj.cells #[.slice none 0 0, .slice (some ⟨w1.heap.size, 0, none⟩) 1 1, .slice (some ⟨w1.heap.size + 1 + 1, 0, none⟩) 2 2, .slice (some ⟨w1.heap.size + 1 + 1 + 1, 0, none⟩) 1 1, .slice (some ⟨w1.heap.size + 1 + 1 + 1 + 1, 0, none⟩) 1 1] 27) := by have := laid_get (knownObjs w1) w1 5 _ rfl; rw [← hWl] at this; exact this
  have hb6 : W.heap[w1.heap.size + 1 + 1 + 1 + 1 + 1 + 1]? = some (Obj.cells #[.string ⟨#[123, 125]⟩, .string ⟨#[123, 34, 34, 58, 32, 123, 125, 125]⟩, .string ⟨#[123, 34, 97, 34, 58, 32, 123, 34, 98, 34, 58, 32, 123, 125, 125, 44, 32, 34, 99, 34, 58, 32, 123, 125, 125]⟩, .string ⟨#[123, 34, 92, 34, 92, 92, 34, 58, 32, 123, 125, 125]⟩, .string ⟨#[123, 34, 92, 120, 48, 48, 92, 120, 49, 102, 92, 120, 55, 102, 92, 120, 102, 102, 126, 32, 34, 58, 32, 123, 125, 125]⟩] 9) := by have := laid_get (knownObjs w1) w1 6 _ rfl; rw [← hWl] at this; exact this
  have hb7 : W.heap[w1.heap.size + 1 + 1 + 1 + 1 + 1 + 1 + 1]? = some (Obj.cells #[.int .u8 0, .int .u8 0] 5) := by have := laid_get (knownObjs w1) w1 7 _ rfl; rw [← hWl] at this; exact this
  have hb8 : W.heap[w1.heap.size + 1 + 1 + 1 + 1 + 1 + 1 + 1 + 1]? = some (Obj.cells #[.int .u8 1, .int .u8 0, .int .u8 0, .int .u8 0, .int .u8 0, .int .u8 0] 5) := by have := laid_get (knownObjs w1) w1 8 _ rfl; rw [← hWl] at this; exact this
  have hb9 : W.heap[w1.heap.size + 1 + 1 + 1 + 1 + 1 + 1 + 1 + 1 + 1]? = some (Obj.cells #[.int .u8 2, .int .u8 0, .int .u8 1, .int .u8 0, .int .u8 97, .int .u8 1, .int .u8 0, .int .u8 1, .int .u8 0, .int .u8 98, .int .u8 0, .int .u8 0, .int .u8 1, .int .u8 0, .int .u8 99, .int .u8 0, .int .u8 0] 5) := by have := laid_get (knownObjs w1) w1 9 _ rfl; rw [← hWl] at this; exact this
  have hb10 : W.heap[w1.heap.size + 1 + 1 + 1 + 1 + 1 + 1 + 1 + 1 + 1 + 1]? = some (Obj.cells #[.int .u8 1, .int .u8 0, .int .u8 2, .int .u8 0, .int .u8 34, .int .u8 92, .int .u8 0, .int .u8 0] 5) := by have := laid_get (knownObjs w1) w1 10 _ rfl; rw [← hWl] at this; exact this
  have hb11 : W.heap[w1.heap.size + 1 + 1 + 1 + 1 + 1 + 1 + 1 + 1 + 1 + 1 + 1]? = some (Obj.cells #[.int .u8 1, .int .u8 0, .int .u8 6, .int .u8 0, .int .u8 0, .int .u8 31, .int .u8 127, .int .u8 255, .int .u8 126, .int .u8 32, .int .u8 0, .int .u8 0] 5) := by have := laid_get (knownObjs w1) w1 11 _ rfl; rw [← hWl] at this; exact this
  have hb12 : W.heap[w1.heap.size + 1 + 1 + 1 + 1 + 1 + 1 + 1 + 1 + 1 + 1 + 1 + 1]? = some (Obj.cells #[.slice (some ⟨w1.heap.size + 1 + 1 + 1 + 1 + 1 + 1 + 1, 0, none⟩) 2 2, .slice (some ⟨w1.heap.size + 1 + 1 + 1 + 1 + 1 + 1 + 1 + 1, 0, none⟩) 6 6, .slice (some ⟨w1.heap.size + 1 + 1 + 1 + 1 + 1 + 1 + 1 + 1 + 1, 0, none⟩) 17 17, .slice (some ⟨w1.heap.size + 1 + 1 + 1 + 1 + 1 + 1 + 1 + 1 + 1 + 1, 0, none⟩) 8 8, .slice (some ⟨w1.heap.size + 1 + 1 + 1 + 1 + 1 + 1 + 1 + 1 + 1 + 1 + 1, 0, none⟩) 12 12] 30) := by have := laid_get (knownObjs w1) w1 12 _ rfl; rw [← hWl] at this; exact this
  have hbW : Below w1.heap.size w1 W := by rw [hWl]; exact laid_below _ _
  have hold0 : Holds W W.heap.size none 0 kt0 := rfl
  have hsee0 : Sees W W.heap.size (some ⟨w1.heap.size + 1 + 1 + 1 + 1 + 1 + 1 + 1, 0, none⟩) 2 [0, 0] := lit_sees hb7 rfl
  have hcx0 : W.cell? ⟨w1.heap.size + 1 + 1 + 1 + 1 + 1, 0, none⟩ = some (.slice none 0 0) := (by rw [cell_of_row _ _ _ _ _ _ hb5]; rfl)
  have hcy0 : W.cell? ⟨w1.heap.size + 1 + 1 + 1 + 1 + 1 + 1, 0, none⟩ = some (.string ⟨#[123, 125]⟩) := (by rw [cell_of_row _ _ _ _ _ _ hb6]; rfl)
  have hcz0 : W.cell? ⟨w1.heap.size + 1 + 1 + 1 + 1 + 1 + 1 + 1 + 1 + 1 + 1 + 1 + 1, 0, none⟩ = some (.slice (some ⟨w1.heap.size + 1 + 1 + 1 + 1 + 1 + 1 + 1, 0, none⟩) 2 2) := (by rw [cell_of_row _ _ _ _ _ _ hb12]; rfl)
  have hold1 : Holds W W.heap.size (some ⟨w1.heap.size, 0, none⟩) 1 kt1 := Holds.leaf (n := 0) ((Array.getElem?_eq_some_iff.1 hb0).1) (by rw [cell_of_row _ _ _ _ _ _ hb0]; rfl) (by rw [cell_of_row _ _ _ _ _ _ hb0]; rfl) rfl
  have hsee1 : Sees W W.heap.size (some ⟨w1.heap.size + 1 + 1 + 1 + 1 + 1 + 1 + 1 + 1, 0, none⟩) 6 [1, 0, 0, 0, 0, 0] := lit_sees hb8 rfl
  have hcx1 : W.cell? ⟨w1.heap.size + 1 + 1 + 1 + 1 + 1, 1, none⟩ = some (.slice (some ⟨w1.heap.size, 0, none⟩) 1 1) := (by rw [cell_of_row _ _ _ _ _ _ hb5]; rfl)
  have hcy1 : W.cell? ⟨w1.heap.size + 1 + 1 + 1 + 1 + 1 + 1, 1, none⟩ = some (.string ⟨#[123, 34, 34, 58, 32, 123, 125, 125]⟩) := (by rw [cell_of_row _ _ _ _ _ _ hb6]; rfl)
  have hcz1 : W.cell? ⟨w1.heap.size + 1 + 1 + 1 + 1 + 1 + 1 + 1 + 1 + 1 + 1 + 1 + 1, 1, none⟩ = some (.slice (some ⟨w1.heap.size + 1 + 1 + 1 + 1 + 1 + 1 + 1 + 1, 0, none⟩) 6 6) := (by rw [cell_of_row _ _ _ _ _ _ hb12]; rfl)
  have hold2 : Holds W W.heap.size (some ⟨w1.heap.size + 1 + 1, 0, none⟩) 2 kt2 := ⟨_, 0, rfl, ((Array.getElem?_eq_some_iff.1 hb2).1), (by rw [cell_of_row _ _ _ _ _ _ hb2]; rfl), ⟨_, 1, 1, (by rw [cell_of_row _ _ _ _ _ _ hb2]; rfl), Nat.le_refl _, (by simp [maxLen]), Holds.leaf (n := 0) ((Array.getElem?_eq_some_iff.1 hb1).1) (by rw [cell_of_row _ _ _ _ _ _ hb1]; rfl) (by rw [cell_of_row _ _ _ _ _ _ hb1]; rfl) rfl⟩, 1, rfl, Holds.leaf (n := 0) ((Array.getElem?_eq_some_iff.1 hb2).1) (by rw [cell_of_row _ _ _ _ _ _ hb2]; rfl) (by rw [cell_of_row _ _ _ _ _ _ hb2]; rfl) rfl⟩
  have hsee2 : Sees W W.heap.size (some ⟨w1.heap.size + 1 + 1 + 1 + 1 + 1 + 1 + 1 + 1 + 1, 0, none⟩) 17 [2, 0, 1, 0, 97, 1, 0, 1, 0, 98, 0, 0, 1, 0, 99, 0, 0] := lit_sees hb9 rfl
  have hcx2 : W.cell? ⟨w1.heap.size + 1 + 1 + 1 + 1 + 1, 2, none⟩ = some (.slice (some ⟨w1.heap.size + 1 + 1, 0, none⟩) 2 2) := (by rw [cell_of_row _ _ _ _ _ _ hb5]; rfl)
  have hcy2 : W.cell? ⟨w1.heap.size + 1 + 1 + 1 + 1 + 1 + 1, 2, none⟩ = some (.string ⟨#[123, 34, 97, 34, 58, 32, 123, 34, 98, 34, 58, 32, 123, 125, 125, 44, 32, 34, 99, 34, 58, 32, 123, 125, 125]⟩) := (by rw [cell_of_row _ _ _ _ _ _ hb6]; rfl)
  have hcz2 : W.cell? ⟨w1.heap.size + 1 + 1 + 1 + 1 + 1 + 1 + 1 + 1 + 1 + 1 + 1 + 1, 2, none⟩ = some (.slice (some ⟨w1.heap.size + 1 + 1 + 1 + 1 + 1 + 1 + 1 + 1 + 1, 0, none⟩) 17 17) := (by rw [cell_of_row _ _ _ _ _ _ hb12]; rfl)
  have hold3 : Holds W W.heap.size (some ⟨w1.heap.size + 1 + 1 + 1, 0, none⟩) 1 kt3 := Holds.leaf (n := 0) ((Array.getElem?_eq_some_iff.1 hb3).1) (by rw [cell_of_row _ _ _ _ _ _ hb3]; rfl) (by rw [cell_of_row _ _ _ _ _ _ hb3]; rfl) rfl
  have hsee3 : Sees W W.heap.size (some ⟨w1.heap.size + 1 + 1 + 1 + 1 + 1 + 1 + 1 + 1 + 1 + 1, 0, none⟩) 8 [1, 0, 2, 0, 34, 92, 0, 0] := lit_sees hb10 rfl
  have hcx3 : W.cell? ⟨w1.heap.size + 1 + 1 + 1 + 1 + 1, 3, none⟩ = some (.slice (some ⟨w1.heap.size + 1 + 1 + 1, 0, none⟩) 1 1) := (by rw [cell_of_row _ _ _ _ _ _ hb5]; rfl)
  have hcy3 : W.cell? ⟨w1.heap.size + 1 + 1 + 1 + 1 + 1 + 1, 3, none⟩ = some (.string ⟨#[123, 34, 92, 34, 92, 92, 34, 58, 32, 123, 125, 125]⟩) := (by rw [cell_of_row _ _ _ _ _ _ hb6]; rfl)
  have hcz3 : W.cell? ⟨w1.heap.size + 1 + 1 + 1 + 1 + 1 + 1 + 1 + 1 + 1 + 1 + 1 + 1, 3, none⟩ = some (.slice (some ⟨w1.heap.size + 1 + 1 + 1 + 1 + 1 + 1 + 1 + 1 + 1 + 1, 0, none⟩) 8 8) := (by rw [cell_of_row _ _ _ _ _ _ hb12]; rfl)
  have hold4 : Holds W W.heap.size (some ⟨w1.heap.size + 1 + 1 + 1 + 1, 0, none⟩) 1 kt4 := Holds.leaf (n := 0) ((Array.getElem?_eq_some_iff.1 hb4).1) (by rw [cell_of_row _ _ _ _ _ _ hb4]; rfl) (by rw [cell_of_row _ _ _ _ _ _ hb4]; rfl) rfl
  have hsee4 : Sees W W.heap.size (some ⟨w1.heap.size + 1 + 1 + 1 + 1 + 1 + 1 + 1 + 1 + 1 + 1 + 1, 0, none⟩) 12 [1, 0, 6, 0, 0, 31, 127, 255, 126, 32, 0, 0] := lit_sees hb11 rfl
  have hcx4 : W.cell? ⟨w1.heap.size + 1 + 1 + 1 + 1 + 1, 4, none⟩ = some (.slice (some ⟨w1.heap.size + 1 + 1 + 1 + 1, 0, none⟩) 1 1) := (by rw [cell_of_row _ _ _ _ _ _ hb5]; rfl)
  have hcy4 : W.cell? ⟨w1.heap.size + 1 + 1 + 1 + 1 + 1 + 1, 4, none⟩ = some (.string ⟨#[123, 34, 92, 120, 48, 48, 92, 120, 49, 102, 92, 120, 55, 102, 92, 120, 102, 102, 126, 32, 34, 58, 32, 123, 125, 125]⟩) := (by rw [cell_of_row _ _ _ _ _ _ hb6]; rfl)
  have hcz4 : W.cell? ⟨w1.heap.size + 1 + 1 + 1 + 1 + 1 + 1 + 1 + 1 + 1 + 1 + 1 + 1, 4, none⟩ = some (.slice (some ⟨w1.heap.size + 1 + 1 + 1 + 1 + 1 + 1 + 1 + 1 + 1 + 1 + 1, 0, none⟩) 12 12) := (by rw [cell_of_row _ _ _ _ _ _ hb12]; rfl)
  clear hb0 hb1 hb2 hb3 hb4 hb5 hb6 hb7 hb8 hb9 hb10 hb11 hb12 hWl
  have HW := Lib.hid hW
  clear hW
  have hl20 : w1.heap.size + 1 + 1 + 1 + 1 + 1 < W.heap.size := block_lt_of_cell hcx0
  have hl21 : w1.heap.size + 1 + 1 + 1 + 1 + 1 + 1 < W.heap.size := block_lt_of_cell hcy0
  have hl27 : w1.heap.size + 1 + 1 + 1 + 1 + 1 + 1 + 1 + 1 + 1 + 1 + 1 + 1 < W.heap.size := block_lt_of_cell hcz0
  rcases (show k = 0 ∨ k = 1 ∨ k = 2 ∨ k = 3 ∨ k = 4 by omega) with rfl | rfl | rfl | rfl | rfl
  · clear hold1 hsee1 hcx1 hcy1 hcz1 hold2 hsee2 hcx2 hcy2 hcz2 hold3 hsee3 hcx3 hcy3 hcz3 hold4 hsee4 hcx4 hcy4 hcz4
    have hT := fun (u : World) (hu : Below W.heap.size W u) => text_n none 0 0 kt0 u rfl ((hold0.below hu).more hu.size) (Nat.le_refl _) (by simp [maxLen]) (by decide) (by decide)
    have hB := fun (u : World) (hu : Below W.heap.size W u) => bytes_n none 0 0 kt0 u rfl ((hold0.below hu).more hu.size) (Nat.le_refl _) (by simp [maxLen]) (by decide) (by decide)
    rw [kt0_text] at hT
    rw [kt0_bin] at hB
    have HT := Lib.hid hT
    have HB := Lib.hid hB
    have hcv0 := run_text 30 9 5 Try.underlying30 Try.underlying5 Try.underlying9 (c := 2) hsee0.drew
    clear hT hB hold0
    go_wp2_with fail
    refine wp_region_noPanic (wp_region_held_drew (S := fun w' => w'.cell? ⟨w1.heap.size + 1 + 1 + 1 + 1 + 1, 0, none⟩ = some (.slice none 0 0) ∧ w'.cell? ⟨w1.heap.size + 1 + 1 + 1 + 1 + 1 + 1, 0, none⟩ = some (.string ⟨#[123, 125]⟩) ∧ w'.cell? ⟨w1.heap.size + 1 + 1 + 1 + 1 + 1 + 1 + 1 + 1 + 1 + 1 + 1 + 1, 0, none⟩ = some (.slice (some ⟨w1.heap.size + 1 + 1 + 1 + 1 + 1 + 1 + 1, 0, none⟩) 2 2) ∧ (convert 30 9 (.slice (some ⟨w1.heap.size + 1 + 1 + 1 + 1 + 1 + 1 + 1, 0, none⟩) 2 2)).run Try.prog w' = .ok (.string ⟨#[0, 0]⟩) w') (by kernel_rfl) ⟨hcx0, hcy0, hcz0, hcv0⟩ (fun hS0 => ?_))
    refine wpAnyH_take (i := 0) (v := .slice (some ⟨w1.heap.size + 1 + 1 + 1 + 1 + 1, 0, none⟩) 5 5) rfl (by kernel_rfl) (by kernel_rfl) (by kernel_rfl) (fun _ _ _ h => h) (Or.inl ⟨by rfl, ?_⟩) hS0 ?_
    · intro w' hSw
      clear hSw
      go_simp
    simp only [List.getElem_toArray, List.getElem_cons_zero, Act.put, List.setIfInBounds_toArray, List.set_cons_zero, List.set_cons_succ]
    refine wpAnyH_take (i := 1) (v := .int .i64 0) rfl (by kernel_rfl) (by kernel_rfl) (by kernel_rfl) (fun _ _ _ h => h) (Or.inl ⟨by rfl, ?_⟩) hS0 ?_
    · intro w' hSw
      clear hSw
      go_simp
    simp only [List.getElem_toArray, List.getElem_cons_succ, List.getElem_cons_zero, Act.put, List.setIfInBounds_toArray, List.set_cons_zero, List.set_cons_succ]
    refine wpAnyH_take (i := 2) (v := .pointer (some ⟨w1.heap.size + 1 + 1 + 1 + 1 + 1, 0, none⟩)) rfl (by kernel_rfl) (by kernel_rfl) (by kernel_rfl) (fun _ _ _ h => h) (Or.inl ⟨by rfl, ?_⟩) hS0 ?_
    · intro w' hSw
      clear hSw
      go_simp
    simp only [List.getElem_toArray, List.getElem_cons_succ, List.getElem_cons_zero, Act.put, List.setIfInBounds_toArray, List.set_cons_zero, List.set_cons_succ]
    refine wpAnyH_take (i := 3) (v := .slice none 0 0) rfl (by kernel_rfl) (by kernel_rfl) (by kernel_rfl) (fun _ _ _ h => h) (Or.inl ⟨by rfl, ?_⟩) hS0 ?_
    · intro w' hSw
      obtain ⟨hS1, hS2, hS3, hS4⟩ := hSw
      go_simp
    simp only [List.getElem_toArray, List.getElem_cons_succ, List.getElem_cons_zero, Act.put, List.setIfInBounds_toArray, List.set_cons_zero, List.set_cons_succ]
    refine wpAnyH_take (i := 5) (v := .slice (some ⟨w1.heap.size + 1 + 1 + 1 + 1 + 1 + 1, 0, none⟩) 5 5) rfl (by kernel_rfl) (by kernel_rfl) (by kernel_rfl) (fun _ _ _ h => h) (Or.inl ⟨by rfl, ?_⟩) hS0 ?_
    · intro w' hSw
      clear hSw
      go_simp
    simp only [List.getElem_toArray, List.getElem_cons_succ, List.getElem_cons_zero, Act.put, List.setIfInBounds_toArray, List.set_cons_zero, List.set_cons_succ]
    refine wpAnyH_take (i := 6) (v := .int .i64 0) rfl (by kernel_rfl) (by kernel_rfl) (by kernel_rfl) (fun _ _ _ h => h) (Or.inl ⟨by rfl, ?_⟩) hS0 ?_
    · intro w' hSw
      clear hSw
      go_simp
    simp only [List.getElem_toArray, List.getElem_cons_succ, List.getElem_cons_zero, Act.put, List.setIfInBounds_toArray, List.set_cons_zero, List.set_cons_succ]
    refine wpAnyH_take (i := 7) (v := .pointer (some ⟨w1.heap.size + 1 + 1 + 1 + 1 + 1 + 1, 0, none⟩)) rfl (by kernel_rfl) (by kernel_rfl) (by kernel_rfl) (fun _ _ _ h => h) (Or.inl ⟨by rfl, ?_⟩) hS0 ?_
    · intro w' hSw
      clear hSw
      go_simp
    simp only [List.getElem_toArray, List.getElem_cons_succ, List.getElem_cons_zero, Act.put, List.setIfInBounds_toArray, List.set_cons_zero, List.set_cons_succ]
    refine wpAnyH_take (i := 8) (v := .string ⟨#[123, 125]⟩) rfl (by kernel_rfl) (by kernel_rfl) (by kernel_rfl) (fun _ _ _ h => h) (Or.inl ⟨by rfl, ?_⟩) hS0 ?_
    · intro w' hSw
      obtain ⟨hS1, hS2, hS3, hS4⟩ := hSw
      go_simp
    simp only [List.getElem_toArray, List.getElem_cons_succ, List.getElem_cons_zero, Act.put, List.setIfInBounds_toArray, List.set_cons_zero, List.set_cons_succ]
    refine wpAnyH_ready (rs := [4]) (by kernel_rfl) (by simp) (AllReadyH.cons rfl (fun K hK => ?_) AllReadyH.nil)
    go_simp
    refine (HT.out _ (Below.refl _ W).drew).mono ?_
    rintro e u1 ⟨rfl, hu1⟩
    have hx1 := (hu1.cell (p := ⟨w1.heap.size + 1 + 1 + 1 + 1 + 1, 0, none⟩) hl20).trans hcx0
    have hy1 := (hu1.cell (p := ⟨w1.heap.size + 1 + 1 + 1 + 1 + 1 + 1, 0, none⟩) hl21).trans hcy0
    have hz1 := (hu1.cell (p := ⟨w1.heap.size + 1 + 1 + 1 + 1 + 1 + 1 + 1 + 1 + 1 + 1 + 1 + 1, 0, none⟩) hl27).trans hcz0
    have hcv1 := run_text 30 9 5 Try.underlying30 Try.underlying5 Try.underlying9 (c := 2) (hsee0.drew.below hu1)
    refine hK.out _ _ ⟨hx1, hy1, hz1, hcv1⟩ (fun hS0 => ?_)
    clear hK K
    refine wpAnyH_take (i := 9) (v := .bool true) rfl (by kernel_rfl) (by kernel_rfl) (by kernel_rfl) (fun _ _ _ h => h) (Or.inl ⟨by rfl, ?_⟩) hS0 ?_
    · intro w' hSw
      clear hSw
      go_simp
    simp only [List.getElem_toArray, List.getElem_cons_succ, List.getElem_cons_zero, Act.put, List.setIfInBounds_toArray, List.set_cons_zero, List.set_cons_succ]
    refine wpAnyH_take (i := 10) (v := .bool true) rfl (by kernel_rfl) (by kernel_rfl) (by kernel_rfl) (fun _ _ _ h => h) (Or.inl ⟨by rfl, ?_⟩) hS0 ?_
    · intro w' hSw
      clear hSw
      go_simp
    simp only [List.getElem_toArray, List.getElem_cons_succ, List.getElem_cons_zero, Act.put, List.setIfInBounds_toArray, List.set_cons_zero, List.set_cons_succ]
    refine wpAnyH_take (i := 11) (v := .slice (some ⟨w1.heap.size + 1 + 1 + 1 + 1 + 1, 0, none⟩) 5 5) rfl (by kernel_rfl) (by kernel_rfl) (by kernel_rfl) (fun _ _ _ h => h) (Or.inl ⟨by rfl, ?_⟩) hS0 ?_
    · intro w' hSw
      clear hSw
      go_simp
    simp only [List.getElem_toArray, List.getElem_cons_succ, List.getElem_cons_zero, Act.put, List.setIfInBounds_toArray, List.set_cons_zero, List.set_cons_succ]
    refine wpAnyH_take (i := 12) (v := .int .i64 0) rfl (by kernel_rfl) (by kernel_rfl) (by kernel_rfl) (fun _ _ _ h => h) (Or.inl ⟨by rfl, ?_⟩) hS0 ?_
    · intro w' hSw
      clear hSw
      go_simp
    simp only [List.getElem_toArray, List.getElem_cons_succ, List.getElem_cons_zero, Act.put, List.setIfInBounds_toArray, List.set_cons_zero, List.set_cons_succ]
    refine wpAnyH_take (i := 13) (v := .pointer (some ⟨w1.heap.size + 1 + 1 + 1 + 1 + 1, 0, none⟩)) rfl (by kernel_rfl) (by kernel_rfl) (by kernel_rfl) (fun _ _ _ h => h) (Or.inl ⟨by rfl, ?_⟩) hS0 ?_
    · intro w' hSw
      clear hSw
      go_simp
    simp only [List.getElem_toArray, List.getElem_cons_succ, List.getElem_cons_zero, Act.put, List.setIfInBounds_toArray, List.set_cons_zero, List.set_cons_succ]
    refine wpAnyH_take (i := 14) (v := .slice none 0 0) rfl (by kernel_rfl) (by kernel_rfl) (by kernel_rfl) (fun _ _ _ h => h) (Or.inl ⟨by rfl, ?_⟩) hS0 ?_
    · intro w' hSw
      obtain ⟨hS1, hS2, hS3, hS4⟩ := hSw
      go_simp
    simp only [List.getElem_toArray, List.getElem_cons_succ, List.getElem_cons_zero, Act.put, List.setIfInBounds_toArray, List.set_cons_zero, List.set_cons_succ]
    refine wpAnyH_take (i := 17) (v := .slice (some ⟨w1.heap.size + 1 + 1 + 1 + 1 + 1 + 1 + 1 + 1 + 1 + 1 + 1 + 1, 0, none⟩) 5 5) rfl (by kernel_rfl) (by kernel_rfl) (by kernel_rfl) (fun _ _ _ h => h) (Or.inl ⟨by rfl, ?_⟩) hS0 ?_
    · intro w' hSw
      clear hSw
      go_simp
    simp only [List.getElem_toArray, List.getElem_cons_succ, List.getElem_cons_zero, Act.put, List.setIfInBounds_toArray, List.set_cons_zero, List.set_cons_succ]
    refine wpAnyH_take (i := 18) (v := .int .i64 0) rfl (by kernel_rfl) (by kernel_rfl) (by kernel_rfl) (fun _ _ _ h => h) (Or.inl ⟨by rfl, ?_⟩) hS0 ?_
    · intro w' hSw
      clear hSw
      go_simp
    simp only [List.getElem_toArray, List.getElem_cons_succ, List.getElem_cons_zero, Act.put, List.setIfInBounds_toArray, List.set_cons_zero, List.set_cons_succ]
    refine wpAnyH_take (i := 19) (v := .pointer (some ⟨w1.heap.size + 1 + 1 + 1 + 1 + 1 + 1 + 1 + 1 + 1 + 1 + 1 + 1, 0, none⟩)) rfl (by kernel_rfl) (by kernel_rfl) (by kernel_rfl) (fun _ _ _ h => h) (Or.inl ⟨by rfl, ?_⟩) hS0 ?_
    · intro w' hSw
      clear hSw
      go_simp
    simp only [List.getElem_toArray, List.getElem_cons_succ, List.getElem_cons_zero, Act.put, List.setIfInBounds_toArray, List.set_cons_zero, List.set_cons_succ]
    refine wpAnyH_take (i := 20) (v := .slice (some ⟨w1.heap.size + 1 + 1 + 1 + 1 + 1 + 1 + 1, 0, none⟩) 2 2) rfl (by kernel_rfl) (by kernel_rfl) (by kernel_rfl) (fun _ _ _ h => h) (Or.inl ⟨by rfl, ?_⟩) hS0 ?_
    · intro w' hSw
      obtain ⟨hS1, hS2, hS3, hS4⟩ := hSw
      go_simp
    simp only [List.getElem_toArray, List.getElem_cons_succ, List.getElem_cons_zero, Act.put, List.setIfInBounds_toArray, List.set_cons_zero, List.set_cons_succ]
    refine wpAnyH_take (i := 21) (v := .string ⟨#[0, 0]⟩) rfl (by kernel_rfl) (by kernel_rfl) (by kernel_rfl) (fun _ _ _ h => h) (Or.inl ⟨by rfl, ?_⟩) hS0 ?_
    · intro w' hSw
      obtain ⟨hS1, hS2, hS3, hS4⟩ := hSw
      go_simp
    simp only [List.getElem_toArray, List.getElem_cons_succ, List.getElem_cons_zero, Act.put, List.setIfInBounds_toArray, List.set_cons_zero, List.set_cons_succ]
    refine wpAnyH_ready (rs := [15]) (by kernel_rfl) (by simp) (AllReadyH.cons rfl (fun K hK => ?_) AllReadyH.nil)
    go_simp
    refine (HB.out u1 ((Below.refl _ W).drew.trans hu1)).mono ?_
    rintro e u2 ⟨A2, N2, c2, rfl, ho2, hu2⟩
    have hx2 := (hu2.cell (p := ⟨w1.heap.size + 1 + 1 + 1 + 1 + 1, 0, none⟩) (Nat.lt_of_lt_of_le hl20 hu1.size)).trans hx1
    have hy2 := (hu2.cell (p := ⟨w1.heap.size + 1 + 1 + 1 + 1 + 1 + 1, 0, none⟩) (Nat.lt_of_lt_of_le hl21 hu1.size)).trans hy1
    have hz2 := (hu2.cell (p := ⟨w1.heap.size + 1 + 1 + 1 + 1 + 1 + 1 + 1 + 1 + 1 + 1 + 1 + 1, 0, none⟩) (Nat.lt_of_lt_of_le hl27 hu1.size)).trans hz1
    have hcv2 := run_text 30 9 5 Try.underlying30 Try.underlying5 Try.underlying9 (c := 2) ((hsee0.drew.below hu1).below (hu2.mono hu1.size))
    have hcv3 := run_text 30 9 5 Try.underlying30 Try.underlying5 Try.underlying9 (c := c2) ho2.sees
    refine hK.out _ _ ⟨hx2, hy2, hz2, hcv2⟩ (fun hS0 => ?_)
    clear hK K
    refine wpAnyH_ready (rs := [16]) (by kernel_rfl) (by simp) (AllReadyH.cons rfl (fun K hK => ?_) AllReadyH.nil)
    go_simp
    refine hK.out _ _ ⟨hx2, hy2, hz2, hcv2⟩ (fun hS0 => ?_)
    clear hK K
    refine wpAnyH_take (i := 22) (v := .bool true) rfl (by kernel_rfl) (by kernel_rfl) (by kernel_rfl) (fun _ _ _ h => h) (Or.inl ⟨by rfl, ?_⟩) hS0 ?_
    · intro w' hSw
      clear hSw
      go_simp
    simp only [List.getElem_toArray, List.getElem_cons_succ, List.getElem_cons_zero, Act.put, List.setIfInBounds_toArray, List.set_cons_zero, List.set_cons_succ]
    refine wpAnyH_take (i := 23) (v := .bool true) rfl (by kernel_rfl) (by kernel_rfl) (by kernel_rfl) (fun _ _ _ h => h) (Or.inl ⟨by rfl, ?_⟩) hS0 ?_
    · intro w' hSw
      clear hSw
      go_simp
    simp only [List.getElem_toArray, List.getElem_cons_succ, List.getElem_cons_zero, Act.put, List.setIfInBounds_toArray, List.set_cons_zero, List.set_cons_succ]
    refine wpAnyH_take (i := 24) (v := .bool true) rfl (by kernel_rfl) (by kernel_rfl) (by kernel_rfl) (fun _ _ _ h => h) (Or.inl ⟨by rfl, ?_⟩) hS0 ?_
    · intro w' hSw
      clear hSw
      go_simp
    simp only [List.getElem_toArray, List.getElem_cons_succ, List.getElem_cons_zero, Act.put, List.setIfInBounds_toArray, List.set_cons_zero, List.set_cons_succ]
    refine wpAnyH_done (by kernel_rfl) ?_ _
    refine NoPanic.normal ?_
    go_wp2_with fail
    go_ret
    exact ⟨rfl, hb1.trans ((((hbW.drew).trans (hu1.mono hbW.size)).trans (hu2.mono (Nat.le_trans hbW.size hu1.size))).mono hb1.size)⟩
  · clear hold0 hsee0 hcx0 hcy0 hcz0 hold2 hsee2 hcx2 hcy2 hcz2 hold3 hsee3 hcx3 hcy3 hcz3 hold4 hsee4 hcx4 hcy4 hcz4
    have hT := fun (u : World) (hu : Below W.heap.size W u) => text_n (some ⟨w1.heap.size, 0, none⟩) 1 1 kt1 u rfl ((hold1.below hu).more hu.size) (Nat.le_refl _) (by simp [maxLen]) (by decide) (by decide)
    have hB := fun (u : World) (hu : Below W.heap.size W u) => bytes_n (some ⟨w1.heap.size, 0, none⟩) 1 1 kt1 u rfl ((hold1.below hu).more hu.size) (Nat.le_refl _) (by simp [maxLen]) (by decide) (by decide)
    rw [kt1_text] at hT
    rw [kt1_bin] at hB
    have HT := Lib.hid hT
    have HB := Lib.hid hB
    have hcv0 := run_text 30 9 5 Try.underlying30 Try.underlying5 Try.underlying9 (c := 6) hsee1.drew
    clear hT hB hold1
    go_wp2_with fail
    refine wp_region_noPanic (wp_region_held_drew (S := fun w' => w'.cell? ⟨w1.heap.size + 1 + 1 + 1 + 1 + 1, 1, none⟩ = some (.slice (some ⟨w1.heap.size, 0, none⟩) 1 1) ∧ w'.cell? ⟨w1.heap.size + 1 + 1 + 1 + 1 + 1 + 1, 1, none⟩ = some (.string ⟨#[123, 34, 34, 58, 32, 123, 125, 125]⟩) ∧ w'.cell? ⟨w1.heap.size + 1 + 1 + 1 + 1 + 1 + 1 + 1 + 1 + 1 + 1 + 1 + 1, 1, none⟩ = some (.slice (some ⟨w1.heap.size + 1 + 1 + 1 + 1 + 1 + 1 + 1 + 1, 0, none⟩) 6 6) ∧ (convert 30 9 (.slice (some ⟨w1.heap.size + 1 + 1 + 1 + 1 + 1 + 1 + 1 + 1, 0, none⟩) 6 6)).run Try.prog w' = .ok (.string ⟨#[1, 0, 0, 0, 0, 0]⟩) w') (by kernel_rfl) ⟨hcx1, hcy1, hcz1, hcv0⟩ (fun hS0 => ?_))
    refine wpAnyH_take (i := 0) (v := .slice (some ⟨w1.heap.size + 1 + 1 + 1 + 1 + 1, 0, none⟩) 5 5) rfl (by kernel_rfl) (by kernel_rfl) (by kernel_rfl) (fun _ _ _ h => h) (Or.inl ⟨by rfl, ?_⟩) hS0 ?_
    · intro w' hSw
      clear hSw
      go_simp
    simp only [List.getElem_toArray, List.getElem_cons_zero, Act.put, List.setIfInBounds_toArray, List.set_cons_zero, List.set_cons_succ]
    refine wpAnyH_take (i := 1) (v := .int .i64 1) rfl (by kernel_rfl) (by kernel_rfl) (by kernel_rfl) (fun _ _ _ h => h) (Or.inl ⟨by rfl, ?_⟩) hS0 ?_
    · intro w' hSw
      clear hSw
      go_simp
    simp only [List.getElem_toArray, List.getElem_cons_succ, List.getElem_cons_zero, Act.put, List.setIfInBounds_toArray, List.set_cons_zero, List.set_cons_succ]
    refine wpAnyH_take (i := 2) (v := .pointer (some ⟨w1.heap.size + 1 + 1 + 1 + 1 + 1, 1, none⟩)) rfl (by kernel_rfl) (by kernel_rfl) (by kernel_rfl) (fun _ _ _ h => h) (Or.inl ⟨by rfl, ?_⟩) hS0 ?_
    · intro w' hSw
      clear hSw
      go_simp
    simp only [List.getElem_toArray, List.getElem_cons_succ, List.getElem_cons_zero, Act.put, List.setIfInBounds_toArray, List.set_cons_zero, List.set_cons_succ]
    refine wpAnyH_take (i := 3) (v := .slice (some ⟨w1.heap.size, 0, none⟩) 1 1) rfl (by kernel_rfl) (by kernel_rfl) (by kernel_rfl) (fun _ _ _ h => h) (Or.inl ⟨by rfl, ?_⟩) hS0 ?_
    · intro w' hSw
      obtain ⟨hS1, hS2, hS3, hS4⟩ := hSw
      go_simp
    simp only [List.getElem_toArray, List.getElem_cons_succ, List.getElem_cons_zero, Act.put, List.setIfInBounds_toArray, List.set_cons_zero, List.set_cons_succ]
    refine wpAnyH_take (i := 5) (v := .slice (some ⟨w1.heap.size + 1 + 1 + 1 + 1 + 1 + 1, 0, none⟩) 5 5) rfl (by kernel_rfl) (by kernel_rfl) (by kernel_rfl) (fun _ _ _ h => h) (Or.inl ⟨by rfl, ?_⟩) hS0 ?_
    · intro w' hSw
      clear hSw
      go_simp
    simp only [List.getElem_toArray, List.getElem_cons_succ, List.getElem_cons_zero, Act.put, List.setIfInBounds_toArray, List.set_cons_zero, List.set_cons_succ]
    refine wpAnyH_take (i := 6) (v := .int .i64 1) rfl (by kernel_rfl) (by kernel_rfl) (by kernel_rfl) (fun _ _ _ h => h) (Or.inl ⟨by rfl, ?_⟩) hS0 ?_
    · intro w' hSw
      clear hSw
      go_simp
    simp only [List.getElem_toArray, List.getElem_cons_succ, List.getElem_cons_zero, Act.put, List.setIfInBounds_toArray, List.set_cons_zero, List.set_cons_succ]
    refine wpAnyH_take (i := 7) (v := .pointer (some ⟨w1.heap.size + 1 + 1 + 1 + 1 + 1 + 1, 1, none⟩)) rfl (by kernel_rfl) (by kernel_rfl) (by kernel_rfl) (fun _ _ _ h => h) (Or.inl ⟨by rfl, ?_⟩) hS0 ?_
    · intro w' hSw
      clear hSw
      go_simp
    simp only [List.getElem_toArray, List.getElem_cons_succ, List.getElem_cons_zero, Act.put, List.setIfInBounds_toArray, List.set_cons_zero, List.set_cons_succ]
    refine wpAnyH_take (i := 8) (v := .string ⟨#[123, 34, 34, 58, 32, 123, 125, 125]⟩) rfl (by kernel_rfl) (by kernel_rfl) (by kernel_rfl) (fun _ _ _ h => h) (Or.inl ⟨by rfl, ?_⟩) hS0 ?_
    · intro w' hSw
      obtain ⟨hS1, hS2, hS3, hS4⟩ := hSw
      go_simp
    simp only [List.getElem_toArray, List.getElem_cons_succ, List.getElem_cons_zero, Act.put, List.setIfInBounds_toArray, List.set_cons_zero, List.set_cons_succ]
    refine wpAnyH_ready (rs := [4]) (by kernel_rfl) (by simp) (AllReadyH.cons rfl (fun K hK => ?_) AllReadyH.nil)
    go_simp
    refine (HT.out _ (Below.refl _ W).drew).mono ?_
    rintro e u1 ⟨rfl, hu1⟩
    have hx1 := (hu1.cell (p := ⟨w1.heap.size + 1 + 1 + 1 + 1 + 1, 1, none⟩) hl20).trans hcx1
    have hy1 := (hu1.cell (p := ⟨w1.heap.size + 1 + 1 + 1 + 1 + 1 + 1, 1, none⟩) hl21).trans hcy1
    have hz1 := (hu1.cell (p := ⟨w1.heap.size + 1 + 1 + 1 + 1 + 1 + 1 + 1 + 1 + 1 + 1 + 1 + 1, 1, none⟩) hl27).trans hcz1
    have hcv1 := run_text 30 9 5 Try.underlying30 Try.underlying5 Try.underlying9 (c := 6) (hsee1.drew.below hu1)
    refine hK.out _ _ ⟨hx1, hy1, hz1, hcv1⟩ (fun hS0 => ?_)
    clear hK K
    refine wpAnyH_take (i := 9) (v := .bool true) rfl (by kernel_rfl) (by kernel_rfl) (by kernel_rfl) (fun _ _ _ h => h) (Or.inl ⟨by rfl, ?_⟩) hS0 ?_
    · intro w' hSw
      clear hSw
      go_simp
    simp only [List.getElem_toArray, List.getElem_cons_succ, List.getElem_cons_zero, Act.put, List.setIfInBounds_toArray, List.set_cons_zero, List.set_cons_succ]
    refine wpAnyH_take (i := 10) (v := .bool true) rfl (by kernel_rfl) (by kernel_rfl) (by kernel_rfl) (fun _ _ _ h => h) (Or.inl ⟨by rfl, ?_⟩) hS0 ?_
    · intro w' hSw
      clear hSw
      go_simp
    simp only [List.getElem_toArray, List.getElem_cons_succ, List.getElem_cons_zero, Act.put, List.setIfInBounds_toArray, List.set_cons_zero, List.set_cons_succ]
    refine wpAnyH_take (i := 11) (v := .slice (some ⟨w1.heap.size + 1 + 1 + 1 + 1 + 1, 0, none⟩) 5 5) rfl (by kernel_rfl) (by kernel_rfl) (by kernel_rfl) (fun _ _ _ h => h) (Or.inl ⟨by rfl, ?_⟩) hS0 ?_
    · intro w' hSw
      clear hSw
      go_simp
    simp only [List.getElem_toArray, List.getElem_cons_succ, List.getElem_cons_zero, Act.put, List.setIfInBounds_toArray, List.set_cons_zero, List.set_cons_succ]
    refine wpAnyH_take (i := 12) (v := .int .i64 1) rfl (by kernel_rfl) (by kernel_rfl) (by kernel_rfl) (fun _ _ _ h => h) (Or.inl ⟨by rfl, ?_⟩) hS0 ?_
    · intro w' hSw
      clear hSw
      go_simp
    simp only [List.getElem_toArray, List.getElem_cons_succ, List.getElem_cons_zero, Act.put, List.setIfInBounds_toArray, List.set_cons_zero, List.set_cons_succ]
    refine wpAnyH_take (i := 13) (v := .pointer (some ⟨w1.heap.size + 1 + 1 + 1 + 1 + 1, 1, none⟩)) rfl (by kernel_rfl) (by kernel_rfl) (by kernel_rfl) (fun _ _ _ h => h) (Or.inl ⟨by rfl, ?_⟩) hS0 ?_
    · intro w' hSw
      clear hSw
      go_simp
    simp only [List.getElem_toArray, List.getElem_cons_succ, List.getElem_cons_zero, Act.put, List.setIfInBounds_toArray, List.set_cons_zero, List.set_cons_succ]
    refine wpAnyH_take (i := 14) (v := .slice (some ⟨w1.heap.size, 0, none⟩) 1 1) rfl (by kernel_rfl) (by kernel_rfl) (by kernel_rfl) (fun _ _ _ h => h) (Or.inl ⟨by rfl, ?_⟩) hS0 ?_
    · intro w' hSw
      obtain ⟨hS1, hS2, hS3, hS4⟩ := hSw
      go_simp
    simp only [List.getElem_toArray, List.getElem_cons_succ, List.getElem_cons_zero, Act.put, List.setIfInBounds_toArray, List.set_cons_zero, List.set_cons_succ]
    refine wpAnyH_take (i := 17) (v := .slice (some ⟨w1.heap.size + 1 + 1 + 1 + 1 + 1 + 1 + 1 + 1 + 1 + 1 + 1 + 1, 0, none⟩) 5 5) rfl (by kernel_rfl) (by kernel_rfl) (by kernel_rfl) (fun _ _ _ h => h) (Or.inl ⟨by rfl, ?_⟩) hS0 ?_
    · intro w' hSw
      clear hSw
      go_simp
    simp only [List.getElem_toArray, List.getElem_cons_succ, List.getElem_cons_zero, Act.put, List.setIfInBounds_toArray, List.set_cons_zero, List.set_cons_succ]
    refine wpAnyH_take (i := 18) (v := .int .i64 1) rfl (by kernel_rfl) (by kernel_rfl) (by kernel_rfl) (fun _ _ _ h => h) (Or.inl ⟨by rfl, ?_⟩) hS0 ?_
    · intro w' hSw
      clear hSw
      go_simp
    simp only [List.getElem_toArray, List.getElem_cons_succ, List.getElem_cons_zero, Act.put, List.setIfInBounds_toArray, List.set_cons_zero, List.set_cons_succ]
    refine wpAnyH_take (i := 19) (v := .pointer (some ⟨w1.heap.size + 1 + 1 + 1 + 1 + 1 + 1 + 1 + 1 + 1 + 1 + 1 + 1, 1, none⟩)) rfl (by kernel_rfl) (by kernel_rfl) (by kernel_rfl) (fun _ _ _ h => h) (Or.inl ⟨by rfl, ?_⟩) hS0 ?_
    · intro w' hSw
      clear hSw
      go_simp
    simp only [List.getElem_toArray, List.getElem_cons_succ, List.getElem_cons_zero, Act.put, List.setIfInBounds_toArray, List.set_cons_zero, List.set_cons_succ]
    refine wpAnyH_take (i := 20) (v := .slice (some ⟨w1.heap.size + 1 + 1 + 1 + 1 + 1 + 1 + 1 + 1, 0, none⟩) 6 6) rfl (by kernel_rfl) (by kernel_rfl) (by kernel_rfl) (fun _ _ _ h => h) (Or.inl ⟨by rfl, ?_⟩) hS0 ?_
    · intro w' hSw
      obtain ⟨hS1, hS2, hS3, hS4⟩ := hSw
      go_simp
    simp only [List.getElem_toArray, List.getElem_cons_succ, List.getElem_cons_zero, Act.put, List.setIfInBounds_toArray, List.set_cons_zero, List.set_cons_succ]
    refine wpAnyH_take (i := 21) (v := .string ⟨#[1, 0, 0, 0, 0, 0]⟩) rfl (by kernel_rfl) (by kernel_rfl) (by kernel_rfl) (fun _ _ _ h => h) (Or.inl ⟨by rfl, ?_⟩) hS0 ?_
    · intro w' hSw
      obtain ⟨hS1, hS2, hS3, hS4⟩ := hSw
      go_simp
    simp only [List.getElem_toArray, List.getElem_cons_succ, List.getElem_cons_zero, Act.put, List.setIfInBounds_toArray, List.set_cons_zero, List.set_cons_succ]
    refine wpAnyH_ready (rs := [15]) (by kernel_rfl) (by simp) (AllReadyH.cons rfl (fun K hK => ?_) AllReadyH.nil)
    go_simp
    refine (HB.out u1 ((Below.refl _ W).drew.trans hu1)).mono ?_
    rintro e u2 ⟨A2, N2, c2, rfl, ho2, hu2⟩
    have hx2 := (hu2.cell (p := ⟨w1.heap.size + 1 + 1 + 1 + 1 + 1, 1, none⟩) (Nat.lt_of_lt_of_le hl20 hu1.size)).trans hx1
    have hy2 := (hu2.cell (p := ⟨w1.heap.size + 1 + 1 + 1 + 1 + 1 + 1, 1, none⟩) (Nat.lt_of_lt_of_le hl21 hu1.size)).trans hy1
    have hz2 := (hu2.cell (p := ⟨w1.heap.size + 1 + 1 + 1 + 1 + 1 + 1 + 1 + 1 + 1 + 1 + 1 + 1, 1, none⟩) (Nat.lt_of_lt_of_le hl27 hu1.size)).trans hz1
    have hcv2 := run_text 30 9 5 Try.underlying30 Try.underlying5 Try.underlying9 (c := 6) ((hsee1.drew.below hu1).below (hu2.mono hu1.size))
    have hcv3 := run_text 30 9 5 Try.underlying30 Try.underlying5 Try.underlying9 (c := c2) ho2.sees
    refine hK.out _ _ ⟨hx2, hy2, hz2, hcv2⟩ (fun hS0 => ?_)
    clear hK K
    refine wpAnyH_ready (rs := [16]) (by kernel_rfl) (by simp) (AllReadyH.cons rfl (fun K hK => ?_) AllReadyH.nil)
    go_simp
    refine hK.out _ _ ⟨hx2, hy2, hz2, hcv2⟩ (fun hS0 => ?_)
    clear hK K
    refine wpAnyH_take (i := 22) (v := .bool true) rfl (by kernel_rfl) (by kernel_rfl) (by kernel_rfl) (fun _ _ _ h => h) (Or.inl ⟨by rfl, ?_⟩) hS0 ?_
    · intro w' hSw
      clear hSw
      go_simp
    simp only [List.getElem_toArray, List.getElem_cons_succ, List.getElem_cons_zero, Act.put, List.setIfInBounds_toArray, List.set_cons_zero, List.set_cons_succ]
    refine wpAnyH_take (i := 23) (v := .bool true) rfl (by kernel_rfl) (by kernel_rfl) (by kernel_rfl) (fun _ _ _ h => h) (Or.inl ⟨by rfl, ?_⟩) hS0 ?_
    · intro w' hSw
      clear hSw
      go_simp
    simp only [List.getElem_toArray, List.getElem_cons_succ, List.getElem_cons_zero, Act.put, List.setIfInBounds_toArray, List.set_cons_zero, List.set_cons_succ]
    refine wpAnyH_take (i := 24) (v := .bool true) rfl (by kernel_rfl) (by kernel_rfl) (by kernel_rfl) (fun _ _ _ h => h) (Or.inl ⟨by rfl, ?_⟩) hS0 ?_
    · intro w' hSw
      clear hSw
      go_simp
    simp only [List.getElem_toArray, List.getElem_cons_succ, List.getElem_cons_zero, Act.put, List.setIfInBounds_toArray, List.set_cons_zero, List.set_cons_succ]
    refine wpAnyH_done (by kernel_rfl) ?_ _
    refine NoPanic.normal ?_
    go_wp2_with fail
    go_ret
    exact ⟨rfl, hb1.trans ((((hbW.drew).trans (hu1.mono hbW.size)).trans (hu2.mono (Nat.le_trans hbW.size hu1.size))).mono hb1.size)⟩
  · clear hold0 hsee0 hcx0 hcy0 hcz0 hold1 hsee1 hcx1 hcy1 hcz1 hold3 hsee3 hcx3 hcy3 hcz3 hold4 hsee4 hcx4 hcy4 hcz4
    have hT := fun (u : World) (hu : Below W.heap.size W u) => text_n (some ⟨w1.heap.size + 1 + 1, 0, none⟩) 2 2 kt2 u rfl ((hold2.below hu).more hu.size) (Nat.le_refl _) (by simp [maxLen]) (by decide) (by decide)
    have hB := fun (u : World) (hu : Below W.heap.size W u) => bytes_n (some ⟨w1.heap.size + 1 + 1, 0, none⟩) 2 2 kt2 u rfl ((hold2.below hu).more hu.size) (Nat.le_refl _) (by simp [maxLen]) (by decide) (by decide)
    rw [kt2_text] at hT
    rw [kt2_bin] at hB
    have HT := Lib.hid hT
    have HB := Lib.hid hB
    have hcv0 := run_text 30 9 5 Try.underlying30 Try.underlying5 Try.underlying9 (c := 17) hsee2.drew
    clear hT hB hold2
    go_wp2_with fail
    refine wp_region_noPanic (wp_region_held_drew (S := fun w' => w'.cell? ⟨w1.heap.size + 1 + 1 + 1 + 1 + 1, 2, none⟩ = some (.slice (some ⟨w1.heap.size + 1 + 1, 0, none⟩) 2 2) ∧ w'.cell? ⟨w1.heap.size + 1 + 1 + 1 + 1 + 1 + 1, 2, none⟩ = some (.string ⟨#[123, 34, 97, 34, 58, 32, 123, 34, 98, 34, 58, 32, 123, 125, 125, 44, 32, 34, 99, 34, 58, 32, 123, 125, 125]⟩) ∧ w'.cell? ⟨w1.heap.size + 1 + 1 + 1 + 1 + 1 + 1 + 1 + 1 + 1 + 1 + 1 + 1, 2, none⟩ = some (.slice (some ⟨w1.heap.size + 1 + 1 + 1 + 1 + 1 + 1 + 1 + 1 + 1, 0, none⟩) 17 17) ∧ (convert 30 9 (.slice (some ⟨w1.heap.size + 1 + 1 + 1 + 1 + 1 + 1 + 1 + 1 + 1, 0, none⟩) 17 17)).run Try.prog w' = .ok (.string ⟨#[2, 0, 1, 0, 97, 1, 0, 1, 0, 98, 0, 0, 1, 0, 99, 0, 0]⟩) w') (by kernel_rfl) ⟨hcx2, hcy2, hcz2, hcv0⟩ (fun hS0 => ?_))
    refine wpAnyH_take (i := 0) (v := .slice (some ⟨w1.heap.size + 1 + 1 + 1 + 1 + 1, 0, none⟩) 5 5) rfl (by kernel_rfl) (by kernel_rfl) (by kernel_rfl) (fun _ _ _ h => h) (Or.inl ⟨by rfl, ?_⟩) hS0 ?_
    · intro w' hSw
      clear hSw
      go_simp
    simp only [List.getElem_toArray, List.getElem_cons_zero, Act.put, List.setIfInBounds_toArray, List.set_cons_zero, List.set_cons_succ]
    refine wpAnyH_take (i := 1) (v := .int .i64 2) rfl (by kernel_rfl) (by kernel_rfl) (by kernel_rfl) (fun _ _ _ h => h) (Or.inl ⟨by rfl, ?_⟩) hS0 ?_
    · intro w' hSw
      clear hSw
      go_simp
    simp only [List.getElem_toArray, List.getElem_cons_succ, List.getElem_cons_zero, Act.put, List.setIfInBounds_toArray, List.set_cons_zero, List.set_cons_succ]
    refine wpAnyH_take (i := 2) (v := .pointer (some ⟨w1.heap.size + 1 + 1 + 1 + 1 + 1, 2, none⟩)) rfl (by kernel_rfl) (by kernel_rfl) (by kernel_rfl) (fun _ _ _ h => h) (Or.inl ⟨by rfl, ?_⟩) hS0 ?_
    · intro w' hSw
      clear hSw
      go_simp
    simp only [List.getElem_toArray, List.getElem_cons_succ, List.getElem_cons_zero, Act.put, List.setIfInBounds_toArray, List.set_cons_zero, List.set_cons_succ]
    refine wpAnyH_take (i := 3) (v := .slice (some ⟨w1.heap.size + 1 + 1, 0, none⟩) 2 2) rfl (by kernel_rfl) (by kernel_rfl) (by kernel_rfl) (fun _ _ _ h => h) (Or.inl ⟨by rfl, ?_⟩) hS0 ?_
    · intro w' hSw
      obtain ⟨hS1, hS2, hS3, hS4⟩ := hSw
      go_simp
    simp only [List.getElem_toArray, List.getElem_cons_succ, List.getElem_cons_zero, Act.put, List.setIfInBounds_toArray, List.set_cons_zero, List.set_cons_succ]
    refine wpAnyH_take (i := 5) (v := .slice (some ⟨w1.heap.size + 1 + 1 + 1 + 1 + 1 + 1, 0, none⟩) 5 5) rfl (by kernel_rfl) (by kernel_rfl) (by kernel_rfl) (fun _ _ _ h => h) (Or.inl ⟨by rfl, ?_⟩) hS0 ?_
    · intro w' hSw
      clear hSw
      go_simp
    simp only [List.getElem_toArray, List.getElem_cons_succ, List.getElem_cons_zero, Act.put, List.setIfInBounds_toArray, List.set_cons_zero, List.set_cons_succ]
    refine wpAnyH_take (i := 6) (v := .int .i64 2) rfl (by kernel_rfl) (by kernel_rfl) (by kernel_rfl) (fun _ _ _ h => h) (Or.inl ⟨by rfl, ?_⟩) hS0 ?_
    · intro w' hSw
      clear hSw
      go_simp
    simp only [List.getElem_toArray, List.getElem_cons_succ, List.getElem_cons_zero, Act.put, List.setIfInBounds_toArray, List.set_cons_zero, List.set_cons_succ]
    refine wpAnyH_take (i := 7) (v := .pointer (some ⟨w1.heap.size + 1 + 1 + 1 + 1 + 1 + 1, 2, none⟩)) rfl (by kernel_rfl) (by kernel_rfl) (by kernel_rfl) (fun _ _ _ h => h) (Or.inl ⟨by rfl, ?_⟩) hS0 ?_
    · intro w' hSw
      clear hSw
      go_simp
    simp only [List.getElem_toArray, List.getElem_cons_succ, List.getElem_cons_zero, Act.put, List.setIfInBounds_toArray, List.set_cons_zero, List.set_cons_succ]
    refine wpAnyH_take (i := 8) (v := .string ⟨#[123, 34, 97, 34, 58, 32, 123, 34, 98, 34, 58, 32, 123, 125, 125, 44, 32, 34, 99, 34, 58, 32, 123, 125, 125]⟩) rfl (by kernel_rfl) (by kernel_rfl) (by kernel_rfl) (fun _ _ _ h => h) (Or.inl ⟨by rfl, ?_⟩) hS0 ?_
    · intro w' hSw
      obtain ⟨hS1, hS2, hS3, hS4⟩ := hSw
      go_simp
    simp only [List.getElem_toArray, List.getElem_cons_succ, List.getElem_cons_zero, Act.put, List.setIfInBounds_toArray, List.set_cons_zero, List.set_cons_succ]
    refine wpAnyH_ready (rs := [4]) (by kernel_rfl) (by simp) (AllReadyH.cons rfl (fun K hK => ?_) AllReadyH.nil)
    go_simp
    refine (HT.out _ (Below.refl _ W).drew).mono ?_
    rintro e u1 ⟨rfl, hu1⟩
    have hx1 := (hu1.cell (p := ⟨w1.heap.size + 1 + 1 + 1 + 1 + 1, 2, none⟩) hl20).trans hcx2
    have hy1 := (hu1.cell (p := ⟨w1.heap.size + 1 + 1 + 1 + 1 + 1 + 1, 2, none⟩) hl21).trans hcy2
    have hz1 := (hu1.cell (p := ⟨w1.heap.size + 1 + 1 + 1 + 1 + 1 + 1 + 1 + 1 + 1 + 1 + 1 + 1, 2, none⟩) hl27).trans hcz2
    have hcv1 := run_text 30 9 5 Try.underlying30 Try.underlying5 Try.underlying9 (c := 17) (hsee2.drew.below hu1)
    refine hK.out _ _ ⟨hx1, hy1, hz1, hcv1⟩ (fun hS0 => ?_)
    clear hK K
    refine wpAnyH_take (i := 9) (v := .bool true) rfl (by kernel_rfl) (by kernel_rfl) (by kernel_rfl) (fun _ _ _ h => h) (Or.inl ⟨by rfl, ?_⟩) hS0 ?_
    · intro w' hSw
      clear hSw
      go_simp
    simp only [List.getElem_toArray, List.getElem_cons_succ, List.getElem_cons_zero, Act.put, List.setIfInBounds_toArray, List.set_cons_zero, List.set_cons_succ]
    refine wpAnyH_take (i := 10) (v := .bool true) rfl (by kernel_rfl) (by kernel_rfl) (by kernel_rfl) (fun _ _ _ h => h) (Or.inl ⟨by rfl, ?_⟩) hS0 ?_
    · intro w' hSw
      clear hSw
      go_simp
    simp only [List.getElem_toArray, List.getElem_cons_succ, List.getElem_cons_zero, Act.put, List.setIfInBounds_toArray, List.set_cons_zero, List.set_cons_succ]
    refine wpAnyH_take (i := 11) (v := .slice (some ⟨w1.heap.size + 1 + 1 + 1 + 1 + 1, 0, none⟩) 5 5) rfl (by kernel_rfl) (by kernel_rfl) (by kernel_rfl) (fun _ _ _ h => h) (Or.inl ⟨by rfl, ?_⟩) hS0 ?_
    · intro w' hSw
      clear hSw
      go_simp
    simp only [List.getElem_toArray, List.getElem_cons_succ, List.getElem_cons_zero, Act.put, List.setIfInBounds_toArray, List.set_cons_zero, List.set_cons_succ]
    refine wpAnyH_take (i := 12) (v := .int .i64 2) rfl (by kernel_rfl) (by kernel_rfl) (by kernel_rfl) (fun _ _ _ h => h) (Or.inl ⟨by rfl, ?_⟩) hS0 ?_
    · intro w' hSw
      clear hSw
      go_simp
    simp only [List.getElem_toArray, List.getElem_cons_succ, List.getElem_cons_zero, Act.put, List.setIfInBounds_toArray, List.set_cons_zero, List.set_cons_succ]
    refine wpAnyH_take (i := 13) (v := .pointer (some ⟨w1.heap.size + 1 + 1 + 1 + 1 + 1, 2, none⟩)) rfl (by kernel_rfl) (by kernel_rfl) (by kernel_rfl) (fun _ _ _ h => h) (Or.inl ⟨by rfl, ?_⟩) hS0 ?_
    · intro w' hSw
      clear hSw
      go_simp
    simp only [List.getElem_toArray, List.getElem_cons_succ, List.getElem_cons_zero, Act.put, List.setIfInBounds_toArray, List.set_cons_zero, List.set_cons_succ]
    refine wpAnyH_take (i := 14) (v := .slice (some ⟨w1.heap.size + 1 + 1, 0, none⟩) 2 2) rfl (by kernel_rfl) (by kernel_rfl) (by kernel_rfl) (fun _ _ _ h => h) (Or.inl ⟨by rfl, ?_⟩) hS0 ?_
    · intro w' hSw
      obtain ⟨hS1, hS2, hS3, hS4⟩ := hSw
      go_simp
    simp only [List.getElem_toArray, List.getElem_cons_succ, List.getElem_cons_zero, Act.put, List.setIfInBounds_toArray, List.set_cons_zero, List.set_cons_succ]
    refine wpAnyH_take (i := 17) (v := .slice (some ⟨w1.heap.size + 1 + 1 + 1 + 1 + 1 + 1 + 1 + 1 + 1 + 1 + 1 + 1, 0, none⟩) 5 5) rfl (by kernel_rfl) (by kernel_rfl) (by kernel_rfl) (fun _ _ _ h => h) (Or.inl ⟨by rfl, ?_⟩) hS0 ?_
    · intro w' hSw
      clear hSw
      go_simp
    simp only [List.getElem_toArray, List.getElem_cons_succ, List.getElem_cons_zero, Act.put, List.setIfInBounds_toArray, List.set_cons_zero, List.set_cons_succ]
    refine wpAnyH_take (i := 18) (v := .int .i64 2) rfl (by kernel_rfl) (by kernel_rfl) (by kernel_rfl) (fun _ _ _ h => h) (Or.inl ⟨by rfl, ?_⟩) hS0 ?_
    · intro w' hSw
      clear hSw
      go_simp
    simp only [List.getElem_toArray, List.getElem_cons_succ, List.getElem_cons_zero, Act.put, List.setIfInBounds_toArray, List.set_cons_zero, List.set_cons_succ]
    refine wpAnyH_take (i := 19) (v := .pointer (some ⟨w1.heap.size + 1 + 1 + 1 + 1 + 1 + 1 + 1 + 1 + 1 + 1 + 1 + 1, 2, none⟩)) rfl (by kernel_rfl) (by kernel_rfl) (by kernel_rfl) (fun _ _ _ h => h) (Or.inl ⟨by rfl, ?_⟩) hS0 ?_
    · intro w' hSw
      clear hSw
      go_simp
    simp only [List.getElem_toArray, List.getElem_cons_succ, List.getElem_cons_zero, Act.put, List.setIfInBounds_toArray, List.set_cons_zero, List.set_cons_succ]
    refine wpAnyH_take (i := 20) (v := .slice (some ⟨w1.heap.size + 1 + 1 + 1 + 1 + 1 + 1 + 1 + 1 + 1, 0, none⟩) 17 17) rfl (by kernel_rfl) (by kernel_rfl) (by kernel_rfl) (fun _ _ _ h => h) (Or.inl ⟨by rfl, ?_⟩) hS0 ?_
    · intro w' hSw
      obtain ⟨hS1, hS2, hS3, hS4⟩ := hSw
      go_simp
    simp only [List.getElem_toArray, List.getElem_cons_succ, List.getElem_cons_zero, Act.put, List.setIfInBounds_toArray, List.set_cons_zero, List.set_cons_succ]
    refine wpAnyH_take (i := 21) (v := .string ⟨#[2, 0, 1, 0, 97, 1, 0, 1, 0, 98, 0, 0, 1, 0, 99, 0, 0]⟩) rfl (by kernel_rfl) (by kernel_rfl) (by kernel_rfl) (fun _ _ _ h => h) (Or.inl ⟨by rfl, ?_⟩) hS0 ?_
    · intro w' hSw
      obtain ⟨hS1, hS2, hS3, hS4⟩ := hSw
      go_simp
    simp only [List.getElem_toArray, List.getElem_cons_succ, List.getElem_cons_zero, Act.put, List.setIfInBounds_toArray, List.set_cons_zero, List.set_cons_succ]
    refine wpAnyH_ready (rs := [15]) (by kernel_rfl) (by simp) (AllReadyH.cons rfl (fun K hK => ?_) AllReadyH.nil)
    go_simp
    refine (HB.out u1 ((Below.refl _ W).drew.trans hu1)).mono ?_
    rintro e u2 ⟨A2, N2, c2, rfl, ho2, hu2⟩
    have hx2 := (hu2.cell (p := ⟨w1.heap.size + 1 + 1 + 1 + 1 + 1, 2, none⟩) (Nat.lt_of_lt_of_le hl20 hu1.size)).trans hx1
    have hy2 := (hu2.cell (p := ⟨w1.heap.size + 1 + 1 + 1 + 1 + 1 + 1, 2, none⟩) (Nat.lt_of_lt_of_le hl21 hu1.size)).trans hy1
    have hz2 := (hu2.cell (p := ⟨w1.heap.size + 1 + 1 + 1 + 1 + 1 + 1 + 1 + 1 + 1 + 1 + 1 + 1, 2, none⟩) (Nat.lt_of_lt_of_le hl27 hu1.size)).trans hz1
    have hcv2 := run_text 30 9 5 Try.underlying30 Try.underlying5 Try.underlying9 (c := 17) ((hsee2.drew.below hu1).below (hu2.mono hu1.size))
    have hcv3 := run_text 30 9 5 Try.underlying30 Try.underlying5 Try.underlying9 (c := c2) ho2.sees
    refine hK.out _ _ ⟨hx2, hy2, hz2, hcv2⟩ (fun hS0 => ?_)
    clear hK K
    refine wpAnyH_ready (rs := [16]) (by kernel_rfl) (by simp) (AllReadyH.cons rfl (fun K hK => ?_) AllReadyH.nil)
    go_simp
    refine hK.out _ _ ⟨hx2, hy2, hz2, hcv2⟩ (fun hS0 => ?_)
    clear hK K
    refine wpAnyH_take (i := 22) (v := .bool true) rfl (by kernel_rfl) (by kernel_rfl) (by kernel_rfl) (fun _ _ _ h => h) (Or.inl ⟨by rfl, ?_⟩) hS0 ?_
    · intro w' hSw
      clear hSw
      go_simp
    simp only [List.getElem_toArray, List.getElem_cons_succ, List.getElem_cons_zero, Act.put, List.setIfInBounds_toArray, List.set_cons_zero, List.set_cons_succ]
    refine wpAnyH_take (i := 23) (v := .bool true) rfl (by kernel_rfl) (by kernel_rfl) (by kernel_rfl) (fun _ _ _ h => h) (Or.inl ⟨by rfl, ?_⟩) hS0 ?_
    · intro w' hSw
      clear hSw
      go_simp
    simp only [List.getElem_toArray, List.getElem_cons_succ, List.getElem_cons_zero, Act.put, List.setIfInBounds_toArray, List.set_cons_zero, List.set_cons_succ]
    refine wpAnyH_take (i := 24) (v := .bool true) rfl (by kernel_rfl) (by kernel_rfl) (by kernel_rfl) (fun _ _ _ h => h) (Or.inl ⟨by rfl, ?_⟩) hS0 ?_
    · intro w' hSw
      clear hSw
      go_simp
    simp only [List.getElem_toArray, List.getElem_cons_succ, List.getElem_cons_zero, Act.put, List.setIfInBounds_toArray, List.set_cons_zero, List.set_cons_succ]
    refine wpAnyH_done (by kernel_rfl) ?_ _
    refine NoPanic.normal ?_
    go_wp2_with fail
    go_ret
    exact ⟨rfl, hb1.trans ((((hbW.drew).trans (hu1.mono hbW.size)).trans (hu2.mono (Nat.le_trans hbW.size hu1.size))).mono hb1.size)⟩
  · clear hold0 hsee0 hcx0 hcy0 hcz0 hold1 hsee1 hcx1 hcy1 hcz1 hold2 hsee2 hcx2 hcy2 hcz2 hold4 hsee4 hcx4 hcy4 hcz4
    have hT := fun (u : World) (hu : Below W.heap.size W u) => text_n (some ⟨w1.heap.size + 1 + 1 + 1, 0, none⟩) 1 1 kt3 u rfl ((hold3.below hu).more hu.size) (Nat.le_refl _) (by simp [maxLen]) (by decide) (by decide)
    have hB := fun (u : World) (hu : Below W.heap.size W u) => bytes_n (some ⟨w1.heap.size + 1 + 1 + 1, 0, none⟩) 1 1 kt3 u rfl ((hold3.below hu).more hu.size) (Nat.le_refl _) (by simp [maxLen]) (by decide) (by decide)
    rw [kt3_text] at hT
    rw [kt3_bin] at hB
    have HT := Lib.hid hT
    have HB := Lib.hid hB
    have hcv0 := run_text 30 9 5 Try.underlying30 Try.underlying5 Try.underlying9 (c := 8) hsee3.drew
    clear hT hB hold3
    go_wp2_with fail
    refine wp_region_noPanic (wp_region_held_drew (S := fun w' => w'.cell? ⟨w1.heap.size + 1 + 1 + 1 + 1 + 1, 3, none⟩ = some (.slice (some ⟨w1.heap.size + 1 + 1 + 1, 0, none⟩) 1 1) ∧ w'.cell? ⟨w1.heap.size + 1 + 1 + 1 + 1 + 1 + 1, 3, none⟩ = some (.string ⟨#[123, 34, 92, 34, 92, 92, 34, 58, 32, 123, 125, 125]⟩) ∧ w'.cell? ⟨w1.heap.size + 1 + 1 + 1 + 1 + 1 + 1 + 1 + 1 + 1 + 1 + 1 + 1, 3, none⟩ = some (.slice (some ⟨w1.heap.size + 1 + 1 + 1 + 1 + 1 + 1 + 1 + 1 + 1 + 1, 0, none⟩) 8 8) ∧ (convert 30 9 (.slice (some ⟨w1.heap.size + 1 + 1 + 1 + 1 + 1 + 1 + 1 + 1 + 1 + 1, 0, none⟩) 8 8)).run Try.prog w' = .ok (.string ⟨#[1, 0, 2, 0, 34, 92, 0, 0]⟩) w') (by kernel_rfl) ⟨hcx3, hcy3, hcz3, hcv0⟩ (fun hS0 => ?_))
    refine wpAnyH_take (i := 0) (v := .slice (some ⟨w1.heap.size + 1 + 1 + 1 + 1 + 1, 0, none⟩) 5 5) rfl (by kernel_rfl) (by kernel_rfl) (by kernel_rfl) (fun _ _ _ h => h) (Or.inl ⟨by rfl, ?_⟩) hS0 ?_
    · intro w' hSw
      clear hSw
      go_simp
    simp only [List.getElem_toArray, List.getElem_cons_zero, Act.put, List.setIfInBounds_toArray, List.set_cons_zero, List.set_cons_succ]
    refine wpAnyH_take (i := 1) (v := .int .i64 3) rfl (by kernel_rfl) (by kernel_rfl) (by kernel_rfl) (fun _ _ _ h => h) (Or.inl ⟨by rfl, ?_⟩) hS0 ?_
    · intro w' hSw
      clear hSw
      go_simp
    simp only [List.getElem_toArray, List.getElem_cons_succ, List.getElem_cons_zero, Act.put, List.setIfInBounds_toArray, List.set_cons_zero, List.set_cons_succ]
    refine wpAnyH_take (i := 2) (v := .pointer (some ⟨w1.heap.size + 1 + 1 + 1 + 1 + 1, 3, none⟩)) rfl (by kernel_rfl) (by kernel_rfl) (by kernel_rfl) (fun _ _ _ h => h) (Or.inl ⟨by rfl, ?_⟩) hS0 ?_
    · intro w' hSw
      clear hSw
      go_simp
    simp only [List.getElem_toArray, List.getElem_cons_succ, List.getElem_cons_zero, Act.put, List.setIfInBounds_toArray, List.set_cons_zero, List.set_cons_succ]
    refine wpAnyH_take (i := 3) (v := .slice (some ⟨w1.heap.size + 1 + 1 + 1, 0, none⟩) 1 1) rfl (by kernel_rfl) (by kernel_rfl) (by kernel_rfl) (fun _ _ _ h => h) (Or.inl ⟨by rfl, ?_⟩) hS0 ?_
    · intro w' hSw
      obtain ⟨hS1, hS2, hS3, hS4⟩ := hSw
      go_simp
    simp only [List.getElem_toArray, List.getElem_cons_succ, List.getElem_cons_zero, Act.put, List.setIfInBounds_toArray, List.set_cons_zero, List.set_cons_succ]
    refine wpAnyH_take (i := 5) (v := .slice (some ⟨w1.heap.size + 1 + 1 + 1 + 1 + 1 + 1, 0, none⟩) 5 5) rfl (by kernel_rfl) (by kernel_rfl) (by kernel_rfl) (fun _ _ _ h => h) (Or.inl ⟨by rfl, ?_⟩) hS0 ?_
    · intro w' hSw
      clear hSw
      go_simp
    simp only [List.getElem_toArray, List.getElem_cons_succ, List.getElem_cons_zero, Act.put, List.setIfInBounds_toArray, List.set_cons_zero, List.set_cons_succ]
    refine wpAnyH_take (i := 6) (v := .int .i64 3) rfl (by kernel_rfl) (by kernel_rfl) (by kernel_rfl) (fun _ _ _ h => h) (Or.inl ⟨by rfl, ?_⟩) hS0 ?_
    · intro w' hSw
      clear hSw
      go_simp
    simp only [List.getElem_toArray, List.getElem_cons_succ, List.getElem_cons_zero, Act.put, List.setIfInBounds_toArray, List.set_cons_zero, List.set_cons_succ]
    refine wpAnyH_take (i := 7) (v := .pointer (some ⟨w1.heap.size + 1 + 1 + 1 + 1 + 1 + 1, 3, none⟩)) rfl (by kernel_rfl) (by kernel_rfl) (by kernel_rfl) (fun _ _ _ h => h) (Or.inl ⟨by rfl, ?_⟩) hS0 ?_
    · intro w' hSw
      clear hSw
      go_simp
    simp only [List.getElem_toArray, List.getElem_cons_succ, List.getElem_cons_zero, Act.put, List.setIfInBounds_toArray, List.set_cons_zero, List.set_cons_succ]
    refine wpAnyH_take (i := 8) (v := .string ⟨#[123, 34, 92, 34, 92, 92, 34, 58, 32, 123, 125, 125]⟩) rfl (by kernel_rfl) (by kernel_rfl) (by kernel_rfl) (fun _ _ _ h => h) (Or.inl ⟨by rfl, ?_⟩) hS0 ?_
    · intro w' hSw
      obtain ⟨hS1, hS2, hS3, hS4⟩ := hSw
      go_simp
    simp only [List.getElem_toArray, List.getElem_cons_succ, List.getElem_cons_zero, Act.put, List.setIfInBounds_toArray, List.set_cons_zero, List.set_cons_succ]
    refine wpAnyH_ready (rs := [4]) (by kernel_rfl) (by simp) (AllReadyH.cons rfl (fun K hK => ?_) AllReadyH.nil)
    go_simp
    refine (HT.out _ (Below.refl _ W).drew).mono ?_
    rintro e u1 ⟨rfl, hu1⟩
    have hx1 := (hu1.cell (p := ⟨w1.heap.size + 1 + 1 + 1 + 1 + 1, 3, none⟩) hl20).trans hcx3
    have hy1 := (hu1.cell (p := ⟨w1.heap.size + 1 + 1 + 1 + 1 + 1 + 1, 3, none⟩) hl21).trans hcy3
    have hz1 := (hu1.cell (p := ⟨w1.heap.size + 1 + 1 + 1 + 1 + 1 + 1 + 1 + 1 + 1 + 1 + 1 + 1, 3, none⟩) hl27).trans hcz3
    have hcv1 := run_text 30 9 5 Try.underlying30 Try.underlying5 Try.underlying9 (c := 8) (hsee3.drew.below hu1)
    refine hK.out _ _ ⟨hx1, hy1, hz1, hcv1⟩ (fun hS0 => ?_)
    clear hK K
    refine wpAnyH_take (i := 9) (v := .bool true) rfl (by kernel_rfl) (by kernel_rfl) (by kernel_rfl) (fun _ _ _ h => h) (Or.inl ⟨by rfl, ?_⟩) hS0 ?_
    · intro w' hSw
      clear hSw
      go_simp
    simp only [List.getElem_toArray, List.getElem_cons_succ, List.getElem_cons_zero, Act.put, List.setIfInBounds_toArray, List.set_cons_zero, List.set_cons_succ]
    refine wpAnyH_take (i := 10) (v := .bool true) rfl (by kernel_rfl) (by kernel_rfl) (by kernel_rfl) (fun _ _ _ h => h) (Or.inl ⟨by rfl, ?_⟩) hS0 ?_
    · intro w' hSw
      clear hSw
      go_simp
    simp only [List.getElem_toArray, List.getElem_cons_succ, List.getElem_cons_zero, Act.put, List.setIfInBounds_toArray, List.set_cons_zero, List.set_cons_succ]
    refine wpAnyH_take (i := 11) (v := .slice (some ⟨w1.heap.size + 1 + 1 + 1 + 1 + 1, 0, none⟩) 5 5) rfl (by kernel_rfl) (by kernel_rfl) (by kernel_rfl) (fun _ _ _ h => h) (Or.inl ⟨by rfl, ?_⟩) hS0 ?_
    · intro w' hSw
      clear hSw
      go_simp
    simp only [List.getElem_toArray, List.getElem_cons_succ, List.getElem_cons_zero, Act.put, List.setIfInBounds_toArray, List.set_cons_zero, List.set_cons_succ]
    refine wpAnyH_take (i := 12) (v := .int .i64 3) rfl (by kernel_rfl) (by kernel_rfl) (by kernel_rfl) (fun _ _ _ h => h) (Or.inl ⟨by rfl, ?_⟩) hS0 ?_
    · intro w' hSw
      clear hSw
      go_simp
    simp only [List.getElem_toArray, List.getElem_cons_succ, List.getElem_cons_zero, Act.put, List.setIfInBounds_toArray, List.set_cons_zero, List.set_cons_succ]
    refine wpAnyH_take (i := 13) (v := .pointer (some ⟨w1.heap.size + 1 + 1 + 1 + 1 + 1, 3, none⟩)) rfl (by kernel_rfl) (by kernel_rfl) (by kernel_rfl) (fun _ _ _ h => h) (Or.inl ⟨by rfl, ?_⟩) hS0 ?_
    · intro w' hSw
      clear hSw
      go_simp
    simp only [List.getElem_toArray, List.getElem_cons_succ, List.getElem_cons_zero, Act.put, List.setIfInBounds_toArray, List.set_cons_zero, List.set_cons_succ]
    refine wpAnyH_take (i := 14) (v := .slice (some ⟨w1.heap.size + 1 + 1 + 1, 0, none⟩) 1 1) rfl (by kernel_rfl) (by kernel_rfl) (by kernel_rfl) (fun _ _ _ h => h) (Or.inl ⟨by rfl, ?_⟩) hS0 ?_
    · intro w' hSw
      obtain ⟨hS1, hS2, hS3, hS4⟩ := hSw
      go_simp
    simp only [List.getElem_toArray, List.getElem_cons_succ, List.getElem_cons_zero, Act.put, List.setIfInBounds_toArray, List.set_cons_zero, List.set_cons_succ]
    refine wpAnyH_take (i := 17) (v := .slice (some ⟨w1.heap.size + 1 + 1 + 1 + 1 + 1 + 1 + 1 + 1 + 1 + 1 + 1 + 1, 0, none⟩) 5 5) rfl (by kernel_rfl) (by kernel_rfl) (by kernel_rfl) (fun _ _ _ h => h) (Or.inl ⟨by rfl, ?_⟩) hS0 ?_
    · intro w' hSw
      clear hSw
      go_simp
    simp only [List.getElem_toArray, List.getElem_cons_succ, List.getElem_cons_zero, Act.put, List.setIfInBounds_toArray, List.set_cons_zero, List.set_cons_succ]
    refine wpAnyH_take (i := 18) (v := .int .i64 3) rfl (by kernel_rfl) (by kernel_rfl) (by kernel_rfl) (fun _ _ _ h => h) (Or.inl ⟨by rfl, ?_⟩) hS0 ?_
    · intro w' hSw
      clear hSw
      go_simp
    simp only [List.getElem_toArray, List.getElem_cons_succ, List.getElem_cons_zero, Act.put, List.setIfInBounds_toArray, List.set_cons_zero, List.set_cons_succ]
    refine wpAnyH_take (i := 19) (v := .pointer (some ⟨w1.heap.size + 1 + 1 + 1 + 1 + 1 + 1 + 1 + 1 + 1 + 1 + 1 + 1, 3, none⟩)) rfl (by kernel_rfl) (by kernel_rfl) (by kernel_rfl) (fun _ _ _ h => h) (Or.inl ⟨by rfl, ?_⟩) hS0 ?_
    · intro w' hSw
      clear hSw
      go_simp
    simp only [List.getElem_toArray, List.getElem_cons_succ, List.getElem_cons_zero, Act.put, List.setIfInBounds_toArray, List.set_cons_zero, List.set_cons_succ]
    refine wpAnyH_take (i := 20) (v := .slice (some ⟨w1.heap.size + 1 + 1 + 1 + 1 + 1 + 1 + 1 + 1 + 1 + 1, 0, none⟩) 8 8) rfl (by kernel_rfl) (by kernel_rfl) (by kernel_rfl) (fun _ _ _ h => h) (Or.inl ⟨by rfl, ?_⟩) hS0 ?_
    · intro w' hSw
      obtain ⟨hS1, hS2, hS3, hS4⟩ := hSw
      go_simp
    simp only [List.getElem_toArray, List.getElem_cons_succ, List.getElem_cons_zero, Act.put, List.setIfInBounds_toArray, List.set_cons_zero, List.set_cons_succ]
    refine wpAnyH_take (i := 21) (v := .string ⟨#[1, 0, 2, 0, 34, 92, 0, 0]⟩) rfl (by kernel_rfl) (by kernel_rfl) (by kernel_rfl) (fun _ _ _ h => h) (Or.inl ⟨by rfl, ?_⟩) hS0 ?_
    · intro w' hSw
      obtain ⟨hS1, hS2, hS3, hS4⟩ := hSw
      go_simp
    simp only [List.getElem_toArray, List.getElem_cons_succ, List.getElem_cons_zero, Act.put, List.setIfInBounds_toArray, List.set_cons_zero, List.set_cons_succ]
    refine wpAnyH_ready (rs := [15]) (by kernel_rfl) (by simp) (AllReadyH.cons rfl (fun K hK => ?_) AllReadyH.nil)
    go_simp
    refine (HB.out u1 ((Below.refl _ W).drew.trans hu1)).mono ?_
    rintro e u2 ⟨A2, N2, c2, rfl, ho2, hu2⟩
    have hx2 := (hu2.cell (p := ⟨w1.heap.size + 1 + 1 + 1 + 1 + 1, 3, none⟩) (Nat.lt_of_lt_of_le hl20 hu1.size)).trans hx1
    have hy2 := (hu2.cell (p := ⟨w1.heap.size + 1 + 1 + 1 + 1 + 1 + 1, 3, none⟩) (Nat.lt_of_lt_of_le hl21 hu1.size)).trans hy1
    have hz2 := (hu2.cell (p := ⟨w1.heap.size + 1 + 1 + 1 + 1 + 1 + 1 + 1 + 1 + 1 + 1 + 1 + 1, 3, none⟩) (Nat.lt_of_lt_of_le hl27 hu1.size)).trans hz1
    have hcv2 := run_text 30 9 5 Try.underlying30 Try.underlying5 Try.underlying9 (c := 8) ((hsee3.drew.below hu1).below (hu2.mono hu1.size))
    have hcv3 := run_text 30 9 5 Try.underlying30 Try.underlying5 Try.underlying9 (c := c2) ho2.sees
    refine hK.out _ _ ⟨hx2, hy2, hz2, hcv2⟩ (fun hS0 => ?_)
    clear hK K
    refine wpAnyH_ready (rs := [16]) (by kernel_rfl) (by simp) (AllReadyH.cons rfl (fun K hK => ?_) AllReadyH.nil)
    go_simp
    refine hK.out _ _ ⟨hx2, hy2, hz2, hcv2⟩ (fun hS0 => ?_)
    clear hK K
    refine wpAnyH_take (i := 22) (v := .bool true) rfl (by kernel_rfl) (by kernel_rfl) (by kernel_rfl) (fun _ _ _ h => h) (Or.inl ⟨by rfl, ?_⟩) hS0 ?_
    · intro w' hSw
      clear hSw
      go_simp
    simp only [List.getElem_toArray, List.getElem_cons_succ, List.getElem_cons_zero, Act.put, List.setIfInBounds_toArray, List.set_cons_zero, List.set_cons_succ]
    refine wpAnyH_take (i := 23) (v := .bool true) rfl (by kernel_rfl) (by kernel_rfl) (by kernel_rfl) (fun _ _ _ h => h) (Or.inl ⟨by rfl, ?_⟩) hS0 ?_
    · intro w' hSw
      clear hSw
      go_simp
    simp only [List.getElem_toArray, List.getElem_cons_succ, List.getElem_cons_zero, Act.put, List.setIfInBounds_toArray, List.set_cons_zero, List.set_cons_succ]
    refine wpAnyH_take (i := 24) (v := .bool true) rfl (by kernel_rfl) (by kernel_rfl) (by kernel_rfl) (fun _ _ _ h => h) (Or.inl ⟨by rfl, ?_⟩) hS0 ?_
    · intro w' hSw
      clear hSw
      go_simp
    simp only [List.getElem_toArray, List.getElem_cons_succ, List.getElem_cons_zero, Act.put, List.setIfInBounds_toArray, List.set_cons_zero, List.set_cons_succ]
    refine wpAnyH_done (by kernel_rfl) ?_ _
    refine NoPanic.normal ?_
    go_wp2_with fail
    go_ret
    exact ⟨rfl, hb1.trans ((((hbW.drew).trans (hu1.mono hbW.size)).trans (hu2.mono (Nat.le_trans hbW.size hu1.size))).mono hb1.size)⟩
  · clear hold0 hsee0 hcx0 hcy0 hcz0 hold1 hsee1 hcx1 hcy1 hcz1 hold2 hsee2 hcx2 hcy2 hcz2 hold3 hsee3 hcx3 hcy3 hcz3
    have hT := fun (u : World) (hu : Below W.heap.size W u) => text_n (some ⟨w1.heap.size + 1 + 1 + 1 + 1, 0, none⟩) 1 1 kt4 u rfl ((hold4.below hu).more hu.size) (Nat.le_refl _) (by simp [maxLen]) (by decide) (by decide)
    have hB := fun (u : World) (hu : Below W.heap.size W u) => bytes_n (some ⟨w1.heap.size + 1 + 1 + 1 + 1, 0, none⟩) 1 1 kt4 u rfl ((hold4.below hu).more hu.size) (Nat.le_refl _) (by simp [maxLen]) (by decide) (by decide)
    rw [kt4_text] at hT
    rw [kt4_bin] at hB
    have HT := Lib.hid hT
    have HB := Lib.hid hB
    have hcv0 := run_text 30 9 5 Try.underlying30 Try.underlying5 Try.underlying9 (c := 12) hsee4.drew
    clear hT hB hold4
    go_wp2_with fail
    refine wp_region_noPanic (wp_region_held_drew (S := fun w' => w'.cell? ⟨w1.heap.size + 1 + 1 + 1 + 1 + 1, 4, none⟩ = some (.slice (some ⟨w1.heap.size + 1 + 1 + 1 + 1, 0, none⟩) 1 1) ∧ w'.cell? ⟨w1.heap.size + 1 + 1 + 1 + 1 + 1 + 1, 4, none⟩ = some (.string ⟨#[123, 34, 92, 120, 48, 48, 92, 120, 49, 102, 92, 120, 55, 102, 92, 120, 102, 102, 126, 32, 34, 58, 32, 123, 125, 125]⟩) ∧ w'.cell? ⟨w1.heap.size + 1 + 1 + 1 + 1 + 1 + 1 + 1 + 1 + 1 + 1 + 1 + 1, 4, none⟩ = some (.slice (some ⟨w1.heap.size + 1 + 1 + 1 + 1 + 1 + 1 + 1 + 1 + 1 + 1 + 1, 0, none⟩) 12 12) ∧ (convert 30 9 (.slice (some ⟨w1.heap.size + 1 + 1 + 1 + 1 + 1 + 1 + 1 + 1 + 1 + 1 + 1, 0, none⟩) 12 12)).run Try.prog w' = .ok (.string ⟨#[1, 0, 6, 0, 0, 31, 127, 255, 126, 32, 0, 0]⟩) w') (by kernel_rfl) ⟨hcx4, hcy4, hcz4, hcv0⟩ (fun hS0 => ?_))
    refine wpAnyH_take (i := 0) (v := .slice (some ⟨w1.heap.size + 1 + 1 + 1 + 1 + 1, 0, none⟩) 5 5) rfl (by kernel_rfl) (by kernel_rfl) (by kernel_rfl) (fun _ _ _ h => h) (Or.inl ⟨by rfl, ?_⟩) hS0 ?_
    · intro w' hSw
      clear hSw
      go_simp
    simp only [List.getElem_toArray, List.getElem_cons_zero, Act.put, List.setIfInBounds_toArray, List.set_cons_zero, List.set_cons_succ]
    refine wpAnyH_take (i := 1) (v := .int .i64 4) rfl (by kernel_rfl) (by kernel_rfl) (by kernel_rfl) (fun _ _ _ h => h) (Or.inl ⟨by rfl, ?_⟩) hS0 ?_
    · intro w' hSw
      clear hSw
      go_simp
    simp only [List.getElem_toArray, List.getElem_cons_succ, List.getElem_cons_zero, Act.put, List.setIfInBounds_toArray, List.set_cons_zero, List.set_cons_succ]
    refine wpAnyH_take (i := 2) (v := .pointer (some ⟨w1.heap.size + 1 + 1 + 1 + 1 + 1, 4, none⟩)) rfl (by kernel_rfl) (by kernel_rfl) (by kernel_rfl) (fun _ _ _ h => h) (Or.inl ⟨by rfl, ?_⟩) hS0 ?_
    · intro w' hSw
      clear hSw
      go_simp
    simp only [List.getElem_toArray, List.getElem_cons_succ, List.getElem_cons_zero, Act.put, List.setIfInBounds_toArray, List.set_cons_zero, List.set_cons_succ]
    refine wpAnyH_take (i := 3) (v := .slice (some ⟨w1.heap.size + 1 + 1 + 1 + 1, 0, none⟩) 1 1) rfl (by kernel_rfl) (by kernel_rfl) (by kernel_rfl) (fun _ _ _ h => h) (Or.inl ⟨by rfl, ?_⟩) hS0 ?_
    · intro w' hSw
      obtain ⟨hS1, hS2, hS3, hS4⟩ := hSw
      go_simp
    simp only [List.getElem_toArray, List.getElem_cons_succ, List.getElem_cons_zero, Act.put, List.setIfInBounds_toArray, List.set_cons_zero, List.set_cons_succ]
    refine wpAnyH_take (i := 5) (v := .slice (some ⟨w1.heap.size + 1 + 1 + 1 + 1 + 1 + 1, 0, none⟩) 5 5) rfl (by kernel_rfl) (by kernel_rfl) (by kernel_rfl) (fun _ _ _ h => h) (Or.inl ⟨by rfl, ?_⟩) hS0 ?_
    · intro w' hSw
      clear hSw
      go_simp
    simp only [List.getElem_toArray, List.getElem_cons_succ, List.getElem_cons_zero, Act.put, List.setIfInBounds_toArray, List.set_cons_zero, List.set_cons_succ]
    refine wpAnyH_take (i := 6) (v := .int .i64 4) rfl (by kernel_rfl) (by kernel_rfl) (by kernel_rfl) (fun _ _ _ h => h) (Or.inl ⟨by rfl, ?_⟩) hS0 ?_
    · intro w' hSw
      clear hSw
      go_simp
    simp only [List.getElem_toArray, List.getElem_cons_succ, List.getElem_cons_zero, Act.put, List.setIfInBounds_toArray, List.set_cons_zero, List.set_cons_succ]
    refine wpAnyH_take (i := 7) (v := .pointer (some ⟨w1.heap.size + 1 + 1 + 1 + 1 + 1 + 1, 4, none⟩)) rfl (by kernel_rfl) (by kernel_rfl) (by kernel_rfl) (fun _ _ _ h => h) (Or.inl ⟨by rfl, ?_⟩) hS0 ?_
    · intro w' hSw
      clear hSw
      go_simp
    simp only [List.getElem_toArray, List.getElem_cons_succ, List.getElem_cons_zero, Act.put, List.setIfInBounds_toArray, List.set_cons_zero, List.set_cons_succ]
    refine wpAnyH_take (i := 8) (v := .string ⟨#[123, 34, 92, 120, 48, 48, 92, 120, 49, 102, 92, 120, 55, 102, 92, 120, 102, 102, 126, 32, 34, 58, 32, 123, 125, 125]⟩) rfl (by kernel_rfl) (by kernel_rfl) (by kernel_rfl) (fun _ _ _ h => h) (Or.inl ⟨by rfl, ?_⟩) hS0 ?_
    · intro w' hSw
      obtain ⟨hS1, hS2, hS3, hS4⟩ := hSw
      go_simp
    simp only [List.getElem_toArray, List.getElem_cons_succ, List.getElem_cons_zero, Act.put, List.setIfInBounds_toArray, List.set_cons_zero, List.set_cons_succ]
    refine wpAnyH_ready (rs := [4]) (by kernel_rfl) (by simp) (AllReadyH.cons rfl (fun K hK => ?_) AllReadyH.nil)
    go_simp
    refine (HT.out _ (Below.refl _ W).drew).mono ?_
    rintro e u1 ⟨rfl, hu1⟩
    have hx1 := (hu1.cell (p := ⟨w1.heap.size + 1 + 1 + 1 + 1 + 1, 4, none⟩) hl20).trans hcx4
    have hy1 := (hu1.cell (p := ⟨w1.heap.size + 1 + 1 + 1 + 1 + 1 + 1, 4, none⟩) hl21).trans hcy4
    have hz1 := (hu1.cell (p := ⟨w1.heap.size + 1 + 1 + 1 + 1 + 1 + 1 + 1 + 1 + 1 + 1 + 1 + 1, 4, none⟩) hl27).trans hcz4
    have hcv1 := run_text 30 9 5 Try.underlying30 Try.underlying5 Try.underlying9 (c := 12) (hsee4.drew.below hu1)
    refine hK.out _ _ ⟨hx1, hy1, hz1, hcv1⟩ (fun hS0 => ?_)
    clear hK K
    refine wpAnyH_take (i := 9) (v := .bool true) rfl (by kernel_rfl) (by kernel_rfl) (by kernel_rfl) (fun _ _ _ h => h) (Or.inl ⟨by rfl, ?_⟩) hS0 ?_
    · intro w' hSw
      clear hSw
      go_simp
    simp only [List.getElem_toArray, List.getElem_cons_succ, List.getElem_cons_zero, Act.put, List.setIfInBounds_toArray, List.set_cons_zero, List.set_cons_succ]
    refine wpAnyH_take (i := 10) (v := .bool true) rfl (by kernel_rfl) (by kernel_rfl) (by kernel_rfl) (fun _ _ _ h => h) (Or.inl ⟨by rfl, ?_⟩) hS0 ?_
    · intro w' hSw
      clear hSw
      go_simp
    simp only [List.getElem_toArray, List.getElem_cons_succ, List.getElem_cons_zero, Act.put, List.setIfInBounds_toArray, List.set_cons_zero, List.set_cons_succ]
    refine wpAnyH_take (i := 11) (v := .slice (some ⟨w1.heap.size + 1 + 1 + 1 + 1 + 1, 0, none⟩) 5 5) rfl (by kernel_rfl) (by kernel_rfl) (by kernel_rfl) (fun _ _ _ h => h) (Or.inl ⟨by rfl, ?_⟩) hS0 ?_
    · intro w' hSw
      clear hSw
      go_simp
    simp only [List.getElem_toArray, List.getElem_cons_succ, List.getElem_cons_zero, Act.put, List.setIfInBounds_toArray, List.set_cons_zero, List.set_cons_succ]
    refine wpAnyH_take (i := 12) (v := .int .i64 4) rfl (by kernel_rfl) (by kernel_rfl) (by kernel_rfl) (fun _ _ _ h => h) (Or.inl ⟨by rfl, ?_⟩) hS0 ?_
    · intro w' hSw
      clear hSw
      go_simp
    simp only [List.getElem_toArray, List.getElem_cons_succ, List.getElem_cons_zero, Act.put, List.setIfInBounds_toArray, List.set_cons_zero, List.set_cons_succ]
    refine wpAnyH_take (i := 13) (v := .pointer (some ⟨w1.heap.size + 1 + 1 + 1 + 1 + 1, 4, none⟩)) rfl (by kernel_rfl) (by kernel_rfl) (by kernel_rfl) (fun _ _ _ h => h) (Or.inl ⟨by rfl, ?_⟩) hS0 ?_
    · intro w' hSw
      clear hSw
      go_simp
    simp only [List.getElem_toArray, List.getElem_cons_succ, List.getElem_cons_zero, Act.put, List.setIfInBounds_toArray, List.set_cons_zero, List.set_cons_succ]
    refine wpAnyH_take (i := 14) (v := .slice (some ⟨w1.heap.size + 1 + 1 + 1 + 1, 0, none⟩) 1 1) rfl (by kernel_rfl) (by kernel_rfl) (by kernel_rfl) (fun _ _ _ h => h) (Or.inl ⟨by rfl, ?_⟩) hS0 ?_
    · intro w' hSw
      obtain ⟨hS1, hS2, hS3, hS4⟩ := hSw
      go_simp
    simp only [List.getElem_toArray, List.getElem_cons_succ, List.getElem_cons_zero, Act.put, List.setIfInBounds_toArray, List.set_cons_zero, List.set_cons_succ]
    refine wpAnyH_take (i := 17) (v := .slice (some ⟨w1.heap.size + 1 + 1 + 1 + 1 + 1 + 1 + 1 + 1 + 1 + 1 + 1 + 1, 0, none⟩) 5 5) rfl (by kernel_rfl) (by kernel_rfl) (by kernel_rfl) (fun _ _ _ h => h) (Or.inl ⟨by rfl, ?_⟩) hS0 ?_
    · intro w' hSw
      clear hSw
      go_simp
    simp only [List.getElem_toArray, List.getElem_cons_succ, List.getElem_cons_zero, Act.put, List.setIfInBounds_toArray, List.set_cons_zero, List.set_cons_succ]
    refine wpAnyH_take (i := 18) (v := .int .i64 4) rfl (by kernel_rfl) (by kernel_rfl) (by kernel_rfl) (fun _ _ _ h => h) (Or.inl ⟨by rfl, ?_⟩) hS0 ?_
    · intro w' hSw
      clear hSw
      go_simp
    simp only [List.getElem_toArray, List.getElem_cons_succ, List.getElem_cons_zero, Act.put, List.setIfInBounds_toArray, List.set_cons_zero, List.set_cons_succ]
    refine wpAnyH_take (i := 19) (v := .pointer (some ⟨w1.heap.size + 1 + 1 + 1 + 1 + 1 + 1 + 1 + 1 + 1 + 1 + 1 + 1, 4, none⟩)) rfl (by kernel_rfl) (by kernel_rfl) (by kernel_rfl) (fun _ _ _ h => h) (Or.inl ⟨by rfl, ?_⟩) hS0 ?_
    · intro w' hSw
      clear hSw
      go_simp
    simp only [List.getElem_toArray, List.getElem_cons_succ, List.getElem_cons_zero, Act.put, List.setIfInBounds_toArray, List.set_cons_zero, List.set_cons_succ]
    refine wpAnyH_take (i := 20) (v := .slice (some ⟨w1.heap.size + 1 + 1 + 1 + 1 + 1 + 1 + 1 + 1 + 1 + 1 + 1, 0, none⟩) 12 12) rfl (by kernel_rfl) (by kernel_rfl) (by kernel_rfl) (fun _ _ _ h => h) (Or.inl ⟨by rfl, ?_⟩) hS0 ?_
    · intro w' hSw
      obtain ⟨hS1, hS2, hS3, hS4⟩ := hSw
      go_simp
    simp only [List.getElem_toArray, List.getElem_cons_succ, List.getElem_cons_zero, Act.put, List.setIfInBounds_toArray, List.set_cons_zero, List.set_cons_succ]
    refine wpAnyH_take (i := 21) (v := .string ⟨#[1, 0, 6, 0, 0, 31, 127, 255, 126, 32, 0, 0]⟩) rfl (by kernel_rfl) (by kernel_rfl) (by kernel_rfl) (fun _ _ _ h => h) (Or.inl ⟨by rfl, ?_⟩) hS0 ?_
    · intro w' hSw
      obtain ⟨hS1, hS2, hS3, hS4⟩ := hSw
      go_simp
    simp only [List.getElem_toArray, List.getElem_cons_succ, List.getElem_cons_zero, Act.put, List.setIfInBounds_toArray, List.set_cons_zero, List.set_cons_succ]
    refine wpAnyH_ready (rs := [15]) (by kernel_rfl) (by simp) (AllReadyH.cons rfl (fun K hK => ?_) AllReadyH.nil)
    go_simp
    refine (HB.out u1 ((Below.refl _ W).drew.trans hu1)).mono ?_
    rintro e u2 ⟨A2, N2, c2, rfl, ho2, hu2⟩
    have hx2 := (hu2.cell (p := ⟨w1.heap.size + 1 + 1 + 1 + 1 + 1, 4, none⟩) (Nat.lt_of_lt_of_le hl20 hu1.size)).trans hx1
    have hy2 := (hu2.cell (p := ⟨w1.heap.size + 1 + 1 + 1 + 1 + 1 + 1, 4, none⟩) (Nat.lt_of_lt_of_le hl21 hu1.size)).trans hy1
    have hz2 := (hu2.cell (p := ⟨w1.heap.size + 1 + 1 + 1 + 1 + 1 + 1 + 1 + 1 + 1 + 1 + 1 + 1, 4, none⟩) (Nat.lt_of_lt_of_le hl27 hu1.size)).trans hz1
    have hcv2 := run_text 30 9 5 Try.underlying30 Try.underlying5 Try.underlying9 (c := 12) ((hsee4.drew.below hu1).below (hu2.mono hu1.size))
    have hcv3 := run_text 30 9 5 Try.underlying30 Try.underlying5 Try.underlying9 (c := c2) ho2.sees
    refine hK.out _ _ ⟨hx2, hy2, hz2, hcv2⟩ (fun hS0 => ?_)
    clear hK K
    refine wpAnyH_ready (rs := [16]) (by kernel_rfl) (by simp) (AllReadyH.cons rfl (fun K hK => ?_) AllReadyH.nil)
    go_simp
    refine hK.out _ _ ⟨hx2, hy2, hz2, hcv2⟩ (fun hS0 => ?_)
    clear hK K
    refine wpAnyH_take (i := 22) (v := .bool true) rfl (by kernel_rfl) (by kernel_rfl) (by kernel_rfl) (fun _ _ _ h => h) (Or.inl ⟨by rfl, ?_⟩) hS0 ?_
    · intro w' hSw
      clear hSw
      go_simp
    simp only [List.getElem_toArray, List.getElem_cons_succ, List.getElem_cons_zero, Act.put, List.setIfInBounds_toArray, List.set_cons_zero, List.set_cons_succ]
    refine wpAnyH_take (i := 23) (v := .bool true) rfl (by kernel_rfl) (by kernel_rfl) (by kernel_rfl) (fun _ _ _ h => h) (Or.inl ⟨by rfl, ?_⟩) hS0 ?_
    · intro w' hSw
      clear hSw
      go_simp
    simp only [List.getElem_toArray, List.getElem_cons_succ, List.getElem_cons_zero, Act.put, List.setIfInBounds_toArray, List.set_cons_zero, List.set_cons_succ]
    refine wpAnyH_take (i := 24) (v := .bool true) rfl (by kernel_rfl) (by kernel_rfl) (by kernel_rfl) (fun _ _ _ h => h) (Or.inl ⟨by rfl, ?_⟩) hS0 ?_
    · intro w' hSw
      clear hSw
      go_simp
    simp only [List.getElem_toArray, List.getElem_cons_succ, List.getElem_cons_zero, Act.put, List.setIfInBounds_toArray, List.set_cons_zero, List.set_cons_succ]
    refine wpAnyH_done (by kernel_rfl) ?_ _
    refine NoPanic.normal ?_
    go_wp2_with fail
    go_ret
    exact ⟨rfl, hb1.trans ((((hbW.drew).trans (hu1.mono hbW.size)).trans (hu2.mono (Nat.le_trans hbW.size hu1.size))).mono hb1.size)⟩
end Go.Proofs.Ytmeibcbfjgikhaa
