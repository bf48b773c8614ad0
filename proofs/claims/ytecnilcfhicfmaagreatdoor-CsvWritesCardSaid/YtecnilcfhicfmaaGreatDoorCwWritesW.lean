/- CsvWrites' walk. Conditions: MaxLen's cell. -/
import Derived.Test.YtecnilcfhicfmaaGreatDoorMw40
import Derived.Test.YtecnilcfhicfmaaGreatDoorMw41
namespace Go.Proofs.YtecnilcfhicfmaaGreatDoor.Cv
open Go.RowKit Go.Proofs.YtecnilcfhicfmaaGreatDoor.Jd Go.Proofs.YtecnilcfhicfmaaGreatDoor.Li Go.Proofs.YtecnilcfhicfmaaGreatDoor.Pt
set_option maxRecDepth 100000
attribute [local go_sem ↓] Go.wp_at_zero Go.wp_at_succ

theorem rvalue_any (x : ByteArray) (w : World) : Calls Tryz.prog 5 #[.string x] w fun e w' => e = .returned (.slice (some ⟨w.heap.size, 0, none⟩) 1 1) ∧ w' = w.alloc (Obj.cells #[Value.string x, Value.slice none 0 0] 27) := by
  go_enter Tryz.func5, Tryz.ntmps5
  go_wp2_with fail
  go_ret
  exact ⟨rfl, rfl⟩
def allocs (w : World) : List Obj → World
  | [] => w
  | o :: r => allocs (w.alloc o) r
theorem allocs_below : ∀ (os : List Obj) (w : World), Below w.heap.size w (allocs w os)
  | [], w => Below.refl _ _
  | o :: r, w => ((Below.refl _ _).alloc (Nat.le_refl _) o).trans ((allocs_below r (w.alloc o)).mono (by simp))
theorem allocs_get : ∀ (os : List Obj) (w : World) (i : Nat) (o : Obj), os[i]? = some o → (allocs w os).heap[w.heap.size + i]? = some o
  | [], w, i, o, h => by simp at h
  | o' :: r, w, 0, o, h => by
    simp only [List.getElem?_cons_zero, Option.some.injEq] at h
    subst h
    have := (allocs_below r (w.alloc o')).block w.heap.size (by simp)
    rw [Nat.add_zero, allocs, this]
    exact heap_alloc_new w o'
  | o' :: r, w, i + 1, o, h => by
    simp only [List.getElem?_cons_succ] at h
    have := allocs_get r (w.alloc o') i o h
    rw [allocs, show w.heap.size + (i + 1) = (w.alloc o').heap.size + i by simp; omega]
    exact this
theorem allocs_size : ∀ (os : List Obj) (w : World), (allocs w os).heap.size = w.heap.size + os.length
  | [], w => rfl
  | o :: r, w => by rw [allocs, allocs_size r (w.alloc o)]; simp; omega
theorem allocs_at (os : List Obj) (w : World) (i : Nat) {cs : Array Value} {t : TypeId} (h : os[i]? = some (.cells cs t)) (j : Nat) : (allocs w os).cell? ⟨w.heap.size + i, j, none⟩ = cs[j]? := cell_of_row _ _ j _ t (0, 0) (allocs_get os w i _ h)
theorem hold0 (w : World) (B : Nat) (A : Option Addr) : Holds w B A 0 .nil := rfl
theorem hold1 {w : World} {B b o m n c : Nat} {A : Option Addr} {s : ByteArray} {k r : Tr} (hb : b < B) (h1 : w.cell? ⟨b, o, none⟩ = some (.string s)) (h2 : w.cell? ⟨b, o + 1, none⟩ = some (.slice A n c)) (hn : n ≤ c) (hc : c ≤ maxLen) (hk : Holds w B A n k) (hr : Holds w B (some ⟨b, o + 2, none⟩) m r) : Holds w B (some ⟨b, o, none⟩) (m + 1) (.cons s k r) :=
  ⟨b, o, rfl, hb, h1, ⟨A, n, c, h2, hn, hc, hk⟩, m, rfl, hr⟩
def trEq : (a b : Tr) → Decidable (a = b)
  | .nil, .nil => isTrue rfl
  | .nil, .cons _ _ _ => isFalse (by intro h; cases h)
  | .cons _ _ _, .nil => isFalse (by intro h; cases h)
  | .cons s k r, .cons s' k' r' =>
    if hs : s = s' then
      match trEq k k', trEq r r' with
      | isTrue hk, isTrue hr => isTrue (by rw [hs, hk, hr])
      | isFalse hk, _ => isFalse (by intro h; injection h with _ h _; exact hk h)
      | _, isFalse hr => isFalse (by intro h; injection h with _ _ h; exact hr h)
    else isFalse (by intro h; injection h with h _ _; exact hs h)
def wV (x : ByteArray) : Tr := .cons x .nil .nil
def wAB (x : ByteArray) : Tr := .cons ⟨#[97]⟩ (wV x) (.cons ⟨#[98]⟩ (wV ⟨#[50]⟩) .nil)
theorem w_pt : putT (wAB ⟨#[49]⟩) [⟨#[97]⟩] (wV ⟨#[51]⟩) = wAB ⟨#[51]⟩ := @of_decide_eq_true _ (trEq _ _) (by decide +kernel)
/-- One of the trees: what is made of it. -/
def Six (W : World) (g h k : Nat) : Prop := ∃ (A : Option Addr) (n c : Nat) (t : Tr) (x : ByteArray), W.cell? ⟨g, k, none⟩ = some (.slice A n c) ∧ W.cell? ⟨h, k, none⟩ = some (.string x) ∧ Holds W W.heap.size A n t ∧ n ≤ c ∧ c ≤ maxLen ∧ PutOk wHd wX0 wXl wRs t ∧ (fitsC t = 0 ∧ okB t = true) ∧ mkB (putB wHd wXl wRs t) = x ∧ (putB wHd wXl wRs t).length ≤ 4000
set_option maxHeartbeats 2000000 in
theorem six (w1 W w9 : World) (A' : Option Addr) (n' c' : Nat) (hW : W = allocs w1 [Obj.cells #[Value.string ⟨#[49]⟩, Value.slice none 0 0] 27, Obj.cells #[Value.string ⟨#[50]⟩, Value.slice none 0 0] 27, Obj.cells #[Value.string ⟨#[97]⟩, Value.slice (some ⟨w1.heap.size, 0, none⟩) 1 1, Value.string ⟨#[98]⟩, Value.slice (some ⟨w1.heap.size + 1, 0, none⟩) 1 1] 27, Obj.cells #[Value.string ⟨#[120]⟩, Value.slice (some ⟨w1.heap.size + 1 + 1, 0, none⟩) 2 2, Value.string ⟨#[121]⟩, Value.slice none 0 0] 27, Obj.cells #[Value.string ⟨#[97]⟩] 9, Obj.cells #[Value.string ⟨#[51]⟩, Value.slice none 0 0] 27]) (hb : Below W.heap.size W w9) (ho : OkT w9 A' n' c' (wAB ⟨#[51]⟩)) (k : Nat) (hk : k < 6) :
    Six (allocs w9 [Obj.cells #[Value.string ⟨#[120]⟩, Value.slice A' n' c', Value.string ⟨#[121]⟩, Value.slice none 0 0] 27, Obj.cells #[Value.string ⟨#[121]⟩, Value.slice none 0 0] 27, Obj.cells #[Value.string ⟨#[112, 44, 113]⟩, Value.slice none 0 0] 27, Obj.cells #[Value.string ⟨#[99]⟩, Value.slice (some ⟨w9.heap.size + 1 + 1, 0, none⟩) 1 1] 27, Obj.cells #[Value.string ⟨#[120]⟩, Value.slice (some ⟨w1.heap.size + 1 + 1, 0, none⟩) 2 2, Value.string ⟨#[121]⟩, Value.slice (some ⟨w9.heap.size + 1 + 1 + 1, 0, none⟩) 1 1] 27, Obj.cells #[Value.string ⟨#[118]⟩, Value.slice none 0 0] 27, Obj.cells #[Value.string ⟨#[98]⟩, Value.slice (some ⟨w9.heap.size + 1 + 1 + 1 + 1 + 1, 0, none⟩) 1 1] 27, Obj.cells #[Value.string ⟨#[119, 34]⟩, Value.slice (some ⟨w9.heap.size + 1 + 1 + 1 + 1 + 1 + 1, 0, none⟩) 1 1, Value.string ⟨#[120]⟩, Value.slice none 0 0, Value.string ⟨#[121]⟩, Value.slice none 0 0] 27, Obj.cells #[Value.slice (some ⟨w1.heap.size + 1 + 1 + 1, 0, none⟩) 2 2, Value.slice (some ⟨w9.heap.size, 0, none⟩) 2 2, Value.slice (some ⟨w9.heap.size + 1, 0, none⟩) 1 1, Value.slice (some ⟨w9.heap.size + 1 + 1 + 1 + 1, 0, none⟩) 2 2, Value.slice (some ⟨w9.heap.size + 1 + 1 + 1 + 1 + 1 + 1 + 1, 0, none⟩) 3 3, Value.slice none 0 0] 24, Obj.cells #[Value.string ⟨#[107, 101, 121, 44, 97, 44, 34, 98, 34, 10, 120, 44, 34, 49, 34, 44, 50, 10, 121, 44, 44, 34, 34]⟩, Value.string ⟨#[107, 101, 121, 44, 97, 44, 34, 98, 34, 10, 120, 44, 51, 44, 50, 10, 121, 44, 44, 34, 34]⟩, Value.string ⟨#[107, 101, 121, 44, 97, 44, 34, 98, 34, 10, 121, 44, 44, 34, 34]⟩, Value.string ⟨#[107, 101, 121, 44, 97, 44, 34, 98, 34, 44, 99, 10, 120, 44, 34, 49, 34, 44, 50, 44, 10, 121, 44, 44, 34, 34, 44, 34, 112, 44, 113, 34]⟩, Value.string ⟨#[107, 101, 121, 44, 97, 44, 34, 98, 34, 10, 120, 44, 44, 10, 121, 44, 44, 34, 34, 10, 34, 119, 34, 34, 34, 44, 44, 118, 10]⟩, Value.string ⟨#[107, 101, 121, 44, 97, 44, 34, 98, 34, 10]⟩] 9]) (w9.heap.size + 8) (w9.heap.size + 9) k := by
  have ha := fun i (cs : Array Value) (t : TypeId) h j => allocs_at [Obj.cells #[Value.string ⟨#[49]⟩, Value.slice none 0 0] 27, Obj.cells #[Value.string ⟨#[50]⟩, Value.slice none 0 0] 27, Obj.cells #[Value.string ⟨#[97]⟩, Value.slice (some ⟨w1.heap.size, 0, none⟩) 1 1, Value.string ⟨#[98]⟩, Value.slice (some ⟨w1.heap.size + 1, 0, none⟩) 1 1] 27, Obj.cells #[Value.string ⟨#[120]⟩, Value.slice (some ⟨w1.heap.size + 1 + 1, 0, none⟩) 2 2, Value.string ⟨#[121]⟩, Value.slice none 0 0] 27, Obj.cells #[Value.string ⟨#[97]⟩] 9, Obj.cells #[Value.string ⟨#[51]⟩, Value.slice none 0 0] 27] w1 i (cs := cs) (t := t) h j
  rw [← hW] at ha
  have hs := allocs_size [Obj.cells #[Value.string ⟨#[49]⟩, Value.slice none 0 0] 27, Obj.cells #[Value.string ⟨#[50]⟩, Value.slice none 0 0] 27, Obj.cells #[Value.string ⟨#[97]⟩, Value.slice (some ⟨w1.heap.size, 0, none⟩) 1 1, Value.string ⟨#[98]⟩, Value.slice (some ⟨w1.heap.size + 1, 0, none⟩) 1 1] 27, Obj.cells #[Value.string ⟨#[120]⟩, Value.slice (some ⟨w1.heap.size + 1 + 1, 0, none⟩) 2 2, Value.string ⟨#[121]⟩, Value.slice none 0 0] 27, Obj.cells #[Value.string ⟨#[97]⟩] 9, Obj.cells #[Value.string ⟨#[51]⟩, Value.slice none 0 0] 27] w1
  rw [← hW] at hs
  simp only [List.length_cons, List.length_nil] at hs
  clear hW
  obtain ⟨F, hF⟩ : ∃ F, F = allocs w9 [Obj.cells #[Value.string ⟨#[120]⟩, Value.slice A' n' c', Value.string ⟨#[121]⟩, Value.slice none 0 0] 27, Obj.cells #[Value.string ⟨#[121]⟩, Value.slice none 0 0] 27, Obj.cells #[Value.string ⟨#[112, 44, 113]⟩, Value.slice none 0 0] 27, Obj.cells #[Value.string ⟨#[99]⟩, Value.slice (some ⟨w9.heap.size + 1 + 1, 0, none⟩) 1 1] 27, Obj.cells #[Value.string ⟨#[120]⟩, Value.slice (some ⟨w1.heap.size + 1 + 1, 0, none⟩) 2 2, Value.string ⟨#[121]⟩, Value.slice (some ⟨w9.heap.size + 1 + 1 + 1, 0, none⟩) 1 1] 27, Obj.cells #[Value.string ⟨#[118]⟩, Value.slice none 0 0] 27, Obj.cells #[Value.string ⟨#[98]⟩, Value.slice (some ⟨w9.heap.size + 1 + 1 + 1 + 1 + 1, 0, none⟩) 1 1] 27, Obj.cells #[Value.string ⟨#[119, 34]⟩, Value.slice (some ⟨w9.heap.size + 1 + 1 + 1 + 1 + 1 + 1, 0, none⟩) 1 1, Value.string ⟨#[120]⟩, Value.slice none 0 0, Value.string ⟨#[121]⟩, Value.slice none 0 0] 27, Obj.cells #[Value.slice (some ⟨w1.heap.size + 1 + 1 + 1, 0, none⟩) 2 2, Value.slice (some ⟨w9.heap.size, 0, none⟩) 2 2, Value.slice (some ⟨w9.heap.size + 1, 0, none⟩) 1 1, Value.slice (some ⟨w9.heap.size + 1 + 1 + 1 + 1, 0, none⟩) 2 2, Value.slice (some ⟨w9.heap.size + 1 + 1 + 1 + 1 + 1 + 1 + 1, 0, none⟩) 3 3, Value.slice none 0 0] 24, Obj.cells #[Value.string ⟨#[107, 101, 121, 44, 97, 44, 34, 98, 34, 10, 120, 44, 34, 49, 34, 44, 50, 10, 121, 44, 44, 34, 34]⟩, Value.string ⟨#[107, 101, 121, 44, 97, 44, 34, 98, 34, 10, 120, 44, 51, 44, 50, 10, 121, 44, 44, 34, 34]⟩, Value.string ⟨#[107, 101, 121, 44, 97, 44, 34, 98, 34, 10, 121, 44, 44, 34, 34]⟩, Value.string ⟨#[107, 101, 121, 44, 97, 44, 34, 98, 34, 44, 99, 10, 120, 44, 34, 49, 34, 44, 50, 44, 10, 121, 44, 44, 34, 34, 44, 34, 112, 44, 113, 34]⟩, Value.string ⟨#[107, 101, 121, 44, 97, 44, 34, 98, 34, 10, 120, 44, 44, 10, 121, 44, 44, 34, 34, 10, 34, 119, 34, 34, 34, 44, 44, 118, 10]⟩, Value.string ⟨#[107, 101, 121, 44, 97, 44, 34, 98, 34, 10]⟩] 9] := ⟨_, rfl⟩
  have hc := fun i (cs : Array Value) (t : TypeId) h j => allocs_at [Obj.cells #[Value.string ⟨#[120]⟩, Value.slice A' n' c', Value.string ⟨#[121]⟩, Value.slice none 0 0] 27, Obj.cells #[Value.string ⟨#[121]⟩, Value.slice none 0 0] 27, Obj.cells #[Value.string ⟨#[112, 44, 113]⟩, Value.slice none 0 0] 27, Obj.cells #[Value.string ⟨#[99]⟩, Value.slice (some ⟨w9.heap.size + 1 + 1, 0, none⟩) 1 1] 27, Obj.cells #[Value.string ⟨#[120]⟩, Value.slice (some ⟨w1.heap.size + 1 + 1, 0, none⟩) 2 2, Value.string ⟨#[121]⟩, Value.slice (some ⟨w9.heap.size + 1 + 1 + 1, 0, none⟩) 1 1] 27, Obj.cells #[Value.string ⟨#[118]⟩, Value.slice none 0 0] 27, Obj.cells #[Value.string ⟨#[98]⟩, Value.slice (some ⟨w9.heap.size + 1 + 1 + 1 + 1 + 1, 0, none⟩) 1 1] 27, Obj.cells #[Value.string ⟨#[119, 34]⟩, Value.slice (some ⟨w9.heap.size + 1 + 1 + 1 + 1 + 1 + 1, 0, none⟩) 1 1, Value.string ⟨#[120]⟩, Value.slice none 0 0, Value.string ⟨#[121]⟩, Value.slice none 0 0] 27, Obj.cells #[Value.slice (some ⟨w1.heap.size + 1 + 1 + 1, 0, none⟩) 2 2, Value.slice (some ⟨w9.heap.size, 0, none⟩) 2 2, Value.slice (some ⟨w9.heap.size + 1, 0, none⟩) 1 1, Value.slice (some ⟨w9.heap.size + 1 + 1 + 1 + 1, 0, none⟩) 2 2, Value.slice (some ⟨w9.heap.size + 1 + 1 + 1 + 1 + 1 + 1 + 1, 0, none⟩) 3 3, Value.slice none 0 0] 24, Obj.cells #[Value.string ⟨#[107, 101, 121, 44, 97, 44, 34, 98, 34, 10, 120, 44, 34, 49, 34, 44, 50, 10, 121, 44, 44, 34, 34]⟩, Value.string ⟨#[107, 101, 121, 44, 97, 44, 34, 98, 34, 10, 120, 44, 51, 44, 50, 10, 121, 44, 44, 34, 34]⟩, Value.string ⟨#[107, 101, 121, 44, 97, 44, 34, 98, 34, 10, 121, 44, 44, 34, 34]⟩, Value.string ⟨#[107, 101, 121, 44, 97, 44, 34, 98, 34, 44, 99, 10, 120, 44, 34, 49, 34, 44, 50, 44, 10, 121, 44, 44, 34, 34, 44, 34, 112, 44, 113, 34]⟩, Value.string ⟨#[107, 101, 121, 44, 97, 44, 34, 98, 34, 10, 120, 44, 44, 10, 121, 44, 44, 34, 34, 10, 34, 119, 34, 34, 34, 44, 44, 118, 10]⟩, Value.string ⟨#[107, 101, 121, 44, 97, 44, 34, 98, 34, 10]⟩] 9] w9 i (cs := cs) (t := t) h j
  have hbF := allocs_below [Obj.cells #[Value.string ⟨#[120]⟩, Value.slice A' n' c', Value.string ⟨#[121]⟩, Value.slice none 0 0] 27, Obj.cells #[Value.string ⟨#[121]⟩, Value.slice none 0 0] 27, Obj.cells #[Value.string ⟨#[112, 44, 113]⟩, Value.slice none 0 0] 27, Obj.cells #[Value.string ⟨#[99]⟩, Value.slice (some ⟨w9.heap.size + 1 + 1, 0, none⟩) 1 1] 27, Obj.cells #[Value.string ⟨#[120]⟩, Value.slice (some ⟨w1.heap.size + 1 + 1, 0, none⟩) 2 2, Value.string ⟨#[121]⟩, Value.slice (some ⟨w9.heap.size + 1 + 1 + 1, 0, none⟩) 1 1] 27, Obj.cells #[Value.string ⟨#[118]⟩, Value.slice none 0 0] 27, Obj.cells #[Value.string ⟨#[98]⟩, Value.slice (some ⟨w9.heap.size + 1 + 1 + 1 + 1 + 1, 0, none⟩) 1 1] 27, Obj.cells #[Value.string ⟨#[119, 34]⟩, Value.slice (some ⟨w9.heap.size + 1 + 1 + 1 + 1 + 1 + 1, 0, none⟩) 1 1, Value.string ⟨#[120]⟩, Value.slice none 0 0, Value.string ⟨#[121]⟩, Value.slice none 0 0] 27, Obj.cells #[Value.slice (some ⟨w1.heap.size + 1 + 1 + 1, 0, none⟩) 2 2, Value.slice (some ⟨w9.heap.size, 0, none⟩) 2 2, Value.slice (some ⟨w9.heap.size + 1, 0, none⟩) 1 1, Value.slice (some ⟨w9.heap.size + 1 + 1 + 1 + 1, 0, none⟩) 2 2, Value.slice (some ⟨w9.heap.size + 1 + 1 + 1 + 1 + 1 + 1 + 1, 0, none⟩) 3 3, Value.slice none 0 0] 24, Obj.cells #[Value.string ⟨#[107, 101, 121, 44, 97, 44, 34, 98, 34, 10, 120, 44, 34, 49, 34, 44, 50, 10, 121, 44, 44, 34, 34]⟩, Value.string ⟨#[107, 101, 121, 44, 97, 44, 34, 98, 34, 10, 120, 44, 51, 44, 50, 10, 121, 44, 44, 34, 34]⟩, Value.string ⟨#[107, 101, 121, 44, 97, 44, 34, 98, 34, 10, 121, 44, 44, 34, 34]⟩, Value.string ⟨#[107, 101, 121, 44, 97, 44, 34, 98, 34, 44, 99, 10, 120, 44, 34, 49, 34, 44, 50, 44, 10, 121, 44, 44, 34, 34, 44, 34, 112, 44, 113, 34]⟩, Value.string ⟨#[107, 101, 121, 44, 97, 44, 34, 98, 34, 10, 120, 44, 44, 10, 121, 44, 44, 34, 34, 10, 34, 119, 34, 34, 34, 44, 44, 118, 10]⟩, Value.string ⟨#[107, 101, 121, 44, 97, 44, 34, 98, 34, 10]⟩] 9] w9
  have hsF := allocs_size [Obj.cells #[Value.string ⟨#[120]⟩, Value.slice A' n' c', Value.string ⟨#[121]⟩, Value.slice none 0 0] 27, Obj.cells #[Value.string ⟨#[121]⟩, Value.slice none 0 0] 27, Obj.cells #[Value.string ⟨#[112, 44, 113]⟩, Value.slice none 0 0] 27, Obj.cells #[Value.string ⟨#[99]⟩, Value.slice (some ⟨w9.heap.size + 1 + 1, 0, none⟩) 1 1] 27, Obj.cells #[Value.string ⟨#[120]⟩, Value.slice (some ⟨w1.heap.size + 1 + 1, 0, none⟩) 2 2, Value.string ⟨#[121]⟩, Value.slice (some ⟨w9.heap.size + 1 + 1 + 1, 0, none⟩) 1 1] 27, Obj.cells #[Value.string ⟨#[118]⟩, Value.slice none 0 0] 27, Obj.cells #[Value.string ⟨#[98]⟩, Value.slice (some ⟨w9.heap.size + 1 + 1 + 1 + 1 + 1, 0, none⟩) 1 1] 27, Obj.cells #[Value.string ⟨#[119, 34]⟩, Value.slice (some ⟨w9.heap.size + 1 + 1 + 1 + 1 + 1 + 1, 0, none⟩) 1 1, Value.string ⟨#[120]⟩, Value.slice none 0 0, Value.string ⟨#[121]⟩, Value.slice none 0 0] 27, Obj.cells #[Value.slice (some ⟨w1.heap.size + 1 + 1 + 1, 0, none⟩) 2 2, Value.slice (some ⟨w9.heap.size, 0, none⟩) 2 2, Value.slice (some ⟨w9.heap.size + 1, 0, none⟩) 1 1, Value.slice (some ⟨w9.heap.size + 1 + 1 + 1 + 1, 0, none⟩) 2 2, Value.slice (some ⟨w9.heap.size + 1 + 1 + 1 + 1 + 1 + 1 + 1, 0, none⟩) 3 3, Value.slice none 0 0] 24, Obj.cells #[Value.string ⟨#[107, 101, 121, 44, 97, 44, 34, 98, 34, 10, 120, 44, 34, 49, 34, 44, 50, 10, 121, 44, 44, 34, 34]⟩, Value.string ⟨#[107, 101, 121, 44, 97, 44, 34, 98, 34, 10, 120, 44, 51, 44, 50, 10, 121, 44, 44, 34, 34]⟩, Value.string ⟨#[107, 101, 121, 44, 97, 44, 34, 98, 34, 10, 121, 44, 44, 34, 34]⟩, Value.string ⟨#[107, 101, 121, 44, 97, 44, 34, 98, 34, 44, 99, 10, 120, 44, 34, 49, 34, 44, 50, 44, 10, 121, 44, 44, 34, 34, 44, 34, 112, 44, 113, 34]⟩, Value.string ⟨#[107, 101, 121, 44, 97, 44, 34, 98, 34, 10, 120, 44, 44, 10, 121, 44, 44, 34, 34, 10, 34, 119, 34, 34, 34, 44, 44, 118, 10]⟩, Value.string ⟨#[107, 101, 121, 44, 97, 44, 34, 98, 34, 10]⟩] 9] w9
  rw [← hF] at hc hbF hsF ⊢
  simp only [List.length_cons, List.length_nil] at hsF
  clear hF
  have h9 := hb.size
  have hold := fun i j (hi : i < 6) => ((hb.trans (hbF.mono h9)).cell (p := ⟨w1.heap.size + i, j, none⟩) (by simp only; omega))
  have b := fun i (cs : Array Value) (t : TypeId) h j (hi : i < 6) => (hold i j hi).trans (ha i cs t h j)
  have mx : ∀ n, n ≤ 3 → n ≤ maxLen := fun n h => by simp only [maxLen]; omega
  have hv0 : Holds F F.heap.size (some ⟨w1.heap.size + 0, 0, none⟩) 1 (wV ⟨#[49]⟩) := hold1 (by omega) (b 0 _ _ rfl 0 (by omega)) (b 0 _ _ rfl 1 (by omega)) (Nat.le_refl _) (mx _ (by omega)) (hold0 _ _ _) (hold0 _ _ _)
  have hv1 : Holds F F.heap.size (some ⟨w1.heap.size + 1, 0, none⟩) 1 (wV ⟨#[50]⟩) := hold1 (by omega) (b 1 _ _ rfl 0 (by omega)) (b 1 _ _ rfl 1 (by omega)) (Nat.le_refl _) (mx _ (by omega)) (hold0 _ _ _) (hold0 _ _ _)
  have hab : Holds F F.heap.size (some ⟨w1.heap.size + 2, 0, none⟩) 2 (wAB ⟨#[49]⟩) := hold1 (by omega) (b 2 _ _ rfl 0 (by omega)) (b 2 _ _ rfl 1 (by omega)) (Nat.le_refl _) (mx _ (by omega)) hv0 (hold1 (by omega) (b 2 _ _ rfl 2 (by omega)) (b 2 _ _ rfl 3 (by omega)) (Nat.le_refl _) (mx _ (by omega)) hv1 (hold0 _ _ _))
  have hpr : Holds F F.heap.size A' n' (wAB ⟨#[51]⟩) := (ho.holds.below hbF).more hbF.size
  have hv2 : Holds F F.heap.size (some ⟨w9.heap.size + 2, 0, none⟩) 1 (wV ⟨#[112, 44, 113]⟩) := hold1 (by omega) (hc 2 _ _ rfl 0) (hc 2 _ _ rfl 1) (Nat.le_refl _) (mx _ (by omega)) (hold0 _ _ _) (hold0 _ _ _)
  have hv3 := hold1 (B := F.heap.size) (b := w9.heap.size + 3) (by omega) (hc 3 _ _ rfl 0) (hc 3 _ _ rfl 1) (Nat.le_refl _) (mx _ (by omega)) hv2 (hold0 _ _ _)
  have hv5 : Holds F F.heap.size (some ⟨w9.heap.size + 5, 0, none⟩) 1 (wV ⟨#[118]⟩) := hold1 (by omega) (hc 5 _ _ rfl 0) (hc 5 _ _ rfl 1) (Nat.le_refl _) (mx _ (by omega)) (hold0 _ _ _) (hold0 _ _ _)
  have hv6 := hold1 (B := F.heap.size) (b := w9.heap.size + 6) (by omega) (hc 6 _ _ rfl 0) (hc 6 _ _ rfl 1) (Nat.le_refl _) (mx _ (by omega)) hv5 (hold0 _ _ _)
  match k, hk with
  | 0, _ => exact ⟨_, _, _, wT0, ⟨#[107, 101, 121, 44, 97, 44, 34, 98, 34, 10, 120, 44, 34, 49, 34, 44, 50, 10, 121, 44, 44, 34, 34]⟩, hc 8 _ _ rfl 0, hc 9 _ _ rfl 0, (hold1 (by omega) (b 3 _ _ rfl 0 (by omega)) (b 3 _ _ rfl 1 (by omega)) (Nat.le_refl _) (mx _ (by omega)) hab (hold1 (by omega) (b 3 _ _ rfl 2 (by omega)) (b 3 _ _ rfl 3 (by omega)) (Nat.le_refl _) (mx _ (by omega)) (hold0 _ _ _) (hold0 _ _ _))), Nat.le_refl _, mx _ (by omega), w_ok0, w_fit0, by rw [w_put0]; rfl, by rw [w_put0]; decide⟩
  | 1, _ => exact ⟨_, _, _, wT1, ⟨#[107, 101, 121, 44, 97, 44, 34, 98, 34, 10, 120, 44, 51, 44, 50, 10, 121, 44, 44, 34, 34]⟩, hc 8 _ _ rfl 1, hc 9 _ _ rfl 1, (hold1 (by omega) (hc 0 _ _ rfl 0) (hc 0 _ _ rfl 1) ho.cap.1 ho.cap.2 hpr (hold1 (by omega) (hc 0 _ _ rfl 2) (hc 0 _ _ rfl 3) (Nat.le_refl _) (mx _ (by omega)) (hold0 _ _ _) (hold0 _ _ _))), Nat.le_refl _, mx _ (by omega), w_ok1, w_fit1, by rw [w_put1]; rfl, by rw [w_put1]; decide⟩
  | 2, _ => exact ⟨_, _, _, wT2, ⟨#[107, 101, 121, 44, 97, 44, 34, 98, 34, 10, 121, 44, 44, 34, 34]⟩, hc 8 _ _ rfl 2, hc 9 _ _ rfl 2, (hold1 (by omega) (hc 1 _ _ rfl 0) (hc 1 _ _ rfl 1) (Nat.le_refl _) (mx _ (by omega)) (hold0 _ _ _) (hold0 _ _ _)), Nat.le_refl _, mx _ (by omega), w_ok2, w_fit2, by rw [w_put2]; rfl, by rw [w_put2]; decide⟩
  | 3, _ => exact ⟨_, _, _, wT3, ⟨#[107, 101, 121, 44, 97, 44, 34, 98, 34, 44, 99, 10, 120, 44, 34, 49, 34, 44, 50, 44, 10, 121, 44, 44, 34, 34, 44, 34, 112, 44, 113, 34]⟩, hc 8 _ _ rfl 3, hc 9 _ _ rfl 3, (hold1 (by omega) (hc 4 _ _ rfl 0) (hc 4 _ _ rfl 1) (Nat.le_refl _) (mx _ (by omega)) hab (hold1 (by omega) (hc 4 _ _ rfl 2) (hc 4 _ _ rfl 3) (Nat.le_refl _) (mx _ (by omega)) hv3 (hold0 _ _ _))), Nat.le_refl _, mx _ (by omega), w_ok3, w_fit3, by rw [w_put3]; rfl, by rw [w_put3]; decide⟩
  | 4, _ => exact ⟨_, _, _, wT4, ⟨#[107, 101, 121, 44, 97, 44, 34, 98, 34, 10, 120, 44, 44, 10, 121, 44, 44, 34, 34, 10, 34, 119, 34, 34, 34, 44, 44, 118, 10]⟩, hc 8 _ _ rfl 4, hc 9 _ _ rfl 4, (hold1 (by omega) (hc 7 _ _ rfl 0) (hc 7 _ _ rfl 1) (Nat.le_refl _) (mx _ (by omega)) hv6 (hold1 (by omega) (hc 7 _ _ rfl 2) (hc 7 _ _ rfl 3) (Nat.le_refl _) (mx _ (by omega)) (hold0 _ _ _) (hold1 (by omega) (hc 7 _ _ rfl 4) (hc 7 _ _ rfl 5) (Nat.le_refl _) (mx _ (by omega)) (hold0 _ _ _) (hold0 _ _ _)))), Nat.le_refl _, mx _ (by omega), w_ok4, w_fit4, by rw [w_put4]; rfl, by rw [w_put4]; decide⟩
  | 5, _ => exact ⟨_, _, _, wT5, ⟨#[107, 101, 121, 44, 97, 44, 34, 98, 34, 10]⟩, hc 8 _ _ rfl 5, hc 9 _ _ rfl 5, (hold0 _ _ _), Nat.le_refl _, mx _ (by omega), w_ok5, w_fit5, by rw [w_put5]; rfl, by rw [w_put5]; decide⟩
  | k + 6, hk => exact absurd hk (by omega)
theorem pre_six (w1 W : World) (hW : W = allocs w1 [Obj.cells #[Value.string ⟨#[49]⟩, Value.slice none 0 0] 27, Obj.cells #[Value.string ⟨#[50]⟩, Value.slice none 0 0] 27, Obj.cells #[Value.string ⟨#[97]⟩, Value.slice (some ⟨w1.heap.size, 0, none⟩) 1 1, Value.string ⟨#[98]⟩, Value.slice (some ⟨w1.heap.size + 1, 0, none⟩) 1 1] 27, Obj.cells #[Value.string ⟨#[120]⟩, Value.slice (some ⟨w1.heap.size + 1 + 1, 0, none⟩) 2 2, Value.string ⟨#[121]⟩, Value.slice none 0 0] 27, Obj.cells #[Value.string ⟨#[97]⟩] 9, Obj.cells #[Value.string ⟨#[51]⟩, Value.slice none 0 0] 27]) : OkT W (some ⟨w1.heap.size + 2, 0, none⟩) 2 2 (wAB ⟨#[49]⟩) ∧ OkT W (some ⟨w1.heap.size + 5, 0, none⟩) 1 1 (wV ⟨#[51]⟩) ∧ SeesV W W.heap.size (some ⟨w1.heap.size + 4, 0, none⟩) 1 ([(⟨#[97]⟩ : ByteArray)].map Value.string) ∧ Below w1.heap.size w1 W := by
  have ha := fun i (cs : Array Value) (t : TypeId) h j => allocs_at [Obj.cells #[Value.string ⟨#[49]⟩, Value.slice none 0 0] 27, Obj.cells #[Value.string ⟨#[50]⟩, Value.slice none 0 0] 27, Obj.cells #[Value.string ⟨#[97]⟩, Value.slice (some ⟨w1.heap.size, 0, none⟩) 1 1, Value.string ⟨#[98]⟩, Value.slice (some ⟨w1.heap.size + 1, 0, none⟩) 1 1] 27, Obj.cells #[Value.string ⟨#[120]⟩, Value.slice (some ⟨w1.heap.size + 1 + 1, 0, none⟩) 2 2, Value.string ⟨#[121]⟩, Value.slice none 0 0] 27, Obj.cells #[Value.string ⟨#[97]⟩] 9, Obj.cells #[Value.string ⟨#[51]⟩, Value.slice none 0 0] 27] w1 i (cs := cs) (t := t) h j
  have hs := allocs_size [Obj.cells #[Value.string ⟨#[49]⟩, Value.slice none 0 0] 27, Obj.cells #[Value.string ⟨#[50]⟩, Value.slice none 0 0] 27, Obj.cells #[Value.string ⟨#[97]⟩, Value.slice (some ⟨w1.heap.size, 0, none⟩) 1 1, Value.string ⟨#[98]⟩, Value.slice (some ⟨w1.heap.size + 1, 0, none⟩) 1 1] 27, Obj.cells #[Value.string ⟨#[120]⟩, Value.slice (some ⟨w1.heap.size + 1 + 1, 0, none⟩) 2 2, Value.string ⟨#[121]⟩, Value.slice none 0 0] 27, Obj.cells #[Value.string ⟨#[97]⟩] 9, Obj.cells #[Value.string ⟨#[51]⟩, Value.slice none 0 0] 27] w1
  have hb := allocs_below [Obj.cells #[Value.string ⟨#[49]⟩, Value.slice none 0 0] 27, Obj.cells #[Value.string ⟨#[50]⟩, Value.slice none 0 0] 27, Obj.cells #[Value.string ⟨#[97]⟩, Value.slice (some ⟨w1.heap.size, 0, none⟩) 1 1, Value.string ⟨#[98]⟩, Value.slice (some ⟨w1.heap.size + 1, 0, none⟩) 1 1] 27, Obj.cells #[Value.string ⟨#[120]⟩, Value.slice (some ⟨w1.heap.size + 1 + 1, 0, none⟩) 2 2, Value.string ⟨#[121]⟩, Value.slice none 0 0] 27, Obj.cells #[Value.string ⟨#[97]⟩] 9, Obj.cells #[Value.string ⟨#[51]⟩, Value.slice none 0 0] 27] w1
  rw [← hW] at ha hs hb
  simp only [List.length_cons, List.length_nil] at hs
  clear hW
  have mx : ∀ n, n ≤ 3 → n ≤ maxLen := fun n h => by simp only [maxLen]; omega
  have hv0 : Holds W W.heap.size (some ⟨w1.heap.size + 0, 0, none⟩) 1 (wV ⟨#[49]⟩) := hold1 (by omega) (ha 0 _ _ rfl 0) (ha 0 _ _ rfl 1) (Nat.le_refl _) (mx _ (by omega)) (hold0 _ _ _) (hold0 _ _ _)
  have hv1 : Holds W W.heap.size (some ⟨w1.heap.size + 1, 0, none⟩) 1 (wV ⟨#[50]⟩) := hold1 (by omega) (ha 1 _ _ rfl 0) (ha 1 _ _ rfl 1) (Nat.le_refl _) (mx _ (by omega)) (hold0 _ _ _) (hold0 _ _ _)
  refine ⟨⟨hold1 (by omega) (ha 2 _ _ rfl 0) (ha 2 _ _ rfl 1) (Nat.le_refl _) (mx _ (by omega)) hv0 (hold1 (by omega) (ha 2 _ _ rfl 2) (ha 2 _ _ rfl 3) (Nat.le_refl _) (mx _ (by omega)) hv1 (hold0 _ _ _)), Nat.le_refl _, mx _ (by omega)⟩,
    ⟨hold1 (by omega) (ha 5 _ _ rfl 0) (ha 5 _ _ rfl 1) (Nat.le_refl _) (mx _ (by omega)) (hold0 _ _ _) (hold0 _ _ _), Nat.le_refl _, mx _ (by omega)⟩, ⟨rfl, fun j u hu => ⟨w1.heap.size + 4, 0, rfl, by omega, ?_⟩⟩, hb⟩
  have := ha 4 _ _ rfl j
  rw [Nat.zero_add, this]
  simpa using hu

set_option maxHeartbeats 16000000 in
theorem writes_walk (a : Int) (w : World) (ha : -9223372036854775808 ≤ a ∧ a ≤ 9223372036854775807) (hG : Gl w) :
    Calls Tryz.prog 3 #[.int .i64 a] w fun e w' => e = .returned (.bool true) ∧ Below w.heap.size w w' := by
  have HK := Lib.hid (known_any w hG)
  obtain ⟨k, hk, HJ'⟩ := within_nat a 6 (by omega) (by omega) ha
  have HJ0 : Hid (∀ w, Calls Tryz.prog 7 #[.int .i64 a, .int .i64 6] w fun e w' => e = .returned (.int .i64 k) ∧ w = w') := Lib.hid HJ'
  have HG := Lib.hid hG
  have HV := Lib.hid rvalue_any
  clear HJ' hG
  go_enter Tryz.func3, Tryz.ntmps3
  go_wp2_with fail
  (with_reducible refine HK.out.mono ?_)
  rintro e w1 ⟨rfl, hb1⟩
  go_wp2_with fail
  (with_reducible refine (HV.out _ _).mono ?_)
  rintro e w2 ⟨rfl, rfl⟩
  go_wp2_with fail
  (with_reducible refine (HV.out _ _).mono ?_)
  rintro e w3 ⟨rfl, rfl⟩
  go_wp2_with fail
  (with_reducible refine (HV.out _ _).mono ?_)
  rintro e w4 ⟨rfl, rfl⟩
  go_wp2_with fail
  obtain ⟨W, hW⟩ : ∃ W, W = allocs w1 [Obj.cells #[Value.string ⟨#[49]⟩, Value.slice none 0 0] 27, Obj.cells #[Value.string ⟨#[50]⟩, Value.slice none 0 0] 27, Obj.cells #[Value.string ⟨#[97]⟩, Value.slice (some ⟨w1.heap.size, 0, none⟩) 1 1, Value.string ⟨#[98]⟩, Value.slice (some ⟨w1.heap.size + 1, 0, none⟩) 1 1] 27, Obj.cells #[Value.string ⟨#[120]⟩, Value.slice (some ⟨w1.heap.size + 1 + 1, 0, none⟩) 2 2, Value.string ⟨#[121]⟩, Value.slice none 0 0] 27, Obj.cells #[Value.string ⟨#[97]⟩] 9, Obj.cells #[Value.string ⟨#[51]⟩, Value.slice none 0 0] 27] := ⟨_, rfl⟩
  change Calls _ _ _ (allocs w1 [Obj.cells #[Value.string ⟨#[49]⟩, Value.slice none 0 0] 27, Obj.cells #[Value.string ⟨#[50]⟩, Value.slice none 0 0] 27, Obj.cells #[Value.string ⟨#[97]⟩, Value.slice (some ⟨w1.heap.size, 0, none⟩) 1 1, Value.string ⟨#[98]⟩, Value.slice (some ⟨w1.heap.size + 1, 0, none⟩) 1 1] 27, Obj.cells #[Value.string ⟨#[120]⟩, Value.slice (some ⟨w1.heap.size + 1 + 1, 0, none⟩) 2 2, Value.string ⟨#[121]⟩, Value.slice none 0 0] 27, Obj.cells #[Value.string ⟨#[97]⟩] 9, Obj.cells #[Value.string ⟨#[51]⟩, Value.slice none 0 0] 27]) _
  rw [← hW]
  obtain ⟨ho1, ho2, hs4, hbW⟩ := pre_six w1 W hW
  have hPt := rput_any (x := wV ⟨#[51]⟩) [⟨#[97]⟩] (wAB ⟨#[49]⟩) _ _ _ 2 2 1 1 1 1 W ho1 ho2 hs4 (Nat.le_refl _) (by decide)
  rw [w_pt] at hPt
  have HPt := Lib.hid hPt
  have HBW := Lib.hid (hb1.trans (hbW.mono hb1.size))
  have HWe := Lib.hid hW
  clear ho1 ho2 hs4 hbW hPt hW
  (with_reducible refine HPt.out.mono ?_)
  rintro e w9 ⟨A', n', c', rfl, ho9, hb9⟩
  have H6 := Lib.hid (six w1 W w9 A' n' c' HWe.out hb9 ho9)
  have HB9 := Lib.hid (HBW.out.trans (hb9.mono HBW.out.size))
  clear ho9 hb9
  go_wp2_with fail
  (with_reducible refine (HV.out _ _).mono ?_)
  rintro e w10 ⟨rfl, rfl⟩
  go_wp2_with fail
  (with_reducible refine (HV.out _ _).mono ?_)
  rintro e w11 ⟨rfl, rfl⟩
  go_wp2_with fail
  obtain ⟨F, hF⟩ : ∃ F, F = allocs w9 [Obj.cells #[Value.string ⟨#[120]⟩, Value.slice A' n' c', Value.string ⟨#[121]⟩, Value.slice none 0 0] 27, Obj.cells #[Value.string ⟨#[121]⟩, Value.slice none 0 0] 27, Obj.cells #[Value.string ⟨#[112, 44, 113]⟩, Value.slice none 0 0] 27, Obj.cells #[Value.string ⟨#[99]⟩, Value.slice (some ⟨w9.heap.size + 1 + 1, 0, none⟩) 1 1] 27, Obj.cells #[Value.string ⟨#[120]⟩, Value.slice (some ⟨w1.heap.size + 1 + 1, 0, none⟩) 2 2, Value.string ⟨#[121]⟩, Value.slice (some ⟨w9.heap.size + 1 + 1 + 1, 0, none⟩) 1 1] 27, Obj.cells #[Value.string ⟨#[118]⟩, Value.slice none 0 0] 27, Obj.cells #[Value.string ⟨#[98]⟩, Value.slice (some ⟨w9.heap.size + 1 + 1 + 1 + 1 + 1, 0, none⟩) 1 1] 27, Obj.cells #[Value.string ⟨#[119, 34]⟩, Value.slice (some ⟨w9.heap.size + 1 + 1 + 1 + 1 + 1 + 1, 0, none⟩) 1 1, Value.string ⟨#[120]⟩, Value.slice none 0 0, Value.string ⟨#[121]⟩, Value.slice none 0 0] 27, Obj.cells #[Value.slice (some ⟨w1.heap.size + 1 + 1 + 1, 0, none⟩) 2 2, Value.slice (some ⟨w9.heap.size, 0, none⟩) 2 2, Value.slice (some ⟨w9.heap.size + 1, 0, none⟩) 1 1, Value.slice (some ⟨w9.heap.size + 1 + 1 + 1 + 1, 0, none⟩) 2 2, Value.slice (some ⟨w9.heap.size + 1 + 1 + 1 + 1 + 1 + 1 + 1, 0, none⟩) 3 3, Value.slice none 0 0] 24, Obj.cells #[Value.string ⟨#[107, 101, 121, 44, 97, 44, 34, 98, 34, 10, 120, 44, 34, 49, 34, 44, 50, 10, 121, 44, 44, 34, 34]⟩, Value.string ⟨#[107, 101, 121, 44, 97, 44, 34, 98, 34, 10, 120, 44, 51, 44, 50, 10, 121, 44, 44, 34, 34]⟩, Value.string ⟨#[107, 101, 121, 44, 97, 44, 34, 98, 34, 10, 121, 44, 44, 34, 34]⟩, Value.string ⟨#[107, 101, 121, 44, 97, 44, 34, 98, 34, 44, 99, 10, 120, 44, 34, 49, 34, 44, 50, 44, 10, 121, 44, 44, 34, 34, 44, 34, 112, 44, 113, 34]⟩, Value.string ⟨#[107, 101, 121, 44, 97, 44, 34, 98, 34, 10, 120, 44, 44, 10, 121, 44, 44, 34, 34, 10, 34, 119, 34, 34, 34, 44, 44, 118, 10]⟩, Value.string ⟨#[107, 101, 121, 44, 97, 44, 34, 98, 34, 10]⟩] 9] := ⟨_, rfl⟩
  change Calls _ _ _ (allocs w9 [Obj.cells #[Value.string ⟨#[120]⟩, Value.slice A' n' c', Value.string ⟨#[121]⟩, Value.slice none 0 0] 27, Obj.cells #[Value.string ⟨#[121]⟩, Value.slice none 0 0] 27, Obj.cells #[Value.string ⟨#[112, 44, 113]⟩, Value.slice none 0 0] 27, Obj.cells #[Value.string ⟨#[99]⟩, Value.slice (some ⟨w9.heap.size + 1 + 1, 0, none⟩) 1 1] 27, Obj.cells #[Value.string ⟨#[120]⟩, Value.slice (some ⟨w1.heap.size + 1 + 1, 0, none⟩) 2 2, Value.string ⟨#[121]⟩, Value.slice (some ⟨w9.heap.size + 1 + 1 + 1, 0, none⟩) 1 1] 27, Obj.cells #[Value.string ⟨#[118]⟩, Value.slice none 0 0] 27, Obj.cells #[Value.string ⟨#[98]⟩, Value.slice (some ⟨w9.heap.size + 1 + 1 + 1 + 1 + 1, 0, none⟩) 1 1] 27, Obj.cells #[Value.string ⟨#[119, 34]⟩, Value.slice (some ⟨w9.heap.size + 1 + 1 + 1 + 1 + 1 + 1, 0, none⟩) 1 1, Value.string ⟨#[120]⟩, Value.slice none 0 0, Value.string ⟨#[121]⟩, Value.slice none 0 0] 27, Obj.cells #[Value.slice (some ⟨w1.heap.size + 1 + 1 + 1, 0, none⟩) 2 2, Value.slice (some ⟨w9.heap.size, 0, none⟩) 2 2, Value.slice (some ⟨w9.heap.size + 1, 0, none⟩) 1 1, Value.slice (some ⟨w9.heap.size + 1 + 1 + 1 + 1, 0, none⟩) 2 2, Value.slice (some ⟨w9.heap.size + 1 + 1 + 1 + 1 + 1 + 1 + 1, 0, none⟩) 3 3, Value.slice none 0 0] 24, Obj.cells #[Value.string ⟨#[107, 101, 121, 44, 97, 44, 34, 98, 34, 10, 120, 44, 34, 49, 34, 44, 50, 10, 121, 44, 44, 34, 34]⟩, Value.string ⟨#[107, 101, 121, 44, 97, 44, 34, 98, 34, 10, 120, 44, 51, 44, 50, 10, 121, 44, 44, 34, 34]⟩, Value.string ⟨#[107, 101, 121, 44, 97, 44, 34, 98, 34, 10, 121, 44, 44, 34, 34]⟩, Value.string ⟨#[107, 101, 121, 44, 97, 44, 34, 98, 34, 44, 99, 10, 120, 44, 34, 49, 34, 44, 50, 44, 10, 121, 44, 44, 34, 34, 44, 34, 112, 44, 113, 34]⟩, Value.string ⟨#[107, 101, 121, 44, 97, 44, 34, 98, 34, 10, 120, 44, 44, 10, 121, 44, 44, 34, 34, 10, 34, 119, 34, 34, 34, 44, 44, 118, 10]⟩, Value.string ⟨#[107, 101, 121, 44, 97, 44, 34, 98, 34, 10]⟩] 9]) _
  rw [← hF]
  have h6 := H6.out k hk
  have hbF := allocs_below [Obj.cells #[Value.string ⟨#[120]⟩, Value.slice A' n' c', Value.string ⟨#[121]⟩, Value.slice none 0 0] 27, Obj.cells #[Value.string ⟨#[121]⟩, Value.slice none 0 0] 27, Obj.cells #[Value.string ⟨#[112, 44, 113]⟩, Value.slice none 0 0] 27, Obj.cells #[Value.string ⟨#[99]⟩, Value.slice (some ⟨w9.heap.size + 1 + 1, 0, none⟩) 1 1] 27, Obj.cells #[Value.string ⟨#[120]⟩, Value.slice (some ⟨w1.heap.size + 1 + 1, 0, none⟩) 2 2, Value.string ⟨#[121]⟩, Value.slice (some ⟨w9.heap.size + 1 + 1 + 1, 0, none⟩) 1 1] 27, Obj.cells #[Value.string ⟨#[118]⟩, Value.slice none 0 0] 27, Obj.cells #[Value.string ⟨#[98]⟩, Value.slice (some ⟨w9.heap.size + 1 + 1 + 1 + 1 + 1, 0, none⟩) 1 1] 27, Obj.cells #[Value.string ⟨#[119, 34]⟩, Value.slice (some ⟨w9.heap.size + 1 + 1 + 1 + 1 + 1 + 1, 0, none⟩) 1 1, Value.string ⟨#[120]⟩, Value.slice none 0 0, Value.string ⟨#[121]⟩, Value.slice none 0 0] 27, Obj.cells #[Value.slice (some ⟨w1.heap.size + 1 + 1 + 1, 0, none⟩) 2 2, Value.slice (some ⟨w9.heap.size, 0, none⟩) 2 2, Value.slice (some ⟨w9.heap.size + 1, 0, none⟩) 1 1, Value.slice (some ⟨w9.heap.size + 1 + 1 + 1 + 1, 0, none⟩) 2 2, Value.slice (some ⟨w9.heap.size + 1 + 1 + 1 + 1 + 1 + 1 + 1, 0, none⟩) 3 3, Value.slice none 0 0] 24, Obj.cells #[Value.string ⟨#[107, 101, 121, 44, 97, 44, 34, 98, 34, 10, 120, 44, 34, 49, 34, 44, 50, 10, 121, 44, 44, 34, 34]⟩, Value.string ⟨#[107, 101, 121, 44, 97, 44, 34, 98, 34, 10, 120, 44, 51, 44, 50, 10, 121, 44, 44, 34, 34]⟩, Value.string ⟨#[107, 101, 121, 44, 97, 44, 34, 98, 34, 10, 121, 44, 44, 34, 34]⟩, Value.string ⟨#[107, 101, 121, 44, 97, 44, 34, 98, 34, 44, 99, 10, 120, 44, 34, 49, 34, 44, 50, 44, 10, 121, 44, 44, 34, 34, 44, 34, 112, 44, 113, 34]⟩, Value.string ⟨#[107, 101, 121, 44, 97, 44, 34, 98, 34, 10, 120, 44, 44, 10, 121, 44, 44, 34, 34, 10, 34, 119, 34, 34, 34, 44, 44, 118, 10]⟩, Value.string ⟨#[107, 101, 121, 44, 97, 44, 34, 98, 34, 10]⟩] 9] w9
  rw [← hF] at h6 hbF
  obtain ⟨A5, n5, c5, t, x, h1, h2, h3, h4, h5, h7, h8, h9, h10⟩ := h6
  have HBF := Lib.hid (HB9.out.trans (hbF.mono HB9.out.size))
  have hsF := allocs_size [Obj.cells #[Value.string ⟨#[120]⟩, Value.slice A' n' c', Value.string ⟨#[121]⟩, Value.slice none 0 0] 27, Obj.cells #[Value.string ⟨#[121]⟩, Value.slice none 0 0] 27, Obj.cells #[Value.string ⟨#[112, 44, 113]⟩, Value.slice none 0 0] 27, Obj.cells #[Value.string ⟨#[99]⟩, Value.slice (some ⟨w9.heap.size + 1 + 1, 0, none⟩) 1 1] 27, Obj.cells #[Value.string ⟨#[120]⟩, Value.slice (some ⟨w1.heap.size + 1 + 1, 0, none⟩) 2 2, Value.string ⟨#[121]⟩, Value.slice (some ⟨w9.heap.size + 1 + 1 + 1, 0, none⟩) 1 1] 27, Obj.cells #[Value.string ⟨#[118]⟩, Value.slice none 0 0] 27, Obj.cells #[Value.string ⟨#[98]⟩, Value.slice (some ⟨w9.heap.size + 1 + 1 + 1 + 1 + 1, 0, none⟩) 1 1] 27, Obj.cells #[Value.string ⟨#[119, 34]⟩, Value.slice (some ⟨w9.heap.size + 1 + 1 + 1 + 1 + 1 + 1, 0, none⟩) 1 1, Value.string ⟨#[120]⟩, Value.slice none 0 0, Value.string ⟨#[121]⟩, Value.slice none 0 0] 27, Obj.cells #[Value.slice (some ⟨w1.heap.size + 1 + 1 + 1, 0, none⟩) 2 2, Value.slice (some ⟨w9.heap.size, 0, none⟩) 2 2, Value.slice (some ⟨w9.heap.size + 1, 0, none⟩) 1 1, Value.slice (some ⟨w9.heap.size + 1 + 1 + 1 + 1, 0, none⟩) 2 2, Value.slice (some ⟨w9.heap.size + 1 + 1 + 1 + 1 + 1 + 1 + 1, 0, none⟩) 3 3, Value.slice none 0 0] 24, Obj.cells #[Value.string ⟨#[107, 101, 121, 44, 97, 44, 34, 98, 34, 10, 120, 44, 34, 49, 34, 44, 50, 10, 121, 44, 44, 34, 34]⟩, Value.string ⟨#[107, 101, 121, 44, 97, 44, 34, 98, 34, 10, 120, 44, 51, 44, 50, 10, 121, 44, 44, 34, 34]⟩, Value.string ⟨#[107, 101, 121, 44, 97, 44, 34, 98, 34, 10, 121, 44, 44, 34, 34]⟩, Value.string ⟨#[107, 101, 121, 44, 97, 44, 34, 98, 34, 44, 99, 10, 120, 44, 34, 49, 34, 44, 50, 44, 10, 121, 44, 44, 34, 34, 44, 34, 112, 44, 113, 34]⟩, Value.string ⟨#[107, 101, 121, 44, 97, 44, 34, 98, 34, 10, 120, 44, 44, 10, 121, 44, 44, 34, 34, 10, 34, 119, 34, 34, 34, 44, 44, 118, 10]⟩, Value.string ⟨#[107, 101, 121, 44, 97, 44, 34, 98, 34, 10]⟩] 9] w9
  rw [← hF] at hsF
  simp only [List.length_cons, List.length_nil] at hsF
  have hPu := csvPut_any wS wHd wX0 wXl wRs _ t A5 n5 c5 F (plB_pl w_pl) w_read (by rw [w_rows]) h7 h8.1 (okB_nm t h8.2) (okB_pl t h8.2) h10 h3 h4 h5 (HG.out.below HBF.out)
  rw [h9] at hPu
  unfold wS at hPu
  have HPu := Lib.hid hPu
  have h1' : F.cell? ⟨w9.heap.size + 1 + 1 + 1 + 1 + 1 + 1 + 1 + 1, k, none⟩ = some (.slice A5 n5 c5) := h1
  have b1 : (0 : Int) ≤ (k : Int) := by omega
  have b2 : (k : Int) < 6 := by omega
  have h2' := fun W' (hW' : Below F.heap.size F W') => ((hW'.cell (p := ⟨w9.heap.size + 9, k, none⟩) (by simp only; omega)).trans h2 : W'.cell? ⟨w9.heap.size + 1 + 1 + 1 + 1 + 1 + 1 + 1 + 1 + 1, k, none⟩ = some (.string x))
  have H2 := Lib.hid h2'
  clear h2 h2' h3 h4 h5 h7 h8 h9 h10 hPu hF hbF h1 hsF
  (with_reducible refine (HJ0.out _).mono ?_)
  rintro e w12 ⟨rfl, rfl⟩
  go_wp2_with fail
  (with_reducible refine HPu.out.mono ?_)
  rintro e w13 ⟨rfl, hb13⟩
  have h2'' := H2.out w13 hb13
  go_wp2_with fail
  go_ret
  exact ⟨rfl, HBF.out.trans (hb13.mono HBF.out.size)⟩
end Go.Proofs.YtecnilcfhicfmaaGreatDoor.Cv
