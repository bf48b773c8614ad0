/- CsvNames: trees that do not fit; what lies behind the switch. No conditions. -/
import Derived.Test.YtlojjmmjmpffnaaGreatDoorMgCvK
import Derived.Test.YtlojjmmjmpffnaaGreatDoorCvWord
import Derived.Deep.RegionWith
import Derived.Deep.CutBlock
import Derived.OrdersHeld
import Derived.Deep.RegionHeld3
namespace Go.Proofs.YtlojjmmjmpffnaaGreatDoor.Cv
open Go.RowKit Go.Proofs.YtlojjmmjmpffnaaGreatDoor.Jd Go.Proofs.YtlojjmmjmpffnaaGreatDoor.Li Go.Proofs.YtlojjmmjmpffnaaGreatDoor.Cl
set_option maxRecDepth 100000

theorem rvalue_any (x : ByteArray) (w : World) : Calls Tryz.prog 14 #[.string x] w fun e w' => e = .returned (.slice (some ⟨w.heap.size, 0, none⟩) 1 1) ∧ w' = w.alloc (Obj.cells #[Value.string x, Value.slice none 0 0] 42) := by
  go_enter Tryz.func14, Tryz.ntmps14
  go_wp2_with fail
  go_ret
  exact ⟨rfl, rfl⟩
/-- Names of ASCII bytes, short. -/
def okB : Tr → Bool
  | .nil => true
  | .cons s k r => decide (s.size ≤ 1000) && s.data.toList.all (fun b => decide (b.toNat < 128)) && okB k && okB r
theorem okB_nm : ∀ t : Tr, okB t = true → Tr.Nm t
  | .nil, _ => trivial
  | .cons s k r, h => by
    simp only [okB, Bool.and_eq_true, decide_eq_true_eq] at h
    exact ⟨by omega, okB_nm k h.1.2, okB_nm r h.2⟩
theorem okB_pl : ∀ t : Tr, okB t = true → PlT t
  | .nil, _ => trivial
  | .cons s k r, h => by
    simp only [okB, Bool.and_eq_true, decide_eq_true_eq] at h
    exact ⟨fun j b hb => by simpa using List.all_eq_true.1 h.1.1.2 b (List.mem_of_getElem? hb), okB_pl k h.1.2, okB_pl r h.2⟩
/-- A tree that Fits answers so. -/
def Fit (x : Int) (T : Tr) : Prop := fitsC T = x ∧ T.size ≤ 1000 ∧ T.len = 1 ∧ okB T = true
theorem fit_any {x : Int} {T : Tr} (hT : Fit x T) (A : Option Addr) (W : World) (h : Holds W W.heap.size A 1 T) : Calls Tryz.prog 15 #[.slice A 1 1] W fun e w' => e = .returned (.int .i64 x) ∧ Below W.heap.size W w' := by
  have := fits_any T A 1 1 W h (Nat.le_refl _) (by simp [maxLen]) (by have := hT.2.1; omega) (okB_nm T hT.2.2.2) (okB_pl T hT.2.2.2)
  rwa [hT.1] at this
/-- An edge at the front of a block. -/
theorem holds_one {w : World} {B b o n c : Nat} {A : Option Addr} {s : ByteArray} {k : Tr} (hb : b < B) (h1 : w.cell? ⟨b, o, none⟩ = some (.string s)) (h2 : w.cell? ⟨b, o + 1, none⟩ = some (.slice A n c)) (hn : n ≤ c) (hc : c ≤ maxLen) (hk : Holds w B A n k) : Holds w B (some ⟨b, o, none⟩) 1 (.cons s k .nil) :=
  ⟨b, o, rfl, hb, h1, ⟨A, n, c, h2, hn, hc, hk⟩, 0, rfl, rfl⟩
theorem holds_two {w : World} {B b o m n c : Nat} {A : Option Addr} {s : ByteArray} {k r : Tr} (hb : b < B) (h1 : w.cell? ⟨b, o, none⟩ = some (.string s)) (h2 : w.cell? ⟨b, o + 1, none⟩ = some (.slice A n c)) (hn : n ≤ c) (hc : c ≤ maxLen) (hk : Holds w B A n k) (hr : Holds w B (some ⟨b, o + 2, none⟩) m r) : Holds w B (some ⟨b, o, none⟩) (m + 1) (.cons s k r) :=
  ⟨b, o, rfl, hb, h1, ⟨A, n, c, h2, hn, hc, hk⟩, m, rfl, hr⟩
theorem holds_none (w : World) (B : Nat) (A : Option Addr) : Holds w B A 0 .nil := rfl
/-- Behind the switch: what t is. -/
def C13 (w : World) (g : Nat) (wx : World) : Prop := ∃ T, Fit 13 T ∧ Holds wx wx.heap.size (some ⟨g, 0, none⟩) 1 T ∧ Below w.heap.size w wx

theorem fA0 : Fit 13 (.cons ⟨#[]⟩ (.cons ⟨#[99]⟩ (.cons ⟨#[118]⟩ .nil .nil) .nil) .nil) := by unfold Fit; decide +kernel
theorem fA1 : Fit 13 (.cons ⟨#[97, 10, 98]⟩ (.cons ⟨#[99]⟩ (.cons ⟨#[118]⟩ .nil .nil) .nil) .nil) := by unfold Fit; decide +kernel
theorem fA2 : Fit 13 (.cons ⟨#[13]⟩ (.cons ⟨#[99]⟩ (.cons ⟨#[118]⟩ .nil .nil) .nil) .nil) := by unfold Fit; decide +kernel
theorem fB0 : Fit 13 (.cons ⟨#[114]⟩ (.cons ⟨#[]⟩ (.cons ⟨#[118]⟩ .nil .nil) .nil) .nil) := by unfold Fit; decide +kernel
theorem fB1 : Fit 13 (.cons ⟨#[114]⟩ (.cons ⟨#[97, 10, 98]⟩ (.cons ⟨#[118]⟩ .nil .nil) .nil) .nil) := by unfold Fit; decide +kernel
theorem fB2 : Fit 13 (.cons ⟨#[114]⟩ (.cons ⟨#[13]⟩ (.cons ⟨#[118]⟩ .nil .nil) .nil) .nil) := by unfold Fit; decide +kernel
theorem fB3 : Fit 13 (.cons ⟨#[114]⟩ (.cons ⟨#[107, 101, 121]⟩ (.cons ⟨#[118]⟩ .nil .nil) .nil) .nil) := by unfold Fit; decide +kernel
theorem fC0 : Fit 13 (.cons ⟨#[114]⟩ (.cons ⟨#[99]⟩ (.cons ⟨#[]⟩ .nil .nil) .nil) .nil) := by unfold Fit; decide +kernel
theorem fC1 : Fit 13 (.cons ⟨#[114]⟩ (.cons ⟨#[99]⟩ (.cons ⟨#[97, 10, 98]⟩ .nil .nil) .nil) .nil) := by unfold Fit; decide +kernel
theorem fC2 : Fit 13 (.cons ⟨#[114]⟩ (.cons ⟨#[99]⟩ (.cons ⟨#[13]⟩ .nil .nil) .nil) .nil) := by unfold Fit; decide +kernel
theorem fD0 : Fit 13 (.cons ⟨#[114]⟩ (.cons ⟨#[99]⟩ .nil .nil) .nil) := by unfold Fit; decide +kernel
theorem fD1 : Fit 13 (.cons ⟨#[114]⟩ (.cons ⟨#[99]⟩ (.cons ⟨#[117]⟩ .nil (.cons ⟨#[118]⟩ .nil .nil)) .nil) .nil) := by unfold Fit; decide +kernel
theorem fD2 : Fit 13 (.cons ⟨#[114]⟩ (.cons ⟨#[99]⟩ (.cons ⟨#[117]⟩ (.cons ⟨#[119]⟩ .nil .nil) .nil) .nil) .nil) := by unfold Fit; decide +kernel
theorem fG : Fit 0 (.cons ⟨#[114]⟩ (.cons ⟨#[99]⟩ (.cons ⟨#[32, 34, 118, 44]⟩ .nil .nil) .nil) .nil) := by unfold Fit; decide +kernel

/-- Three levels, laid one behind the other. -/
def lay3 (W : World) (n : Nat) (a b c : ByteArray) : World := ((W.alloc (Obj.cells #[Value.string a, Value.slice none 0 0] 42)).alloc (Obj.cells #[Value.string b, Value.slice (some ⟨n, 0, none⟩) 1 1] 42)).alloc (Obj.cells #[Value.string c, Value.slice (some ⟨n + 1, 0, none⟩) 1 1] 42)
theorem at_new {W : World} {n : Nat} (hn : n = W.heap.size) (cs : Array Value) (t : TypeId) (j : Nat) : (W.alloc (Obj.cells cs t)).cell? ⟨n, j, none⟩ = cs[j]? := by
  subst hn
  exact cell_of_row _ _ j _ t (0, 0) (heap_alloc_new W _)
theorem at_old {W : World} {n : Nat} (hn : n < W.heap.size) (o : Obj) (j : Nat) : (W.alloc o).cell? ⟨n, j, none⟩ = W.cell? ⟨n, j, none⟩ := ((Below.refl W.heap.size W).alloc (Nat.le_refl _) o).cell (p := ⟨n, j, none⟩) hn
theorem lay3_at (W : World) (n : Nat) (hn : n = W.heap.size) (a b c : ByteArray) (j : Nat) : (lay3 W n a b c).cell? ⟨n, j, none⟩ = #[Value.string a, Value.slice none 0 0][j]? ∧ (lay3 W n a b c).cell? ⟨n + 1, j, none⟩ = #[Value.string b, Value.slice (some ⟨n, 0, none⟩) 1 1][j]? ∧ (lay3 W n a b c).cell? ⟨n + 1 + 1, j, none⟩ = #[Value.string c, Value.slice (some ⟨n + 1, 0, none⟩) 1 1][j]? := by
  unfold lay3
  refine ⟨?_, ?_, at_new (by simp; omega) _ _ j⟩
  · rw [at_old (by simp; omega), at_old (by simp; omega), at_new hn]
  · rw [at_old (by simp; omega), at_new (by simp; omega)]
theorem lay3_size (W : World) (n : Nat) (a b c : ByteArray) : (lay3 W n a b c).heap.size = W.heap.size + 3 := by simp [lay3]
theorem lay3_holds (W : World) (n : Nat) (hn : n = W.heap.size) (a b c : ByteArray) : Holds (lay3 W n a b c) (lay3 W n a b c).heap.size (some ⟨n + 1 + 1, 0, none⟩) 1 (.cons c (.cons b (.cons a .nil .nil) .nil) .nil) := by
  have h := lay3_at W n hn a b c
  have hs := lay3_size W n a b c
  exact holds_one (by omega) (h 0).2.2 (h 1).2.2 (Nat.le_refl _) (by simp [maxLen]) (holds_one (by omega) (h 0).2.1 (h 1).2.1 (Nat.le_refl _) (by simp [maxLen]) (holds_one (by omega) (h 0).1 (h 1).1 (Nat.le_refl _) (by simp [maxLen]) (holds_none _ _ _)))
theorem lay3_below (W : World) (n : Nat) (a b c : ByteArray) : Below W.heap.size W (lay3 W n a b c) := by
  unfold lay3
  exact (((Below.refl _ _).alloc (Nat.le_refl _) _).alloc (by simp) _).alloc (by simp; omega) _


theorem c13_of {w1 W W' : World} {g : Nat} {T : Tr} (hT : Fit 13 T) (h : Holds W W.heap.size (some ⟨g, 0, none⟩) 1 T) (hb : Below w1.heap.size w1 W) (hW : Below W.heap.size W W') : C13 w1 g W' :=
  ⟨T, hT, (h.below hW).more hW.size, hb.trans (hW.mono hb.size)⟩
def allocs (w : World) : List Obj → World
  | [] => w
  | o :: r => allocs (w.alloc o) r
theorem allocs_below : ∀ (os : List Obj) (w : World), Below w.heap.size w (allocs w os)
  | [], w => Below.refl _ _
  | o :: r, w => ((Below.refl _ _).alloc (Nat.le_refl _) o).trans ((allocs_below r (w.alloc o)).mono (by simp))
theorem allocs_get : ∀ (os : List Obj) (w : World) (i : Nat) (o : Obj), os[i]? = some o → (allocs w os).heap[w.heap.size + i]? = some o
  | [], w, i, o, h => by simp at h
  | o' :: r, w, 0, o, h => by
    simp only [List.getElem?_cons_zero, Option.some.injEq] at h
    subst h
    have := (allocs_below r (w.alloc o')).block w.heap.size (by simp)
    rw [Nat.add_zero, allocs, this]
    exact heap_alloc_new w o'
  | o' :: r, w, i + 1, o, h => by
    simp only [List.getElem?_cons_succ] at h
    have := allocs_get r (w.alloc o') i o h
    rw [allocs, show w.heap.size + (i + 1) = (w.alloc o').heap.size + i by simp; omega]
    exact this
theorem allocs_size : ∀ (os : List Obj) (w : World), (allocs w os).heap.size = w.heap.size + os.length
  | [], w => rfl
  | o :: r, w => by rw [allocs, allocs_size r (w.alloc o)]; simp; omega
theorem allocs_at (os : List Obj) (w : World) (i : Nat) {cs : Array Value} {t : TypeId} (h : os[i]? = some (.cells cs t)) (j : Nat) : (allocs w os).cell? ⟨w.heap.size + i, j, none⟩ = cs[j]? := cell_of_row _ _ j _ t (0, 0) (allocs_get os w i _ h)
theorem allocs_v (os : List Obj) (w : World) (i : Nat) {cs : Array Value} {t : TypeId} (h : os[i]? = some (.cells cs t)) (j : Nat) {v : Value} (hv : cs[j]? = some v) : (allocs w os).cell? ⟨w.heap.size + i, j, none⟩ = some v := (allocs_at os w i h j).trans hv
theorem drew_cell (w : World) (p : Addr) : w.drew.cell? p = w.cell? p := rfl
/-- An edge among blocks that were laid in a row. -/
theorem list_one (os : List Obj) (w : World) (i : Nat) {t : TypeId} {s : ByteArray} {A : Option Addr} {n : Nat} {k : Tr} (h : os[i]? = some (.cells #[.string s, .slice A n n] t)) (hi : i < os.length) (hn : n ≤ 100) (hk : Holds (allocs w os) (allocs w os).heap.size A n k) :
    Holds (allocs w os) (allocs w os).heap.size (some ⟨w.heap.size + i, 0, none⟩) 1 (.cons s k .nil) :=
  holds_one (by rw [allocs_size]; omega) (allocs_at os w i h 0) (allocs_at os w i h 1) (Nat.le_refl _) (by simp only [maxLen]; omega) hk
theorem list_two (os : List Obj) (w : World) (i : Nat) {t : TypeId} {s r : ByteArray} (h : os[i]? = some (.cells #[.string s, .slice none 0 0, .string r, .slice none 0 0] t)) (hi : i < os.length) :
    Holds (allocs w os) (allocs w os).heap.size (some ⟨w.heap.size + i, 0, none⟩) 2 (.cons s .nil (.cons r .nil .nil)) :=
  holds_two (by rw [allocs_size]; omega) (allocs_at os w i h 0) (allocs_at os w i h 1) (Nat.le_refl _) (by simp [maxLen]) (holds_none _ _ _) (holds_one (by rw [allocs_size]; omega) (allocs_at os w i h 2) (allocs_at os w i h 3) (Nat.le_refl _) (by simp [maxLen]) (holds_none _ _ _))
end Go.Proofs.YtlojjmmjmpffnaaGreatDoor.Cv
