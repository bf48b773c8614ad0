/- The law's files of csv: File and Odd answer texts; how long they may be. Conditions: none. -/
import Derived.Test.YtkgpjohfkfbfhaaGreatDoorMwRQuote
import Derived.Test.YtkgpjohfkfbfhaaGreatDoorMwLiEach
import Derived.Deep.RegionHeld3
import Derived.Deep.CutRange
namespace Go.Proofs.YtkgpjohfkfbfhaaGreatDoor.Cv
open Go.RowKit Go.Proofs.YtkgpjohfkfbfhaaGreatDoor.Jd Go.Proofs.YtkgpjohfkfbfhaaGreatDoor.Li
set_option maxRecDepth 100000

theorem tab_of {w : World} {cs : Array Value} {e : TypeId} {g : Nat} (hg : w.heap[g]? = some (.cells cs e (0, 0))) (K : Nat) (h : ∀ j, j < cs.size → ∃ s : ByteArray, s.size ≤ K ∧ cs[j]? = some (.string s)) (j : Nat) (hj : j < cs.size) : ∃ s : ByteArray, s.size ≤ K ∧ w.cell? ⟨g, j, none⟩ = some (.string s) := by
  obtain ⟨s, h1, h2⟩ := h j hj
  exact ⟨s, h1, by rw [cell_of_row _ _ j _ _ _ hg]; exact h2⟩
theorem tab3 (w : World) (e : TypeId) (j : Nat) (hj : j < 3) : ∃ s : ByteArray, s.size ≤ 5 ∧ (w.alloc (.cells #[.string ⟨#[97]⟩, .string ⟨#[34, 98, 44, 99, 34]⟩, .string ⟨#[100, 32, 101]⟩] e)).cell? ⟨w.heap.size, j, none⟩ = some (.string s) := by
  have hc := fun j => cell_of_row _ _ j _ _ _ (heap_alloc_new w (.cells #[.string ⟨#[97]⟩, .string ⟨#[34, 98, 44, 99, 34]⟩, .string ⟨#[100, 32, 101]⟩] e))
  match j, hj with
  | 0, _ => exact ⟨_, by decide, hc 0⟩
  | 1, _ => exact ⟨_, by decide, hc 1⟩
  | 2, _ => exact ⟨_, by decide, hc 2⟩
theorem tab8 (w : World) (e : TypeId) (j : Nat) (hj : j < 8) : ∃ s : ByteArray, s.size ≤ 6 ∧ (w.alloc (.cells #[.string ⟨#[]⟩, .string ⟨#[118]⟩, .string ⟨#[34, 34]⟩, .string ⟨#[34, 120, 44, 121, 34]⟩, .string ⟨#[32, 49, 32]⟩, .string ⟨#[34, 112, 34, 34, 113, 34]⟩, .string ⟨#[34, 122, 34]⟩, .string ⟨#[118, 50]⟩] e)).cell? ⟨w.heap.size, j, none⟩ = some (.string s) := by
  have hc := fun j => cell_of_row _ _ j _ _ _ (heap_alloc_new w (.cells #[.string ⟨#[]⟩, .string ⟨#[118]⟩, .string ⟨#[34, 34]⟩, .string ⟨#[34, 120, 44, 121, 34]⟩, .string ⟨#[32, 49, 32]⟩, .string ⟨#[34, 112, 34, 34, 113, 34]⟩, .string ⟨#[34, 122, 34]⟩, .string ⟨#[118, 50]⟩] e))
  match j, hj with
  | 0, _ => exact ⟨_, by decide, hc 0⟩
  | 1, _ => exact ⟨_, by decide, hc 1⟩
  | 2, _ => exact ⟨_, by decide, hc 2⟩
  | 3, _ => exact ⟨_, by decide, hc 3⟩
  | 4, _ => exact ⟨_, by decide, hc 4⟩
  | 5, _ => exact ⟨_, by decide, hc 5⟩
  | 6, _ => exact ⟨_, by decide, hc 6⟩
  | 7, _ => exact ⟨_, by decide, hc 7⟩
theorem tab12 (w : World) (e : TypeId) (j : Nat) (hj : j < 12) : ∃ s : ByteArray, s.size ≤ 9 ∧ (w.alloc (.cells #[.string ⟨#[34]⟩, .string ⟨#[44]⟩, .string ⟨#[10]⟩, .string ⟨#[13]⟩, .string ⟨#[120, 44, 10]⟩, .string ⟨#[34, 97, 34, 98]⟩, .string ⟨#[44, 44, 44]⟩, .string ⟨#[114, 97, 44, 49, 44, 50, 44, 51, 10]⟩, .string ⟨#[107, 101, 121]⟩, .string ⟨#[34, 34]⟩, .string ⟨#[32]⟩, .string ⟨#[44, 34, 10]⟩] e)).cell? ⟨w.heap.size, j, none⟩ = some (.string s) := by
  have hc := fun j => cell_of_row _ _ j _ _ _ (heap_alloc_new w (.cells #[.string ⟨#[34]⟩, .string ⟨#[44]⟩, .string ⟨#[10]⟩, .string ⟨#[13]⟩, .string ⟨#[120, 44, 10]⟩, .string ⟨#[34, 97, 34, 98]⟩, .string ⟨#[44, 44, 44]⟩, .string ⟨#[114, 97, 44, 49, 44, 50, 44, 51, 10]⟩, .string ⟨#[107, 101, 121]⟩, .string ⟨#[34, 34]⟩, .string ⟨#[32]⟩, .string ⟨#[44, 34, 10]⟩] e))
  match j, hj with
  | 0, _ => exact ⟨_, by decide, hc 0⟩
  | 1, _ => exact ⟨_, by decide, hc 1⟩
  | 2, _ => exact ⟨_, by decide, hc 2⟩
  | 3, _ => exact ⟨_, by decide, hc 3⟩
  | 4, _ => exact ⟨_, by decide, hc 4⟩
  | 5, _ => exact ⟨_, by decide, hc 5⟩
  | 6, _ => exact ⟨_, by decide, hc 6⟩
  | 7, _ => exact ⟨_, by decide, hc 7⟩
  | 8, _ => exact ⟨_, by decide, hc 8⟩
  | 9, _ => exact ⟨_, by decide, hc 9⟩
  | 10, _ => exact ⟨_, by decide, hc 10⟩
  | 11, _ => exact ⟨_, by decide, hc 11⟩
/-- A text of so many bytes at most. -/
def UpTo (K : Nat) (w : World) (e : Ending) (w' : World) : Prop := ∃ s : ByteArray, s.size ≤ K ∧ e = .returned (.string s) ∧ Below w.heap.size w w'

set_option maxHeartbeats 1000000 in
theorem tdiv4_lim {x : Int} (h : -9223372036854775808 ≤ x ∧ x ≤ 9223372036854775807) : -2305843009213693952 ≤ x.tdiv 4 ∧ x.tdiv 4 ≤ 2305843009213693952 := by
  rcases Int.le_total 0 x with h0 | h0
  · rw [Int.tdiv_eq_ediv_of_nonneg h0]; omega
  · have e : x.tdiv 4 = -((-x).tdiv 4) := by rw [Int.neg_tdiv, Int.neg_neg]
    rw [e, Int.tdiv_eq_ediv_of_nonneg (by omega)]
    omega
theorem u8_small (k : Nat) (hk : k ≤ 25) : IntKind.u8.wrap (97 + (k : Int)) = 97 + (k : Int) := by rw [IntKind.wrap_u8]; omega
/-- The text of one byte. -/
theorem conv_at (i : Nat) (hi : i ≤ 25) (V : World) (g : Nat) (hg : V.heap[g]? = some (Obj.cells #[Value.int .u8 (97 + (i : Int))] 5 (0, 0))) : (convert 27 9 (.slice (some ⟨g, 0, none⟩) 1 1)).run Tryz.prog V = .ok (.string ⟨#[UInt8.ofNat (97 + i)]⟩) V := by
  have hb : byt (UInt8.ofNat (97 + i)) = Value.int .u8 (97 + (i : Int)) := by
    simp only [byt, UInt8.toNat_ofNat']
    congr 1
    omega
  have hs : Sees V (g + 1) (some ⟨g, 0, none⟩) 1 [UInt8.ofNat (97 + i)] := by
    refine ⟨rfl, fun q u hu => ⟨_, rfl, Nat.lt_succ_self _, ?_⟩⟩
    cases q with
    | zero =>
      simp only [List.getElem?_cons_zero, Option.some.injEq] at hu
      subst hu
      rw [Addr.add_lit, cell_of_row _ _ _ _ _ _ hg, hb]
      rfl
    | succ q => simp at hu
  exact run_text _ _ _ Tryz.underlying27 Tryz.underlying5 Tryz.underlying9 hs
theorem tab4 (V : World) (g : Nat) (e : TypeId) (hg : V.heap[g]? = some (.cells #[.string ⟨#[114]⟩, .string ⟨#[34, 114, 34, 34, 113]⟩, .string ⟨#[34]⟩, .string ⟨#[32]⟩] e (0, 0))) (j : Nat) (y : ByteArray) (hy : (#[Value.string ⟨#[114]⟩, .string ⟨#[34, 114, 34, 34, 113]⟩, .string ⟨#[34]⟩, .string ⟨#[32]⟩] : Array Value)[j]? = some (.string y)) : V.cell? ⟨g, j, none⟩ = some (.string y) := by
  rw [cell_of_row _ _ j _ _ _ hg]; exact hy
theorem tab4y (j : Nat) (hj : j < 4) : ∃ y : ByteArray, y.size ≤ 5 ∧ (#[Value.string ⟨#[114]⟩, .string ⟨#[34, 114, 34, 34, 113]⟩, .string ⟨#[34]⟩, .string ⟨#[32]⟩] : Array Value)[j]? = some (.string y) := by
  match j, hj with
  | 0, _ => exact ⟨_, by decide, rfl⟩
  | 1, _ => exact ⟨_, by decide, rfl⟩
  | 2, _ => exact ⟨_, by decide, rfl⟩
  | 3, _ => exact ⟨_, by decide, rfl⟩
theorem two_low (w : World) (a b : Obj) : ((w.alloc a).alloc b).heap[w.heap.size]? = some a := by
  rw [heap_alloc_old (w.alloc a) b (Array.getElem?_eq_some_iff.1 (heap_alloc_new w a)).1]
  exact heap_alloc_new w a
theorem two_high (w : World) (a b : Obj) : ((w.alloc a).alloc b).heap[w.heap.size + 1]? = some b := by
  have h := heap_alloc_new (w.alloc a) b
  rwa [show (w.alloc a).heap.size = w.heap.size + 1 by simp] at h
/-- What the file's head is made of. -/
def C2 (w : World) (e c : Value) (wx : World) : Prop := ∃ (E : ByteArray) (C : Nat), e = .string E ∧ E.size ≤ 2 ∧ c = .int .i64 C ∧ C ≤ 3 ∧ Below w.heap.size w wx

/-- A text of three bytes to so many. -/
def C5 (w : World) (K : Nat) (v : Value) (wx : World) : Prop := ∃ s' : ByteArray, v = .string s' ∧ 3 ≤ s'.size ∧ s'.size ≤ K ∧ Below w.heap.size w wx

set_option maxHeartbeats 4000000 in
theorem file_any (A : Option Addr) (n c : Nat) (l : List Int) (w : World) (h : SeesV w w.heap.size A n (l.map (Value.int .i64))) (hr : ∀ x ∈ l, -9223372036854775808 ≤ x ∧ x ≤ 9223372036854775807) (_ : n ≤ c) (_ : c ≤ maxLen) :
    Calls Tryz.prog 8 #[.slice A n c] w (UpTo 1500 w) := by
  have HH := Lib.hid h
  have Hr : Hid (∀ k, k < n → -9223372036854775808 ≤ l.getD k 0 ∧ l.getD k 0 ≤ 9223372036854775807) := Lib.hid (fun k hk => by
    have hkl : k < l.length := by have := h.len; rw [List.length_map] at this; omega
    rw [List.getD_eq_getElem?_getD, List.getElem?_eq_getElem hkl]
    exact hr _ (List.getElem_mem hkl))
  clear h hr
  go_enter Tryz.func8, Tryz.ntmps8
  go_upto_if 13 with (fail)
  go_cut [3, 4] from 13 (fun e c wx => C2 w e c wx)
  case first =>
    by_cases h0 : n = 0
    · have h0' : ¬ (0 : Int) < (n : Int) := by omega
      clear h0
      go_wp2_with fail
      go_meet
      exact ⟨_, 2, rfl, by decide, rfl, by omega, Below.refl _ _⟩
    · have h0' : (0 : Int) < (n : Int) := by omega
      have h0n : 0 < n := by omega
      obtain ⟨b, o, rfl, hbB, hcell⟩ := HH.out.int h0n
      have hcell' : w.cell? ⟨b, o, none⟩ = some (.int .i64 (l.getD 0 0)) := hcell
      obtain ⟨x, hx⟩ : ∃ x, x = l.getD 0 0 := ⟨_, rfl⟩
      have hxr := Hr.out 0 h0n
      rw [← hx] at hcell' hxr
      obtain ⟨j, hj, HJ'⟩ := within_nat x 4 (by omega) (by omega) hxr
      have hx4 := tdiv4_lim hxr
      obtain ⟨j2, hj2, HJ2'⟩ := within_nat (x.tdiv 4) 4 (by omega) (by omega) (by omega)
      have HJ : Hid (∀ w, Calls Tryz.prog 9 #[.int .i64 x, .int .i64 4] w fun e w' => e = .returned (.int .i64 j) ∧ w = w') := Lib.hid HJ'
      have HJ2 : Hid (∀ w, Calls Tryz.prog 9 #[.int .i64 (x.tdiv 4), .int .i64 4] w fun e w' => e = .returned (.int .i64 j2) ∧ w = w') := Lib.hid HJ2'
      clear HJ' HJ2' hx hcell h0
      have hj3 : j ≤ 3 := by omega
      by_cases hz : j2 = 0
      · have hzb : ((j2 : Int) == 0) = true := by simp; omega
        clear hz
        go_wp2_with fail
        (with_reducible refine (HJ.out _).mono ?_)
        rintro e w2 ⟨rfl, rfl⟩
        go_wp2_with fail
        (with_reducible refine (HJ2.out _).mono ?_)
        rintro e w2 ⟨rfl, rfl⟩
        go_wp2_with fail
        go_meet
        exact ⟨_, j, rfl, by decide, rfl, hj3, Below.refl _ _⟩
      · have hzb : ((j2 : Int) == 0) = false := by simp; omega
        clear hz
        go_wp2_with fail
        (with_reducible refine (HJ.out _).mono ?_)
        rintro e w2 ⟨rfl, rfl⟩
        go_wp2_with fail
        (with_reducible refine (HJ2.out _).mono ?_)
        rintro e w2 ⟨rfl, rfl⟩
        go_wp2_with fail
        go_meet
        exact ⟨_, j, rfl, by decide, rfl, hj3, Below.refl _ _⟩
  case rest =>
    obtain ⟨E, C, rfl, hE, rfl, hC, hb⟩ := hcut
    have HB := Lib.hid hb
    clear hb
    go_wp2_with fail
    go_loopw [5, 6] (fun v i wr => ∃ (k : Nat) (s : ByteArray), k ≤ C ∧ i = .int .i64 k ∧ v = .string s ∧ 3 ≤ s.size ∧ s.size ≤ 3 + 6 * k ∧ Hid (Below w.heap.size w wr)) (fun _ i _ => C - (intOf i).toNat)
    case atStart => exact ⟨0, ⟨#[107, 101, 121]⟩, Nat.zero_le _, rfl, rfl, by decide, by decide, HB⟩
    case round =>
      obtain ⟨k, s, hk, rfl, rfl, hs3, hsz, HW⟩ := hrel
      by_cases hlt : k < C
      · have hkn : (k : Int) < (C : Int) := by omega
        have hk3 : (k : Int) < 3 := by omega
        have hk0 : (0 : Int) ≤ (k : Int) := by omega
        obtain ⟨y, hy, hyc⟩ := tab3 wr 9 k (by omega)
        have hadd := fun W => run_string_add_sum (P := Tryz.prog) (w := W) s ⟨#[44]⟩ (by have : (ByteArray.mk #[44]).size = 1 := rfl; omega)
        obtain ⟨s1, hs1⟩ : ∃ x, x = s ++ ⟨#[44]⟩ := ⟨_, rfl⟩
        have hs1z : s1.size = s.size + 1 := by rw [hs1, ByteArray.size_append]; rfl
        rw [← hs1] at hadd
        have hadd2 := fun W => run_string_add_sum (P := Tryz.prog) (w := W) s1 y (by omega)
        obtain ⟨s2, hs2⟩ : ∃ x, x = s1 ++ y := ⟨_, rfl⟩
        have hs2z : s2.size = s1.size + y.size := by rw [hs2, ByteArray.size_append]
        rw [← hs2] at hadd2
        have HZ : Hid (3 ≤ s2.size ∧ s2.size ≤ 3 + 6 * (k + 1)) := Lib.hid (by omega)
        have Hlt := Lib.hid hlt
        clear hs1 hs1z hs2 hs2z hs3 hsz hlt hy
        go_wp2_with fail
        go_roundw
        case rel => exact ⟨k + 1, s2, Hlt.out, by go_num, rfl, HZ.out.1, HZ.out.2, Lib.hid (HW.out.alloc HW.out.size _)⟩
        case measure => have := Hlt.out; simp [intOf]; omega
      · obtain rfl : k = C := by omega
        have hadd := fun W => run_string_add_sum (P := Tryz.prog) (w := W) s E (by omega)
        obtain ⟨s1, hs1⟩ : ∃ x, x = s ++ E := ⟨_, rfl⟩
        have hs1z : s1.size = s.size + E.size := by rw [hs1, ByteArray.size_append]
        rw [← hs1] at hadd
        have HZ : Hid (3 ≤ s1.size ∧ s1.size ≤ 23) := Lib.hid (by omega)
        clear hs1 hs1z hs3 hsz hlt
        go_wp2_with fail
        go_loopw [5, 7] (fun v i wr => ∃ (k : Nat) (s : ByteArray), 1 ≤ k ∧ k ≤ 25 ∧ i = .int .i64 k ∧ v = .string s ∧ 3 ≤ s.size ∧ s.size ≤ 23 + 50 * k ∧ Hid (Below w.heap.size w wr)) (fun _ i _ => 25 - (intOf i).toNat)
        case atStart => exact ⟨1, s1, Nat.le_refl _, by omega, by go_num, rfl, HZ.out.1, by have := HZ.out.2; omega, HW⟩
        case round =>
          obtain ⟨i, s, hi1, hi, rfl, rfl, hs3, hsz, HW⟩ := hrel
          by_cases hlt : i < 25 ∧ i < n
          · obtain ⟨hl1, hl2⟩ := hlt
            have q1 : (i : Int) < 25 := by omega
            have q2 : (i : Int) < (n : Int) := by omega
            have q3 : (0 : Int) ≤ (i : Int) := by omega
            obtain ⟨b, o, rfl, hbB, hcell⟩ := (HH.out.below HW.out).int hl2
            obtain ⟨x, hx⟩ : ∃ x, x = l.getD i 0 := ⟨_, rfl⟩
            have hxr := Hr.out i hl2
            rw [← hx] at hcell hxr
            obtain ⟨j, hj, HJ'⟩ := within_nat x 4 (by omega) (by omega) hxr
            have HJ : Hid (∀ w, Calls Tryz.prog 9 #[.int .i64 x, .int .i64 4] w fun e w' => e = .returned (.int .i64 j) ∧ w = w') := Lib.hid HJ'
            have hwr := u8_small i hi
            have hwr2 : IntKind.i64.wrap (97 + (i : Int)) = 97 + (i : Int) := IntWalk.i64_in _ (by omega)
            have hjI : (j : Int) < 4 := by omega
            have hj0 : (0 : Int) ≤ (j : Int) := by omega
            obtain ⟨y, hy5, hy⟩ := tab4y j hj
            have y1 := tab4 (wr.alloc (Obj.cells #[Value.string ⟨#[114]⟩, Value.string ⟨#[34, 114, 34, 34, 113]⟩, Value.string ⟨#[34]⟩, Value.string ⟨#[32]⟩] 9)).drew wr.heap.size 9 (heap_alloc_new wr _) j y hy
            have y2 := tab4 ((wr.alloc (Obj.cells #[Value.string ⟨#[114]⟩, Value.string ⟨#[34, 114, 34, 34, 113]⟩, Value.string ⟨#[34]⟩, Value.string ⟨#[32]⟩] 9)).alloc (Obj.cells #[Value.int .u8 (97 + (i : Int))] 5)).drew wr.heap.size 9 (two_low wr _ _) j y hy
            have y3 := tab4 ((wr.alloc (Obj.cells #[Value.int .u8 (97 + (i : Int))] 5)).alloc (Obj.cells #[Value.string ⟨#[114]⟩, Value.string ⟨#[34, 114, 34, 34, 113]⟩, Value.string ⟨#[34]⟩, Value.string ⟨#[32]⟩] 9)).drew (wr.heap.size + 1) 9 (two_high wr _ _) j y hy
            have z1 := conv_at i hi (wr.alloc (Obj.cells #[Value.int .u8 (97 + (i : Int))] 5)).drew wr.heap.size (heap_alloc_new wr _)
            have z2 := conv_at i hi ((wr.alloc (Obj.cells #[Value.int .u8 (97 + (i : Int))] 5)).alloc (Obj.cells #[Value.string ⟨#[114]⟩, Value.string ⟨#[34, 114, 34, 34, 113]⟩, Value.string ⟨#[34]⟩, Value.string ⟨#[32]⟩] 9)).drew wr.heap.size (two_low wr _ _)
            have z3 := conv_at i hi ((wr.alloc (Obj.cells #[Value.string ⟨#[114]⟩, Value.string ⟨#[34, 114, 34, 34, 113]⟩, Value.string ⟨#[34]⟩, Value.string ⟨#[32]⟩] 9)).alloc (Obj.cells #[Value.int .u8 (97 + (i : Int))] 5)).drew (wr.heap.size + 1) (two_high wr _ _)
            obtain ⟨u, hu⟩ : ∃ u, u = UInt8.ofNat (97 + i) := ⟨_, rfl⟩
            rw [← hu] at z1 z2 z3
            have ha1 := fun W => run_string_add_sum (P := Tryz.prog) (w := W) s y (by omega)
            obtain ⟨s2, hs2⟩ : ∃ x, x = s ++ y := ⟨_, rfl⟩
            have hs2z : s2.size = s.size + y.size := by rw [hs2, ByteArray.size_append]
            rw [← hs2] at ha1
            have ha2 := fun W => run_string_add_sum (P := Tryz.prog) (w := W) s2 ⟨#[u]⟩ (by have : (ByteArray.mk #[u]).size = 1 := rfl; omega)
            obtain ⟨s3, hs3'⟩ : ∃ x, x = s2 ++ ⟨#[u]⟩ := ⟨_, rfl⟩
            have hs3z : s3.size = s2.size + 1 := by rw [hs3', ByteArray.size_append]; rfl
            rw [← hs3'] at ha2
            have HZ3 : Hid (3 ≤ s3.size ∧ s3.size ≤ s.size + 6) := Lib.hid (by omega)
            clear HJ' hx hs2 hs2z hs3' hs3z hy hy5 hu
            go_upto_region 17 with (fail)
            go_cut [5] from 39 to 95 (fun v wx => C5 w (s.size + 6) v wx)
            case first =>
              go_region_law (first
                | (go_simp; (with_reducible refine (HJ.out _).mono ?_); rintro e w' ⟨rfl, rfl⟩))
              all_goals
                go_wp2_with fail
                go_meet
                exact ⟨s3, rfl, HZ3.out.1, HZ3.out.2, by first | exact (HW.out.alloc HW.out.size _).drew | exact ((HW.out.alloc HW.out.size _).alloc (by have := HW.out.size; simp; omega) _).drew⟩
            case rest =>
              obtain ⟨s', rfl, hs3', hsz', hb'⟩ := hcut
              have HB' := Lib.hid hb'
              have HZ' : Hid (3 ≤ s'.size ∧ s'.size ≤ 23 + 50 * i + 6) := Lib.hid (by omega)
              have ha3 := fun W => run_string_add_sum (P := Tryz.prog) (w := W) s' ⟨#[34]⟩ (by have : (ByteArray.mk #[34]).size = 1 := rfl; omega)
              obtain ⟨t1, ht1⟩ : ∃ x, x = s' ++ ⟨#[34]⟩ := ⟨_, rfl⟩
              have ht1z : t1.size = s'.size + 1 := by rw [ht1, ByteArray.size_append]; rfl
              rw [← ht1] at ha3
              have HT1 : Hid (3 ≤ t1.size ∧ t1.size ≤ 23 + 50 * i + 7) := Lib.hid (by omega)
              have HL1 := Lib.hid hl1
              clear ha1 ha2 y1 y2 y3 z1 z2 z3 hs3' hsz' hb' ht1 ht1z hs3 hsz hl1 hl2 HZ3 HB hbB hcell
              have hx4 := tdiv4_lim hxr
              have hthree : ((j : Int) == 1) = true ∨ (((j : Int) == 1) = false ∧ ((j : Int) == 2) = true) ∨ (((j : Int) == 1) = false ∧ ((j : Int) == 2) = false) := by
                by_cases hj1 : j = 1
                · left; simp; omega
                · right
                  by_cases hj2 : j = 2
                  · left; constructor <;> simp <;> omega
                  · right; constructor <;> simp <;> omega
              clear hxr
              rcases hthree with b1 | ⟨b1, b2⟩ | ⟨b1, b2⟩
              all_goals
                go_wp2_with fail
                (with_reducible refine (HJ.out _).mono ?_)
                rintro e w4 ⟨rfl, rfl⟩
                go_wp2_with fail
                go_loopw [5, 10] (fun v i' wr => ∃ (q : Nat) (s : ByteArray), q ≤ k ∧ i' = .int .i64 q ∧ v = .string s ∧ 3 ≤ s.size ∧ s.size ≤ 23 + 50 * i + 7 + 7 * q ∧ Hid (Below w.heap.size w wr)) (fun _ i' _ => k - (intOf i').toNat)
                case atStart => first | exact ⟨0, t1, Nat.zero_le _, rfl, rfl, HT1.out.1, HT1.out.2, HB'⟩ | exact ⟨0, s', Nat.zero_le _, rfl, rfl, HZ'.out.1, by have := HZ'.out.2; omega, HB'⟩
                case round =>
                  obtain ⟨q, s6, hq, rfl, rfl, hs63, hs6z, HW6⟩ := hrel
                  by_cases hlt : q < k
                  · have q1' : (q : Int) < (k : Int) := by omega
                    have q3' : (0 : Int) ≤ (q : Int) := by omega
                    have w1 : IntKind.i64.wrap (7 * (q : Int)) = 7 * (q : Int) := IntWalk.i64_in _ (by omega)
                    have w0 : wrap64 (x.tdiv 4) = x.tdiv 4 := by unfold wrap64; omega
                    have w2 : wrap64 (x.tdiv 4 + 7 * (q : Int)) = x.tdiv 4 + 7 * (q : Int) := by unfold wrap64; omega
                    obtain ⟨jj, hjj, HJJ'⟩ := within_nat (x.tdiv 4 + 7 * (q : Int)) 8 (by omega) (by omega) (by omega)
                    have HJJ : Hid (∀ w, Calls Tryz.prog 9 #[.int .i64 (x.tdiv 4 + 7 * (q : Int)), .int .i64 8] w fun e w' => e = .returned (.int .i64 jj) ∧ w = w') := Lib.hid HJJ'
                    obtain ⟨y, hy6, hyc⟩ := tab8 wr 9 jj hjj
                    have hjjI : (jj : Int) < 8 := by omega
                    have hjj0 : (0 : Int) ≤ (jj : Int) := by omega
                    have ha4 := fun W => run_string_add_sum (P := Tryz.prog) (w := W) s6 ⟨#[44]⟩ (by have : (ByteArray.mk #[44]).size = 1 := rfl; omega)
                    obtain ⟨t2, ht2⟩ : ∃ x, x = s6 ++ ⟨#[44]⟩ := ⟨_, rfl⟩
                    have ht2z : t2.size = s6.size + 1 := by rw [ht2, ByteArray.size_append]; rfl
                    rw [← ht2] at ha4
                    have ha5 := fun W => run_string_add_sum (P := Tryz.prog) (w := W) t2 y (by omega)
                    obtain ⟨t3, ht3⟩ : ∃ x, x = t2 ++ y := ⟨_, rfl⟩
                    have ht3z : t3.size = t2.size + y.size := by rw [ht3, ByteArray.size_append]
                    rw [← ht3] at ha5
                    have HT3 : Hid (3 ≤ t3.size ∧ t3.size ≤ 23 + 50 * i + 7 + 7 * (q + 1)) := Lib.hid (by omega)
                    have Hlt := Lib.hid hlt
                    clear HJJ' ht2 ht2z ht3 ht3z hs63 hs6z hlt hy6 hjj hx4
                    go_wp2_with fail
                    (with_reducible refine (HJJ.out _).mono ?_)
                    rintro e w7 ⟨rfl, rfl⟩
                    go_wp2_with fail
                    go_roundw
                    case rel => exact ⟨q + 1, t3, Hlt.out, by go_num, rfl, HT3.out.1, HT3.out.2, Lib.hid (HW6.out.alloc HW6.out.size _)⟩
                    case measure => have := Hlt.out; simp [intOf]; omega
                  · obtain rfl : q = k := by omega
                    have ha4 := fun W => run_string_add_sum (P := Tryz.prog) (w := W) s6 E (by omega)
                    obtain ⟨t2, ht2⟩ : ∃ x, x = s6 ++ E := ⟨_, rfl⟩
                    have ht2z : t2.size = s6.size + E.size := by rw [ht2, ByteArray.size_append]
                    rw [← ht2] at ha4
                    have HT2 : Hid (3 ≤ t2.size ∧ t2.size ≤ 23 + 50 * (i + 1)) := Lib.hid (by omega)
                    clear ht2 ht2z hs63 hs6z hlt
                    go_wp2_with fail
                    go_roundw
                    case rel => exact ⟨i + 1, t2, by omega, HL1.out, by go_num, rfl, HT2.out.1, HT2.out.2, HW6⟩
                    case measure => have := HL1.out; simp [intOf]; omega
          · have hex : (i : Int) = 25 ∧ (25 : Int) < (n : Int) ∨ ¬ (i : Int) < (n : Int) := by omega
            have hsm : s.size ≤ 1500 := by omega
            have hEs : E.size ≤ s.size := by omega
            by_cases hn1 : 1 < n
            · obtain ⟨b, o, rfl, hbB, hcell⟩ := (HH.out.below HW.out).int hn1
              have hxr := Hr.out 1 hn1
              obtain ⟨x, hx⟩ : ∃ x, x = l.getD 1 0 := ⟨_, rfl⟩
              rw [← hx] at hcell hxr
              obtain ⟨j, hj, HJ'⟩ := within_nat x 5 (by omega) (by omega) hxr
              have HJ : Hid (∀ w, Calls Tryz.prog 9 #[.int .i64 x, .int .i64 5] w fun e w' => e = .returned (.int .i64 j) ∧ w = w') := Lib.hid HJ'
              have hn1' : (1 : Int) < (n : Int) := by omega
              have e0 : wrap64 ((s.size : Int) - (E.size : Int)) = (s.size : Int) - (E.size : Int) := by unfold wrap64; omega
              have e1 : (0 : Int) ≤ (s.size : Int) - (E.size : Int) := by omega
              have e2 : (s.size : Int) - (E.size : Int) ≤ (s.size : Int) := by omega
              have e3 : ((s.size : Int) - (E.size : Int)).toNat = s.size - E.size := by omega
              have HX : Hid ((s.extract 0 (s.size - E.size)).size ≤ 1500) := Lib.hid (by rw [ByteArray.size_extract]; omega)
              have Hsm := Lib.hid hsm
              clear HJ' hx hxr hsm hEs hsz hs3 HZ
              by_cases hj0 : j = 0
              · have b1 : ((j : Int) == 0) = true := by simp; omega
                clear hj0
                rcases hex with ⟨hi25, h25n⟩ | hin
                all_goals
                  go_wp2_with fail
                  (with_reducible refine (HJ.out _).mono ?_)
                  rintro e w4 ⟨rfl, rfl⟩
                  go_wp2_with fail
                  go_ret
                  exact ⟨_, HX.out, rfl, HW.out⟩
              · have b1 : ((j : Int) == 0) = false := by simp; omega
                clear hj0
                rcases hex with ⟨hi25, h25n⟩ | hin
                all_goals
                  go_wp2_with fail
                  (with_reducible refine (HJ.out _).mono ?_)
                  rintro e w4 ⟨rfl, rfl⟩
                  go_wp2_with fail
                  go_ret
                  exact ⟨s, Hsm.out, rfl, HW.out⟩
            · have hn1' : ¬ (1 : Int) < (n : Int) := by omega
              have Hsm := Lib.hid hsm
              have hin : ¬ (i : Int) < (n : Int) := by omega
              clear hsm hEs hsz hs3 hex HZ
              go_wp2_with fail
              go_ret
              exact ⟨s, Hsm.out, rfl, HW.out⟩
end Go.Proofs.YtkgpjohfkfbfhaaGreatDoor.Cv
