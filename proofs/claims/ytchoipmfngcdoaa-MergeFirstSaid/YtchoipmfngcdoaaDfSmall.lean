/- Small: a tree of few names, of raw edges. Conditions: at most eight edges beside one another, five deep. -/
import Derived.Test.YtchoipmfngcdoaaMwMgBox
import Derived.Test.YtchoipmfngcdoaaWithW
import Derived.Test.YtchoipmfngcdoaaMwTSame
import Derived.Deep.RegionLaw
import Derived.IntWalk
namespace Go.Proofs.Ytchoipmfngcdoaa.Df
open Go.RowKit Go.Proofs.Ytchoipmfngcdoaa.Pt
set_option maxRecDepth 100000

theorem within_nat (a : Int) (n : Nat) (hn : 0 < n) (hn2 : n ≤ 2147483647) (ha : (Lit.int .i64 a).wf = true) : ∃ j : Nat, j < n ∧ ∀ w, Calls Try.prog 28 #[.int .i64 a, .int .i64 n] w fun e w' => e = .returned (.int .i64 j) ∧ w = w' := by
  refine ⟨(a % n).toNat, by have := Int.emod_lt_of_pos a (show (0 : Int) < n by omega); have := Int.emod_nonneg a (show (n : Int) ≠ 0 by omega); omega, fun w => ?_⟩
  rw [Int.toNat_of_nonneg (Int.emod_nonneg a (by omega))]
  exact within4_any a n (by omega) (by omega) ha w
theorem withT_len' (name : ByteArray) (x t : Tr) : (t.withT name x).len ≤ t.len + 1 := by
  have := withT_len name x t
  omega
theorem fit_drop : ∀ {t : Tr} (_ : t.Fit) (i : Nat), (t.dropT i).Fit
  | t, h, 0 => by rw [dropT_zero]; exact h
  | .nil, _, _ + 1 => trivial
  | .cons _ _ _, h, i + 1 => fit_drop h.2.2.2 i
theorem cell_in {w : World} {g : Nat} {cur : Array Value} {T : TypeId} (h : w.heap[g]? = some (.cells cur T (0, 0))) (q : Nat) (u : Value) (hu : cur[q]? = some u) : w.cell? ⟨g, q, none⟩ = some u := by
  rw [cell_of_row w g q _ _ _ h, hu]
/-- How deep. -/
def depS : Tr → Nat
  | .nil => 0
  | .cons _ k r => max (depS k + 1) (depS r)
theorem withT_dep {name : ByteArray} {x : Tr} {D : Nat} : ∀ {t : Tr}, depS t ≤ D → depS x + 1 ≤ D → depS (t.withT name x) ≤ D
  | .nil, _, hx => by simp only [Tr.withT, depS]; omega
  | .cons s k r, h, hx => by
    simp only [depS] at h
    have h2 := withT_dep (name := name) (x := x) (D := D) (t := r) (by omega) hx
    unfold Tr.withT
    split
    · simp only [depS]; omega
    · split
      · simp only [depS]; omega
      · simp only [depS]; omega
def Smalled (R D : Nat) (w : World) (e : Ending) (w' : World) : Prop := ∃ (A : Option Addr) (n c : Nat) (t : Tr), e = .returned (.slice A n c) ∧ Holds w' w'.heap.size A n t ∧ n ≤ c ∧ c ≤ maxLen ∧ (t.size ≤ R ∧ AscD t ∧ depS t ≤ D) ∧ Below w.heap.size w w'

set_option maxHeartbeats 4000000 in
theorem small_any (W : Nat) (hW : W ≤ 8) (D : Nat) : D ≤ 5 → ∀ (d : Int) (t : Tr) (A : Option Addr) (n c B : Nat) (w : World), d = (D : Int) → Holds w B A n t → t.Fit → B ≤ w.heap.size → n ≤ c → c ≤ maxLen →
    Calls Try.prog 14 #[.slice A n c, .int .i64 (W : Nat), .int .i64 d] w (Smalled t.size D w) := by
  induction D with
  | zero =>
    intro _ d t A n c B w hd h _ hB hc hm
    obtain rfl : d = 0 := hd
    unfold maxLen at hm
    have Hm := Lib.hid hm
    by_cases h0 : 0 < n
    · have h0' : (0 : Int) < (n : Int) := by omega
      by_cases hw0 : 0 < W
      · have hw0' : (0 : Int) < (W : Int) := by omega
        go_enter Try.func14, Try.ntmps14
        go_wp2_with fail
        go_loop [7, 8] (fun v i => v = .slice none 0 0 ∧ i = .int .i64 0) (fun _ _ => 0)
        case atStart => exact ⟨rfl, rfl⟩
        case round =>
          obtain ⟨rfl, rfl⟩ := hrel
          go_wp2_with fail
          go_ret
          exact ⟨none, 0, 0, .nil, rfl, rfl, Nat.le_refl _, Nat.zero_le _, ⟨Nat.zero_le _, trivial, Nat.le_refl _⟩, Below.refl _ _⟩
      · have hw0' : W = 0 := by omega
        subst hw0'
        go_enter Try.func14, Try.ntmps14
        go_wp2_with fail
        go_loop [7, 8] (fun v i => v = .slice none 0 0 ∧ i = .int .i64 0) (fun _ _ => 0)
        case atStart => exact ⟨rfl, rfl⟩
        case round =>
          obtain ⟨rfl, rfl⟩ := hrel
          go_wp2_with fail
          go_ret
          exact ⟨none, 0, 0, .nil, rfl, rfl, Nat.le_refl _, Nat.zero_le _, ⟨Nat.zero_le _, trivial, Nat.le_refl _⟩, Below.refl _ _⟩
    · have h0' : n = 0 := by omega
      subst h0'
      go_enter Try.func14, Try.ntmps14
      go_wp2_with fail
      go_loop [7, 8] (fun v i => v = .slice none 0 0 ∧ i = .int .i64 0) (fun _ _ => 0)
      case atStart => exact ⟨rfl, rfl⟩
      case round =>
        obtain ⟨rfl, rfl⟩ := hrel
        go_wp2_with fail
        go_ret
        exact ⟨none, 0, 0, .nil, rfl, rfl, Nat.le_refl _, Nat.zero_le _, ⟨Nat.zero_le _, trivial, Nat.le_refl _⟩, Below.refl _ _⟩
  | succ D ih =>
    intro hD4 d t A n c B w hd h hfit hB hc hm
    have hd1 : 1 ≤ d := by omega
    have hd5 : d ≤ 5 := by omega
    have Hd := Lib.hid hd
    clear hd
    unfold maxLen at hm
    have ih' := ih (by omega)
    have HIH := Lib.hid ih'
    clear ih ih'
    go_enter Try.func14, Try.ntmps14
    go_wp2_with fail
    go_loopw [7, 8] (fun v i wr => ∃ (k : Nat) (acc : Tr) (At : Option Addr) (nt ct : Nat), k ≤ n ∧ k ≤ W ∧ i = .int .i64 k ∧ v = .slice At nt ct ∧ Holds wr wr.heap.size At nt acc ∧ nt ≤ ct ∧ ct ≤ maxLen ∧ nt ≤ k ∧ Hid (acc.size + (t.dropT k).size ≤ t.size ∧ AscD acc ∧ depS acc ≤ D + 1) ∧ Below w.heap.size w wr) (fun _ i _ => n - (intOf i).toNat)
    case atStart => exact ⟨0, .nil, none, 0, 0, Nat.zero_le _, Nat.zero_le _, rfl, rfl, rfl, Nat.le_refl _, Nat.zero_le _, Nat.le_refl _, Lib.hid ⟨by rw [dropT_zero]; simp [Tr.size], trivial, Nat.zero_le _⟩, Below.refl _ _⟩
    case round =>
      obtain ⟨k, acc, At, nt, ct, hk, hkW, rfl, rfl, hacc, hnt, hct, hnk, Hs, hbw⟩ := hrel
      have hd0 : 0 < d := by omega
      by_cases hlt : k < n
      · by_cases hltW : k < W
        · obtain ⟨b, o, s, kt, r, A', n', c', rfl, hb, hs, hcl, hn', hc', hk', hr, hdr, hd2⟩ := h.split k hlt
          have hft := fit_drop hfit k
          rw [hdr] at hft
          obtain ⟨hfs, _, hfk, _⟩ := hft
          have hbl : b < wr.heap.size := by have := hbw.size; omega
          have hs1 := (hbw.cell (p := ⟨b, o + k * 2, none⟩) (by simp only; omega)).trans hs
          have hc1 := (hbw.cell (p := ⟨b, o + k * 2 + 1, none⟩) (by simp only; omega)).trans hcl
          have hkn : (k : Int) < (n : Int) := by omega
          have hk0 : (0 : Int) ≤ (k : Int) := by omega
          have hkw : (k : Int) < (W : Int) := by omega
          have hdw : IntKind.i64.wrap (d - 1) = d - 1 := IntWalk.i64_in _ (by omega)
          obtain ⟨j, hj, HJ'⟩ := within_nat (s.size : Int) 5 (by omega) (by omega) (WalkArith.wf_i64 (by have := hfs; omega))
          have HJ : Hid (∀ w, Calls Try.prog 28 #[.int .i64 (s.size : Int), .int .i64 5] w fun e w' => e = .returned (.int .i64 j) ∧ w = w') := Lib.hid HJ'
          have hj5 : (j : Int) < 5 := by omega
          have hj0 : (0 : Int) ≤ (j : Int) := by omega
          obtain ⟨y, hy⟩ : ∃ y : ByteArray, ∀ (W : World), (W.alloc (Obj.cells #[Value.string ⟨#[]⟩, Value.string ⟨#[97]⟩, Value.string ⟨#[98]⟩, Value.string ⟨#[99]⟩, Value.string ⟨#[100]⟩] 9)).cell? ⟨W.heap.size, j, none⟩ = some (.string y) := by
            match j, hj with
            | 0, _ => exact ⟨_, fun W => cell_in (heap_alloc_new W _) 0 _ rfl⟩
            | 1, _ => exact ⟨_, fun W => cell_in (heap_alloc_new W _) 1 _ rfl⟩
            | 2, _ => exact ⟨_, fun W => cell_in (heap_alloc_new W _) 2 _ rfl⟩
            | 3, _ => exact ⟨_, fun W => cell_in (heap_alloc_new W _) 3 _ rfl⟩
            | 4, _ => exact ⟨_, fun W => cell_in (heap_alloc_new W _) 4 _ rfl⟩
          have hba : Below wr.heap.size wr (wr.alloc (Obj.cells #[Value.string ⟨#[]⟩, Value.string ⟨#[97]⟩, Value.string ⟨#[98]⟩, Value.string ⟨#[99]⟩, Value.string ⟨#[100]⟩] 9)).drew := ((Below.refl _ _).alloc (Nat.le_refl _) _).drew
          have hbd : Below wr.heap.size wr wr.drew := (Below.refl _ _).drew
          have hBr : B ≤ wr.heap.size := by have := hbw.size; omega
          have HI := Lib.hid (fun W0 (hb : Below wr.heap.size wr W0) => HIH.out (d - 1) kt A' n' c' B W0 (by have := Hd.out; omega) (hk'.below ((hbw.mono hB).trans (hb.mono hBr))) hfk (Nat.le_trans hBr hb.size) hn' hc')
          have Hacc := Lib.hid hacc
          have Hbw := Lib.hid hbw
          have hnt5 : nt ≤ 549755813888 := by omega
          have Hdz := Lib.hid (show (t.dropT k).size = kt.size + (t.dropT (k + 1)).size + 1 by rw [hdr, hd2]; rfl)
          clear hk' hr hdr hd2 hs hcl HJ' hacc hbw
          go_wp2_with fail
          go_region_law (first
            | (go_simp; (with_reducible refine (HJ.out _).mono ?_); rintro e w' ⟨rfl, rfl⟩)
            | (go_simp; (with_reducible refine (HI.out _ hba).mono ?_); rintro e w3 ⟨A3, n3, c3, x, rfl, hx3, hn3, hm3, hz3, hb3⟩; have hy3 := (hb3.cell (p := ⟨wr.heap.size, j, none⟩) (by simp)).trans (hy wr); have hbr := hba.trans (hb3.mono (by simp)); have HW := Lib.hid (fun W0 (hb : Below w3.heap.size w3 W0) => with_any acc x At A3 nt ct n3 c3 w3.heap.size y W0 ((Hacc.out.below (hbr.trans (hb.mono hbr.size))).more hbr.size) (hx3.below hb) hb.size hnt5 hnt hn3 hm3); have hr3 := Below.refl w3.heap.size w3; have Hz3 := Lib.hid hz3; clear hz3 hx3)
            | (go_simp; (with_reducible refine (HI.out _ hbd).mono ?_); rintro e w3 ⟨A3, n3, c3, x, rfl, hx3, hn3, hm3, hz3, hb3⟩; have hbr := hbd.trans (hb3.mono (by simp)); have HW := Lib.hid (fun W0 (hb : Below w3.heap.size w3 W0) => with_any acc x At A3 nt ct n3 c3 w3.heap.size y W0 ((Hacc.out.below (hbr.trans (hb.mono hbr.size))).more hbr.size) (hx3.below hb) hb.size hnt5 hnt hn3 hm3); have hr3 := (Below.refl w3.heap.size w3).alloc (Nat.le_refl _) (Obj.cells #[Value.string ⟨#[]⟩, Value.string ⟨#[97]⟩, Value.string ⟨#[98]⟩, Value.string ⟨#[99]⟩, Value.string ⟨#[100]⟩] 9); have Hz3 := Lib.hid hz3; clear hz3 hx3)
            | (go_simp; (with_reducible refine (HW.out _ hr3).mono ?_); rintro e w4 ⟨A4, n4, c4, rfl, hx4, hn4, hm4, hb4⟩))
          all_goals
            go_wp2_with fail
            go_roundw
            case rel => exact ⟨k + 1, acc.withT y x, A4, n4, c4, by omega, by omega, by go_num, rfl, hx4, hn4, hm4, by have h1 := hx4.len; have h2 := withT_len' y x acc; have h3 := Hacc.out.len; omega, Lib.hid ⟨by have h1 := Pt.withT_size (name := y) (x := x) (t := acc); have h2 := Hs.out.1; have h3 := Hz3.out.1; have h4 := Hdz.out; omega, withT_ascD Hz3.out.2.1 Hs.out.2.1, withT_dep Hs.out.2.2 (Nat.succ_le_succ Hz3.out.2.2)⟩, Hbw.out.trans ((hbr.trans ((hr3.trans (hb4.mono hr3.size)).mono hbr.size)).mono Hbw.out.size)⟩
            case measure => simp [intOf]; omega
        · have hkw : (W : Int) ≤ (k : Int) := by omega
          have hkn : (k : Int) < (n : Int) := by omega
          have Hacc := Lib.hid hacc
          clear hacc
          go_wp2_with fail
          go_ret
          exact ⟨At, nt, ct, acc, rfl, Hacc.out, hnt, hct, ⟨Nat.le_trans (Nat.le_add_right _ _) Hs.out.1, Hs.out.2⟩, hbw⟩
      · have hkn : (n : Int) ≤ (k : Int) := by omega
        have Hacc := Lib.hid hacc
        clear hacc
        go_wp2_with fail
        go_ret
        exact ⟨At, nt, ct, acc, rfl, Hacc.out, hnt, hct, ⟨Nat.le_trans (Nat.le_add_right _ _) Hs.out.1, Hs.out.2⟩, hbw⟩
end Go.Proofs.Ytchoipmfngcdoaa.Df
