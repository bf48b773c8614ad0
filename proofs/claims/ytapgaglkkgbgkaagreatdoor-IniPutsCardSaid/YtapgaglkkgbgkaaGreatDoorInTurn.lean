/- ini's Turn: a tree with some steps taken. Conditions: few edges. -/
import Derived.Test.YtapgaglkkgbgkaaGreatDoorMwInTnM
namespace Go.Proofs.YtapgaglkkgbgkaaGreatDoor.In
open Go.RowKit Go.Proofs.YtapgaglkkgbgkaaGreatDoor.Jd Go.Proofs.YtapgaglkkgbgkaaGreatDoor.Li Go.Proofs.YtapgaglkkgbgkaaGreatDoor.Pt Go.Proofs.YtapgaglkkgbgkaaGreatDoor.Cl
set_option maxRecDepth 100000

theorem tab6c (V : World) (g : Nat) (e : TypeId) (hg : V.heap[g]? = some (.cells #[Value.string ⟨#[32, 107]⟩, Value.string ⟨#[107, 61]⟩, Value.string ⟨#[91, 107]⟩, Value.string ⟨#[59]⟩, Value.string ⟨#[]⟩, Value.string ⟨#[97, 10, 98]⟩] e (0, 0))) (j : Nat) (y : ByteArray) (hy : (#[Value.string ⟨#[32, 107]⟩, Value.string ⟨#[107, 61]⟩, Value.string ⟨#[91, 107]⟩, Value.string ⟨#[59]⟩, Value.string ⟨#[]⟩, Value.string ⟨#[97, 10, 98]⟩] : Array Value)[j]? = some (.string y)) : V.cell? ⟨g, j, none⟩ = some (.string y) := by
  rw [cell_of_row _ _ j _ _ _ hg]; exact hy
theorem tab6cy (j : Nat) (hj : j < 6) : ∃ y : ByteArray, y.size ≤ 5 ∧ (#[Value.string ⟨#[32, 107]⟩, Value.string ⟨#[107, 61]⟩, Value.string ⟨#[91, 107]⟩, Value.string ⟨#[59]⟩, Value.string ⟨#[]⟩, Value.string ⟨#[97, 10, 98]⟩] : Array Value)[j]? = some (.string y) := by
  match j, hj with
  | 0, _ => exact ⟨_, by decide, rfl⟩
  | 1, _ => exact ⟨_, by decide, rfl⟩
  | 2, _ => exact ⟨_, by decide, rfl⟩
  | 3, _ => exact ⟨_, by decide, rfl⟩
  | 4, _ => exact ⟨_, by decide, rfl⟩
  | 5, _ => exact ⟨_, by decide, rfl⟩
/-- The two texts of a step. -/
def C7 (w : World) (r c : Value) (wx : World) : Prop := ∃ q y : ByteArray, r = .string q ∧ c = .string y ∧ SzT q ∧ SzT y ∧ Below w.heap.size w wx
theorem quiet_of_same {f : FuncId} {args : Array Value} {v : Value} (h : ∀ w, Calls Tryz.prog f args w fun e w' => e = .returned v ∧ w = w') (w : World) : Calls Tryz.prog f args w fun e w' => e = .returned v ∧ ∃ q, w' = w.drewN q :=
  (h w).mono fun _ _ ⟨he, hw⟩ => ⟨he, 0, hw ▸ rfl⟩
theorem drop_size : ∀ {t : Tr} {i : Nat} {s : ByteArray} {k r : Tr}, t.dropT i = .cons s k r → k.size ≤ t.size
  | .nil, 0, _, _, _, h => by cases h
  | .nil, _ + 1, _, _, _, h => by cases h
  | .cons _ _ _, 0, _, _, _, h => by rw [dropT_zero] at h; injection h with _ h2 _; subst h2; simp only [Tr.size]; omega
  | .cons _ _ r', i + 1, _, _, _, h => by
    have := drop_size (t := r') (i := i) (by simpa [Tr.dropT] using h)
    simp only [Tr.size]; omega
/-- Some tree of so many edges at most. -/
def TurnP (w : World) (e : Ending) (w' : World) : Prop := ∃ (u : Tr) (A' : Option Addr) (n' c' : Nat), e = .returned (.slice A' n' c') ∧ OkT w' A' n' c' u ∧ Tn 430 u ∧ Below w.heap.size w w'
set_option maxHeartbeats 16000000 in
theorem turn_any (t0 : Tr) (A A2 : Option Addr) (n c n2 c2 : Nat) (l : List Int) (w : World) (h : OkT w A n c t0) (ht : Tn 400 t0) (h2 : SeesV w w.heap.size A2 n2 (l.map (Value.int .i64))) (hr : ∀ x ∈ l, -9223372036854775808 ≤ x ∧ x ≤ 9223372036854775807) :
    Calls Tryz.prog 16 #[.slice A n c, .slice A2 n2 c2] w (TurnP w) := by
  have HH := Lib.hid h2
  have Hr : Hid (∀ k, k < n2 → -9223372036854775808 ≤ l.getD k 0 ∧ l.getD k 0 ≤ 9223372036854775807) := Lib.hid (fun k hk => by
    have hkl : k < l.length := by have := h2.len; rw [List.length_map] at this; omega
    rw [List.getD_eq_getElem?_getD, List.getElem?_eq_getElem hkl]
    exact hr _ (List.getElem_mem hkl))
  have HT0 := Lib.hid h
  have HN0 := Lib.hid ht
  clear h h2 hr ht
  go_enter Tryz.func16, Tryz.ntmps16
  go_wp2_with fail
  go_loopw [0, 5] (fun tv i wr => ∃ (k : Nat) (A' : Option Addr) (n' c' : Nat) (u : Tr), k ≤ 10 ∧ i = .int .i64 k ∧ tv = .slice A' n' c' ∧ Hid (OkT wr A' n' c' u) ∧ Hid (Tn (400 + 3 * k) u) ∧ Hid (Below w.heap.size w wr)) (fun _ i _ => 10 - (intOf i).toNat)
  case atStart => exact ⟨0, A, n, c, t0, by omega, rfl, rfl, HT0, HN0, Lib.hid (Below.refl _ _)⟩
  case round =>
    obtain ⟨k, A', n', c', u, hk, rfl, rfl, HT, HN, HW⟩ := hrel
    by_cases hlt : k < n2 ∧ k < 10
    · obtain ⟨hl1, hl2⟩ := hlt
      have q1 : (k : Int) < 10 := by omega
      have q2 : (k : Int) < (n2 : Int) := by omega
      have q3 : (0 : Int) ≤ (k : Int) := by omega
      obtain ⟨b, o, rfl, hbB, hcell⟩ := (HH.out.below HW.out).int hl1
      obtain ⟨x, hx⟩ : ∃ x, x = l.getD k 0 := ⟨_, rfl⟩
      have hxr := Hr.out k hl1
      rw [← hx] at hcell hxr
      obtain ⟨a8, b8, w8, v8⟩ := tdiv_lim 8 (by omega) hxr
      obtain ⟨a24, b24, w24, v24⟩ := tdiv_lim 24 (by omega) hxr
      obtain ⟨j, hj, HJ'⟩ := within_nat (x.tdiv 8) 3 (by omega) (by omega) ⟨a8, b8⟩
      have HJ : Hid (∀ w, Calls Tryz.prog 10 #[.int .i64 (x.tdiv 8), .int .i64 3] w fun e w' => e = .returned (.int .i64 j) ∧ w = w') := Lib.hid HJ'
      obtain ⟨r, hrr, HJ5'⟩ := within_nat (x.tdiv 24) 4 (by omega) (by omega) ⟨a24, b24⟩
      have HJ5 : Hid (∀ w, Calls Tryz.prog 10 #[.int .i64 (x.tdiv 24), .int .i64 4] w fun e w' => e = .returned (.int .i64 r) ∧ w = w') := Lib.hid HJ5'
      have Hx := Lib.hid hxr
      have HL := Lib.hid (And.intro hl1 hl2)
      clear HJ' HJ5' hx hl1 hl2 a8 b8 a24 b24 hbB hxr
      go_upto_region 5 with (fail)
      go_cut [7, 8] from 12 to 150 (fun r c wx => C7 wr r c wx)
      case first =>
        as_aux_lemma =>
          have hwr := u8_small j (by omega)
          have hwr2 : IntKind.i64.wrap (97 + (j : Int)) = 97 + (j : Int) := IntWalk.i64_in _ (by omega)
          have hwr3 := u8_small r (by omega)
          have hwr4 : IntKind.i64.wrap (97 + (r : Int)) = 97 + (r : Int) := IntWalk.i64_in _ (by omega)
          have z1 := conv_at j (by omega) (wr.alloc (Obj.cells #[Value.int .u8 (97 + (j : Int))] 5)).drew wr.heap.size (heap_alloc_new wr _)
          have z2 := conv_at j (by omega) ((wr.alloc (Obj.cells #[Value.int .u8 (97 + (j : Int))] 5)).alloc (Obj.cells #[Value.int .u8 (97 + (r : Int))] 5)).drew wr.heap.size (two_low wr _ _)
          have z3 := conv_at j (by omega) ((wr.alloc (Obj.cells #[Value.int .u8 (97 + (r : Int))] 5)).alloc (Obj.cells #[Value.int .u8 (97 + (j : Int))] 5)).drew (wr.heap.size + 1) (two_high wr _ _)
          have y1 := conv_at r (by omega) (wr.alloc (Obj.cells #[Value.int .u8 (97 + (r : Int))] 5)).drew wr.heap.size (heap_alloc_new wr _)
          have y2 := conv_at r (by omega) ((wr.alloc (Obj.cells #[Value.int .u8 (97 + (r : Int))] 5)).alloc (Obj.cells #[Value.int .u8 (97 + (j : Int))] 5)).drew wr.heap.size (two_low wr _ _)
          have y3 := conv_at r (by omega) ((wr.alloc (Obj.cells #[Value.int .u8 (97 + (j : Int))] 5)).alloc (Obj.cells #[Value.int .u8 (97 + (r : Int))] 5)).drew (wr.heap.size + 1) (two_high wr _ _)
          obtain ⟨v, hv⟩ : ∃ v, v = UInt8.ofNat (97 + j) := ⟨_, rfl⟩
          obtain ⟨v2, hv2⟩ : ∃ v, v = UInt8.ofNat (97 + r) := ⟨_, rfl⟩
          rw [← hv] at z1 z2 z3
          rw [← hv2] at y1 y2 y3
          have ha1 := fun W => run_string_add_sum (P := Tryz.prog) (w := W) ⟨#[110, 101, 119, 32]⟩ ⟨#[v]⟩ (by have : (ByteArray.mk #[v]).size = 1 := rfl; have : (ByteArray.mk #[110, 101, 119, 32]).size = 4 := rfl; omega)
          obtain ⟨s2, hs2⟩ : ∃ x, x = (ByteArray.mk #[110, 101, 119, 32]) ++ (ByteArray.mk #[v]) := ⟨_, rfl⟩
          have hs2z : Hid (SzT s2) := Lib.hid (by rw [hs2, SzT, ByteArray.size_append]; have : (ByteArray.mk #[v]).size = 1 := rfl; have : (ByteArray.mk #[110, 101, 119, 32]).size = 4 := rfl; omega)
          rw [← hs2] at ha1
          have ha2 := fun W => run_string_add_sum (P := Tryz.prog) (w := W) ⟨#[107]⟩ ⟨#[v2]⟩ (by have : (ByteArray.mk #[v2]).size = 1 := rfl; have : (ByteArray.mk #[107]).size = 1 := rfl; omega)
          obtain ⟨s3, hs3⟩ : ∃ x, x = (ByteArray.mk #[107]) ++ (ByteArray.mk #[v2]) := ⟨_, rfl⟩
          have hs3z : Hid (SzT s3) := Lib.hid (by rw [hs3, SzT, ByteArray.size_append]; have : (ByteArray.mk #[v2]).size = 1 := rfl; have : (ByteArray.mk #[107]).size = 1 := rfl; omega)
          rw [← hs3] at ha2
          clear hs2 hs3 hv hv2 hcell
          go_region_law (first
            | (go_simp; (with_reducible refine (HJ.out _).mono ?_); rintro e w' ⟨rfl, rfl⟩)
            | (go_simp; (with_reducible refine (HJ5.out _).mono ?_); rintro e w' ⟨rfl, rfl⟩))
          all_goals
            go_wp2_with fail
            go_meet
            exact ⟨s2, s3, rfl, rfl, hs2z.out, hs3z.out, by first | exact ((Below.refl _ _).alloc (Nat.le_refl _) _).drew | exact (((Below.refl _ _).alloc (Nat.le_refl _) _).alloc (by simp) _).drew⟩
      case rest =>
        obtain ⟨q0, y, rfl, rfl, hq0, hy, hb⟩ := hcut
        obtain ⟨wa, rfl⟩ : ∃ x : World, x = wc := ⟨_, rfl⟩
        have HTa : Hid (OkT wa A' n' c' u) := Lib.hid (HT.out.below hb)
        have HWa : Hid (Below w.heap.size w wa) := Lib.hid (HW.out.trans (hb.mono HW.out.size))
        have Hq0 := Lib.hid hq0
        have Hy := Lib.hid hy
        have hxr := Hx.out
        obtain ⟨a3, b3, w3', v3'⟩ := tdiv_lim 3 (by omega) hxr
        obtain ⟨a5, b5, w5, v5⟩ := tdiv_lim 5 (by omega) hxr
        obtain ⟨a9, b9, w9, v9⟩ := tdiv_lim 9 (by omega) hxr
        obtain ⟨a13, b13, w13, v13⟩ := tdiv_lim 13 (by omega) hxr
        obtain ⟨a72, b72, w72, v72⟩ := tdiv_lim 72 (by omega) hxr
        obtain ⟨j4, hj4, HJ4'⟩ := within_nat (x.tdiv 3) 4 (by omega) (by omega) ⟨a3, b3⟩
        have HJ4 : Hid (∀ w, Calls Tryz.prog 10 #[.int .i64 (x.tdiv 3), .int .i64 4] w fun e w' => e = .returned (.int .i64 j4) ∧ w = w') := Lib.hid HJ4'
        obtain ⟨j8, hj8, HJ8'⟩ := within_nat (x.tdiv 9) 8 (by omega) (by omega) ⟨a9, b9⟩
        have HJ8 : Hid (∀ w, Calls Tryz.prog 10 #[.int .i64 (x.tdiv 9), .int .i64 8] w fun e w' => e = .returned (.int .i64 j8) ∧ w = w') := Lib.hid HJ8'
        obtain ⟨j13, hj13, HJ13'⟩ := within_nat (x.tdiv 13) 10 (by omega) (by omega) ⟨a13, b13⟩
        have HJ13 : Hid (∀ w, Calls Tryz.prog 10 #[.int .i64 (x.tdiv 13), .int .i64 10] w fun e w' => e = .returned (.int .i64 j13) ∧ w = w') := Lib.hid HJ13'
        obtain ⟨j72, hj72, HJ72'⟩ := within_nat (x.tdiv 72) 6 (by omega) (by omega) ⟨a72, b72⟩
        have HJ72 : Hid (∀ w, Calls Tryz.prog 10 #[.int .i64 (x.tdiv 72), .int .i64 6] w fun e w' => e = .returned (.int .i64 j72) ∧ w = w') := Lib.hid HJ72'
        obtain ⟨j9, hj9, HJ9'⟩ := within_nat x 9 (by omega) (by omega) hxr
        obtain ⟨dd, hdd⟩ : ∃ dd : Int, dd = (j9 : Int) := ⟨_, rfl⟩
        have HJ9 : Hid (∀ w, Calls Tryz.prog 10 #[.int .i64 x, .int .i64 9] w fun e w' => e = .returned (.int .i64 dd) ∧ w = w') := Lib.hid (by rw [hdd]; exact HJ9')
        have hd9 : Hid (dd = 0 ∨ dd = 1 ∨ dd = 2 ∨ dd = 3 ∨ dd = 4 ∨ dd = 5 ∨ (¬ dd = 0 ∧ ¬ dd = 1 ∧ ¬ dd = 2 ∧ ¬ dd = 3 ∧ ¬ dd = 4 ∧ ¬ dd = 5)) := Lib.hid (by omega)
        have hun := HTa.out.holds.len
        have hul := u.len_size
        have hsz : u.size ≤ 430 := by have := HN.out.1; omega
        have Hsz := Lib.hid hsz
        have hcap := HTa.out.cap.1
        have Hj8 := Lib.hid hj8
        have Hj13 := Lib.hid hj13
        have Hj72 := Lib.hid hj72
        have hbr : Hid (n' = 0 ∨ (0 < n' ∧ j4 = 0) ∨ (0 < n' ∧ 0 < j4)) := Lib.hid (by omega)
        have Hun := Lib.hid hun
        have Hul := Lib.hid hul
        clear HJ4' HJ8' HJ13' HJ72' HJ9' hdd hj4 hj8 hj13 hj72 hj9 hq0 hy hb hxr a3 b3 a5 b5 a9 b9 a13 b13 a72 b72 w5 v5 hun hul hsz hcap HT HW hcell
        go_upto_region 6 with (fail)
        obtain ⟨bv, hbv⟩ : ∃ b, b = decide (0 < n' ∧ 0 < j4) := ⟨_, rfl⟩
        have Hbv := Lib.hid hbv
        clear hbv
        go_cut [50] from 12 to 150 (fun v wx => v = .bool bv ∧ wx = wa)
        case first =>
          rcases hbr.out with h0 | ⟨h0, h1⟩ | ⟨h0, h1⟩
          · have h0' : ¬ (0 : Int) < (n' : Int) := by omega
            obtain rfl : bv = false := by rw [Hbv.out]; exact decide_eq_false (by omega)
            clear h0 hbr Hbv
            go_wp2_with fail
            go_meet
            exact ⟨rfl, rfl⟩
          · have h0' : (0 : Int) < (n' : Int) := by omega
            have h1' : ¬ (0 : Int) < (j4 : Int) := by omega
            obtain rfl : bv = false := by rw [Hbv.out]; exact decide_eq_false (by omega)
            clear h0 h1 hbr Hbv
            go_wp2_with fail
            (with_reducible refine (HJ4.out _).mono ?_)
            rintro e w9 ⟨rfl, rfl⟩
            go_wp2_with fail
            go_meet
            exact ⟨by rw [decide_eq_false (by omega)], rfl⟩
          · have h0' : (0 : Int) < (n' : Int) := by omega
            have h1' : (0 : Int) < (j4 : Int) := by omega
            obtain rfl : bv = true := by rw [Hbv.out]; exact decide_eq_true ⟨h0, h1⟩
            clear h0 h1 hbr Hbv
            go_wp2_with fail
            (with_reducible refine (HJ4.out _).mono ?_)
            rintro e w9 ⟨rfl, rfl⟩
            go_wp2_with fail
            go_meet
            exact ⟨by rw [decide_eq_true (by omega)], rfl⟩
        case rest =>
          obtain ⟨hv0, hwx⟩ := hcut
          subst hv0
          obtain rfl : wa = wc := hwx.symm
          clear hbr
          go_upto_if 50 with (fail)
          go_cut [7, 8] from 12 to 150 (fun r c wx => C7 wa r c wx)
          case first =>
            cases bv with
            | false =>
              go_wp2_with fail
              go_meet
              exact ⟨_, _, rfl, rfl, Hq0.out, Hy.out, Below.refl _ _⟩
            | true =>
              have h0 : 0 < n' := (of_decide_eq_true Hbv.out.symm).1
              have hxr := Hx.out
              obtain ⟨a5, b5, w5, v5⟩ := tdiv_lim 5 (by omega) hxr
              obtain ⟨a7, b7, w7, v7⟩ := tdiv_lim 7 (by omega) hxr
              obtain ⟨a11, b11, w11, v11⟩ := tdiv_lim 11 (by omega) hxr
              obtain ⟨j0, hj0, HJ0'⟩ := within_nat (x.tdiv 5) n' h0 (by have := Hun.out; have := Hul.out; have := Hsz.out; omega) ⟨a5, b5⟩
              have HJ0 : Hid (∀ w, Calls Tryz.prog 10 #[.int .i64 (x.tdiv 5), .int .i64 n'] w fun e w' => e = .returned (.int .i64 j0) ∧ w = w') := Lib.hid HJ0'
              obtain ⟨j7, hj7, HJ7'⟩ := within_nat (x.tdiv 7) 3 (by omega) (by omega) ⟨a7, b7⟩
              have HJ7 : Hid (∀ w, Calls Tryz.prog 10 #[.int .i64 (x.tdiv 7), .int .i64 3] w fun e w' => e = .returned (.int .i64 j7) ∧ w = w') := Lib.hid HJ7'
              obtain ⟨b1, o1, s1, kt1, r1, A1, n1, c1, rfl, hb1, hs1, hc1, hn1, hc1', hk1, hr1, hd1, hd2⟩ := HTa.out.holds.split j0 hj0
              have hnd := nm_drop u j0 HN.out.2
              rw [hd1] at hnd
              have Hs1 : Hid (SzT s1) := Lib.hid hnd.1
              have Hnk := Lib.hid hnd.2.1
              have hks : kt1.size ≤ u.size := drop_size hd1
              have hkl := kt1.len_size
              have hk1n := hk1.len
              have hn1z : n1 ≤ 430 := by have := Hsz.out; omega
              have hj0I : (j0 : Int) < (n' : Int) := by omega
              have hj00 : (0 : Int) ≤ (j0 : Int) := by omega
              have Hk1 := Lib.hid hk1
              have Hcap1 := Lib.hid (And.intro hn1 hc1')
              clear h0 HJ0' HJ7' a5 b5 a7 b7 hnd hk1 hr1 hd1 hd2 hn1 hc1' hj0 hj7 hks hkl hk1n hxr
              go_upto_region 8 with (go_at_call 10; (with_reducible refine (HJ0.out _).mono ?_); rintro e w9 ⟨rfl, rfl⟩)
              obtain ⟨W3, hW3⟩ : ∃ W, W = wa.alloc (Obj.cells #[.string s1, .slice A1 n1 c1] 56) := ⟨_, rfl⟩
              rw [← hW3]
              have hb3 : Below wa.heap.size wa W3 := by rw [hW3]; exact (Below.refl _ _).alloc (Nat.le_refl _) _
              have hg3 : W3.heap[wa.heap.size]? = some (Obj.cells #[.string s1, .slice A1 n1 c1] 56) := by rw [hW3]; exact heap_alloc_new wa _
              have p0 : W3.cell? ⟨wa.heap.size, 0, none⟩ = some (.string s1) := by rw [cell_of_row _ _ _ _ _ _ hg3]; rfl
              have p1 : W3.cell? ⟨wa.heap.size, 1, none⟩ = some (.slice A1 n1 c1) := by rw [cell_of_row _ _ _ _ _ _ hg3]; rfl
              have HB3 := Lib.hid hb3
              have Hk3 := Lib.hid ((Hk1.out.below hb3).more hb3.size)
              clear hW3 hb3 hg3 hs1 hc1 hb1
              rcases Nat.eq_zero_or_pos n1 with h0 | h0
              · have h0' : ¬ (0 : Int) < (n1 : Int) := by omega
                clear h0
                go_wp2_with fail
                go_meet
                exact ⟨_, _, rfl, rfl, Hs1.out, Hy.out, HB3.out⟩
              · have h0' : (0 : Int) < (n1 : Int) := by omega
                by_cases h7 : 0 < j7
                · have h7' : (0 : Int) < (j7 : Int) := by omega
                  obtain ⟨j11, hj11, HJ11'⟩ := within_nat (x.tdiv 11) n1 h0 (by omega) ⟨a11, b11⟩
                  have HJ11 := Lib.hid (quiet_of_same HJ11')
                  obtain ⟨b2, o2, s2, kt2, r2, A2', n2', c2', rfl, hb2, hs2, _, _, _, _, _, hd2, _⟩ := Hk3.out.split j11 hj11
                  have hnd2 := nm_drop kt1 j11 Hnk.out
                  rw [hd2] at hnd2
                  have Hs2 : Hid (SzT s2) := Lib.hid hnd2.1
                  have hj11I : (j11 : Int) < (n1 : Int) := by omega
                  have hj110 : (0 : Int) ≤ (j11 : Int) := by omega
                  clear h0 h7 HJ11' hnd2 hd2 hb2 hj11 a11 b11
                  go_upto_region 10 with (go_at_call 10; (with_reducible refine (HJ7.out _).mono ?_); rintro e w9 ⟨rfl, rfl⟩)
                  go_quiet ((go_at_call 10; exact Calls.quiet_of (HJ11.out _)))
                  go_wp2_with fail
                  go_meet
                  exact ⟨_, _, rfl, rfl, Hs1.out, Hs2.out, below_drewN HB3.out _⟩
                · have h7' : ¬ (0 : Int) < (j7 : Int) := by omega
                  clear h0 h7
                  go_wp2_with fail
                  (with_reducible refine (HJ7.out _).mono ?_)
                  rintro e w9 ⟨rfl, rfl⟩
                  go_wp2_with fail
                  go_meet
                  exact ⟨_, _, rfl, rfl, Hs1.out, Hy.out, HB3.out⟩
          case rest =>
            obtain ⟨q, y, rfl, rfl, hq, hy, hb⟩ := hcut
            obtain ⟨wb, rfl⟩ : ∃ x : World, x = wc := ⟨_, rfl⟩
            have HTb : Hid (OkT wb A' n' c' u) := Lib.hid (HTa.out.below hb)
            have HWb : Hid (Below w.heap.size w wb) := Lib.hid (HWa.out.trans (hb.mono HWa.out.size))
            have Hq := Lib.hid hq
            have Hy := Lib.hid hy
            clear hq hy hb Hbv Hq0 HTa HWa
            obtain ⟨wa, rfl⟩ : ∃ x : World, x = wb := ⟨_, rfl⟩
            have HTa := HTb
            have HWa := HWb
            clear HTb HWb
            go_wp2_with fail
            (with_reducible refine (HJ9.out _).mono ?_)
            rintro e w9 ⟨rfl, rfl⟩
            have HEnd : Hid (∀ (uu : Tr) (W : World) (Az : Option Addr) (nz cz : Nat), OkT W Az nz cz uu → Tn (400 + 3 * k + 3) uu → Below wa.heap.size wa W → ∃ (k' : Nat) (A' : Option Addr) (n' c' : Nat) (u : Tr), k' ≤ 10 ∧ Value.int .i64 (k + 1) = .int .i64 k' ∧ Value.slice Az nz cz = .slice A' n' c' ∧ Hid (OkT W A' n' c' u) ∧ Hid (Tn (400 + 3 * k') u) ∧ Hid (Below w.heap.size w W)) :=
              Lib.hid (fun uu W Az nz cz h1 h2 h3 => ⟨k + 1, Az, nz, cz, uu, HL.out.2, by rw [Int.natCast_succ], rfl, Lib.hid h1, Lib.hid (tn_mono h2 (by omega)), Lib.hid (HWa.out.trans (h3.mono HWa.out.size))⟩)
            have HV := Lib.hid rvalueT_any
            have hSz1 : Hid (∀ v : UInt8, SzT ⟨#[119, v]⟩) := Lib.hid (fun v => by show (2 : Nat) ≤ _; omega)
            rcases hd9.out with rfl | rfl | rfl | rfl | rfl | rfl | ⟨n0, n1, n2, n3, n4, n5⟩
            · have HD := Lib.hid (drop_w HTa.out Hsz.out q y).1
              go_wp2_with fail
              (with_reducible refine HD.out.mono ?_)
              rintro e wz ⟨Az, nz, cz, rfl, hok, hbz⟩
              have HE := Lib.hid (HEnd.out _ _ _ _ _ hok (tn_drop1 HN.out) (((Below.refl _ _).alloc (Nat.le_refl _) _).trans (hbz.mono (by simp))))
              clear hok hbz
              go_wp2_with fail
              go_roundw
              case rel => exact HE.out
              case measure => have := HL.out.2; simp [intOf]; omega
            iterate 2
              · have HD := Lib.hid (drop_w HTa.out Hsz.out q y).2
                go_wp2_with fail
                (with_reducible refine HD.out.mono ?_)
                rintro e wz ⟨Az, nz, cz, rfl, hok, hbz⟩
                have HE := Lib.hid (HEnd.out _ _ _ _ _ hok (tn_drop2 HN.out Hq.out) (((Below.refl _ _).alloc (Nat.le_refl _) _).trans (hbz.mono (by simp))))
                clear hok hbz
                go_wp2_with fail
                go_roundw
                case rel => exact HE.out
                case measure => have := HL.out.2; simp [intOf]; omega
            · go_wp2_with fail
              (with_reducible refine (HV.out _ _).mono ?_)
              rintro e wv ⟨Av, nv, cv, rfl, hv, hbv⟩
              have hB1 : Below wa.heap.size wa wv := ((Below.refl _ _).alloc (Nat.le_refl _) _).trans (hbv.mono (by simp))
              have HP := Lib.hid (put2_w (HTa.out.below hB1) Hsz.out ((hbv.block wa.heap.size (by simp)).trans (heap_alloc_new wa _)) hv)
              have HB1 := Lib.hid hB1
              clear hv hbv hB1
              go_wp2_with fail
              (with_reducible refine HP.out.mono ?_)
              rintro e wz ⟨Az, nz, cz, rfl, hok, hbz⟩
              have HE := Lib.hid (HEnd.out _ _ _ _ _ hok (tn_put2 HN.out Hq.out Hy.out (by show (0 : Nat) ≤ _; omega)) (HB1.out.trans (hbz.mono HB1.out.size)))
              clear hok hbz
              go_wp2_with fail
              go_roundw
              case rel => exact HE.out
              case measure => have := HL.out.2; simp [intOf]; omega
            · have HK := Lib.hid (kid2_any u _ n' c' wa.heap.size q wa HTa.out.holds (Nat.le_refl _) (by have := Hun.out; have := Hul.out; have := Hsz.out; omega))
              obtain ⟨v, hv⟩ : ∃ v, v = u.atIs q := ⟨_, rfl⟩
              rw [← hv] at HK
              clear hv
              cases v with
              | true =>
                go_wp2_with fail
                (with_reducible refine HK.out.mono ?_)
                rintro e wk ⟨A2', n2', c2', rfl, _, _, _, hqq⟩
                have hbk : Below wa.heap.size wa wk := by obtain ⟨qq, rfl⟩ := hqq; exact below_drewN (Below.refl _ _) qq
                have HE := Lib.hid (HEnd.out _ _ _ _ _ (HTa.out.below hbk) (tn_mono HN.out (by omega)) hbk)
                clear hqq hbk
                go_wp2_with fail
                go_roundw
                case rel => exact HE.out
                case measure => have := HL.out.2; simp [intOf]; omega
              | false =>
                go_wp2_with fail
                (with_reducible refine HK.out.mono ?_)
                rintro e wk ⟨A2', n2', c2', rfl, _, _, _, hqq⟩
                have hbk : Below wa.heap.size wa wk := by obtain ⟨qq, rfl⟩ := hqq; exact below_drewN (Below.refl _ _) qq
                have HP := Lib.hid (put1_w (HTa.out.below hbk) Hsz.out q)
                have HBk := Lib.hid hbk
                clear hqq hbk
                go_wp2_with fail
                (with_reducible refine HP.out.mono ?_)
                rintro e wz ⟨Az, nz, cz, rfl, hok, hbz⟩
                have HE := Lib.hid (HEnd.out _ _ _ _ _ hok (tn_put1 HN.out Hq.out) ((HBk.out.alloc HBk.out.size _).trans (hbz.mono (by have := HBk.out.size; simp; omega))))
                clear hok hbz
                go_wp2_with fail
                go_roundw
                case rel => exact HE.out
                case measure => have := HL.out.2; simp [intOf]; omega
            · by_cases h8 : j8 = 0
              · have hzb : ((j8 : Int) == 0) = true := by simp; omega
                clear h8
                go_wp2_with fail
                (with_reducible refine (HJ8.out _).mono ?_)
                rintro e w9 ⟨rfl, rfl⟩
                have hj4I : (j72 : Int) < 6 := by have := Hj72.out; omega
                have hj40 : (0 : Int) ≤ (j72 : Int) := by omega
                obtain ⟨y4, hy45, hy4⟩ := tab6cy j72 Hj72.out
                have HVx := Lib.hid rvalueX_any
                have y1 := tab6c (wa.alloc (Obj.cells #[Value.string ⟨#[32, 107]⟩, Value.string ⟨#[107, 61]⟩, Value.string ⟨#[91, 107]⟩, Value.string ⟨#[59]⟩, Value.string ⟨#[]⟩, Value.string ⟨#[97, 10, 98]⟩] 9)).drew wa.heap.size 9 (heap_alloc_new wa _) j72 y4 hy4
                have y2 := tab6c ((wa.alloc (Obj.cells #[Value.string ⟨#[32, 107]⟩, Value.string ⟨#[107, 61]⟩, Value.string ⟨#[91, 107]⟩, Value.string ⟨#[59]⟩, Value.string ⟨#[]⟩, Value.string ⟨#[97, 10, 98]⟩] 9)).alloc (Obj.cells #[Value.string ⟨#[120]⟩, Value.slice none 0 0] 56)).drew wa.heap.size 9 (two_low wa _ _) j72 y4 hy4
                have y3 := tab6c ((wa.alloc (Obj.cells #[Value.string ⟨#[120]⟩, Value.slice none 0 0] 56)).alloc (Obj.cells #[Value.string ⟨#[32, 107]⟩, Value.string ⟨#[107, 61]⟩, Value.string ⟨#[91, 107]⟩, Value.string ⟨#[59]⟩, Value.string ⟨#[]⟩, Value.string ⟨#[97, 10, 98]⟩] 9)).drew (wa.heap.size + 1) 9 (two_high wa _ _) j72 y4 hy4
                have HP1 := Lib.hid (put2_w (W := (((wa.alloc (Obj.cells #[Value.string ⟨#[32, 107]⟩, Value.string ⟨#[107, 61]⟩, Value.string ⟨#[91, 107]⟩, Value.string ⟨#[59]⟩, Value.string ⟨#[]⟩, Value.string ⟨#[97, 10, 98]⟩] 9)).alloc (Obj.cells #[Value.string q, Value.string y4] 9)).alloc (Obj.cells #[Value.string ⟨#[120]⟩, Value.slice none 0 0] 56)).drew) (HTa.out.below (belw3 wa _ _ _)) Hsz.out (three_mid wa _ _ _) (val_ok (three_high wa _ _ _)))
                have HP2 := Lib.hid (put2_w (W := (((wa.alloc (Obj.cells #[Value.string ⟨#[32, 107]⟩, Value.string ⟨#[107, 61]⟩, Value.string ⟨#[91, 107]⟩, Value.string ⟨#[59]⟩, Value.string ⟨#[]⟩, Value.string ⟨#[97, 10, 98]⟩] 9)).alloc (Obj.cells #[Value.string ⟨#[120]⟩, Value.slice none 0 0] 56)).alloc (Obj.cells #[Value.string q, Value.string y4] 9)).drew) (HTa.out.below (belw3 wa _ _ _)) Hsz.out (three_high wa _ _ _) (val_ok (three_mid wa _ _ _)))
                have HP3 := Lib.hid (put2_w (W := (((wa.alloc (Obj.cells #[Value.string ⟨#[120]⟩, Value.slice none 0 0] 56)).alloc (Obj.cells #[Value.string ⟨#[32, 107]⟩, Value.string ⟨#[107, 61]⟩, Value.string ⟨#[91, 107]⟩, Value.string ⟨#[59]⟩, Value.string ⟨#[]⟩, Value.string ⟨#[97, 10, 98]⟩] 9)).alloc (Obj.cells #[Value.string q, Value.string y4] 9)).drew) (HTa.out.below (belw3 wa _ _ _)) Hsz.out (three_high wa _ _ _) (val_ok (three_low wa _ _ _)))
                have hy4z : Hid (SzT y4) := Lib.hid (by unfold SzT; omega)
                clear hy4 hy45
                go_wp2_with fail
                go_region_law (first
                  | (go_simp; (with_reducible refine (HJ72.out _).mono ?_); rintro e w' ⟨rfl, rfl⟩)
                  | (go_simp; (with_reducible refine (HVx.out _ _).mono ?_); rintro e w' ⟨rfl, rfl⟩)
                  | (go_simp; (first | (with_reducible refine HP1.out.mono ?_) | (with_reducible refine HP2.out.mono ?_) | (with_reducible refine HP3.out.mono ?_)); rintro e wz ⟨Az, nz, cz, rfl, hok, hbz⟩; have HE := Lib.hid (HEnd.out _ _ _ _ _ hok (tn_put2 HN.out Hq.out hy4z.out (by show (1 : Nat) ≤ _; omega)) ((belw3 wa _ _ _).trans (hbz.mono (by simp; omega)))); clear hok hbz))
                all_goals
                  go_wp2_with fail
                  go_roundw
                  case rel => exact HE.out
                  case measure => have := HL.out.2; simp [intOf]; omega
              · have hzb : ((j8 : Int) == 0) = false := by simp; omega
                have HE := Lib.hid (HEnd.out _ _ _ _ _ HTa.out (tn_mono HN.out (by omega)) (Below.refl _ _))
                clear h8
                go_wp2_with fail
                (with_reducible refine (HJ8.out _).mono ?_)
                rintro e w9 ⟨rfl, rfl⟩
                go_wp2_with fail
                go_roundw
                case rel => exact HE.out
                case measure => have := HL.out.2; simp [intOf]; omega
            · have e0 : (dd == 0) = false := beq_eq_false_iff_ne.2 n0
              have e1 : (dd == 1) = false := beq_eq_false_iff_ne.2 n1
              have e2 : (dd == 2) = false := beq_eq_false_iff_ne.2 n2
              have e3 : (dd == 3) = false := beq_eq_false_iff_ne.2 n3
              have e4 : (dd == 4) = false := beq_eq_false_iff_ne.2 n4
              have e5 : (dd == 5) = false := beq_eq_false_iff_ne.2 n5
              clear n0 n1 n2 n3 n4 n5
              have hwr := u8_small48 j13 (by have := Hj13.out; omega)
              have hwr2 : IntKind.i64.wrap (48 + (j13 : Int)) = 48 + (j13 : Int) := IntWalk.i64_in _ (by have := Hj13.out; omega)
              have z1 := conv_at48 j13 (by have := Hj13.out; omega) ((wa.alloc (Obj.cells #[Value.string q, Value.string y] 9)).alloc (Obj.cells #[Value.int .u8 (48 + (j13 : Int))] 5)) (wa.heap.size + 1) (two_high wa _ _)
              obtain ⟨v, hv⟩ : ∃ v, v = UInt8.ofNat (48 + j13) := ⟨_, rfl⟩
              rw [← hv] at z1
              have ha1 := fun W => run_string_add_sum (P := Tryz.prog) (w := W) ⟨#[119]⟩ ⟨#[v]⟩ (by have : (ByteArray.mk #[v]).size = 1 := rfl; have : (ByteArray.mk #[119]).size = 1 := rfl; omega)
              obtain ⟨s2, hs2⟩ : ∃ x, x = (ByteArray.mk #[119]) ++ (ByteArray.mk #[v]) := ⟨_, rfl⟩
              have hs2z : Hid (SzT s2) := Lib.hid (by rw [hs2, SzT, ByteArray.size_append]; have : (ByteArray.mk #[v]).size = 1 := rfl; have : (ByteArray.mk #[119]).size = 1 := rfl; omega)
              rw [← hs2] at ha1
              clear hs2 hv
              go_wp2_with fail
              (with_reducible refine (HJ13.out _).mono ?_)
              rintro e w9 ⟨rfl, rfl⟩
              go_wp2_with fail
              (with_reducible refine (HV.out _ _).mono ?_)
              rintro e wv ⟨Av, nv, cv, rfl, hv, hbv⟩
              have hB1 : Below wa.heap.size wa wv := (((Below.refl _ _).alloc (Nat.le_refl _) _).alloc (by simp) _).trans (hbv.mono (by simp; omega))
              have HP := Lib.hid (put2_w (HTa.out.below hB1) Hsz.out ((hbv.block wa.heap.size (by simp; omega)).trans (two_low wa _ _)) hv)
              have HB1 := Lib.hid hB1
              clear hv hbv hB1
              go_wp2_with fail
              (with_reducible refine HP.out.mono ?_)
              rintro e wz ⟨Az, nz, cz, rfl, hok, hbz⟩
              have HE := Lib.hid (HEnd.out _ _ _ _ _ hok (tn_put2 HN.out Hq.out Hy.out hs2z.out) (HB1.out.trans (hbz.mono HB1.out.size)))
              clear hok hbz
              go_wp2_with fail
              go_roundw
              case rel => exact HE.out
              case measure => have := HL.out.2; simp [intOf]; omega
    · have hex : (k : Int) = 10 ∧ (10 : Int) < (n2 : Int) ∨ ¬ (k : Int) < (n2 : Int) := by omega
      have HN2 : Hid (Tn 430 u) := Lib.hid (tn_mono HN.out (by omega))
      clear hlt
      rcases hex with ⟨h1, h2⟩ | h1
      · obtain rfl : k = 10 := by omega
        clear h1
        go_wp2_with fail
        go_ret
        exact ⟨u, A', n', c', rfl, HT.out, HN2.out, HW.out⟩
      · go_wp2_with fail
        go_ret
        exact ⟨u, A', n', c', rfl, HT.out, HN2.out, HW.out⟩
end Go.Proofs.YtapgaglkkgbgkaaGreatDoor.In
