/- SchemaMany: the law's walk. No conditions. -/
import Derived.Test.YtagoeededpmdkaaScState
import Derived.IntWalk
namespace Go.Proofs.Ytagoeededpmdkaa.Sc
open Go.RowKit Go.Proofs.Ytagoeededpmdkaa.Nm
set_option maxRecDepth 100000

theorem tmod_pos4 {a n : Int} (hn : 0 < n) (h : 0 ≤ a.tmod n) : a.tmod n = a % n := by
  have h1 := Int.tmod_add_mul_tdiv a n
  have h2 := Int.tmod_lt_of_pos a hn
  conv => rhs; rw [← h1]
  rw [Int.add_mul_emod_self_left, Int.emod_eq_of_lt h h2]
theorem tmod_neg4 {a n : Int} (hn : 0 < n) (h : a.tmod n < 0) : a.tmod n + n = a % n := by
  have h1 := Int.tmod_add_mul_tdiv a n
  have h2 := Int.lt_tmod_of_pos a hn
  conv => rhs; rw [← h1]
  rw [Int.add_mul_emod_self_left, ← Int.add_emod_right, Int.emod_eq_of_lt (by omega) (by omega)]
set_option maxHeartbeats 400000 in
theorem within_any (a n : Int) (hn : 0 < n) (hn2 : n ≤ 2147483647) (ha : -9223372036854775808 ≤ a ∧ a ≤ 9223372036854775807) (w : World) : Calls Try.prog 51 #[.int .i64 a, .int .i64 n] w fun e w' => e = .returned (.int .i64 (a % n)) ∧ w = w' := by
  obtain ⟨hx1, hx2⟩ := ha
  have hm1 := Int.tmod_lt_of_pos a hn
  have hm2 := Int.lt_tmod_of_pos a hn
  by_cases h : a.tmod n < 0
  · have Hf := Lib.hid (tmod_neg4 hn h)
    go_enter Try.func51, Try.ntmps51
    go_wp2
    go_ret
    exact ⟨by rw [← Hf.out]; rfl, rfl⟩
  · have Hf := Lib.hid (tmod_pos4 hn (by omega : 0 ≤ a.tmod n))
    go_enter Try.func51, Try.ntmps51
    go_wp2
    go_ret
    exact ⟨by rw [← Hf.out]; rfl, rfl⟩
theorem within_nat (a : Int) (n : Nat) (hn : 0 < n) (hn2 : n ≤ 2147483647) (ha : -9223372036854775808 ≤ a ∧ a ≤ 9223372036854775807) : ∃ j : Nat, j < n ∧ ∀ w, Calls Try.prog 51 #[.int .i64 a, .int .i64 n] w fun e w' => e = .returned (.int .i64 j) ∧ w = w' := by
  refine ⟨(a % n).toNat, by have := Int.emod_lt_of_pos a (show (0 : Int) < n by omega); have := Int.emod_nonneg a (show (n : Int) ≠ 0 by omega); omega, fun w => ?_⟩
  rw [Int.toNat_of_nonneg (Int.emod_nonneg a (by omega))]
  exact within_any a n (by omega) (by omega) ha w

def fld (i k : Nat) : Fld := ⟨⟨false, [[UInt8.ofNat (97 + k)]]⟩, i, false⟩
def mfs (i m : Nat) : List Fld := (List.range m).map (fld i)
def ms (n m : Nat) : List Df := (List.range n).map fun i => ⟨mfs i m, false, false⟩
theorem mfs_succ (i k : Nat) : mfs i (k + 1) = mfs i k ++ [fld i k] := by simp [mfs, List.range_succ]
theorem ms_succ (n m : Nat) : ms (n + 1) m = ms n m ++ [⟨mfs n m, false, false⟩] := by simp [ms, List.range_succ]
theorem mfs_length (i m : Nat) : (mfs i m).length = m := by simp [mfs]
theorem ms_length (n m : Nat) : (ms n m).length = n := by simp [ms]

/-- The text of one byte. -/
theorem conv_one (j : Nat) (hj : j ≤ 100) (W : World) : (convert 30 9 (.slice (some ⟨W.heap.size, 0, none⟩) 1 1)).run Try.prog (W.alloc (Obj.cells #[Value.int .u8 (97 + (j : Int))] 5)) = .ok (.string ⟨#[UInt8.ofNat (97 + j)]⟩) (W.alloc (Obj.cells #[Value.int .u8 (97 + (j : Int))] 5)) := by
  have hb : byt (UInt8.ofNat (97 + j)) = Value.int .u8 (97 + (j : Int)) := by
    simp only [byt, UInt8.toNat_ofNat']
    congr 1
    omega
  have hs : Sees (W.alloc (Obj.cells #[Value.int .u8 (97 + (j : Int))] 5)) (W.heap.size + 1) (some ⟨W.heap.size, 0, none⟩) 1 [UInt8.ofNat (97 + j)] := by
    refine ⟨rfl, fun q u hu => ⟨_, rfl, Nat.lt_succ_self _, ?_⟩⟩
    cases q with
    | zero =>
      simp only [List.getElem?_cons_zero, Option.some.injEq] at hu
      subst hu
      rw [Addr.add_lit, cell_of_row _ _ _ _ _ _ (heap_alloc_new W _), hb]
      rfl
    | succ q => simp at hu
  exact run_text _ _ _ Try.underlying30 Try.underlying5 Try.underlying9 hs

theorem mfs_get {i m k : Nat} {f : Fld} (h : (mfs i m)[k]? = some f) : k < m ∧ f = fld i k := by
  have hk : k < m := by
    have := (List.getElem?_eq_some_iff.1 h).1
    rwa [mfs_length] at this
  refine ⟨hk, ?_⟩
  rw [mfs, List.getElem?_map, List.getElem?_range hk] at h
  exact (Option.some.inj h).symm
theorem ms_fit {n m : Nat} (_ : n ≤ 4096) (hm : m ≤ 4096) : FitS (ms n m) := by
  intro d hd
  simp only [ms, List.mem_map] at hd
  obtain ⟨i, _, rfl⟩ := hd
  refine ⟨by rw [mfs_length]; exact hm, fun f hf => ?_⟩
  simp only [mfs, List.mem_map] at hf
  obtain ⟨k, _, rfl⟩ := hf
  simp [fld]
theorem byte_ne {j k : Nat} (hj : j < 20) (hk : k < 20) (h : j ≠ k) : UInt8.ofNat (97 + j) ≠ UInt8.ofNat (97 + k) := by
  intro e
  have := congrArg UInt8.toNat e
  simp only [UInt8.toNat_ofNat'] at this
  omega
theorem mfs_ok {n i m : Nat} (hi : i < n) (hm : m ≤ 6) : fsC n [] (mfs i m) = 0 := by
  refine fsC_ok fun k f hf => ?_
  obtain ⟨hk, rfl⟩ := mfs_get hf
  refine fldC_ok (by simp [fld]) (by simp [fld]) ⟨by simp [fld], by simp only [fld]; omega⟩ (by simp [fld]) (fun g hg => ?_)
  obtain ⟨j, hj⟩ := List.getElem?_of_mem hg
  rw [List.getElem?_take] at hj
  split at hj
  · rename_i hjk
    obtain ⟨_, rfl⟩ := mfs_get hj
    refine twice_no (by simp [fld]) (fun x => ?_)
    simp only [St.mem, fld, List.mem_singleton, Bool.bne_false]
    rw [Bool.and_eq_false_iff]
    by_cases e : x = [UInt8.ofNat (97 + k)]
    · right
      rw [decide_eq_false_iff_not, e]
      intro e2
      injection e2 with e2 _
      exact byte_ne (by omega) (by omega) (by omega) e2
    · left
      exact decide_eq_false e
  · cases hj
theorem ms_ok {n m k : Nat} (hk : k = n) (hn : 10 ≤ n ∧ n ≤ 12) (hm : m ≤ 6) : chk (ms k m) = 0 := by
  subst hk
  unfold chk
  rw [ms_length, if_neg (by omega), if_neg (by omega)]
  refine dsC_ok fun d hd => ?_
  simp only [ms, List.mem_map, List.mem_range] at hd
  obtain ⟨i, hi, rfl⟩ := hd
  unfold dfC
  rw [mfs_length, if_neg (by omega)]
  exact mfs_ok hi hm
theorem ms_big {n m k : Nat} (hk : k = n) (hn : 10 ≤ n) (h : 12 < n ∨ 6 < m) : chk (ms k m) = 4 := by
  subst hk
  unfold chk
  rw [ms_length, if_neg (by omega)]
  by_cases h1 : 12 < k
  · rw [if_pos h1]
  · rw [if_neg h1]
    obtain ⟨q, rfl⟩ : ∃ q, k = q + 1 := ⟨k - 1, by omega⟩
    have : ms (q + 1) m = ⟨mfs 0 m, false, false⟩ :: (List.range q).map fun i => ⟨mfs (i + 1) m, false, false⟩ := by
      simp [ms, List.range_succ_eq_map]
    rw [this]
    have hd : dfC (q + 1) ⟨mfs 0 m, false, false⟩ = 4 := by
      unfold dfC
      rw [mfs_length, if_pos (by omega)]
    simp only [dsC]
    rw [hd]
    rfl

set_option maxHeartbeats 4000000 in
theorem many_walk (a b : Int) (w : World) (ha : -9223372036854775808 ≤ a ∧ a ≤ 9223372036854775807) (hb : -9223372036854775808 ≤ b ∧ b ≤ 9223372036854775807) :
    Calls Try.prog 14 #[.int .i64 a, .int .i64 b] w fun e w' => e = .returned (.bool true) ∧ Below w.heap.size w w' := by
  obtain ⟨n1, hn1, HN1'⟩ := within_nat a 5 (by omega) (by omega) ha
  obtain ⟨m1, hm1, HM1'⟩ := within_nat b 5 (by omega) (by omega) hb
  have HN : Hid (∀ w, Calls Try.prog 51 #[.int .i64 a, .int .i64 5] w fun e w' => e = .returned (.int .i64 n1) ∧ w = w') := Lib.hid HN1'
  have HM : Hid (∀ w, Calls Try.prog 51 #[.int .i64 b, .int .i64 5] w fun e w' => e = .returned (.int .i64 m1) ∧ w = w') := Lib.hid HM1'
  clear HN1' HM1'
  go_enter Try.func14, Try.ntmps14
  go_wp2_with fail
  (with_reducible refine (known_any _).mono ?_)
  rintro e w1 ⟨rfl, hb1⟩
  go_wp2_with fail
  (with_reducible refine (HN.out _).mono ?_)
  rintro e w2 ⟨rfl, rfl⟩
  go_wp2_with fail
  (with_reducible refine (HM.out _).mono ?_)
  rintro e w2 ⟨rfl, rfl⟩
  go_wp2_with fail
  go_loopw [5, 6] (fun v i wr => ∃ (k : Nat) (A : Option Addr) (c : Nat) (vs : List Value), k ≤ 10 + n1 ∧ i = .int .i64 k ∧ v = .slice A k c ∧ Dst w1.heap.size w1 wr A k c vs (ms k (4 + m1))) (fun _ i _ => 10 + n1 - (intOf i).toNat)
  case atStart => exact ⟨0, none, 0, [], by omega, rfl, rfl, ⟨World.ownsRow_nil _ _ _ _, trivial, Kin.nil _ _, Below.refl _ _, Nat.le_refl _⟩⟩
  case round =>
    obtain ⟨k, A, c, vs, hk, rfl, rfl, hDs⟩ := hrel
    obtain ⟨wo, rfl⟩ : ∃ wo : World, wo = wr := ⟨_, rfl⟩
    by_cases hlt : k < 10 + n1
    · have hkn : (k : Int) < 10 + (n1 : Int) := by omega
      have HDs := Lib.hid hDs
      clear hDs
      go_wp2_with fail
      go_loopw [8] (fun i wl => ∃ (j : Nat) (A2 : Option Addr) (c2 : Nat) (us : List Value), j ≤ 4 + m1 ∧ i = .int .i64 j ∧ Fst wo.heap.size (wo.heap.size + 1) wo.heap.size wo wl false false A2 j c2 us (mfs k j)) (fun i _ => 4 + m1 - (intOf i).toNat)
      case atStart => exact ⟨0, none, 0, [], by omega, rfl, ⟨heap_alloc_new wo _, World.ownsRow_nil _ _ _ _, trivial, Kin.nil _ _, (Below.refl _ _).alloc (Nat.le_refl _) _, by simp⟩⟩
      case round =>
        obtain ⟨j, A2, c2, us, hj, rfl, hFs⟩ := hrel
        obtain ⟨q0, q1, q2⟩ := box3 hFs.box
        have hle := hFs.le
        have hwl : wo.heap.size < wr.heap.size := by omega
        by_cases hlt2 : j < 4 + m1
        · have hjn : (j : Int) < 4 + (m1 : Int) := by omega
          have hj0 : (0 : Int) ≤ (j : Int) := by omega
          have hcv := fun W => conv_one j (by omega) W
          obtain ⟨x, hx⟩ : ∃ x : ByteArray, x = ⟨#[UInt8.ofNat (97 + j)]⟩ := ⟨_, rfl⟩
          rw [← hx] at hcv
          have hk0 : (0 : Int) ≤ (k : Int) := by omega
          obtain ⟨W3, hW3, g0, g1, g2, gs, gb⟩ := three wr (Obj.cells #[Value.int .u8 (97 + (j : Int))] 5) (Obj.cells #[Value.string x] 9) (Obj.cells #[Value.bool false, Value.slice (some ⟨wr.heap.size + 1, 0, none⟩) 1 1, Value.int .i64 (k : Int), Value.bool false] 83)
          have hF3 := hFs.below gb
          have hS3 : SeesV W3 W3.heap.size (some ⟨wr.heap.size + 1, 0, none⟩) 1 ((fld k j).n.l.map encs) := ⟨rfl, fun q u hu => by
            cases q with
            | zero =>
              simp only [fld, List.map_cons, List.getElem?_cons_zero, Option.some.injEq] at hu
              subst hu
              exact ⟨_, _, rfl, by omega, by rw [Nat.zero_add, box1 g1, hx]; rfl⟩
            | succ q => simp [fld] at hu⟩
          have hsrc : Src Try.prog 4 78 (.slice (some ⟨wr.heap.size + 1 + 1, 0, none⟩) 1 1) 1 [.bool false, .slice (some ⟨wr.heap.size + 1, 0, none⟩) 1 1, .int .i64 (k : Int), .bool false] W3 := by
            rw [hW3]
            exact src_blockE ((wr.alloc _).alloc _) _ _ _ Try.underlying78 4 _ _ rfl rfl (by simp [Value.oneCell']) _ (by simp)
          have hj46 : j + 1 ≤ 1099511627776 := by omega
          have HF3 := Lib.hid hF3
          have HS3 := Lib.hid hS3
          have HW3 := Lib.hid hW3
          have HSr := Lib.hid hsrc
          clear hx hFs hW3 g0 g1 g2 gs gb hF3 hS3 hsrc
          go_wp2_with (at_builtin; rw [← HW3.out]; refine wpList_append_rowK rfl (.tmp 28) (.tmp 38) _ _ rfl elem_field rfl rfl HF3.out.row HSr.out hj46 HF3.out.le.2.1 NoS HF3.out.kin HF3.out.fs.kinds (by intro u hu; simp at hu; rcases hu with rfl | rfl | rfl | rfl <;> exact fun s h => by cases h) zero_field ?_; intro A4 c4 w4 ho4 hg4 hat4 hk4; have hp := HF3.out.push (f := fld k j) HS3.out (by simp [maxLen]) (Nat.zero_le _) ho4 hg4 hk4; obtain ⟨q3, q4, q5⟩ := box3 hp.1; have hf4 : w4.frozen? ⟨wo.heap.size, 0, none⟩ = false := (by simp [World.frozen?, hp.1]); have HP := Lib.hid hp.2; clear hp ho4 hg4 hat4 hk4)
          go_roundw
          case rel => exact ⟨j + 1, A4, c4, _, by omega, by go_num, by rw [mfs_succ]; exact HP.out⟩
          case measure => simp [intOf]; omega
        · have hjn : 4 + (m1 : Int) ≤ (j : Int) := by omega
          have HJ : Hid (j = 4 + m1) := Lib.hid (by omega)
          obtain ⟨W4, hW4⟩ : ∃ W, W = wr.alloc (Obj.cells #[Value.slice A2 j c2, Value.bool false, Value.bool false] 80) := ⟨_, rfl⟩
          have hb4 : Below wr.heap.size wr W4 := by rw [hW4]; exact (Below.refl _ _).alloc (Nat.le_refl _) _
          have hF4 := (hFs.below hb4).made
          have hD4 := (HDs.out.below hFs.keep).below hb4
          have hsrc : Src Try.prog 3 72 (.slice (some ⟨wr.heap.size, 0, none⟩) 1 1) 1 [.slice A2 j c2, .bool false, .bool false] W4 := by
            rw [hW4]
            exact src_blockE wr _ _ _ Try.underlying72 3 _ _ rfl rfl (by simp [Value.oneCell']) _ rfl
          have hk46 : k + 1 ≤ 1099511627776 := by omega
          have HD4 := Lib.hid hD4
          have HF4 := Lib.hid hF4
          have HW4 := Lib.hid hW4
          have HSr := Lib.hid hsrc
          clear hFs hW4 hb4 hF4 hD4 hsrc hlt2
          go_wp2_with (at_builtin; rw [← HW4.out]; refine wpList_append_rowK rfl (.tmp 41) (.tmp 43) _ _ rfl elem_def rfl rfl HD4.out.row HSr.out hk46 HD4.out.le NoSI HD4.out.kin HD4.out.ds.kinds (by intro u hu; simp at hu; rcases hu with rfl | rfl | rfl <;> exact ⟨fun s h => (by cases h), fun k i h => (by cases h)⟩) zero_def ?_; intro A5 c5 w5 ho5 hg5 hat5 hk5; have hp := HD4.out.push (d := ⟨mfs k j, false, false⟩) HF4.out.1 HF4.out.2.1 HF4.out.2.2 ho5 hg5 hk5; have HP := Lib.hid hp; clear hp ho5 hg5 hat5 hk5)
          go_roundw
          case rel => exact ⟨k + 1, A5, c5, _, by omega, by go_num, rfl, by rw [ms_succ]; have h := HP.out; rw [show mfs k j = mfs k (4 + m1) by rw [HJ.out]] at h; exact h⟩
          case measure => simp [intOf]; omega
    · have hkn : 10 + (n1 : Int) ≤ (k : Int) := by omega
      have Hke : Hid (k = 10 + n1) := Lib.hid (by omega)
      have hm := hDs.made
      have HC := Lib.hid (check_any (ms k (4 + m1)) A k c wo.heap.size wo (Nat.le_refl _) hm.1 (ms_fit (by have := Hke.out; omega) (by omega)) (by omega))
      have HE := Lib.hid (fun W => check_any [] none 0 0 W.heap.size W (Nat.le_refl _) ⟨rfl, fun j d h => by simp at h⟩ (fun d hd => by cases hd) (by omega))
      rw [show chk [] = 2 from rfl] at HE
      have HB := Lib.hid (hb1.trans (hDs.keep.mono hb1.size))
      clear hDs hm hb1
      clear hlt
      by_cases hbig : 12 < 10 + n1 ∨ 6 < 4 + m1
      · have HV : Hid (chk (ms k (4 + m1)) = 4) := Lib.hid (ms_big Hke.out (by omega) hbig)
        rw [HV.out] at HC
        by_cases h1 : 12 < 10 + n1
        · have h1' : (12 : Int) < 10 + (n1 : Int) := by omega
          go_wp2_with fail
          (with_reducible refine HC.out.mono ?_)
          rintro e w2 ⟨rfl, hb2⟩
          go_wp2_with fail
          go_ret
          exact ⟨rfl, HB.out.trans (hb2.mono HB.out.size)⟩
        · have h1' : 10 + (n1 : Int) ≤ 12 := by omega
          have h2' : (6 : Int) < 4 + (m1 : Int) := by omega
          go_wp2_with fail
          (with_reducible refine HC.out.mono ?_)
          rintro e w2 ⟨rfl, hb2⟩
          go_wp2_with fail
          go_ret
          exact ⟨rfl, HB.out.trans (hb2.mono HB.out.size)⟩
      · have HV : Hid (chk (ms k (4 + m1)) = 0) := Lib.hid (ms_ok Hke.out (by omega) (by omega))
        rw [HV.out] at HC
        have h1' : 10 + (n1 : Int) ≤ 12 := by omega
        have h2' : 4 + (m1 : Int) ≤ 6 := by omega
        go_wp2_with fail
        (with_reducible refine HC.out.mono ?_)
        rintro e w2 ⟨rfl, hb2⟩
        go_wp2_with fail
        (with_reducible refine (HE.out _).mono ?_)
        rintro e w3 ⟨rfl, hb3⟩
        go_wp2_with fail
        go_ret
        have hb4 := hb2.trans (hb3.mono hb2.size)
        exact ⟨rfl, HB.out.trans (hb4.mono HB.out.size)⟩
end Go.Proofs.Ytagoeededpmdkaa.Sc
