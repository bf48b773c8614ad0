/- TreeBytes, walked. Conditions: fewer than 200 raw edges; at most 100 bytes more. -/
import Derived.Test.YtebiinjcegdmpaaTyMath
import Derived.Deep.CutRange
import Derived.Deep.RegionHeld3
namespace Go.Proofs.Ytebiinjcegdmpaa.Ps
open Go.RowKit Go.Proofs.Ytebiinjcegdmpaa.Jd Go.Proofs.Ytebiinjcegdmpaa.Cl Go.Proofs.Ytebiinjcegdmpaa.Pt
set_option maxRecDepth 100000

theorem cutText_le (s : ByteArray) : (cutText s).length ≤ 65535 := by
  unfold cutText
  simp only [List.length_take]
  omega
theorem kids_le : ∀ t : Tr, t.kids.length ≤ 65539 * t.size
  | .nil => Nat.zero_le _
  | .cons s k r => by
    have h1 := kids_le k
    have h2 := kids_le r
    have h3 : (textB s).length ≤ 65537 := by
      unfold textB
      rw [List.length_append, leB_length]
      have := cutText_le s
      omega
    simp only [Tr.kids, List.length_append, cnt_length, Tr.size]
    omega
theorem bin_le (t : Tr) : t.bin.length ≤ 2 + 65539 * t.size := by
  rw [Tr.bin, List.length_append, cnt_length]
  have := kids_le t
  omega
/-- A row of bytes. -/
structure Rwb where
  A : Option Addr
  n : Nat
  c : Nat
  l : List UInt8
structure RwOk (w : World) (x : Rwb) : Prop where
  sees : Sees w w.heap.size x.A x.n x.l
  cap : x.n ≤ x.c ∧ x.c ≤ maxLen
  few : x.n ≤ 1099511627776
theorem RwOk.below {w w' : World} {x : Rwb} (h : RwOk w x) (hb : Below w.heap.size w w') : RwOk w' x := ⟨(h.sees.below hb).more hb.size, h.cap, h.few⟩
theorem rwb_all {W : World} {g : Nat} {xs : List Rwb} (hx : ∀ x ∈ xs, RwOk W x) (hg : W.heap[g]? = some (.cells (xs.map fun x => Value.slice x.A x.n x.c).toArray 24 (0, 0))) :
    ∀ j, j < xs.length → ∃ x : Rwb, W.cell? ⟨g, j, none⟩ = some (.slice x.A x.n x.c) ∧ RwOk W x := by
  intro j hj
  refine ⟨xs[j], ?_, hx _ (List.getElem_mem hj)⟩
  rw [cell_of_row _ _ _ _ _ _ hg]
  simp [hj]
theorem own_lit0 (w : World) : Own (w.alloc (Obj.cells #[] 5)) w.heap.size (some ⟨w.heap.size, 0, none⟩) 0 0 [] := ⟨World.ownsRow_lit (base := w.heap.size) (e := 5) (size := 1) w #[] 0 (Nat.le_refl _) (Nat.zero_le _) rfl⟩
theorem sees_front {w : World} {B n j : Nat} {A : Option Addr} {l : List UInt8} (h : Sees w B A n l) (hj : j ≤ n) : Sees w B A j (l.take j) := by
  have hl := h.len
  refine ⟨by rw [List.length_take]; omega, fun q u hq => h.cell q u ?_⟩
  rw [List.getElem?_take] at hq
  split at hq
  · exact hq
  · cases hq

theorem mod_nat (x : Int) (n : Nat) (h : 0 < n) : ∃ j : Nat, x % (n : Int) = (j : Int) ∧ j < n := by
  have h1 := Int.emod_nonneg x (b := (n : Int)) (by omega)
  have h2 := Int.emod_lt_of_pos x (show (0 : Int) < (n : Int) by omega)
  generalize x % (n : Int) = e at h1 h2
  exact ⟨e.toNat, by omega, by omega⟩
theorem tdiv3_wf {x : Int} (h : (Lit.int .i64 x).wf = true) : (Lit.int .i64 (x.tdiv 3)).wf = true := by
  have h : -9223372036854775808 ≤ x ∧ x ≤ 9223372036854775807 := by simpa [Lit.wf, IntKind.min, IntKind.max, IntKind.signed, IntKind.bits] using h
  refine WalkArith.wf_i64 ?_
  rcases Int.le_total 0 x with h | h
  · rw [Int.tdiv_eq_ediv_of_nonneg h]; omega
  · have e : x.tdiv 3 = -((-x) / 3) := by
      rw [← Int.tdiv_eq_ediv_of_nonneg (by omega), Int.neg_tdiv, Int.neg_neg]
    rw [e]; omega

theorem tdiv3_wrap {x : Int} (h : (Lit.int .i64 x).wf = true) : wrap64 (x.tdiv 3) = x.tdiv 3 := by
  have h2 : -9223372036854775808 ≤ x.tdiv 3 ∧ x.tdiv 3 ≤ 9223372036854775807 := by simpa [Lit.wf, IntKind.min, IntKind.max, IntKind.signed, IntKind.bits] using tdiv3_wf h
  generalize x.tdiv 3 = y at h2
  unfold wrap64
  omega

set_option maxHeartbeats 8000000 in
theorem treeBytes_walk (r : Tr) (A : Option Addr) (n c : Nat) (Aa : Option Addr) (na ca : Nat) (la : List Int) (Ab : Option Addr) (nb cb : Nat) (lb : List UInt8) (a3 : Int) (Ar : Option Addr) (nr cr : Nat) (lr : List UInt8) (w : World)
    (h : Holds w w.heap.size A n r) (hc : n ≤ c) (hm : c ≤ maxLen) (hr : r.len ≤ 140737488351232 ∧ r.Fit) (ha : SeesV w w.heap.size Aa na (la.map (Value.int .i64)) ∧ ∀ x ∈ la, -9223372036854775808 ≤ x ∧ x ≤ 9223372036854775807) (hb : Sees w w.heap.size Ab nb lb) (hwf3 : (Lit.int .i64 a3).wf = true) (hrs : Sees w w.heap.size Ar nr lr) (hrc : nr ≤ cr) (hrm : cr ≤ maxLen) :
    Calls Try.prog 3 #[.slice A n c, .slice Aa na ca, .slice Ab nb cb, .int .i64 a3, .slice Ar nr cr] w fun e w' => e = .returned (.bool true) ∧ Below w.heap.size w w' := by
  have hK := known_any w
  have hn : n ≤ 140737488351232 := by rw [h.len]; exact hr.1
  have hF := fun (W : World) (hW : Below w.heap.size w W) => few_any r A n c w.heap.size W (h.below hW) hW.size hn (fit_low hr.2)
  by_cases hs : r.count n 200 < 200
  case neg =>
    rw [decide_eq_false hs] at hF
    have HF := Lib.hid hF
    clear hF hr h hs ha hb hrs hwf3
    go_enter Try.func3, Try.ntmps3
    go_wp2_with fail
    refine hK.mono ?_
    rintro e w1 ⟨rfl, hb1⟩
    go_wp2_with fail
    refine (HF.out w1 hb1).mono ?_
    rintro e _ ⟨rfl, rfl⟩
    go_wp2_with fail
    go_ret
    exact ⟨rfl, hb1⟩
  rw [decide_eq_true hs] at hF
  have HF := Lib.hid hF
  by_cases hnr : nr ≤ 100
  case neg =>
    have hnr' : (100 : Int) < (nr : Int) := by omega
    clear hF hr h hs ha hb hrs hwf3 hnr hrc
    go_enter Try.func3, Try.ntmps3
    go_wp2_with fail
    refine hK.mono ?_
    rintro e w1 ⟨rfl, hb1⟩
    go_wp2_with fail
    refine (HF.out w1 hb1).mono ?_
    rintro e _ ⟨rfl, rfl⟩
    go_wp2_with fail
    go_ret
    exact ⟨rfl, hb1⟩
  have hnr' : (nr : Int) ≤ 100 := by omega
  have HNr := Lib.hid hnr
  have hrz := few_yes h.len hs
  have hM := fun (W : World) (hW : Below w.heap.size w W) => make_any r.size r A n c w.heap.size 8 6 W (Nat.le_refl _) (h.below hW) hW.size hc hm (by omega) (by omega) (by omega) (by omega) (by omega)
  have hzt := makeT_size (8 : Int).toNat r (8 : Int).toNat (6 : Int).toNat .nil
  have hnt := makeT_neat (8 : Int).toNat r (8 : Int).toNat (6 : Int).toNat .nil trivial
  have hft := fault_make r (8 : Int).toNat (6 : Int).toNat (by decide) (by simp only [Tr.size] at hzt; omega)
  obtain ⟨t, ht⟩ : ∃ t, t = r.makeT (8 : Int).toNat (8 : Int).toNat (6 : Int).toNat .nil := ⟨_, rfl⟩
  rw [← ht] at hM hzt hnt hft
  simp only [Tr.size] at hzt
  have hz1 : t.size ≤ 200 := by omega
  have hls := t.len_size
  have hfit : Fit2 t := slim_fit (hnt.slim (by omega))
  have hbk := hnt.bulk
  have hbl := bin_len t hfit
  have hpp := psP_bin t (by omega) hfit
  rw [if_pos hft] at hpp
  have htl := neat_text hnt
  have HM := Lib.hid hM
  have HP := Lib.hid (fun (W : World) (hW : Below w.heap.size w W) => plain_any r.size r A n c w.heap.size W (Nat.le_refl _) (h.below hW) hW.size (by omega))
  have Hpp := Lib.hid hpp
  have Hrz := Lib.hid hrz
  have HA := Lib.hid ha
  have HB := Lib.hid hb
  have HRs := Lib.hid hrs
  have Hbl := Lib.hid hbl
  have Hbk := Lib.hid hbk
  have Htl := Lib.hid htl
  obtain ⟨ts, hts⟩ : ∃ ts : ByteArray, ts = ⟨t.text.toArray⟩ := ⟨_, rfl⟩
  obtain ⟨tb, htb⟩ : ∃ ts : ByteArray, ts = ⟨t.bin.toArray⟩ := ⟨_, rfl⟩
  have Hts := Lib.hid hts
  have Htb := Lib.hid htb
  have HC := Lib.hid (⟨hrc, hrm⟩ : nr ≤ cr ∧ cr ≤ maxLen)
  clear hF hM ht hzt hnt hft hls hbk hbl hpp htl hs hrz h hr ha hb hrs hts htb hrc hrm hnr
  go_enter Try.func3, Try.ntmps3
  go_wp2_with fail
  refine hK.mono ?_
  rintro e w1 ⟨rfl, hb1⟩
  go_wp2_with fail
  refine (HF.out w1 hb1).mono ?_
  rintro e _ ⟨rfl, rfl⟩
  go_wp2_with fail
  refine (HM.out w1 hb1).mono ?_
  rintro e w2 ⟨B, m, d, rfl, ht2, hmd, hdm, hb2⟩
  have hml : m = t.len := ht2.len
  have hb2' := hb1.trans (hb2.mono hb1.size)
  have HBy := Lib.hid (bytes_n B m d t w2 hml ht2 hmd hdm (by omega) (by have := Hbk.out; omega))
  have HT2 := Lib.hid ht2
  have Hml := Lib.hid hml
  clear ht2 hml hb2 hb1
  go_wp2_with fail
  (with_reducible refine HBy.out.mono ?_)
  rintro e w3 ⟨A3, N3, c3, rfl, ho3, hb3⟩
  have hN3 : N3 = t.bin.length := ho3.len
  have HN3 := Lib.hid hN3
  have HPa := Lib.hid (gparse_any N3 c3 A3 t.bin w3 ho3.sees (by rw [hN3]; have := Hbl.out; have := Hbk.out; omega))
  have HO3 := Lib.hid ho3
  have hs23 := hb3.size
  have hb3' := hb2'.trans (hb3.mono hb2'.size)
  have HT3 := Lib.hid ((HT2.out.below hb3).more hb3.size)
  clear ho3 hN3 hb3 hb2' HBy HT2
  go_wp2_with fail
  (with_reducible refine HPa.out.mono ?_)
  rintro e w4 ⟨A4, n4, c4, rfl, hh4, hc4, hcm4, hb4⟩
  rw [Hpp.out] at hh4
  have hp2 : (psP t.bin).2 = 0 := by rw [Hpp.out]
  have HX4 : Hid (Holds w4 w4.heap.size A4 n4 t) := Lib.hid (hh4.to (fun _ hb => hb.2))
  have HT4 := Lib.hid ((HT3.out.below hb4).more hb4.size)
  have HO4 : Hid (Own w4 w2.heap.size A3 N3 c3 t.bin) := Lib.hid (HO3.out.keep hb4)
  have hb4' := hb3'.trans (hb4.mono hb3'.size)
  have hs24 : w2.heap.size ≤ w4.heap.size := Nat.le_trans hs23 hb4.size
  rw [hp2]
  clear hh4 hc4 hcm4 hb4 hb3' hp2 HT3 HO3 HPa
  have HRB := Lib.hid (fun (W : World) (hW : Below w4.heap.size w4 W) => rbytes_any t.size t B m d W.heap.size W (Nat.le_refl _) ((HT4.out.below hW).more hW.size) (Nat.le_refl _) (by omega) (by have := Hbl.out; have := Hbk.out; omega))
  have HSm : Hid (∀ (W : World) (hW : Below w4.heap.size w4 W), Calls Try.prog 12 #[.slice A4 n4 c4, .slice B m d] W fun e w' => e = .returned (.bool true) ∧ Below W.heap.size W w') := by
    refine Lib.hid fun W hW => ?_
    have hl := t.len_size
    refine (rsame_any t.size t t A4 B n4 m c4 d W.heap.size W (Nat.le_refl _) ((HX4.out.below hW).more hW.size) ((HT4.out.below hW).more hW.size) (Nat.le_refl _) (by have := HX4.out.len; omega) (by have := Hml.out; omega) (low_size t (by omega)) (low_size t (by omega))).mono ?_
    rintro e w' ⟨rfl, q, rfl⟩
    exact ⟨by rw [same_refl], below_drewN (Below.refl _ _) q⟩
  have HTx : Hid (∀ (W : World) (hW : Below w4.heap.size w4 W), Calls Try.prog 13 #[.slice B m d] W fun e w' => e = .returned (.string ts) ∧ Below W.heap.size W w') := by
    rw [Hts.out]
    exact Lib.hid fun W hW => text_n B m d t W Hml.out ((HT4.out.below hW).more hW.size) hmd hdm (by omega) (by have := Hbk.out; omega)
  have HRT : Hid (∀ (W : World) (hW : Below w4.heap.size w4 W), Calls Try.prog 14 #[.slice B m d] W fun e w' => e = .returned (.string ts) ∧ Below W.heap.size W w') := by
    rw [Hts.out]
    refine Lib.hid fun W hW => (rtext_any t.size t B m d W.heap.size W (Nat.le_refl _) ((HT4.out.below hW).more hW.size) (Nat.le_refl _) (by omega) (by have := Htl.out; omega)).mono ?_
    rintro e w' ⟨rfl, q, rfl⟩
    exact ⟨rfl, below_drewN (Below.refl _ _) q⟩
  have HCv : Hid (∀ (W : World) (A : Option Addr) (N c base : Nat) (h : Own W base A N c t.bin), (convert 24 9 (.slice A N c)).run Try.prog W = .ok (.string tb) W) := by
    rw [Htb.out]
    exact Lib.hid fun W A N c base h => run_text 24 9 5 Try.underlying24 Try.underlying5 Try.underlying9 (c := c) h.sees
  clear HM HF hK
  go_upto_region 8 with (fail)
  go_cut [64] from 42 to 63 (fun v wx => v = .bool false ∧ Below w4.heap.size w4 wx)
  case first =>
    have hq0 : Below w4.heap.size w4 w4.drew := (Below.refl _ _).drew
    have cv0 : ∀ W : World, Below w4.heap.size w4 W → (convert 24 9 (.slice A3 N3 c3)).run Try.prog W = .ok (.string tb) W := fun W hW => HCv.out W A3 N3 c3 _ (HO4.out.keep hW)
    refine wp_region_noPanic (wp_region_held_drew (S := fun w' => Below w4.heap.size w4 w') (by kernel_rfl) hq0 (fun hS0 => ?_))
    refine wpAnyH_take (i := 0) (v := .slice A3 N3 c3) rfl (by kernel_rfl) (by kernel_rfl) (by kernel_rfl) (fun _ _ _ h => h) (Or.inl ⟨by rfl, ?_⟩) hS0 ?_
    · intro w' hSw
      clear hSw
      go_simp
    simp only [List.getElem_toArray, List.getElem_cons_zero, Act.put, List.setIfInBounds_toArray, List.set_cons_zero, List.set_cons_succ]
    refine wpAnyH_take (i := 1) (v := .string tb) rfl (by kernel_rfl) (by kernel_rfl) (by kernel_rfl) (fun _ _ _ h => h) (Or.inl ⟨by rfl, ?_⟩) hS0 ?_
    · intro w' hSw
      have hcv := cv0 w' hSw
      go_simp
    simp only [List.getElem_toArray, List.getElem_cons_succ, List.getElem_cons_zero, Act.put, List.setIfInBounds_toArray, List.set_cons_zero, List.set_cons_succ]
    refine wpAnyH_take (i := 2) (v := .slice B m d) rfl (by kernel_rfl) (by kernel_rfl) (by kernel_rfl) (fun _ _ _ h => h) (Or.inl ⟨by rfl, ?_⟩) hS0 ?_
    · intro w' hSw
      clear hSw
      go_simp
    simp only [List.getElem_toArray, List.getElem_cons_succ, List.getElem_cons_zero, Act.put, List.setIfInBounds_toArray, List.set_cons_zero, List.set_cons_succ]
    refine wpAnyH_ready (rs := [3]) (by kernel_rfl) (by simp) (AllReadyH.cons rfl (fun K hK => ?_) AllReadyH.nil)
    go_simp
    (with_reducible refine (HRB.out _ hq0).mono ?_)
    rintro e w5 ⟨A5, N5, c5, rfl, ho5, hg5⟩
    have hq5 := hq0.trans (hg5.mono hq0.size)
    have cx5 := HCv.out w5 A5 N5 c5 _ ho5
    clear ho5 hg5
    refine hK.out _ _ hq5 (fun hS0 => ?_)
    clear hK K
    refine wpAnyH_ready (rs := [4]) (by kernel_rfl) (by simp) (AllReadyH.cons rfl (fun K hK => ?_) AllReadyH.nil)
    go_simp
    refine hK.out _ _ hq5 (fun hS0 => ?_)
    clear hK K
    refine wpAnyH_take (i := 5) (v := .bool false) rfl (by kernel_rfl) (by kernel_rfl) (by kernel_rfl) (fun _ _ _ h => h) (Or.inl ⟨by rfl, ?_⟩) hS0 ?_
    · intro w' hSw
      clear hSw
      go_simp
    simp only [List.getElem_toArray, List.getElem_cons_succ, List.getElem_cons_zero, Act.put, List.setIfInBounds_toArray, List.set_cons_zero, List.set_cons_succ]
    refine wpAnyH_take (i := 6) (v := .bool false) rfl (by kernel_rfl) (by kernel_rfl) (by kernel_rfl) (fun _ _ _ h => h) (Or.inl ⟨by rfl, ?_⟩) hS0 ?_
    · intro w' hSw
      clear hSw
      go_simp
    simp only [List.getElem_toArray, List.getElem_cons_succ, List.getElem_cons_zero, Act.put, List.setIfInBounds_toArray, List.set_cons_zero, List.set_cons_succ]
    refine wpAnyH_take (i := 7) (v := .int .i64 0) rfl (by kernel_rfl) (by kernel_rfl) (by kernel_rfl) (fun _ _ _ h => h) (Or.inl ⟨by rfl, ?_⟩) hS0 ?_
    · intro w' hSw
      clear hSw
      go_simp
    simp only [List.getElem_toArray, List.getElem_cons_succ, List.getElem_cons_zero, Act.put, List.setIfInBounds_toArray, List.set_cons_zero, List.set_cons_succ]
    refine wpAnyH_take (i := 8) (v := .bool false) rfl (by kernel_rfl) (by kernel_rfl) (by kernel_rfl) (fun _ _ _ h => h) (Or.inl ⟨by rfl, ?_⟩) hS0 ?_
    · intro w' hSw
      clear hSw
      go_simp
    simp only [List.getElem_toArray, List.getElem_cons_succ, List.getElem_cons_zero, Act.put, List.setIfInBounds_toArray, List.set_cons_zero, List.set_cons_succ]
    refine wpAnyH_take (i := 9) (v := .bool false) rfl (by kernel_rfl) (by kernel_rfl) (by kernel_rfl) (fun _ _ _ h => h) (Or.inl ⟨by rfl, ?_⟩) hS0 ?_
    · intro w' hSw
      clear hSw
      go_simp
    simp only [List.getElem_toArray, List.getElem_cons_succ, List.getElem_cons_zero, Act.put, List.setIfInBounds_toArray, List.set_cons_zero, List.set_cons_succ]
    refine wpAnyH_take (i := 10) (v := .bool false) rfl (by kernel_rfl) (by kernel_rfl) (by kernel_rfl) (fun _ _ _ h => h) (Or.inl ⟨by rfl, ?_⟩) hS0 ?_
    · intro w' hSw
      clear hSw
      go_simp
    simp only [List.getElem_toArray, List.getElem_cons_succ, List.getElem_cons_zero, Act.put, List.setIfInBounds_toArray, List.set_cons_zero, List.set_cons_succ]
    refine wpAnyH_take (i := 11) (v := .slice A4 n4 c4) rfl (by kernel_rfl) (by kernel_rfl) (by kernel_rfl) (fun _ _ _ h => h) (Or.inl ⟨by rfl, ?_⟩) hS0 ?_
    · intro w' hSw
      clear hSw
      go_simp
    simp only [List.getElem_toArray, List.getElem_cons_succ, List.getElem_cons_zero, Act.put, List.setIfInBounds_toArray, List.set_cons_zero, List.set_cons_succ]
    refine wpAnyH_take (i := 12) (v := .slice B m d) rfl (by kernel_rfl) (by kernel_rfl) (by kernel_rfl) (fun _ _ _ h => h) (Or.inl ⟨by rfl, ?_⟩) hS0 ?_
    · intro w' hSw
      clear hSw
      go_simp
    simp only [List.getElem_toArray, List.getElem_cons_succ, List.getElem_cons_zero, Act.put, List.setIfInBounds_toArray, List.set_cons_zero, List.set_cons_succ]
    refine wpAnyH_ready (rs := [13]) (by kernel_rfl) (by simp) (AllReadyH.cons rfl (fun K hK => ?_) AllReadyH.nil)
    go_simp
    (with_reducible refine (HSm.out _ hq5).mono ?_)
    rintro e w6 ⟨rfl, hg6⟩
    have hq6 := hq5.trans (hg6.mono hq5.size)
    clear hg6
    refine hK.out _ _ hq6 (fun hS0 => ?_)
    clear hK K
    refine wpAnyH_take (i := 14) (v := .bool false) rfl (by kernel_rfl) (by kernel_rfl) (by kernel_rfl) (fun _ _ _ h => h) (Or.inl ⟨by rfl, ?_⟩) hS0 ?_
    · intro w' hSw
      clear hSw
      go_simp
    simp only [List.getElem_toArray, List.getElem_cons_succ, List.getElem_cons_zero, Act.put, List.setIfInBounds_toArray, List.set_cons_zero, List.set_cons_succ]
    refine wpAnyH_take (i := 15) (v := .bool false) rfl (by kernel_rfl) (by kernel_rfl) (by kernel_rfl) (fun _ _ _ h => h) (Or.inl ⟨by rfl, ?_⟩) hS0 ?_
    · intro w' hSw
      clear hSw
      go_simp
    simp only [List.getElem_toArray, List.getElem_cons_succ, List.getElem_cons_zero, Act.put, List.setIfInBounds_toArray, List.set_cons_zero, List.set_cons_succ]
    refine wpAnyH_take (i := 16) (v := .bool false) rfl (by kernel_rfl) (by kernel_rfl) (by kernel_rfl) (fun _ _ _ h => h) (Or.inl ⟨by rfl, ?_⟩) hS0 ?_
    · intro w' hSw
      clear hSw
      go_simp
    simp only [List.getElem_toArray, List.getElem_cons_succ, List.getElem_cons_zero, Act.put, List.setIfInBounds_toArray, List.set_cons_zero, List.set_cons_succ]
    refine wpAnyH_take (i := 17) (v := .slice B m d) rfl (by kernel_rfl) (by kernel_rfl) (by kernel_rfl) (fun _ _ _ h => h) (Or.inl ⟨by rfl, ?_⟩) hS0 ?_
    · intro w' hSw
      clear hSw
      go_simp
    simp only [List.getElem_toArray, List.getElem_cons_succ, List.getElem_cons_zero, Act.put, List.setIfInBounds_toArray, List.set_cons_zero, List.set_cons_succ]
    refine wpAnyH_take (i := 19) (v := .slice B m d) rfl (by kernel_rfl) (by kernel_rfl) (by kernel_rfl) (fun _ _ _ h => h) (Or.inl ⟨by rfl, ?_⟩) hS0 ?_
    · intro w' hSw
      clear hSw
      go_simp
    simp only [List.getElem_toArray, List.getElem_cons_succ, List.getElem_cons_zero, Act.put, List.setIfInBounds_toArray, List.set_cons_zero, List.set_cons_succ]
    refine wpAnyH_ready (rs := [18]) (by kernel_rfl) (by simp) (AllReadyH.cons rfl (fun K hK => ?_) AllReadyH.nil)
    go_simp
    (with_reducible refine (HTx.out _ hq6).mono ?_)
    rintro e w7 ⟨rfl, hg7⟩
    have hq7 := hq6.trans (hg7.mono hq6.size)
    clear hg7
    refine hK.out _ _ hq7 (fun hS0 => ?_)
    clear hK K
    refine wpAnyH_ready (rs := [20]) (by kernel_rfl) (by simp) (AllReadyH.cons rfl (fun K hK => ?_) AllReadyH.nil)
    go_simp
    (with_reducible refine (HRT.out _ hq7).mono ?_)
    rintro e w8 ⟨rfl, hg8⟩
    have hq8 := hq7.trans (hg8.mono hq7.size)
    clear hg8
    refine hK.out _ _ hq8 (fun hS0 => ?_)
    clear hK K
    refine wpAnyH_take (i := 21) (v := .bool false) rfl (by kernel_rfl) (by kernel_rfl) (by kernel_rfl) (fun _ _ _ h => h) (Or.inl ⟨by rfl, ?_⟩) hS0 ?_
    · intro w' hSw
      clear hSw
      go_simp
    simp only [List.getElem_toArray, List.getElem_cons_succ, List.getElem_cons_zero, Act.put, List.setIfInBounds_toArray, List.set_cons_zero, List.set_cons_succ]
    refine wpAnyH_take (i := 22) (v := .bool false) rfl (by kernel_rfl) (by kernel_rfl) (by kernel_rfl) (fun _ _ _ h => h) (Or.inl ⟨by rfl, ?_⟩) hS0 ?_
    · intro w' hSw
      clear hSw
      go_simp
    simp only [List.getElem_toArray, List.getElem_cons_succ, List.getElem_cons_zero, Act.put, List.setIfInBounds_toArray, List.set_cons_zero, List.set_cons_succ]
    refine wpAnyH_done (by kernel_rfl) ?_ _
    refine NoPanic.normal ?_
    go_wp2_with fail
    go_meet
    exact ⟨rfl, hq8⟩
  case rest =>
    obtain ⟨rfl, hbc⟩ := hcut
    obtain ⟨w5, rfl⟩ : ∃ w5 : World, w5 = wc := ⟨_, rfl⟩
    have hb5 := hb4'.trans (hbc.mono hb4'.size)
    have HT5 := Lib.hid ((HT4.out.below hbc).more hbc.size)
    have HO5 := Lib.hid (HO4.out.keep hbc)
    have hs25 : w2.heap.size ≤ w5.heap.size := Nat.le_trans hs24 hbc.size
    have ho0 := own_lit0 w5
    have hba : Below w5.heap.size w5 (w5.alloc (Obj.cells #[] 5)) := (Below.refl _ _).alloc (Nat.le_refl _) _
    have HRB5 := Lib.hid (HRB.out (w5.alloc (Obj.cells #[] 5)) (hbc.trans (hba.mono hbc.size)))
    have HO0 := Lib.hid ho0
    clear ho0 HRB HSm HTx HRT HCv HT4 HX4 HO4
    go_wp2_with fail
    (with_reducible refine HRB5.out.mono ?_)
    rintro e w6 ⟨A6, N6, c6, rfl, ho6, hb6⟩
    have ho06 := HO0.out.keep hb6
    have hN6 : N6 = t.bin.length := ho6.len
    have hs56 : w5.heap.size ≤ w6.heap.size := Nat.le_trans (by simp) hb6.size
    have hb56 : Below w5.heap.size w5 w6 := hba.trans (hb6.mono (by simp))
    have hq46 : 0 + N6 ≤ 70368744177664 := by rw [hN6]; have := Hbl.out; have := Hbk.out; omega
    have HO06 := Lib.hid ho06
    have HX6 := Lib.hid (From.sees (c := c6) ho6.sees)
    have HN6 := Lib.hid hN6
    clear ho06 ho6 hb6 hN6 HRB5 HO0
    go_wp2_with (at_builtin; refine wpList_append_from rfl (.tmp 65) (.tmp 67) _ rfl rfl rfl HO06.out HX6.out hq46 hs56 ?_; intro A7 N7 c7 w7 ho7 hg7 hat7)
    rw [List.nil_append] at ho7
    have hN7 : N7 = t.bin.length := ho7.len
    obtain ⟨g7, rfl, hg7b, hg7l, hg7f, _⟩ := own_addr ho7 (by rw [hN7]; have := Hbl.out; omega)
    have hb57 : Below w5.heap.size w5 w7 := hb56.trans ((Below.refl _ _).grown hg7 hs56 (fun q hq => (HO06.out.lt q hq).1))
    have hN2 : 2 ≤ N7 := by rw [hN7]; have := Hbl.out; omega
    have hNm : N7 ≤ 10000 := by rw [hN7]; have := Hbl.out; have := Hbk.out; omega
    have HN7 := Lib.hid hN7
    have HO7 := Lib.hid ho7
    have hb07 := hb5.trans (hb57.mono hb5.size)
    have hs05 := hb5.size
    clear ho7 hg7 hat7 hN7 hb56 hg7f HO06 HX6
    go_loopw [16] (fun i wr => ∃ (k : Nat) (l' : List UInt8), k ≤ 3 ∧ i = .int .i64 k ∧ Hid (Own wr w5.heap.size (some ⟨g7, 0, none⟩) N7 c7 l') ∧ Hid (Below w5.heap.size w7 wr)) (fun i _ => 3 - (intOf i).toNat)
    case atStart => exact ⟨0, _, Nat.zero_le _, rfl, HO7, Lib.hid (Below.refl _ _)⟩
    case round =>
      obtain ⟨k, l', hk, rfl, HOr, HBr⟩ := hrel
      go_upto_region 12 with (fail)
      go_cut [82] from 69 to 81 (fun v wx => v = .bool (decide (k < na ∧ k < nb ∧ k < 3)) ∧ wx = wr)
      case first =>
        by_cases h1 : k < na
        · have h1' : (k : Int) < (na : Int) := by omega
          by_cases h2 : k < nb
          · have h2' : (k : Int) < (nb : Int) := by omega
            by_cases h3 : k < 3
            · have h3' : (k : Int) < 3 := by omega
              have H := Lib.hid (decide_eq_true (p := k < na ∧ k < nb ∧ k < 3) ⟨h1, h2, h3⟩)
              clear h1 h2 h3
              go_wp2_with fail
              go_meet
              exact ⟨by rw [H.out], rfl⟩
            · have h3' : ¬ (k : Int) < 3 := by omega
              have H := Lib.hid (decide_eq_false (p := k < na ∧ k < nb ∧ k < 3) (fun q => h3 q.2.2))
              clear h1 h2 h3
              go_wp2_with fail
              go_meet
              exact ⟨by rw [H.out], rfl⟩
          · have h2' : ¬ (k : Int) < (nb : Int) := by omega
            have H := Lib.hid (decide_eq_false (p := k < na ∧ k < nb ∧ k < 3) (fun q => h2 q.2.1))
            clear h1 h2
            go_wp2_with fail
            go_meet
            exact ⟨by rw [H.out], rfl⟩
        · have h1' : ¬ (k : Int) < (na : Int) := by omega
          have H := Lib.hid (decide_eq_false (p := k < na ∧ k < nb ∧ k < 3) (fun q => h1 q.1))
          clear h1
          go_wp2_with fail
          go_meet
          exact ⟨by rw [H.out], rfl⟩
      case rest =>
        obtain ⟨rfl, hwx⟩ := hcut
        obtain rfl : wc = wr := hwx
        by_cases hgo : k < na ∧ k < nb ∧ k < 3
        · rw [decide_eq_true hgo]
          obtain ⟨h1, h2, h3⟩ := hgo
          have Hlt := Lib.hid h3
          have hbwr : Below w.heap.size w wc := hb07.trans (HBr.out.mono hs05)
          have hkl : k < la.length := by have := HA.out.1.len; simp at this; omega
          obtain ⟨x, hx⟩ : ∃ x, x = la[k] := ⟨_, rfl⟩
          obtain ⟨ba, oa, rfl, hba1, hca0⟩ := HA.out.1.cell k (.int .i64 x) (by rw [List.getElem?_map, List.getElem?_eq_getElem hkl, hx]; rfl)
          have hax := HA.out.2 x (by rw [hx]; exact List.getElem_mem _)
          obtain ⟨bb, ob, rfl, hbb1, hcb0⟩ := HB.out.at0 h2
          obtain ⟨z8, hz8⟩ : ∃ z, z = lb.getD k 0 := ⟨_, rfl⟩
          rw [← hz8] at hcb0
          have hwx := within_any x N7 (by omega) (by omega) (WalkArith.wf_i64 (by omega))
          obtain ⟨j, hj, hjl⟩ := mod_nat x N7 (by omega)
          rw [hj] at hwx
          obtain ⟨g7', hge, _, hg7r, hg7f, hg7c⟩ := own_addr HOr.out (by omega)
          obtain rfl : g7 = g7' := by injection hge with hge; injection hge with hge
          have hll := HOr.out.len
          obtain ⟨y8, hy8⟩ : ∃ y, y = l'[j]'(by omega) := ⟨_, rfl⟩
          have hcc0 := hg7c j y8 (by rw [hy8]; exact List.getElem?_eq_getElem (by omega))
          obtain ⟨yv, hyv⟩ : ∃ v : Int, v = (y8.toNat : Int) := ⟨_, rfl⟩
          obtain ⟨zv, hzv⟩ : ∃ v : Int, v = (z8.toNat : Int) := ⟨_, rfl⟩
          obtain ⟨sv, hsv⟩ : ∃ v : Int, v = ((y8 + z8).toNat : Int) := ⟨_, rfl⟩
          have hsum : IntKind.u8.wrap (yv + zv) = sv := by
            rw [IntKind.wrap_u8, hyv, hzv, hsv, UInt8.toNat_add]
            omega
          have hbyt : byt y8 = .int .u8 yv := by rw [hyv]; rfl
          rw [hbyt] at hcc0
          rw [← hzv] at hcb0
          have hca : wc.drew.cell? ⟨ba, oa + k, none⟩ = some (.int .i64 x) := (hbwr.cell (p := ⟨ba, oa + k, none⟩) hba1).trans hca0
          have hcb : wc.drew.cell? ⟨bb, ob + k, none⟩ = some (.int .u8 zv) := (hbwr.cell (p := ⟨bb, ob + k, none⟩) hbb1).trans hcb0
          have hcc : wc.drew.cell? ⟨g7, j, none⟩ = some (.int .u8 yv) := hcc0
          have hff : wc.drew.frozen? ⟨g7, j, none⟩ = false := hg7f j
          have hS00 : wc.drew.cell? ⟨ba, oa + k, none⟩ = some (.int .i64 x) ∧ wc.drew.cell? ⟨bb, ob + k, none⟩ = some (.int .u8 zv) := ⟨hca, hcb⟩
          have hg7a : ba ≠ g7 := by have := hb07.size; omega
          have hg7bb : bb ≠ g7 := by omega
          have hS16 : (wc.drew.setCell ⟨g7, j, none⟩ (.int .u8 sv)).cell? ⟨ba, oa + k, none⟩ = some (.int .i64 x) ∧ (wc.drew.setCell ⟨g7, j, none⟩ (.int .u8 sv)).cell? ⟨bb, ob + k, none⟩ = some (.int .u8 zv) :=
            ⟨(World.cell?_setCell_far _ _ _ _ (by simp only [ne_eq]; omega)).trans hca, (World.cell?_setCell_far _ _ _ _ (by simp only [ne_eq]; omega)).trans hcb⟩
          have HO2 : Hid (Own (wc.drew.setCell ⟨g7, j, none⟩ (.int .u8 sv)) w5.heap.size (some ⟨g7, 0, none⟩) N7 c7 (l'.set j (y8 + z8))) := Lib.hid (own_set HOr.out.drew (y8 + z8) (by rw [hsv]; rfl))
          have HB2 : Hid (Below w5.heap.size w7 (wc.drew.setCell ⟨g7, j, none⟩ (.int .u8 sv))) := Lib.hid (HBr.out.drew.setCell (by simpa using hg7b) _)
          have HWi := Lib.hid hwx
          have h1' : (k : Int) < (na : Int) := by omega
          have h2' : (k : Int) < (nb : Int) := by omega
          have hk0 : (0 : Int) ≤ (k : Int) := by omega
          have hj0 : (0 : Int) ≤ (j : Int) := by omega
          have hjl' : (j : Int) < (N7 : Int) := by omega
          clear h1 h2 h3 hbyt hyv hzv hsv hy8 hll hg7c hg7f hwx hj hz8 hx hax hkl hca0 hcb0 hcc0 hge
          go_upto_region 14 with (fail)
          refine wp_region_noPanic (wp_region_held_drew (S := fun W => W.cell? ⟨ba, oa + k, none⟩ = some (.int .i64 x) ∧ W.cell? ⟨bb, ob + k, none⟩ = some (.int .u8 zv)) (by kernel_rfl) hS00 (fun hS0 => ?_))
          refine wpAnyH_take (i := 0) (v := .slice (some ⟨g7, 0, none⟩) N7 c7) rfl (by kernel_rfl) (by kernel_rfl) (by kernel_rfl) (fun _ _ _ h => h) (Or.inl ⟨by rfl, ?_⟩) hS0 ?_
          · intro w' hSw
            clear hSw
            go_simp
          simp only [List.getElem_toArray, List.getElem_cons_zero, Act.put, List.setIfInBounds_toArray, List.set_cons_zero, List.set_cons_succ]
          refine wpAnyH_take (i := 1) (v := .slice (some ⟨ba, oa, none⟩) na ca) rfl (by kernel_rfl) (by kernel_rfl) (by kernel_rfl) (fun _ _ _ h => h) (Or.inl ⟨by rfl, ?_⟩) hS0 ?_
          · intro w' hSw
            clear hSw
            go_simp
          simp only [List.getElem_toArray, List.getElem_cons_succ, List.getElem_cons_zero, Act.put, List.setIfInBounds_toArray, List.set_cons_zero, List.set_cons_succ]
          refine wpAnyH_take (i := 2) (v := .int .i64 k) rfl (by kernel_rfl) (by kernel_rfl) (by kernel_rfl) (fun _ _ _ h => h) (Or.inl ⟨by rfl, ?_⟩) hS0 ?_
          · intro w' hSw
            clear hSw
            go_simp
          simp only [List.getElem_toArray, List.getElem_cons_succ, List.getElem_cons_zero, Act.put, List.setIfInBounds_toArray, List.set_cons_zero, List.set_cons_succ]
          refine wpAnyH_take (i := 3) (v := .pointer (some ⟨ba, oa + k, none⟩)) rfl (by kernel_rfl) (by kernel_rfl) (by kernel_rfl) (fun _ _ _ h => h) (Or.inl ⟨by rfl, ?_⟩) hS0 ?_
          · intro w' hSw
            clear hSw
            go_simp
          simp only [List.getElem_toArray, List.getElem_cons_succ, List.getElem_cons_zero, Act.put, List.setIfInBounds_toArray, List.set_cons_zero, List.set_cons_succ]
          refine wpAnyH_take (i := 4) (v := .int .i64 x) rfl (by kernel_rfl) (by kernel_rfl) (by kernel_rfl) (fun _ _ _ h => h) (Or.inl ⟨by rfl, ?_⟩) hS0 ?_
          · intro w' hSw
            obtain ⟨q1, q2⟩ := hSw
            go_simp
          simp only [List.getElem_toArray, List.getElem_cons_succ, List.getElem_cons_zero, Act.put, List.setIfInBounds_toArray, List.set_cons_zero, List.set_cons_succ]
          refine wpAnyH_take (i := 5) (v := .slice (some ⟨g7, 0, none⟩) N7 c7) rfl (by kernel_rfl) (by kernel_rfl) (by kernel_rfl) (fun _ _ _ h => h) (Or.inl ⟨by rfl, ?_⟩) hS0 ?_
          · intro w' hSw
            clear hSw
            go_simp
          simp only [List.getElem_toArray, List.getElem_cons_succ, List.getElem_cons_zero, Act.put, List.setIfInBounds_toArray, List.set_cons_zero, List.set_cons_succ]
          refine wpAnyH_take (i := 6) (v := .int .i64 N7) rfl (by kernel_rfl) (by kernel_rfl) (by kernel_rfl) (fun _ _ _ h => h) (Or.inl ⟨by rfl, ?_⟩) hS0 ?_
          · intro w' hSw
            clear hSw
            go_simp
          simp only [List.getElem_toArray, List.getElem_cons_succ, List.getElem_cons_zero, Act.put, List.setIfInBounds_toArray, List.set_cons_zero, List.set_cons_succ]
          refine wpAnyH_take (i := 10) (v := .slice (some ⟨bb, ob, none⟩) nb cb) rfl (by kernel_rfl) (by kernel_rfl) (by kernel_rfl) (fun _ _ _ h => h) (Or.inl ⟨by rfl, ?_⟩) hS0 ?_
          · intro w' hSw
            clear hSw
            go_simp
          simp only [List.getElem_toArray, List.getElem_cons_succ, List.getElem_cons_zero, Act.put, List.setIfInBounds_toArray, List.set_cons_zero, List.set_cons_succ]
          refine wpAnyH_take (i := 11) (v := .int .i64 k) rfl (by kernel_rfl) (by kernel_rfl) (by kernel_rfl) (fun _ _ _ h => h) (Or.inl ⟨by rfl, ?_⟩) hS0 ?_
          · intro w' hSw
            clear hSw
            go_simp
          simp only [List.getElem_toArray, List.getElem_cons_succ, List.getElem_cons_zero, Act.put, List.setIfInBounds_toArray, List.set_cons_zero, List.set_cons_succ]
          refine wpAnyH_take (i := 12) (v := .pointer (some ⟨bb, ob + k, none⟩)) rfl (by kernel_rfl) (by kernel_rfl) (by kernel_rfl) (fun _ _ _ h => h) (Or.inl ⟨by rfl, ?_⟩) hS0 ?_
          · intro w' hSw
            clear hSw
            go_simp
          simp only [List.getElem_toArray, List.getElem_cons_succ, List.getElem_cons_zero, Act.put, List.setIfInBounds_toArray, List.set_cons_zero, List.set_cons_succ]
          refine wpAnyH_take (i := 13) (v := .int .u8 zv) rfl (by kernel_rfl) (by kernel_rfl) (by kernel_rfl) (fun _ _ _ h => h) (Or.inl ⟨by rfl, ?_⟩) hS0 ?_
          · intro w' hSw
            obtain ⟨q1, q2⟩ := hSw
            go_simp
          simp only [List.getElem_toArray, List.getElem_cons_succ, List.getElem_cons_zero, Act.put, List.setIfInBounds_toArray, List.set_cons_zero, List.set_cons_succ]
          refine wpAnyH_ready (rs := [7]) (by kernel_rfl) (by simp) (AllReadyH.cons rfl (fun K hK => ?_) AllReadyH.nil)
          go_simp
          (with_reducible refine (HWi.out _).mono ?_)
          rintro e _ ⟨rfl, rfl⟩
          refine hK.out _ _ hS00 (fun hS0 => ?_)
          clear hK K
          refine wpAnyH_take (i := 8) (v := .pointer (some ⟨g7, j, none⟩)) rfl (by kernel_rfl) (by kernel_rfl) (by kernel_rfl) (fun _ _ _ h => h) (Or.inl ⟨by rfl, ?_⟩) hS0 ?_
          · intro w' hSw
            clear hSw
            go_simp
          simp only [List.getElem_toArray, List.getElem_cons_succ, List.getElem_cons_zero, Act.put, List.setIfInBounds_toArray, List.set_cons_zero, List.set_cons_succ]
          refine wpAnyH_ready (rs := [9]) (by kernel_rfl) (by simp) (AllReadyH.cons rfl (fun K hK => ?_) AllReadyH.nil)
          go_simp
          refine hK.out _ _ hS00 (fun hS0 => ?_)
          clear hK K
          refine wpAnyH_take (i := 14) (v := .int .u8 sv) rfl (by kernel_rfl) (by kernel_rfl) (by kernel_rfl) (fun _ _ _ h => h) (Or.inl ⟨by rfl, ?_⟩) hS0 ?_
          · intro w' hSw
            clear hSw
            go_simp
          simp only [List.getElem_toArray, List.getElem_cons_succ, List.getElem_cons_zero, Act.put, List.setIfInBounds_toArray, List.set_cons_zero, List.set_cons_succ]
          refine wpAnyH_take (i := 15) (v := .pointer (some ⟨g7, j, none⟩)) rfl (by kernel_rfl) (by kernel_rfl) (by kernel_rfl) (fun _ _ _ h => h) (Or.inl ⟨by rfl, ?_⟩) hS0 ?_
          · intro w' hSw
            clear hSw
            go_simp
          simp only [List.getElem_toArray, List.getElem_cons_succ, List.getElem_cons_zero, Act.put, List.setIfInBounds_toArray, List.set_cons_zero, List.set_cons_succ]
          refine wpAnyH_ready (rs := [16]) (by kernel_rfl) (by simp) (AllReadyH.cons rfl (fun K hK => ?_) AllReadyH.nil)
          go_simp
          refine hK.out _ _ hS16 (fun hS0 => ?_)
          clear hK K
          refine wpAnyH_done (by kernel_rfl) ?_ _
          refine NoPanic.normal ?_
          go_wp2_with fail
          go_roundw
          case rel => exact ⟨k + 1, _, Hlt.out, by go_num, HO2, HB2⟩
          case measure => have := Hlt.out; simp [intOf]; omega
        · rw [decide_eq_false hgo]
          clear hgo hk
          have Hw8 : Hid (Below w.heap.size w wc) := Lib.hid (hb07.trans (HBr.out.mono hs05))
          have hl7 := HOr.out.len
          have HS7 : Hid (Sees wc wc.heap.size (some ⟨g7, 0, none⟩) N7 l' ∧ N7 ≤ c7 ∧ c7 ≤ maxLen) := Lib.hid ⟨HOr.out.sees, HOr.out.cap⟩
          have hb5c : Below w5.heap.size w5 wc := hb57.trans HBr.out
          have HO3c := Lib.hid (HO5.out.keep hb5c)
          have hwd := within_any (a3.tdiv 3) ((N7 + 1 : Nat) : Int) (by omega) (by omega) (tdiv3_wf hwf3)
          obtain ⟨j, hj, hjl⟩ := mod_nat (a3.tdiv 3) (N7 + 1) (by omega)
          rw [hj, show ((N7 + 1 : Nat) : Int) = (N7 : Int) + 1 by omega] at hwd
          have HWd := Lib.hid hwd
          have hjN : j ≤ N7 := by omega
          have HZ1 := Lib.hid hz1
          have HNm := Lib.hid hNm
          clear hwd hj hjl hl7 HOr HBr hb5c HO5 hc hm hn hz1 hfit hmd hdm hs23 hs24 hs25 hs56 hq46 hN2 hg7b hg7l hs05 hb07 hb57 hbc hb5 hb4' hnr' hNm HT5 HN7 HN6
          by_cases hcut : a3.tmod 3 = 1
          · have hcutb : (a3.tmod 3 == 1) = true := by simpa using hcut
            have hwt := tdiv3_wrap hwf3
            have hw1 : wrap64 ((N7 : Int) + 1) = (N7 : Int) + 1 := by have := HNm.out; unfold wrap64; omega
            have hj0 : (0 : Int) ≤ (j : Int) := by omega
            have hjc : (j : Int) ≤ (c7 : Int) := Int.ofNat_le.2 (Nat.le_trans hjN HS7.out.2.1)
            have HR1 : Hid (RwOk wc ⟨some ⟨g7, 0, none⟩, j, c7, l'.take j⟩) := Lib.hid ⟨sees_front HS7.out.1 hjN, ⟨Nat.le_trans hjN HS7.out.2.1, HS7.out.2.2⟩, Nat.le_trans (Nat.le_trans hjN HNm.out) (by decide)⟩
            clear hcut
            go_wp2_with fail
            (with_reducible refine (HWd.out _).mono ?_)
            rintro e _ ⟨rfl, rfl⟩
            have ho0 := own_lit0 wc
            have hba : Below wc.heap.size wc (wc.alloc (Obj.cells #[] 5)) := (Below.refl _ _).alloc (Nat.le_refl _) _
            have hx8 := From.sees (c := c3) (HO3c.out.keep hba).sees
            have hq8 : 0 + N3 ≤ 70368744177664 := by rw [HN3.out]; have := Hbl.out; have := Hbk.out; have := HZ1.out; omega
            have hbwa := Hw8.out.trans (hba.mono Hw8.out.size)
            have hwa1 : wc.heap.size ≤ (wc.alloc (Obj.cells #[] 5)).heap.size := by simp
            have Hbwa := Lib.hid hbwa
            have HO0 := Lib.hid ho0
            have HX8 := Lib.hid hx8
            have Hba := Lib.hid hba
            clear ho0 hx8 hbwa hba
            go_wp2_with (at_builtin; first
              | (refine wpList_append_from rfl (.tmp 113) (.tmp 114) _ rfl rfl rfl HO0.out HX8.out hq8 hwa1 ?_; intro A8 N8 c8 w8 ho8 hg8 hat8; have hN8 : N8 + nr ≤ 70368744177664 := (by have := ho8.len; rw [List.nil_append] at this; rw [this]; have := HNr.out; have := Hbl.out; have := Hbk.out; have := HZ1.out; omega); have hb8 : Below wc.heap.size wc w8 := Hba.out.grown hg8 hwa1 (fun q hq => (HO0.out.lt q hq).1); have hz8 := hb8.size; have HB8 := Lib.hid hb8; have HO8 := Lib.hid ho8; have HX9 := Lib.hid (From.sees (c := cr) (HRs.out.below (Hw8.out.trans (hb8.mono Hw8.out.size)))); clear hb8 ho8 hg8 hat8)
              | (refine wpList_append_from rfl (.tmp 115) (.tmp 116) _ rfl rfl rfl HO8.out HX9.out hN8 hz8 ?_; intro A9 N9 c9 w9 ho9 hg9 hat9; have hb9 : Below wc.heap.size wc w9 := HB8.out.grown hg9 hz8 (fun q hq => (HO8.out.lt q hq).1); have HB9 := Lib.hid hb9; have HO9 := Lib.hid ho9; clear hb9 ho9 hg9 hat9))
            have hbw9 := Hw8.out.trans (HB9.out.mono Hw8.out.size)
            have HP9 := Lib.hid (HP.out w9 hbw9)
            have Hbw9 := Lib.hid hbw9
            clear hbw9
            (with_reducible refine HP9.out.mono ?_)
            rintro e w10 ⟨A10, c10, vs10, rfl, hE10, hb10⟩
            have HB10 := Lib.hid hb10
            have HRB10 := Lib.hid (rbytes_any r.size r A10 n c10 w10.heap.size w10 (Nat.le_refl _) (hE10.holds (Nat.le_refl _)) (Nat.le_refl _) (by have := Hrz.out; omega) (by have := bin_le r; have := Hrz.out; omega))
            clear hb10 hE10
            go_wp2_with fail
            (with_reducible refine HRB10.out.mono ?_)
            rintro e w11 ⟨A11, N11, c11, rfl, ho11, hb11⟩
            have hb911 : Below w9.heap.size w9 w11 := HB10.out.trans (hb11.mono HB10.out.size)
            have hN11 : N11 ≤ 1099511627776 := by have := ho11.len; have := bin_le r; have := Hrz.out; omega
            have hN9 : N9 ≤ 1099511627776 := by have := HO9.out.len; rw [List.nil_append, List.length_append] at this; have := HRs.out.len; have := HNr.out; have := Hbl.out; have := Hbk.out; have := HZ1.out; omega
            have hnr9 : nr ≤ 100 := HNr.out
            have HB911 := Lib.hid hb911
            have HO11 := Lib.hid ho11
            clear hb11 ho11 hb911 HRB10
            go_wp2_with fail
            obtain ⟨WR, hWR⟩ : ∃ W, W = w11.alloc (Obj.cells #[.slice (some ⟨g7, 0, none⟩) j c7, .slice A9 N9 c9, .slice Ar nr cr, .slice A11 N11 c11] 24) := ⟨_, rfl⟩
            have hgR : WR.heap[w11.heap.size]? = some (Obj.cells #[.slice (some ⟨g7, 0, none⟩) j c7, .slice A9 N9 c9, .slice Ar nr cr, .slice A11 N11 c11] 24) := by rw [hWR]; exact heap_alloc_new w11 _
            have hbR : Below w11.heap.size w11 WR := by rw [hWR]; exact (Below.refl _ _).alloc (Nat.le_refl _) _
            rw [← hWR]
            have hb9R : Below w9.heap.size w9 WR := HB911.out.trans (hbR.mono HB911.out.size)
            have hbcR : Below wc.heap.size wc WR := HB9.out.trans (hb9R.mono HB9.out.size)
            have hbwR : Below w.heap.size w WR := Hw8.out.trans (hbcR.mono Hw8.out.size)
            have hall := rwb_all (W := WR) (g := w11.heap.size) (xs := [⟨(some ⟨g7, 0, none⟩), j, c7, (l'.take j)⟩, ⟨A9, N9, c9, [] ++ t.bin ++ lr⟩, ⟨Ar, nr, cr, lr⟩, ⟨A11, N11, c11, r.bin⟩]) (by
              intro x hx
              simp only [List.mem_cons, List.not_mem_nil, or_false] at hx
              rcases hx with rfl | rfl | rfl | rfl
              · exact HR1.out.below hbcR
              · exact RwOk.below (w := w9) ⟨HO9.out.sees, HO9.out.cap, hN9⟩ hb9R
              · exact RwOk.below (w := w) ⟨HRs.out, HC.out, Nat.le_trans HNr.out (by decide)⟩ hbwR
              · exact RwOk.below (w := w11) ⟨HO11.out.sees, HO11.out.cap, hN11⟩ hbR) hgR
            have Hall := Lib.hid hall
            have HbwR := Lib.hid hbwR
            have hgRl : w11.heap.size < WR.heap.size := (Array.getElem?_eq_some_iff.1 hgR).1
            obtain ⟨gR, hgRe⟩ : ∃ g, g = w11.heap.size := ⟨_, rfl⟩
            rw [← hgRe] at hgRl Hall ⊢
            clear hall hWR hgR hbR hb9R hbcR hbwR hgRe
            go_loopw [18] (fun i wr => ∃ (q : Nat), q ≤ 4 ∧ i = .int .i64 q ∧ Hid (Below WR.heap.size WR wr)) (fun i _ => 4 - (intOf i).toNat)
            case atStart => exact ⟨0, Nat.zero_le _, rfl, Lib.hid (Below.refl _ _)⟩
            case round =>
              obtain ⟨q, hq, rfl, Hbl2⟩ := hrel
              by_cases hlq : q < 4
              · obtain ⟨⟨xa, xn, xc, xl⟩, hcx, hokx⟩ := Hall.out q (by simpa using hlq)
                simp only at hcx
                have hq4 : (q : Int) < 4 := by omega
                have hq0 : (0 : Int) ≤ (q : Int) := by omega
                have hba2 : Below wr.heap.size wr (wr.alloc (Obj.cells #[] 5)) := (Below.refl _ _).alloc (Nat.le_refl _) _
                have hbR2 : Below WR.heap.size WR (wr.alloc (Obj.cells #[] 5)) := Hbl2.out.trans (hba2.mono Hbl2.out.size)
                have hc2 := (hbR2.cell (p := ⟨gR, q, none⟩) hgRl).trans hcx
                have hok2 := hokx.below hbR2
                have hx2 := From.sees (c := xc) hok2.sees
                have hxn : 0 + xn ≤ 70368744177664 := by have := hokx.few; simp only at this; omega
                have HOa := Lib.hid (own_lit0 wr)
                have HXa := Lib.hid hx2
                have Hlq := Lib.hid hlq
                have Hcx := Lib.hid hcx
                have HRo := Lib.hid hokx
                have HbR2 := Lib.hid hbR2
                have hwl1 : wr.heap.size ≤ (wr.alloc (Obj.cells #[] 5)).heap.size := by simp
                have hwl2 := Hbl2.out.size
                clear hx2 hok2 hokx hcx hlq hba2 hbR2
                go_wp2_with (at_builtin; refine wpList_append_from rfl (.tmp 128) (.tmp 132) _ rfl rfl rfl HOa.out HXa.out hxn hwl1 ?_; intro AA NA cA wA hoA hgA hatA)
                rw [List.nil_append] at hoA
                have hbA : Below WR.heap.size WR wA := HbR2.out.grown hgA (Nat.le_trans hwl2 hwl1) (fun q hq => Nat.le_trans hwl2 (HOa.out.lt q hq).1)
                have HPa := Lib.hid (gparse_any NA cA AA xl wA hoA.sees (by have := hoA.len; have := HRo.out.few; have := HRo.out.sees.len; simp only at *; omega))
                have HbA := Lib.hid hbA
                obtain ⟨pt, pe, hp⟩ : ∃ a b, psP xl = (a, b) := ⟨_, _, rfl⟩
                have hps := psP_size xl
                rw [hp] at HPa hps
                simp only at hps
                have HRp := Lib.hid (fun (W : World) (hW : Below WR.heap.size WR W) => rparse_any xn xc xa xl W (HRo.out.below hW).sees (HRo.out.cap).1 (HRo.out.cap).2)
                rw [hp] at HRp
                have hpe : (pe != pe) = false := by simp
                clear hp hoA hgA hatA hbA HOa HXa
                (with_reducible refine HPa.out.mono ?_)
                rintro e wB ⟨A12, n12, c12, rfl, hh12, hn12, hc12, hb12⟩
                have hbB : Below WR.heap.size WR wB := HbA.out.trans (hb12.mono HbA.out.size)
                have hcB := (hbB.cell (p := ⟨gR, q, none⟩) hgRl).trans Hcx.out
                have HH12 := Lib.hid (hh12.to (B := wB.heap.size) (fun _ hb => hb.2))
                have HbB := Lib.hid hbB
                clear hb12 hh12 hbB HPa hn12 hc12
                go_wp2_with fail
                (with_reducible refine (HRp.out wB HbB.out).mono ?_)
                rintro e wC ⟨A13, n13, c13, rfl, hh13, hn13, hc13, hb13⟩
                have hbC : Below WR.heap.size WR wC := HbB.out.trans (hb13.mono HbB.out.size)
                have HH13 := Lib.hid (hh13.to (B := wC.heap.size) (fun _ hb => hb.2))
                have HH12c := Lib.hid ((HH12.out.below hb13).more hb13.size)
                have hl := pt.len_size
                have HSm := Lib.hid (rsame_any pt.size pt pt A12 A13 n12 n13 c12 c13 wC.heap.size wC (Nat.le_refl _) HH12c.out HH13.out (Nat.le_refl _) (by have h12 : n12 = pt.len := HH12c.out.len; omega) (by have h13 : n13 = pt.len := HH13.out.len; omega) (low_size pt (by omega)) (low_size pt (by omega)))
                rw [same_refl] at HSm
                have HbC := Lib.hid hbC
                clear hb13 hh13 hbC hn13 hc13 HH12 HRp
                go_wp2_with fail
                (with_reducible refine HSm.out.mono ?_)
                rintro e wD ⟨rfl, z, rfl⟩
                have HbD := Lib.hid (below_drewN HbC.out z)
                go_wp2_with fail
                go_roundw
                case rel => exact ⟨q + 1, Hlq.out, by go_num, HbD⟩
                case measure => have := Hlq.out; simp [intOf]; omega
              · obtain rfl : q = 4 := by omega
                clear hlq
                go_wp2_with fail
                go_ret
                exact ⟨rfl, HbwR.out.trans (Hbl2.out.mono HbwR.out.size)⟩
          · have hcutb : (a3.tmod 3 == 1) = false := by simpa using hcut
            have HR1 : Hid (RwOk wc ⟨some ⟨g7, 0, none⟩, N7, c7, l'⟩) := Lib.hid ⟨HS7.out.1, HS7.out.2, Nat.le_trans HNm.out (by decide)⟩
            clear hcut
            have ho0 := own_lit0 wc
            have hba : Below wc.heap.size wc (wc.alloc (Obj.cells #[] 5)) := (Below.refl _ _).alloc (Nat.le_refl _) _
            have hx8 := From.sees (c := c3) (HO3c.out.keep hba).sees
            have hq8 : 0 + N3 ≤ 70368744177664 := by rw [HN3.out]; have := Hbl.out; have := Hbk.out; have := HZ1.out; omega
            have hbwa := Hw8.out.trans (hba.mono Hw8.out.size)
            have hwa1 : wc.heap.size ≤ (wc.alloc (Obj.cells #[] 5)).heap.size := by simp
            have Hbwa := Lib.hid hbwa
            have HO0 := Lib.hid ho0
            have HX8 := Lib.hid hx8
            have Hba := Lib.hid hba
            clear ho0 hx8 hbwa hba
            go_wp2_with (at_builtin; first
              | (refine wpList_append_from rfl (.tmp 113) (.tmp 114) _ rfl rfl rfl HO0.out HX8.out hq8 hwa1 ?_; intro A8 N8 c8 w8 ho8 hg8 hat8; have hN8 : N8 + nr ≤ 70368744177664 := (by have := ho8.len; rw [List.nil_append] at this; rw [this]; have := HNr.out; have := Hbl.out; have := Hbk.out; have := HZ1.out; omega); have hb8 : Below wc.heap.size wc w8 := Hba.out.grown hg8 hwa1 (fun q hq => (HO0.out.lt q hq).1); have hz8 := hb8.size; have HB8 := Lib.hid hb8; have HO8 := Lib.hid ho8; have HX9 := Lib.hid (From.sees (c := cr) (HRs.out.below (Hw8.out.trans (hb8.mono Hw8.out.size)))); clear hb8 ho8 hg8 hat8)
              | (refine wpList_append_from rfl (.tmp 115) (.tmp 116) _ rfl rfl rfl HO8.out HX9.out hN8 hz8 ?_; intro A9 N9 c9 w9 ho9 hg9 hat9; have hb9 : Below wc.heap.size wc w9 := HB8.out.grown hg9 hz8 (fun q hq => (HO8.out.lt q hq).1); have HB9 := Lib.hid hb9; have HO9 := Lib.hid ho9; clear hb9 ho9 hg9 hat9))
            have hbw9 := Hw8.out.trans (HB9.out.mono Hw8.out.size)
            have HP9 := Lib.hid (HP.out w9 hbw9)
            have Hbw9 := Lib.hid hbw9
            clear hbw9
            (with_reducible refine HP9.out.mono ?_)
            rintro e w10 ⟨A10, c10, vs10, rfl, hE10, hb10⟩
            have HB10 := Lib.hid hb10
            have HRB10 := Lib.hid (rbytes_any r.size r A10 n c10 w10.heap.size w10 (Nat.le_refl _) (hE10.holds (Nat.le_refl _)) (Nat.le_refl _) (by have := Hrz.out; omega) (by have := bin_le r; have := Hrz.out; omega))
            clear hb10 hE10
            go_wp2_with fail
            (with_reducible refine HRB10.out.mono ?_)
            rintro e w11 ⟨A11, N11, c11, rfl, ho11, hb11⟩
            have hb911 : Below w9.heap.size w9 w11 := HB10.out.trans (hb11.mono HB10.out.size)
            have hN11 : N11 ≤ 1099511627776 := by have := ho11.len; have := bin_le r; have := Hrz.out; omega
            have hN9 : N9 ≤ 1099511627776 := by have := HO9.out.len; rw [List.nil_append, List.length_append] at this; have := HRs.out.len; have := HNr.out; have := Hbl.out; have := Hbk.out; have := HZ1.out; omega
            have hnr9 : nr ≤ 100 := HNr.out
            have HB911 := Lib.hid hb911
            have HO11 := Lib.hid ho11
            clear hb11 ho11 hb911 HRB10
            go_wp2_with fail
            obtain ⟨WR, hWR⟩ : ∃ W, W = w11.alloc (Obj.cells #[.slice (some ⟨g7, 0, none⟩) N7 c7, .slice A9 N9 c9, .slice Ar nr cr, .slice A11 N11 c11] 24) := ⟨_, rfl⟩
            have hgR : WR.heap[w11.heap.size]? = some (Obj.cells #[.slice (some ⟨g7, 0, none⟩) N7 c7, .slice A9 N9 c9, .slice Ar nr cr, .slice A11 N11 c11] 24) := by rw [hWR]; exact heap_alloc_new w11 _
            have hbR : Below w11.heap.size w11 WR := by rw [hWR]; exact (Below.refl _ _).alloc (Nat.le_refl _) _
            rw [← hWR]
            have hb9R : Below w9.heap.size w9 WR := HB911.out.trans (hbR.mono HB911.out.size)
            have hbcR : Below wc.heap.size wc WR := HB9.out.trans (hb9R.mono HB9.out.size)
            have hbwR : Below w.heap.size w WR := Hw8.out.trans (hbcR.mono Hw8.out.size)
            have hall := rwb_all (W := WR) (g := w11.heap.size) (xs := [⟨(some ⟨g7, 0, none⟩), N7, c7, l'⟩, ⟨A9, N9, c9, [] ++ t.bin ++ lr⟩, ⟨Ar, nr, cr, lr⟩, ⟨A11, N11, c11, r.bin⟩]) (by
              intro x hx
              simp only [List.mem_cons, List.not_mem_nil, or_false] at hx
              rcases hx with rfl | rfl | rfl | rfl
              · exact HR1.out.below hbcR
              · exact RwOk.below (w := w9) ⟨HO9.out.sees, HO9.out.cap, hN9⟩ hb9R
              · exact RwOk.below (w := w) ⟨HRs.out, HC.out, Nat.le_trans HNr.out (by decide)⟩ hbwR
              · exact RwOk.below (w := w11) ⟨HO11.out.sees, HO11.out.cap, hN11⟩ hbR) hgR
            have Hall := Lib.hid hall
            have HbwR := Lib.hid hbwR
            have hgRl : w11.heap.size < WR.heap.size := (Array.getElem?_eq_some_iff.1 hgR).1
            obtain ⟨gR, hgRe⟩ : ∃ g, g = w11.heap.size := ⟨_, rfl⟩
            rw [← hgRe] at hgRl Hall ⊢
            clear hall hWR hgR hbR hb9R hbcR hbwR hgRe
            go_loopw [18] (fun i wr => ∃ (q : Nat), q ≤ 4 ∧ i = .int .i64 q ∧ Hid (Below WR.heap.size WR wr)) (fun i _ => 4 - (intOf i).toNat)
            case atStart => exact ⟨0, Nat.zero_le _, rfl, Lib.hid (Below.refl _ _)⟩
            case round =>
              obtain ⟨q, hq, rfl, Hbl2⟩ := hrel
              by_cases hlq : q < 4
              · obtain ⟨⟨xa, xn, xc, xl⟩, hcx, hokx⟩ := Hall.out q (by simpa using hlq)
                simp only at hcx
                have hq4 : (q : Int) < 4 := by omega
                have hq0 : (0 : Int) ≤ (q : Int) := by omega
                have hba2 : Below wr.heap.size wr (wr.alloc (Obj.cells #[] 5)) := (Below.refl _ _).alloc (Nat.le_refl _) _
                have hbR2 : Below WR.heap.size WR (wr.alloc (Obj.cells #[] 5)) := Hbl2.out.trans (hba2.mono Hbl2.out.size)
                have hc2 := (hbR2.cell (p := ⟨gR, q, none⟩) hgRl).trans hcx
                have hok2 := hokx.below hbR2
                have hx2 := From.sees (c := xc) hok2.sees
                have hxn : 0 + xn ≤ 70368744177664 := by have := hokx.few; simp only at this; omega
                have HOa := Lib.hid (own_lit0 wr)
                have HXa := Lib.hid hx2
                have Hlq := Lib.hid hlq
                have Hcx := Lib.hid hcx
                have HRo := Lib.hid hokx
                have HbR2 := Lib.hid hbR2
                have hwl1 : wr.heap.size ≤ (wr.alloc (Obj.cells #[] 5)).heap.size := by simp
                have hwl2 := Hbl2.out.size
                clear hx2 hok2 hokx hcx hlq hba2 hbR2
                go_wp2_with (at_builtin; refine wpList_append_from rfl (.tmp 128) (.tmp 132) _ rfl rfl rfl HOa.out HXa.out hxn hwl1 ?_; intro AA NA cA wA hoA hgA hatA)
                rw [List.nil_append] at hoA
                have hbA : Below WR.heap.size WR wA := HbR2.out.grown hgA (Nat.le_trans hwl2 hwl1) (fun q hq => Nat.le_trans hwl2 (HOa.out.lt q hq).1)
                have HPa := Lib.hid (gparse_any NA cA AA xl wA hoA.sees (by have := hoA.len; have := HRo.out.few; have := HRo.out.sees.len; simp only at *; omega))
                have HbA := Lib.hid hbA
                obtain ⟨pt, pe, hp⟩ : ∃ a b, psP xl = (a, b) := ⟨_, _, rfl⟩
                have hps := psP_size xl
                rw [hp] at HPa hps
                simp only at hps
                have HRp := Lib.hid (fun (W : World) (hW : Below WR.heap.size WR W) => rparse_any xn xc xa xl W (HRo.out.below hW).sees (HRo.out.cap).1 (HRo.out.cap).2)
                rw [hp] at HRp
                have hpe : (pe != pe) = false := by simp
                clear hp hoA hgA hatA hbA HOa HXa
                (with_reducible refine HPa.out.mono ?_)
                rintro e wB ⟨A12, n12, c12, rfl, hh12, hn12, hc12, hb12⟩
                have hbB : Below WR.heap.size WR wB := HbA.out.trans (hb12.mono HbA.out.size)
                have hcB := (hbB.cell (p := ⟨gR, q, none⟩) hgRl).trans Hcx.out
                have HH12 := Lib.hid (hh12.to (B := wB.heap.size) (fun _ hb => hb.2))
                have HbB := Lib.hid hbB
                clear hb12 hh12 hbB HPa hn12 hc12
                go_wp2_with fail
                (with_reducible refine (HRp.out wB HbB.out).mono ?_)
                rintro e wC ⟨A13, n13, c13, rfl, hh13, hn13, hc13, hb13⟩
                have hbC : Below WR.heap.size WR wC := HbB.out.trans (hb13.mono HbB.out.size)
                have HH13 := Lib.hid (hh13.to (B := wC.heap.size) (fun _ hb => hb.2))
                have HH12c := Lib.hid ((HH12.out.below hb13).more hb13.size)
                have hl := pt.len_size
                have HSm := Lib.hid (rsame_any pt.size pt pt A12 A13 n12 n13 c12 c13 wC.heap.size wC (Nat.le_refl _) HH12c.out HH13.out (Nat.le_refl _) (by have h12 : n12 = pt.len := HH12c.out.len; omega) (by have h13 : n13 = pt.len := HH13.out.len; omega) (low_size pt (by omega)) (low_size pt (by omega)))
                rw [same_refl] at HSm
                have HbC := Lib.hid hbC
                clear hb13 hh13 hbC hn13 hc13 HH12 HRp
                go_wp2_with fail
                (with_reducible refine HSm.out.mono ?_)
                rintro e wD ⟨rfl, z, rfl⟩
                have HbD := Lib.hid (below_drewN HbC.out z)
                go_wp2_with fail
                go_roundw
                case rel => exact ⟨q + 1, Hlq.out, by go_num, HbD⟩
                case measure => have := Hlq.out; simp [intOf]; omega
              · obtain rfl : q = 4 := by omega
                clear hlq
                go_wp2_with fail
                go_ret
                exact ⟨rfl, HbwR.out.trans (Hbl2.out.mono HbwR.out.size)⟩

end Go.Proofs.Ytebiinjcegdmpaa.Ps
