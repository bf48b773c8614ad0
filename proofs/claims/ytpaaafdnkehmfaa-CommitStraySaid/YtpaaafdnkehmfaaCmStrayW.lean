/- CommitStray, walked. No conditions. -/
import Derived.Test.YtpaaafdnkehmfaaCmRef
import Derived.Test.YtpaaafdnkehmfaaCmWholeM
namespace Go.Proofs.Ytpaaafdnkehmfaa.Vf
open Go.RowKit
set_option maxRecDepth 100000

def s7 : List BS := [[7]]
theorem c60_7 : C60 s7 := ⟨by decide, fun b hb => by simp [s7] at hb; subst hb; decide⟩
/-- The file, the journal. -/
def fj (j : BS) : FL := wth jN (some j) (gd s7)
def fm (j : BS) : FL := wth mN (some []) (fj j)
theorem used_fj (j : BS) : used (fj j) = 1 + j.length := by
  have := used_wth jN (some j) (asc_gd c60_7.cnt)
  rw [c60_7.none (by decide)] at this
  have e : used (gd s7) = 1 := by decide
  rw [show olen none = 0 from rfl, show olen (some j) = j.length from rfl] at this
  unfold fj
  omega
theorem asc_fj (j : BS) : Asc (fj j) := asc_wth _ _ (asc_gd c60_7.cnt)
theorem used_fm (j : BS) : used (fm j) = 1 + j.length := by
  have := used_wth mN (some []) (asc_fj j)
  rw [show fnd (fj j) mN = none by unfold fj; rw [fnd_wth _ _ _ (asc_gd c60_7.cnt), if_neg (by decide), c60_7.none (by decide)]] at this
  rw [show olen none = 0 from rfl, show olen (some ([] : BS)) = 0 from rfl, used_fj] at this
  unfold fm
  omega
theorem fj_m (j : BS) : fnd (fj j) mN = none := by unfold fj; rw [fnd_wth _ _ _ (asc_gd c60_7.cnt), if_neg (by decide), c60_7.none (by decide)]
theorem fj_j (j : BS) : fnd (fj j) jN = some j := by unfold fj; rw [fnd_wth _ _ _ (asc_gd c60_7.cnt), if_pos rfl]
theorem fm_m (j : BS) : fnd (fm j) mN = some [] := by unfold fm; rw [fnd_wth _ _ _ (asc_fj j), if_pos rfl]
theorem fm_j (j : BS) : fnd (fm j) jN = some j := by unfold fm; rw [fnd_wth _ _ _ (asc_fj j), if_neg (by decide), fj_j]
theorem stray_set {j : BS} (hj : j.length ≤ 300) : ∃ V1 V2 V3 V4 V5 : Vm, (Vm.new 5000).write [97] [7] = (0, V1) ∧ V1.write jN j = (0, V2) ∧ V2.flush = (0, V3) ∧ Qs V3 (fj j) 5000 3 ∧ V2.write mN [] = (0, V4) ∧ V4.flush = (0, V5) ∧ Qs V5 (fm j) 5000 4 := by
  obtain ⟨e1, q1⟩ := qsNew.w (k := [97]) (b := [7]) (by decide) (by decide)
  have hf1 : wth [97] (some [7]) (gd []) = gd s7 := rfl
  rw [hf1] at q1
  obtain ⟨e2, q2⟩ := q1.w (k := jN) (b := j) (by decide) (by have := used_fj j; unfold fj at this; omega)
  obtain ⟨V3, e3, q3, _⟩ := q2.flu
  obtain ⟨e4, q4⟩ := q2.w (k := mN) (b := []) (by decide) (by have := used_fm j; unfold fm fj at this; omega)
  obtain ⟨V5, e5, q5, _⟩ := q4.flu
  exact ⟨_, _, V3, _, V5, e1, e2, e3, q3, e4, e5, q5⟩
/-- Without a mark. -/
theorem stray_n {V : Vm} {j : BS} (h : Qs V (fj j) 5000 3) : ∃ V', rcv V = (0, V') ∧ V'.dead = false ∧ V'.now = gd s7 := by
  obtain ⟨V', m, e, q, _⟩ := h.rcvN (fj_m j)
  refine ⟨V', e, q.dead, ?_⟩
  rw [q.now]
  refine asc_ext (asc_wth _ _ (asc_fj j)) (asc_gd c60_7.cnt) fun k => ?_
  rw [fnd_wth _ _ _ (asc_fj j)]
  by_cases e : k = jN
  · rw [if_pos e, e, c60_7.none (by decide)]
  · rw [if_neg e]; unfold fj; rw [fnd_wth _ _ _ (asc_gd c60_7.cnt), if_neg e]
/-- A journal that was written. -/
theorem stray_g {V : Vm} {ca : List BS} (h1 : C60 ca) (hne : 1 ≤ ca.length) (h : Qs V (fm (wr (gd ca))) 5000 4) : ∃ V', rcv V = (0, V') ∧ V'.dead = false ∧ V'.now = gd (ov ca s7) := by
  have hk := h1.chk hne
  have hr := rdA_wr (chk_ok hk)
  have e1 : (fnd (fm (wr (gd ca))) jN).getD [] = wr (gd ca) := by rw [fm_j]; rfl
  have hu := used_fm (wr (gd ca))
  have hw := h1.wr
  have hs := sum_small (gd ca) (fm (wr (gd ca))) fun x hx => (h1.l4 x hx).2
  have hl := gd_length h1.cnt
  have hc := h1.cnt
  obtain ⟨V', m, e, q, _⟩ := h.rcvM (by rw [fm_m]; simp) (by rw [e1]; exact rdOk_wr hk) (by rw [e1, hr]; exact fit_of_sum (show (used (fm (wr (gd ca))) : Int) + sumP (gns (fm (wr (gd ca))) (gd ca)) ≤ 5000 by omega))
  refine ⟨V', e, q.dead, ?_⟩
  rw [q.now, e1, hr]
  show wth jN none (wth mN none (wths (gd ca) (fm (wr (gd ca))))) = _
  unfold fm fj
  rw [after_all (asc_gd c60_7.cnt) (fun x hx => ((chk_ok hk).name x hx).2.2) (c60_7.none (by decide)) (c60_7.none (by decide)), wths_gd ca s7 h1.cnt c60_7.cnt]
theorem rdStep_len (k : Nat) (l : BS) (e : Int) : (rdStep k l e).2.1.length ≤ l.length := by
  unfold rdStep
  split
  · exact Nat.le_refl _
  · split
    · exact Nat.le_refl _
    · rw [List.length_drop]; omega
theorem txStep_sum (l : BS) (e : Int) : (txStep l e).1.length + (txStep l e).2.1.length ≤ l.length := by
  have h := rdStep_len 2 l e
  unfold txStep
  generalize rdStep 2 l e = R at h ⊢
  unfold txNext
  split
  · simpa using h
  · split
    · simpa using h
    · rw [List.length_take, List.length_drop]; omega
def szs : FL → Nat
  | [] => 0
  | x :: r => x.2.length + szs r
theorem rdL_sum : ∀ (n : Nat) (r : BS) (e : Int), szs (rdL n r e).1 ≤ r.length
  | 0, _, _ => Nat.zero_le _
  | n + 1, r, e => by
    have h1 := txStep_sum r e
    have h2 := txStep_sum (txStep r e).2.1 (txStep r e).2.2
    have h3 := rdL_sum n (txStep (txStep r e).2.1 (txStep r e).2.2).2.1 (txStep (txStep r e).2.1 (txStep r e).2.2).2.2
    simp only [rdL, szs]
    omega
theorem sumP_szs : ∀ (l f : FL), sumP (gns f l) ≤ (szs l : Int)
  | [], _ => Int.le_refl _
  | x :: l, f => by
    have := sumP_szs l f
    show max (gn f x) 0 + sumP (gns f l) ≤ ((x.2.length + szs l : Nat) : Int)
    have h3 : gn f x ≤ x.2.length := by unfold gn; omega
    omega
/-- Any journal. -/
theorem stray_b {V : Vm} {j : BS} (hj : j.length ≤ 300) (h : Qs V (fm j) 5000 4) : (∃ V', rcv V = (0, V')) ∨ (rcv V = (10, V) ∧ (V.now.map (·.1)).length = 3) := by
  have e1 : (fnd (fm j) jN).getD [] = j := by rw [fm_j]; rfl
  by_cases hk : rdOk j = true
  · have hu := used_fm j
    have h2 := rdStep_len 1 j 0
    have h3 := rdL_sum (rdStep 1 j 0).1 (rdStep 1 j 0).2.1 (rdStep 1 j 0).2.2
    have h4 := sumP_szs (rdA j).1 (fm j)
    have h5 : szs (rdA j).1 ≤ j.length := Nat.le_trans h3 h2
    obtain ⟨V', m, e, _⟩ := h.rcvM (by rw [fm_m]; simp) (by rw [e1]; exact hk) (by rw [e1]; exact fit_of_sum (by omega))
    exact .inl ⟨V', e⟩
  · refine .inr ⟨?_, ?_⟩
    · unfold rcv agn
      rw [if_neg (by rw [h.dead]; simp), h.now, fm_m, if_pos (show (some ([] : BS)).isSome = true from rfl), e1, if_neg hk]
    · rw [h.now]; rfl
section
variable {w0 w : World} {B p N : Nat} {V : Vm} {A A2 : Option Addr} {n c n2 c2 : Nat} {l l2 : FL} {b : BS}
theorem Vs.writef (h : Vs w0 w B p N V) (s : ByteArray) (hS : Sees w w.heap.size A n b) (hs : s.size ≤ 20) (hb : b.length ≤ 900) (hN : N + 1000 ≤ 1099511627776) : Calls Try.prog 19 #[.pointer (some ⟨p, 0, none⟩), .string s, .slice A n c] w fun e w' => e = .returned (.int .i64 (V.write s.data.toList b).1) ∧ Vs w0 w' B p (N + 1000) (V.write s.data.toList b).2 :=
  (write_any h.vp h.lim hS (by unfold maxLen; omega) (by omega)).mono fun _ _ ⟨h1, h2, h3⟩ => ⟨h1, h2, (h.lim.write s.data.toList b).more (by have : s.data.toList.length = s.size := Array.length_toList; omega), h.mo.trans h3⟩
theorem Vs.flushf (h : Vs w0 w B p N V) (hN : N + 1 ≤ 1099511627776) : Calls Try.prog 18 #[.pointer (some ⟨p, 0, none⟩)] w fun e w' => e = .returned (.int .i64 V.flush.1) ∧ Vs w0 w' B p (N + 1) V.flush.2 :=
  (flush_any h.vp h.lim (by omega)).mono fun _ _ ⟨h1, h2, h3⟩ => ⟨h1, h2, h.lim.flush, h.mo.trans h3⟩
theorem Vs.namesf (h : Vs w0 w B p N V) (hN : N ≤ 1099511627776) : Calls Try.prog 32 #[.pointer (some ⟨p, 0, none⟩)] w fun e w' => ∃ A c, e = .returned (.slice A (V.now.map (·.1)).length c) ∧ Vs w0 w' B p N V :=
  (names_any h.vp h.lim hN).mono fun _ _ ⟨A, c, h1, _, h3⟩ => ⟨A, c, h1, h.below h3⟩
theorem Vs.isw (h : Vs w0 w B p N V) (hN : N ≤ 1099511627776) (hd : V.dead = false) (hF : Fr w (fun g => g < w.heap.size) A n l) (hF2 : Fr w (fun g => g < w.heap.size) A2 n2 l2) (hf : Few100 l) (hf2 : Few100 l2) (hI : IsP V.now l l2) :
    Calls Try.prog 30 #[.pointer (some ⟨p, 0, none⟩), .slice A n c, .slice A2 n2 c2] w fun e w' => e = .returned (.bool true) ∧ Vs w0 w' B p N V := by
  refine (is_any h.vp h.lim hN hd hF hF2 hf hf2).mono ?_
  rintro e w' ⟨r, h1, h2, h3⟩
  rw [h2 hI] at h1
  exact ⟨h1, h.below h3⟩
/-- A new row of the one file. -/
theorem fr_7 (w : World) : Fr ((w.alloc (Obj.cells #[.int .u8 7] 5)).alloc (Obj.cells #[.string ⟨#[97]⟩, .slice (some ⟨w.heap.size, 0, none⟩) 1 1] 56)) (fun g => g < ((w.alloc (Obj.cells #[.int .u8 7] 5)).alloc (Obj.cells #[.string ⟨#[97]⟩, .slice (some ⟨w.heap.size, 0, none⟩) 1 1] 56)).heap.size) (some ⟨w.heap.size + 1, 0, none⟩) 1 (gd s7) := by
  have hz : (w.alloc (Obj.cells #[.int .u8 7] 5)).heap.size = w.heap.size + 1 := World.size_alloc _ _
  have h1 := heap_alloc_new (w.alloc (Obj.cells #[.int .u8 7] 5)) (Obj.cells #[.string ⟨#[97]⟩, .slice (some ⟨w.heap.size, 0, none⟩) 1 1] 56)
  rw [hz] at h1
  have h0 : ((w.alloc (Obj.cells #[.int .u8 7] 5)).alloc (Obj.cells #[.string ⟨#[97]⟩, .slice (some ⟨w.heap.size, 0, none⟩) 1 1] 56)).heap[w.heap.size]? = some (Obj.cells #[.int .u8 7] 5) := by
    rw [heap_alloc_old _ _ (by rw [hz]; omega)]
    exact heap_alloc_new w _
  refine ⟨rfl, fun k x hk => ?_⟩
  have hk0 : k = 0 := by
    have := (List.getElem?_eq_some_iff.1 hk).1
    have e : (gd s7).length = 1 := rfl
    omega
  subst hk0
  obtain rfl : x = ([97], [7]) := by
    have e : (gd s7)[0]? = some ([97], [7]) := rfl
    rw [e] at hk
    injection hk with hk
    exact hk.symm
  refine ⟨w.heap.size + 1, 0, some ⟨w.heap.size, 0, none⟩, 1, 1, rfl, by simp, by rw [cell_of_row _ _ _ _ _ _ h1]; rfl, by rw [cell_of_row _ _ _ _ _ _ h1]; rfl, ⟨rfl, fun j u hu => ?_⟩, Nat.le_refl _, by decide⟩
  have hj0 : j = 0 := by
    have := (List.getElem?_eq_some_iff.1 hu).1
    simp at this
    omega
  subst hj0
  obtain rfl : u = 7 := by simpa using hu.symm
  exact ⟨w.heap.size, 0, rfl, by simp; omega, by rw [cell_of_row _ _ _ _ _ _ h0]; rfl⟩
end
end Go.Proofs.Ytpaaafdnkehmfaa.Vf
namespace Go.Proofs.Ytpaaafdnkehmfaa.Vf
open Go.RowKit
set_option maxRecDepth 100000

section
variable {w0 w : World} {B p N : Nat} {V : Vm} {A : Option Addr} {n : Nat} {l : FL} {b : BS}
theorem Vs.sees (h : Vs w0 w w0.heap.size p N V) (hS : SeesP w0 (Pl w0.heap.size p) A n b) : Sees w w.heap.size A n b :=
  (hS.keep (h.block (Nat.le_refl _))).sees fun g hg => by have := hg.1; have := h.mo.size; omega
theorem Vs.frw (h : Vs w0 w w0.heap.size p N V) (hF : Fr w0 (Pl w0.heap.size p) A n l) : Fr w (fun g => g < w.heap.size) A n l :=
  (h.fr (Nat.le_refl _) hF).more fun g hg => by have := hg.1; have := h.mo.size; omega
end
set_option maxHeartbeats 16000000 in
theorem commitStray_walk (A : Option Addr) (n c : Nat) (b : BS) (mk : Bool) (A2 : Option Addr) (n2 c2 : Nat) (l : FL) (w : World) (hS : Sees w w.heap.size A n b) (hF : Fr w (fun g => g < w.heap.size) A2 n2 l) (hn2 : n2 ≤ maxLen) :
    Calls Try.prog 9 #[.slice A n c, .bool mk, .slice A2 n2 c2] w fun e w' => e = .returned (.bool true) ∧ Below w.heap.size w w' := by
  have hlen := hS.len
  have HW1 := Lib.hid (fun W hb => few16 (c := c2) (W := W) hF hb hn2)
  have HG1 := Lib.hid (fun W hb => good4 (c := c2) (W := W) hF hb hn2)
  have HS := Lib.hid hS
  have HLen := Lib.hid hlen
  clear hF hn2 hS hlen
  by_cases h0 : 200 < n
  · have q0 : (200 : Int) < (n : Int) := by omega
    clear h0
    go_enter Try.func9, Try.ntmps9
    go_wp2_with (first
      | (go_at_call 23; (with_reducible refine (known16_any _).mono ?_); rintro e w1 ⟨rfl, hb1⟩; have HB1 := Lib.hid hb1; clear hb1)
      | fail)
    go_ret
    exact ⟨rfl, HB1.out⟩
  have q0 : ¬ (200 : Int) < (n : Int) := by omega
  have HN := Lib.hid h0
  clear h0
  cases hf1 : fewB l with
  | false =>
    rw [hf1] at HW1
    clear hf1
    go_enter Try.func9, Try.ntmps9
    go_wp2_with (first
      | (go_at_call 23; (with_reducible refine (known16_any _).mono ?_); rintro e w1 ⟨rfl, hb1⟩; have HB1 := Lib.hid hb1; clear hb1)
      | (go_at_call 24; (with_reducible refine (HW1.out _ HB1.out).mono ?_); rintro e w2 ⟨rfl, rfl⟩)
      | fail)
    go_ret
    exact ⟨rfl, HB1.out⟩
  | true =>
  rw [hf1] at HW1
  clear hf1
  obtain ⟨ca, hca⟩ : ∃ ca, ca = goodC 4 l := ⟨_, rfl⟩
  have k1 : C60 ca := hca ▸ goodC_60 (Nat.le_refl _) l
  rw [← hca] at HG1
  have HK1 := Lib.hid k1
  clear hca k1
  go_enter Try.func9, Try.ntmps9
  go_upto_region 8 with (first
    | (go_at_call 23; (with_reducible refine (known16_any _).mono ?_); rintro e w1 ⟨rfl, hb1⟩; have HB1 := Lib.hid hb1; clear hb1)
    | (go_at_call 24; (with_reducible refine (HW1.out _ HB1.out).mono ?_); rintro e w2 ⟨rfl, rfl⟩)
    | (go_at_call 14; (with_reducible refine (new_any _ _).mono ?_); rintro e w5 ⟨rfl, hbx5, hb5, hz5⟩; have HX5 := Lib.hid hbx5; have HB5 := Lib.hid (HB1.out.trans (hb5.mono HB1.out.size)); clear hbx5 hb5 hz5)
    | (go_at_call 25; (with_reducible refine (HG1.out _ HB5.out).mono ?_); rintro e w6 ⟨A3, N3, c3, rfl, hF3, hnc3, hn3, hb3⟩; have HF3 := Lib.hid hF3; have HX6 := Lib.hid (HX5.out.below hb3 HX5.out.lt); have HB6 := Lib.hid (HB5.out.trans (hb3.mono HB5.out.size)); have HC3 := Lib.hid (And.intro hnc3 hn3); clear hF3 hb3 hnc3 hn3)
    | fail)
  have hN3 : N3 = ca.length := by have := HF3.out.len; rwa [gd_length HK1.out.cnt] at this
  have HN3 := Lib.hid hN3
  clear hN3 q0
  cases mk with
  | false =>
    obtain ⟨j, hj⟩ : ∃ j, j = b := ⟨_, rfl⟩
    have HJL := Lib.hid (show j.length ≤ 300 by rw [hj, ← HLen.out]; have := HN.out; omega)
    have HSJ := Lib.hid (show SeesP w6 (Pl w6.heap.size w1.heap.size) A n j by rw [hj]; exact ((SeesP.of HS.out).below HB6.out).more fun g hg => ⟨Nat.lt_of_lt_of_le hg HB6.out.size, Nat.ne_of_lt (Nat.lt_of_lt_of_le hg HB1.out.size)⟩)
    have HXW := HX6
    have HBW := HB6
    clear hj
    obtain ⟨V1, V2, V3, V4, V5, e1, e2, e3, q3, e4, e5, q5⟩ := stray_set HJL.out
    have ha1 : Calls Try.prog 19 #[.pointer (some ⟨w1.heap.size, 0, none⟩), .string ⟨#[97]⟩, .slice (some ⟨w6.heap.size, 0, none⟩) 1 1] (w6.alloc (Obj.cells #[.int .u8 7] 5)) fun e w' => e = .returned (.int .i64 0) ∧ Vs w6 w' w6.heap.size w1.heap.size 1000 V1 := by
      have h := ((Vs.new HXW.out).below ((Below.refl _ _).alloc (Nat.le_refl _) (Obj.cells #[.int .u8 7] 5))).writef (c := 1) ⟨#[97]⟩ (sees_new w6 [7] rfl) (by decide) (by decide) (by decide)
      rw [show (Vm.new 5000).write (⟨#[97]⟩ : ByteArray).data.toList [7] = (0, V1) from e1] at h
      exact h
    have ha2 : ∀ W, Vs w6 W w6.heap.size w1.heap.size 1000 V1 → Calls Try.prog 19 #[.pointer (some ⟨w1.heap.size, 0, none⟩), .string ⟨#[106, 111, 117, 114, 110, 97, 108]⟩, .slice A n c] W fun e w' => e = .returned (.int .i64 0) ∧ Vs w6 w' w6.heap.size w1.heap.size 2000 V2 := fun W hv => by
      have h := hv.writef (c := c) ⟨#[106, 111, 117, 114, 110, 97, 108]⟩ (hv.sees HSJ.out) (by decide) (by have := HJL.out; omega) (by decide)
      rw [show V1.write (⟨#[106, 111, 117, 114, 110, 97, 108]⟩ : ByteArray).data.toList j = (0, V2) from e2] at h
      exact h
    have ha4 : ∀ W, Vs w6 W w6.heap.size w1.heap.size 2000 V2 → Calls Try.prog 18 #[.pointer (some ⟨w1.heap.size, 0, none⟩)] W fun e w' => e = .returned (.int .i64 0) ∧ Vs w6 w' w6.heap.size w1.heap.size 3001 V3 := fun W hv => by
      have h := hv.flushf (by decide)
      rw [e3] at h
      exact h.mono fun _ _ ⟨a, b⟩ => ⟨a, b.vp, b.lim.more (by decide), b.mo⟩
    have HA1 := Lib.hid ha1
    have HA2 := Lib.hid ha2
    have HA4 := Lib.hid ha4
    clear ha1 ha2 ha4
    obtain ⟨V6, e6, d6, n6⟩ := stray_n q3
    have hrc : ∀ W, Vs w6 W w6.heap.size w1.heap.size 3001 V3 → Calls Try.prog 29 #[.pointer (some ⟨w1.heap.size, 0, none⟩)] W fun e w' => e = .returned (.int .i64 0) ∧ Vs w6 w' w6.heap.size w1.heap.size (3001 + 300000) V6 := fun W hv => by
      have h := hv.recover (by decide)
      rw [e6] at h
      exact h
    have HRC := Lib.hid hrc
    clear hrc
    have his : ∀ W, Vs w6 W w6.heap.size w1.heap.size (3001 + 300000) V6 → Calls Try.prog 30 #[.pointer (some ⟨w1.heap.size, 0, none⟩), .slice (some ⟨W.heap.size + 1, 0, none⟩) 1 1, .slice none 0 0] ((W.alloc (Obj.cells #[.int .u8 7] 5)).alloc (Obj.cells #[.string ⟨#[97]⟩, .slice (some ⟨W.heap.size, 0, none⟩) 1 1] 56)) fun e w' => e = .returned (.bool true) ∧ Vs w6 w' w6.heap.size w1.heap.size (3001 + 300000) V6 := fun W hv =>
      ((hv.below ((Below.refl _ _).alloc (Nat.le_refl _) _)).below ((Below.refl _ _).alloc (Nat.le_refl _) _)).isw (by decide) d6 (fr_7 W) (fr_nil _ _ _) c60_7.few ⟨Nat.zero_le _, fun _ h => by cases h⟩ (by rw [n6]; exact isP_self c60_7)
    have HIS := Lib.hid his
    clear his
    clear e1 e2 e3 e4 e5 q3 q5
    clear e6 d6 n6
    go_wp2_with (first
      | (go_at_call 19; (with_reducible refine HA1.out.mono ?_); rintro e w8 ⟨rfl, hv8⟩; have HV8 := Lib.hid hv8; clear hv8)
      | (go_at_call 19; (with_reducible refine (HA2.out _ HV8.out).mono ?_); rintro e w9 ⟨rfl, hv9⟩; have HV9 := Lib.hid hv9; clear hv9)
      | (go_at_call 18; (with_reducible refine (HA4.out _ HV9.out).mono ?_); rintro e w11 ⟨rfl, hv11⟩; have HV11 := Lib.hid hv11; clear hv11)
      | (go_at_call 29; (with_reducible refine (HRC.out _ HV11.out).mono ?_); rintro e w12 ⟨rfl, hv12⟩; have HV12 := Lib.hid hv12; clear hv12)
      | (go_at_call 30; (with_reducible refine (HIS.out _ HV12.out).mono ?_); rintro e w13 ⟨rfl, hv13⟩; have HV13 := Lib.hid hv13; clear hv13))
    go_ret
    exact ⟨rfl, HBW.out.trans (HV13.out.toB HBW.out.size HB1.out.size HBW.out.size)⟩
  | true =>
    by_cases h3 : 0 < N3
    · have h3' : (0 : Int) < (N3 : Int) := by omega
      by_cases hm : n % 2 = 0
      · have hm1 : (n : Int).tmod 2 = 0 := by rw [Int.tmod_eq_emod_of_nonneg (by omega)]; omega
        have HNE := Lib.hid (show 1 ≤ ca.length by have := HN3.out; omega)
        have hof := of_any (gd ca) A3 N3 c3 w6 HF3.out (by have := HC3.out; omega)
        have HOF := Lib.hid hof
        obtain ⟨j, hj⟩ : ∃ j, j = wr (gd ca) := ⟨_, rfl⟩
        have HJL := Lib.hid (show j.length ≤ 300 by rw [hj]; exact HK1.out.wr)
        have hby : ∀ W A' c', Fq W A' N3 (gd ca) → Calls Try.prog 33 #[.slice A' N3 c'] W fun e w' => e = .returned (.string ⟨j.toArray⟩) ∧ Below W.heap.size W w' := fun W A' c' h => by
          rw [hj]; exact bytes16_any _ _ _ _ W h HK1.out.few
        have HBYT := Lib.hid hby
        have HJE := Lib.hid hj
        clear h3 hm hof hby hj
        go_upto_region 10 with (first
          | (go_at_call 34; (with_reducible refine HOF.out.mono ?_); rintro e v1 ⟨A8, c8, rfl, hq8, hb8⟩; have HQ8 := Lib.hid hq8; have HBV1 := Lib.hid hb8; clear hq8 hb8)
          | (go_at_call 33; (with_reducible refine (HBYT.out _ _ _ HQ8.out).mono ?_); rintro e v2 ⟨rfl, hb9⟩; have HBV2 := Lib.hid (HBV1.out.trans (hb9.mono HBV1.out.size)); clear hb9; obtain ⟨cj, w7, hcv, hsee, _, _, hb7, _⟩ := bytes_kd v2 j (by have := HJL.out; unfold maxLen; omega); have HSEE := Lib.hid hsee; have HB7 := Lib.hid hb7; clear hsee hb7))
        have hb67 : Below w6.heap.size w6 w7 := HBV2.out.trans (HB7.out.mono HBV2.out.size)
        have HXW := Lib.hid (HX6.out.below hb67 HX6.out.lt)
        have HBW := Lib.hid (HB6.out.trans (hb67.mono HB6.out.size))
        have hpl : w1.heap.size < v2.heap.size := Nat.lt_of_lt_of_le HX6.out.lt HBV2.out.size
        have HSJ := Lib.hid (show SeesP w7 (Pl w7.heap.size w1.heap.size) (some ⟨v2.heap.size, 0, none⟩) j.length j from (HSEE.out _ (Nat.le_refl _)).more fun g hg => ⟨hg.2.lt, by have := hg.1; omega⟩)
        have HFW := Lib.hid (show Fr w7 (Pl w7.heap.size w1.heap.size) A3 N3 (gd ca) from ((HF3.out.below hb67).off HXW.out).more fun g hg => ⟨Nat.lt_of_lt_of_le hg.1 hb67.size, hg.2⟩)
        clear hb67 hpl
        obtain ⟨V1, V2, V3, V4, V5, e1, e2, e3, q3, e4, e5, q5⟩ := stray_set HJL.out
        have ha1 : Calls Try.prog 19 #[.pointer (some ⟨w1.heap.size, 0, none⟩), .string ⟨#[97]⟩, .slice (some ⟨w7.heap.size, 0, none⟩) 1 1] (w7.alloc (Obj.cells #[.int .u8 7] 5)) fun e w' => e = .returned (.int .i64 0) ∧ Vs w7 w' w7.heap.size w1.heap.size 1000 V1 := by
          have h := ((Vs.new HXW.out).below ((Below.refl _ _).alloc (Nat.le_refl _) (Obj.cells #[.int .u8 7] 5))).writef (c := 1) ⟨#[97]⟩ (sees_new w7 [7] rfl) (by decide) (by decide) (by decide)
          rw [show (Vm.new 5000).write (⟨#[97]⟩ : ByteArray).data.toList [7] = (0, V1) from e1] at h
          exact h
        have ha2 : ∀ W, Vs w7 W w7.heap.size w1.heap.size 1000 V1 → Calls Try.prog 19 #[.pointer (some ⟨w1.heap.size, 0, none⟩), .string ⟨#[106, 111, 117, 114, 110, 97, 108]⟩, .slice (some ⟨v2.heap.size, 0, none⟩) j.length cj] W fun e w' => e = .returned (.int .i64 0) ∧ Vs w7 w' w7.heap.size w1.heap.size 2000 V2 := fun W hv => by
          have h := hv.writef (c := cj) ⟨#[106, 111, 117, 114, 110, 97, 108]⟩ (hv.sees HSJ.out) (by decide) (by have := HJL.out; omega) (by decide)
          rw [show V1.write (⟨#[106, 111, 117, 114, 110, 97, 108]⟩ : ByteArray).data.toList j = (0, V2) from e2] at h
          exact h
        have ha3 : ∀ W, Vs w7 W w7.heap.size w1.heap.size 2000 V2 → Calls Try.prog 19 #[.pointer (some ⟨w1.heap.size, 0, none⟩), .string ⟨#[109, 97, 114, 107]⟩, .slice none 0 0] W fun e w' => e = .returned (.int .i64 0) ∧ Vs w7 w' w7.heap.size w1.heap.size 3000 V4 := fun W hv => by
          have h := hv.writef (c := 0) ⟨#[109, 97, 114, 107]⟩ (show Sees W W.heap.size none 0 [] from Sees.none_ _ _ _) (by decide) (by decide) (by decide)
          rw [show V2.write (⟨#[109, 97, 114, 107]⟩ : ByteArray).data.toList [] = (0, V4) from e4] at h
          exact h
        have ha4 : ∀ W, Vs w7 W w7.heap.size w1.heap.size 3000 V4 → Calls Try.prog 18 #[.pointer (some ⟨w1.heap.size, 0, none⟩)] W fun e w' => e = .returned (.int .i64 0) ∧ Vs w7 w' w7.heap.size w1.heap.size 3001 V5 := fun W hv => by
          have h := hv.flushf (by decide)
          rw [e5] at h
          exact h
        have HA3 := Lib.hid ha3
        clear ha3
        have HA1 := Lib.hid ha1
        have HA2 := Lib.hid ha2
        have HA4 := Lib.hid ha4
        clear ha1 ha2 ha4
        obtain ⟨V6, e6, d6, n6⟩ := stray_g HK1.out HNE.out (by rw [← HJE.out]; exact q5)
        have hrc : ∀ W, Vs w7 W w7.heap.size w1.heap.size 3001 V5 → Calls Try.prog 29 #[.pointer (some ⟨w1.heap.size, 0, none⟩)] W fun e w' => e = .returned (.int .i64 0) ∧ Vs w7 w' w7.heap.size w1.heap.size (3001 + 300000) V6 := fun W hv => by
          have h := hv.recover (by decide)
          rw [e6] at h
          exact h
        have HRC := Lib.hid hrc
        clear hrc
        have his : ∀ W, Vs w7 W w7.heap.size w1.heap.size (3001 + 300000) V6 → Calls Try.prog 30 #[.pointer (some ⟨w1.heap.size, 0, none⟩), .slice (some ⟨W.heap.size + 1, 0, none⟩) 1 1, .slice A3 N3 c3] ((W.alloc (Obj.cells #[.int .u8 7] 5)).alloc (Obj.cells #[.string ⟨#[97]⟩, .slice (some ⟨W.heap.size, 0, none⟩) 1 1] 56)) fun e w' => e = .returned (.bool true) ∧ Vs w7 w' w7.heap.size w1.heap.size (3001 + 300000) V6 := fun W hv =>
          ((hv.below ((Below.refl _ _).alloc (Nat.le_refl _) _)).below ((Below.refl _ _).alloc (Nat.le_refl _) _)).isw (by decide) d6 (fr_7 W) ((hv.below ((Below.refl _ _).alloc (Nat.le_refl _) _)).below ((Below.refl _ _).alloc (Nat.le_refl _) _) |>.frw HFW.out) c60_7.few HK1.out.few (by rw [n6]; exact isP_gd HK1.out c60_7)
        have HIS := Lib.hid his
        clear his
        clear e1 e2 e3 e4 e5 q3 q5
        clear e6 d6 n6
        go_wp2_with (first
          | (go_at_call 19; (with_reducible refine HA1.out.mono ?_); rintro e w8 ⟨rfl, hv8⟩; have HV8 := Lib.hid hv8; clear hv8)
          | (go_at_call 19; (with_reducible refine (HA2.out _ HV8.out).mono ?_); rintro e w9 ⟨rfl, hv9⟩; have HV9 := Lib.hid hv9; clear hv9)
          | (go_at_call 19; (with_reducible refine (HA3.out _ HV9.out).mono ?_); rintro e w10 ⟨rfl, hv10⟩; have HV10 := Lib.hid hv10; clear hv10)
          | (go_at_call 18; (with_reducible refine (HA4.out _ HV10.out).mono ?_); rintro e w11 ⟨rfl, hv11⟩; have HV11 := Lib.hid hv11; clear hv11)
          | (go_at_call 29; (with_reducible refine (HRC.out _ HV11.out).mono ?_); rintro e w12 ⟨rfl, hv12⟩; have HV12 := Lib.hid hv12; clear hv12)
          | (go_at_call 30; (with_reducible refine (HIS.out _ HV12.out).mono ?_); rintro e w13 ⟨rfl, hv13⟩; have HV13 := Lib.hid hv13; clear hv13))
        go_ret
        exact ⟨rfl, HBW.out.trans (HV13.out.toB HBW.out.size HB1.out.size HBW.out.size)⟩
      · have hm1 : (n : Int).tmod 2 = 1 := by rw [Int.tmod_eq_emod_of_nonneg (by omega)]; omega
        clear h3 hm
        obtain ⟨j, hj⟩ : ∃ j, j = b := ⟨_, rfl⟩
        have HJL := Lib.hid (show j.length ≤ 300 by rw [hj, ← HLen.out]; have := HN.out; omega)
        have HSJ := Lib.hid (show SeesP w6 (Pl w6.heap.size w1.heap.size) A n j by rw [hj]; exact ((SeesP.of HS.out).below HB6.out).more fun g hg => ⟨Nat.lt_of_lt_of_le hg HB6.out.size, Nat.ne_of_lt (Nat.lt_of_lt_of_le hg HB1.out.size)⟩)
        have HXW := HX6
        have HBW := HB6
        clear hj
        obtain ⟨V1, V2, V3, V4, V5, e1, e2, e3, q3, e4, e5, q5⟩ := stray_set HJL.out
        have ha1 : Calls Try.prog 19 #[.pointer (some ⟨w1.heap.size, 0, none⟩), .string ⟨#[97]⟩, .slice (some ⟨w6.heap.size, 0, none⟩) 1 1] (w6.alloc (Obj.cells #[.int .u8 7] 5)) fun e w' => e = .returned (.int .i64 0) ∧ Vs w6 w' w6.heap.size w1.heap.size 1000 V1 := by
          have h := ((Vs.new HXW.out).below ((Below.refl _ _).alloc (Nat.le_refl _) (Obj.cells #[.int .u8 7] 5))).writef (c := 1) ⟨#[97]⟩ (sees_new w6 [7] rfl) (by decide) (by decide) (by decide)
          rw [show (Vm.new 5000).write (⟨#[97]⟩ : ByteArray).data.toList [7] = (0, V1) from e1] at h
          exact h
        have ha2 : ∀ W, Vs w6 W w6.heap.size w1.heap.size 1000 V1 → Calls Try.prog 19 #[.pointer (some ⟨w1.heap.size, 0, none⟩), .string ⟨#[106, 111, 117, 114, 110, 97, 108]⟩, .slice A n c] W fun e w' => e = .returned (.int .i64 0) ∧ Vs w6 w' w6.heap.size w1.heap.size 2000 V2 := fun W hv => by
          have h := hv.writef (c := c) ⟨#[106, 111, 117, 114, 110, 97, 108]⟩ (hv.sees HSJ.out) (by decide) (by have := HJL.out; omega) (by decide)
          rw [show V1.write (⟨#[106, 111, 117, 114, 110, 97, 108]⟩ : ByteArray).data.toList j = (0, V2) from e2] at h
          exact h
        have ha3 : ∀ W, Vs w6 W w6.heap.size w1.heap.size 2000 V2 → Calls Try.prog 19 #[.pointer (some ⟨w1.heap.size, 0, none⟩), .string ⟨#[109, 97, 114, 107]⟩, .slice none 0 0] W fun e w' => e = .returned (.int .i64 0) ∧ Vs w6 w' w6.heap.size w1.heap.size 3000 V4 := fun W hv => by
          have h := hv.writef (c := 0) ⟨#[109, 97, 114, 107]⟩ (show Sees W W.heap.size none 0 [] from Sees.none_ _ _ _) (by decide) (by decide) (by decide)
          rw [show V2.write (⟨#[109, 97, 114, 107]⟩ : ByteArray).data.toList [] = (0, V4) from e4] at h
          exact h
        have ha4 : ∀ W, Vs w6 W w6.heap.size w1.heap.size 3000 V4 → Calls Try.prog 18 #[.pointer (some ⟨w1.heap.size, 0, none⟩)] W fun e w' => e = .returned (.int .i64 0) ∧ Vs w6 w' w6.heap.size w1.heap.size 3001 V5 := fun W hv => by
          have h := hv.flushf (by decide)
          rw [e5] at h
          exact h
        have HA3 := Lib.hid ha3
        clear ha3
        have HA1 := Lib.hid ha1
        have HA2 := Lib.hid ha2
        have HA4 := Lib.hid ha4
        clear ha1 ha2 ha4
        rcases stray_b HJL.out q5 with ⟨V6, e6⟩ | ⟨e6, n6⟩
        · have hrc : ∀ W, Vs w6 W w6.heap.size w1.heap.size 3001 V5 → Calls Try.prog 29 #[.pointer (some ⟨w1.heap.size, 0, none⟩)] W fun e w' => e = .returned (.int .i64 0) ∧ Vs w6 w' w6.heap.size w1.heap.size (3001 + 300000) V6 := fun W hv => by
            have h := hv.recover (by decide)
            rw [e6] at h
            exact h
          have HRC := Lib.hid hrc
          clear hrc
          clear e1 e2 e3 e4 e5 q3 q5
          clear e6
          go_wp2_with (first
            | (go_at_call 19; (with_reducible refine HA1.out.mono ?_); rintro e w8 ⟨rfl, hv8⟩; have HV8 := Lib.hid hv8; clear hv8)
            | (go_at_call 19; (with_reducible refine (HA2.out _ HV8.out).mono ?_); rintro e w9 ⟨rfl, hv9⟩; have HV9 := Lib.hid hv9; clear hv9)
            | (go_at_call 19; (with_reducible refine (HA3.out _ HV9.out).mono ?_); rintro e w10 ⟨rfl, hv10⟩; have HV10 := Lib.hid hv10; clear hv10)
            | (go_at_call 18; (with_reducible refine (HA4.out _ HV10.out).mono ?_); rintro e w11 ⟨rfl, hv11⟩; have HV11 := Lib.hid hv11; clear hv11)
            | (go_at_call 29; (with_reducible refine (HRC.out _ HV11.out).mono ?_); rintro e w12 ⟨rfl, hv12⟩; have HV12 := Lib.hid hv12; clear hv12))
          go_ret
          exact ⟨rfl, HBW.out.trans (HV12.out.toB HBW.out.size HB1.out.size HBW.out.size)⟩
        · have hrc : ∀ W, Vs w6 W w6.heap.size w1.heap.size 3001 V5 → Calls Try.prog 29 #[.pointer (some ⟨w1.heap.size, 0, none⟩)] W fun e w' => e = .returned (.int .i64 10) ∧ Vs w6 w' w6.heap.size w1.heap.size (3001 + 300000) V5 := fun W hv => by
            have h := hv.recover (by decide)
            rw [e6] at h
            exact h
          have HRC := Lib.hid hrc
          clear hrc
          have hnm : ∀ W, Vs w6 W w6.heap.size w1.heap.size (3001 + 300000) V5 → Calls Try.prog 32 #[.pointer (some ⟨w1.heap.size, 0, none⟩)] W fun e w' => ∃ A c, e = .returned (.slice A 3 c) ∧ Vs w6 w' w6.heap.size w1.heap.size (3001 + 300000) V5 := fun W hv => by
            have h := hv.namesf (by decide)
            rw [n6] at h
            exact h
          have HNM := Lib.hid hnm
          clear hnm
          clear e1 e2 e3 e4 e5 q3 q5
          clear e6 n6
          go_wp2_with (first
            | (go_at_call 19; (with_reducible refine HA1.out.mono ?_); rintro e w8 ⟨rfl, hv8⟩; have HV8 := Lib.hid hv8; clear hv8)
            | (go_at_call 19; (with_reducible refine (HA2.out _ HV8.out).mono ?_); rintro e w9 ⟨rfl, hv9⟩; have HV9 := Lib.hid hv9; clear hv9)
            | (go_at_call 19; (with_reducible refine (HA3.out _ HV9.out).mono ?_); rintro e w10 ⟨rfl, hv10⟩; have HV10 := Lib.hid hv10; clear hv10)
            | (go_at_call 18; (with_reducible refine (HA4.out _ HV10.out).mono ?_); rintro e w11 ⟨rfl, hv11⟩; have HV11 := Lib.hid hv11; clear hv11)
            | (go_at_call 29; (with_reducible refine (HRC.out _ HV11.out).mono ?_); rintro e w12 ⟨rfl, hv12⟩; have HV12 := Lib.hid hv12; clear hv12)
            | (go_at_call 32; (with_reducible refine (HNM.out _ HV12.out).mono ?_); rintro e w13 ⟨A9, c9, rfl, hv13⟩; have HV13 := Lib.hid hv13; clear hv13))
          go_ret
          exact ⟨rfl, HBW.out.trans (HV13.out.toB HBW.out.size HB1.out.size HBW.out.size)⟩
    · have h3' : ¬ (0 : Int) < (N3 : Int) := by omega
      clear h3
      obtain ⟨j, hj⟩ : ∃ j, j = b := ⟨_, rfl⟩
      have HJL := Lib.hid (show j.length ≤ 300 by rw [hj, ← HLen.out]; have := HN.out; omega)
      have HSJ := Lib.hid (show SeesP w6 (Pl w6.heap.size w1.heap.size) A n j by rw [hj]; exact ((SeesP.of HS.out).below HB6.out).more fun g hg => ⟨Nat.lt_of_lt_of_le hg HB6.out.size, Nat.ne_of_lt (Nat.lt_of_lt_of_le hg HB1.out.size)⟩)
      have HXW := HX6
      have HBW := HB6
      clear hj
      obtain ⟨V1, V2, V3, V4, V5, e1, e2, e3, q3, e4, e5, q5⟩ := stray_set HJL.out
      have ha1 : Calls Try.prog 19 #[.pointer (some ⟨w1.heap.size, 0, none⟩), .string ⟨#[97]⟩, .slice (some ⟨w6.heap.size, 0, none⟩) 1 1] (w6.alloc (Obj.cells #[.int .u8 7] 5)) fun e w' => e = .returned (.int .i64 0) ∧ Vs w6 w' w6.heap.size w1.heap.size 1000 V1 := by
        have h := ((Vs.new HXW.out).below ((Below.refl _ _).alloc (Nat.le_refl _) (Obj.cells #[.int .u8 7] 5))).writef (c := 1) ⟨#[97]⟩ (sees_new w6 [7] rfl) (by decide) (by decide) (by decide)
        rw [show (Vm.new 5000).write (⟨#[97]⟩ : ByteArray).data.toList [7] = (0, V1) from e1] at h
        exact h
      have ha2 : ∀ W, Vs w6 W w6.heap.size w1.heap.size 1000 V1 → Calls Try.prog 19 #[.pointer (some ⟨w1.heap.size, 0, none⟩), .string ⟨#[106, 111, 117, 114, 110, 97, 108]⟩, .slice A n c] W fun e w' => e = .returned (.int .i64 0) ∧ Vs w6 w' w6.heap.size w1.heap.size 2000 V2 := fun W hv => by
        have h := hv.writef (c := c) ⟨#[106, 111, 117, 114, 110, 97, 108]⟩ (hv.sees HSJ.out) (by decide) (by have := HJL.out; omega) (by decide)
        rw [show V1.write (⟨#[106, 111, 117, 114, 110, 97, 108]⟩ : ByteArray).data.toList j = (0, V2) from e2] at h
        exact h
      have ha3 : ∀ W, Vs w6 W w6.heap.size w1.heap.size 2000 V2 → Calls Try.prog 19 #[.pointer (some ⟨w1.heap.size, 0, none⟩), .string ⟨#[109, 97, 114, 107]⟩, .slice none 0 0] W fun e w' => e = .returned (.int .i64 0) ∧ Vs w6 w' w6.heap.size w1.heap.size 3000 V4 := fun W hv => by
        have h := hv.writef (c := 0) ⟨#[109, 97, 114, 107]⟩ (show Sees W W.heap.size none 0 [] from Sees.none_ _ _ _) (by decide) (by decide) (by decide)
        rw [show V2.write (⟨#[109, 97, 114, 107]⟩ : ByteArray).data.toList [] = (0, V4) from e4] at h
        exact h
      have ha4 : ∀ W, Vs w6 W w6.heap.size w1.heap.size 3000 V4 → Calls Try.prog 18 #[.pointer (some ⟨w1.heap.size, 0, none⟩)] W fun e w' => e = .returned (.int .i64 0) ∧ Vs w6 w' w6.heap.size w1.heap.size 3001 V5 := fun W hv => by
        have h := hv.flushf (by decide)
        rw [e5] at h
        exact h
      have HA3 := Lib.hid ha3
      clear ha3
      have HA1 := Lib.hid ha1
      have HA2 := Lib.hid ha2
      have HA4 := Lib.hid ha4
      clear ha1 ha2 ha4
      rcases stray_b HJL.out q5 with ⟨V6, e6⟩ | ⟨e6, n6⟩
      · have hrc : ∀ W, Vs w6 W w6.heap.size w1.heap.size 3001 V5 → Calls Try.prog 29 #[.pointer (some ⟨w1.heap.size, 0, none⟩)] W fun e w' => e = .returned (.int .i64 0) ∧ Vs w6 w' w6.heap.size w1.heap.size (3001 + 300000) V6 := fun W hv => by
          have h := hv.recover (by decide)
          rw [e6] at h
          exact h
        have HRC := Lib.hid hrc
        clear hrc
        clear e1 e2 e3 e4 e5 q3 q5
        clear e6
        go_wp2_with (first
          | (go_at_call 19; (with_reducible refine HA1.out.mono ?_); rintro e w8 ⟨rfl, hv8⟩; have HV8 := Lib.hid hv8; clear hv8)
          | (go_at_call 19; (with_reducible refine (HA2.out _ HV8.out).mono ?_); rintro e w9 ⟨rfl, hv9⟩; have HV9 := Lib.hid hv9; clear hv9)
          | (go_at_call 19; (with_reducible refine (HA3.out _ HV9.out).mono ?_); rintro e w10 ⟨rfl, hv10⟩; have HV10 := Lib.hid hv10; clear hv10)
          | (go_at_call 18; (with_reducible refine (HA4.out _ HV10.out).mono ?_); rintro e w11 ⟨rfl, hv11⟩; have HV11 := Lib.hid hv11; clear hv11)
          | (go_at_call 29; (with_reducible refine (HRC.out _ HV11.out).mono ?_); rintro e w12 ⟨rfl, hv12⟩; have HV12 := Lib.hid hv12; clear hv12))
        go_ret
        exact ⟨rfl, HBW.out.trans (HV12.out.toB HBW.out.size HB1.out.size HBW.out.size)⟩
      · have hrc : ∀ W, Vs w6 W w6.heap.size w1.heap.size 3001 V5 → Calls Try.prog 29 #[.pointer (some ⟨w1.heap.size, 0, none⟩)] W fun e w' => e = .returned (.int .i64 10) ∧ Vs w6 w' w6.heap.size w1.heap.size (3001 + 300000) V5 := fun W hv => by
          have h := hv.recover (by decide)
          rw [e6] at h
          exact h
        have HRC := Lib.hid hrc
        clear hrc
        have hnm : ∀ W, Vs w6 W w6.heap.size w1.heap.size (3001 + 300000) V5 → Calls Try.prog 32 #[.pointer (some ⟨w1.heap.size, 0, none⟩)] W fun e w' => ∃ A c, e = .returned (.slice A 3 c) ∧ Vs w6 w' w6.heap.size w1.heap.size (3001 + 300000) V5 := fun W hv => by
          have h := hv.namesf (by decide)
          rw [n6] at h
          exact h
        have HNM := Lib.hid hnm
        clear hnm
        clear e1 e2 e3 e4 e5 q3 q5
        clear e6 n6
        go_wp2_with (first
          | (go_at_call 19; (with_reducible refine HA1.out.mono ?_); rintro e w8 ⟨rfl, hv8⟩; have HV8 := Lib.hid hv8; clear hv8)
          | (go_at_call 19; (with_reducible refine (HA2.out _ HV8.out).mono ?_); rintro e w9 ⟨rfl, hv9⟩; have HV9 := Lib.hid hv9; clear hv9)
          | (go_at_call 19; (with_reducible refine (HA3.out _ HV9.out).mono ?_); rintro e w10 ⟨rfl, hv10⟩; have HV10 := Lib.hid hv10; clear hv10)
          | (go_at_call 18; (with_reducible refine (HA4.out _ HV10.out).mono ?_); rintro e w11 ⟨rfl, hv11⟩; have HV11 := Lib.hid hv11; clear hv11)
          | (go_at_call 29; (with_reducible refine (HRC.out _ HV11.out).mono ?_); rintro e w12 ⟨rfl, hv12⟩; have HV12 := Lib.hid hv12; clear hv12)
          | (go_at_call 32; (with_reducible refine (HNM.out _ HV12.out).mono ?_); rintro e w13 ⟨A9, c9, rfl, hv13⟩; have HV13 := Lib.hid hv13; clear hv13))
        go_ret
        exact ⟨rfl, HBW.out.trans (HV13.out.toB HBW.out.size HB1.out.size HBW.out.size)⟩
end Go.Proofs.Ytpaaafdnkehmfaa.Vf
