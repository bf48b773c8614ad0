/- commit: all steps, from where the work is. No conditions but that there is no more than 2^40 of anything. -/
import Derived.Test.YtpaaafdnkehmfaaCmWork
namespace Go.Proofs.Ytpaaafdnkehmfaa.Vf
open Go.RowKit
set_option maxRecDepth 100000

def St.wt : St → Nat
  | .w k b => k.length + b.length + 1
  | .r k => k.length + 1
  | .f => 1
def wtS : List St → Nat
  | [] => 0
  | x :: r => x.wt + wtS r
theorem wtS_app (a b : List St) : wtS (a ++ b) = wtS a + wtS b := by
  induction a with
  | nil => simp [wtS]
  | cons x r ih => simp only [List.cons_append, wtS, ih]; omega
theorem Lim.stq {R : Int × Vm} {N : Nat} (h : Lim R.2 N) (x : St) : Lim (stq R x).2 (N + x.wt) := by
  unfold Vf.stq
  split
  · cases x with
    | w k b => exact h.write k b
    | r k => exact h.remove k
    | f => exact h.flush
  · exact h.more (by omega)
theorem Lim.runs : ∀ (l : List St) {R : Int × Vm} {N : Nat}, Lim R.2 N → Lim (runs l R).2 (N + wtS l)
  | [], _, _, h => h
  | x :: l, R, N, h => by
    have := Lim.runs l (h.stq x)
    rw [runs_cons, wtS]
    exact this.more (by omega)
theorem wrs_next {l : FL} {k : Nat} {x : BS × BS} (h : l[k]? = some x) (R : Int × Vm) : runs (wrs (l.take (k + 1))) R = stq (runs (wrs (l.take k)) R) (.w x.1 x.2) := by
  obtain ⟨hk, rfl⟩ := List.getElem?_eq_some_iff.1 h
  rw [List.take_succ_eq_append_getElem hk, wrs, List.map_append, runs_app]
  rfl
def begJ (j : BS) : List St := [.w jN j, .f, .w mN [], .f]
/-- What is written together. -/
structure Szl (l : FL) : Prop where
  cnt : l.length ≤ 8
  size : ∀ x ∈ l, x.1.length ≤ 20 ∧ x.2.length ≤ 8000
theorem Okl.szl {l : FL} (h : Okl l) : Szl l := ⟨h.cnt.2, fun x hx => ⟨(h.name x hx).2.1, h.size x hx⟩⟩
theorem wt_wrs : ∀ {l : FL}, (∀ x ∈ l, x.1.length ≤ 20 ∧ x.2.length ≤ 8000) → wtS (wrs l) ≤ l.length * 8021
  | [], _ => Nat.zero_le _
  | x :: l, h => by
    have h1 := h x (by simp)
    have h2 := wt_wrs (l := l) fun y hy => h y (by simp [hy])
    show (x.1.length + x.2.length + 1) + wtS (wrs l) ≤ (l.length + 1) * 8021
    omega
theorem Szl.take {l : FL} (h : Szl l) (k : Nat) : wtS (wrs (l.take k)) ≤ 64168 := by
  have h1 := wt_wrs (l := l.take k) fun x hx => h.size x (List.mem_of_mem_take hx)
  have h2 : (l.take k).length ≤ 8 := by rw [List.length_take]; have := h.cnt; omega
  omega
/-- So far it is. -/
structure Wat (w0 w : World) (B p q N : Nat) (L J : Value) (R : Int × Vm) : Prop where
  vp : Vp w B p R.2
  box : Bx w q (bxW p L J R.1) 95
  lim : Lim R.2 N
  mq : Mq B p q w0 w
section
variable {w0 w w' : World} {B p q N : Nat} {L J : Value} {R : Int × Vm}
theorem Wat.did {x : St} (h : Wat w0 w B p q N L J R) {en : Ending} (hd : DidW (stq (R.1, R.2) x) B p q L J w en w') : en = .returned (.tuple #[]) ∧ Wat w0 w' B p q (N + x.wt) L J (stq R x) :=
  ⟨hd.1, hd.2.1, hd.2.2.1, h.lim.stq x, h.mq.trans hd.2.2.2⟩
theorem Wat.below (h : Wat w0 w B p q N L J R) (hb : Below w.heap.size w w') : Wat w0 w' B p q N L J R :=
  ⟨h.vp.below hb, h.box.below hb h.box.lt, h.lim, h.mq.trans (Mv.of hb _)⟩
theorem Wat.flush (h : Wat w0 w B p q N L J R) (hN : N ≤ 1099511627776) : Calls Try.prog 73 #[.pointer (some ⟨q, 0, none⟩)] w fun en w' => en = .returned (.tuple #[]) ∧ Wat w0 w' B p q (N + 1) L J (stq R .f) :=
  (wflush_any h.vp h.box h.lim hN).mono fun _ _ hd => h.did hd
theorem Wat.remove (h : Wat w0 w B p q N L J R) (s : ByteArray) {m : Nat} (hm : s.size = m) (hs : m ≤ 20) (hN : N + m + 1 ≤ 1099511627776) : Calls Try.prog 74 #[.pointer (some ⟨q, 0, none⟩), .string s] w fun en w' => en = .returned (.tuple #[]) ∧ Wat w0 w' B p q (N + (m + 1)) L J (stq R (.r s.data.toList)) := by
  subst hm
  exact (wremove_any h.vp h.box h.lim (by unfold maxLen; omega) hN).mono fun _ _ hd => by
    have := h.did hd
    exact this
theorem Wat.write (h : Wat w0 w B p q N L J R) (s : ByteArray) {A : Option Addr} {n c : Nat} {b : BS} (hS : Sees w w.heap.size A n b) {m k : Nat} (hm : s.size = m) (hk : b.length = k) (hs : m ≤ 20) (hN : N + 21 + k ≤ 1099511627776) : Calls Try.prog 72 #[.pointer (some ⟨q, 0, none⟩), .agg #[.string s, .slice A n c]] w fun en w' =>
    en = .returned (.tuple #[]) ∧ Wat w0 w' B p q (N + (m + k + 1)) L J (stq R (.w s.data.toList b)) := by
  subst hm
  subst hk
  exact (wwrite_any h.vp h.box h.lim hS (by unfold maxLen; omega) hN).mono fun _ _ hd => by
    have := h.did hd
    exact this
end
section
variable {P : Program} {a a1 : Act} {w w1 : World} {Q : Exit → Act → World → Prop} {c rest : Code} {l : Nat}
theorem ups_none (J : Nat → Act → World → Nat → Prop) (Q : Exit → Act → World → Prop) : ups J 0 Q = ups (fun _ _ _ _ => False) 0 Q := by
  funext e a w
  cases e <;> simp [ups]
/-- By a goto to a label, and from there on. -/
theorem scope_at (hl : findLabel c l = some rest) (first : c.wp P (ups (fun l' a w k => l' = l ∧ a = a1 ∧ w = w1 ∧ k = 0) 1 Q) a w) (next : rest.wp P (ups (fun _ _ _ _ => False) 0 Q) a1 w1) : (Code.scope c).wp P Q a w := by
  refine wp_scope_ups _ 1 first ?_
  rintro l' a' w' k ⟨rfl, rfl, rfl, rfl⟩
  exact ⟨rest, hl, by rw [ups_none]; exact next⟩
theorem scope_on (first : c.wp P (ups (fun _ _ _ _ => False) 0 Q) a w) : (Code.scope c).wp P Q a w :=
  wp_scope_ups (fun _ _ _ _ => False) 0 first fun _ _ _ _ h => h.elim
end
set_option maxHeartbeats 4000000 in
theorem from1_any {V : Vm} {w : World} {B p q N : Nat} {P : Nat → Prop} {A : Option Addr} {n c : Nat} {J : Value} {l : FL} (h : Vp w B p V) (hl : Lim V N) (hq : Bx w q (bxW p (.slice A n c) J 0) 95)
    (hF : Fr w P A n l) (hP : Pf w B p q P) (hz : Szl l) (hN : N + 300000 ≤ 1099511627776) :
    Calls Try.prog 57 #[.pointer (some ⟨q, 0, none⟩), .int .i64 1] w fun en w' => en = .returned (.int .i64 (runs (mids l ++ ends) (0, V)).1) ∧ Vp w' B p (runs (mids l ++ ends) (0, V)).2 ∧ Mq B p q w w' := by
  have hw0 : Wat w w B p q N (.slice A n c) J (0, V) := ⟨h, hq, hl, Mq.refl _ _ _ _⟩
  have c1 : w.cell? ⟨q, 1, none⟩ = some (.slice A n c) := hq.cells 1
  have hn8 : n ≤ 8 := by have := hF.len; have := hz.cnt; omega
  have H0 := Lib.hid hw0
  have HF := Lib.hid hF
  have HP := Lib.hid hP
  have HZ := Lib.hid hz
  have HN := Lib.hid hN
  clear h hl hq hF hP hz hN hw0 
  go_enter Try.func57, Try.ntmps57
  go_wp2
  apply scope_at (l := 0) (w1 := w) (by rfl)
  case first =>
    go_wp2_with fail
    go_step3
    exact ⟨0, Nat.zero_lt_one, rfl, rfl, rfl, rfl⟩
  refine wp_seq (wp_skip ?_)
  go_wp2_with fail
  go_loopw [31] (fun i wr => ∃ k : Nat, k ≤ n ∧ i = .int .i64 (k : Int) ∧ Wat w wr B p q (N + wtS (wrs (l.take k))) (.slice A n c) J (runs (wrs (l.take k)) (0, V))) (fun i _ => n - (intOf i).toNat)
  case atStart => exact ⟨0, Nat.zero_le _, rfl, H0.out⟩
  case round =>
    obtain ⟨k, hk, rfl, hw⟩ := hrel
    by_cases hlt : k < n
    · obtain ⟨x, hx⟩ : ∃ x, l[k]? = some x := ⟨_, List.getElem?_eq_getElem (by have := HF.out.len; omega)⟩
      have hF2 := HF.out.keep (HP.out.block hw.mq)
      have hP2 := HP.out.keep hw.mq
      obtain ⟨g, o, Af, nf, cf, rfl, hpg, r0, r1, hS, hnc, hcm⟩ := hF2.at_ k x hx
      have hgl := (hP2 g hpg).1
      have hkn : (k : Int) < (n : Int) := by omega
      have hk0 : (0 : Int) ≤ (k : Int) := by omega
      have hxz := HZ.out.size x (List.mem_of_getElem? hx)
      have hnx := wrs_next hx (0, V)
      have hwt := HZ.out.take k
      have hwt2 : wtS (wrs (l.take (k + 1))) = wtS (wrs (l.take k)) + (x.1.length + x.2.length + 1) := by
        obtain ⟨hk', rfl⟩ := List.getElem?_eq_some_iff.1 hx
        rw [List.take_succ_eq_append_getElem hk', wrs, List.map_append, wtS_app]
        rfl
      have hst := (hw.below ((Below.refl wr.heap.size wr).alloc (Nat.le_refl _) (Obj.cells #[.string ⟨x.1.toArray⟩, .slice Af nf cf] 56))).write ⟨x.1.toArray⟩ (c := cf) (m := x.1.length) (k := x.2.length) (((hS.sees (B := wr.heap.size) fun g hg => (hP2 g hg).1).alloc (Nat.le_refl _) (Obj.cells #[.string ⟨x.1.toArray⟩, .slice Af nf cf] 56)).more (by simp)) (by show x.1.toArray.size = _; rw [List.size_toArray]) rfl hxz.1 (by have := HN.out; (try have := HT.out); (try have := HJ.out); omega)
      have HST := Lib.hid hst
      have HNX := Lib.hid hnx
      have HWT := Lib.hid hwt2
      have HLT := Lib.hid hlt
      clear hst hnx hwt hwt2 hlt hw hF2 hP2 hS hxz hnc hcm
      go_wp2_with (go_at_call 72; (with_reducible refine HST.out.mono ?_); rintro en w1 ⟨rfl, hw1⟩; have HW1 := Lib.hid hw1; clear hw1)
      go_roundw
      case rel =>
        refine ⟨k + 1, HLT.out, by go_num, ?_⟩
        have h9 := HW1.out
        rw [HNX.out, HWT.out, ← Nat.add_assoc]
        exact h9
      case measure => have := HLT.out; simp [intOf]; omega
    · obtain rfl : k = n := by omega
      have hkn : ¬ (k : Int) < (k : Int) := by omega
      have hT := HZ.out.take k
      have hall : l.take k = l := List.take_of_length_le (by have := HF.out.len; omega)
      rw [hall] at hw hT
      have HT := Lib.hid hT
      have HW1 := Lib.hid hw
      clear hw hT hall
      go_wp2_with (first
        | (go_at_call 73; (with_reducible refine (HW1.out.flush (by have := HN.out; (try have := HT.out); (try have := HJ.out); omega)).mono ?_); rintro en w2 ⟨rfl, hw2⟩; have HW2 := Lib.hid hw2; clear hw2)
        | (go_at_call 74; (with_reducible refine (HW2.out.remove ⟨#[109, 97, 114, 107]⟩ (m := 4) rfl (by decide) (by have := HN.out; (try have := HT.out); (try have := HJ.out); omega)).mono ?_); rintro en w3 ⟨rfl, hw3⟩; have HW3 := Lib.hid hw3; clear hw3)
        | (go_at_call 73; (with_reducible refine (HW3.out.flush (by have := HN.out; (try have := HT.out); (try have := HJ.out); omega)).mono ?_); rintro en w4 ⟨rfl, hw4⟩; have HW4 := Lib.hid hw4; clear hw4))
      refine wp_label ?_
      go_upto_region 18 with (first
        | (go_at_call 74; (with_reducible refine (HW4.out.remove ⟨#[106, 111, 117, 114, 110, 97, 108]⟩ (m := 7) rfl (by decide) (by have := HN.out; (try have := HT.out); (try have := HJ.out); omega)).mono ?_); rintro en w5 ⟨rfl, hw5⟩; have HW5 := Lib.hid hw5; clear hw5)
        | (go_at_call 73; (with_reducible refine (HW5.out.flush (by have := HN.out; (try have := HT.out); (try have := HJ.out); omega)).mono ?_); rintro en w6 ⟨rfl, hw6⟩; have HW6 := Lib.hid hw6; clear hw6))
      have z3 : w6.cell? ⟨q, 3, none⟩ = some (.int .i64 _) := HW6.out.box.cells 3
      go_wp2_with fail
      simp only [ups]
      go_ret
      have e9 : runs (mids l ++ ends) (0, V) = stq (stq (stq (stq (stq (runs (wrs l) (0, V)) .f) (.r mN)) .f) (.r jN)) .f := by
        rw [mids, List.append_assoc, runs_app]
        rfl
      rw [e9]
      exact ⟨rfl, HW6.out.vp, HW6.out.mq⟩
set_option maxHeartbeats 4000000 in
theorem from2_any {V : Vm} {w : World} {B p q N : Nat} {L J : Value} (h : Vp w B p V) (hl : Lim V N) (hq : Bx w q (bxW p L J 0) 95) (hN : N + 300000 ≤ 1099511627776) :
    Calls Try.prog 57 #[.pointer (some ⟨q, 0, none⟩), .int .i64 2] w fun en w' => en = .returned (.int .i64 (runs (ends) (0, V)).1) ∧ Vp w' B p (runs (ends) (0, V)).2 ∧ Mq B p q w w' := by
  have hw0 : Wat w w B p q N L J (0, V) := ⟨h, hq, hl, Mq.refl _ _ _ _⟩
  have HW1 := Lib.hid hw0
  have HN := Lib.hid hN
  clear h hl hq hN hw0
  go_enter Try.func57, Try.ntmps57
  go_wp2
  apply scope_at (l := 1) (w1 := w) (by rfl)
  case first =>
    go_wp2_with fail
    go_step3
    exact ⟨0, Nat.zero_lt_one, rfl, rfl, rfl, rfl⟩
  refine wp_seq (wp_skip ?_)
  change Code.wp _ _ _ _ _
  go_upto_region 18 with (first
    | (go_at_call 74; (with_reducible refine (HW1.out.remove ⟨#[106, 111, 117, 114, 110, 97, 108]⟩ (m := 7) rfl (by decide) (by have := HN.out; (try have := HT.out); (try have := HJ.out); omega)).mono ?_); rintro en w2 ⟨rfl, hw2⟩; have HW2 := Lib.hid hw2; clear hw2)
    | (go_at_call 73; (with_reducible refine (HW2.out.flush (by have := HN.out; (try have := HT.out); (try have := HJ.out); omega)).mono ?_); rintro en w3 ⟨rfl, hw3⟩; have HW3 := Lib.hid hw3; clear hw3))
  have z3 : w3.cell? ⟨q, 3, none⟩ = some (.int .i64 _) := HW3.out.box.cells 3
  go_wp2_with fail
  simp only [ups]
  go_ret
  exact ⟨rfl, HW3.out.vp, HW3.out.mq⟩
set_option maxHeartbeats 4000000 in
theorem from0_any {V : Vm} {w : World} {B p q N : Nat} {P : Nat → Prop} {A : Option Addr} {n c : Nat} {Aj : Option Addr} {nj cj : Nat} {j : BS} {l : FL} (h : Vp w B p V) (hl : Lim V N) (hq : Bx w q (bxW p (.slice A n c) (.slice Aj nj cj) 0) 95)
    (hF : Fr w P A n l) (hP : Pf w B p q P) (hz : Szl l) (hJ : SeesP w P Aj nj j) (hj : j.length ≤ 65536) (hN : N + 300000 ≤ 1099511627776) :
    Calls Try.prog 57 #[.pointer (some ⟨q, 0, none⟩), .int .i64 0] w fun en w' => en = .returned (.int .i64 (runs (begJ j ++ (mids l ++ ends)) (0, V)).1) ∧ Vp w' B p (runs (begJ j ++ (mids l ++ ends)) (0, V)).2 ∧ Mq B p q w w' := by
  have hw0 : Wat w w B p q N (.slice A n c) (.slice Aj nj cj) (0, V) := ⟨h, hq, hl, Mq.refl _ _ _ _⟩
  have c1 : w.cell? ⟨q, 1, none⟩ = some (.slice A n c) := hq.cells 1
  have hn8 : n ≤ 8 := by have := hF.len; have := hz.cnt; omega
  have HW1 := Lib.hid hw0
  have HF := Lib.hid hF
  have HP := Lib.hid hP
  have HZ := Lib.hid hz
  have HN := Lib.hid hN
  have c2 : w.cell? ⟨q, 2, none⟩ = some (.slice Aj nj cj) := hq.cells 2
  have hp1 : ∀ g, P g → g < w.heap.size := fun g hg => (hP g hg).1
  have HP1 := Lib.hid hp1
  have HJS := Lib.hid hJ
  have HJ := Lib.hid hj
  clear h hl hq hF hP hz hN hw0 hJ hj hp1
  go_enter Try.func57, Try.ntmps57
  go_wp2
  apply scope_on
  go_wp2_with (first
    | (go_at_call 72; (with_reducible refine (HW1.out.write ⟨#[106, 111, 117, 114, 110, 97, 108]⟩ (A := Aj) (n := nj) (c := cj) (b := j) (HJS.out.sees HP1.out) (m := 7) (k := j.length) rfl rfl (by decide) (by have := HN.out; (try have := HT.out); (try have := HJ.out); omega)).mono ?_); rintro en w2 ⟨rfl, hw2⟩; have HW2 := Lib.hid hw2; clear hw2)
    | (go_at_call 73; (with_reducible refine (HW2.out.flush (by have := HN.out; (try have := HT.out); (try have := HJ.out); omega)).mono ?_); rintro en w3 ⟨rfl, hw3⟩; have HW3 := Lib.hid hw3; clear hw3)
    | (go_at_call 72; (with_reducible refine (HW3.out.write ⟨#[109, 97, 114, 107]⟩ (A := none) (n := 0) (c := 0) (b := []) (Sees.none_ _ _ _) (m := 4) (k := 0) rfl rfl (by decide) (by have := HN.out; (try have := HT.out); (try have := HJ.out); omega)).mono ?_); rintro en w4 ⟨rfl, hw4⟩; have HW4 := Lib.hid hw4; clear hw4)
    | (go_at_call 73; (with_reducible refine (HW4.out.flush (by have := HN.out; (try have := HT.out); (try have := HJ.out); omega)).mono ?_); rintro en w5 ⟨rfl, hw5⟩; have HW5 := Lib.hid hw5; clear hw5))
  refine wp_label ?_
  have d1 : w5.cell? ⟨q, 1, none⟩ = some (.slice A n c) := HW5.out.box.cells 1
  go_wp2_with fail
  go_loopw [31] (fun i wr => ∃ k : Nat, k ≤ n ∧ i = .int .i64 (k : Int) ∧ Wat w wr B p q ((N + (7 + j.length + 1) + 1 + (4 + 0 + 1) + 1) + wtS (wrs (l.take k))) (.slice A n c) (.slice Aj nj cj) (runs (wrs (l.take k)) (runs (begJ j) (0, V)))) (fun i _ => n - (intOf i).toNat)
  case atStart => exact ⟨0, Nat.zero_le _, rfl, HW5.out⟩
  case round =>
    obtain ⟨k, hk, rfl, hw⟩ := hrel
    by_cases hlt : k < n
    · obtain ⟨x, hx⟩ : ∃ x, l[k]? = some x := ⟨_, List.getElem?_eq_getElem (by have := HF.out.len; omega)⟩
      have hF2 := HF.out.keep (HP.out.block hw.mq)
      have hP2 := HP.out.keep hw.mq
      obtain ⟨g, o, Af, nf, cf, rfl, hpg, r0, r1, hS, hnc, hcm⟩ := hF2.at_ k x hx
      have hgl := (hP2 g hpg).1
      have hkn : (k : Int) < (n : Int) := by omega
      have hk0 : (0 : Int) ≤ (k : Int) := by omega
      have hxz := HZ.out.size x (List.mem_of_getElem? hx)
      have hnx := wrs_next hx (runs (begJ j) (0, V))
      have hwt := HZ.out.take k
      have hwt2 : wtS (wrs (l.take (k + 1))) = wtS (wrs (l.take k)) + (x.1.length + x.2.length + 1) := by
        obtain ⟨hk', rfl⟩ := List.getElem?_eq_some_iff.1 hx
        rw [List.take_succ_eq_append_getElem hk', wrs, List.map_append, wtS_app]
        rfl
      have hst := (hw.below ((Below.refl wr.heap.size wr).alloc (Nat.le_refl _) (Obj.cells #[.string ⟨x.1.toArray⟩, .slice Af nf cf] 56))).write ⟨x.1.toArray⟩ (c := cf) (m := x.1.length) (k := x.2.length) (((hS.sees (B := wr.heap.size) fun g hg => (hP2 g hg).1).alloc (Nat.le_refl _) (Obj.cells #[.string ⟨x.1.toArray⟩, .slice Af nf cf] 56)).more (by simp)) (by show x.1.toArray.size = _; rw [List.size_toArray]) rfl hxz.1 (by have := HN.out; (try have := HT.out); (try have := HJ.out); omega)
      have HST := Lib.hid hst
      have HNX := Lib.hid hnx
      have HWT := Lib.hid hwt2
      have HLT := Lib.hid hlt
      clear hst hnx hwt hwt2 hlt hw hF2 hP2 hS hxz hnc hcm
      go_wp2_with (go_at_call 72; (with_reducible refine HST.out.mono ?_); rintro en w1 ⟨rfl, hw1⟩; have HW1 := Lib.hid hw1; clear hw1)
      go_roundw
      case rel =>
        refine ⟨k + 1, HLT.out, by go_num, ?_⟩
        have h9 := HW1.out
        rw [HNX.out, HWT.out, ← Nat.add_assoc]
        exact h9
      case measure => have := HLT.out; simp [intOf]; omega
    · obtain rfl : k = n := by omega
      have hkn : ¬ (k : Int) < (k : Int) := by omega
      have hT := HZ.out.take k
      have hall : l.take k = l := List.take_of_length_le (by have := HF.out.len; omega)
      rw [hall] at hw hT
      have HT := Lib.hid hT
      have HW1 := Lib.hid hw
      clear hw hT hall
      go_wp2_with (first
        | (go_at_call 73; (with_reducible refine (HW1.out.flush (by have := HN.out; (try have := HT.out); (try have := HJ.out); omega)).mono ?_); rintro en w2 ⟨rfl, hw2⟩; have HW2 := Lib.hid hw2; clear hw2)
        | (go_at_call 74; (with_reducible refine (HW2.out.remove ⟨#[109, 97, 114, 107]⟩ (m := 4) rfl (by decide) (by have := HN.out; (try have := HT.out); (try have := HJ.out); omega)).mono ?_); rintro en w3 ⟨rfl, hw3⟩; have HW3 := Lib.hid hw3; clear hw3)
        | (go_at_call 73; (with_reducible refine (HW3.out.flush (by have := HN.out; (try have := HT.out); (try have := HJ.out); omega)).mono ?_); rintro en w4 ⟨rfl, hw4⟩; have HW4 := Lib.hid hw4; clear hw4))
      refine wp_label ?_
      go_upto_region 18 with (first
        | (go_at_call 74; (with_reducible refine (HW4.out.remove ⟨#[106, 111, 117, 114, 110, 97, 108]⟩ (m := 7) rfl (by decide) (by have := HN.out; (try have := HT.out); (try have := HJ.out); omega)).mono ?_); rintro en w5 ⟨rfl, hw5⟩; have HW5 := Lib.hid hw5; clear hw5)
        | (go_at_call 73; (with_reducible refine (HW5.out.flush (by have := HN.out; (try have := HT.out); (try have := HJ.out); omega)).mono ?_); rintro en w6 ⟨rfl, hw6⟩; have HW6 := Lib.hid hw6; clear hw6))
      have z3 : w6.cell? ⟨q, 3, none⟩ = some (.int .i64 _) := HW6.out.box.cells 3
      go_wp2_with fail
      simp only [ups]
      go_ret
      have e9 : runs (begJ j ++ (mids l ++ ends)) (0, V) = stq (stq (stq (stq (stq (runs (wrs l) (runs (begJ j) (0, V))) .f) (.r mN)) .f) (.r jN)) .f := by
        rw [runs_app, mids, List.append_assoc, runs_app]
        rfl
      rw [e9]
      exact ⟨rfl, HW6.out.vp, HW6.out.mq⟩
end Go.Proofs.Ytpaaafdnkehmfaa.Vf
