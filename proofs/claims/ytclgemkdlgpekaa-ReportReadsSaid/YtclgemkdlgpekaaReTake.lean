/- The reader: take, next. Conditions: at most 2^40 runes. -/
import Derived.Test.YtclgemkdlgpekaaReRune
import Derived.Test.YtclgemkdlgpekaaReHex
import Derived.Test.YtclgemkdlgpekaaStack
import Derived.Deep.QuietTactic
namespace Go.Proofs.Ytclgemkdlgpekaa.Re
open Go.RowKit
set_option maxRecDepth 100000

theorem sees_takeV {w : World} {B n k : Nat} {A : Option Addr} {l : List Nat} (h : SeesV w B A n (l.map rv)) (hk : k ≤ n) : SeesV w B A k ((l.take k).map rv) := by
  have hl := h.len
  rw [List.length_map] at hl
  refine ⟨by rw [List.length_map, List.length_take]; omega, fun j u hu => h.cell j u ?_⟩
  rw [List.getElem?_map, List.getElem?_take] at hu
  split at hu
  · rw [List.getElem?_map]; exact hu
  · cases hu
theorem sees_dropV {w : World} {B n k : Nat} {A : Option Addr} {l : List Nat} (h : SeesV w B A n (l.map rv)) (hk : k ≤ n) : SeesV w B (A.map (·.add k)) (n - k) ((l.drop k).map rv) := by
  have hl := h.len
  rw [List.length_map] at hl
  refine ⟨by rw [List.length_map, List.length_drop]; omega, fun j u hu => ?_⟩
  rw [List.getElem?_map, List.getElem?_drop] at hu
  obtain ⟨b, o, e, hb, hc⟩ := h.cell (k + j) u (by rw [List.getElem?_map]; exact hu)
  refine ⟨b, o + k, by rw [e, Option.map_some, Addr.add_lit], hb, by rw [Nat.add_assoc]; exact hc⟩
theorem sees_rv {w : World} {B n j : Nat} {A : Option Addr} {l : List Nat} (h : SeesV w B A n (l.map rv)) (hj : j < n) : ∃ b o, A = some ⟨b, o, none⟩ ∧ b < B ∧ w.cell? ⟨b, o + j, none⟩ = some (.int .i32 ((l.getD j 0 : Nat) : Int)) := by
  have hl : j < l.length := by rw [h.len, List.length_map] at hj; exact hj
  refine h.cell j _ ?_
  simp [List.getD, List.getElem?_eq_getElem hl, rv]
theorem nat_getD {l : List Nat} {k : Nat} (h : k < l.length) : l[k]? = some (l.getD k 0) := by rw [List.getD_eq_getElem?_getD, List.getElem?_eq_getElem h]; rfl
theorem nat_step {p q : List Nat} {k s : Nat} (h : p.take k = q.take k) (h1 : p[k]? = some s) (h2 : q[k]? = some s) : p.take (k + 1) = q.take (k + 1) := by
  rw [List.take_add_one, List.take_add_one, h, h1, h2]

set_option maxHeartbeats 1000000 in
theorem equal_any (l m : List Nat) (A A2 : Option Addr) (n c c2 B B2 : Nat) (w : World) (h1 : SeesV w B A n (l.map rv)) (h2 : SeesV w B2 A2 n (m.map rv)) (hn : n ≤ 1073741824) :
    Calls Try.prog 39 #[.slice A n c, .slice A2 n c2] w fun e w' => e = .returned (.bool (decide (l = m))) ∧ ∃ q, w' = w.drewN q := by
  have hl1 := h1.len
  have hl2 := h2.len
  rw [List.length_map] at hl1 hl2
  have Hl1 := Lib.hid hl1
  have Hl2 := Lib.hid hl2
  obtain ⟨v, hv⟩ : ∃ v, v = decide (l = m) := ⟨_, rfl⟩
  rw [← hv]
  have Hv := Lib.hid hv
  have hnn : ((n : Int) != (n : Int)) = false := by simp
  clear hl1 hl2 hv
  go_enter Try.func39, Try.ntmps39
  go_wp2_with fail
  go_loopw [13] (fun i wr => ∃ k : Nat, k ≤ n ∧ i = .int .i64 k ∧ Hid (l.take k = m.take k) ∧ Hid (∃ d, wr = w.drewN d)) (fun i _ => n - (intOf i).toNat)
  case atStart => exact ⟨0, Nat.zero_le _, rfl, Lib.hid (by simp), Lib.hid ⟨0, rfl⟩⟩
  case round =>
    obtain ⟨k, hk, rfl, HT, HD⟩ := hrel
    by_cases hlt : k < n
    · obtain ⟨b, o, rfl, hb1, hc1⟩ := sees_rv h1 hlt
      obtain ⟨b', o', rfl, hb2, hc2⟩ := sees_rv h2 hlt
      have hg1 := nat_getD (l := l) (k := k) (by have := Hl1.out; omega)
      have hg2 := nat_getD (l := m) (k := k) (by have := Hl2.out; omega)
      obtain ⟨s, hs⟩ : ∃ s, s = l.getD k 0 := ⟨_, rfl⟩
      obtain ⟨r, hr⟩ : ∃ r, r = m.getD k 0 := ⟨_, rfl⟩
      rw [← hs] at hc1 hg1
      rw [← hr] at hc2 hg2
      obtain ⟨d, hd⟩ := HD.out
      have hw1 : wr.cell? ⟨b, o + k, none⟩ = some (.int .i32 (s : Int)) := by rw [hd]; exact hc1
      have hw2 : wr.cell? ⟨b', o' + k, none⟩ = some (.int .i32 (r : Int)) := by rw [hd]; exact hc2
      have hkn : (k : Int) < (n : Int) := by omega
      have hk0 : (0 : Int) ≤ (k : Int) := by omega
      have Hd := Lib.hid hd
      have Hlt := Lib.hid hlt
      have Hg1 := Lib.hid hg1
      have Hg2 := Lib.hid hg2
      clear hs hr hd hlt hg1 hg2 hc1 hc2 HD
      by_cases he : s = r
      · subst he
        have HT2 := Lib.hid (nat_step HT.out Hg1.out Hg2.out)
        have hee : ((s : Int) != (s : Int)) = false := by simp
        go_wp2_with fail
        go_quiet (fail)
        go_wp2_with fail
        go_roundw
        case rel => exact ⟨k + 1, Hlt.out, by go_num, HT2, Lib.hid ⟨_, by rw [Hd.out, World.drewN_drewN]⟩⟩
        case measure => have := Hlt.out; simp [intOf]; omega
      · have hee : ((s : Int) != (r : Int)) = true := by rw [bne_iff_ne]; omega
        have HF : Hid (decide (l = m) = false) := Lib.hid (decide_eq_false fun e => he (by
          have h3 := Hg1.out
          rw [e, Hg2.out] at h3
          injection h3 with h3
          exact h3.symm))
        clear he
        go_wp2_with fail
        go_quiet (fail)
        go_wp2_with fail
        go_ret
        exact ⟨by rw [Hv.out, HF.out]; rfl, _, by rw [Hd.out, World.drewN_drewN]⟩
    · obtain rfl : k = n := by omega
      have HF : Hid (decide (l = m) = true) := Lib.hid (decide_eq_true (by
        have h3 := HT.out
        rw [List.take_of_length_le (by have := Hl1.out; omega), List.take_of_length_le (by have := Hl2.out; omega)] at h3
        exact h3))
      obtain ⟨d, hd⟩ := HD.out
      have Hd := Lib.hid hd
      clear hlt hd h1 h2
      go_wp2_with fail
      go_ret
      exact ⟨by rw [Hv.out, HF.out]; rfl, d, Hd.out⟩

/-- The reader in block b: what is still to be read, in rows below B. -/
def Rd (w : World) (b B : Nat) (r : List Nat) : Prop := ∃ A n c, w.heap[b]? = some (.cells #[.slice A n c] 56 (0, 0)) ∧ SeesV w B A n (r.map rv) ∧ n ≤ c ∧ B ≤ b ∧ r.length ≤ 1073741824
theorem Rd.kept {w w' : World} {b B : Nat} {r : List Nat} {row : Option Nat} (h : Rd w b B r) (hg : w.grownBy w' row) (hb : row ≠ some b) (hB : ∀ g, row = some g → B ≤ g) : Rd w' b B r := by
  obtain ⟨A, n, c, h1, h2, h3, h4, h5⟩ := h
  have hlt := (Array.getElem?_eq_some_iff.1 h1).1
  refine ⟨A, n, c, (hg.block b hlt (fun e => hb e.symm)).trans h1, h2.keep (fun p hp => World.cell?_of_block (hg.block p.block (by omega) (fun e => ?_))), h3, h4, h5⟩
  have := hB _ e.symm
  omega
theorem Rd.lt {w : World} {b B : Nat} {r : List Nat} (h : Rd w b B r) : b < w.heap.size := by
  obtain ⟨A, n, c, h1, _⟩ := h
  exact (Array.getElem?_eq_some_iff.1 h1).1
theorem grown_drewN (w : World) (q : Nat) (row : Option Nat) : w.grownBy (w.drewN q) row := ⟨rfl, rfl, rfl, Nat.le_refl _, fun _ _ _ => rfl⟩
theorem Rd.drewN {w : World} {b B : Nat} {r : List Nat} (h : Rd w b B r) (q : Nat) : Rd (w.drewN q) b B r := h.kept (row := none) (grown_drewN w q none) (by simp) (by simp)
theorem Rd.alloc {w : World} {b B : Nat} {r : List Nat} (h : Rd w b B r) (o : Obj) : Rd (w.alloc o) b B r := h.kept (row := none) (World.grownBy_alloc w o none) (by simp) (by simp)
theorem grown_set (w : World) (b : Nat) (v : Value) : w.grownBy (w.setCell ⟨b, 0, none⟩ v) (some b) :=
  ⟨rfl, rfl, rfl, by simp [World.setCell], fun k _ hn => heap_setCell_other _ _ _ _ (fun e => hn (by rw [e]))⟩

theorem box1_set {w : World} {b : Nat} {v u : Value} {t : TypeId} (h : w.heap[b]? = some (.cells #[v] t (0, 0))) : (w.setCell ⟨b, 0, none⟩ u).heap[b]? = some (.cells #[u] t (0, 0)) := box_set h
theorem Rd.store {w : World} {b B n' c' q : Nat} {A' : Option Addr} {v : Value} {r' : List Nat} (hb : w.heap[b]? = some (.cells #[v] 56 (0, 0))) (hs : SeesV w B A' n' (r'.map rv)) (hc : n' ≤ c') (hB : B ≤ b) (hz : r'.length ≤ 1073741824) :
    Rd ((w.drewN q).setCell ⟨b, 0, none⟩ (.slice A' n' c')) b B r' ∧ w.grownBy ((w.drewN q).setCell ⟨b, 0, none⟩ (.slice A' n' c')) (some b) := by
  have hg := (grown_drewN w q (some b)).trans (grown_set (w.drewN q) b (.slice A' n' c'))
  have hlt := (Array.getElem?_eq_some_iff.1 hb).1
  exact ⟨⟨A', n', c', box1_set (w := w.drewN q) hb, hs.keep (fun p hp => World.cell?_of_block (hg.block p.block (by omega) (fun e => by injection e with e; omega))), hc, hB, hz⟩, hg⟩

def TkP (w : World) (b B : Nat) (r want : List Nat) (e : Ending) (w' : World) : Prop :=
  e = .returned (.bool (decide (r.take want.length = want))) ∧ Rd w' b B (if r.take want.length = want then r.drop want.length else r) ∧ w.grownBy w' (some b)

set_option maxHeartbeats 1000000 in
theorem take_any (b B B2 : Nat) (r want : List Nat) (A2 : Option Addr) (m c2 : Nat) (w : World) (h : Rd w b B r) (h2 : SeesV w B2 A2 m (want.map rv)) (hm : m ≤ 2) :
    Calls Try.prog 30 #[.pointer (some ⟨b, 0, none⟩), .slice A2 m c2] w (TkP w b B r want) := by
  obtain ⟨A, n, c, hb, hs, hc, hB, hz⟩ := h
  have hl := hs.len
  have hl2 := h2.len
  rw [List.length_map] at hl hl2
  have hblt := (Array.getElem?_eq_some_iff.1 hb).1
  have hcell : w.cell? ⟨b, 0, none⟩ = some (.slice A n c) := by rw [cell_of_row w _ 0 _ _ _ hb]; rfl
  have hfr : w.frozen? ⟨b, 0, none⟩ = false := by simp [World.frozen?, hb]
  by_cases hlt : n < m
  · have hP : TkP w b B r want (.returned (.bool false)) w := by
      have hne : ¬ r.take want.length = want := fun e => by
        have := congrArg List.length e
        rw [List.length_take] at this
        omega
      unfold TkP
      rw [if_neg hne, decide_eq_false hne]
      exact ⟨rfl, ⟨A, n, c, hb, hs, hc, hB, hz⟩, World.grownBy.refl w _⟩
    have HP := Lib.hid hP
    have hlt1 : (n : Int) < (m : Int) := by omega
    clear hP hl hl2 hs h2
    go_enter Try.func30, Try.ntmps30
    go_wp2_with fail
    go_ret
    exact HP.out
  · have hle : m ≤ n := by omega
    have hlt1 : ¬ ((n : Int) < (m : Int)) := by omega
    have hm0 : (0 : Int) ≤ (m : Int) := by omega
    have hmc : (m : Int) ≤ (c : Int) := by omega
    have hmn : (m : Int) ≤ (n : Int) := by omega
    have HE := Lib.hid (equal_any (r.take m) want A A2 m c c2 B B2 w (sees_takeV hs hle) h2 (by omega))
    have Hs := Lib.hid hs
    have Hb := Lib.hid hb
    have Hl2 := Lib.hid hl2
    have Hl := Lib.hid hl
    by_cases he : r.take m = want
    · rw [decide_eq_true he] at HE
      have He := Lib.hid he
      by_cases hcm : c = m
      · have hcm1 : (c : Int) = (m : Int) := by omega
        obtain rfl : n = c := by omega
        obtain rfl : n = m := by omega
        clear hl hl2 hs h2 hb he hlt hcm hcm1
        go_enter Try.func30, Try.ntmps30
        go_wp2_with fail
        (with_reducible refine HE.out.mono ?_)
        rintro e _ ⟨rfl, q, rfl⟩
        go_wp2_with fail
        go_ret
        have hst := Rd.store (q := q) (A' := A) (n' := 0) (c' := 0) (r' := []) Hb.out ⟨rfl, fun j u hu => by simp at hu⟩ (Nat.le_refl _) hB (Nat.zero_le _)
        have hw : r.take want.length = want := by rw [← Hl2.out]; exact He.out
        have hd : r.drop want.length = [] := List.drop_eq_nil_of_le (by have := Hl.out; have := Hl2.out; omega)
        unfold TkP
        rw [if_pos hw, decide_eq_true hw, hd]
        exact ⟨rfl, hst.1, hst.2⟩
      · have hcm1 : ¬ ((c : Int) = (m : Int)) := by omega
        clear hl hl2 hs h2 hb he hlt
        go_enter Try.func30, Try.ntmps30
        go_wp2_with fail
        (with_reducible refine HE.out.mono ?_)
        rintro e _ ⟨rfl, q, rfl⟩
        go_wp2_with fail
        go_ret
        have hst := Rd.store (q := q) (A' := A.map (·.add m)) (n' := n - m) (c' := c - m) (r' := r.drop m) Hb.out (sees_dropV Hs.out hle) (by omega) hB (by rw [List.length_drop]; omega)
        have hw : r.take want.length = want := by rw [← Hl2.out]; exact He.out
        unfold TkP
        rw [if_pos hw, decide_eq_true hw, ← Hl2.out]
        exact ⟨rfl, hst.1, hst.2⟩
    · rw [decide_eq_false he] at HE
      have hP : ∀ q, TkP w b B r want (.returned (.bool false)) (w.drewN q) := by
        intro q
        have hne : ¬ r.take want.length = want := by rw [← Hl2.out]; exact he
        unfold TkP
        rw [if_neg hne, decide_eq_false hne]
        exact ⟨rfl, Rd.drewN ⟨A, n, c, hb, hs, hc, hB, hz⟩ q, grown_drewN w q _⟩
      have HP := Lib.hid hP
      clear hP hl hl2 hs h2 he hb
      go_enter Try.func30, Try.ntmps30
      go_wp2_with fail
      (with_reducible refine HE.out.mono ?_)
      rintro e _ ⟨rfl, q, rfl⟩
      go_wp2_with fail
      go_ret
      exact HP.out q

def TnP (w : World) (b B : Nat) (v : Bool) (r' : List Nat) (e : Ending) (w' : World) : Prop := e = .returned (.bool v) ∧ Rd w' b B r' ∧ w.grownBy w' (some b)
theorem take_yes (b B B2 : Nat) (r want : List Nat) (A2 : Option Addr) (m c2 : Nat) (w : World) (h : Rd w b B r) (h2 : SeesV w B2 A2 m (want.map rv)) (hm : m ≤ 2) (hy : r.take m = want) :
    Calls Try.prog 30 #[.pointer (some ⟨b, 0, none⟩), .slice A2 m c2] w (TnP w b B true (r.drop m)) := by
  have hl := h2.len
  rw [List.length_map] at hl
  subst hl
  exact (take_any b B B2 r want A2 _ c2 w h h2 hm).mono fun e w' ⟨h1, h2, h3⟩ => ⟨by rw [h1, decide_eq_true hy], by rwa [if_pos hy] at h2, h3⟩
theorem take_no (b B B2 : Nat) (r want : List Nat) (A2 : Option Addr) (m c2 : Nat) (w : World) (h : Rd w b B r) (h2 : SeesV w B2 A2 m (want.map rv)) (hm : m ≤ 2) (hy : ¬ r.take m = want) :
    Calls Try.prog 30 #[.pointer (some ⟨b, 0, none⟩), .slice A2 m c2] w (TnP w b B false r) := by
  have hl := h2.len
  rw [List.length_map] at hl
  subst hl
  exact (take_any b B B2 r want A2 _ c2 w h h2 hm).mono fun e w' ⟨h1, h2, h3⟩ => ⟨by rw [h1, decide_eq_false hy], by rwa [if_neg hy] at h2, h3⟩

/-- The next rune; behind the last one 0. -/
def nxt : List Nat → Nat × List Nat
  | [] => (0, [])
  | c :: r => (c, r)
def NxP (w : World) (b B : Nat) (r : List Nat) (e : Ending) (w' : World) : Prop :=
  e = .returned (.int .i32 ((nxt r).1 : Int)) ∧ Rd w' b B (nxt r).2 ∧ w.grownBy w' (some b)
set_option maxHeartbeats 1000000 in
theorem next_any (b B : Nat) (r : List Nat) (w : World) (h : Rd w b B r) :
    Calls Try.prog 51 #[.pointer (some ⟨b, 0, none⟩)] w (NxP w b B r) := by
  have h0 := h
  obtain ⟨A, n, c, hb, hs, hc, hB, hz⟩ := h
  have hl := hs.len
  rw [List.length_map] at hl
  have hblt := (Array.getElem?_eq_some_iff.1 hb).1
  have hcell : w.cell? ⟨b, 0, none⟩ = some (.slice A n c) := by rw [cell_of_row w _ 0 _ _ _ hb]; rfl
  have hfr : w.frozen? ⟨b, 0, none⟩ = false := by simp [World.frozen?, hb]
  cases r with
  | nil =>
    obtain rfl : n = 0 := by simpa using hl
    have HP : Hid (NxP w b B [] (.returned (.int .i32 0)) w) := Lib.hid ⟨rfl, h0, World.grownBy.refl w _⟩
    clear hl hs h0
    go_enter Try.func51, Try.ntmps51
    go_wp2_with fail
    go_ret
    exact HP.out
  | cons x r =>
    have hn : n = r.length + 1 := by simpa using hl
    obtain ⟨bx, ox, rfl, hbx, hcx⟩ := sees_rv hs (j := 0) (by omega)
    have hx0 : (x :: r).getD 0 0 = x := rfl
    rw [hx0, Nat.add_zero] at hcx
    have hn0 : ¬ ((n : Int) = 0) := by omega
    have hn0' : ¬ (n = 0) := by omega
    have hn1 : (0 : Int) < (n : Int) := by omega
    have h1n : (1 : Int) ≤ (n : Int) := by omega
    have h1c : (1 : Int) ≤ (c : Int) := by omega
    have Hs := Lib.hid hs
    have Hb := Lib.hid hb
    have Hn := Lib.hid hn
    have Hc := Lib.hid hc
    by_cases hc1 : c = 1
    · have hst := Lib.hid (Rd.store (q := 0) (A' := some ⟨bx, ox, none⟩) (n' := 0) (c' := 0) (r' := r) Hb.out ⟨by rw [List.length_map]; omega, fun j u hu => by
        have : r = [] := List.eq_nil_of_length_eq_zero (by omega)
        subst this
        simp at hu⟩ (Nat.le_refl _) hB (by simp at hz; omega))
      obtain rfl : n = 1 := by omega
      subst hc1
      clear hl hs h0 hb hn hc
      go_enter Try.func51, Try.ntmps51
      go_wp2_with fail
      go_ret
      exact ⟨rfl, hst.out.1, hst.out.2⟩
    · have hst := Lib.hid (Rd.store (q := 0) (A' := (some ⟨bx, ox, none⟩ : Option Addr).map (·.add 1)) (n' := n - 1) (c' := c - 1) (r' := r) Hb.out (by have := sees_dropV (k := 1) Hs.out (by omega); simpa using this) (by omega) hB (by simp at hz; omega))
      have hc1' : ¬ ((c : Int) = 1) := by omega
      clear hl hs h0 hb hn hc
      go_enter Try.func51, Try.ntmps51
      go_wp2_with fail
      go_ret
      exact ⟨rfl, hst.out.1, hst.out.2⟩
end Go.Proofs.Ytclgemkdlgpekaa.Re
