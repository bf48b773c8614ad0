/- Get of the reference. Conditions: fewer than 2^39 edges. Without of the reference. Conditions: fewer edges than 2^39. Put and Drop of the reference. Conditions: fewer edges than 2^38. Drop of the reference. Conditions: fewer edges than 2^38. Names of the reference. Conditions: fewer than 2^39 names. -/
import Derived.Test.YtkhjpmefekonhaaMgPt
import Derived.Outline
import Derived.Deep.RegionHeld3
import Derived.IntWalk
import Derived.Test.YtkhjpmefekonhaaNames
import Derived.Test.YtkhjpmefekonhaaNamesMath
namespace Go.Proofs.Ytkhjpmefekonhaa.Pt
open Go.RowKit Go.Proofs.Ytkhjpmefekonhaa.Jd Go.Proofs.Ytkhjpmefekonhaa.Cl
set_option maxRecDepth 100000

def RGetP (w : World) (r : Tr × Bool) (e : Ending) (w' : World) : Prop :=
  ∃ A' n' c', e = .returned (.tuple #[.slice A' n' c', .bool r.2]) ∧ OkT w A' n' c' r.1 ∧ ∃ q, w' = w.drewN q

set_option maxHeartbeats 2000000 in
theorem rget_any (t : Tr) (ps : List ByteArray) (A Ap : Option Addr) (n c np cp : Nat) (w : World) (ht : OkT w A n c t) (hp : SeesV w w.heap.size Ap np (ps.map Value.string)) (hz : t.size ≤ 274877906944) (hps : ps.length ≤ 1000000) :
    Calls Try.prog 20 #[.slice A n c, .slice Ap np cp] w (RGetP w (getT t ps)) := by
  have hnp : np ≤ 1000000 := by have := hp.len; rw [List.length_map] at this; omega
  have Hnp := Lib.hid (show np = ps.length by have := hp.len; rwa [List.length_map] at this)
  obtain ⟨T, hT⟩ : ∃ T, T = getT t ps := ⟨_, rfl⟩
  rw [← hT]
  have HI0 := Lib.hid (show OkT w A n c t ∧ t.size ≤ 274877906944 ∧ getT t ps = T from ⟨ht, hz, hT.symm⟩)
  clear ht hT hz
  go_enter Try.func20, Try.ntmps20
  go_wp2_with fail
  go_loopw [0, 6] (fun a i wr => ∃ (k : Nat) (Au : Option Addr) (nu cu : Nat) (u : Tr) (q : Nat), k ≤ np ∧ a = .slice Au nu cu ∧ i = .int .i64 k ∧ Hid (OkT w Au nu cu u ∧ u.size ≤ 274877906944 ∧ getT u (ps.drop k) = T) ∧ Hid (wr = w.drewN q)) (fun _ i _ => np - (intOf i).toNat)
  case atStart => exact ⟨0, A, n, c, t, 0, Nat.zero_le _, rfl, rfl, by rw [List.drop_zero]; exact HI0, Lib.hid rfl⟩
  case round =>
    obtain ⟨k, Au, nu, cu, u, q, hk, rfl, rfl, HI, HW⟩ := hrel
    by_cases hlt : k < np
    · obtain ⟨bp, op, rfl, hbp, hcp⟩ := hp.str hlt
      obtain ⟨name, hname⟩ : ∃ s, s = ps.getD k ⟨#[]⟩ := ⟨_, rfl⟩
      rw [← hname] at hcp
      have hdrop : ps.drop k = name :: ps.drop (k + 1) := by
        have hl : k < ps.length := by rw [← Hnp.out]; exact hlt
        rw [List.drop_eq_getElem_cons hl, hname, List.getD_eq_getElem?_getD, List.getElem?_eq_getElem hl]
        rfl
      have hcpw : wr.cell? ⟨bp, op + k, none⟩ = some (.string name) := by rw [HW.out]; exact hcp
      have hkn : (k : Int) < (np : Int) := by omega
      have hk0 : (0 : Int) ≤ (k : Int) := by omega
      have hul := HI.out.1.holds.len
      have hus := u.len_size
      have hus2 := HI.out.2.1
      have HF := Lib.hid (kid2_any u Au nu cu w.heap.size name wr (by rw [HW.out]; exact HI.out.1.holds.drewN q) (by rw [HW.out]; exact Nat.le_refl _) (by omega))
      obtain ⟨v, hv⟩ : ∃ v, v = u.atIs name := ⟨_, rfl⟩
      rw [← hv] at HF
      have Hdrop := Lib.hid hdrop
      have Hlt := Lib.hid hlt
      clear hname hdrop hcp hlt hul hus hus2
      cases v with
      | true =>
        have heq : getT (kidT u name) (ps.drop (k + 1)) = T := by
          have := HI.out.2.2
          rw [Hdrop.out, getT, if_pos hv.symm] at this
          exact this
        have Heq := Lib.hid heq
        clear hv heq
        go_wp2_with fail
        (with_reducible refine HF.out.mono ?_)
        rintro e w2 ⟨A', n', c', rfl, hk', hn', hc', q2, hw2⟩
        have hko : OkT w A' n' c' (kidT u name) := ⟨Holds.keep (w := wr) (w' := w) (fun _ _ => by rw [HW.out]; rfl) hk', hn', hc'⟩
        have Hko := Lib.hid hko
        have Hw2 := Lib.hid hw2
        clear hk' hko hw2
        go_wp2_with fail
        go_roundw
        case rel => exact ⟨k + 1, A', n', c', _, q + q2, Hlt.out, rfl, by go_num, Lib.hid ⟨Hko.out, Nat.le_trans (kidT_size u name) HI.out.2.1, Heq.out⟩, Lib.hid (by rw [Hw2.out, HW.out, World.drewN_drewN])⟩
        case measure => have := Hlt.out; simp [intOf]; omega
      | false =>
        have heq : (Tr.nil, false) = T := by
          have := HI.out.2.2
          rw [Hdrop.out, getT, if_neg (by rw [← hv]; simp)] at this
          exact this
        have Heq := Lib.hid heq
        clear hv heq
        go_wp2_with fail
        (with_reducible refine HF.out.mono ?_)
        rintro e w2 ⟨A', n', c', rfl, hk', hn', hc', q2, hw2⟩
        have Hw2 := Lib.hid hw2
        clear hk' hw2
        go_wp2_with fail
        go_ret2
        exact ⟨none, 0, 0, by rw [← Heq.out]; rfl, by rw [← Heq.out]; exact ⟨rfl, Nat.le_refl _, Nat.zero_le _⟩, q + q2, by rw [Hw2.out, HW.out, World.drewN_drewN]⟩
    · obtain rfl : k = np := by omega
      have hnil : ps.drop k = [] := List.drop_eq_nil_of_le (by rw [Hnp.out]; exact Nat.le_refl _)
      have heq : (u, true) = T := by
        have := HI.out.2.2
        rw [hnil, getT] at this
        exact this
      have Heq := Lib.hid heq
      clear hnil hlt hp heq
      go_wp2_with fail
      go_ret2
      exact ⟨Au, nu, cu, by rw [← Heq.out]; rfl, by rw [← Heq.out]; exact HI.out.1, q, HW.out⟩
end Go.Proofs.Ytkhjpmefekonhaa.Pt

namespace Go.Proofs.Ytkhjpmefekonhaa.Pt
open Go.RowKit Go.Proofs.Ytkhjpmefekonhaa.Jd Go.Proofs.Ytkhjpmefekonhaa.Cl
set_option maxRecDepth 100000

theorem withoutT_not : ∀ {t : Tr} {name : ByteArray}, t.atIs name = false → withoutT t name = t
  | .nil, _, _ => rfl
  | .cons s k r, name, h => by
    rcases cases3 s name with c1 | ⟨c1, c2⟩ | ⟨c1, c2, _⟩
    · rw [withoutT_lt c1, withoutT_not (by rw [← h, Pt.atIs_lt c1])]
    · rw [atIs_ge c1, c2] at h; cases h
    · exact withoutT_gt c1 c2
theorem RowT_without {w : World} {B : Nat} {name : ByteArray} : ∀ {vs : List Value} {t : Tr}, RowT w B vs t → t.atIs name = true →
    RowT w B (vs.take (t.atN name * 2) ++ vs.drop ((t.atN name + 1) * 2)) (withoutT t name)
  | [], .nil, _, h => by simp [Tr.atIs, Tr.atN, dropT_zero, Tr.headIs] at h
  | .string s :: .slice A n c :: vs, .cons _ k r, ⟨h1, h2, h3, h4, h5⟩, h => by
    subst h1
    rcases cases3 s name with c1 | ⟨c1, c2⟩ | ⟨c1, c2, _⟩
    · rw [Pt.atIs_lt c1] at h
      have ih := RowT_without h5 h
      rw [withoutT_lt c1, atN_lt c1, show (r.atN name + 1) * 2 = r.atN name * 2 + 1 + 1 by omega, show (r.atN name + 1 + 1) * 2 = (r.atN name + 1) * 2 + 1 + 1 by omega]
      exact ⟨rfl, h2, h3, h4, ih⟩
    · rw [withoutT_eq c1 c2, atN_ge c1]
      simpa using h5
    · rw [atIs_ge c1, c2] at h; cases h

set_option maxHeartbeats 2000000 in
theorem rwithout_any (t : Tr) (A : Option Addr) (n c : Nat) (name : ByteArray) (w : World) (h : OkT w A n c t) (hn : n ≤ 549755813888) :
    Calls Try.prog 56 #[.slice A n c, .string name] w (OkP w (withoutT t name)) := by
  have Hn := Lib.hid h.holds.len
  have Hat := Lib.hid (at_any t A n c w.heap.size name w h.holds (Nat.le_refl _) (by omega))
  have hc := h.cap.1
  by_cases hi : t.atIs name = true
  · have hlt : t.atN name < t.len := by
      rcases Nat.lt_or_ge (t.atN name) t.len with g | g
      · exact g
      · unfold Tr.atIs at hi
        rw [drop_len t _ g] at hi
        cases hi
    rw [← Hn.out] at hlt
    obtain ⟨vs, hr, hcell, hpos⟩ := h.holds.rowT
    obtain ⟨b, o, rfl, hbB⟩ := hpos (by omega)
    have hrow := RowT_without hr hi
    rw [hi] at Hat
    obtain ⟨k, hk⟩ : ∃ k, k = t.atN name := ⟨_, rfl⟩
    rw [← hk] at hlt Hat hrow
    have hvl := hr.length
    rw [← Hn.out] at hvl
    have hcl := hcell b o rfl
    have hone := hr.one
    have h1 : ∀ W : World, Below w.heap.size w W → Src Try.prog 2 27 (.slice (some ⟨b, o, none⟩) k c) k (vs.take (k * 2)) W := fun W hW => src_edges (by rw [List.length_take]; omega) (fun j u hu => by
      rw [List.getElem?_take] at hu
      split at hu
      · exact (hW.cell (p := ⟨b, o + j, none⟩) (by simp only; omega)).trans (hcl j u hu)
      · cases hu) (fun u hu => hone u (List.mem_of_mem_take hu))
    have H1 := Lib.hid h1
    have h3 : ∀ W : World, Below w.heap.size w W → Src Try.prog 2 27 (.slice (if c = k + 1 then some ⟨b, o, none⟩ else some ⟨b, o + (k + 1) * 2, none⟩) (n - (k + 1)) (c - (k + 1))) (n - (k + 1)) (vs.drop ((k + 1) * 2)) W := by
      intro W hW
      by_cases e : c = k + 1
      · have e0 : n - (k + 1) = 0 := by omega
        rw [e0, List.drop_of_length_le (by omega)]
        exact src_none _ _ _
      · rw [if_neg e]
        exact src_edges (by rw [List.length_drop]; omega) (fun j u hu => by
          rw [List.getElem?_drop] at hu
          rw [show o + (k + 1) * 2 + j = o + ((k + 1) * 2 + j) by omega]
          exact (hW.cell (p := ⟨b, o + ((k + 1) * 2 + j), none⟩) (by simp only; omega)).trans (hcl _ u hu)) (fun u hu => hone u (List.mem_of_mem_drop hu))
    have H3 := Lib.hid h3
    have hkn : (k : Int) ≤ (n : Int) := by omega
    have hcn : (n : Int) ≤ (c : Int) := by omega
    have hkc : (k : Int) ≤ (c : Int) := by omega
    have hk0 : (0 : Int) ≤ (k : Int) := by omega
    have hkn1 : (k : Int) + 1 ≤ (n : Int) := by omega
    have Hrow := Lib.hid hrow
    clear h3 h1 hcl hcell hvl hone hk hr hrow hpos hi
    go_enter Try.func56, Try.ntmps56
    go_wp2_with fail
    refine Hat.out.mono ?_
    rintro e w1' ⟨rfl, q, rfl⟩
    go_wp2_with (first
      | (at_builtin; refine wpList_append_row rfl (.tmp 17) (.tmp 20) _ _ rfl elem_edge rfl rfl (World.ownsRow_nil _ w.heap.size _ _) (H1.out _ (below_drewN (Below.refl _ w) q)) (by omega) (Nat.le_refl _) ?_; intro A1 c1 w1 ho1 hg1 hat1; simp only [Nat.zero_add, List.nil_append] at ho1; have hb1 : Below w.heap.size w w1 := (below_drewN (Below.refl _ w) q).grown hg1 (Nat.le_refl _) (by simp [Value.ownBlock]); have hz1 := hb1.size; have hs3 := H3.out w1 hb1)
      | (at_builtin; refine wpList_append_row rfl (.tmp 22) (.tmp 26) _ _ rfl elem_edge rfl rfl ho1 hs3 (by omega) hz1 ?_; intro A3 c3 w3 ho3 hg3 hat3))
    all_goals
      go_ret
      have hb3 : Below w.heap.size w w3 := hb1.grown hg3 hz1 (fun k hk => (ho1.lt k hk).1)
      refine ⟨A3, _, c3, rfl, ⟨own_holds ho3 ?_, (own_cap ho3).1, (own_cap ho3).2⟩, hb3⟩
      exact (Hrow.out.keep (w' := w3) (fun p hp => hb3.cell hp)).more hb3.size
  · have hi2 : t.atIs name = false := by simpa using hi
    rw [hi2] at Hat
    rw [withoutT_not hi2]
    obtain ⟨k, hk⟩ : ∃ k, k = t.atN name := ⟨_, rfl⟩
    rw [← hk] at Hat
    have HO := Lib.hid h
    clear hi hi2 hk h
    go_enter Try.func56, Try.ntmps56
    go_wp2_with fail
    refine Hat.out.mono ?_
    rintro e w1' ⟨rfl, q, rfl⟩
    go_wp2_with fail
    go_ret
    exact ⟨A, n, c, rfl, HO.out.below (below_drewN (Below.refl _ w) q), below_drewN (Below.refl _ w) q⟩
end Go.Proofs.Ytkhjpmefekonhaa.Pt

namespace Go.Proofs.Ytkhjpmefekonhaa.Pt
open Go.RowKit Go.Proofs.Ytkhjpmefekonhaa.Jd Go.Proofs.Ytkhjpmefekonhaa.Cl
set_option maxRecDepth 100000

theorem sees_tail {w : World} {B b o n c : Nat} {v : Value} {vs : List Value} (h : SeesV w B (some ⟨b, o, none⟩) (n + 1) (v :: vs)) (hc : n + 1 ≤ c) : SeesV w B (if c = 1 then some ⟨b, o, none⟩ else some ⟨b, o + 1, none⟩) n vs := by
  have hl := h.len
  simp only [List.length_cons] at hl
  refine ⟨by omega, fun j u hu => ?_⟩
  have hj : j < vs.length := by
    rcases Nat.lt_or_ge j vs.length with g | g
    · exact g
    · rw [List.getElem?_eq_none g] at hu; cases hu
  rw [if_neg (by omega)]
  obtain ⟨b', o', e, hb, hcl⟩ := h.cell (j + 1) u (by simpa using hu)
  cases e
  exact ⟨b, o + 1, rfl, hb, by rw [show o + 1 + j = o + (j + 1) by omega]; exact hcl⟩

set_option maxHeartbeats 2000000 in
theorem rput_any {x : Tr} : ∀ (ps : List ByteArray) (t : Tr) (A Ap Ax : Option Addr) (n c np cp nx cx : Nat) (w : World), OkT w A n c t → OkT w Ax nx cx x → SeesV w w.heap.size Ap np (ps.map Value.string) → np ≤ cp → t.size ≤ 274877906944 →
    Calls Try.prog 23 #[.slice A n c, .slice Ap np cp, .slice Ax nx cx] w (OkP w (putT t ps x))
  | [], t, A, Ap, Ax, n, c, np, cp, nx, cx, w, ht, hx, hp, hcp, hz => by
    obtain rfl : np = 0 := by have := hp.len; simpa using this
    rw [show putT t [] x = x by cases t <;> rfl]
    have HX := Lib.hid hx
    clear ht hx hp hz
    go_enter Try.func23, Try.ntmps23
    go_wp2_with fail
    go_ret
    exact ⟨Ax, nx, cx, rfl, HX.out, Below.refl _ _⟩
  | p :: ps, t, A, Ap, Ax, n, c, np, cp, nx, cx, w, ht, hx, hp, hcp, hz => by
    obtain ⟨m, rfl⟩ : ∃ m, np = m + 1 := by have := hp.len; simp only [List.length_map, List.length_cons] at this; exact ⟨_, this⟩
    obtain ⟨b, o, rfl, hb, hc0⟩ := hp.str (j := 0) (by omega)
    have hc1 : w.cell? ⟨b, o, none⟩ = some (.string p) := by simpa using hc0
    have hpt := sees_tail (vs := ps.map Value.string) hp hcp
    have hl := ht.holds.len
    have hls := t.len_size
    have HK := Lib.hid (kid2_any t A n c w.heap.size p w ht.holds (Nat.le_refl _) (by omega))
    have HC := Lib.hid (fun (W : World) (hW : Below w.heap.size w W) (A' : Option Addr) (n' c' : Nat) (hk : OkT W A' n' c' (kidT t p)) => rput_any (x := x) ps (kidT t p) A' _ Ax n' c' m (cp - 1) nx cx W hk (hx.below hW) (seesV_more (hpt.below hW) hW.size) (by omega) (Nat.le_trans (kidT_size t p) hz))
    have HT := Lib.hid ht
    have hn5 : n ≤ 549755813888 := by omega
    have e : putT t (p :: ps) x = t.withT p (putT (kidT t p) ps x) := rfl
    rw [e]
    obtain ⟨y, hy⟩ : ∃ y, y = putT (kidT t p) ps x := ⟨_, rfl⟩
    rw [← hy] at HC ⊢
    have hcap := ht.cap.1
    clear hc0 hp hpt hl hls hx hz e hy ht
    by_cases hone : cp = 1
    · subst hone
      obtain rfl : m = 0 := by omega
      simp only [Nat.zero_add, if_true, Nat.sub_self] at HC ⊢
      go_enter Try.func23, Try.ntmps23
      go_wp2_with fail
      (with_reducible refine HK.out.mono ?_)
      rintro e w1 ⟨A', n', c', rfl, hk', hn', hc', q, hw1⟩
      have hb1 : Below w.heap.size w w1 := by rw [hw1]; exact below_drewN (Below.refl _ _) q
      have hc1' := (hb1.cell (p := ⟨b, o, none⟩) hb).trans hc1
      have hbd : Below w.heap.size w w1.drew := hb1.drew
      have HOk := Lib.hid (show OkT w1.drew A' n' c' (kidT t p) from ⟨(hk'.below hbd).more hbd.size, hn', hc'⟩)
      have hbl : b < w1.heap.size := Nat.lt_of_lt_of_le hb hb1.size
      clear hk' hw1
      go_wp2_with fail
      go_region_held3 (fun w' => w'.cell? ⟨b, o, none⟩ = some (.string p)) (first | exact hc1' | exact hs3 | exact hs4)
        (first
        | (go_at_call 23; refine (HC.out _ hbd A' n' c' HOk.out).mono ?_; rintro e w3 ⟨A3, n3, c3, rfl, ox, hb3⟩; have hs3 := (hb3.cell (p := ⟨b, o, none⟩) hbl).trans hc1'; have hb03 := hbd.trans (hb3.mono hbd.size); have hA3 := (HT.out.below hb03).holds)
        | (go_at_call 46; refine (with_any t y A A3 n c n3 c3 w3.heap.size p w3 hA3 ox.holds (Nat.le_refl _) hn5 hcap ox.cap.1 ox.cap.2).mono ?_; rintro e w4 ⟨A4, n5, c4, rfl, hx4, hn5', hm4, hb4⟩; have hs4 := (hb4.cell (p := ⟨b, o, none⟩) (Nat.lt_of_lt_of_le hbl hb3.size)).trans hs3))
      all_goals
        go_wp2_with fail
        go_ret
        exact ⟨A4, n5, c4, rfl, ⟨hx4, hn5', hm4⟩, hb03.trans (hb4.mono hb03.size)⟩
    · rw [if_neg hone] at HC
      have hone' : ¬ (cp : Int) = 1 := by omega
      have hm1 : (1 : Int) ≤ (m : Int) + 1 := by omega
      have hm0 : ((m : Int) + 1 == 0) = false := by simp; omega
      have hm2 : ¬ (m : Int) + 1 = 0 := by omega
      have hcp1 : (m : Int) + 1 ≤ (cp : Int) := by omega
      have hcp2 : (1 : Int) ≤ (cp : Int) := by omega
      have hm3 : (0 : Int) < (m : Int) + 1 := by omega
      go_enter Try.func23, Try.ntmps23
      go_wp2_with fail
      (with_reducible refine HK.out.mono ?_)
      rintro e w1 ⟨A', n', c', rfl, hk', hn', hc', q, hw1⟩
      have hb1 : Below w.heap.size w w1 := by rw [hw1]; exact below_drewN (Below.refl _ _) q
      have hc1' := (hb1.cell (p := ⟨b, o, none⟩) hb).trans hc1
      have hbd : Below w.heap.size w w1.drew := hb1.drew
      have HOk := Lib.hid (show OkT w1.drew A' n' c' (kidT t p) from ⟨(hk'.below hbd).more hbd.size, hn', hc'⟩)
      have hbl : b < w1.heap.size := Nat.lt_of_lt_of_le hb hb1.size
      clear hk' hw1
      go_wp2_with fail
      go_region_held3 (fun w' => w'.cell? ⟨b, o, none⟩ = some (.string p)) (first | exact hc1' | exact hs3 | exact hs4)
        (first
        | (go_at_call 23; refine (HC.out _ hbd A' n' c' HOk.out).mono ?_; rintro e w3 ⟨A3, n3, c3, rfl, ox, hb3⟩; have hs3 := (hb3.cell (p := ⟨b, o, none⟩) hbl).trans hc1'; have hb03 := hbd.trans (hb3.mono hbd.size); have hA3 := (HT.out.below hb03).holds)
        | (go_at_call 46; refine (with_any t y A A3 n c n3 c3 w3.heap.size p w3 hA3 ox.holds (Nat.le_refl _) hn5 hcap ox.cap.1 ox.cap.2).mono ?_; rintro e w4 ⟨A4, n5, c4, rfl, hx4, hn5', hm4, hb4⟩; have hs4 := (hb4.cell (p := ⟨b, o, none⟩) (Nat.lt_of_lt_of_le hbl hb3.size)).trans hs3))
      all_goals
        go_wp2_with fail
        go_ret
        exact ⟨A4, n5, c4, rfl, ⟨hx4, hn5', hm4⟩, hb03.trans (hb4.mono hb03.size)⟩
end Go.Proofs.Ytkhjpmefekonhaa.Pt

namespace Go.Proofs.Ytkhjpmefekonhaa.Pt
open Go.RowKit Go.Proofs.Ytkhjpmefekonhaa.Jd Go.Proofs.Ytkhjpmefekonhaa.Cl
set_option maxRecDepth 100000

set_option maxHeartbeats 2000000 in
theorem rdrop_any : ∀ (ps : List ByteArray) (t : Tr) (A Ap : Option Addr) (n c np cp : Nat) (w : World), OkT w A n c t → SeesV w w.heap.size Ap np (ps.map Value.string) → np ≤ cp → ps.length ≤ 1000000 → t.size ≤ 274877906944 →
    Calls Try.prog 25 #[.slice A n c, .slice Ap np cp] w (OkP w (dropP t ps))
  | [], t, A, Ap, n, c, np, cp, w, ht, hp, hcp, hps, hz => by
    obtain rfl : np = 0 := by have := hp.len; simpa using this
    rw [show dropP t [] = .nil by cases t <;> rfl]
    clear ht hp hz
    go_enter Try.func25, Try.ntmps25
    go_wp2_with fail
    go_ret
    exact ⟨none, 0, 0, rfl, ⟨rfl, Nat.le_refl _, Nat.zero_le _⟩, Below.refl _ _⟩
  | p :: ps, t, A, Ap, n, c, np, cp, w, ht, hp, hcp, hps, hz => by
    obtain ⟨m, rfl⟩ : ∃ m, np = m + 1 := by have := hp.len; simp only [List.length_map, List.length_cons] at this; exact ⟨_, this⟩
    have hml : m = ps.length := by have := hp.len; simp only [List.length_map, List.length_cons] at this; omega
    have hmb : m ≤ 1000000 := by simp only [List.length_cons] at hps; omega
    obtain ⟨b, o, rfl, hb, hc0⟩ := hp.str (j := 0) (by omega)
    have hc1 : w.cell? ⟨b, o, none⟩ = some (.string p) := by simpa using hc0
    have hpt := sees_tail (vs := ps.map Value.string) hp hcp
    have hl := ht.holds.len
    have hls := t.len_size
    have HK := Lib.hid (kid2_any t A n c w.heap.size p w ht.holds (Nat.le_refl _) (by omega))
    have HT := Lib.hid ht
    have hn5 : n ≤ 549755813888 := by omega
    have hcap := ht.cap.1
    have hm0 : ((m : Int) + 1 == 0) = false := by simp; omega
    have hm2 : ¬ (m : Int) + 1 = 0 := by omega
    have hm3 : (0 : Int) < (m : Int) + 1 := by omega
    by_cases hi : t.atIs p = true
    case neg =>
      have hi2 : t.atIs p = false := by simpa using hi
      have e : dropP t (p :: ps) = t := by cases ps <;> simp [dropP, hi2]
      rw [e]
      rw [hi2] at HK
      clear hc0 hp hpt hl hls hz e hi hi2 ht
      go_enter Try.func25, Try.ntmps25
      go_wp2_with fail
      (with_reducible refine HK.out.mono ?_)
      rintro e w1 ⟨A', n', c', rfl, hk', hn', hc', q, hw1⟩
      have HB1 : Hid (Below w.heap.size w w1) := Lib.hid (by rw [hw1]; exact below_drewN (Below.refl _ _) q)
      clear hk' hw1
      go_wp2_with fail
      go_ret
      exact ⟨A, n, c, rfl, HT.out.below HB1.out, HB1.out⟩
    rw [hi] at HK
    cases ps with
    | nil =>
      obtain rfl : m = 0 := by simpa using hml
      have e : dropP t [p] = withoutT t p := by simp [dropP, hi]
      rw [e]
      have HC := Lib.hid (fun (W : World) (hW : Below w.heap.size w W) => rwithout_any t A n c p W (ht.below hW) hn5)
      simp only [Nat.zero_add]
      clear hc0 hp hpt hl hls hz e hi ht hm0 hm2 hm3 hml hmb
      go_enter Try.func25, Try.ntmps25
      go_wp2_with fail
      (with_reducible refine HK.out.mono ?_)
      rintro e w1 ⟨A', n', c', rfl, hk', hn', hc', q, hw1⟩
      have hb1 : Below w.heap.size w w1 := by rw [hw1]; exact below_drewN (Below.refl _ _) q
      have hc1' := (hb1.cell (p := ⟨b, o, none⟩) hb).trans hc1
      clear hk' hw1
      go_wp2_with fail
      (with_reducible refine (HC.out w1 hb1).mono ?_)
      rintro e w2 ⟨A2, n2, c2, rfl, o2, hb2⟩
      have H2 := Lib.hid o2
      have HB2 := Lib.hid hb2
      clear o2 hb2
      go_wp2_with fail
      go_ret
      exact ⟨A2, n2, c2, rfl, H2.out, hb1.trans (HB2.out.mono hb1.size)⟩
    | cons p2 ps =>
      obtain ⟨m2, rfl⟩ : ∃ m2, m = m2 + 1 := ⟨ps.length, by simpa using hml⟩
      have e : dropP t (p :: p2 :: ps) = t.withT p (dropP (kidT t p) (p2 :: ps)) := by simp [dropP, hi]
      rw [e]
      have HC := Lib.hid (fun (W : World) (hW : Below w.heap.size w W) (A' : Option Addr) (n' c' : Nat) (hk : OkT W A' n' c' (kidT t p)) => rdrop_any (p2 :: ps) (kidT t p) A' _ n' c' (m2 + 1) (cp - 1) W hk (seesV_more (hpt.below hW) hW.size) (by omega) (by simp only [List.length_cons] at hps ⊢; omega) (Nat.le_trans (kidT_size t p) hz))
      obtain ⟨y, hy⟩ : ∃ y, y = dropP (kidT t p) (p2 :: ps) := ⟨_, rfl⟩
      rw [← hy] at HC ⊢
      rw [if_neg (by omega)] at HC
      have hone : ¬ cp = 1 := by omega
      have hone' : ¬ (cp : Int) = 1 := by omega
      have hq1 : (1 : Int) ≤ ((m2 + 1 : Nat) : Int) + 1 := by omega
      have hcp1 : ((m2 + 1 : Nat) : Int) + 1 ≤ (cp : Int) := by omega
      have hcp2 : (1 : Int) ≤ (cp : Int) := by omega
      obtain ⟨m, hm⟩ : ∃ m, m = m2 + 1 := ⟨_, rfl⟩
      have hmp : 1 ≤ m := by omega
      rw [← hm] at hq1 hcp1 HC hm0 hm2 hm3 hmb ⊢
      have hne1 : ((m : Int) + 1 == 1) = false := by simp; omega
      have hne1' : ¬ (m : Int) + 1 = 1 := by omega
      have hne2 : ¬ (m : Int) = 0 := by omega
      have hne2' : ¬ m = 0 := by omega
      clear hc0 hp hpt hl hls hz e hi ht hy hm hml hps
      go_enter Try.func25, Try.ntmps25
      go_wp2_with fail
      (with_reducible refine HK.out.mono ?_)
      rintro e w1 ⟨A', n', c', rfl, hk', hn', hc', q, hw1⟩
      have hb1 : Below w.heap.size w w1 := by rw [hw1]; exact below_drewN (Below.refl _ _) q
      have hc1' := (hb1.cell (p := ⟨b, o, none⟩) hb).trans hc1
      have hbd : Below w.heap.size w w1.drew := hb1.drew
      have HOk := Lib.hid (show OkT w1.drew A' n' c' (kidT t p) from ⟨(hk'.below hbd).more hbd.size, hn', hc'⟩)
      have hbl : b < w1.heap.size := Nat.lt_of_lt_of_le hb hb1.size
      clear hk' hw1
      go_wp2_with fail
      go_region_held3 (fun w' => w'.cell? ⟨b, o, none⟩ = some (.string p)) (first | exact hc1' | exact hs3 | exact hs4)
        (first
        | (go_at_call 25; refine (HC.out _ hbd A' n' c' HOk.out).mono ?_; rintro e w3 ⟨A3, n3, c3, rfl, ox, hb3⟩; have hs3 := (hb3.cell (p := ⟨b, o, none⟩) hbl).trans hc1'; have hb03 := hbd.trans (hb3.mono hbd.size); have hA3 := (HT.out.below hb03).holds)
        | (go_at_call 46; refine (with_any t y A A3 n c n3 c3 w3.heap.size p w3 hA3 ox.holds (Nat.le_refl _) hn5 hcap ox.cap.1 ox.cap.2).mono ?_; rintro e w4 ⟨A4, n5, c4, rfl, hx4, hn5', hm4, hb4⟩; have hs4 := (hb4.cell (p := ⟨b, o, none⟩) (Nat.lt_of_lt_of_le hbl hb3.size)).trans hs3))
      all_goals
        go_wp2_with fail
        go_ret
        exact ⟨A4, n5, c4, rfl, ⟨hx4, hn5', hm4⟩, hb03.trans (hb4.mono hb03.size)⟩
end Go.Proofs.Ytkhjpmefekonhaa.Pt

namespace Go.Proofs.Ytkhjpmefekonhaa.Pt
open Go.RowKit Go.Proofs.Ytkhjpmefekonhaa.Jd Go.Proofs.Ytkhjpmefekonhaa.Cl
set_option maxRecDepth 100000

theorem withT_mem' {name : ByteArray} {x : Tr} {y : List UInt8} : ∀ {t : Tr}, y = name.data.toList ∨ y ∈ t.bn → y ∈ (t.withT name x).bn
  | .nil, h => by
    rw [show Tr.nil.withT name x = .cons name x .nil from rfl, bn_cons, List.mem_cons]
    exact h
  | .cons s k r, h => by
    rcases cases3 s name with c1 | ⟨c1, c2⟩ | ⟨c1, c2, _⟩
    · rw [withT_lt c1, bn_cons, List.mem_cons]
      rw [bn_cons, List.mem_cons] at h
      rcases h with h | h | h
      · exact .inr (withT_mem' (.inl h))
      · exact .inl h
      · exact .inr (withT_mem' (.inr h))
    · have e := names_of_eq c2
      rw [withT_eq c1 c2, bn_cons, List.mem_cons]
      rw [bn_cons, List.mem_cons] at h
      rcases h with h | h | h
      · exact .inl h
      · exact .inl (by rw [h, e])
      · exact .inr h
    · rw [withT_gt c1 c2, bn_cons, List.mem_cons]
      exact h
def insAll (L : List ByteArray) : Tr := L.foldl (fun acc s => acc.withT s .nil) .nil
theorem insAll_snoc (L : List ByteArray) (s : ByteArray) : insAll (L ++ [s]) = (insAll L).withT s .nil := by simp [insAll]
theorem insAll_facts : ∀ L : List ByteArray, AscD (insAll L) ∧ (insAll L).len ≤ L.length ∧ ∀ y, y ∈ (insAll L).bn ↔ y ∈ L.map (·.data.toList) := by
  suffices h : ∀ (n : Nat) (L : List ByteArray), L.length = n → AscD (insAll L) ∧ (insAll L).len ≤ L.length ∧ ∀ y, y ∈ (insAll L).bn ↔ y ∈ L.map (·.data.toList) from fun L => h _ L rfl
  intro n
  induction n with
  | zero =>
    intro L hL
    obtain rfl : L = [] := List.length_eq_zero_iff.1 hL
    exact ⟨trivial, Nat.le_refl _, fun y => Iff.rfl⟩
  | succ n ih =>
    intro L hL
    obtain ⟨M, s, rfl⟩ : ∃ M s, L = M ++ [s] := ⟨L.dropLast, L.getLast (by intro e; rw [e] at hL; simp at hL), (List.dropLast_concat_getLast _).symm⟩
    obtain ⟨h1, h2, h3⟩ := ih M (by simpa using hL)
    rw [insAll_snoc]
    refine ⟨withT_ascD (show AscD .nil from trivial) h1, ?_, fun y => ?_⟩
    · have := withT_len s .nil (insAll M)
      rw [List.length_append]
      simp only [List.length_cons, List.length_nil]
      omega
    · rw [List.map_append, List.mem_append, ← h3]
      constructor
      · intro hy
        rcases withT_mem hy with e | e
        · exact .inr (by simp [e])
        · exact .inl e
      · rintro (hy | hy)
        · exact withT_mem' (.inr hy)
        · exact withT_mem' (.inl (by simpa using hy))
theorem insAll_bn (L : List ByteArray) : (insAll L).bn = namesOf L := by
  obtain ⟨h1, _, h3⟩ := insAll_facts L
  exact asc_eq h1.asc (namesOf_pair _) (fun x => (h3 x).trans (namesOf_mem L x).symm)
theorem strs_enc (l : List ByteArray) : strs l = (l.map (·.data.toList)).map encs := by
  simp only [strs, List.map_map]
  exact List.map_congr_left fun s _ => rfl
theorem own_seesV {w : World} {base n c : Nat} {A : Option Addr} {e : TypeId} {vs : List Value} (ho : w.ownsRow base e 1 (.slice A n c) n vs) : SeesV w w.heap.size A n vs := by
  have hl := ho.1
  refine ⟨by omega, fun j u hu => ?_⟩
  rcases ho.2 with ⟨e1, hn0⟩ | ⟨g, cap, cur, e1, _, hh, _⟩
  · obtain rfl : vs = [] := List.length_eq_zero_iff.1 (by omega)
    cases hu
  · injection e1 with e1 e2 e3
    subst e1
    have := rowCells ho j u hu
    rw [Addr.add_lit] at this
    exact ⟨g, 0, rfl, (Array.getElem?_eq_some_iff.1 hh).1, this⟩

set_option maxHeartbeats 2000000 in
theorem rnames_any (xs : List Slc) (A0 : Option Addr) (n0 c0 B : Nat) (w : World) (hx : Forest w B A0 xs) (hn0 : n0 = xs.length) (hB : B ≤ w.heap.size) (hsz : (allNames xs).length ≤ 549755813888) (hl : xs.length ≤ 549755813888) :
    Calls Try.prog 31 #[.slice A0 n0 c0] w fun e w' => ∃ A' c', e = .returned (.slice A' (namesOf (allNames xs)).length c') ∧ SeesV w' w'.heap.size A' (namesOf (allNames xs)).length ((namesOf (allNames xs)).map encs) ∧ Below w.heap.size w w' := by
  have Hn0 := Lib.hid hn0
  have hnb : n0 ≤ 549755813888 := by omega
  have Hsz := Lib.hid hsz
  clear hn0 hsz
  go_enter Try.func31, Try.ntmps31
  go_wp2_with fail
  go_loopw [3, 4] (fun s i wr => ∃ (k : Nat) (A : Option Addr) (N c : Nat), k ≤ n0 ∧ i = .int .i64 k ∧ s = .slice A N c ∧ OkT wr A N c (insAll (allNames (xs.take k))) ∧ Below w.heap.size w wr) (fun _ i _ => n0 - (intOf i).toNat)
  case atStart => exact ⟨0, none, 0, 0, Nat.zero_le _, rfl, rfl, ⟨rfl, Nat.le_refl _, Nat.zero_le _⟩, Below.refl _ _⟩
  case round =>
    obtain ⟨k, A, N, c, hk, rfl, rfl, ho, hb⟩ := hrel
    by_cases hlt : k < n0
    · obtain ⟨x, hxk⟩ : ∃ x, xs[k]? = some x := ⟨xs[k]'(by have := Hn0.out; omega), List.getElem?_eq_getElem _⟩
      obtain ⟨b, o, rfl, hbB, hcx, hh⟩ := hx k x hxk
      obtain ⟨xa, xn, xc, t⟩ := x
      simp only at hcx hh
      have hcw := (hb.cell (p := ⟨b, o + k, none⟩) (show b < w.heap.size by omega)).trans hcx
      have hkn : (k : Int) < (n0 : Int) := by omega
      have hk0 : (0 : Int) ≤ (k : Int) := by omega
      have hkb : k ≤ 549755813888 := by omega
      have Hn := Lib.hid hh.len
      have hap : Hid (allNames (xs.take (k + 1)) = allNames (xs.take k) ++ t.names) := by
        rw [List.take_add_one, hxk]
        exact Lib.hid (by simp [allNames])
      have hle : Hid ((allNames (xs.take (k + 1))).length ≤ 549755813888) := by
        have : (allNames (xs.take (k + 1))).length ≤ (allNames xs).length := by
          conv => rhs; rw [← List.take_append_drop (k + 1) xs]
          simp only [allNames, List.flatMap_append, List.length_append]
          omega
        exact Lib.hid (Nat.le_trans this Hsz.out)
      have hxn : xn ≤ 549755813888 := by
        have h1 := hle.out
        rw [hap.out, List.length_append, names_length] at h1
        have := Hn.out
        omega
      have hbw : b < w.heap.size := by omega
      have HO := Lib.hid ho
      clear hcx ho
      go_wp2_with fail
      go_loopw [3, 5] (fun s i wl => ∃ (j : Nat) (A : Option Addr) (N c : Nat), j ≤ xn ∧ i = .int .i64 j ∧ s = .slice A N c ∧ Hid (OkT wl A N c (insAll (allNames (xs.take k) ++ t.names.take j))) ∧ Below w.heap.size w wl) (fun _ i _ => xn - (intOf i).toNat)
      case atStart => exact ⟨0, A, N, c, Nat.zero_le _, rfl, rfl, by rw [List.take_zero, List.append_nil]; exact HO, hb⟩
      case round =>
        clear HO
        obtain ⟨j, A, N, c, hj, rfl, rfl, HO, hbl⟩ := hrel
        have hcl := (hbl.cell (p := ⟨b, o + k, none⟩) hbw).trans ((hb.cell (p := ⟨b, o + k, none⟩) hbw).symm.trans hcw)
        by_cases hlj : j < xn
        · obtain ⟨b2, o2, s, kt, r, A', n', c', rfl, hb2, hs2, hc2, hn', hc', hk', hr, hd, hd2⟩ := (hh.keep fun p hp => hbl.cell (Nat.lt_of_lt_of_le hp hB)).split j hlj
          have hjn : (j : Int) < (xn : Int) := by omega
          have hj0 : (0 : Int) ≤ (j : Int) := by omega
          have ht1 : Hid (insAll (allNames (xs.take k) ++ t.names.take (j + 1)) = (insAll (allNames (xs.take k) ++ t.names.take j)).withT s .nil) := by
            have h1 := names_drop t j
            rw [hd] at h1
            have h2 : t.names[j]? = some s := by
              have := congrArg (·[0]?) h1
              simp [Tr.names] at this
              exact this.symm
            rw [List.take_add_one, h2, ← insAll_snoc]
            exact Lib.hid (by simp)
          have hN2 : N ≤ 549755813888 := by
            have h1 := hle.out
            have h3 := (insAll_facts (allNames (xs.take k) ++ t.names.take j)).2.1
            rw [hap.out, List.length_append, names_length] at h1
            rw [List.length_append, List.length_take, names_length] at h3
            have := HO.out.holds.len
            omega
          have hcap := HO.out.cap.1
          have HC := Lib.hid (with_any (insAll (allNames (xs.take k) ++ t.names.take j)) .nil A none N c 0 0 wr.heap.size s wr HO.out.holds rfl (Nat.le_refl _) hN2 hcap (Nat.le_refl _) (Nat.zero_le _))
          clear hd hd2 hr HO hN2 hcap
          go_wp2_with fail
          (with_reducible refine HC.out.mono ?_)
          rintro e w2 ⟨A2, n2, c2, rfl, hx2, hn2, hm2, hb2'⟩
          have Hx2 := Lib.hid hx2
          clear hx2
          go_wp2_with fail
          go_roundw
          case rel => exact ⟨j + 1, A2, n2, c2, by omega, by go_num, rfl, by rw [ht1.out]; exact Lib.hid ⟨Hx2.out, hn2, hm2⟩, hbl.trans (hb2'.mono hbl.size)⟩
          case measure => simp [intOf]; omega
        · obtain rfl : j = xn := by omega
          have ho' : OkT wr A N c (insAll (allNames (xs.take (k + 1)))) := by
            have ho := HO.out
            rw [hap.out]
            rw [List.take_of_length_le (l := t.names) (by rw [names_length, Hn.out]; exact Nat.le_refl _)] at ho
            exact ho
          clear HO
          go_wp2_with fail
          go_roundw
          case rel => exact ⟨k + 1, A, N, c, by omega, by go_num, rfl, ho', hbl⟩
          case measure => simp [intOf]; omega
    · obtain rfl : k = n0 := by omega
      rw [List.take_of_length_le (by have := Hn0.out; omega)] at ho
      obtain ⟨T, hT⟩ : ∃ T, T = insAll (allNames xs) := ⟨_, rfl⟩
      have hbn := insAll_bn (allNames xs)
      have hTl := (insAll_facts (allNames xs)).2.1
      rw [← hT] at ho hbn hTl
      have Hbn := Lib.hid hbn
      have hNl := ho.holds.len
      have HNl := Lib.hid hNl
      have hNb : N ≤ 549755813888 := by have := Hsz.out; omega
      have HO := Lib.hid ho
      clear hT hbn hTl hNl ho hlt
      go_wp2_with fail
      go_loopw [6, 7] (fun s i wl => ∃ (j : Nat) (A' : Option Addr) (M c' : Nat), j ≤ N ∧ i = .int .i64 j ∧ s = .slice A' M c' ∧ wl.ownsRow wr.heap.size 9 1 (.slice A' M c') M (strs (T.names.take j)) ∧ Below wr.heap.size wr wl) (fun _ i _ => N - (intOf i).toNat)
      case atStart => exact ⟨0, none, 0, 0, Nat.zero_le _, rfl, rfl, World.ownsRow_nil _ _ _ _, Below.refl _ _⟩
      case round =>
        obtain ⟨j, A', M, c', hj, rfl, rfl, ho, hbl⟩ := hrel
        have hM : M = (T.names.take j).length := by
          have := ho.1
          simp only [strs, List.length_map] at this
          omega
        by_cases hlj : j < N
        · obtain ⟨b2, o2, s, kt, r, Ak, nk, ck, rfl, hb2, hs2, hc2, hnk, hck, hk', hr, hd, hd2⟩ := (HO.out.holds.below hbl).split j hlj
          have hjn : (j : Int) < (N : Int) := by omega
          have hj0 : (0 : Int) ≤ (j : Int) := by omega
          have ht1 : Hid (strs (T.names.take j) ++ strs [s] = strs (T.names.take (j + 1))) := by
            have h1 := names_drop T j
            rw [hd] at h1
            have h2 : T.names[j]? = some s := by
              have := congrArg (·[0]?) h1
              simp [Tr.names] at this
              exact this.symm
            rw [List.take_add_one, h2]
            exact Lib.hid (by simp [strs])
          have hM2 : M + 1 ≤ 1099511627776 := by
            rw [List.length_take] at hM
            omega
          have hsz1 := hbl.size
          have hbx : b2 < wr.heap.size := by omega
          have hsrc : ∀ (W : World) (g : Nat), g = W.heap.size → Src Try.prog 1 40 (.slice (some ⟨g, 0, none⟩) 1 1) 1 (strs [s]) (W.alloc (Obj.cells #[Value.string s] 9)) := fun W g hg =>
            hg ▸ Src.laid Try.underlying40 rfl (fun j u hu => by rw [cell_of_row _ _ _ _ _ _ (heap_alloc_new W _), ← hu]; simp [strs]) (strs_one _)
          clear hd hd2 hr hM hk' hc2
          go_wp2_with (at_builtin; refine wpList_append_row rfl (.tmp 39) (.tmp 45) _ _ rfl elem_str rfl rfl (ho.alloc _) (hsrc _ _ rfl) hM2 (by simp; omega) ?_; intro A2 c2 w2 ho2 hg2 hat2)
          have hb2' := (hbl.alloc hbl.size _).grown hg2 (by simp; omega) (fun q hq => (ho.lt q hq).1)
          go_roundw
          case rel => exact ⟨j + 1, A2, M + 1, c2, by omega, by go_num, rfl, by rw [← ht1.out]; exact ho2, hb2'⟩
          case measure => simp [intOf]; omega
        · obtain rfl : j = N := by omega
          rw [List.take_of_length_le (by rw [names_length, ← HNl.out]; exact Nat.le_refl _)] at ho hM
          have hsee := own_seesV ho
          rw [strs_enc, show T.names.map (·.data.toList) = namesOf (allNames xs) from Hbn.out] at hsee
          have hML : M = (namesOf (allNames xs)).length := by
            have := hsee.len
            rwa [List.length_map] at this
          have HS := Lib.hid hsee
          have HML := Lib.hid hML
          clear ho hM hML hsee hlj
          go_wp2_with fail
          go_ret
          exact ⟨A', c', by rw [← HML.out]; rfl, by rw [← HML.out]; exact HS.out, hb.trans (hbl.mono hb.size)⟩
end Go.Proofs.Ytkhjpmefekonhaa.Pt
