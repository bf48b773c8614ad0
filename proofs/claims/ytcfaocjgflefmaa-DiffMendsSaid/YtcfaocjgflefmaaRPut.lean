/- Put and Drop of the reference. Conditions: fewer edges than 2^38. -/
import Derived.Test.YtcfaocjgflefmaaRWithout
import Derived.Deep.RegionHeld3
import Derived.IntWalk
import Derived.Outline
namespace Go.Proofs.Ytcfaocjgflefmaa.Pt
open Go.RowKit
set_option maxRecDepth 100000

theorem sees_tail {w : World} {B b o n c : Nat} {v : Value} {vs : List Value} (h : SeesV w B (some ⟨b, o, none⟩) (n + 1) (v :: vs)) (hc : n + 1 ≤ c) : SeesV w B (if c = 1 then some ⟨b, o, none⟩ else some ⟨b, o + 1, none⟩) n vs := by
  have hl := h.len
  simp only [List.length_cons] at hl
  refine ⟨by omega, fun j u hu => ?_⟩
  have hj : j < vs.length := by
    rcases Nat.lt_or_ge j vs.length with g | g
    · exact g
    · rw [List.getElem?_eq_none g] at hu; cases hu
  rw [if_neg (by omega)]
  obtain ⟨b', o', e, hb, hcl⟩ := h.cell (j + 1) u (by simpa using hu)
  cases e
  exact ⟨b, o + 1, rfl, hb, by rw [show o + 1 + j = o + (j + 1) by omega]; exact hcl⟩

set_option maxHeartbeats 2000000 in
theorem rput_any {x : Tr} : ∀ (ps : List ByteArray) (t : Tr) (A Ap Ax : Option Addr) (n c np cp nx cx : Nat) (w : World), OkT w A n c t → OkT w Ax nx cx x → SeesV w w.heap.size Ap np (ps.map Value.string) → np ≤ cp → t.size ≤ 274877906944 →
    Calls Try.prog 18 #[.slice A n c, .slice Ap np cp, .slice Ax nx cx] w (OkP w (putT t ps x))
  | [], t, A, Ap, Ax, n, c, np, cp, nx, cx, w, ht, hx, hp, hcp, hz => by
    obtain rfl : np = 0 := by have := hp.len; simpa using this
    rw [show putT t [] x = x by cases t <;> rfl]
    have HX := Lib.hid hx
    clear ht hx hp hz
    go_enter Try.func18, Try.ntmps18
    go_wp2_with fail
    go_ret
    exact ⟨Ax, nx, cx, rfl, HX.out, Below.refl _ _⟩
  | p :: ps, t, A, Ap, Ax, n, c, np, cp, nx, cx, w, ht, hx, hp, hcp, hz => by
    obtain ⟨m, rfl⟩ : ∃ m, np = m + 1 := by have := hp.len; simp only [List.length_map, List.length_cons] at this; exact ⟨_, this⟩
    obtain ⟨b, o, rfl, hb, hc0⟩ := hp.str (j := 0) (by omega)
    have hc1 : w.cell? ⟨b, o, none⟩ = some (.string p) := by simpa using hc0
    have hpt := sees_tail (vs := ps.map Value.string) hp hcp
    have hl := ht.holds.len
    have hls := t.len_size
    have HK := Lib.hid (kid2_any t A n c w.heap.size p w ht.holds (Nat.le_refl _) (by omega))
    have HC := Lib.hid (fun (W : World) (hW : Below w.heap.size w W) (A' : Option Addr) (n' c' : Nat) (hk : OkT W A' n' c' (kidT t p)) => rput_any (x := x) ps (kidT t p) A' _ Ax n' c' m (cp - 1) nx cx W hk (hx.below hW) (seesV_more (hpt.below hW) hW.size) (by omega) (Nat.le_trans (kidT_size t p) hz))
    have HT := Lib.hid ht
    have hn5 : n ≤ 549755813888 := by omega
    have e : putT t (p :: ps) x = t.withT p (putT (kidT t p) ps x) := rfl
    rw [e]
    obtain ⟨y, hy⟩ : ∃ y, y = putT (kidT t p) ps x := ⟨_, rfl⟩
    rw [← hy] at HC ⊢
    have hcap := ht.cap.1
    clear hc0 hp hpt hl hls hx hz e hy ht
    by_cases hone : cp = 1
    · subst hone
      obtain rfl : m = 0 := by omega
      simp only [Nat.zero_add, if_true, Nat.sub_self] at HC ⊢
      go_enter Try.func18, Try.ntmps18
      go_wp2_with fail
      (with_reducible refine HK.out.mono ?_)
      rintro e w1 ⟨A', n', c', rfl, hk', hn', hc', q, hw1⟩
      have hb1 : Below w.heap.size w w1 := by rw [hw1]; exact below_drewN (Below.refl _ _) q
      have hc1' := (hb1.cell (p := ⟨b, o, none⟩) hb).trans hc1
      have hbd : Below w.heap.size w w1.drew := hb1.drew
      have HOk := Lib.hid (show OkT w1.drew A' n' c' (kidT t p) from ⟨(hk'.below hbd).more hbd.size, hn', hc'⟩)
      have hbl : b < w1.heap.size := Nat.lt_of_lt_of_le hb hb1.size
      clear hk' hw1
      go_wp2_with fail
      go_region_held3 (fun w' => w'.cell? ⟨b, o, none⟩ = some (.string p)) (first | exact hc1' | exact hs3 | exact hs4)
        (first
        | (go_at_call 18; refine (HC.out _ hbd A' n' c' HOk.out).mono ?_; rintro e w3 ⟨A3, n3, c3, rfl, ox, hb3⟩; have hs3 := (hb3.cell (p := ⟨b, o, none⟩) hbl).trans hc1'; have hb03 := hbd.trans (hb3.mono hbd.size); have hA3 := (HT.out.below hb03).holds)
        | (go_at_call 24; refine (with_any t y A A3 n c n3 c3 w3.heap.size p w3 hA3 ox.holds (Nat.le_refl _) hn5 hcap ox.cap.1 ox.cap.2).mono ?_; rintro e w4 ⟨A4, n5, c4, rfl, hx4, hn5', hm4, hb4⟩; have hs4 := (hb4.cell (p := ⟨b, o, none⟩) (Nat.lt_of_lt_of_le hbl hb3.size)).trans hs3))
      all_goals
        go_wp2_with fail
        go_ret
        exact ⟨A4, n5, c4, rfl, ⟨hx4, hn5', hm4⟩, hb03.trans (hb4.mono hb03.size)⟩
    · rw [if_neg hone] at HC
      have hone' : ¬ (cp : Int) = 1 := by omega
      have hm1 : (1 : Int) ≤ (m : Int) + 1 := by omega
      have hm0 : ((m : Int) + 1 == 0) = false := by simp; omega
      have hm2 : ¬ (m : Int) + 1 = 0 := by omega
      have hcp1 : (m : Int) + 1 ≤ (cp : Int) := by omega
      have hcp2 : (1 : Int) ≤ (cp : Int) := by omega
      have hm3 : (0 : Int) < (m : Int) + 1 := by omega
      go_enter Try.func18, Try.ntmps18
      go_wp2_with fail
      (with_reducible refine HK.out.mono ?_)
      rintro e w1 ⟨A', n', c', rfl, hk', hn', hc', q, hw1⟩
      have hb1 : Below w.heap.size w w1 := by rw [hw1]; exact below_drewN (Below.refl _ _) q
      have hc1' := (hb1.cell (p := ⟨b, o, none⟩) hb).trans hc1
      have hbd : Below w.heap.size w w1.drew := hb1.drew
      have HOk := Lib.hid (show OkT w1.drew A' n' c' (kidT t p) from ⟨(hk'.below hbd).more hbd.size, hn', hc'⟩)
      have hbl : b < w1.heap.size := Nat.lt_of_lt_of_le hb hb1.size
      clear hk' hw1
      go_wp2_with fail
      go_region_held3 (fun w' => w'.cell? ⟨b, o, none⟩ = some (.string p)) (first | exact hc1' | exact hs3 | exact hs4)
        (first
        | (go_at_call 18; refine (HC.out _ hbd A' n' c' HOk.out).mono ?_; rintro e w3 ⟨A3, n3, c3, rfl, ox, hb3⟩; have hs3 := (hb3.cell (p := ⟨b, o, none⟩) hbl).trans hc1'; have hb03 := hbd.trans (hb3.mono hbd.size); have hA3 := (HT.out.below hb03).holds)
        | (go_at_call 24; refine (with_any t y A A3 n c n3 c3 w3.heap.size p w3 hA3 ox.holds (Nat.le_refl _) hn5 hcap ox.cap.1 ox.cap.2).mono ?_; rintro e w4 ⟨A4, n5, c4, rfl, hx4, hn5', hm4, hb4⟩; have hs4 := (hb4.cell (p := ⟨b, o, none⟩) (Nat.lt_of_lt_of_le hbl hb3.size)).trans hs3))
      all_goals
        go_wp2_with fail
        go_ret
        exact ⟨A4, n5, c4, rfl, ⟨hx4, hn5', hm4⟩, hb03.trans (hb4.mono hb03.size)⟩
end Go.Proofs.Ytcfaocjgflefmaa.Pt
