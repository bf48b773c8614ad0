/- Drop of the reference. Conditions: fewer edges than 2^38. -/
import Derived.Test.YtcfaocjgflefmaaRPut
import Derived.Outline
namespace Go.Proofs.Ytcfaocjgflefmaa.Pt
open Go.RowKit
set_option maxRecDepth 100000

set_option maxHeartbeats 2000000 in
theorem rdrop_any : ∀ (ps : List ByteArray) (t : Tr) (A Ap : Option Addr) (n c np cp : Nat) (w : World), OkT w A n c t → SeesV w w.heap.size Ap np (ps.map Value.string) → np ≤ cp → ps.length ≤ 1000000 → t.size ≤ 274877906944 →
    Calls Try.prog 19 #[.slice A n c, .slice Ap np cp] w (OkP w (dropP t ps))
  | [], t, A, Ap, n, c, np, cp, w, ht, hp, hcp, hps, hz => by
    obtain rfl : np = 0 := by have := hp.len; simpa using this
    rw [show dropP t [] = .nil by cases t <;> rfl]
    clear ht hp hz
    go_enter Try.func19, Try.ntmps19
    go_wp2_with fail
    go_ret
    exact ⟨none, 0, 0, rfl, ⟨rfl, Nat.le_refl _, Nat.zero_le _⟩, Below.refl _ _⟩
  | p :: ps, t, A, Ap, n, c, np, cp, w, ht, hp, hcp, hps, hz => by
    obtain ⟨m, rfl⟩ : ∃ m, np = m + 1 := by have := hp.len; simp only [List.length_map, List.length_cons] at this; exact ⟨_, this⟩
    have hml : m = ps.length := by have := hp.len; simp only [List.length_map, List.length_cons] at this; omega
    have hmb : m ≤ 1000000 := by simp only [List.length_cons] at hps; omega
    obtain ⟨b, o, rfl, hb, hc0⟩ := hp.str (j := 0) (by omega)
    have hc1 : w.cell? ⟨b, o, none⟩ = some (.string p) := by simpa using hc0
    have hpt := sees_tail (vs := ps.map Value.string) hp hcp
    have hl := ht.holds.len
    have hls := t.len_size
    have HK := Lib.hid (kid2_any t A n c w.heap.size p w ht.holds (Nat.le_refl _) (by omega))
    have HT := Lib.hid ht
    have hn5 : n ≤ 549755813888 := by omega
    have hcap := ht.cap.1
    have hm0 : ((m : Int) + 1 == 0) = false := by simp; omega
    have hm2 : ¬ (m : Int) + 1 = 0 := by omega
    have hm3 : (0 : Int) < (m : Int) + 1 := by omega
    by_cases hi : t.atIs p = true
    case neg =>
      have hi2 : t.atIs p = false := by simpa using hi
      have e : dropP t (p :: ps) = t := by cases ps <;> simp [dropP, hi2]
      rw [e]
      rw [hi2] at HK
      clear hc0 hp hpt hl hls hz e hi hi2 ht
      go_enter Try.func19, Try.ntmps19
      go_wp2_with fail
      (with_reducible refine HK.out.mono ?_)
      rintro e w1 ⟨A', n', c', rfl, hk', hn', hc', q, hw1⟩
      have HB1 : Hid (Below w.heap.size w w1) := Lib.hid (by rw [hw1]; exact below_drewN (Below.refl _ _) q)
      clear hk' hw1
      go_wp2_with fail
      go_ret
      exact ⟨A, n, c, rfl, HT.out.below HB1.out, HB1.out⟩
    rw [hi] at HK
    cases ps with
    | nil =>
      obtain rfl : m = 0 := by simpa using hml
      have e : dropP t [p] = withoutT t p := by simp [dropP, hi]
      rw [e]
      have HC := Lib.hid (fun (W : World) (hW : Below w.heap.size w W) => rwithout_any t A n c p W (ht.below hW) hn5)
      simp only [Nat.zero_add]
      clear hc0 hp hpt hl hls hz e hi ht hm0 hm2 hm3 hml hmb
      go_enter Try.func19, Try.ntmps19
      go_wp2_with fail
      (with_reducible refine HK.out.mono ?_)
      rintro e w1 ⟨A', n', c', rfl, hk', hn', hc', q, hw1⟩
      have hb1 : Below w.heap.size w w1 := by rw [hw1]; exact below_drewN (Below.refl _ _) q
      have hc1' := (hb1.cell (p := ⟨b, o, none⟩) hb).trans hc1
      clear hk' hw1
      go_wp2_with fail
      (with_reducible refine (HC.out w1 hb1).mono ?_)
      rintro e w2 ⟨A2, n2, c2, rfl, o2, hb2⟩
      have H2 := Lib.hid o2
      have HB2 := Lib.hid hb2
      clear o2 hb2
      go_wp2_with fail
      go_ret
      exact ⟨A2, n2, c2, rfl, H2.out, hb1.trans (HB2.out.mono hb1.size)⟩
    | cons p2 ps =>
      obtain ⟨m2, rfl⟩ : ∃ m2, m = m2 + 1 := ⟨ps.length, by simpa using hml⟩
      have e : dropP t (p :: p2 :: ps) = t.withT p (dropP (kidT t p) (p2 :: ps)) := by simp [dropP, hi]
      rw [e]
      have HC := Lib.hid (fun (W : World) (hW : Below w.heap.size w W) (A' : Option Addr) (n' c' : Nat) (hk : OkT W A' n' c' (kidT t p)) => rdrop_any (p2 :: ps) (kidT t p) A' _ n' c' (m2 + 1) (cp - 1) W hk (seesV_more (hpt.below hW) hW.size) (by omega) (by simp only [List.length_cons] at hps ⊢; omega) (Nat.le_trans (kidT_size t p) hz))
      obtain ⟨y, hy⟩ : ∃ y, y = dropP (kidT t p) (p2 :: ps) := ⟨_, rfl⟩
      rw [← hy] at HC ⊢
      rw [if_neg (by omega)] at HC
      have hone : ¬ cp = 1 := by omega
      have hone' : ¬ (cp : Int) = 1 := by omega
      have hq1 : (1 : Int) ≤ ((m2 + 1 : Nat) : Int) + 1 := by omega
      have hcp1 : ((m2 + 1 : Nat) : Int) + 1 ≤ (cp : Int) := by omega
      have hcp2 : (1 : Int) ≤ (cp : Int) := by omega
      obtain ⟨m, hm⟩ : ∃ m, m = m2 + 1 := ⟨_, rfl⟩
      have hmp : 1 ≤ m := by omega
      rw [← hm] at hq1 hcp1 HC hm0 hm2 hm3 hmb ⊢
      have hne1 : ((m : Int) + 1 == 1) = false := by simp; omega
      have hne1' : ¬ (m : Int) + 1 = 1 := by omega
      have hne2 : ¬ (m : Int) = 0 := by omega
      have hne2' : ¬ m = 0 := by omega
      clear hc0 hp hpt hl hls hz e hi ht hy hm hml hps
      go_enter Try.func19, Try.ntmps19
      go_wp2_with fail
      (with_reducible refine HK.out.mono ?_)
      rintro e w1 ⟨A', n', c', rfl, hk', hn', hc', q, hw1⟩
      have hb1 : Below w.heap.size w w1 := by rw [hw1]; exact below_drewN (Below.refl _ _) q
      have hc1' := (hb1.cell (p := ⟨b, o, none⟩) hb).trans hc1
      have hbd : Below w.heap.size w w1.drew := hb1.drew
      have HOk := Lib.hid (show OkT w1.drew A' n' c' (kidT t p) from ⟨(hk'.below hbd).more hbd.size, hn', hc'⟩)
      have hbl : b < w1.heap.size := Nat.lt_of_lt_of_le hb hb1.size
      clear hk' hw1
      go_wp2_with fail
      go_region_held3 (fun w' => w'.cell? ⟨b, o, none⟩ = some (.string p)) (first | exact hc1' | exact hs3 | exact hs4)
        (first
        | (go_at_call 19; refine (HC.out _ hbd A' n' c' HOk.out).mono ?_; rintro e w3 ⟨A3, n3, c3, rfl, ox, hb3⟩; have hs3 := (hb3.cell (p := ⟨b, o, none⟩) hbl).trans hc1'; have hb03 := hbd.trans (hb3.mono hbd.size); have hA3 := (HT.out.below hb03).holds)
        | (go_at_call 24; refine (with_any t y A A3 n c n3 c3 w3.heap.size p w3 hA3 ox.holds (Nat.le_refl _) hn5 hcap ox.cap.1 ox.cap.2).mono ?_; rintro e w4 ⟨A4, n5, c4, rfl, hx4, hn5', hm4, hb4⟩; have hs4 := (hb4.cell (p := ⟨b, o, none⟩) (Nat.lt_of_lt_of_le hbl hb3.size)).trans hs3))
      all_goals
        go_wp2_with fail
        go_ret
        exact ⟨A4, n5, c4, rfl, ⟨hx4, hn5', hm4⟩, hb03.trans (hb4.mono hb03.size)⟩
end Go.Proofs.Ytcfaocjgflefmaa.Pt
