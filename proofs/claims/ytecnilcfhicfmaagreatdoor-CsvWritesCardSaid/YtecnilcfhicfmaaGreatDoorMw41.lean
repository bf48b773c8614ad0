/- Put of the reference. Conditions: fewer edges than 2^38. · csv's closed readings. No conditions. · csv's laws: a number within a bound; the chapter's example; what a tree's text is. Conditions: MaxLen's cell. -/
import Derived.Test.YtecnilcfhicfmaaGreatDoorPthMath
import Derived.Test.YtecnilcfhicfmaaGreatDoorMw3
import Derived.Deep.RegionHeld3
import Derived.IntWalk
import Derived.Outline
import Derived.Test.YtecnilcfhicfmaaGreatDoorMw39
import Derived.Deep.CutRange
namespace Go.Proofs.YtecnilcfhicfmaaGreatDoor.Pt
open Go.RowKit Go.Proofs.YtecnilcfhicfmaaGreatDoor.Jd Go.Proofs.YtecnilcfhicfmaaGreatDoor.Cl
set_option maxRecDepth 100000

structure OkT (W : World) (A : Option Addr) (n c : Nat) (t : Tr) : Prop where
  holds : Holds W W.heap.size A n t
  cap : n ≤ c ∧ c ≤ maxLen
theorem OkT.below {w w' : World} {A : Option Addr} {n c : Nat} {t : Tr} (h : OkT w A n c t) (hb : Below w.heap.size w w') : OkT w' A n c t := ⟨(h.holds.below hb).more hb.size, h.cap⟩
def OkP (W : World) (t : Tr) (e : Ending) (w' : World) : Prop := ∃ A' n' c', e = .returned (.slice A' n' c') ∧ OkT w' A' n' c' t ∧ Below W.heap.size W w'
theorem sees_up {w : World} {B B' n : Nat} {A : Option Addr} {vs : List Value} (h : SeesV w B A n vs) (hB : B ≤ B') : SeesV w B' A n vs :=
  ⟨h.len, fun j u hu => by
    obtain ⟨b, o, ha, hb, hc⟩ := h.cell j u hu
    exact ⟨b, o, ha, Nat.lt_of_lt_of_le hb hB, hc⟩⟩
theorem kid_at {name : ByteArray} : ∀ {t : Tr}, t.atIs name = true → ∃ r, t.dropT (t.atN name) = .cons name (kidT t name) r
  | .nil, h => by simp [Tr.atIs, Tr.atN, dropT_zero, Tr.headIs] at h
  | .cons s k r, h => by
    rcases cases3 s name with c1 | ⟨c1, c2⟩ | ⟨c1, c2, _⟩
    · rw [atIs_lt c1] at h
      obtain ⟨r', h2⟩ := kid_at h
      rw [atN_lt c1, kidT_lt c1]
      exact ⟨r', h2⟩
    · have e := names_of_eq c2
      subst e
      rw [atN_ge c1, kidT_eq c1 c2]
      exact ⟨r, by rw [dropT_zero]⟩
    · rw [atIs_ge c1, c2] at h; cases h
def K2P (w : World) (B : Nat) (k : Tr) (v : Bool) (e : Ending) (w' : World) : Prop :=
  ∃ A' n' c', e = .returned (.tuple #[.slice A' n' c', .bool v]) ∧ Holds w B A' n' k ∧ n' ≤ c' ∧ c' ≤ maxLen ∧ ∃ q, w' = w.drewN q
theorem drop_lt' {t : Tr} {i : Nat} {s : ByteArray} {k r : Tr} (h : t.dropT i = .cons s k r) : i < t.len := by
  rcases Nat.lt_or_ge i t.len with g | g
  · exact g
  · rw [drop_len t i g] at h; cases h
set_option maxHeartbeats 1000000 in
theorem kid2_any (t : Tr) (A : Option Addr) (n c B : Nat) (name : ByteArray) (w : World) (h : Holds w B A n t) (hB : B ≤ w.heap.size) (hn : n ≤ 140737488351232) :
    Calls Tryz.prog 11 #[.slice A n c, .string name] w (K2P w B (kidT t name) (t.atIs name)) := by
  have HA := Lib.hid (at_any t A n c B name w h hB hn)
  have hl := h.len
  by_cases hi : t.atIs name = true
  · obtain ⟨r, hdr⟩ := kid_at hi
    have hlt := drop_lt' hdr
    rw [hi] at HA ⊢
    obtain ⟨k, hk⟩ : ∃ k, k = t.atN name := ⟨_, rfl⟩
    rw [← hk] at HA hlt hdr
    obtain ⟨b, o, s, kt, r', A', n', c', rfl, hb, hs, hc, hn', hc', hk', hr, hd, hd2⟩ := h.split k (by omega)
    have hkn : (k : Int) < (n : Int) := by omega
    have hk0 : (0 : Int) ≤ (k : Int) := by omega
    have e : kt = kidT t name := by
      rw [hdr] at hd
      injection hd with _ h2 _
      exact h2.symm
    rw [e] at hk'
    clear hk hd hd2 hi hl hdr e
    go_enter Tryz.func11, Tryz.ntmps11
    go_wp2_with fail
    refine HA.out.mono ?_
    rintro e _ ⟨rfl, q, rfl⟩
    go_wp2_with fail
    go_ret2
    exact ⟨A', n', c', rfl, hk', hn', hc', q, rfl⟩
  · have hi2 : t.atIs name = false := by simpa using hi
    have hkn := kidT_not hi2
    rw [hi2] at HA ⊢
    rw [hkn]
    obtain ⟨k, hk⟩ : ∃ k, k = t.atN name := ⟨_, rfl⟩
    rw [← hk] at HA
    clear hi hi2 hk h hl hn hkn
    go_enter Tryz.func11, Tryz.ntmps11
    go_wp2_with fail
    refine HA.out.mono ?_
    rintro e _ ⟨rfl, q, rfl⟩
    go_wp2_with fail
    go_ret2
    exact ⟨none, 0, 0, rfl, rfl, Nat.le_refl _, Nat.zero_le _, q, rfl⟩


theorem sees_behind {w : World} {B b o n c : Nat} {v : Value} {vs : List Value} (h : SeesV w B (some ⟨b, o, none⟩) (n + 1) (v :: vs)) (hc : n + 1 ≤ c) : SeesV w B (if c = 1 then some ⟨b, o, none⟩ else some ⟨b, o + 1, none⟩) n vs := by
  have hl := h.len
  simp only [List.length_cons] at hl
  refine ⟨by omega, fun j u hu => ?_⟩
  have hj : j < vs.length := by
    rcases Nat.lt_or_ge j vs.length with g | g
    · exact g
    · rw [List.getElem?_eq_none g] at hu; cases hu
  rw [if_neg (by omega)]
  obtain ⟨b', o', e, hb, hcl⟩ := h.cell (j + 1) u (by simpa using hu)
  cases e
  exact ⟨b, o + 1, rfl, hb, by rw [show o + 1 + j = o + (j + 1) by omega]; exact hcl⟩

set_option maxHeartbeats 2000000 in
theorem rput_any {x : Tr} : ∀ (ps : List ByteArray) (t : Tr) (A Ap Ax : Option Addr) (n c np cp nx cx : Nat) (w : World), OkT w A n c t → OkT w Ax nx cx x → SeesV w w.heap.size Ap np (ps.map Value.string) → np ≤ cp → t.size ≤ 274877906944 →
    Calls Tryz.prog 6 #[.slice A n c, .slice Ap np cp, .slice Ax nx cx] w (OkP w (putT t ps x))
  | [], t, A, Ap, Ax, n, c, np, cp, nx, cx, w, ht, hx, hp, hcp, hz => by
    obtain rfl : np = 0 := by have := hp.len; simpa using this
    rw [show putT t [] x = x by cases t <;> rfl]
    have HX := Lib.hid hx
    clear ht hx hp hz
    go_enter Tryz.func6, Tryz.ntmps6
    go_wp2_with fail
    go_ret
    exact ⟨Ax, nx, cx, rfl, HX.out, Below.refl _ _⟩
  | p :: ps, t, A, Ap, Ax, n, c, np, cp, nx, cx, w, ht, hx, hp, hcp, hz => by
    obtain ⟨m, rfl⟩ : ∃ m, np = m + 1 := by have := hp.len; simp only [List.length_map, List.length_cons] at this; exact ⟨_, this⟩
    obtain ⟨b, o, rfl, hb, hc0⟩ := hp.str (j := 0) (by omega)
    have hc1 : w.cell? ⟨b, o, none⟩ = some (.string p) := by simpa using hc0
    have hpt := sees_behind (vs := ps.map Value.string) hp hcp
    have hl := ht.holds.len
    have hls := t.len_size
    have HK := Lib.hid (kid2_any t A n c w.heap.size p w ht.holds (Nat.le_refl _) (by omega))
    have HC := Lib.hid (fun (W : World) (hW : Below w.heap.size w W) (A' : Option Addr) (n' c' : Nat) (hk : OkT W A' n' c' (kidT t p)) => rput_any (x := x) ps (kidT t p) A' _ Ax n' c' m (cp - 1) nx cx W hk (hx.below hW) (sees_up (hpt.below hW) hW.size) (by omega) (Nat.le_trans (kidT_size t p) hz))
    have HT := Lib.hid ht
    have hn5 : n ≤ 549755813888 := by omega
    have e : putT t (p :: ps) x = t.withT p (putT (kidT t p) ps x) := rfl
    rw [e]
    obtain ⟨y, hy⟩ : ∃ y, y = putT (kidT t p) ps x := ⟨_, rfl⟩
    rw [← hy] at HC ⊢
    have hcap := ht.cap.1
    clear hc0 hp hpt hl hls hx hz e hy ht
    by_cases hone : cp = 1
    · subst hone
      obtain rfl : m = 0 := by omega
      simp only [Nat.zero_add, if_true, Nat.sub_self] at HC ⊢
      go_enter Tryz.func6, Tryz.ntmps6
      go_wp2_with fail
      (with_reducible refine HK.out.mono ?_)
      rintro e w1 ⟨A', n', c', rfl, hk', hn', hc', q, hw1⟩
      have hb1 : Below w.heap.size w w1 := by rw [hw1]; exact below_drewN (Below.refl _ _) q
      have hc1' := (hb1.cell (p := ⟨b, o, none⟩) hb).trans hc1
      have hbd : Below w.heap.size w w1.drew := hb1.drew
      have HOk := Lib.hid (show OkT w1.drew A' n' c' (kidT t p) from ⟨(hk'.below hbd).more hbd.size, hn', hc'⟩)
      have hbl : b < w1.heap.size := Nat.lt_of_lt_of_le hb hb1.size
      clear hk' hw1
      go_wp2_with fail
      go_region_held3 (fun w' => w'.cell? ⟨b, o, none⟩ = some (.string p)) (first | exact hc1' | exact hs3 | exact hs4)
        (first
        | (go_at_call 6; refine (HC.out _ hbd A' n' c' HOk.out).mono ?_; rintro e w3 ⟨A3, n3, c3, rfl, ox, hb3⟩; have hs3 := (hb3.cell (p := ⟨b, o, none⟩) hbl).trans hc1'; have hb03 := hbd.trans (hb3.mono hbd.size); have hA3 := (HT.out.below hb03).holds)
        | (go_at_call 12; refine (with_any t y A A3 n c n3 c3 w3.heap.size p w3 hA3 ox.holds (Nat.le_refl _) hn5 hcap ox.cap.1 ox.cap.2).mono ?_; rintro e w4 ⟨A4, n5, c4, rfl, hx4, hn5', hm4, hb4⟩; have hs4 := (hb4.cell (p := ⟨b, o, none⟩) (Nat.lt_of_lt_of_le hbl hb3.size)).trans hs3))
      all_goals
        go_wp2_with fail
        go_ret
        exact ⟨A4, n5, c4, rfl, ⟨hx4, hn5', hm4⟩, hb03.trans (hb4.mono hb03.size)⟩
    · rw [if_neg hone] at HC
      have hone' : ¬ (cp : Int) = 1 := by omega
      have hm1 : (1 : Int) ≤ (m : Int) + 1 := by omega
      have hm0 : ((m : Int) + 1 == 0) = false := by simp; omega
      have hm2 : ¬ (m : Int) + 1 = 0 := by omega
      have hcp1 : (m : Int) + 1 ≤ (cp : Int) := by omega
      have hcp2 : (1 : Int) ≤ (cp : Int) := by omega
      have hm3 : (0 : Int) < (m : Int) + 1 := by omega
      go_enter Tryz.func6, Tryz.ntmps6
      go_wp2_with fail
      (with_reducible refine HK.out.mono ?_)
      rintro e w1 ⟨A', n', c', rfl, hk', hn', hc', q, hw1⟩
      have hb1 : Below w.heap.size w w1 := by rw [hw1]; exact below_drewN (Below.refl _ _) q
      have hc1' := (hb1.cell (p := ⟨b, o, none⟩) hb).trans hc1
      have hbd : Below w.heap.size w w1.drew := hb1.drew
      have HOk := Lib.hid (show OkT w1.drew A' n' c' (kidT t p) from ⟨(hk'.below hbd).more hbd.size, hn', hc'⟩)
      have hbl : b < w1.heap.size := Nat.lt_of_lt_of_le hb hb1.size
      clear hk' hw1
      go_wp2_with fail
      go_region_held3 (fun w' => w'.cell? ⟨b, o, none⟩ = some (.string p)) (first | exact hc1' | exact hs3 | exact hs4)
        (first
        | (go_at_call 6; refine (HC.out _ hbd A' n' c' HOk.out).mono ?_; rintro e w3 ⟨A3, n3, c3, rfl, ox, hb3⟩; have hs3 := (hb3.cell (p := ⟨b, o, none⟩) hbl).trans hc1'; have hb03 := hbd.trans (hb3.mono hbd.size); have hA3 := (HT.out.below hb03).holds)
        | (go_at_call 12; refine (with_any t y A A3 n c n3 c3 w3.heap.size p w3 hA3 ox.holds (Nat.le_refl _) hn5 hcap ox.cap.1 ox.cap.2).mono ?_; rintro e w4 ⟨A4, n5, c4, rfl, hx4, hn5', hm4, hb4⟩; have hs4 := (hb4.cell (p := ⟨b, o, none⟩) (Nat.lt_of_lt_of_le hbl hb3.size)).trans hs3))
      all_goals
        go_wp2_with fail
        go_ret
        exact ⟨A4, n5, c4, rfl, ⟨hx4, hn5', hm4⟩, hb03.trans (hb4.mono hb03.size)⟩
end Go.Proofs.YtecnilcfhicfmaaGreatDoor.Pt
namespace Go.Proofs.YtecnilcfhicfmaaGreatDoor.Cv
open Go.RowKit Go.Proofs.YtecnilcfhicfmaaGreatDoor.Jd Go.Proofs.YtecnilcfhicfmaaGreatDoor.Li Go.Proofs.YtecnilcfhicfmaaGreatDoor.Cl
set_option maxRecDepth 100000

instance rwEq : DecidableEq Rw := fun a b =>
  if h : a.fs = b.fs ∧ a.en = b.en then isTrue (by cases a; cases b; cases h.1; cases h.2; rfl) else isFalse (fun hab => h (by cases hab; exact ⟨rfl, rfl⟩))

def T1 : Tr := (.cons ⟨#[120]⟩ (.cons ⟨#[97]⟩ (.cons ⟨#[49]⟩ .nil .nil) .nil) .nil)
def T2 : Tr := (.cons ⟨#[120]⟩ .nil .nil)
def T3 : Tr := (.cons ⟨#[120, 44]⟩ (.cons ⟨#[97, 44, 34, 98]⟩ (.cons ⟨#[32, 121, 32]⟩ .nil .nil) .nil) .nil)
theorem pl_kn : plB [107, 101, 121, 44, 97, 10, 120, 44, 49, 10] = true := by decide +kernel
theorem rw_kn : rowsF [] 0 (split [107, 101, 121, 44, 97, 10, 120, 44, 49, 10]) = ([⟨[([107, 101, 121], [107, 101, 121]), ([97], [97])], ⟨#[10]⟩⟩, ⟨[([120], [120]), ([49], [49])], ⟨#[10]⟩⟩], 0, 0) := by decide +kernel
theorem rd_kn : readF [107, 101, 121, 44, 97, 10, 120, 44, 49, 10] = (T1, 0, 0) := readF_ok (by decide) rw_kn ((tree1 _ _ (by decide +kernel)).trans (by rfl)) (by decide +kernel)
theorem pl_k0 : plB [107, 101, 121, 10] = true := by decide +kernel
theorem rw_k0 : rowsF [] 0 (split [107, 101, 121, 10]) = ([⟨[([107, 101, 121], [107, 101, 121])], ⟨#[10]⟩⟩], 0, 0) := by decide +kernel
theorem rd_k0 : readF [107, 101, 121, 10] = (.nil, 0, 0) := readF_ok (by decide) rw_k0 (tree0 _) (by decide +kernel)
theorem pl_k1 : plB [34, 107, 101, 121, 34, 44, 97, 13, 10, 120, 44, 49, 13, 10] = true := by decide +kernel
theorem rw_k1 : rowsF [] 0 (split [34, 107, 101, 121, 34, 44, 97, 13, 10, 120, 44, 49, 13, 10]) = ([⟨[([34, 107, 101, 121, 34], [107, 101, 121]), ([97], [97])], ⟨#[13, 10]⟩⟩, ⟨[([120], [120]), ([49], [49])], ⟨#[13, 10]⟩⟩], 0, 0) := by decide +kernel
theorem rd_k1 : readF [34, 107, 101, 121, 34, 44, 97, 13, 10, 120, 44, 49, 13, 10] = (T1, 0, 0) := readF_ok (by decide) rw_k1 ((tree1 _ _ (by decide +kernel)).trans (by rfl)) (by decide +kernel)
theorem pl_k2 : plB [107, 101, 121, 44, 97, 44, 98, 10, 120, 44, 44, 34, 34, 10] = true := by decide +kernel
theorem rw_k2 : rowsF [] 0 (split [107, 101, 121, 44, 97, 44, 98, 10, 120, 44, 44, 34, 34, 10]) = ([⟨[([107, 101, 121], [107, 101, 121]), ([97], [97]), ([98], [98])], ⟨#[10]⟩⟩, ⟨[([120], [120]), ([], []), ([34, 34], [])], ⟨#[10]⟩⟩], 0, 0) := by decide +kernel
theorem rd_k2 : readF [107, 101, 121, 44, 97, 44, 98, 10, 120, 44, 44, 34, 34, 10] = (T2, 0, 0) := readF_ok (by decide) rw_k2 ((tree1 _ _ (by decide +kernel)).trans (by rfl)) (by decide +kernel)
theorem pl_k3 : plB [107, 101, 121, 44, 34, 97, 44, 34, 34, 98, 34, 10, 34, 120, 44, 34, 44, 32, 121, 32, 10] = true := by decide +kernel
theorem rw_k3 : rowsF [] 0 (split [107, 101, 121, 44, 34, 97, 44, 34, 34, 98, 34, 10, 34, 120, 44, 34, 44, 32, 121, 32, 10]) = ([⟨[([107, 101, 121], [107, 101, 121]), ([34, 97, 44, 34, 34, 98, 34], [97, 44, 34, 98])], ⟨#[10]⟩⟩, ⟨[([34, 120, 44, 34], [120, 44]), ([32, 121, 32], [32, 121, 32])], ⟨#[10]⟩⟩], 0, 0) := by decide +kernel
theorem rd_k3 : readF [107, 101, 121, 44, 34, 97, 44, 34, 34, 98, 34, 10, 34, 120, 44, 34, 44, 32, 121, 32, 10] = (T3, 0, 0) := readF_ok (by decide) rw_k3 ((tree1 _ _ (by decide +kernel)).trans (by rfl)) (by decide +kernel)
theorem pl_k4 : plB [107, 101, 121, 44, 97] = true := by decide +kernel
theorem rw_k4 : rowsF [] 0 (split [107, 101, 121, 44, 97]) = ([⟨[([107, 101, 121], [107, 101, 121]), ([97], [97])], ⟨#[]⟩⟩], 0, 0) := by decide +kernel
theorem rd_k4 : readF [107, 101, 121, 44, 97] = (.nil, 0, 0) := readF_ok (by decide) rw_k4 (tree0 _) (by decide +kernel)
theorem pl_k5 : plB [] = true := by decide +kernel
theorem rd_k5 : readF [] = (.nil, 0, 2) := by rfl
theorem pl_k6 : plB [110, 97, 109, 101, 44, 97, 10] = true := by decide +kernel
theorem rd_k6 : readF [110, 97, 109, 101, 44, 97, 10] = (.nil, 1, 6) := readF_no (q := []) (by decide) (by decide +kernel) (by decide)
theorem pl_k7 : plB [107, 101, 121, 44, 97, 44, 97, 10] = true := by decide +kernel
theorem rd_k7 : readF [107, 101, 121, 44, 97, 44, 97, 10] = (.nil, 1, 7) := readF_no (q := []) (by decide) (by decide +kernel) (by decide)
theorem pl_k8 : plB [107, 101, 121, 44, 107, 101, 121, 10] = true := by decide +kernel
theorem rd_k8 : readF [107, 101, 121, 44, 107, 101, 121, 10] = (.nil, 1, 6) := readF_no (q := []) (by decide) (by decide +kernel) (by decide)
theorem pl_k9 : plB [107, 101, 121, 44, 10] = true := by decide +kernel
theorem rd_k9 : readF [107, 101, 121, 44, 10] = (.nil, 1, 6) := readF_no (q := []) (by decide) (by decide +kernel) (by decide)
theorem pl_k10 : plB [107, 101, 121, 44, 97, 10, 120, 10] = true := by decide +kernel
theorem rd_k10 : readF [107, 101, 121, 44, 97, 10, 120, 10] = (.nil, 2, 6) := readF_no (q := []) (by decide) (by decide +kernel) (by decide)
theorem pl_k11 : plB [107, 101, 121, 44, 97, 10, 120, 44, 49, 44, 50, 10] = true := by decide +kernel
theorem rd_k11 : readF [107, 101, 121, 44, 97, 10, 120, 44, 49, 44, 50, 10] = (.nil, 2, 6) := readF_no (q := []) (by decide) (by decide +kernel) (by decide)
theorem pl_k12 : plB [107, 101, 121, 44, 97, 10, 120, 44, 49, 10, 120, 44, 50, 10] = true := by decide +kernel
theorem rd_k12 : readF [107, 101, 121, 44, 97, 10, 120, 44, 49, 10, 120, 44, 50, 10] = (.nil, 3, 7) := readF_no (q := []) (by decide) (by decide +kernel) (by decide)
theorem pl_k13 : plB [107, 101, 121, 44, 97, 10, 44, 49, 10] = true := by decide +kernel
theorem rd_k13 : readF [107, 101, 121, 44, 97, 10, 44, 49, 10] = (.nil, 2, 6) := readF_no (q := []) (by decide) (by decide +kernel) (by decide)
theorem pl_k14 : plB [107, 101, 121, 44, 97, 10, 120, 44, 34, 49, 10] = true := by decide +kernel
theorem rd_k14 : readF [107, 101, 121, 44, 97, 10, 120, 44, 34, 49, 10] = (.nil, 2, 6) := readF_no (q := []) (by decide) (by decide +kernel) (by decide)
theorem pl_k15 : plB [107, 101, 121, 44, 97, 10, 120, 44, 34, 49, 34, 50, 10] = true := by decide +kernel
theorem rd_k15 : readF [107, 101, 121, 44, 97, 10, 120, 44, 34, 49, 34, 50, 10] = (.nil, 2, 6) := readF_no (q := []) (by decide) (by decide +kernel) (by decide)
theorem pl_k16 : plB [107, 101, 121, 44, 97, 10, 120, 44, 49, 34, 10] = true := by decide +kernel
theorem rd_k16 : readF [107, 101, 121, 44, 97, 10, 120, 44, 49, 34, 10] = (.nil, 2, 6) := readF_no (q := []) (by decide) (by decide +kernel) (by decide)
theorem pl_k17 : plB [107, 101, 121, 10, 10] = true := by decide +kernel
theorem rd_k17 : readF [107, 101, 121, 10, 10] = (.nil, 2, 6) := readF_no (q := []) (by decide) (by decide +kernel) (by decide)
theorem pl_k18 : plB [107, 101, 121, 44, 97, 10, 120, 44, 49, 13, 50, 10] = true := by decide +kernel
theorem rd_k18 : readF [107, 101, 121, 44, 97, 10, 120, 44, 49, 13, 50, 10] = (.nil, 2, 6) := readF_no (q := []) (by decide) (by decide +kernel) (by decide)
theorem tx_nil : Pt.ba (Tr.text Tr.nil) = ⟨#[123, 125]⟩ := by decide +kernel
theorem tx_T1 : Pt.ba (Tr.text T1) = ⟨#[123, 34, 120, 34, 58, 32, 123, 34, 97, 34, 58, 32, 123, 34, 49, 34, 58, 32, 123, 125, 125, 125, 125]⟩ := by decide +kernel
theorem tx_T2 : Pt.ba (Tr.text T2) = ⟨#[123, 34, 120, 34, 58, 32, 123, 125, 125]⟩ := by decide +kernel
theorem tx_T3 : Pt.ba (Tr.text T3) = ⟨#[123, 34, 120, 44, 34, 58, 32, 123, 34, 97, 44, 92, 34, 98, 34, 58, 32, 123, 34, 32, 121, 32, 34, 58, 32, 123, 125, 125, 125, 125]⟩ := by decide +kernel
end Go.Proofs.YtecnilcfhicfmaaGreatDoor.Cv
namespace Go.Proofs.YtecnilcfhicfmaaGreatDoor.Cv
open Go.RowKit Go.Proofs.YtecnilcfhicfmaaGreatDoor.Jd Go.Proofs.YtecnilcfhicfmaaGreatDoor.Li Go.Proofs.YtecnilcfhicfmaaGreatDoor.Cl
set_option maxRecDepth 100000

theorem tmod_pos7 {a n : Int} (hn : 0 < n) (h : 0 ≤ a.tmod n) : a.tmod n = a % n := by
  have h1 := Int.tmod_add_mul_tdiv a n
  have h2 := Int.tmod_lt_of_pos a hn
  conv => rhs; rw [← h1]
  rw [Int.add_mul_emod_self_left, Int.emod_eq_of_lt h h2]
theorem tmod_neg7 {a n : Int} (hn : 0 < n) (h : a.tmod n < 0) : a.tmod n + n = a % n := by
  have h1 := Int.tmod_add_mul_tdiv a n
  have h2 := Int.lt_tmod_of_pos a hn
  conv => rhs; rw [← h1]
  rw [Int.add_mul_emod_self_left, ← Int.add_emod_right, Int.emod_eq_of_lt (by omega) (by omega)]
set_option maxHeartbeats 400000 in
theorem within_any (a n : Int) (hn : 0 < n) (hn2 : n ≤ 2147483647) (ha : -9223372036854775808 ≤ a ∧ a ≤ 9223372036854775807) (w : World) : Calls Tryz.prog 7 #[.int .i64 a, .int .i64 n] w fun e w' => e = .returned (.int .i64 (a % n)) ∧ w = w' := by
  obtain ⟨hx1, hx2⟩ := ha
  have hm1 := Int.tmod_lt_of_pos a hn
  have hm2 := Int.lt_tmod_of_pos a hn
  by_cases h : a.tmod n < 0
  · have Hf := Lib.hid (tmod_neg7 hn h)
    go_enter Tryz.func7, Tryz.ntmps7
    go_wp2
    go_ret
    exact ⟨by rw [← Hf.out]; rfl, rfl⟩
  · have Hf := Lib.hid (tmod_pos7 hn (by omega : 0 ≤ a.tmod n))
    go_enter Tryz.func7, Tryz.ntmps7
    go_wp2
    go_ret
    exact ⟨by rw [← Hf.out]; rfl, rfl⟩
theorem within_nat (a : Int) (n : Nat) (hn : 0 < n) (hn2 : n ≤ 2147483647) (ha : -9223372036854775808 ≤ a ∧ a ≤ 9223372036854775807) : ∃ j : Nat, j < n ∧ ∀ w, Calls Tryz.prog 7 #[.int .i64 a, .int .i64 n] w fun e w' => e = .returned (.int .i64 j) ∧ w = w' := by
  refine ⟨(a % n).toNat, by have := Int.emod_lt_of_pos a (show (0 : Int) < n by omega); have := Int.emod_nonneg a (show (n : Int) ≠ 0 by omega); omega, fun w => ?_⟩
  rw [Int.toNat_of_nonneg (Int.emod_nonneg a (by omega))]
  exact within_any a n (by omega) (by omega) ha w

theorem text_of (T : Tr) (b : ByteArray) (hb : Pt.ba T.text = b) (hs : T.size ≤ 1000) (hl : T.text.length ≤ 1000) (W : World) (A : Option Addr) (n c : Nat) (h : Holds W W.heap.size A n T) :
    Calls Tryz.prog 10 #[.slice A n c] W fun e w' => e = .returned (.string b) ∧ Below W.heap.size W w' :=
  (Pt.rtext_any T.size T A n c W.heap.size W (Nat.le_refl _) h (Nat.le_refl _) (by omega) (by omega)).mono fun _ _ ⟨e, q, hw⟩ => ⟨by rw [e, hb], hw ▸ below_drewN (Below.refl _ _) q⟩

set_option maxHeartbeats 2000000 in
theorem known_any (w : World) (hG : Gl w) : Calls Tryz.prog 4 #[] w fun e w' => e = .returned (.bool true) ∧ Below w.heap.size w w' := by
  have hl := load_any ⟨#[107, 101, 121, 44, 97, 10, 120, 44, 49, 10]⟩ w (plB_pl pl_kn) hG
  rw [show readF (ByteArray.mk #[107, 101, 121, 44, 97, 10, 120, 44, 49, 10]).data.toList = (T1, 0, 0) from rd_kn] at hl
  have HL := Lib.hid hl
  have HT := Lib.hid (fun (W : World) (A : Option Addr) (n c : Nat) (h : Holds W W.heap.size A n T1) => text_of T1 _ tx_T1 (by decide) (by decide) W A n c h)
  clear hl
  go_enter Tryz.func4, Tryz.ntmps4
  go_wp2_with fail
  (with_reducible refine HL.out.mono ?_)
  rintro e w1 ⟨At, ct, rfl, hh, hc, hb⟩
  have hh1 := hh.to (B := w1.heap.size) (fun b hb => hb.2)
  have HH := Lib.hid (fun W (hW : Below w1.heap.size w1 W) => HT.out W At T1.len ct ((hh1.keep (w' := W) fun p hp => hW.cell hp).more hW.size))
  have HB := Lib.hid hb
  clear hh hh1 hc hb
  go_wp2_with fail
  (with_reducible refine (HH.out _ (Below.refl _ _)).mono ?_)
  rintro e v1 ⟨rfl, f1⟩
  go_wp2_with fail
  go_ret
  exact ⟨rfl, HB.out.trans (f1.mono HB.out.size)⟩
end Go.Proofs.YtecnilcfhicfmaaGreatDoor.Cv
