/- Put of the reference. Conditions: fewer edges than 2^38. · The reference's record of csv: what is wrong with it. Conditions: it has a field; names below 2^47 bytes. -/
import Derived.Test.YtlcbhooiinaalaaGreatDoorPthMath
import Derived.Test.YtlcbhooiinaalaaGreatDoorWithW
import Derived.Deep.RegionHeld3
import Derived.IntWalk
import Derived.Outline
import Derived.Test.YtlcbhooiinaalaaGreatDoorMwRcFlds
namespace Go.Proofs.YtlcbhooiinaalaaGreatDoor.Pt
open Go.RowKit Go.Proofs.YtlcbhooiinaalaaGreatDoor.Jd Go.Proofs.YtlcbhooiinaalaaGreatDoor.Cl
set_option maxRecDepth 100000

structure OkT (W : World) (A : Option Addr) (n c : Nat) (t : Tr) : Prop where
  holds : Holds W W.heap.size A n t
  cap : n ≤ c ∧ c ≤ maxLen
theorem OkT.below {w w' : World} {A : Option Addr} {n c : Nat} {t : Tr} (h : OkT w A n c t) (hb : Below w.heap.size w w') : OkT w' A n c t := ⟨(h.holds.below hb).more hb.size, h.cap⟩
def OkP (W : World) (t : Tr) (e : Ending) (w' : World) : Prop := ∃ A' n' c', e = .returned (.slice A' n' c') ∧ OkT w' A' n' c' t ∧ Below W.heap.size W w'
theorem sees_up {w : World} {B B' n : Nat} {A : Option Addr} {vs : List Value} (h : SeesV w B A n vs) (hB : B ≤ B') : SeesV w B' A n vs :=
  ⟨h.len, fun j u hu => by
    obtain ⟨b, o, ha, hb, hc⟩ := h.cell j u hu
    exact ⟨b, o, ha, Nat.lt_of_lt_of_le hb hB, hc⟩⟩
theorem kid_at {name : ByteArray} : ∀ {t : Tr}, t.atIs name = true → ∃ r, t.dropT (t.atN name) = .cons name (kidT t name) r
  | .nil, h => by simp [Tr.atIs, Tr.atN, dropT_zero, Tr.headIs] at h
  | .cons s k r, h => by
    rcases cases3 s name with c1 | ⟨c1, c2⟩ | ⟨c1, c2, _⟩
    · rw [atIs_lt c1] at h
      obtain ⟨r', h2⟩ := kid_at h
      rw [atN_lt c1, kidT_lt c1]
      exact ⟨r', h2⟩
    · have e := names_of_eq c2
      subst e
      rw [atN_ge c1, kidT_eq c1 c2]
      exact ⟨r, by rw [dropT_zero]⟩
    · rw [atIs_ge c1, c2] at h; cases h
def K2P (w : World) (B : Nat) (k : Tr) (v : Bool) (e : Ending) (w' : World) : Prop :=
  ∃ A' n' c', e = .returned (.tuple #[.slice A' n' c', .bool v]) ∧ Holds w B A' n' k ∧ n' ≤ c' ∧ c' ≤ maxLen ∧ ∃ q, w' = w.drewN q
theorem drop_lt' {t : Tr} {i : Nat} {s : ByteArray} {k r : Tr} (h : t.dropT i = .cons s k r) : i < t.len := by
  rcases Nat.lt_or_ge i t.len with g | g
  · exact g
  · rw [drop_len t i g] at h; cases h
set_option maxHeartbeats 1000000 in
theorem kid2_any (t : Tr) (A : Option Addr) (n c B : Nat) (name : ByteArray) (w : World) (h : Holds w B A n t) (hB : B ≤ w.heap.size) (hn : n ≤ 140737488351232) :
    Calls Tryz.prog 34 #[.slice A n c, .string name] w (K2P w B (kidT t name) (t.atIs name)) := by
  have HA := Lib.hid (at_any t A n c B name w h hB hn)
  have hl := h.len
  by_cases hi : t.atIs name = true
  · obtain ⟨r, hdr⟩ := kid_at hi
    have hlt := drop_lt' hdr
    rw [hi] at HA ⊢
    obtain ⟨k, hk⟩ : ∃ k, k = t.atN name := ⟨_, rfl⟩
    rw [← hk] at HA hlt hdr
    obtain ⟨b, o, s, kt, r', A', n', c', rfl, hb, hs, hc, hn', hc', hk', hr, hd, hd2⟩ := h.split k (by omega)
    have hkn : (k : Int) < (n : Int) := by omega
    have hk0 : (0 : Int) ≤ (k : Int) := by omega
    have e : kt = kidT t name := by
      rw [hdr] at hd
      injection hd with _ h2 _
      exact h2.symm
    rw [e] at hk'
    clear hk hd hd2 hi hl hdr e
    go_enter Tryz.func34, Tryz.ntmps34
    go_wp2_with fail
    refine HA.out.mono ?_
    rintro e _ ⟨rfl, q, rfl⟩
    go_wp2_with fail
    go_ret2
    exact ⟨A', n', c', rfl, hk', hn', hc', q, rfl⟩
  · have hi2 : t.atIs name = false := by simpa using hi
    have hkn := kidT_not hi2
    rw [hi2] at HA ⊢
    rw [hkn]
    obtain ⟨k, hk⟩ : ∃ k, k = t.atN name := ⟨_, rfl⟩
    rw [← hk] at HA
    clear hi hi2 hk h hl hn hkn
    go_enter Tryz.func34, Tryz.ntmps34
    go_wp2_with fail
    refine HA.out.mono ?_
    rintro e _ ⟨rfl, q, rfl⟩
    go_wp2_with fail
    go_ret2
    exact ⟨none, 0, 0, rfl, rfl, Nat.le_refl _, Nat.zero_le _, q, rfl⟩


theorem sees_behind {w : World} {B b o n c : Nat} {v : Value} {vs : List Value} (h : SeesV w B (some ⟨b, o, none⟩) (n + 1) (v :: vs)) (hc : n + 1 ≤ c) : SeesV w B (if c = 1 then some ⟨b, o, none⟩ else some ⟨b, o + 1, none⟩) n vs := by
  have hl := h.len
  simp only [List.length_cons] at hl
  refine ⟨by omega, fun j u hu => ?_⟩
  have hj : j < vs.length := by
    rcases Nat.lt_or_ge j vs.length with g | g
    · exact g
    · rw [List.getElem?_eq_none g] at hu; cases hu
  rw [if_neg (by omega)]
  obtain ⟨b', o', e, hb, hcl⟩ := h.cell (j + 1) u (by simpa using hu)
  cases e
  exact ⟨b, o + 1, rfl, hb, by rw [show o + 1 + j = o + (j + 1) by omega]; exact hcl⟩

set_option maxHeartbeats 2000000 in
theorem rput_any {x : Tr} : ∀ (ps : List ByteArray) (t : Tr) (A Ap Ax : Option Addr) (n c np cp nx cx : Nat) (w : World), OkT w A n c t → OkT w Ax nx cx x → SeesV w w.heap.size Ap np (ps.map Value.string) → np ≤ cp → t.size ≤ 274877906944 →
    Calls Tryz.prog 25 #[.slice A n c, .slice Ap np cp, .slice Ax nx cx] w (OkP w (putT t ps x))
  | [], t, A, Ap, Ax, n, c, np, cp, nx, cx, w, ht, hx, hp, hcp, hz => by
    obtain rfl : np = 0 := by have := hp.len; simpa using this
    rw [show putT t [] x = x by cases t <;> rfl]
    have HX := Lib.hid hx
    clear ht hx hp hz
    go_enter Tryz.func25, Tryz.ntmps25
    go_wp2_with fail
    go_ret
    exact ⟨Ax, nx, cx, rfl, HX.out, Below.refl _ _⟩
  | p :: ps, t, A, Ap, Ax, n, c, np, cp, nx, cx, w, ht, hx, hp, hcp, hz => by
    obtain ⟨m, rfl⟩ : ∃ m, np = m + 1 := by have := hp.len; simp only [List.length_map, List.length_cons] at this; exact ⟨_, this⟩
    obtain ⟨b, o, rfl, hb, hc0⟩ := hp.str (j := 0) (by omega)
    have hc1 : w.cell? ⟨b, o, none⟩ = some (.string p) := by simpa using hc0
    have hpt := sees_behind (vs := ps.map Value.string) hp hcp
    have hl := ht.holds.len
    have hls := t.len_size
    have HK := Lib.hid (kid2_any t A n c w.heap.size p w ht.holds (Nat.le_refl _) (by omega))
    have HC := Lib.hid (fun (W : World) (hW : Below w.heap.size w W) (A' : Option Addr) (n' c' : Nat) (hk : OkT W A' n' c' (kidT t p)) => rput_any (x := x) ps (kidT t p) A' _ Ax n' c' m (cp - 1) nx cx W hk (hx.below hW) (sees_up (hpt.below hW) hW.size) (by omega) (Nat.le_trans (kidT_size t p) hz))
    have HT := Lib.hid ht
    have hn5 : n ≤ 549755813888 := by omega
    have e : putT t (p :: ps) x = t.withT p (putT (kidT t p) ps x) := rfl
    rw [e]
    obtain ⟨y, hy⟩ : ∃ y, y = putT (kidT t p) ps x := ⟨_, rfl⟩
    rw [← hy] at HC ⊢
    have hcap := ht.cap.1
    clear hc0 hp hpt hl hls hx hz e hy ht
    by_cases hone : cp = 1
    · subst hone
      obtain rfl : m = 0 := by omega
      simp only [Nat.zero_add, if_true, Nat.sub_self] at HC ⊢
      go_enter Tryz.func25, Tryz.ntmps25
      go_wp2_with fail
      (with_reducible refine HK.out.mono ?_)
      rintro e w1 ⟨A', n', c', rfl, hk', hn', hc', q, hw1⟩
      have hb1 : Below w.heap.size w w1 := by rw [hw1]; exact below_drewN (Below.refl _ _) q
      have hc1' := (hb1.cell (p := ⟨b, o, none⟩) hb).trans hc1
      have hbd : Below w.heap.size w w1.drew := hb1.drew
      have HOk := Lib.hid (show OkT w1.drew A' n' c' (kidT t p) from ⟨(hk'.below hbd).more hbd.size, hn', hc'⟩)
      have hbl : b < w1.heap.size := Nat.lt_of_lt_of_le hb hb1.size
      clear hk' hw1
      go_wp2_with fail
      go_region_held3 (fun w' => w'.cell? ⟨b, o, none⟩ = some (.string p)) (first | exact hc1' | exact hs3 | exact hs4)
        (first
        | (go_at_call 25; refine (HC.out _ hbd A' n' c' HOk.out).mono ?_; rintro e w3 ⟨A3, n3, c3, rfl, ox, hb3⟩; have hs3 := (hb3.cell (p := ⟨b, o, none⟩) hbl).trans hc1'; have hb03 := hbd.trans (hb3.mono hbd.size); have hA3 := (HT.out.below hb03).holds)
        | (go_at_call 35; refine (with_any t y A A3 n c n3 c3 w3.heap.size p w3 hA3 ox.holds (Nat.le_refl _) hn5 hcap ox.cap.1 ox.cap.2).mono ?_; rintro e w4 ⟨A4, n5, c4, rfl, hx4, hn5', hm4, hb4⟩; have hs4 := (hb4.cell (p := ⟨b, o, none⟩) (Nat.lt_of_lt_of_le hbl hb3.size)).trans hs3))
      all_goals
        go_wp2_with fail
        go_ret
        exact ⟨A4, n5, c4, rfl, ⟨hx4, hn5', hm4⟩, hb03.trans (hb4.mono hb03.size)⟩
    · rw [if_neg hone] at HC
      have hone' : ¬ (cp : Int) = 1 := by omega
      have hm1 : (1 : Int) ≤ (m : Int) + 1 := by omega
      have hm0 : ((m : Int) + 1 == 0) = false := by simp; omega
      have hm2 : ¬ (m : Int) + 1 = 0 := by omega
      have hcp1 : (m : Int) + 1 ≤ (cp : Int) := by omega
      have hcp2 : (1 : Int) ≤ (cp : Int) := by omega
      have hm3 : (0 : Int) < (m : Int) + 1 := by omega
      go_enter Tryz.func25, Tryz.ntmps25
      go_wp2_with fail
      (with_reducible refine HK.out.mono ?_)
      rintro e w1 ⟨A', n', c', rfl, hk', hn', hc', q, hw1⟩
      have hb1 : Below w.heap.size w w1 := by rw [hw1]; exact below_drewN (Below.refl _ _) q
      have hc1' := (hb1.cell (p := ⟨b, o, none⟩) hb).trans hc1
      have hbd : Below w.heap.size w w1.drew := hb1.drew
      have HOk := Lib.hid (show OkT w1.drew A' n' c' (kidT t p) from ⟨(hk'.below hbd).more hbd.size, hn', hc'⟩)
      have hbl : b < w1.heap.size := Nat.lt_of_lt_of_le hb hb1.size
      clear hk' hw1
      go_wp2_with fail
      go_region_held3 (fun w' => w'.cell? ⟨b, o, none⟩ = some (.string p)) (first | exact hc1' | exact hs3 | exact hs4)
        (first
        | (go_at_call 25; refine (HC.out _ hbd A' n' c' HOk.out).mono ?_; rintro e w3 ⟨A3, n3, c3, rfl, ox, hb3⟩; have hs3 := (hb3.cell (p := ⟨b, o, none⟩) hbl).trans hc1'; have hb03 := hbd.trans (hb3.mono hbd.size); have hA3 := (HT.out.below hb03).holds)
        | (go_at_call 35; refine (with_any t y A A3 n c n3 c3 w3.heap.size p w3 hA3 ox.holds (Nat.le_refl _) hn5 hcap ox.cap.1 ox.cap.2).mono ?_; rintro e w4 ⟨A4, n5, c4, rfl, hx4, hn5', hm4, hb4⟩; have hs4 := (hb4.cell (p := ⟨b, o, none⟩) (Nat.lt_of_lt_of_le hbl hb3.size)).trans hs3))
      all_goals
        go_wp2_with fail
        go_ret
        exact ⟨A4, n5, c4, rfl, ⟨hx4, hn5', hm4⟩, hb03.trans (hb4.mono hb03.size)⟩
end Go.Proofs.YtlcbhooiinaalaaGreatDoor.Pt
namespace Go.Proofs.YtlcbhooiinaalaaGreatDoor.Cv
open Go.RowKit Go.Proofs.YtlcbhooiinaalaaGreatDoor.Jd Go.Proofs.YtlcbhooiinaalaaGreatDoor.Li Go.Proofs.YtlcbhooiinaalaaGreatDoor.Pt
set_option maxRecDepth 100000

set_option maxHeartbeats 4000000 in
theorem rrecord_any (m : ByteArray) (vals : List ByteArray) (f hh : List Ln) (T : Tr) (A Ah At : Option Addr) (n c nh ch nt ct : Nat) (w : World) (h : SeesL w w.heap.size A n f) (hm : mns f = m :: vals) (hn : n ≤ 100000) (hz : ∀ z ∈ mns f, z.size ≤ 140737488351232) (hnh : nh = hh.length) (hT : Holds w w.heap.size At nt T) (hnt : nt ≤ 140737488351232) :
    Calls Tryz.prog 55 #[.slice A n c, .slice Ah nh ch, .slice At nt ct] w fun e w' => e = .returned (.int .i64 (recR hh T f)) ∧ Below w.heap.size w w' := by
  have hl : n = vals.length + 1 := by rw [h.len, ← mns_len, hm, List.length_cons]
  have hfl : n = f.length := h.len
  obtain ⟨b, o, x, rfl, hbl, hx0, hc0⟩ := val_at h (k := 0) (by omega)
  obtain rfl : m = x := by rw [hm] at hx0; simpa using hx0
  have HS : Hid (SeesL w w.heap.size (some ⟨b, o, none⟩) n f) := Lib.hid h
  have HM := Lib.hid hm
  have HZ := Lib.hid hz
  have hc0' : w.cell? ⟨b, o + 1, none⟩ = some (.string m) := by rw [← hc0, Nat.zero_mul, Nat.add_zero]
  have n0 : (0 : Int) < (n : Int) := by omega
  have n0' : 0 < n := by omega
  have Hl := Lib.hid hl
  have hms : m.size ≤ 140737488351232 := hz m (by rw [hm]; simp)
  obtain ⟨u, hu⟩ : ∃ u, u = nB m := ⟨_, rfl⟩
  obtain ⟨v, hv⟩ : ∃ v, v = vals.all vB := ⟨_, rfl⟩
  obtain ⟨d, hd⟩ : ∃ d, d = T.atIs m := ⟨_, rfl⟩
  have hvl : mns f.tail = vals := by
    cases f with
    | nil => cases hm
    | cons y l => simp only [mns, List.map_cons] at hm; injection hm
  have HF : Hid (recR hh T f = if n ≠ nh then 6 else if u = false then 6 else if v = false then 6 else if d = true then 7 else 0) := Lib.hid (by
    rw [recR, hm, hvl, hu, hv, hd, ← hfl, ← hnh]
    rfl)
  have HP := Lib.hid (plain_any m w hms)
  rw [← hu] at HP
  have HKi := Lib.hid (kid2_any T At nt ct w.heap.size m w hT (Nat.le_refl _) hnt)
  rw [← hd] at HKi
  have Hv := Lib.hid hv
  clear hu hv hd hm hl h hz hx0 hc0 hvl hms hT hfl hnh
  by_cases hnn : n = nh
  · subst hnn
    cases u with
    | false =>
      go_enter Tryz.func55, Tryz.ntmps55
      go_wp2_with fail
      (with_reducible refine HP.out.mono ?_)
      rintro e w2 ⟨rfl, rfl⟩
      go_wp2_with fail
      go_ret
      exact ⟨by rw [HF.out]; simp, Below.refl _ _⟩
    | true =>
      go_enter Tryz.func55, Tryz.ntmps55
      go_wp2_with fail
      (with_reducible refine HP.out.mono ?_)
      rintro e w2 ⟨rfl, rfl⟩
      go_wp2_with fail
      go_loopw [7] (fun i wr => ∃ (k : Nat), k ≤ vals.length ∧ i = .int .i64 ((k + 1 : Nat) : Int) ∧ Hid (v = (vals.drop k).all vB) ∧ Hid (wr = w)) (fun i _ => n - (intOf i).toNat)
      case atStart => exact ⟨0, Nat.zero_le _, rfl, Lib.hid (by rw [Hv.out]; rfl), Lib.hid rfl⟩
      case round =>
        obtain ⟨k, hk, rfl, HV, HW⟩ := hrel
        have hrel := HV.out
        by_cases hlt : k < vals.length
        · have hkn : ((k + 1 : Nat) : Int) < (n : Int) := by have := Hl.out; omega
          have hkn2 : (k : Int) + 1 < (n : Int) := by omega
          have hk0 : (0 : Int) ≤ (k : Int) + 1 := by omega
          obtain ⟨x, hx, hc⟩ := val_here HS.out (k := k + 1) (by have := Hl.out; omega)
          have hxs : x.size ≤ 140737488351232 := HZ.out x (List.mem_of_getElem? hx)
          rw [HM.out, List.getElem?_cons_succ] at hx
          have hxe : vals[k] = x := (List.getElem?_eq_some_iff.1 hx).2
          rw [List.drop_eq_getElem_cons hlt, List.all_cons, hxe] at hrel
          have hcr : wr.cell? ⟨b, o + (k + 1) * 2 + 1, none⟩ = some (.string x) := by rw [HW.out]; exact hc
          have HC := Lib.hid (rvalue7_any x wr hxs)
          obtain ⟨y, hy⟩ : ∃ y, y = vB x := ⟨_, rfl⟩
          rw [← hy] at HC hrel
          have Hlt := Lib.hid hlt
          clear hlt hx hxe hc hxs hy HV
          cases y with
          | false =>
            have HV2 : Hid (v = false) := Lib.hid (by rw [hrel]; rfl)
            clear hrel
            go_wp2_with fail
            (with_reducible refine HC.out.mono ?_)
            rintro e w2 ⟨rfl, rfl⟩
            go_wp2_with fail
            go_ret
            exact ⟨by rw [HF.out, HV2.out]; simp, by rw [HW.out]; exact Below.refl _ _⟩
          | true =>
            have HV2 : Hid (v = (vals.drop (k + 1)).all vB) := Lib.hid (by rw [hrel]; rfl)
            clear hrel
            go_wp2_with fail
            (with_reducible refine HC.out.mono ?_)
            rintro e w2 ⟨rfl, rfl⟩
            go_wp2_with fail
            go_roundw
            case rel => exact ⟨k + 1, Hlt.out, by go_num, HV2, HW⟩
            case measure => have := Hlt.out; have := Hl.out; simp [intOf]; omega
        · obtain rfl : k = vals.length := by omega
          have hkn : ¬ ((vals.length + 1 : Nat) : Int) < (n : Int) := by have := Hl.out; omega
          have HV2 : Hid (v = true) := Lib.hid (by rw [hrel, List.drop_of_length_le (Nat.le_refl _)]; rfl)
          clear hrel HV hlt hk
          have hw := HW.out.symm
          subst hw
          clear HW
          go_wp2_with fail
          (with_reducible refine HKi.out.mono ?_)
          rintro e w2 ⟨A', n', c', rfl, _, _, _, q, rfl⟩
          cases d with
          | false =>
            go_wp2_with fail
            go_ret
            exact ⟨by rw [HF.out, HV2.out]; simp, below_drewN (Below.refl _ _) _⟩
          | true =>
            go_wp2_with fail
            go_ret
            exact ⟨by rw [HF.out, HV2.out]; simp, below_drewN (Below.refl _ _) _⟩
  · have hni : ((n : Int) != (nh : Int)) = true := bne_iff_ne.2 (by omega)
    have HF2 : Hid (recR hh T f = 6) := Lib.hid (by rw [HF.out, if_pos hnn])
    clear hnn
    go_enter Tryz.func55, Tryz.ntmps55
    go_wp2_with fail
    go_ret
    exact ⟨by rw [HF2.out]; rfl, Below.refl _ _⟩
end Go.Proofs.YtlcbhooiinaalaaGreatDoor.Cv
