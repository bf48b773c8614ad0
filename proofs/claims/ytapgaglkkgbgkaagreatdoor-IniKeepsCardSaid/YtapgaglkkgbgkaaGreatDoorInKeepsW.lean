/- IniKeeps' walk: the remarks of a file stay. Conditions: MaxLen's cell. -/
import Derived.Test.YtapgaglkkgbgkaaGreatDoorMwInTnM
import Derived.Test.YtapgaglkkgbgkaaGreatDoorInTurn
import Derived.Test.YtapgaglkkgbgkaaGreatDoorInRFits
import Derived.Test.YtapgaglkkgbgkaaGreatDoorMwInRRows
import Derived.Test.YtapgaglkkgbgkaaGreatDoorInRem
import Derived.Test.YtapgaglkkgbgkaaGreatDoorMwRQuote
namespace Go.Proofs.YtapgaglkkgbgkaaGreatDoor.In
open Go.RowKit Go.Proofs.YtapgaglkkgbgkaaGreatDoor.Jd Go.Proofs.YtapgaglkkgbgkaaGreatDoor.Li Go.Proofs.YtapgaglkkgbgkaaGreatDoor.Cl Go.Proofs.YtapgaglkkgbgkaaGreatDoor.Pt Go.Proofs.YtapgaglkkgbgkaaGreatDoor.Cv
set_option maxRecDepth 100000

set_option maxHeartbeats 8000000 in
theorem keeps_walk (A : Option Addr) (n c : Nat) (l : List Int) (A2 : Option Addr) (n2 c2 : Nat) (l2 : List Int) (w : World)
    (h : SeesV w w.heap.size A n (l.map (Value.int .i64))) (hr : ∀ x ∈ l, -9223372036854775808 ≤ x ∧ x ≤ 9223372036854775807) (hc : n ≤ c) (hm : c ≤ maxLen)
    (h2 : SeesV w w.heap.size A2 n2 (l2.map (Value.int .i64))) (hr2 : ∀ x ∈ l2, -9223372036854775808 ≤ x ∧ x ≤ 9223372036854775807) (_ : n2 ≤ c2) (_ : c2 ≤ maxLen) (hG : Gl w) :
    Calls Tryz.prog 6 #[.slice A n c, .slice A2 n2 c2] w fun e w' => e = .returned (.bool true) ∧ Below w.heap.size w w' := by
  have HKn := Lib.hid (known_any w hG)
  have HG := Lib.hid hG
  have HFile := Lib.hid (fun (W : World) (hW : Below w.heap.size w W) => file_any A n c l W (sees_up (h.below hW) hW.size) hr hc hm)
  have HTurn := Lib.hid (fun (W : World) (hW : Below w.heap.size w W) (t0 : Tr) (B : Option Addr) (m d : Nat) (ht : OkT W B m d t0) (hn : Tn 400 t0) => turn_any t0 B A2 m d n2 c2 l2 W ht hn (sees_up (h2.below hW) hW.size) hr2)
  clear h hr h2 hr2 hG
  go_enter Tryz.func6, Tryz.ntmps6
  go_wp2_with fail
  (with_reducible refine HKn.out.mono ?_)
  rintro e w1 ⟨rfl, hb1⟩
  have HB1 := Lib.hid hb1
  have HF1 := Lib.hid (HFile.out w1 hb1)
  clear hb1
  go_wp2_with fail
  (with_reducible refine HF1.out.mono ?_)
  rintro e w2 ⟨s, hs, rfl, hb2⟩
  have HB2 := Lib.hid (HB1.out.trans (hb2.mono HB1.out.size))
  have HRl := Lib.hid (rload_any s w2 (by omega))
  have HFew := Lib.hid (readI_few s.data.toList)
  have HRem := Lib.hid (fun W => remarks_any s W (by omega))
  obtain ⟨o, ho⟩ : ∃ o, o = readI s.data.toList := ⟨_, rfl⟩
  rw [← ho] at HRl HFew
  obtain ⟨T, l0, e0⟩ := o
  have Ho := Lib.hid ho
  clear hb2 ho hs
  go_wp2_with fail
  (with_reducible refine HRl.out.mono ?_)
  rintro e w3 ⟨At, nt, ct, rfl, hT, hnt, hct, hb3⟩
  have HB3 := Lib.hid (HB2.out.trans (hb3.mono HB2.out.size))
  have HTu := Lib.hid (HTurn.out w3 HB3.out T At nt ct ⟨hT, hnt, hct⟩ HFew.out)
  clear hT hnt hct hb3
  go_wp2_with fail
  (with_reducible refine HTu.out.mono ?_)
  rintro e w4 ⟨u, Au, nu, cu, rfl, hu, hun, hb4⟩
  have HB4 := Lib.hid (HB3.out.trans (hb4.mono HB3.out.size))
  have HU4 := Lib.hid hu
  have HTn := Lib.hid hun
  clear hu hun hb4
  by_cases he : e0 = 0
  case neg =>
    have hvb : (e0 != 0) = true := bne_iff_ne.2 he
    clear he
    go_wp2_with fail
    go_ret
    exact ⟨rfl, HB4.out⟩
  subst he
  have HFi := Lib.hid (rfits_any u Au nu cu w4 HU4.out.holds (by have := HTn.out.1; omega) HTn.out.2)
  have HErr := Lib.hid (put_err (t := u) (l := s.data.toList) (by rw [← Ho.out]))
  obtain ⟨f0, hf0⟩ : ∃ f, f = fitsM u := ⟨_, rfl⟩
  rw [← hf0] at HFi HErr
  clear hf0
  by_cases hf : f0 = 0
  case neg =>
    have hvb : (f0 != 0) = true := bne_iff_ne.2 hf
    clear hf
    go_wp2_with fail
    (with_reducible refine HFi.out.mono ?_)
    rintro e w5 ⟨rfl, hb5⟩
    have HB5 := Lib.hid (HB4.out.trans (hb5.mono HB4.out.size))
    clear hb5
    go_wp2_with fail
    go_ret
    exact ⟨rfl, HB5.out⟩
  subst hf
  have HErr2 := Lib.hid (HErr.out rfl)
  clear HErr
  go_wp2_with fail
  (with_reducible refine HFi.out.mono ?_)
  rintro e w5 ⟨rfl, hb5⟩
  have HB5 := Lib.hid (HB4.out.trans (hb5.mono HB4.out.size))
  have HU5 := Lib.hid (HU4.out.below hb5)
  clear hb5
  have HP1 := Lib.hid (putE_any s u Au nu cu w5 (by have := HTn.out.1; omega) HTn.out.2 HU5.out.holds HU5.out.cap.1 HU5.out.cap.2 (HG.out.below HB5.out))
  have HRp := Lib.hid (fun h => rem_put (t := u) (l := s.data.toList) h)
  have HPz := Lib.hid (fun h => put_zero (t := u) (l := s.data.toList) h)
  obtain ⟨z1, hz1⟩ : ∃ z, z = putM u s.data.toList := ⟨_, rfl⟩
  rw [← hz1] at HP1 HErr2 HRp HPz
  obtain ⟨P, e1⟩ := z1
  dsimp only at HP1 HErr2 HRp HPz
  clear hz1
  go_wp2_with fail
  (with_reducible refine HP1.out.mono ?_)
  rintro e w6 ⟨rfl, hb6⟩
  have HB6 := Lib.hid (HB5.out.trans (hb6.mono HB5.out.size))
  clear hb6
  by_cases he1 : e1 = 0
  case neg =>
    obtain rfl : e1 = 5 := HErr2.out.resolve_left he1
    clear he1
    go_wp2_with fail
    go_ret
    exact ⟨rfl, HB6.out⟩
  subst he1
  have hrp := HRp.out rfl
  have hpz := HPz.out rfl
  have hpl : (mkB P).size ≤ 1000000 := by rw [mkB_size]; have := hpz.2.2.2; rw [this]; have := hpz.2.2.1; omega
  have HRem2 := Lib.hid (fun W => by
    have := remarks_any (mkB P) W hpl
    rw [mkB_bytes, hrp] at this
    exact this)
  obtain ⟨R, hR⟩ : ∃ R, R = remF [] s.data.toList := ⟨_, rfl⟩
  rw [← hR] at HRem HRem2
  have HRl : Hid (R.length ≤ 1000001) := Lib.hid (by
    have h1 := rem_len s.data.toList []
    rw [← hR] at h1
    have h2 : s.data.toList.length ≤ 4000 := (read_fits (l := s.data.toList) (by rw [← Ho.out])).2.2.2.2
    omega)
  obtain ⟨p, hp⟩ : ∃ p, p = mkB P := ⟨_, rfl⟩
  rw [← hp] at HRem2 ⊢
  clear hrp hpz hpl hR hp HRp HPz
  go_wp2_with fail
  (with_reducible refine (HRem.out _).mono ?_)
  rintro e w7 ⟨Aa, na, ca, rfl, ha, hb7⟩
  have HB7 := Lib.hid (HB6.out.trans (hb7.mono HB6.out.size))
  have HA7 := Lib.hid ha.sees
  have Hal := Lib.hid ha.len
  clear ha hb7
  go_wp2_with fail
  (with_reducible refine (HRem2.out _).mono ?_)
  rintro e w8 ⟨Ab, nb, cb, rfl, hb, hb8⟩
  have HB8 := Lib.hid (HB7.out.trans (hb8.mono HB7.out.size))
  have HA8 := Lib.hid (HA7.out.below hb8)
  have HB := Lib.hid hb.sees
  have HS78 := Lib.hid hb8.size
  have hbl := hb.len
  obtain rfl : na = nb := by rw [Hal.out, hbl]
  have hnz : na ≤ 1000001 := by rw [hbl]; exact HRl.out
  clear hb hb8 hbl
  have hne : ((na : Int) != (na : Int)) = false := by simp
  go_wp2_with fail
  go_loopw [14] (fun i wr => ∃ (k : Nat), k ≤ na ∧ i = .int .i64 k ∧ Hid (Below w8.heap.size w8 wr)) (fun i _ => na - (intOf i).toNat)
  case atStart => exact ⟨0, Nat.zero_le _, rfl, Lib.hid (Below.refl _ _)⟩
  case round =>
    obtain ⟨k, hk, rfl, HW⟩ := hrel
    by_cases hlt : k < na
    · have hkn : (k : Int) < (na : Int) := by omega
      have hk0 : (0 : Int) ≤ (k : Int) := by omega
      obtain ⟨b1, o1, y1, rfl, hy1, hb1, hc1⟩ := seesv_at (HA8.out.below (HW.out.mono HS78.out)) hlt
      obtain ⟨b2, o2, y2, rfl, hy2, hb2, hc2⟩ := seesv_at (HB.out.below HW.out) hlt
      obtain rfl : y1 = y2 := by rw [hy1] at hy2; exact Option.some.inj hy2
      obtain ⟨y, hy⟩ : ∃ y : ByteArray, (ByteArray.mk y1.toArray) = y := ⟨_, rfl⟩
      rw [hy] at hc1 hc2
      have hyy : (y.toList == y.toList) = true := by simp
      have Hlt := Lib.hid hlt
      clear hy1 hy2 hb1 hb2 hy hlt
      obtain ⟨wx, rfl⟩ : ∃ x : World, x = wr := ⟨_, rfl⟩
      go_upto_region 17 with (fail)
      go_quiet (fail)
      go_wp2_with fail
      go_roundw
      case rel => exact ⟨k + 1, Hlt.out, by go_num, Lib.hid (below_drewN HW.out _)⟩
      case measure => have := Hlt.out; simp [intOf]; omega
    · have hkn : ¬ (k : Int) < (na : Int) := by omega
      go_wp2_with fail
      go_ret
      exact ⟨rfl, HB8.out.trans (HW.out.mono HB8.out.size)⟩
end Go.Proofs.YtapgaglkkgbgkaaGreatDoor.In
