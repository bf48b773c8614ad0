/- IniOrder's walk. Conditions: MaxLen's cell. -/
import Derived.Test.YtapgaglkkgbgkaaGreatDoorMwInTnM
import Derived.Test.YtapgaglkkgbgkaaGreatDoorInTurn
import Derived.Test.YtapgaglkkgbgkaaGreatDoorInRFits
import Derived.Test.YtapgaglkkgbgkaaGreatDoorMwInRRows
import Derived.Test.YtapgaglkkgbgkaaGreatDoorMwRQuote
namespace Go.Proofs.YtapgaglkkgbgkaaGreatDoor.In
open Go.RowKit Go.Proofs.YtapgaglkkgbgkaaGreatDoor.Jd Go.Proofs.YtapgaglkkgbgkaaGreatDoor.Li Go.Proofs.YtapgaglkkgbgkaaGreatDoor.Cl Go.Proofs.YtapgaglkkgbgkaaGreatDoor.Pt Go.Proofs.YtapgaglkkgbgkaaGreatDoor.Cv
set_option maxRecDepth 100000

/-- What a put answers when all is right, and what is loaded of it. -/
def BackedO (t : Tr) (z : Bs × Int) (o : Tr × Nat × Int) : Prop := (z.2 = 0 ∧ o = (t, 0, 0)) ∨ z.2 = 5
theorem backedO {t : Tr} {l : Bs} (h1 : (readI l).2.2 = 0) (h2 : fitsM t = 0) : BackedO t (putM t l) (readI (putM t l).1) := by
  rcases put_err h1 h2 with h | h
  · exact .inl ⟨h, put_read h⟩
  · exact .inr h

set_option maxHeartbeats 8000000 in
theorem order_walk (A : Option Addr) (n c : Nat) (l : List Int) (A1 : Option Addr) (n1 c1 : Nat) (l1 : List Int) (A2 : Option Addr) (n2 c2 : Nat) (l2 : List Int) (w : World)
    (h : SeesV w w.heap.size A n (l.map (Value.int .i64))) (hr : ∀ x ∈ l, -9223372036854775808 ≤ x ∧ x ≤ 9223372036854775807) (hc : n ≤ c) (hm : c ≤ maxLen)
    (h1 : SeesV w w.heap.size A1 n1 (l1.map (Value.int .i64))) (hr1 : ∀ x ∈ l1, -9223372036854775808 ≤ x ∧ x ≤ 9223372036854775807) (hc1 : n1 ≤ c1) (hm1 : c1 ≤ maxLen)
    (h2 : SeesV w w.heap.size A2 n2 (l2.map (Value.int .i64))) (hr2 : ∀ x ∈ l2, -9223372036854775808 ≤ x ∧ x ≤ 9223372036854775807) (_ : n2 ≤ c2) (_ : c2 ≤ maxLen) (hG : Gl w) :
    Calls Tryz.prog 7 #[.slice A n c, .slice A1 n1 c1, .slice A2 n2 c2] w fun e w' => e = .returned (.bool true) ∧ Below w.heap.size w w' := by
  have HKn := Lib.hid (known_any w hG)
  have HG := Lib.hid hG
  have HFile := Lib.hid (fun (W : World) (hW : Below w.heap.size w W) => file_any A n c l W (sees_up (h.below hW) hW.size) hr hc hm)
  have HFile1 := Lib.hid (fun (W : World) (hW : Below w.heap.size w W) => file_any A1 n1 c1 l1 W (sees_up (h1.below hW) hW.size) hr1 hc1 hm1)
  have HTurn := Lib.hid (fun (W : World) (hW : Below w.heap.size w W) (t0 : Tr) (B : Option Addr) (m d : Nat) (ht : OkT W B m d t0) (hn : Tn 400 t0) => turn_any t0 B A2 m d n2 c2 l2 W ht hn (sees_up (h2.below hW) hW.size) hr2)
  clear h hr h1 hr1 h2 hr2 hG
  go_enter Tryz.func7, Tryz.ntmps7
  go_wp2_with fail
  (with_reducible refine HKn.out.mono ?_)
  rintro e w1 ⟨rfl, hb1⟩
  have HB1 := Lib.hid hb1
  have HF1 := Lib.hid (HFile.out w1 hb1)
  clear hb1
  go_wp2_with fail
  (with_reducible refine HF1.out.mono ?_)
  rintro e w2 ⟨s, hs, rfl, hb2⟩
  have HB2 := Lib.hid (HB1.out.trans (hb2.mono HB1.out.size))
  have HF2 := Lib.hid (HFile1.out w2 HB2.out)
  clear hb2
  go_wp2_with fail
  (with_reducible refine HF2.out.mono ?_)
  rintro e w3 ⟨s2, hs2, rfl, hb3⟩
  have HB3 := Lib.hid (HB2.out.trans (hb3.mono HB2.out.size))
  have HRl := Lib.hid (rload_any s w3 (by omega))
  have HFew := Lib.hid (readI_few s.data.toList)
  have HRl2 := Lib.hid (fun W => rload_any s2 W (by omega))
  have HBk := Lib.hid (fun t h1 h2 => backedO (t := t) (l := s.data.toList) h1 h2)
  have HBm := Lib.hid (fun t h1 h2 => backedO (t := t) (l := s2.data.toList) h1 h2)
  obtain ⟨o, ho⟩ : ∃ o, o = readI s.data.toList := ⟨_, rfl⟩
  rw [← ho] at HRl HFew HBk
  obtain ⟨T, l0, e0⟩ := o
  obtain ⟨o2, ho2⟩ : ∃ o, o = readI s2.data.toList := ⟨_, rfl⟩
  rw [← ho2] at HRl2 HBm
  obtain ⟨T2, l02, e2⟩ := o2
  clear hb3 ho ho2 hs hs2
  go_wp2_with fail
  (with_reducible refine HRl.out.mono ?_)
  rintro e w4 ⟨At, nt, ct, rfl, hT, hnt, hct, hb4⟩
  have HB4 := Lib.hid (HB3.out.trans (hb4.mono HB3.out.size))
  have HT4 : Hid (OkT w4 At nt ct T) := Lib.hid ⟨hT, hnt, hct⟩
  have HRl4 := Lib.hid (HRl2.out w4)
  clear hT hnt hct hb4
  go_wp2_with fail
  (with_reducible refine HRl4.out.mono ?_)
  rintro e w5 ⟨Ao, no, co, rfl, hO, hno, hco, hb5⟩
  have HB5 := Lib.hid (HB4.out.trans (hb5.mono HB4.out.size))
  have HT5 := Lib.hid (HT4.out.below hb5)
  have HTu := Lib.hid (HTurn.out w5 HB5.out T At nt ct HT5.out HFew.out)
  clear hO hno hco hb5
  go_wp2_with fail
  (with_reducible refine HTu.out.mono ?_)
  rintro e w6 ⟨u, Au, nu, cu, rfl, hu, hun, hb6⟩
  have HB6 := Lib.hid (HB5.out.trans (hb6.mono HB5.out.size))
  have HU6 := Lib.hid hu
  have HTn := Lib.hid hun
  clear hu hun hb6
  by_cases he : e0 = 0
  case neg =>
    have hvb : (e0 != 0) = true := bne_iff_ne.2 he
    clear he
    go_wp2_with fail
    go_ret
    exact ⟨rfl, HB6.out⟩
  subst he
  by_cases he2 : e2 = 0
  case neg =>
    have hvb : (e2 != 0) = true := bne_iff_ne.2 he2
    clear he2
    go_wp2_with fail
    go_ret
    exact ⟨rfl, HB6.out⟩
  subst he2
  have HFi := Lib.hid (rfits_any u Au nu cu w6 HU6.out.holds (by have := HTn.out.1; omega) HTn.out.2)
  have HBk1 := Lib.hid (HBk.out u rfl)
  have HBm1 := Lib.hid (HBm.out u rfl)
  obtain ⟨f0, hf0⟩ : ∃ f, f = fitsM u := ⟨_, rfl⟩
  rw [← hf0] at HFi HBk1 HBm1
  clear hf0 HBk HBm
  by_cases hf : f0 = 0
  case neg =>
    have hvb : (f0 != 0) = true := bne_iff_ne.2 hf
    clear hf
    go_wp2_with fail
    (with_reducible refine HFi.out.mono ?_)
    rintro e w7 ⟨rfl, hb7⟩
    have HB7 := Lib.hid (HB6.out.trans (hb7.mono HB6.out.size))
    clear hb7
    go_wp2_with fail
    go_ret
    exact ⟨rfl, HB7.out⟩
  subst hf
  have HBk2 := Lib.hid (HBk1.out rfl)
  have HBm2 := Lib.hid (HBm1.out rfl)
  clear HBk1 HBm1
  go_wp2_with fail
  (with_reducible refine HFi.out.mono ?_)
  rintro e w7 ⟨rfl, hb7⟩
  have HB7 := Lib.hid (HB6.out.trans (hb7.mono HB6.out.size))
  have HU7 := Lib.hid (HU6.out.below hb7)
  clear hb7
  have HPu := Lib.hid (fun (W : World) (x : ByteArray) (hW : Below w.heap.size w W) (hU : OkT W Au nu cu u) => putE_any x u Au nu cu W (by have := HTn.out.1; omega) HTn.out.2 hU.holds hU.cap.1 hU.cap.2 (HG.out.below hW))
  have HP1 := Lib.hid (HPu.out w7 s HB7.out HU7.out)
  have HP2 := Lib.hid (fun (W : World) => HPu.out W s2)
  have HL1 := Lib.hid (fun (x : ByteArray) (W : World) (hW : Below w.heap.size w W) => load_any x W (HG.out.below hW))
  obtain ⟨z1, hz1⟩ : ∃ z, z = putM u s.data.toList := ⟨_, rfl⟩
  rw [← hz1] at HP1 HBk2
  obtain ⟨P, e1⟩ := z1
  obtain ⟨z2, hz2⟩ : ∃ z, z = putM u s2.data.toList := ⟨_, rfl⟩
  rw [← hz2] at HP2 HBm2
  obtain ⟨Q, e2⟩ := z2
  dsimp only at HP1 HBk2 HP2 HBm2
  have HLp := Lib.hid (fun (W : World) (hW : Below w.heap.size w W) => by
    have := HL1.out (mkB P) W hW
    rw [mkB_bytes] at this
    exact this)
  have HLq := Lib.hid (fun (W : World) (hW : Below w.heap.size w W) => by
    have := HL1.out (mkB Q) W hW
    rw [mkB_bytes] at this
    exact this)
  obtain ⟨o3, ho3⟩ : ∃ o, o = readI P := ⟨_, rfl⟩
  obtain ⟨o4, ho4⟩ : ∃ o, o = readI Q := ⟨_, rfl⟩
  rw [← ho3] at HLp HBk2
  rw [← ho4] at HLq HBm2
  obtain ⟨p, hp⟩ : ∃ p, p = mkB P := ⟨_, rfl⟩
  obtain ⟨q, hq⟩ : ∃ q, q = mkB Q := ⟨_, rfl⟩
  rw [← hp] at HP1 HLp
  rw [← hq] at HP2 HLq
  clear hz1 hz2 ho3 ho4 hp hq HL1
  go_wp2_with fail
  (with_reducible refine HP1.out.mono ?_)
  rintro e w8 ⟨rfl, hb8⟩
  have HB8 := Lib.hid (HB7.out.trans (hb8.mono HB7.out.size))
  have HU8 := Lib.hid (HU7.out.below hb8)
  have HP2' := Lib.hid (HP2.out w8 HB8.out HU8.out)
  clear hb8
  go_wp2_with fail
  (with_reducible refine HP2'.out.mono ?_)
  rintro e w9 ⟨rfl, hb9⟩
  have HB9 := Lib.hid (HB8.out.trans (hb9.mono HB8.out.size))
  have HU9 := Lib.hid (HU8.out.below hb9)
  have HLp9 := Lib.hid (HLp.out w9 HB9.out)
  clear hb9
  go_wp2_with fail
  (with_reducible refine HLp9.out.mono ?_)
  rintro e w10 ⟨A3, c3, rfl, hX, hc3, hb10⟩
  have HB10 := Lib.hid (HB9.out.trans (hb10.mono HB9.out.size))
  have HU10 := Lib.hid (HU9.out.below hb10)
  have HX10 := Lib.hid (hX.to (B := w10.heap.size) fun b hb => hb.2)
  have HLq10 := Lib.hid (HLq.out w10 HB10.out)
  clear hX hc3 hb10
  go_wp2_with fail
  (with_reducible refine HLq10.out.mono ?_)
  rintro e w11 ⟨A4, c4, rfl, hY, hc4, hb11⟩
  have HB11 := Lib.hid (HB10.out.trans (hb11.mono HB10.out.size))
  have HU11 := Lib.hid (HU10.out.below hb11)
  have HX11 := Lib.hid ((HX10.out.below hb11).more hb11.size)
  have HY11 := Lib.hid (hY.to (B := w11.heap.size) fun b hb => hb.2)
  clear hY hc4 hb11
  have HSame := Lib.hid (fun (B : Option Addr) (d : Nat) (h : Holds w11 w11.heap.size B u.len u) (W : World) (hW : Below w11.heap.size w11 W) => by
    have hls := u.len_size
    have hsz := HTn.out.1
    have hok2 := HU11.out.below hW
    have := rsame_any u.size u u B Au u.len nu d cu W.heap.size W (Nat.le_refl _) ((h.below hW).more hW.size) hok2.holds (by simp) (by omega) (by have := HU11.out.holds.len; omega) (low_size _ (by omega)) (low_size _ (by omega))
    rw [same_refl] at this
    exact this)
  have HR := Lib.hid (Below.refl w11.heap.size w11)
  rcases HBk2.out with ⟨rfl, rfl⟩ | rfl
  · have HS1 := Lib.hid (HSame.out A3 c3 HX11.out)
    rcases HBm2.out with ⟨rfl, rfl⟩ | rfl
    · have HS2 := Lib.hid (HSame.out A4 c4 HY11.out)
      go_wp2_with fail
      (with_reducible refine (HS1.out _ HR.out).mono ?_)
      rintro e w15 ⟨rfl, q15, rfl⟩
      have HR2 := Lib.hid (below_drewN HR.out q15)
      go_wp2_with fail
      (with_reducible refine (HS2.out _ HR2.out).mono ?_)
      rintro e w16 ⟨rfl, q16, rfl⟩
      go_wp2_with fail
      go_ret
      exact ⟨rfl, below_drewN HB11.out _⟩
    · go_wp2_with fail
      (with_reducible refine (HS1.out _ HR.out).mono ?_)
      rintro e w15 ⟨rfl, q15, rfl⟩
      go_wp2_with fail
      go_ret
      exact ⟨rfl, below_drewN HB11.out _⟩
  · rcases HBm2.out with ⟨rfl, rfl⟩ | rfl
    · have HS2 := Lib.hid (HSame.out A4 c4 HY11.out)
      go_wp2_with fail
      (with_reducible refine (HS2.out _ HR.out).mono ?_)
      rintro e w15 ⟨rfl, q15, rfl⟩
      go_wp2_with fail
      go_ret
      exact ⟨rfl, below_drewN HB11.out _⟩
    · go_wp2_with fail
      go_ret
      exact ⟨rfl, HB11.out⟩
end Go.Proofs.YtapgaglkkgbgkaaGreatDoor.In
