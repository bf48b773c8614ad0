/- IniBack's walk: what was loaded, put back, is the file; another tree is loaded just so. Conditions: MaxLen's cell. -/
import Derived.Test.YtapgaglkkgbgkaaGreatDoorMwInTnM
import Derived.Test.YtapgaglkkgbgkaaGreatDoorInTurn
import Derived.Test.YtapgaglkkgbgkaaGreatDoorInRFits
import Derived.Test.YtapgaglkkgbgkaaGreatDoorMwInRRows
import Derived.Test.YtapgaglkkgbgkaaGreatDoorMwRQuote
namespace Go.Proofs.YtapgaglkkgbgkaaGreatDoor.In
open Go.RowKit Go.Proofs.YtapgaglkkgbgkaaGreatDoor.Jd Go.Proofs.YtapgaglkkgbgkaaGreatDoor.Li Go.Proofs.YtapgaglkkgbgkaaGreatDoor.Cl Go.Proofs.YtapgaglkkgbgkaaGreatDoor.Pt Go.Proofs.YtapgaglkkgbgkaaGreatDoor.Cv
set_option maxRecDepth 100000

/-- A tree among three, of few edges. -/
def Tre (w : World) (g k : Nat) : Prop := ∃ (A : Option Addr) (n c : Nat) (t : Tr), w.cell? ⟨g, k, none⟩ = some (.slice A n c) ∧ OkT w A n c t ∧ Tn 430 t
theorem Tre.below {w w' : World} {g k : Nat} (h : Tre w g k) (hg : g < w.heap.size) (hb : Below w.heap.size w w') : Tre w' g k := by
  obtain ⟨A, n, c, t, h1, h2, h3⟩ := h
  exact ⟨A, n, c, t, (hb.cell (p := ⟨g, k, none⟩) hg).trans h1, h2.below hb, h3⟩
def TreV (w : World) (v : Value) : Prop := ∃ (A : Option Addr) (n c : Nat) (t : Tr), v = .slice A n c ∧ OkT w A n c t ∧ Tn 430 t
theorem tre3 {w : World} {x y z : Value} {g : Nat} {e : TypeId} (hg : w.heap[g]? = some (Obj.cells #[x, y, z] e (0, 0))) (hx : TreV w x) (hy : TreV w y) (hz : TreV w z) (k : Nat) (hk : k < 3) : Tre w g k := by
  obtain ⟨A, n, c, t, rfl, h1, h2⟩ := hx
  obtain ⟨A2, n2, c2, t2, rfl, h3, h4⟩ := hy
  obtain ⟨A3, n3, c3, t3, rfl, h5, h6⟩ := hz
  match k, hk with
  | 0, _ => exact ⟨A, n, c, t, by rw [cell_of_row _ _ _ _ _ _ hg]; rfl, h1, h2⟩
  | 1, _ => exact ⟨A2, n2, c2, t2, by rw [cell_of_row _ _ _ _ _ _ hg]; rfl, h3, h4⟩
  | 2, _ => exact ⟨A3, n3, c3, t3, by rw [cell_of_row _ _ _ _ _ _ hg]; rfl, h5, h6⟩
/-- What a put answers when all is right, and what is loaded of it. -/
def Backed (t : Tr) (z : Bs × Int) (o : Tr × Nat × Int) : Prop := (z.2 = 0 ∧ o = (t, 0, 0)) ∨ z.2 = 5
theorem backed {t : Tr} {l : Bs} (h1 : (readI l).2.2 = 0) (h2 : fitsM t = 0) : Backed t (putM t l) (readI (putM t l).1) := by
  rcases put_err h1 h2 with h | h
  · exact .inl ⟨h, put_read h⟩
  · exact .inr h
theorem mkB_list (x : ByteArray) : mkB x.data.toList = x := by simp [mkB]

set_option maxHeartbeats 8000000 in
theorem back_walk (A : Option Addr) (n c : Nat) (l : List Int) (A1 : Option Addr) (n1 c1 : Nat) (l1 : List Int) (A2 : Option Addr) (n2 c2 : Nat) (l2 : List Int) (w : World)
    (h : SeesV w w.heap.size A n (l.map (Value.int .i64))) (hr : ∀ x ∈ l, -9223372036854775808 ≤ x ∧ x ≤ 9223372036854775807) (hc : n ≤ c) (hm : c ≤ maxLen)
    (h1 : SeesV w w.heap.size A1 n1 (l1.map (Value.int .i64))) (hr1 : ∀ x ∈ l1, -9223372036854775808 ≤ x ∧ x ≤ 9223372036854775807) (hc1 : n1 ≤ c1) (hm1 : c1 ≤ maxLen)
    (h2 : SeesV w w.heap.size A2 n2 (l2.map (Value.int .i64))) (hr2 : ∀ x ∈ l2, -9223372036854775808 ≤ x ∧ x ≤ 9223372036854775807) (_ : n2 ≤ c2) (_ : c2 ≤ maxLen) (hG : Gl w) :
    Calls Tryz.prog 5 #[.slice A n c, .slice A1 n1 c1, .slice A2 n2 c2] w fun e w' => e = .returned (.bool true) ∧ Below w.heap.size w w' := by
  have HKn := Lib.hid (known_any w hG)
  have HG := Lib.hid hG
  have HFile := Lib.hid (fun (W : World) (hW : Below w.heap.size w W) => file_any A n c l W (sees_up (h.below hW) hW.size) hr hc hm)
  have HFile1 := Lib.hid (fun (W : World) (hW : Below w.heap.size w W) => file_any A1 n1 c1 l1 W (sees_up (h1.below hW) hW.size) hr1 hc1 hm1)
  have HTurn := Lib.hid (fun (W : World) (hW : Below w.heap.size w W) (t0 : Tr) (B : Option Addr) (m d : Nat) (ht : OkT W B m d t0) (hn : Tn 400 t0) => turn_any t0 B A2 m d n2 c2 l2 W ht hn (sees_up (h2.below hW) hW.size) hr2)
  clear h hr h1 hr1 h2 hr2 hG
  go_enter Tryz.func5, Tryz.ntmps5
  go_wp2_with fail
  (with_reducible refine HKn.out.mono ?_)
  rintro e w1 ⟨rfl, hb1⟩
  have HB1 := Lib.hid hb1
  have HF1 := Lib.hid (HFile.out w1 hb1)
  clear hb1
  go_wp2_with fail
  (with_reducible refine HF1.out.mono ?_)
  rintro e w2 ⟨s, hs, rfl, hb2⟩
  have HB2 := Lib.hid (HB1.out.trans (hb2.mono HB1.out.size))
  have HLd := Lib.hid (load_any s w2 (HG.out.below HB2.out))
  have HFew := Lib.hid (readI_few s.data.toList)
  have HSelf := Lib.hid (fun h => put_same (l := s.data.toList) h)
  have HFitS := Lib.hid (fun h => fits_read (l := s.data.toList) h)
  obtain ⟨o, ho⟩ : ∃ o, o = readI s.data.toList := ⟨_, rfl⟩
  rw [← ho] at HLd HFew HSelf HFitS
  obtain ⟨T, l0, e0⟩ := o
  have Ho := Lib.hid ho
  clear hb2 ho hs
  go_wp2_with fail
  (with_reducible refine HLd.out.mono ?_)
  rintro e w3 ⟨At, ct, rfl, hT, hct, hb3⟩
  have HB3 := Lib.hid (HB2.out.trans (hb3.mono HB2.out.size))
  have HT3 : Hid (OkT w3 At T.len ct T) := Lib.hid ⟨hT.to (B := w3.heap.size) fun b hb => hb.2, hct⟩
  clear hT hct hb3
  by_cases he : e0 = 0
  case neg =>
    have hvb : (e0 != 0) = true := bne_iff_ne.2 he
    clear he
    go_wp2_with fail
    go_ret
    exact ⟨rfl, HB3.out⟩
  subst he
  have HPu := Lib.hid (fun (W : World) (x : ByteArray) (t : Tr) (B : Option Addr) (m d : Nat) (hW : Below w.heap.size w W) (hU : OkT W B m d t) (htn : Tn 430 t) => putE_any x t B m d W (by have := htn.1; omega) htn.2 hU.holds hU.cap.1 hU.cap.2 (HG.out.below hW))
  have htn : Tn 430 T := tn_mono HFew.out (by omega)
  have HTn := Lib.hid htn
  have hP1 := HPu.out w3 s T At T.len ct HB3.out HT3.out htn
  rw [HSelf.out rfl] at hP1
  dsimp only at hP1
  rw [mkB_list] at hP1
  have HP1 := Lib.hid hP1
  have HFt := Lib.hid (fun (W : World) (hU : OkT W At T.len ct T) => fits_any T At T.len ct W hU.holds hU.cap.1 hU.cap.2 (by have := HTn.out.1; omega) HTn.out.2)
  rw [HFitS.out rfl] at HFt
  clear htn hP1
  have hss : (s.toList == s.toList) = true := by simp
  go_wp2_with fail
  (with_reducible refine HP1.out.mono ?_)
  rintro e w4 ⟨rfl, hb4⟩
  have HB4 := Lib.hid (HB3.out.trans (hb4.mono HB3.out.size))
  have HT4 := Lib.hid (HT3.out.below hb4)
  have HFt4 := Lib.hid (HFt.out w4 HT4.out)
  clear hb4
  go_wp2_with fail
  (with_reducible refine HFt4.out.mono ?_)
  rintro e w5 ⟨rfl, hb5⟩
  have HB5 := Lib.hid (HB4.out.trans (hb5.mono HB4.out.size))
  have HT5 := Lib.hid (HT4.out.below hb5)
  have HF5 := Lib.hid (HFile1.out w5 HB5.out)
  clear hb5
  go_wp2_with fail
  (with_reducible refine HF5.out.mono ?_)
  rintro e w6 ⟨s2, hs2, rfl, hb6⟩
  have HB6 := Lib.hid (HB5.out.trans (hb6.mono HB5.out.size))
  have HT6 := Lib.hid (HT5.out.below hb6)
  have HRl := Lib.hid (rload_any s2 w6 (by omega))
  have HFew2 := Lib.hid (readI_few s2.data.toList)
  obtain ⟨o, ho⟩ : ∃ o, o = readI s2.data.toList := ⟨_, rfl⟩
  rw [← ho] at HRl HFew2
  obtain ⟨T2, l02, e2⟩ := o
  clear hb6 ho hs2
  go_wp2_with fail
  (with_reducible refine HRl.out.mono ?_)
  rintro e w7 ⟨Ao, no, co, rfl, hO, hno, hco, hb7⟩
  have HB7 := Lib.hid (HB6.out.trans (hb7.mono HB6.out.size))
  have HT7 := Lib.hid (HT6.out.below hb7)
  have HO7 : Hid (OkT w7 Ao no co T2) := Lib.hid ⟨hO, hno, hco⟩
  have HTu := Lib.hid (HTurn.out w7 HB7.out T At T.len ct HT7.out HFew.out)
  clear hO hno hco hb7
  go_wp2_with fail
  (with_reducible refine HTu.out.mono ?_)
  rintro e w8 ⟨u1, Au1, nu1, cu1, rfl, hu1, hn1, hb8⟩
  have HB8 := Lib.hid (HB7.out.trans (hb8.mono HB7.out.size))
  have HO8 := Lib.hid (HO7.out.below hb8)
  have HU8 := Lib.hid (And.intro hu1 hn1)
  have HTu2 := Lib.hid (HTurn.out w8 HB8.out T2 Ao no co HO8.out HFew2.out)
  clear hu1 hn1 hb8
  go_wp2_with fail
  (with_reducible refine HTu2.out.mono ?_)
  rintro e w9 ⟨u3, Au3, nu3, cu3, rfl, hu3, hn3, hb9⟩
  have HB9 := Lib.hid (HB8.out.trans (hb9.mono HB8.out.size))
  have HO9 := Lib.hid (HO8.out.below hb9)
  have HU9 := Lib.hid (HU8.out.1.below hb9)
  have HV9 := Lib.hid (And.intro hu3 hn3)
  clear hu3 hn3 hb9
  have HZ9 : Hid (∀ o : Obj, w9.heap.size < (w9.alloc o).heap.size) := Lib.hid (fun o => by show _ < (w9.heap.push _).size; simp)
  have HW9 := Lib.hid (fun o : Obj => (Below.refl w9.heap.size w9).alloc (Nat.le_refl _) o)
  go_wp2_with fail
  go_loopw [17] (fun i wr => ∃ (k : Nat), k ≤ 3 ∧ i = .int .i64 k ∧ Hid (Below w.heap.size w wr) ∧ Hid (w9.heap.size < wr.heap.size) ∧ Hid (∀ j, j < 3 → Tre wr w9.heap.size j)) (fun i _ => 3 - (intOf i).toNat)
  case atStart =>
    exact ⟨0, by omega, rfl, Lib.hid (HB9.out.alloc HB9.out.size _), Lib.hid (HZ9.out _), Lib.hid (fun j hj => tre3 (heap_alloc_new w9 _) ⟨_, _, _, u1, rfl, HU9.out.below (HW9.out _), HU8.out.2⟩ ⟨_, _, _, T2, rfl, HO9.out.below (HW9.out _), tn_mono HFew2.out (by omega)⟩ ⟨_, _, _, u3, rfl, HV9.out.1.below (HW9.out _), HV9.out.2⟩ j hj)⟩
  case round =>
    obtain ⟨k, hk, rfl, HW, Hg, HT⟩ := hrel
    obtain ⟨wa, rfl⟩ : ∃ x : World, x = wr := ⟨_, rfl⟩
    have hk0 : (0 : Int) ≤ (k : Int) := by omega
    by_cases hlt : k < 3
    case neg =>
      have hkn : ¬ (k : Int) < 3 := by omega
      go_wp2_with fail
      go_ret
      exact ⟨rfl, HW.out⟩
    have hkn : (k : Int) < 3 := by omega
    by_cases he2 : e2 = 0
    case neg =>
      have hvb : (e2 == 0) = false := beq_eq_false_iff_ne.2 he2
      clear he2
      go_wp2_with fail
      go_ret
      exact ⟨rfl, HW.out⟩
    have hvb : (e2 == 0) = true := beq_iff_eq.2 he2
    obtain ⟨Ax, nx, cx, t, hcell, hok, htn⟩ := HT.out k hlt
    have hcel : ∀ W, Below wa.heap.size wa W → W.cell? ⟨w9.heap.size, k, none⟩ = some (.slice Ax nx cx) := fun W hW => (hW.cell (p := ⟨w9.heap.size, k, none⟩) Hg.out).trans hcell
    have Hcel := Lib.hid hcel
    have hcell0 : wa.cell? ⟨w9.heap.size, 0 + k, none⟩ = some (.slice Ax nx cx) := by rw [Nat.zero_add]; exact hcell
    have Hok := Lib.hid hok
    have HTn2 := Lib.hid htn
    have HFi := Lib.hid (rfits_any t Ax nx cx wa hok.holds (by have := htn.1; omega) htn.2)
    have HBk := Lib.hid (fun h => backed (t := t) (l := s.data.toList) (by rw [← Ho.out]) h)
    have HBm := Lib.hid (fun h => backed (t := t) (l := []) (by rw [mk_read]) h)
    obtain ⟨f0, hf0⟩ : ∃ f, f = fitsM t := ⟨_, rfl⟩
    rw [← hf0] at HFi HBk HBm
    clear hf0 he2 hcel hok htn
    by_cases hf : f0 = 0
    case neg =>
      have hvf : (f0 != 0) = true := bne_iff_ne.2 hf
      clear hf
      go_wp2_with fail
      (with_reducible refine HFi.out.mono ?_)
      rintro e w10 ⟨rfl, hb10⟩
      have HX := Lib.hid (show Hid (Below w.heap.size w w10) ∧ Hid (w9.heap.size < w10.heap.size) ∧ Hid (∀ j, j < 3 → Tre w10 w9.heap.size j) from ⟨Lib.hid (HW.out.trans (hb10.mono HW.out.size)), Lib.hid (Nat.lt_of_lt_of_le Hg.out hb10.size), Lib.hid fun j hj => (HT.out j hj).below Hg.out hb10⟩)
      clear hb10
      go_wp2_with fail
      go_roundw
      case rel => exact ⟨k + 1, hlt, by go_num, HX.out.1, HX.out.2.1, HX.out.2.2⟩
      case measure => simp [intOf]; omega
    subst hf
    have HBk2 := Lib.hid (HBk.out rfl)
    have HBm2 := Lib.hid (HBm.out rfl)
    clear HBk HBm
    go_wp2_with fail
    (with_reducible refine HFi.out.mono ?_)
    rintro e w10 ⟨rfl, hb10⟩
    have HA10 := Lib.hid hb10
    have hB10 := HW.out.trans (hb10.mono HW.out.size)
    have hcA := Hcel.out w10 hb10
    have hcA0 : w10.cell? ⟨w9.heap.size, 0 + k, none⟩ = some (.slice Ax nx cx) := by rw [Nat.zero_add]; exact hcA
    have HP1 := Lib.hid (HPu.out w10 s t Ax nx cx hB10 (Hok.out.below hb10) HTn2.out)
    have HB10 := Lib.hid hB10
    obtain ⟨z1, hz1⟩ : ∃ z, z = putM t s.data.toList := ⟨_, rfl⟩
    rw [← hz1] at HP1 HBk2
    obtain ⟨P, e1⟩ := z1
    dsimp only at HP1 HBk2
    clear hz1 hb10 hB10
    go_wp2_with fail
    (with_reducible refine HP1.out.mono ?_)
    rintro e w11 ⟨rfl, hb11⟩
    have hA11 := HA10.out.trans (hb11.mono HA10.out.size)
    have HA11 := Lib.hid hA11
    have HB11 := Lib.hid (HB10.out.trans (hb11.mono HB10.out.size))
    have hcB := Hcel.out w11 hA11
    have hcB0 : w11.cell? ⟨w9.heap.size, 0 + k, none⟩ = some (.slice Ax nx cx) := by rw [Nat.zero_add]; exact hcB
    have HP2 := Lib.hid (createE_any t Ax nx cx w11 (Hok.out.below hA11) (by have := HTn2.out.1; omega) HTn2.out.2 (HG.out.below HB11.out))
    obtain ⟨z2, hz2⟩ : ∃ z, z = putM t [] := ⟨_, rfl⟩
    rw [← hz2] at HP2 HBm2
    obtain ⟨C, j1⟩ := z2
    dsimp only at HP2 HBm2
    clear hz2 hb11 hA11
    go_wp2_with fail
    (with_reducible refine HP2.out.mono ?_)
    rintro e w12 ⟨rfl, hb12⟩
    have HA12 := Lib.hid (HA11.out.trans (hb12.mono HA11.out.size))
    have HB12 := Lib.hid (HB11.out.trans (hb12.mono HB11.out.size))
    have HLa := Lib.hid (by
      have := load_any (mkB P) w12 (HG.out.below HB12.out)
      rw [mkB_bytes] at this
      exact this)
    have HLb := Lib.hid (fun (W : World) (hW : Below w.heap.size w W) => by
      have := load_any (mkB C) W (HG.out.below hW)
      rw [mkB_bytes] at this
      exact this)
    obtain ⟨o3, ho3⟩ : ∃ o, o = readI P := ⟨_, rfl⟩
    obtain ⟨o4, ho4⟩ : ∃ o, o = readI C := ⟨_, rfl⟩
    rw [← ho3] at HLa HBk2
    rw [← ho4] at HLb HBm2
    obtain ⟨p, hp⟩ : ∃ p, p = mkB P := ⟨_, rfl⟩
    obtain ⟨q, hq⟩ : ∃ q, q = mkB C := ⟨_, rfl⟩
    rw [← hp] at HLa ⊢
    rw [← hq] at HLb ⊢
    clear ho3 ho4 hp hq hb12
    go_wp2_with fail
    (with_reducible refine HLa.out.mono ?_)
    rintro e w13 ⟨A3, c3, rfl, hX, hc3, hb13⟩
    have HA13 := Lib.hid (HA12.out.trans (hb13.mono HA12.out.size))
    have HB13 := Lib.hid (HB12.out.trans (hb13.mono HB12.out.size))
    have HX13 := Lib.hid (hX.to (B := w13.heap.size) fun b hb => hb.2)
    have HLb := Lib.hid (HLb.out w13 HB13.out)
    clear hX hc3 hb13
    go_wp2_with fail
    (with_reducible refine HLb.out.mono ?_)
    rintro e w14 ⟨A4, c4, rfl, hY, hc4, hb14⟩
    have HA14 := Lib.hid (HA13.out.trans (hb14.mono HA13.out.size))
    have HB14 := Lib.hid (HB13.out.trans (hb14.mono HB13.out.size))
    have HX14 := Lib.hid ((HX13.out.below hb14).more hb14.size)
    have HY14 := Lib.hid (hY.to (B := w14.heap.size) fun b hb => hb.2)
    have hcq : ∀ q, (w14.drewN q).cell? ⟨w9.heap.size, k, none⟩ = some (.slice Ax nx cx) := fun q => Hcel.out _ (below_drewN HA14.out q)
    have hcq0 : ∀ q, (w14.drewN q).cell? ⟨w9.heap.size, 0 + k, none⟩ = some (.slice Ax nx cx) := fun q => by rw [Nat.zero_add]; exact hcq q
    have hcw : w14.cell? ⟨w9.heap.size, k, none⟩ = some (.slice Ax nx cx) := Hcel.out _ HA14.out
    have hcw0 : w14.cell? ⟨w9.heap.size, 0 + k, none⟩ = some (.slice Ax nx cx) := by rw [Nat.zero_add]; exact hcw
    have HOk := Lib.hid (Hok.out.below HA14.out)
    have HEnd := Lib.hid (fun (W : World) (hW : Below w14.heap.size w14 W) => show Hid (Below w.heap.size w W) ∧ Hid (w9.heap.size < W.heap.size) ∧ Hid (∀ j, j < 3 → Tre W w9.heap.size j) from
      have hA := HA14.out.trans (hW.mono HA14.out.size)
      ⟨Lib.hid (HB14.out.trans (hW.mono HB14.out.size)), Lib.hid (Nat.lt_of_lt_of_le Hg.out hA.size), Lib.hid fun j hj => (HT.out j hj).below Hg.out hA⟩)
    have HSame := Lib.hid (fun (B : Option Addr) (d : Nat) (h : Holds w14 w14.heap.size B t.len t) (W : World) (hW : Below w14.heap.size w14 W) => by
      have hls := t.len_size
      have hsz := HTn2.out.1
      have hok2 := HOk.out.below hW
      have := rsame_any t.size t t B Ax t.len nx d cx W.heap.size W (Nat.le_refl _) ((h.below hW).more hW.size) hok2.holds (by simp) (by omega) (by have := HOk.out.holds.len; omega) (low_size _ (by omega)) (low_size _ (by omega))
      rw [same_refl] at this
      exact this)
    clear hY hc4 hb14
    have HR := Lib.hid (Below.refl w14.heap.size w14)
    rcases HBk2.out with ⟨rfl, rfl⟩ | rfl
    · have HS1 := Lib.hid (HSame.out A3 c3 HX14.out)
      rcases HBm2.out with ⟨rfl, rfl⟩ | rfl
      · have HS2 := Lib.hid (HSame.out A4 c4 HY14.out)
        go_wp2_with fail
        (with_reducible refine (HS1.out _ HR.out).mono ?_)
        rintro e w15 ⟨rfl, q15, rfl⟩
        have HR2 := Lib.hid (below_drewN HR.out q15)
        go_wp2_with fail
        (with_reducible refine (HS2.out _ HR2.out).mono ?_)
        rintro e w16 ⟨rfl, q16, rfl⟩
        have HX := Lib.hid (HEnd.out _ (below_drewN HR.out (q15 + q16)))
        go_wp2_with fail
        go_roundw
        case rel => exact ⟨k + 1, hlt, by go_num, HX.out.1, HX.out.2.1, HX.out.2.2⟩
        case measure => simp [intOf]; omega
      · go_wp2_with fail
        (with_reducible refine (HS1.out _ HR.out).mono ?_)
        rintro e w15 ⟨rfl, q15, rfl⟩
        have HX := Lib.hid (HEnd.out _ (below_drewN HR.out q15))
        go_wp2_with fail
        go_roundw
        case rel => exact ⟨k + 1, hlt, by go_num, HX.out.1, HX.out.2.1, HX.out.2.2⟩
        case measure => simp [intOf]; omega
    · rcases HBm2.out with ⟨rfl, rfl⟩ | rfl
      · have HS2 := Lib.hid (HSame.out A4 c4 HY14.out)
        go_wp2_with fail
        (with_reducible refine (HS2.out _ HR.out).mono ?_)
        rintro e w15 ⟨rfl, q15, rfl⟩
        have HX := Lib.hid (HEnd.out _ (below_drewN HR.out q15))
        go_wp2_with fail
        go_roundw
        case rel => exact ⟨k + 1, hlt, by go_num, HX.out.1, HX.out.2.1, HX.out.2.2⟩
        case measure => simp [intOf]; omega
      · have HX := Lib.hid (HEnd.out _ HR.out)
        go_wp2_with fail
        go_roundw
        case rel => exact ⟨k + 1, hlt, by go_num, HX.out.1, HX.out.2.1, HX.out.2.2⟩
        case measure => simp [intOf]; omega
end Go.Proofs.YtapgaglkkgbgkaaGreatDoor.In
