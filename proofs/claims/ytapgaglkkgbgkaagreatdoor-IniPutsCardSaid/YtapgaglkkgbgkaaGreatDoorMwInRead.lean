/- ini.read, ini.Load: what a file is read as. Conditions: MaxLen's cell. · ini.Put, ini.Create: what they answer. Conditions: the tree's and its names' sizes; MaxLen's cell. · ini: what some trees, put into a file, make: closed readings. No conditions. · ini's laws: a number within a bound; the chapter's example; IniKnown's walk. Conditions: MaxLen's cell. · The law's odd pieces of ini: Odd answers a text of five bytes at most. Conditions: none. -/
import Derived.Test.YtapgaglkkgbgkaaGreatDoorMwInOwn
import Derived.Test.YtapgaglkkgbgkaaGreatDoorMwLiSplit
import Derived.Test.YtapgaglkkgbgkaaGreatDoorMwCvGrow
import Derived.Outline
import Derived.Test.YtapgaglkkgbgkaaGreatDoorMwInPPut
import Derived.Test.YtapgaglkkgbgkaaGreatDoorMwInSelf
import Derived.Test.YtapgaglkkgbgkaaGreatDoorMwInTb
import Derived.Test.YtapgaglkkgbgkaaGreatDoorMwRQuote
import Derived.Deep.RegionHeld3
import Derived.Deep.CutRange
namespace Go.Proofs.YtapgaglkkgbgkaaGreatDoor.In
open Go.RowKit Go.Proofs.YtapgaglkkgbgkaaGreatDoor.Jd Go.Proofs.YtapgaglkkgbgkaaGreatDoor.Li Go.Proofs.YtapgaglkkgbgkaaGreatDoor.Cl Go.Proofs.YtapgaglkkgbgkaaGreatDoor.Cv
set_option maxRecDepth 100000

def Flb (w : World) (g : Nat) (a b c : Value) : Prop := w.heap[g]? = some (.cells #[a, b, c] 59 (0, 0))
section
variable {w w' : World} {g : Nat} {a b c : Value}
theorem Flb.new (w : World) (a b c : Value) : Flb (w.alloc (Obj.cells #[a, b, c] 59)) w.heap.size a b c := heap_alloc_new w _
theorem Flb.lt (h : Flb w g a b c) : g < w.heap.size := (Array.getElem?_eq_some_iff.1 h).1
theorem Flb.at_ (h : Flb w g a b c) (j : Nat) : w.cell? ⟨g, j, none⟩ = #[a, b, c][j]? := by rw [cell_of_row _ _ _ _ _ _ h]
theorem Flb.cells (h : Flb w g a b c) : w.cell? ⟨g, 0, none⟩ = some a ∧ w.cell? ⟨g, 1, none⟩ = some b ∧ w.cell? ⟨g, 2, none⟩ = some c := ⟨h.at_ 0, h.at_ 1, h.at_ 2⟩
theorem Flb.free (h : Flb w g a b c) : w.frozen? ⟨g, 0, none⟩ = false ∧ w.frozen? ⟨g, 1, none⟩ = false ∧ w.frozen? ⟨g, 2, none⟩ = false := by
  have h' : w.heap[g]? = some (.cells #[a, b, c] 59 (0, 0)) := h
  exact ⟨by simp [World.frozen?, h'], by simp [World.frozen?, h'], by simp [World.frozen?, h']⟩
theorem Flb.below (h : Flb w g a b c) (hb : Below w.heap.size w w') : Flb w' g a b c := (hb.block _ h.lt).trans h
theorem Flb.set3 (h : Flb w g a b c) (x0 x1 x2 : Value) : Flb (((w.setCell ⟨g, 0, none⟩ x0).setCell ⟨g, 1, none⟩ x1).setCell ⟨g, 2, none⟩ x2) g x0 x1 x2 := by
  unfold Flb
  rw [heap_setCell_same _ g 2 _ _ _ (heap_setCell_same _ g 1 _ _ _ (heap_setCell_same w g 0 _ _ _ h))]
  rfl
end
theorem below3 {B : Nat} {w w' : World} {g : Nat} (h : Below B w w') (hg : B ≤ g) (x0 x1 x2 : Value) : Below B w (((w'.setCell ⟨g, 0, none⟩ x0).setCell ⟨g, 1, none⟩ x1).setCell ⟨g, 2, none⟩ x2) :=
  ((h.setCell (p := ⟨g, 0, none⟩) hg x0).setCell (p := ⟨g, 1, none⟩) hg x1).setCell (p := ⟨g, 2, none⟩) hg x2
theorem far3 {w : World} {g b o : Nat} (x0 x1 x2 : Value) (h : b ≠ g) : (((w.setCell ⟨g, 0, none⟩ x0).setCell ⟨g, 1, none⟩ x1).setCell ⟨g, 2, none⟩ x2).cell? ⟨b, o, none⟩ = w.cell? ⟨b, o, none⟩ := by
  rw [World.cell?_setCell_far _ _ _ _ (by simpa using Ne.symm h), World.cell?_setCell_far _ _ _ _ (by simpa using Ne.symm h), World.cell?_setCell_far _ _ _ _ (by simpa using Ne.symm h)]
theorem size3 {w : World} {g : Nat} (x0 x1 x2 : Value) : (((w.setCell ⟨g, 0, none⟩ x0).setCell ⟨g, 1, none⟩ x1).setCell ⟨g, 2, none⟩ x2).heap.size = w.heap.size := by simp [World.setCell]
def prt (l : Bs) : List Pt := (partsI [⟨[], []⟩] 0 (split l)).1
structure RdI (w : World) (base : Nat) (l : Bs) (o : Tr × Nat × Int) (Ap At : Option Addr) (np cp ct : Nat) (ee : ByteArray) : Prop where
  tree : HoldsP w (fun b => base ≤ b ∧ b < w.heap.size) At o.1.len o.1
  cap : o.1.len ≤ ct ∧ ct ≤ maxLen
  rest : o.2.2 = 0 → PartsP w (fun b => base ≤ b ∧ b < w.heap.size) Ap np (prt l) ∧ np ≤ cp ∧ cp ≤ maxLen ∧ ee.data.toList = endOf (split l)
theorem RdI.none_ (w : World) (base : Nat) (l : Bs) (i : Nat) (e : Int) (he : e ≠ 0) : RdI w base l (.nil, i, e) none none 0 0 0 ⟨#[]⟩ :=
  ⟨rfl, ⟨Nat.le_refl _, by simp [maxLen]⟩, fun h => absurd h he⟩
theorem RdI.below {w w' : World} {base : Nat} {l : Bs} {o : Tr × Nat × Int} {Ap At : Option Addr} {np cp ct : Nat} {ee : ByteArray} (h : RdI w base l o Ap At np cp ct ee) (hb : Below w.heap.size w w') : RdI w' base l o Ap At np cp ct ee :=
  ⟨(h.tree.keep (w' := w') fun b o hb1 => hb.cell (p := ⟨b, o, none⟩) hb1.2).more fun _ hb1 => ⟨hb1.1, Nat.lt_of_lt_of_le hb1.2 hb.size⟩, h.cap, fun h0 => by
    obtain ⟨h1, h2⟩ := h.rest h0
    exact ⟨(h1.keep (w' := w') fun b o hb1 => hb.cell (p := ⟨b, o, none⟩) hb1.2).more fun _ hb1 => ⟨hb1.1, Nat.lt_of_lt_of_le hb1.2 hb.size⟩, h2⟩⟩
def RdIP (w : World) (l : Bs) (o : Tr × Nat × Int) (en : Ending) (w' : World) : Prop :=
  ∃ Ap At np cp ct ee, en = .returned (.tuple #[.agg #[.slice Ap np cp, .string ee, .slice At o.1.len ct], .int .i64 (o.2.1 : Nat), .int .i64 o.2.2]) ∧ RdI w' w.heap.size l o Ap At np cp ct ee ∧ Below w.heap.size w w'

set_option maxHeartbeats 16000000 in
theorem read_any (s : ByteArray) (w : World) (hG : Gl w) : Calls Tryz.prog 25 #[.string s] w (RdIP w s.data.toList (readI s.data.toList)) := by
  obtain ⟨W1, hW1⟩ : ∃ W, W = w.alloc (Obj.cells #[.slice none 0 0, .string ⟨#[]⟩, .slice none 0 0] 59) := ⟨_, rfl⟩
  have hb1 : Below w.heap.size w W1 := by rw [hW1]; exact (Below.refl _ _).alloc (Nat.le_refl _) _
  have hf1 : Flb W1 w.heap.size (.slice none 0 0) (.string ⟨#[]⟩) (.slice none 0 0) := by rw [hW1]; exact Flb.new w _ _ _
  have hsl : s.size = s.data.toList.length := rfl
  obtain ⟨R, hR⟩ : ∃ R, R = readI s.data.toList := ⟨_, rfl⟩
  rw [← hR]
  unfold readI at hR
  have HB1 := Lib.hid hb1
  have HF1 := Lib.hid hf1
  have hw0 : w.heap.size < W1.heap.size := hf1.lt
  by_cases hbig : 4000 < s.size
  · rw [if_pos (by omega)] at hR
    have hbi : (s.size : Int) > 4000 := by omega
    have HR := Lib.hid hR
    clear hR hG hsl hbig hb1 hf1
    go_enter Tryz.func25, Tryz.ntmps25
    go_upto_region 1 with (fail)
    rw [← hW1]
    clear hW1
    have hf := HF1.out.below (Below.refl _ _)
    obtain ⟨c0, c1, c2⟩ := hf.cells
    obtain ⟨z0, z1, z2⟩ := hf.free
    have HF := Lib.hid hf
    have HBx := Lib.hid (HB1.out.trans (Below.mono (Below.refl _ _) HB1.out.size))
    clear hf
    go_wp2_with fail
    obtain ⟨d0, d1, d2⟩ := (HF.out.set3 (.slice none 0 0) (.string ⟨#[]⟩) (.slice none 0 0)).cells
    refine bodyPost_ret (v := .tuple #[.agg #[.slice none 0 0, .string ⟨#[]⟩, .slice none 0 0], .int .i64 0, .int .i64 5]) (by simp [results, Tryz.results25, go_sem, d0, d1, d2]) rfl ?_
    rw [HR.out]
    exact ⟨none, none, 0, 0, 0, ⟨#[]⟩, rfl, RdI.none_ _ _ _ _ _ (by decide), below3 HBx.out (Nat.le_refl _) _ _ _⟩
  · rw [if_neg (by omega)] at hR
    have hbi : ¬ (s.size : Int) > 4000 := by omega
    have hll : (split s.data.toList).length ≤ 4000 := Nat.le_trans (split_le _) (by omega)
    have hlens : ∀ x ∈ split s.data.toList, x.1.length ≤ 4000 := fun x hx => Nat.le_trans (split_lens _ x hx) (by omega)
    have hS := split_any s W1 (by omega)
    obtain ⟨ls, hls⟩ : ∃ ls, ls = split s.data.toList := ⟨_, rfl⟩
    have hprt : prt s.data.toList = (partsI [⟨[], []⟩] 0 ls).1 := by rw [prt, hls]
    have hend : endOf (split s.data.toList) = endOf ls := by rw [hls]
    rw [← hls] at hS hR hll hlens
    have hinv := InvP.parts (i := 0) ls InvP.start
    obtain ⟨O, hO⟩ : ∃ O, O = partsI [⟨[], []⟩] 0 ls := ⟨_, rfl⟩
    have hPo := fun (W : World) (hW : Below W1.heap.size W1 W) (A2 : Option Addr) (c2 : Nat) (h2 : OwnL W W1.heap.size A2 ls.length c2 ls) => partsOf_any ls A2 ls.length c2 W.heap.size W h2.sees (Nat.le_refl _) (by omega) hlens ((hG.below hb1).below hW)
    rw [← hO] at hR hPo hprt hinv
    obtain ⟨q, i, v⟩ := O
    dsimp only at hR hprt hinv
    have HS := Lib.hid hS
    have HPo := Lib.hid hPo
    have Hprt := Lib.hid hprt
    have Hend := Lib.hid hend
    have Hll := Lib.hid hll
    by_cases hv : v = 0
    · subst hv
      rw [if_neg (by simp)] at hR
      obtain hinv := hinv rfl
      obtain ⟨p0, pt, hq⟩ : ∃ p0 pt, q = p0 :: pt := List.exists_cons_of_ne_nil hinv.ne
      have hfew := hinv.few
      have hok := treeI_ok hinv
      subst hq
      have hT : treeI (p0 :: pt) = srtE (secsT pt) := rfl
      rw [hT] at hok hR
      obtain ⟨T, hTd⟩ : ∃ T, T = srtE (secsT pt) := ⟨_, rfl⟩
      rw [← hTd] at hok hR
      have hptl : pt.length ≤ 90000 := by simp only [List.length_cons] at hfew; omega
      have hrl : ∀ x ∈ pt, x.rows.length ≤ 90000 := fun x hx => by have := tot_mem (List.mem_cons_of_mem p0 hx); simp only [List.length_cons] at hfew; omega
      obtain ⟨u, hu⟩ : ∃ u, u = T.fault := ⟨_, rfl⟩
      rw [← hu] at hR
      have HR := Lib.hid hR
      have Hok : Hid (Tr.Nm T ∧ T.size ≤ 17179869184) := Lib.hid ⟨hok.1, by have := hok.2; omega⟩
      have HTd := Lib.hid hTd
      have Hptl := Lib.hid hptl
      have Hrl := Lib.hid hrl
      have Hu := Lib.hid hu
      clear hR hG hsl hbig hb1 hf1 hprt hend hls hll hlens hS hinv hO hPo hfew hok hT hTd hptl hrl hu
      go_enter Tryz.func25, Tryz.ntmps25
      go_upto_region 1 with (fail)
      rw [← hW1]
      clear hW1
      go_wp2_with fail
      (with_reducible refine HS.out.mono ?_)
      rintro e w2 ⟨A2, c2, rfl, ho2, hb2⟩
      have HP2 := Lib.hid (HPo.out w2 hb2 A2 c2 ho2)
      have HO2 := Lib.hid ho2
      have HB2 := Lib.hid hb2
      clear ho2 hb2
      go_wp2_with fail
      (with_reducible refine HP2.out.mono ?_)
      rintro e w3 ⟨A3, c3, rfl, hp3, hpc, hpm, hb3⟩
      have hz2 := HB2.out.size
      have HB3 := Lib.hid (HB2.out.trans (hb3.mono hz2))
      have HO3 := Lib.hid (HO2.out.below hb3)
      have HP3 := Lib.hid hp3
      have Hpc := Lib.hid (And.intro hpc hpm)
      have HT3 := treeOf_any p0 pt A3 pt.length c3 w3 (hp3.more fun _ hb => hb.2) hpc Hptl.out Hrl.out
      rw [← HTd.out] at HT3
      have HT3 := Lib.hid HT3
      clear hp3 hpc hpm hb3
      dsimp only [List.length_cons]
      obtain ⟨mp, hmp⟩ : ∃ mp, mp = pt.length := ⟨_, rfl⟩
      rw [← hmp] at HT3 ⊢
      have Hmp := Lib.hid hmp
      clear hmp
      go_wp2_with fail
      (with_reducible refine HT3.out.mono ?_)
      rintro e w4 ⟨A4, c4, rfl, hh4, hc4, hm4, hb4⟩
      have hz3 := HB3.out.size
      have HB4 := Lib.hid (HB3.out.trans (hb4.mono hz3))
      have HO4 := Lib.hid (HO3.out.below hb4)
      have Hh4 := Lib.hid hh4
      have HP4 := Lib.hid ((HP3.out.keep (w' := w4) fun b o hb1 => hb4.cell (p := ⟨b, o, none⟩) hb1.2).more (P' := fun b => w2.heap.size ≤ b ∧ b < w4.heap.size) fun _ hb1 => ⟨hb1.1, Nat.lt_of_lt_of_le hb1.2 hb4.size⟩)
      have hCh := check_any A4 c4 T w4 (hh4.to fun _ hb => hb.2) hc4 hm4 Hok.out.2 Hok.out.1
      rw [← Hu.out] at hCh
      have HCh := Lib.hid hCh
      have Hc4 := Lib.hid (And.intro hc4 hm4)
      have hz34 : w3.heap.size ≤ w4.heap.size := hb4.size
      clear hh4 hc4 hm4 hb4 hCh
      by_cases hu0 : u = 0
      · have HU0 := Lib.hid hu0
        have hub : (((u : Nat) : Int) != 0) = false := by rw [hu0]; rfl
        have HEn : Hid (∀ W, Below w4.heap.size w4 W → Calls Tryz.prog 50 #[.slice A2 ls.length c2] W fun e w' => e = .returned (Li.encs (endOf ls)) ∧ Below W.heap.size W w') := Lib.hid (fun W hW => by
          have := (HO4.out.below hW)
          exact end_any ls A2 ls.length c2 W.heap.size W (Nat.le_refl _) this.sees this.cap.1 (by have := Hll.out; omega))
        obtain ⟨ee, hee⟩ : ∃ ee : ByteArray, ee = ⟨(endOf ls).toArray⟩ := ⟨_, rfl⟩
        rw [show Li.encs (endOf ls) = .string ee by rw [hee]; rfl] at HEn
        have Hee := Lib.hid hee
        clear hee hu0
        go_wp2_with fail
        (with_reducible refine HCh.out.mono ?_)
        rintro e w5 ⟨rfl, hb5⟩
        have HB5 := Lib.hid hb5
        clear hb5
        go_wp2_with fail
        (with_reducible refine (HEn.out _ HB5.out).mono ?_)
        rintro e w6 ⟨rfl, hb6⟩
        have hb46 := HB5.out.trans (hb6.mono HB5.out.size)
        have hb16 := HB4.out.trans (hb46.mono HB4.out.size)
        have HB46 := Lib.hid hb46
        clear hb6
        have hf := HF1.out.below hb16
        obtain ⟨c0, c1, c2x⟩ := hf.cells
        obtain ⟨z0, z1, z2⟩ := hf.free
        have HF := Lib.hid hf
        have HBx := Lib.hid (HB1.out.trans (hb16.mono HB1.out.size))
        clear hf hb16 hb46
        go_wp2_with fail
        obtain ⟨d0, d1, d2⟩ := (HF.out.set3 (.slice A3 (mp + 1) c3) (.string ee) (.slice A4 T.len c4)).cells
        refine bodyPost_ret (v := .tuple #[.agg #[.slice A3 (mp + 1) c3, .string ee, .slice A4 T.len c4], .int .i64 0, .int .i64 0]) (by simp [results, Tryz.results25, go_sem, d0, d1, d2]) rfl ?_
        have hR := HR.out
        rw [if_neg (by have := HU0.out; omega)] at hR
        rw [hR]
        have hfz := HB46.out.size
        refine ⟨A3, A4, mp + 1, c3, c4, ee, rfl, ⟨?_, Hc4.out, fun _ => ⟨?_, ?_, Hpc.out.2, ?_⟩⟩, below3 HBx.out (Nat.le_refl _) _ _ _⟩
        · refine (Hh4.out.keep (fun b o hb => (far3 _ _ _ (by have := hb.1; omega)).trans (HB46.out.cell (p := ⟨b, o, none⟩) hb.2))).more fun b hb => ⟨by have := hb.1; omega, by rw [size3]; exact Nat.lt_of_lt_of_le hb.2 hfz⟩
        · rw [Hprt.out, Hmp.out]
          have h9 := (HP4.out.keep (w' := ((w6.setCell ⟨w.heap.size, 0, none⟩ (.slice A3 (mp + 1) c3)).setCell ⟨w.heap.size, 1, none⟩ (.string ee)).setCell ⟨w.heap.size, 2, none⟩ (.slice A4 T.len c4)) (fun b o hb => (far3 _ _ _ (by have := hb.1; omega)).trans (HB46.out.cell (p := ⟨b, o, none⟩) hb.2))).more (P' := fun b => w.heap.size ≤ b ∧ b < (((w6.setCell ⟨w.heap.size, 0, none⟩ (.slice A3 (mp + 1) c3)).setCell ⟨w.heap.size, 1, none⟩ (.string ee)).setCell ⟨w.heap.size, 2, none⟩ (.slice A4 T.len c4)).heap.size) fun b hb => ⟨by have := hb.1; omega, by rw [size3]; exact Nat.lt_of_lt_of_le hb.2 hfz⟩
          rw [Hmp.out] at h9
          exact h9
        · rw [Hmp.out]; exact Hpc.out.1
        · rw [Hee.out, Hend.out]
      · have hub : (((u : Nat) : Int) != 0) = true := by simpa using hu0
        have HU0 := Lib.hid hu0
        clear hu0
        go_wp2_with fail
        (with_reducible refine HCh.out.mono ?_)
        rintro e w5 ⟨rfl, hb5⟩
        have hb15 := HB4.out.trans (hb5.mono HB4.out.size)
        have hf := HF1.out.below hb15
        obtain ⟨c0, c1, c2⟩ := hf.cells
        obtain ⟨z0, z1, z2⟩ := hf.free
        have HF := Lib.hid hf
        have HBx := Lib.hid (HB1.out.trans (Below.mono hb15 HB1.out.size))
        clear hf
        clear hb15 hb5
        go_wp2_with fail
        obtain ⟨d0, d1, d2⟩ := (HF.out.set3 (.slice none 0 0) (.string ⟨#[]⟩) (.slice none 0 0)).cells
        refine bodyPost_ret (v := .tuple #[.agg #[.slice none 0 0, .string ⟨#[]⟩, .slice none 0 0], .int .i64 0, .int .i64 (u : Nat)]) (by simp [results, Tryz.results25, go_sem, d0, d1, d2]) rfl ?_
        have hR := HR.out
        rw [if_pos HU0.out] at hR
        rw [hR]
        exact ⟨none, none, 0, 0, 0, ⟨#[]⟩, rfl, RdI.none_ _ _ _ _ _ (by have := HU0.out; omega), below3 HBx.out (Nat.le_refl _) _ _ _⟩
    · rw [if_pos hv] at hR
      have HR := Lib.hid hR
      have Hv := Lib.hid hv
      have hvb : (v != 0) = true := by simpa using hv
      clear hR hG hsl hbig hb1 hf1 hprt hend hls hll hlens hS hinv hO hPo hv
      go_enter Tryz.func25, Tryz.ntmps25
      go_upto_region 1 with (fail)
      rw [← hW1]
      clear hW1
      go_wp2_with fail
      (with_reducible refine HS.out.mono ?_)
      rintro e w2 ⟨A2, c2, rfl, ho2, hb2⟩
      have HP2 := Lib.hid (HPo.out w2 hb2 A2 c2 ho2)
      have HB2 := Lib.hid hb2
      clear ho2 hb2
      go_wp2_with fail
      (with_reducible refine HP2.out.mono ?_)
      rintro e w3 ⟨A3, c3, rfl, hp3, hpc, hpm, hb3⟩
      have hb13 := HB2.out.trans (hb3.mono HB2.out.size)
      have hf := HF1.out.below hb13
      obtain ⟨c0, c1, c2⟩ := hf.cells
      obtain ⟨z0, z1, z2⟩ := hf.free
      have HF := Lib.hid hf
      have HBx := Lib.hid (HB1.out.trans (Below.mono hb13 HB1.out.size))
      clear hf
      clear hb13 hb3 hp3 hpc hpm
      go_wp2_with fail
      obtain ⟨d0, d1, d2⟩ := (HF.out.set3 (.slice none 0 0) (.string ⟨#[]⟩) (.slice none 0 0)).cells
      refine bodyPost_ret (v := .tuple #[.agg #[.slice none 0 0, .string ⟨#[]⟩, .slice none 0 0], .int .i64 (i : Nat), .int .i64 v]) (by simp [results, Tryz.results25, go_sem, d0, d1, d2]) rfl ?_
      rw [HR.out]
      exact ⟨none, none, 0, 0, 0, ⟨#[]⟩, rfl, RdI.none_ _ _ _ _ _ Hv.out, below3 HBx.out (Nat.le_refl _) _ _ _⟩
end Go.Proofs.YtapgaglkkgbgkaaGreatDoor.In
namespace Go.Proofs.YtapgaglkkgbgkaaGreatDoor.In
open Go.RowKit Go.Proofs.YtapgaglkkgbgkaaGreatDoor.Jd Go.Proofs.YtapgaglkkgbgkaaGreatDoor.Li Go.Proofs.YtapgaglkkgbgkaaGreatDoor.Cl Go.Proofs.YtapgaglkkgbgkaaGreatDoor.Cv Go.Proofs.YtapgaglkkgbgkaaGreatDoor.Pt
set_option maxRecDepth 100000

theorem read_zero {l : Bs} (h : (readI l).2.2 = 0) : l.length ≤ 4000 ∧ (partsI [⟨[], []⟩] 0 (split l)).2.2 = 0 := by
  unfold readI at h
  by_cases h1 : 4000 < l.length
  · rw [if_pos h1] at h; cases h
  · rw [if_neg h1] at h
    by_cases h2 : (partsI [⟨[], []⟩] 0 (split l)).2.2 ≠ 0
    · rw [if_pos h2] at h; exact absurd h h2
    · exact ⟨by omega, Classical.not_not.1 h2⟩
theorem end_len {l : Bs} (h : l.length ≤ 4000) : (endOf (split l)).length ≤ 4000 := by
  have hs := split_sz h
  cases hl : split l with
  | nil => simp [endOf]
  | cons x r =>
    rw [hl] at hs
    have := (hs x (by simp)).2
    unfold endOf
    dsimp only
    split
    · simp
    · exact this
theorem fits_ok {t : Tr} (h : fitsM t = 0) : FitT t := by
  obtain ⟨h1, h2, h3⟩ := fits_zero h
  exact ⟨h2, h3, (fault_asc h1).2, fault_n80 h1⟩
theorem put_some {t : Tr} {l : Bs} (h1 : (readI l).2.2 = 0) (h2 : fitsM t = 0) : putM t l = if 4000 < (putF t l).length then ([], 5) else (putF t l, 0) := by
  rw [putM, if_neg (by simpa using h1), if_neg (by simpa using h2)]

set_option maxHeartbeats 8000000 in
theorem put_any (t : Tr) (s : ByteArray) (A : Option Addr) (n c : Nat) (w : World) (h : Holds w w.heap.size A n t) (hc : n ≤ c) (hm : c ≤ maxLen) (hsz : t.size ≤ 17179869184) (hnm : Tr.Nm t) (hG : Gl w) :
    Calls Tryz.prog 20 #[.slice A n c, .string s] w fun en w' => en = .returned (.tuple #[Li.encs (putM t s.data.toList).1, .int .i64 (putM t s.data.toList).2]) ∧ Below w.heap.size w w' := by
  have HRd := Lib.hid (read_any s w hG)
  obtain ⟨R, hR⟩ : ∃ R, R = readI s.data.toList := ⟨_, rfl⟩
  obtain ⟨F, hF⟩ : ∃ F, F = fitsM t := ⟨_, rfl⟩
  obtain ⟨O, hO⟩ : ∃ O, O = putM t s.data.toList := ⟨_, rfl⟩
  rw [← hR] at HRd
  rw [← hO]
  have HH := Lib.hid h
  have Hl := Lib.hid h.len
  have hFi := fun (W : World) (hW : Below w.heap.size w W) => fits_any t A n c W ((h.below hW).more hW.size) hc hm hsz hnm
  rw [← hF] at hFi
  have HFi := Lib.hid hFi
  have HR := Lib.hid hR
  have HF := Lib.hid hF
  have HO := Lib.hid hO
  clear h hFi hG hc hm hsz hnm hR hF hO
  go_enter Tryz.func20, Tryz.ntmps20
  by_cases he : R.2.2 = 0
  · have heb : (R.2.2 != 0) = false := by rw [he]; rfl
    have He := Lib.hid he
    clear he
    go_upto_region 2 with (go_at_call 25; (with_reducible refine HRd.out.mono ?_); rintro e1 w1 ⟨Ap, At, np, cp, ct, ee, rfl, hrd, hb1⟩)
    obtain ⟨W2, hW2⟩ : ∃ W, W = w1.alloc (Obj.cells #[.slice Ap np cp, .string ee, .slice At R.1.len ct] 59) := ⟨_, rfl⟩
    have hb2 : Below w1.heap.size w1 W2 := by rw [hW2]; exact (Below.refl _ _).alloc (Nat.le_refl _) _
    have hg2 : W2.heap[w1.heap.size]? = some (Obj.cells #[.slice Ap np cp, .string ee, .slice At R.1.len ct] 59) := by rw [hW2]; exact heap_alloc_new w1 _
    have hl2 := (Array.getElem?_eq_some_iff.1 hg2).1
    have HK := Lib.hid (fun (W : World) (hW : Below W2.heap.size W2 W) => (⟨(hW.cell (p := ⟨w1.heap.size, 0, none⟩) hl2).trans (by rw [cell_of_row _ _ _ _ _ _ hg2]; rfl), (hW.cell (p := ⟨w1.heap.size, 1, none⟩) hl2).trans (by rw [cell_of_row _ _ _ _ _ _ hg2]; rfl), (hW.cell (p := ⟨w1.heap.size, 2, none⟩) hl2).trans (by rw [cell_of_row _ _ _ _ _ _ hg2]; rfl)⟩ : W.cell? ⟨w1.heap.size, 0, none⟩ = some (.slice Ap np cp) ∧ W.cell? ⟨w1.heap.size, 1, none⟩ = some (.string ee) ∧ W.cell? ⟨w1.heap.size, 2, none⟩ = some (.slice At R.1.len ct)))
    have Hrd := Lib.hid (hrd.below hb2)
    have HB2 := Lib.hid (hb1.trans (hb2.mono hb1.size))
    have HFi2 := Lib.hid (HFi.out W2 HB2.out)
    clear hrd hb1 hb2 hg2 hl2
    rw [← hW2]
    clear hW2
    by_cases hf : F = 0
    · subst hf
      go_upto_region 7 with (go_at_call 18; (with_reducible refine HFi2.out.mono ?_); rintro e3 w3 ⟨rfl, hb3⟩)
      obtain ⟨k0, k1, k2⟩ := HK.out w3 hb3
      have hB3 := HB2.out.trans (hb3.mono HB2.out.size)
      have hz : (readI s.data.toList).2.2 = 0 := by rw [← HR.out]; exact He.out
      obtain ⟨h4, h5⟩ := read_zero hz
      obtain ⟨hpp, hpc, hpm, hee⟩ := (Hrd.out.below hb3).rest He.out
      have hinv := InvP.parts (i := 0) (split s.data.toList) InvP.start h5
      have hokp := OkP.parts (i := 0) (split s.data.toList) (ps := [⟨[], []⟩]) (by simp) (fun p hp => by obtain rfl : p = ⟨[], []⟩ := by simpa using hp
                                                                                                         intro r hr; cases hr) (split_sz h4) h5
      have hsl : (split s.data.toList).length ≤ 4000 := Nat.le_trans (split_le _) h4
      have hfew := hinv.few
      have hel : ee.size ≤ 4000 := by
        have e : ee.size = ee.data.toList.length := rfl
        rw [e, hee]
        exact end_len h4
      have hPu := fput_any (prt s.data.toList) t ee Ap At A np cp R.1.len ct n c w3 ((HH.out.below hB3).more hB3.size) (fits_ok HF.out.symm) (hpp.more fun _ hb => hb.2) (by have := hpp.len; have e : (prt s.data.toList).length = (partsI [⟨[], []⟩] 0 (split s.data.toList)).1.length := rfl; omega) (fun p hp => ⟨by have := tot_mem hp; have e : tot (prt s.data.toList) = tot (partsI [⟨[], []⟩] 0 (split s.data.toList)).1 := rfl; omega, hokp p hp⟩) hel
      have hpf : putI (prt s.data.toList) ee.data.toList t = putF t s.data.toList := by rw [hee]; rfl
      rw [hpf] at hPu
      have hO := HO.out
      rw [put_some hz HF.out.symm] at hO
      obtain ⟨L, hL⟩ : ∃ L, L = putF t s.data.toList := ⟨_, rfl⟩
      rw [← hL] at hPu hO
      obtain ⟨y, hy⟩ : ∃ y : ByteArray, y = ⟨L.toArray⟩ := ⟨_, rfl⟩
      rw [show Li.encs L = .string y by rw [hy]; rfl] at hPu
      have hys : y.size = L.length := by rw [hy, mk_size]
      have HPu := Lib.hid hPu
      have HO2 := Lib.hid hO
      have Hy := Lib.hid hy
      have HB3 := Lib.hid hB3
      clear hb3 hB3 hz h4 h5 hpp hpc hpm hee hinv hokp hsl hfew hel hPu hpf hO hL hy
      by_cases hlen : 4000 < L.length
      · have hlb : (y.size : Int) > 4000 := by omega
        have HO3 := Lib.hid (show O = ([], 5) by rw [HO2.out, if_pos hlen])
        clear hlen hys
        go_wp2_with (go_at_call 40; (with_reducible refine HPu.out.mono ?_); rintro e4 w4 ⟨rfl, hb4⟩)
        refine bodyPost_ret (v := .tuple #[.string ⟨#[]⟩, .int .i64 5]) (by simp [results, Tryz.results20, go_sem]) rfl ?_
        exact ⟨by rw [HO3.out]; rfl, HB3.out.trans (hb4.mono HB3.out.size)⟩
      · have hlb : ¬ (y.size : Int) > 4000 := by omega
        have HO3 := Lib.hid (show O = (L, 0) by rw [HO2.out, if_neg hlen])
        clear hlen hys
        go_wp2_with (go_at_call 40; (with_reducible refine HPu.out.mono ?_); rintro e4 w4 ⟨rfl, hb4⟩)
        refine bodyPost_ret (v := .tuple #[.string y, .int .i64 0]) (by simp [results, Tryz.results20, go_sem]) rfl ?_
        exact ⟨by rw [HO3.out, Hy.out]; rfl, HB3.out.trans (hb4.mono HB3.out.size)⟩
    · have hfb : (F != 0) = true := by simpa using hf
      have HO3 := Lib.hid (show O = ([], F) by
        have hz : (readI s.data.toList).2.2 = 0 := by rw [← HR.out]; exact He.out
        rw [HO.out, putM, if_neg (by simpa using hz), if_pos (by rw [← HF.out]; exact hf), ← HF.out])
      clear hf
      go_wp2_with (go_at_call 18; (with_reducible refine HFi2.out.mono ?_); rintro e3 w3 ⟨rfl, hb3⟩)
      refine bodyPost_ret (v := .tuple #[.string ⟨#[]⟩, .int .i64 F]) (by simp [results, Tryz.results20, go_sem]) rfl ?_
      exact ⟨by rw [HO3.out]; rfl, HB2.out.trans (hb3.mono HB2.out.size)⟩
  · have heb : (R.2.2 != 0) = true := by simpa using he
    have HO3 := Lib.hid (show O = ([], R.2.2) by rw [HO.out, putM, if_pos (by rw [← HR.out]; exact he), ← HR.out])
    clear he
    go_wp2_with (go_at_call 25; (with_reducible refine HRd.out.mono ?_); rintro e1 w1 ⟨Ap, At, np, cp, ct, ee, rfl, hrd, hb1⟩)
    refine bodyPost_ret (v := .tuple #[.string ⟨#[]⟩, .int .i64 R.2.2]) (by simp [results, Tryz.results20, go_sem]) rfl ?_
    exact ⟨by rw [HO3.out]; rfl, hb1.alloc hb1.size _⟩
theorem create_any (t : Tr) (A : Option Addr) (n c : Nat) (w : World) (h : Holds w w.heap.size A n t) (hc : n ≤ c) (hm : c ≤ maxLen) (hsz : t.size ≤ 17179869184) (hnm : Tr.Nm t) (hG : Gl w) :
    Calls Tryz.prog 22 #[.slice A n c] w fun en w' => en = .returned (.tuple #[Li.encs (putM t []).1, .int .i64 (putM t []).2]) ∧ Below w.heap.size w w' := by
  have hP := put_any t ⟨#[]⟩ A n c w h hc hm hsz hnm hG
  obtain ⟨O, hO⟩ : ∃ O, O = putM t (⟨#[]⟩ : ByteArray).data.toList := ⟨_, rfl⟩
  have hO2 : putM t [] = O := by rw [hO]
  rw [← hO] at hP
  rw [hO2]
  obtain ⟨y, hy⟩ : ∃ y : ByteArray, Li.encs O.1 = .string y := ⟨_, rfl⟩
  rw [hy] at hP ⊢
  have HP := Lib.hid hP
  clear hP hO hO2 hy h hG hc hm hsz hnm
  go_enter Tryz.func22, Tryz.ntmps22
  go_wp2_with (go_at_call 20; (with_reducible refine HP.out.mono ?_); rintro e1 w1 ⟨rfl, hb1⟩)
  refine bodyPost_ret (v := .tuple #[.string y, .int .i64 O.2]) (by simp [results, Tryz.results22, go_sem]) rfl ?_
  exact ⟨rfl, hb1⟩
end Go.Proofs.YtapgaglkkgbgkaaGreatDoor.In
namespace Go.Proofs.YtapgaglkkgbgkaaGreatDoor.In
open Go.RowKit Go.Proofs.YtapgaglkkgbgkaaGreatDoor.Li Go.Proofs.YtapgaglkkgbgkaaGreatDoor.Cv
set_option maxRecDepth 100000

end Go.Proofs.YtapgaglkkgbgkaaGreatDoor.In
namespace Go.Proofs.YtapgaglkkgbgkaaGreatDoor.In
open Go.RowKit Go.Proofs.YtapgaglkkgbgkaaGreatDoor.Jd Go.Proofs.YtapgaglkkgbgkaaGreatDoor.Li Go.Proofs.YtapgaglkkgbgkaaGreatDoor.Cl Go.Proofs.YtapgaglkkgbgkaaGreatDoor.Cv
set_option maxRecDepth 100000
attribute [local go_sem ↓] Go.wp_at_zero Go.wp_at_succ

theorem tmod_pos6 {a n : Int} (hn : 0 < n) (h : 0 ≤ a.tmod n) : a.tmod n = a % n := by
  have h1 := Int.tmod_add_mul_tdiv a n
  have h2 := Int.tmod_lt_of_pos a hn
  conv => rhs; rw [← h1]
  rw [Int.add_mul_emod_self_left, Int.emod_eq_of_lt h h2]
theorem tmod_neg6 {a n : Int} (hn : 0 < n) (h : a.tmod n < 0) : a.tmod n + n = a % n := by
  have h1 := Int.tmod_add_mul_tdiv a n
  have h2 := Int.lt_tmod_of_pos a hn
  conv => rhs; rw [← h1]
  rw [Int.add_mul_emod_self_left, ← Int.add_emod_right, Int.emod_eq_of_lt (by omega) (by omega)]
set_option maxHeartbeats 400000 in
theorem within_any (a n : Int) (hn : 0 < n) (hn2 : n ≤ 2147483647) (ha : -9223372036854775808 ≤ a ∧ a ≤ 9223372036854775807) (w : World) : Calls Tryz.prog 10 #[.int .i64 a, .int .i64 n] w fun e w' => e = .returned (.int .i64 (a % n)) ∧ w = w' := by
  obtain ⟨hx1, hx2⟩ := ha
  have hm1 := Int.tmod_lt_of_pos a hn
  have hm2 := Int.lt_tmod_of_pos a hn
  by_cases h : a.tmod n < 0
  · have Hf := Lib.hid (tmod_neg6 hn h)
    go_enter Tryz.func10, Tryz.ntmps10
    go_wp2
    go_ret
    exact ⟨by rw [← Hf.out]; rfl, rfl⟩
  · have Hf := Lib.hid (tmod_pos6 hn (by omega : 0 ≤ a.tmod n))
    go_enter Tryz.func10, Tryz.ntmps10
    go_wp2
    go_ret
    exact ⟨by rw [← Hf.out]; rfl, rfl⟩
theorem within_nat (a : Int) (n : Nat) (hn : 0 < n) (hn2 : n ≤ 2147483647) (ha : -9223372036854775808 ≤ a ∧ a ≤ 9223372036854775807) : ∃ j : Nat, j < n ∧ ∀ w, Calls Tryz.prog 10 #[.int .i64 a, .int .i64 n] w fun e w' => e = .returned (.int .i64 j) ∧ w = w' := by
  refine ⟨(a % n).toNat, by have := Int.emod_lt_of_pos a (show (0 : Int) < n by omega); have := Int.emod_nonneg a (show (n : Int) ≠ 0 by omega); omega, fun w => ?_⟩
  rw [Int.toNat_of_nonneg (Int.emod_nonneg a (by omega))]
  exact within_any a n (by omega) (by omega) ha w
def allocs (w : World) : List Obj → World
  | [] => w
  | o :: r => allocs (w.alloc o) r
theorem allocs_below : ∀ (os : List Obj) (w : World), Below w.heap.size w (allocs w os)
  | [], w => Below.refl _ _
  | o :: r, w => ((Below.refl _ _).alloc (Nat.le_refl _) o).trans ((allocs_below r (w.alloc o)).mono (by simp))
theorem allocs_get : ∀ (os : List Obj) (w : World) (i : Nat) (o : Obj), os[i]? = some o → (allocs w os).heap[w.heap.size + i]? = some o
  | [], w, i, o, h => by simp at h
  | o' :: r, w, 0, o, h => by
    simp only [List.getElem?_cons_zero, Option.some.injEq] at h
    subst h
    have := (allocs_below r (w.alloc o')).block w.heap.size (by simp)
    rw [Nat.add_zero, allocs, this]
    exact heap_alloc_new w o'
  | o' :: r, w, i + 1, o, h => by
    simp only [List.getElem?_cons_succ] at h
    have := allocs_get r (w.alloc o') i o h
    rw [allocs, show w.heap.size + (i + 1) = (w.alloc o').heap.size + i by simp; omega]
    exact this
theorem allocs_size : ∀ (os : List Obj) (w : World), (allocs w os).heap.size = w.heap.size + os.length
  | [], w => rfl
  | o :: r, w => by rw [allocs, allocs_size r (w.alloc o)]; simp; omega
theorem holds_one {W : World} {B b n c : Nat} {s : ByteArray} {A : Option Addr} {k : Tr} (hg : W.heap[b]? = some (Obj.cells #[.string s, .slice A n c] 56)) (hb : b < B) (hn : n ≤ c) (hc : c ≤ maxLen) (hk : Holds W B A n k) : Holds W B (some ⟨b, 0, none⟩) 1 (.cons s k .nil) :=
  ⟨b, 0, rfl, hb, by rw [cell_of_row _ _ _ _ _ _ hg]; rfl, ⟨A, n, c, by rw [cell_of_row _ _ _ _ _ _ hg]; rfl, hn, hc, hk⟩, 0, rfl, rfl⟩
def knLaid (b : Nat) : List Obj := [.cells #[.string ⟨#[99]⟩, .slice none 0 0] 56, .cells #[.string ⟨#[98]⟩, .slice (some ⟨b, 0, none⟩) 1 1] 56, .cells #[.string ⟨#[97]⟩, .slice (some ⟨b + 1, 0, none⟩) 1 1] 56]
abbrev knT : Tr := .cons ⟨#[97]⟩ (.cons ⟨#[98]⟩ (.cons ⟨#[99]⟩ .nil .nil) .nil) .nil
theorem pm_known : putM knT [] = ([91, 97, 93, 10, 98, 61, 99, 10], 0) := by decide +kernel
theorem kn_holds (w : World) : Holds (allocs w (knLaid w.heap.size)) (allocs w (knLaid w.heap.size)).heap.size (some ⟨w.heap.size + 2, 0, none⟩) 1 knT := by
  have hg := fun i o h => allocs_get (knLaid w.heap.size) w i o h
  have hs := allocs_size (knLaid w.heap.size) w
  have hs : (allocs w (knLaid w.heap.size)).heap.size = w.heap.size + 3 := hs
  exact holds_one (hg 2 _ rfl) (by omega) (Nat.le_refl _) (by simp [maxLen]) (holds_one (hg 1 _ rfl) (by omega) (Nat.le_refl _) (by simp [maxLen]) (holds_one (hg 0 _ rfl) (by omega) (Nat.le_refl _) (by simp [maxLen]) rfl))

set_option maxHeartbeats 4000000 in
theorem known_any (w : World) (hG : Gl w) : Calls Tryz.prog 8 #[] w fun e w' => e = .returned (.bool true) ∧ Below w.heap.size w w' := by
  have hbw := allocs_below (knLaid w.heap.size) w
  have hc := create_any knT (some ⟨w.heap.size + 2, 0, none⟩) 1 1 (allocs w (knLaid w.heap.size)) (kn_holds w) (Nat.le_refl _) (by simp [maxLen]) (by decide) ⟨by decide, ⟨by decide, ⟨by decide, trivial, trivial⟩, trivial⟩, trivial⟩ (hG.below hbw)
  rw [pm_known] at hc
  have HC := Lib.hid hc
  have HB := Lib.hid hbw
  clear hc hbw hG
  go_enter Tryz.func8, Tryz.ntmps8
  go_wp2_with fail
  change Calls _ _ _ (allocs w (knLaid w.heap.size)) _
  (with_reducible refine HC.out.mono ?_)
  rintro e w1 ⟨rfl, hb1⟩
  dsimp only [Li.encs]
  go_wp2_with fail
  go_ret
  exact ⟨rfl, HB.out.trans (hb1.mono HB.out.size)⟩

structure Row17 (W : World) (g k : Nat) (s wk : ByteArray) (nk : Nat) (T : Tr) (i : Nat) (e : Int) : Prop where
  text : W.cell? ⟨g, k, none⟩ = some (.string s)
  want : W.cell? ⟨g + 1, k, none⟩ = some (.string wk)
  num : W.cell? ⟨g + 1 + 1, k, none⟩ = some (.int .i64 nk)
  read : readI s.data.toList = (T, i, e)
end Go.Proofs.YtapgaglkkgbgkaaGreatDoor.In
namespace Go.Proofs.YtapgaglkkgbgkaaGreatDoor.In
open Go.RowKit Go.Proofs.YtapgaglkkgbgkaaGreatDoor.Jd Go.Proofs.YtapgaglkkgbgkaaGreatDoor.Li
set_option maxRecDepth 100000

def UpTo (K : Nat) (w : World) (e : Ending) (w' : World) : Prop := ∃ s : ByteArray, s.size ≤ K ∧ e = .returned (.string s) ∧ Below w.heap.size w w'

end Go.Proofs.YtapgaglkkgbgkaaGreatDoor.In
