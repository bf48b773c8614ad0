/- CsvLines' walk. Conditions: MaxLen's cell. -/
import Derived.Test.YtkgpjohfkfbfhaaGreatDoorRtCount
import Derived.Test.YtkgpjohfkfbfhaaGreatDoorRcFileW
import Derived.Test.YtkgpjohfkfbfhaaGreatDoorMwRtTurnM
import Derived.Test.YtkgpjohfkfbfhaaGreatDoorMwRtFits
import Derived.Test.YtkgpjohfkfbfhaaGreatDoorMwOwnWith
namespace Go.Proofs.YtkgpjohfkfbfhaaGreatDoor.Cv
open Go.RowKit Go.Proofs.YtkgpjohfkfbfhaaGreatDoor.Jd Go.Proofs.YtkgpjohfkfbfhaaGreatDoor.Li Go.Proofs.YtkgpjohfkfbfhaaGreatDoor.Cl Go.Proofs.YtkgpjohfkfbfhaaGreatDoor.Pt
set_option maxRecDepth 100000

/-- What a put answers, and what is loaded of it, how many lines it has. -/
def Lined (t : Tr) (z : Bs × Int) (o : Tr × Nat × Int) : Prop := (z.2 = 0 ∧ o = (t, 0, 0) ∧ (split z.1).length = 1 + t.len ∧ z.1.length ≤ 4000) ∨ z.2 = 5
theorem lined {t : Tr} {l : Bs} (h1 : (readF l).2.2 = 0) (h2 : fitsC t = 0) : Lined t (putR t l) (readF (putR t l).1) := by
  rcases putR_e t l h1 h2 with h | h
  · have hb := (putR_back h).2.2.1
    have h3 : (readF (putR t l).1).2.2 = 0 := by rw [hb]
    refine .inl ⟨h, hb, ?_, (read_inv h3).1⟩
    rw [(read_lines h3).1, hb]
  · exact .inr h
theorem wr1 {b n : Nat} (h : b = 1 + n) (_ : n ≤ 1000) : wrap64 ((b : Int) - (n : Int)) = 1 ∧ IntKind.i64.wrap ((b : Int) - (n : Int)) = 1 := by
  have e : (b : Int) - (n : Int) = 1 := by omega
  rw [e]
  exact ⟨by unfold wrap64; omega, IntWalk.i64_in _ (by omega)⟩
theorem wr2 {a n : Nat} (h : a = 1 + n) (hn : n ≤ 1000) : wrap64 (1 + (n : Int)) = (a : Int) ∧ IntKind.i64.wrap (1 + (n : Int)) = (a : Int) := by
  have e : (1 : Int) + (n : Int) = (a : Int) := by omega
  rw [e]
  exact ⟨by unfold wrap64; omega, IntWalk.i64_in _ (by omega)⟩

set_option maxHeartbeats 8000000 in
theorem lines_walk (A : Option Addr) (n c : Nat) (l : List Int) (A2 : Option Addr) (n2 c2 : Nat) (l2 : List Int) (w : World)
    (h : SeesV w w.heap.size A n (l.map (Value.int .i64))) (hr : ∀ x ∈ l, -9223372036854775808 ≤ x ∧ x ≤ 9223372036854775807) (hc : n ≤ c) (hm : c ≤ maxLen)
    (h2 : SeesV w w.heap.size A2 n2 (l2.map (Value.int .i64))) (hr2 : ∀ x ∈ l2, -9223372036854775808 ≤ x ∧ x ≤ 9223372036854775807) (_ : n2 ≤ c2) (_ : c2 ≤ maxLen) (hG : Gl w) :
    Calls Tryz.prog 5 #[.slice A n c, .slice A2 n2 c2] w fun e w' => e = .returned (.bool true) ∧ Below w.heap.size w w' := by
  have HKn := Lib.hid (known_any w hG)
  have HG := Lib.hid hG
  have HFile := Lib.hid (fun (W : World) (hW : Below w.heap.size w W) => fileW_any A n c l W (sees_up (h.below hW) hW.size) hr hc hm)
  have HH := Lib.hid h2
  have Hr : Hid (∀ k, k < n2 → -9223372036854775808 ≤ l2.getD k 0 ∧ l2.getD k 0 ≤ 9223372036854775807) := Lib.hid (fun k hk => by
    have hkl : k < l2.length := by have := h2.len; rw [List.length_map] at this; omega
    rw [List.getD_eq_getElem?_getD, List.getElem?_eq_getElem hkl]
    exact hr2 _ (List.getElem_mem hkl))
  clear h hr h2 hr2 hG
  go_enter Tryz.func5, Tryz.ntmps5
  go_wp2_with fail
  (with_reducible refine HKn.out.mono ?_)
  rintro e w1 ⟨rfl, hb1⟩
  have HB1 := Lib.hid hb1
  have HF1 := Lib.hid (HFile.out w1 hb1)
  clear hb1
  go_wp2_with fail
  (with_reducible refine HF1.out.mono ?_)
  rintro e w2 ⟨s, hs, hsw, rfl, hb2⟩
  have HB2 := Lib.hid (HB1.out.trans (hb2.mono HB1.out.size))
  have HRl := Lib.hid (rload_any s w2 (by omega))
  have HFew := Lib.hid (readF_few s.data.toList)
  have HLn := Lib.hid (fun h => read_lines (l := s.data.toList) h)
  have HFitS := Lib.hid (fun h => read_fits (l := s.data.toList) h)
  have Hsw : Hid (wtB s.data.toList ≤ 325) := Lib.hid hsw
  have Hs := Lib.hid hs
  obtain ⟨o, ho⟩ : ∃ o, o = readF s.data.toList := ⟨_, rfl⟩
  rw [← ho] at HRl HFew HLn HFitS
  obtain ⟨T, l0, e0⟩ := o
  have Ho := Lib.hid ho
  clear hb2 ho hs hsw
  go_wp2_with fail
  (with_reducible refine HRl.out.mono ?_)
  rintro e w3 ⟨At, nt, ct, rfl, hT, hnt, hct, hb3⟩
  have HB3 := Lib.hid (HB2.out.trans (hb3.mono HB2.out.size))
  have HT3 : Hid (OkT w3 At nt ct T) := Lib.hid ⟨hT, hnt, hct⟩
  clear hT hnt hct hb3
  by_cases he : e0 = 0
  case neg =>
    have hvb : (e0 != 0) = true := bne_iff_ne.2 he
    clear he
    go_wp2_with fail
    go_ret
    exact ⟨rfl, HB3.out⟩
  subst he
  have HL0 := Lib.hid (HLn.out rfl)
  have HFt : Hid (Ft 325 T) := Lib.hid (by
    obtain ⟨a, b, _, d⟩ := of_fits (HFitS.out rfl) HFew.out.2
    exact ⟨a, b, Nat.le_trans HL0.out.2 Hsw.out, d⟩)
  have HFS := Lib.hid (HFitS.out rfl)
  have HPu := Lib.hid (fun (W : World) (x : ByteArray) (t : Tr) (B : Option Addr) (m d : Nat) (hW : Below w.heap.size w W) (hU : OkT W B m d t) (htn : Ft 326 t) => putR_any x t B m d W (by have := htn.2.2.1; omega) htn.2.2.2 hU.holds hU.cap.1 hU.cap.2 (HG.out.below hW))
  have hnts : nt ≤ 325 := by
    have h1 := HT3.out.holds.len
    have h2 := T.len_size
    have h3 := HFt.out.2.2.1
    omega
  have Hlt := Lib.hid HT3.out.holds.len
  go_wp2_with fail
  go_loopw [9, 10] (fun uv i wr => ∃ (k : Nat) (A' : Option Addr) (n' c' : Nat) (u : Tr), k ≤ 6 ∧ i = .int .i64 k ∧ uv = .slice A' n' c' ∧ Hid (OkT wr A' n' c' u) ∧ Hid (Ft 325 u) ∧ Hid (Below w.heap.size w wr) ∧ Hid (Below w3.heap.size w3 wr)) (fun _ i _ => 6 - (intOf i).toNat)
  case atStart => exact ⟨0, At, nt, ct, T, by omega, rfl, rfl, HT3, HFt, HB3, Lib.hid (Below.refl _ _)⟩
  case round =>
    obtain ⟨k, A', n', c', u, hk, rfl, rfl, HU, HF, HW, HW3⟩ := hrel
    obtain ⟨wa, rfl⟩ : ∃ x : World, x = wr := ⟨_, rfl⟩
    have hk0 : (0 : Int) ≤ (k : Int) := by omega
    by_cases hgo : k < n2 ∧ k < 6 ∧ 0 < nt
    · obtain ⟨g1, g2, g3⟩ := hgo
      have q1 : (k : Int) < (n2 : Int) := by omega
      have q2 : (k : Int) < 6 := by omega
      have q3 : (0 : Int) < (nt : Int) := by omega
      obtain ⟨b, o, rfl, hbB, hcell⟩ := (HH.out.below HW.out).int g1
      have hxr := Hr.out k g1
      obtain ⟨x, hx⟩ : ∃ x, x = l2.getD k 0 := ⟨_, rfl⟩
      rw [← hx] at hcell hxr
      obtain ⟨j, hj, HJ'⟩ := within_nat x nt g3 (by omega) hxr
      have HJ : Hid (∀ w, Calls Tryz.prog 9 #[.int .i64 x, .int .i64 nt] w fun e w' => e = .returned (.int .i64 j) ∧ w = w') := Lib.hid HJ'
      obtain ⟨b2, o2, s2, kt, r, A4, n4, c4, rfl, hb2, hs2, hc2, hn4, hc4, hk4, hr4, hd4, hd5⟩ := (HT3.out.below HW3.out).holds.split j hj
      have hj0 : (0 : Int) ≤ (j : Int) := by omega
      have hjn : (j : Int) < (nt : Int) := by omega
      have HD := Lib.hid (drop_w HU.out (by have := HF.out.2.2.1; omega) s2 s2).1
      have HF2 := Lib.hid (ft_drop s2 HF.out)
      obtain ⟨u2, hu2⟩ : ∃ x, x = dropP u [s2] := ⟨_, rfl⟩
      rw [← hu2] at HD HF2
      have HWa : Hid (Below w.heap.size w (wa.alloc (Obj.cells #[Value.string s2] 9))) := Lib.hid (HW.out.alloc HW.out.size _)
      have HWb : Hid (Below w3.heap.size w3 (wa.alloc (Obj.cells #[Value.string s2] 9))) := Lib.hid (HW3.out.alloc HW3.out.size _)
      have Hg2 := Lib.hid g2
      clear HJ' hx hxr hc2 hn4 hc4 hk4 hr4 hd4 hd5 hb2 hbB hu2
      go_wp2_with fail
      (with_reducible refine (HJ.out _).mono ?_)
      rintro e w4 ⟨rfl, rfl⟩
      go_wp2_with fail
      (with_reducible refine HD.out.mono ?_)
      rintro e w5 ⟨A5, n5, c5, rfl, hok5, hb5⟩
      have HU5 := Lib.hid hok5
      have HW5 := Lib.hid (HWa.out.trans (hb5.mono HWa.out.size))
      have HW35 := Lib.hid (HWb.out.trans (hb5.mono HWb.out.size))
      clear hok5 hb5
      go_wp2_with fail
      go_roundw
      case rel => exact ⟨k + 1, A5, n5, c5, u2, Hg2.out, by go_num, rfl, HU5, HF2, HW5, HW35⟩
      case measure => have := Hg2.out; simp [intOf]; omega
    · have hex : ¬ (k : Int) < (n2 : Int) ∨ ((k : Int) < (n2 : Int) ∧ ¬ (k : Int) < 6) ∨ ((k : Int) < (n2 : Int) ∧ (k : Int) < 6 ∧ ¬ (0 : Int) < (nt : Int)) := by omega
      have HM := Lib.hid (put1_w HU.out (by have := HF.out.2.2.1; omega) oneMore)
      have HF2 : Hid (Ft 326 (putT u [oneMore] .nil)) := Lib.hid (ft_more HF.out)
      have HWa : Hid (∀ o : Obj, Below w.heap.size w (wa.alloc o)) := Lib.hid (fun o => HW.out.alloc HW.out.size _)
      have HW3a : Hid (∀ o : Obj, Below w3.heap.size w3 (wa.alloc o)) := Lib.hid (fun o => HW3.out.alloc HW3.out.size _)
      obtain ⟨u2, hu2⟩ : ∃ x, x = putT u [oneMore] .nil := ⟨_, rfl⟩
      rw [← hu2] at HM HF2
      have HLd := Lib.hid (lined (t := u2) (l := s.data.toList) (by rw [← Ho.out]) (fits_of HF2.out (by omega)))
      clear hgo hu2
      rcases hex with x1 | ⟨x1, x2⟩ | ⟨x1, x2, x3⟩
      all_goals
        as_aux_lemma =>
          go_wp2_with fail
          (with_reducible refine HM.out.mono ?_)
          rintro e w5 ⟨A5, n5, c5, rfl, hok5, hb5⟩
          have HU5 := Lib.hid hok5
          have HW5 := Lib.hid ((HWa.out _).trans (hb5.mono (HWa.out _).size))
          have HW35 := Lib.hid ((HW3a.out _).trans (hb5.mono (HW3a.out _).size))
          have HT5 := Lib.hid (HT3.out.below HW35.out)
          have hP1 := HPu.out w5 s u2 A5 n5 c5 HW5.out hok5 HF2.out
          have HLd' := Lib.hid HLd.out
          obtain ⟨z1, hz1⟩ : ∃ z, z = putR u2 s.data.toList := ⟨_, rfl⟩
          rw [← hz1] at hP1 HLd'
          obtain ⟨P, e1⟩ := z1
          dsimp only at hP1 HLd'
          have HP1 := Lib.hid hP1
          clear hP1 hz1 hok5 hb5
          go_wp2_with fail
          (with_reducible refine HP1.out.mono ?_)
          rintro e w6 ⟨rfl, hb6⟩
          have HW6 := Lib.hid (HW5.out.trans (hb6.mono HW5.out.size))
          have HU6 := Lib.hid (HU5.out.below hb6)
          have HT6 := Lib.hid (HT5.out.below hb6)
          clear hb6
          rcases HLd'.out with ⟨he1, ho1, hc1, hl1⟩ | he1
          case inr =>
            obtain rfl : e1 = 5 := he1
            go_wp2_with fail
            go_ret
            exact ⟨rfl, HW6.out⟩
          obtain rfl : e1 = 0 := he1
          dsimp only at hc1 hl1
          have hL1 := load_any (mkB P) w6 (fun _ _ z _ => pl_all z) (HG.out.below HW6.out)
          rw [mkB_bytes, ho1] at hL1
          have HL1 := Lib.hid hL1
          have HBk := Lib.hid (lined (t := T) (l := P) (by rw [ho1]) HFS.out)
          have HCp := Lib.hid (fun W => count_lines (mkB P) W (by rw [mkB_size]; omega))
          rw [mkB_bytes] at HCp
          have HCs := Lib.hid (fun W => count_lines s W (by have := Hs.out; omega))
          have hcs := HL0.out.1
          have hcu := HU6.out.holds.len
          have hct' := Hlt.out
          obtain ⟨a, ha⟩ : ∃ a, a = (split P).length := ⟨_, rfl⟩
          obtain ⟨b, hb⟩ : ∃ b, b = (split s.data.toList).length := ⟨_, rfl⟩
          rw [← ha] at HCp hc1
          rw [← hb] at HCs hcs
          have hn5 : n5 ≤ 326 := by
            have h2 := u2.len_size
            have h3 := HF2.out.2.2.1
            omega
          obtain ⟨d1, d2⟩ := wr1 (b := b) (n := nt) (by omega) (by omega)
          obtain ⟨d3, d4⟩ := wr2 (a := a) (n := n5) (by omega) (by omega)
          have HP2 := Lib.hid (fun (W : World) (hW : Below w.heap.size w W) (hU : OkT W At nt ct T) => by
            obtain ⟨f1, f2, f3, f4⟩ := HFt.out
            have := HPu.out W (mkB P) T At nt ct hW hU ⟨f1, f2, by omega, f4⟩
            rw [mkB_bytes] at this
            exact this)
          obtain ⟨z2, hz2⟩ : ∃ z, z = putR T P := ⟨_, rfl⟩
          rw [← hz2] at HP2 HBk
          obtain ⟨Q, e2⟩ := z2
          dsimp only at HP2 HBk
          have HL2 := Lib.hid (fun (W : World) (hW : Below w.heap.size w W) => by
            have := load_any (mkB Q) W (fun _ _ z _ => pl_all z) (HG.out.below hW)
            rw [mkB_bytes] at this
            exact this)
          obtain ⟨o2, ho2⟩ : ∃ o, o = readF Q := ⟨_, rfl⟩
          rw [← ho2] at HL2 HBk
          obtain ⟨p, hp⟩ : ∃ p, p = mkB P := ⟨_, rfl⟩
          obtain ⟨q, hq⟩ : ∃ q, q = mkB Q := ⟨_, rfl⟩
          rw [← hp] at HL1 HCp HP2 ⊢
          rw [← hq] at HL2 HP2
          clear hL1 ho1 hc1 hl1 ha hb hcs hcu hct' hz2 ho2 hp hq
          go_wp2_with fail
          (with_reducible refine HL1.out.mono ?_)
          rintro e w7 ⟨A7, c7, rfl, hX, hc7, hb7⟩
          have HW7 := Lib.hid (HW6.out.trans (hb7.mono HW6.out.size))
          have HU7 := Lib.hid (HU6.out.below hb7)
          have HT7 := Lib.hid (HT6.out.below hb7)
          have hX7 := hX.to (B := w7.heap.size) fun b hb => hb.2
          have HS7 := Lib.hid (by
            have hls := u2.len_size
            have hsz := HF2.out.2.2.1
            have := rsame_any u2.size u2 u2 A7 A5 u2.len n5 c7 c5 w7.heap.size w7 (Nat.le_refl _) hX7 HU7.out.holds (by simp) (by omega) (by omega) (low_size _ (by omega)) (low_size _ (by omega))
            rw [same_refl] at this
            exact this)
          clear hX hX7 hc7 hb7
          go_wp2_with fail
          (with_reducible refine HS7.out.mono ?_)
          rintro e w8 ⟨rfl, q8, hq8⟩
          have hb8 : Below w7.heap.size w7 w8 := by rw [hq8]; exact below_drewN (Below.refl _ _) _
          have HW8 := Lib.hid (HW7.out.trans (hb8.mono HW7.out.size))
          have HT8 := Lib.hid (HT7.out.below hb8)
          have HP2' := Lib.hid (HP2.out w8 HW8.out HT8.out)
          clear hb8 hq8
          go_wp2_with fail
          (with_reducible refine (HCp.out _).mono ?_)
          rintro e w9 ⟨rfl, rfl⟩
          go_wp2_with fail
          (with_reducible refine (HCs.out _).mono ?_)
          rintro e w9 ⟨rfl, rfl⟩
          go_wp2_with fail
          (with_reducible refine HP2'.out.mono ?_)
          rintro e w9 ⟨rfl, hb9⟩
          have HW9 := Lib.hid (HW8.out.trans (hb9.mono HW8.out.size))
          have HT9 := Lib.hid (HT8.out.below hb9)
          have HL9 := Lib.hid (HL2.out w9 HW9.out)
          clear hb9
          go_wp2_with fail
          (with_reducible refine HL9.out.mono ?_)
          rintro e w10 ⟨A10, c10, rfl, hY, hc10, hb10⟩
          have HW10 := Lib.hid (HW9.out.trans (hb10.mono HW9.out.size))
          have HT10 := Lib.hid (HT9.out.below hb10)
          have HY10 := Lib.hid (hY.to (B := w10.heap.size) fun b hb => hb.2)
          clear hY hc10 hb10
          rcases HBk.out with ⟨he2, ho2, _, _⟩ | he2
          case inr =>
            obtain rfl : e2 = 5 := he2
            go_wp2_with fail
            go_ret
            exact ⟨rfl, HW10.out⟩
          obtain rfl : e2 = 0 := he2
          obtain rfl : o2 = (T, 0, 0) := ho2
          have HSB := Lib.hid (by
            have hls := T.len_size
            have hsz := HFt.out.2.2.1
            have := rsame_any T.size T T A10 At T.len nt c10 ct w10.heap.size w10 (Nat.le_refl _) HY10.out HT10.out.holds (by simp) (by omega) (by omega) (low_size _ (by omega)) (low_size _ (by omega))
            rw [same_refl] at this
            exact this)
          go_wp2_with fail
          (with_reducible refine HSB.out.mono ?_)
          rintro e w11 ⟨rfl, q11, rfl⟩
          go_wp2_with fail
          go_ret
          exact ⟨rfl, below_drewN HW10.out _⟩
end Go.Proofs.YtkgpjohfkfbfhaaGreatDoor.Cv
