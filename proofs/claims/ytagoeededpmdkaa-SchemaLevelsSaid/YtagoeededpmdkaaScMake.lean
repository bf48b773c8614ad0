/- The law's Make: a schema that may be, of a raw one. Conditions: a small raw schema. -/
import Derived.Test.YtagoeededpmdkaaScMakeL
namespace Go.Proofs.Ytagoeededpmdkaa.Sc
open Go.RowKit Go.Proofs.Ytagoeededpmdkaa.Nm
set_option maxRecDepth 100000

set_option maxHeartbeats 8000000 in
theorem make4_any (s : List Df) (A : Option Addr) (n c B : Nat) (w : World) (h : Ds w B A n s) (hfit : FitS s) (hheld : Held s) (hn : n ≤ 14) (hB : B ≤ w.heap.size) :
    Calls Try.prog 48 #[.slice A n c] w (Made4 (mN n) w) := by
  obtain ⟨N, hN⟩ : ∃ N, N = mN n := ⟨_, rfl⟩
  have hN1 : 1 ≤ N := by rw [hN]; unfold mN; omega
  have hN4 : N ≤ 4 := by rw [hN]; unfold mN; omega
  have hNn : N ≤ n ∨ n = 0 := by rw [hN]; unfold mN; omega
  have hmm : max 1 (min (n : Int) 4) = (N : Int) := by rw [hN]; unfold mN; omega
  have Hlen := Lib.hid h.len
  rw [← hN]
  clear hN
  go_enter Try.func48, Try.ntmps48
  go_wp2_with fail
  clear hmm
  go_loopw [4, 5] (fun v i wr => ∃ (k : Nat) (A : Option Addr) (c : Nat) (vs : List Value) (ds : List Df), k ≤ N ∧ i = .int .i64 k ∧ v = .slice A k c ∧ Dst w.heap.size w wr A k c vs ds ∧ Hid (Good ds)) (fun _ i _ => N - (intOf i).toNat)
  case atStart => exact ⟨0, none, 0, [], [], by omega, rfl, rfl, ⟨World.ownsRow_nil _ _ _ _, trivial, Kin.nil _ _, Below.refl _ _, Nat.le_refl _⟩, Lib.hid (fun d hd => by cases hd)⟩
  case round =>
    obtain ⟨k, A0, c0, vs, ds, hk, rfl, rfl, hDs, HG⟩ := hrel
    obtain ⟨wo, rfl⟩ : ∃ wo : World, wo = wr := ⟨_, rfl⟩
    by_cases hlt : k < N
    · have hkN : (k : Int) < (N : Int) := by omega
      have hk0 : (0 : Int) ≤ (k : Int) := by omega
      have HDs := Lib.hid hDs
      have hws : w.heap.size ≤ wo.heap.size := hDs.le
      clear hDs
      obtain ⟨W2, hW2, g0, g1, gs, gb⟩ := two wo (Obj.cells #[Value.slice none 0 0, Value.bool false, Value.bool false] 80) (Obj.cells #[Value.bool true, Value.slice none 0 0] 60)
      have HW2 := Lib.hid hW2
      have HF0 : Hid (Fst wo.heap.size (wo.heap.size + 2) wo.heap.size wo W2 false false none 0 0 [] []) := Lib.hid ⟨g0, World.ownsRow_nil _ _ _ _, trivial, Kin.nil _ _, gb, by omega⟩
      have HG1 := Lib.hid g1
      clear hW2 g0 g1 gs gb
      go_wp2_with fail
      rw [← HW2.out]
      go_loopw [8] (fun i wl => ∃ (j : Nat) (A2 : Option Addr) (c2 : Nat) (us : List Value) (fs : List Fld) (L : St) (AL : Option Addr) (nL cL : Nat), j ≤ 3 ∧ i = .int .i64 j ∧ Fst wo.heap.size (wo.heap.size + 2) wo.heap.size wo wl false false A2 j c2 us fs ∧ wl.heap[wo.heap.size + 1]? = some (.cells #[.bool L.all, .slice AL nL cL] 60 (0, 0)) ∧ In wl L AL nL ∧ Hid (L.l.length ≤ bd j) ∧ Hid (∀ f ∈ fs, f.n.l.length ≤ 100)) (fun i _ => 3 - (intOf i).toNat)
      case atStart => exact ⟨0, none, 0, [], [], ⟨true, []⟩, none, 0, 0, by omega, rfl, HF0.out, HG1.out, ⟨⟨rfl, fun j u hu => by simp at hu⟩⟩, Lib.hid (Nat.le_refl _), Lib.hid (fun f hf => by cases hf)⟩
      case round =>
        obtain ⟨j, A2, c2, us, fs, L, AL, nL, cL, hj, rfl, hF, hL, hIL, HbL, Hfs⟩ := hrel
        have hle := hF.le
        have hnL2 : nL ≤ 4096 := by have hnL := hIL.len; have := HbL.out; have := bd_le j; omega
        have hbwl : Below w.heap.size w wr := HDs.out.keep.trans (hF.keep.mono hws)
        have hG1 : wo.heap.size + 1 < wr.heap.size := by omega
        obtain ⟨gb0, gb1, gb2⟩ := box3 hF.box
        obtain ⟨lb0, lb1, _, _⟩ := box2 hL
        by_cases hkn : k < n
        · obtain ⟨b, o, D, A3, n3, c3, rfl, hb, hD, h1, h2, h3, hFs, h5, h6⟩ := (h.below (hbwl.mono hB)).at hkn
          have hfitD := hfit D (List.mem_of_getElem? hD)
          have hheldD := hheld D (List.mem_of_getElem? hD)
          have hn3 : n3 ≤ 4096 := by rw [hFs.len]; exact hfitD.1
          have hkn' : (k : Int) < (n : Int) := by omega
          have hbl : b < wr.heap.size := by have := hbwl.size; omega
          by_cases hj3 : j < n3
          · have hjn : (j : Int) < (n3 : Int) := by omega
            have hj0 : (0 : Int) ≤ (j : Int) := by omega
            by_cases hj33 : j < 3
            · have hj3' : (j : Int) < 3 := by omega
              obtain ⟨b4, o4, f, A4, n4, c4, rfl, hb4, hf, f1, f2, f3, f4, hS, f5, f6⟩ := hFs.at hj3
              have hfl := hfitD.2 f (List.mem_of_getElem? hf)
              have hfh := hheldD f (List.mem_of_getElem? hf)
              have hn4 : n4 ≤ 4096 := by
                have h1 := hS.len
                rw [List.length_map] at h1
                rw [h1]
                exact hfl
              obtain ⟨W3, hW3⟩ : ∃ W, W = wr.alloc (fbox f A4 n4 c4) := ⟨_, rfl⟩
              have g3 : W3.heap[wr.heap.size]? = some (fbox f A4 n4 c4) := by rw [hW3, heap_alloc_new]
              have hb3 : Below wr.heap.size wr W3 := by rw [hW3]; exact (Below.refl _ _).alloc (Nat.le_refl _) _
              have hwB : B ≤ wr.heap.size := by have := hbwl.size; omega
              have hIf : In W3 f.n A4 n4 := ⟨SeesV.more (Nat.le_trans hwB hb3.size) (hS.below (hb3.mono hwB))⟩
              have hIL3 : In W3 L AL nL := hIL.below hb3
              have hL3 := Below.box hb3 hL
              have HMk := Lib.hid (fun W (hbx : Below W3.heap.size W3 W) => make_at (W1 := W) f.n A4 n4 c4 (by omega) hfh.1 W (Below.refl _ _) (hIf.below hbx))
              have HBo := Lib.hid (fun W (m : St) (A : Option Addr) (c : Nat) (hbx : Below W3.heap.size W3 W) (hm : m.l.length ≤ 6) (hi : In W m A m.l.length) => rboth_at (W1 := W) m L A AL m.l.length c nL cL (by omega) hnL2 W (Below.refl _ _) hi (hIL3.below hbx))
              have hF3 := hF.below hb3
              obtain ⟨z0, z1, z2, z3⟩ := box4 (show W3.heap[wr.heap.size]? = some (Obj.cells #[Value.bool f.n.all, Value.slice A4 n4 c4, Value.int .i64 f.to, Value.bool f.need] 83) from g3)
              obtain ⟨y0, y1, _, _⟩ := box2 hL3
              have HK := Lib.hid (fun W (hb : Below W3.heap.size W3 W) => (⟨hb, (hb.cell (p := ⟨wr.heap.size, 0, none⟩) (block_lt z0)).trans z0, (hb.cell (p := ⟨wr.heap.size, 1, none⟩) (block_lt z1)).trans z1, (hb.cell (p := ⟨wo.heap.size + 1, 0, none⟩) (block_lt y0)).trans y0, (hb.cell (p := ⟨wo.heap.size + 1, 1, none⟩) (block_lt y1)).trans y1⟩ : Below W3.heap.size W3 W ∧ W.cell? ⟨wr.heap.size, 0, none⟩ = some (.bool f.n.all) ∧ W.cell? ⟨wr.heap.size, 1, none⟩ = some (.slice A4 n4 c4) ∧ W.cell? ⟨wo.heap.size + 1, 0, none⟩ = some (.bool L.all) ∧ W.cell? ⟨wo.heap.size + 1, 1, none⟩ = some (.slice AL nL cL)))
              have HW3 : Hid (W3 = wr.alloc (Obj.cells #[Value.bool f.n.all, Value.slice A4 n4 c4, Value.int .i64 f.to, Value.bool f.need] 83)) := Lib.hid hW3
              have hb0 : Below W3.heap.size W3 W3.drew := (Below.refl _ _).drew
              have hba : Below W3.heap.size W3 (W3.alloc (Obj.cells #[Value.bool false, Value.slice none 0 0] 60)).drew := ((Below.refl _ _).alloc (Nat.le_refl _) _).drew
              have HbLv := Lib.hid (show L.l.length ≤ bd j from HbL.out)
              have HF3 := Lib.hid hF3
              have HIL3 := Lib.hid hIL3
              have HL3' := Lib.hid hL3
              have Hg3 := Lib.hid g3
              have hwr3 : wr.heap.size < W3.heap.size := (Array.getElem?_eq_some_iff.1 g3).1
              have Hown : Hid (∀ g, (Value.slice A2 j c2).ownBlock = some g → g < wr.heap.size) := Lib.hid (fun g hg => (hF.row.lt g hg).2)
              have hto := hfh.2
              obtain ⟨j2, hj2, HJ'⟩ := within_nat f.to N (by omega) (by omega) hto
              have HJ : Hid (∀ w, Calls Try.prog 51 #[.int .i64 f.to, .int .i64 N] w fun e w' => e = .returned (.int .i64 j2) ∧ w = w') := Lib.hid HJ'
              have Hj2 := Lib.hid hj2
              clear hF hIL hF3 hIL3 hL3 hW3 g3 hS hf hfl hfh hIf hFs hfitD hheldD hD HJ' hj2 hb3 hL
              go_wp2_with fail
              rw [← HW3.out]
              go_upto_region 13 with (fail)
              go_cut [10] from 21 to 75 (fun s10 wx => C13 W3 j s10 wx)
              case first =>
                go_region_held3 (fun W => Below W3.heap.size W3 W ∧ W.cell? ⟨wr.heap.size, 0, none⟩ = some (.bool f.n.all) ∧ W.cell? ⟨wr.heap.size, 1, none⟩ = some (.slice A4 n4 c4) ∧ W.cell? ⟨wo.heap.size + 1, 0, none⟩ = some (.bool L.all) ∧ W.cell? ⟨wo.heap.size + 1, 1, none⟩ = some (.slice AL nL cL))
                  (first | exact HK.out _ ((hb5.setCell (by simp only; omega) _).setCell (by simp only; omega) _) | exact HK.out _ ((hb5.alloc hb5.size _).setCell (by simp only; exact hb5.size) _ |>.setCell (by simp only; exact hb5.size) _) | exact HK.out _ (hb5.alloc hb5.size _) | exact HK.out _ hb5 | exact HK.out _ (hb4.alloc hb4.size _) | exact HK.out _ hb4 | exact HK.out _ hba | exact HK.out _ hb0)
                  (first
                  | (go_at_call 40; (with_reducible refine (HMk.out _ hba).mono ?_); rintro e w4 ⟨m0, hm6, A5, c5, rfl, hi4, hb4'⟩; have hz4 := Below.box hb4' (heap_alloc_new W3 (Obj.cells #[Value.bool false, Value.slice none 0 0] 60)); have hb4 := hba.trans (hb4'.mono hba.size))
                  | (go_at_call 40; (with_reducible refine (HMk.out _ hb0).mono ?_); rintro e w4 ⟨m0, hm6, A5, c5, rfl, hi4, hb4'⟩; have hb4 := hb0.trans (hb4'.mono hb0.size); have hb4a := hb4.alloc hb4.size (Obj.cells #[Value.bool false, Value.slice none 0 0] 60); have hi4a := hi4.below ((Below.refl _ w4).alloc (Nat.le_refl _) (Obj.cells #[Value.bool false, Value.slice none 0 0] 60)))
                  | (go_at_call 95; (with_reducible refine (HBo.out _ m0 _ c5 hb4a hm6 hi4a).mono ?_); rintro e w5 ⟨A6, c6, rfl, hi5, hb5'⟩; have hz5 := Below.box hb5' (heap_alloc_new w4 (Obj.cells #[Value.bool false, Value.slice none 0 0] 60)); have hb5 := hb4a.trans (hb5'.mono hb4a.size); obtain ⟨v0, v1, v2, v3⟩ := box2 hz5; have hl5 := hb5'.size; simp at hl5; have hge : W3.heap.size ≤ w4.heap.size := hb4.size)
                  | (go_at_call 95; (with_reducible refine (HBo.out _ m0 _ c5 hb4 hm6 hi4).mono ?_); rintro e w5 ⟨A6, c6, rfl, hi5, hb5'⟩; have hz5 := Below.box hb5' hz4; have hb5 := hb4.trans (hb5'.mono hb4.size); obtain ⟨v0, v1, v2, v3⟩ := box2 hz5)
                  | (go_at_call 95; (with_reducible refine (HBo.out _ m0 _ c5 hb4 hm6 hi4).mono ?_); rintro e w5 ⟨A6, c6, rfl, hi5, hb5'⟩; have hb5 := hb4.trans (hb5'.mono hb4.size)))
                all_goals
                  go_wp2_with fail
                  go_meet
                  first
                    | exact c13_set hz5 hi5 hb5 (by first | exact hb4.size | exact Nat.le_refl _) (Nat.le_trans (both_le m0 L) (Nat.add_le_add hm6 HbLv.out))
                    | exact c13_new hi5 hb5 (Nat.le_trans (both_le m0 L) (Nat.add_le_add hm6 HbLv.out))
              case rest =>
                obtain ⟨M, m, A6, c6, rfl, hMge, hMb, hIm, hbc, hml⟩ := hcut
                obtain ⟨w5, rfl⟩ : ∃ w5 : World, w5 = wc := ⟨_, rfl⟩
                have hF5 := HF3.out.below hbc
                have hL5 := Below.box hbc HL3'.out
                have hI5 := HIL3.out.below hbc
                have hf5 := Below.box hbc Hg3.out
                have hbj := bd_le j
                have hm48 : m.l.length ≤ 4096 := by omega
                have HNo := Lib.hid (fun W (hbx : Below w5.heap.size w5 W) => rnot_at (W1 := w5) m A6 m.l.length c6 hm48 W hbx (hIm.below hbx))
                have HBo2 := Lib.hid (fun W A c (hbx : Below w5.heap.size w5 W) (hi : In W (nott m) A (nott m).l.length) => rboth_at (W1 := w5) L (nott m) AL A nL cL _ c hnL2 (by have := nott_le m; omega) W hbx (hI5.below hbx) hi)
                have HbL2 : Hid ((both L (nott m)).l.length ≤ bd (j + 1)) := Lib.hid (by have h1 := both_le L (nott m); have h2 := nott_le m; have h3 := HbLv.out; have h4 := bd_step hj33; omega)
                obtain ⟨s2, hs2⟩ : ∃ s, s = nott m := ⟨_, rfl⟩
                rw [← hs2] at HNo HBo2 HbL2
                obtain ⟨L2, hL2⟩ : ∃ s, s = both L s2 := ⟨_, rfl⟩
                rw [← hL2] at HBo2 HbL2
                obtain ⟨y0', y1', y2', y3'⟩ := box2 hL5
                obtain ⟨m0', m1', _, _⟩ := box2 hMb
                have hb50 : Below w5.heap.size w5 w5.drew := (Below.refl _ _).drew
                have hG5 : wo.heap.size + 1 < w5.heap.size := (Array.getElem?_eq_some_iff.1 hL5).1
                have HF5 := Lib.hid hF5
                have HL5 := Lib.hid hL5
                have HI5 := Lib.hid hI5
                have Hf5 := Lib.hid hf5
                have HMb := Lib.hid hMb
                have HIm := Lib.hid hIm
                have Hml := Lib.hid hml
                have hMl5 : M < w5.heap.size := (Array.getElem?_eq_some_iff.1 hMb).1
                have hFb5 : wr.heap.size < w5.heap.size := (Array.getElem?_eq_some_iff.1 hf5).1
                clear hF5 hL5 hI5 hf5 hMb hIm hml hs2 hL2 hbc HMk HBo HK hb0 hba HF3 HIL3 HL3' Hg3 z0 z1 z2 z3 y0 y1 f1 f2 f3 f4
                go_wp2_with fail
                go_upto_region 14 with (fail)
                go_cut [] from 21 to 75 (fun wx => C14 wo.heap.size wo A2 j c2 us fs f A4 n4 c4 wr.heap.size M m A6 c6 wx)
                case first =>
                  go_region_law (first
                    | (go_simp; (with_reducible refine (HNo.out _ hb50).mono ?_); rintro e w6 ⟨A7, c7, rfl, hi6, hb6⟩; have x0 := (hb6.cell (p := ⟨wo.heap.size + 1, 0, none⟩) hG5).trans y0'; have x1 := (hb6.cell (p := ⟨wo.heap.size + 1, 1, none⟩) hG5).trans y1')
                    | (go_simp; (with_reducible refine (HBo2.out _ _ c7 hb6 hi6).mono ?_); rintro e w7 ⟨A8, c8, rfl, hi7, hb7⟩; have hL7 := Below.box hb7 HL5.out; obtain ⟨x4, x5, x6, x7⟩ := box2 hL7))
                  all_goals
                    go_wp2_with fail
                    go_meet
                    exact c14_of hL7 hi7 HbL2.out (HF5.out.below hb7) (Below.box hb7 Hf5.out) (Below.box hb7 HMb.out) (HIm.out.below hb7) (by omega) (by omega)
                case rest =>
                  obtain ⟨L2', AL2, nL2, cL2, hLb, hIL2, hbL2, hF8, hf8, hM8, hIm8⟩ := hcut
                  obtain ⟨w8, rfl⟩ : ∃ w8 : World, w8 = wc := ⟨_, rfl⟩
                  obtain ⟨Fb, hFb⟩ : ∃ x, x = wr.heap.size := ⟨_, rfl⟩
                  rw [← hFb] at hf8 Hown
                  have hFM : Fb < M := by omega
                  obtain ⟨m0, m1, _, _⟩ := box2 hM8
                  obtain ⟨_, _, f2, f3⟩ := box4 (show w8.heap[Fb]? = some (Obj.cells #[Value.bool f.n.all, Value.slice A4 n4 c4, Value.int .i64 f.to, Value.bool f.need] 83) from hf8)
                  have hMl : M < w8.heap.size := (Array.getElem?_eq_some_iff.1 hM8).1
                  have hFl : Fb < w8.heap.size := (Array.getElem?_eq_some_iff.1 hf8).1
                  have hGl : wo.heap.size < w8.heap.size := (Array.getElem?_eq_some_iff.1 hF8.box).1
                  obtain ⟨x0, x1, x2⟩ := box3 hF8.box
                  have hfr8 : w8.frozen? ⟨wo.heap.size, 0, none⟩ = false := by simp [World.frozen?, hF8.box]
                  have hGF : wo.heap.size + 1 < Fb := by omega
                  have HF8 := Lib.hid hF8
                  have HLb := Lib.hid hLb
                  have HIL := Lib.hid hIL2
                  have Him := Lib.hid hIm8
                  have HbL2' := Lib.hid hbL2
                  have hnc6 : m.l.length ≤ maxLen := by unfold maxLen; omega
                  have Hnc6 := Lib.hid hnc6
                  clear hF8 hLb hIL2 hIm8 hf8 hM8 hbL2 hnc6 HNo HBo2 HF5 HL5 HI5 Hf5 HMb HIm m0' m1' y0' y1' y2' y3' hb50 gb0 gb1 gb2 lb0 lb1
                  rw [← hFb]
                  clear hFb
                  obtain ⟨nd, hnd⟩ : ∃ nd, nd = f.need := ⟨_, rfl⟩
                  rw [← hnd] at f3
                  clear hnd
                  cases nd with
                  | true =>
                    have HS : Hid (w8.drew.cell? ⟨M, 0, none⟩ = some (.bool m.all) ∧ w8.drew.cell? ⟨M, 1, none⟩ = some (.slice A6 m.l.length c6) ∧ w8.drew.cell? ⟨Fb, 2, none⟩ = some (.int .i64 f.to) ∧ w8.drew.cell? ⟨Fb, 3, none⟩ = some (.bool true)) := Lib.hid ⟨m0, m1, f2, f3⟩
                    have HSa : Hid ((w8.alloc (Obj.cells #[Value.bool m.all, Value.slice A6 m.l.length c6, Value.int .i64 (j2 : Int), Value.bool (!m.all)] 83)).drew.cell? ⟨M, 0, none⟩ = some (.bool m.all) ∧ (w8.alloc (Obj.cells #[Value.bool m.all, Value.slice A6 m.l.length c6, Value.int .i64 (j2 : Int), Value.bool (!m.all)] 83)).drew.cell? ⟨M, 1, none⟩ = some (.slice A6 m.l.length c6) ∧ (w8.alloc (Obj.cells #[Value.bool m.all, Value.slice A6 m.l.length c6, Value.int .i64 (j2 : Int), Value.bool (!m.all)] 83)).drew.cell? ⟨Fb, 2, none⟩ = some (.int .i64 f.to) ∧ (w8.alloc (Obj.cells #[Value.bool m.all, Value.slice A6 m.l.length c6, Value.int .i64 (j2 : Int), Value.bool (!m.all)] 83)).drew.cell? ⟨Fb, 3, none⟩ = some (.bool true)) := Lib.hid ⟨(World.cell?_alloc_lt _ _ ⟨M, 0, none⟩ hMl).trans m0, (World.cell?_alloc_lt _ _ ⟨M, 1, none⟩ hMl).trans m1, (World.cell?_alloc_lt _ _ ⟨Fb, 2, none⟩ hFl).trans f2, (World.cell?_alloc_lt _ _ ⟨Fb, 3, none⟩ hFl).trans f3⟩
                    have hba : Below w8.heap.size w8 (w8.alloc (Obj.cells #[Value.bool m.all, Value.slice A6 m.l.length c6, Value.int .i64 (j2 : Int), Value.bool (!m.all)] 83)).drew := ((Below.refl _ _).alloc (Nat.le_refl _) _).drew
                    have HF3 := Lib.hid (HF8.out.below hba)
                    have HI3 : Hid (SeesV (w8.alloc (Obj.cells #[Value.bool m.all, Value.slice A6 m.l.length c6, Value.int .i64 (j2 : Int), Value.bool (!m.all)] 83)).drew (w8.alloc (Obj.cells #[Value.bool m.all, Value.slice A6 m.l.length c6, Value.int .i64 (j2 : Int), Value.bool (!m.all)] 83)).drew.heap.size A6 m.l.length (m.l.map encs)) := Lib.hid (SeesV.more hba.size (Him.out.sees.below hba))
                    have HL3 := Lib.hid (Below.box hba HLb.out)
                    have HI3L := Lib.hid (HIL.out.below hba)
                    have HSr : Hid (Src Try.prog 4 78 (.slice (some ⟨w8.heap.size, 0, none⟩) 1 1) 1 [.bool m.all, .slice A6 m.l.length c6, .int .i64 (j2 : Int), .bool (!m.all)] (w8.alloc (Obj.cells #[Value.bool m.all, Value.slice A6 m.l.length c6, Value.int .i64 (j2 : Int), Value.bool (!m.all)] 83)).drew) := Lib.hid (src_blockD w8 _ _ _ Try.underlying78 4 _ _ rfl rfl (by simp [Value.oneCell']))
                    have hj46 : j + 1 ≤ 1099511627776 := by omega
                    clear hba
                    go_wp2_with fail
                    refine wp_region_noPanic (wp_region_held_drew (S := fun W => W.cell? ⟨M, 0, none⟩ = some (.bool m.all) ∧ W.cell? ⟨M, 1, none⟩ = some (.slice A6 m.l.length c6) ∧ W.cell? ⟨Fb, 2, none⟩ = some (.int .i64 f.to) ∧ W.cell? ⟨Fb, 3, none⟩ = some (.bool true)) (by kernel_rfl) HS.out (fun hS0 => ?_))
                    refine wpAnyH_take (i := 0) (v := .pointer (some ⟨wo.heap.size, 0, none⟩)) rfl (by kernel_rfl) (by kernel_rfl) (by kernel_rfl) (fun _ _ _ h => h) (Or.inl ⟨by rfl, ?_⟩) hS0 ?_
                    · intro w' hSw
                      obtain ⟨s0, s1, s2, s3⟩ := hSw
                      go_simp
                    simp only [List.getElem_toArray, List.getElem_cons_zero, Act.put, List.setIfInBounds_toArray, List.set_cons_zero, List.set_cons_succ]
                    refine wpAnyH_take (i := 2) (v := .agg #[.bool m.all, .slice A6 m.l.length c6]) rfl (by kernel_rfl) (by kernel_rfl) (by kernel_rfl) (fun _ _ _ h => h) (Or.inl ⟨by rfl, ?_⟩) hS0 ?_
                    · intro w' hSw
                      obtain ⟨s0, s1, s2, s3⟩ := hSw
                      go_simp
                    simp only [List.getElem_toArray, List.getElem_cons_succ, List.getElem_cons_zero, Act.put, List.setIfInBounds_toArray, List.set_cons_zero, List.set_cons_succ]
                    refine wpAnyH_take (i := 3) (v := .pointer (some ⟨Fb, 2, none⟩)) rfl (by kernel_rfl) (by kernel_rfl) (by kernel_rfl) (fun _ _ _ h => h) (Or.inl ⟨by rfl, ?_⟩) hS0 ?_
                    · intro w' hSw
                      obtain ⟨s0, s1, s2, s3⟩ := hSw
                      go_simp
                    simp only [List.getElem_toArray, List.getElem_cons_succ, List.getElem_cons_zero, Act.put, List.setIfInBounds_toArray, List.set_cons_zero, List.set_cons_succ]
                    refine wpAnyH_take (i := 4) (v := .int .i64 f.to) rfl (by kernel_rfl) (by kernel_rfl) (by kernel_rfl) (fun _ _ _ h => h) (Or.inl ⟨by rfl, ?_⟩) hS0 ?_
                    · intro w' hSw
                      obtain ⟨s0, s1, s2, s3⟩ := hSw
                      go_simp
                    simp only [List.getElem_toArray, List.getElem_cons_succ, List.getElem_cons_zero, Act.put, List.setIfInBounds_toArray, List.set_cons_zero, List.set_cons_succ]
                    refine wpAnyH_take (i := 5) (v := .int .i64 (N : Int)) rfl (by kernel_rfl) (by kernel_rfl) (by kernel_rfl) (fun _ _ _ h => h) (Or.inl ⟨by rfl, ?_⟩) hS0 ?_
                    · intro w' hSw
                      obtain ⟨s0, s1, s2, s3⟩ := hSw
                      go_simp
                    simp only [List.getElem_toArray, List.getElem_cons_succ, List.getElem_cons_zero, Act.put, List.setIfInBounds_toArray, List.set_cons_zero, List.set_cons_succ]
                    refine wpAnyH_take (i := 7) (v := .pointer (some ⟨Fb, 3, none⟩)) rfl (by kernel_rfl) (by kernel_rfl) (by kernel_rfl) (fun _ _ _ h => h) (Or.inl ⟨by rfl, ?_⟩) hS0 ?_
                    · intro w' hSw
                      obtain ⟨s0, s1, s2, s3⟩ := hSw
                      go_simp
                    simp only [List.getElem_toArray, List.getElem_cons_succ, List.getElem_cons_zero, Act.put, List.setIfInBounds_toArray, List.set_cons_zero, List.set_cons_succ]
                    refine wpAnyH_take (i := 8) (v := .bool true) rfl (by kernel_rfl) (by kernel_rfl) (by kernel_rfl) (fun _ _ _ h => h) (Or.inl ⟨by rfl, ?_⟩) hS0 ?_
                    · intro w' hSw
                      obtain ⟨s0, s1, s2, s3⟩ := hSw
                      go_simp
                    simp only [List.getElem_toArray, List.getElem_cons_succ, List.getElem_cons_zero, Act.put, List.setIfInBounds_toArray, List.set_cons_zero, List.set_cons_succ]
                    refine wpAnyH_ready (rs := [1, 6]) (by kernel_rfl) (by simp) (AllReadyH.cons rfl (fun K hK => ?_) (AllReadyH.cons rfl (fun K hK => ?_) AllReadyH.nil))
                    · go_simp
                      refine hK.out _ _ HS.out (fun hS0 => ?_)
                      clear hK K
                      refine wpAnyH_ready (rs := [6]) (by kernel_rfl) (by simp) (AllReadyH.cons rfl (fun K hK => ?_) AllReadyH.nil)
                      go_simp
                      (with_reducible refine (HJ.out _).mono ?_)
                      rintro e w' ⟨rfl, rfl⟩
                      refine hK.out _ _ HS.out (fun hS0 => ?_)
                      clear hK K
                      refine wpAnyH_take (i := 9) (v := .bool true) rfl (by kernel_rfl) (by kernel_rfl) (by kernel_rfl) (fun _ _ _ h => h) (Or.inl ⟨by rfl, ?_⟩) hS0 ?_
                      · intro w' hSw
                        obtain ⟨s0, s1, s2, s3⟩ := hSw
                        go_simp
                      simp only [List.getElem_toArray, List.getElem_cons_succ, List.getElem_cons_zero, Act.put, List.setIfInBounds_toArray, List.set_cons_zero, List.set_cons_succ]
                      refine wpAnyH_take (i := 10) (v := .pointer (some ⟨M, 0, none⟩)) rfl (by kernel_rfl) (by kernel_rfl) (by kernel_rfl) (fun _ _ _ h => h) (Or.inl ⟨by rfl, ?_⟩) hS0 ?_
                      · intro w' hSw
                        obtain ⟨s0, s1, s2, s3⟩ := hSw
                        go_simp
                      simp only [List.getElem_toArray, List.getElem_cons_succ, List.getElem_cons_zero, Act.put, List.setIfInBounds_toArray, List.set_cons_zero, List.set_cons_succ]
                      refine wpAnyH_take (i := 11) (v := .bool m.all) rfl (by kernel_rfl) (by kernel_rfl) (by kernel_rfl) (fun _ _ _ h => h) (Or.inl ⟨by rfl, ?_⟩) hS0 ?_
                      · intro w' hSw
                        obtain ⟨s0, s1, s2, s3⟩ := hSw
                        go_simp
                      simp only [List.getElem_toArray, List.getElem_cons_succ, List.getElem_cons_zero, Act.put, List.setIfInBounds_toArray, List.set_cons_zero, List.set_cons_succ]
                      refine wpAnyH_take (i := 12) (v := .bool (!m.all)) rfl (by kernel_rfl) (by kernel_rfl) (by kernel_rfl) (fun _ _ _ h => h) (Or.inl ⟨by rfl, ?_⟩) hS0 ?_
                      · intro w' hSw
                        obtain ⟨s0, s1, s2, s3⟩ := hSw
                        go_simp
                      simp only [List.getElem_toArray, List.getElem_cons_succ, List.getElem_cons_zero, Act.put, List.setIfInBounds_toArray, List.set_cons_zero, List.set_cons_succ]
                      refine wpAnyH_take (i := 13) (v := .bool (!m.all)) rfl (by kernel_rfl) (by kernel_rfl) (by kernel_rfl) (fun _ _ _ h => h) (Or.inl ⟨by rfl, ?_⟩) hS0 ?_
                      · intro w' hSw
                        obtain ⟨s0, s1, s2, s3⟩ := hSw
                        go_simp
                      simp only [List.getElem_toArray, List.getElem_cons_succ, List.getElem_cons_zero, Act.put, List.setIfInBounds_toArray, List.set_cons_zero, List.set_cons_succ]
                      refine wpAnyH_take (i := 14) (v := .agg #[.bool m.all, .slice A6 m.l.length c6, .int .i64 (j2 : Int), .bool (!m.all)]) rfl (by kernel_rfl) (by kernel_rfl) (by kernel_rfl) (fun _ _ _ h => h) (Or.inl ⟨by rfl, ?_⟩) hS0 ?_
                      · intro w' hSw
                        obtain ⟨s0, s1, s2, s3⟩ := hSw
                        go_simp
                      simp only [List.getElem_toArray, List.getElem_cons_succ, List.getElem_cons_zero, Act.put, List.setIfInBounds_toArray, List.set_cons_zero, List.set_cons_succ]
                      refine wpAnyH_ready (rs := [15]) (by kernel_rfl) (by simp) (AllReadyH.cons rfl (fun K hK => ?_) AllReadyH.nil)
                      go_simp
                      refine hK.out _ _ HSa.out (fun hS0 => ?_)
                      clear hK K
                      refine wpAnyH_ready (rs := [16]) (by kernel_rfl) (by simp) (AllReadyH.cons rfl (fun K hK => ?_) AllReadyH.nil)
                      refine step_append_rowK rfl (.tmp 59) (.tmp 73) _ _ rfl elem_field rfl rfl HF3.out.row HSr.out hj46 HF3.out.le.2.1 NoS HF3.out.kin HF3.out.fs.kinds (by intro u hu; simp at hu; rcases hu with rfl | rfl | rfl | rfl <;> exact fun s h => by cases h) zero_field ?_
                      intro A4 c4 w9 ho9 hg9 hat9 hk9
                      have hp := HF3.out.push (f := ⟨m, (j2 : Int), (!m.all)⟩) HI3.out Hnc6.out (Nat.zero_le _) ho9 hg9 hk9
                      obtain ⟨q3, q4, q5⟩ := box3 hp.1
                      have hf9 : w9.frozen? ⟨wo.heap.size, 0, none⟩ = false := by simp [World.frozen?, hp.1]
                      have hS9 : w9.cell? ⟨M, 0, none⟩ = some (.bool m.all) ∧ w9.cell? ⟨M, 1, none⟩ = some (.slice A6 m.l.length c6) ∧ w9.cell? ⟨Fb, 2, none⟩ = some (.int .i64 f.to) ∧ w9.cell? ⟨Fb, 3, none⟩ = some (.bool true) :=
                        ⟨hg9.cell HSa.out.1 (fun e => by have := Hown.out _ e.symm; simp only at this; omega), hg9.cell HSa.out.2.1 (fun e => by have := Hown.out _ e.symm; simp only at this; omega), hg9.cell HSa.out.2.2.1 (fun e => by have := Hown.out _ e.symm; simp only at this; omega), hg9.cell HSa.out.2.2.2 (fun e => by have := Hown.out _ e.symm; simp only at this; omega)⟩
                      have hL9 := left_push HF3.out hg9 HL3.out HI3L.out (by omega) (.slice A4 (j + 1) c4)
                      have HL9 := Lib.hid hL9
                      have HP := Lib.hid hp.2
                      clear hp ho9 hg9 hat9 hk9 hL9
                      refine hK.out _ _ hS9 (fun hS0 => ?_)
                      clear hK K
                      refine wpAnyH_take (i := 17) (v := .pointer (some ⟨wo.heap.size, 0, none⟩)) rfl (by kernel_rfl) (by kernel_rfl) (by kernel_rfl) (fun _ _ _ h => h) (Or.inl ⟨by rfl, ?_⟩) hS0 ?_
                      · intro w' hSw
                        obtain ⟨s0, s1, s2, s3⟩ := hSw
                        go_simp
                      simp only [List.getElem_toArray, List.getElem_cons_succ, List.getElem_cons_zero, Act.put, List.setIfInBounds_toArray, List.set_cons_zero, List.set_cons_succ]
                      refine wpAnyH_ready (rs := [18]) (by kernel_rfl) (by simp) (AllReadyH.cons rfl (fun K hK => ?_) AllReadyH.nil)
                      go_simp
                      refine hK.out _ _ ⟨(World.cell?_setCell_far _ _ _ _ (by simp only [ne_eq]; omega)).trans hS9.1, (World.cell?_setCell_far _ _ _ _ (by simp only [ne_eq]; omega)).trans hS9.2.1, (World.cell?_setCell_far _ _ _ _ (by simp only [ne_eq]; omega)).trans hS9.2.2.1, (World.cell?_setCell_far _ _ _ _ (by simp only [ne_eq]; omega)).trans hS9.2.2.2⟩ (fun hS0 => ?_)
                      clear hK K hS9
                      refine wpAnyH_done (by kernel_rfl) ?_ _
                      refine NoPanic.normal ?_
                      go_wp2_with fail
                      go_roundw
                      case rel => exact ⟨j + 1, A4, c4, _, _, L2', AL2, nL2, cL2, by omega, by go_num, HP.out, HL9.out.1, HL9.out.2, HbL2', Lib.hid (by
                        intro g hg
                        rcases List.mem_append.1 hg with e | e
                        · exact Hfs.out g e
                        · rw [List.mem_singleton] at e
                          subst e
                          have := Hml.out
                          have := bd_le j
                          simp only
                          omega)⟩
                      case measure => simp [intOf]; omega
                    · go_simp
                      (with_reducible refine (HJ.out _).mono ?_)
                      rintro e w' ⟨rfl, rfl⟩
                      refine hK.out _ _ HS.out (fun hS0 => ?_)
                      clear hK K
                      refine wpAnyH_take (i := 9) (v := .bool true) rfl (by kernel_rfl) (by kernel_rfl) (by kernel_rfl) (fun _ _ _ h => h) (Or.inl ⟨by rfl, ?_⟩) hS0 ?_
                      · intro w' hSw
                        obtain ⟨s0, s1, s2, s3⟩ := hSw
                        go_simp
                      simp only [List.getElem_toArray, List.getElem_cons_succ, List.getElem_cons_zero, Act.put, List.setIfInBounds_toArray, List.set_cons_zero, List.set_cons_succ]
                      refine wpAnyH_take (i := 10) (v := .pointer (some ⟨M, 0, none⟩)) rfl (by kernel_rfl) (by kernel_rfl) (by kernel_rfl) (fun _ _ _ h => h) (Or.inl ⟨by rfl, ?_⟩) hS0 ?_
                      · intro w' hSw
                        obtain ⟨s0, s1, s2, s3⟩ := hSw
                        go_simp
                      simp only [List.getElem_toArray, List.getElem_cons_succ, List.getElem_cons_zero, Act.put, List.setIfInBounds_toArray, List.set_cons_zero, List.set_cons_succ]
                      refine wpAnyH_take (i := 11) (v := .bool m.all) rfl (by kernel_rfl) (by kernel_rfl) (by kernel_rfl) (fun _ _ _ h => h) (Or.inl ⟨by rfl, ?_⟩) hS0 ?_
                      · intro w' hSw
                        obtain ⟨s0, s1, s2, s3⟩ := hSw
                        go_simp
                      simp only [List.getElem_toArray, List.getElem_cons_succ, List.getElem_cons_zero, Act.put, List.setIfInBounds_toArray, List.set_cons_zero, List.set_cons_succ]
                      refine wpAnyH_take (i := 12) (v := .bool (!m.all)) rfl (by kernel_rfl) (by kernel_rfl) (by kernel_rfl) (fun _ _ _ h => h) (Or.inl ⟨by rfl, ?_⟩) hS0 ?_
                      · intro w' hSw
                        obtain ⟨s0, s1, s2, s3⟩ := hSw
                        go_simp
                      simp only [List.getElem_toArray, List.getElem_cons_succ, List.getElem_cons_zero, Act.put, List.setIfInBounds_toArray, List.set_cons_zero, List.set_cons_succ]
                      refine wpAnyH_take (i := 13) (v := .bool (!m.all)) rfl (by kernel_rfl) (by kernel_rfl) (by kernel_rfl) (fun _ _ _ h => h) (Or.inl ⟨by rfl, ?_⟩) hS0 ?_
                      · intro w' hSw
                        obtain ⟨s0, s1, s2, s3⟩ := hSw
                        go_simp
                      simp only [List.getElem_toArray, List.getElem_cons_succ, List.getElem_cons_zero, Act.put, List.setIfInBounds_toArray, List.set_cons_zero, List.set_cons_succ]
                      refine wpAnyH_take (i := 14) (v := .agg #[.bool m.all, .slice A6 m.l.length c6, .int .i64 (j2 : Int), .bool (!m.all)]) rfl (by kernel_rfl) (by kernel_rfl) (by kernel_rfl) (fun _ _ _ h => h) (Or.inl ⟨by rfl, ?_⟩) hS0 ?_
                      · intro w' hSw
                        obtain ⟨s0, s1, s2, s3⟩ := hSw
                        go_simp
                      simp only [List.getElem_toArray, List.getElem_cons_succ, List.getElem_cons_zero, Act.put, List.setIfInBounds_toArray, List.set_cons_zero, List.set_cons_succ]
                      refine wpAnyH_ready (rs := [1, 15]) (by kernel_rfl) (by simp) (AllReadyH.cons rfl (fun K hK => ?_) (AllReadyH.cons rfl (fun K hK => ?_) AllReadyH.nil))
                      · go_simp
                        refine hK.out _ _ HS.out (fun hS0 => ?_)
                        clear hK K
                        refine wpAnyH_ready (rs := [15]) (by kernel_rfl) (by simp) (AllReadyH.cons rfl (fun K hK => ?_) AllReadyH.nil)
                        go_simp
                        refine hK.out _ _ HSa.out (fun hS0 => ?_)
                        clear hK K
                        refine wpAnyH_ready (rs := [16]) (by kernel_rfl) (by simp) (AllReadyH.cons rfl (fun K hK => ?_) AllReadyH.nil)
                        refine step_append_rowK rfl (.tmp 59) (.tmp 73) _ _ rfl elem_field rfl rfl HF3.out.row HSr.out hj46 HF3.out.le.2.1 NoS HF3.out.kin HF3.out.fs.kinds (by intro u hu; simp at hu; rcases hu with rfl | rfl | rfl | rfl <;> exact fun s h => by cases h) zero_field ?_
                        intro A4 c4 w9 ho9 hg9 hat9 hk9
                        have hp := HF3.out.push (f := ⟨m, (j2 : Int), (!m.all)⟩) HI3.out Hnc6.out (Nat.zero_le _) ho9 hg9 hk9
                        obtain ⟨q3, q4, q5⟩ := box3 hp.1
                        have hf9 : w9.frozen? ⟨wo.heap.size, 0, none⟩ = false := by simp [World.frozen?, hp.1]
                        have hS9 : w9.cell? ⟨M, 0, none⟩ = some (.bool m.all) ∧ w9.cell? ⟨M, 1, none⟩ = some (.slice A6 m.l.length c6) ∧ w9.cell? ⟨Fb, 2, none⟩ = some (.int .i64 f.to) ∧ w9.cell? ⟨Fb, 3, none⟩ = some (.bool true) :=
                          ⟨hg9.cell HSa.out.1 (fun e => by have := Hown.out _ e.symm; simp only at this; omega), hg9.cell HSa.out.2.1 (fun e => by have := Hown.out _ e.symm; simp only at this; omega), hg9.cell HSa.out.2.2.1 (fun e => by have := Hown.out _ e.symm; simp only at this; omega), hg9.cell HSa.out.2.2.2 (fun e => by have := Hown.out _ e.symm; simp only at this; omega)⟩
                        have hL9 := left_push HF3.out hg9 HL3.out HI3L.out (by omega) (.slice A4 (j + 1) c4)
                        have HL9 := Lib.hid hL9
                        have HP := Lib.hid hp.2
                        clear hp ho9 hg9 hat9 hk9 hL9
                        refine hK.out _ _ hS9 (fun hS0 => ?_)
                        clear hK K
                        refine wpAnyH_take (i := 17) (v := .pointer (some ⟨wo.heap.size, 0, none⟩)) rfl (by kernel_rfl) (by kernel_rfl) (by kernel_rfl) (fun _ _ _ h => h) (Or.inl ⟨by rfl, ?_⟩) hS0 ?_
                        · intro w' hSw
                          obtain ⟨s0, s1, s2, s3⟩ := hSw
                          go_simp
                        simp only [List.getElem_toArray, List.getElem_cons_succ, List.getElem_cons_zero, Act.put, List.setIfInBounds_toArray, List.set_cons_zero, List.set_cons_succ]
                        refine wpAnyH_ready (rs := [18]) (by kernel_rfl) (by simp) (AllReadyH.cons rfl (fun K hK => ?_) AllReadyH.nil)
                        go_simp
                        refine hK.out _ _ ⟨(World.cell?_setCell_far _ _ _ _ (by simp only [ne_eq]; omega)).trans hS9.1, (World.cell?_setCell_far _ _ _ _ (by simp only [ne_eq]; omega)).trans hS9.2.1, (World.cell?_setCell_far _ _ _ _ (by simp only [ne_eq]; omega)).trans hS9.2.2.1, (World.cell?_setCell_far _ _ _ _ (by simp only [ne_eq]; omega)).trans hS9.2.2.2⟩ (fun hS0 => ?_)
                        clear hK K hS9
                        refine wpAnyH_done (by kernel_rfl) ?_ _
                        refine NoPanic.normal ?_
                        go_wp2_with fail
                        go_roundw
                        case rel => exact ⟨j + 1, A4, c4, _, _, L2', AL2, nL2, cL2, by omega, by go_num, HP.out, HL9.out.1, HL9.out.2, HbL2', Lib.hid (by
                          intro g hg
                          rcases List.mem_append.1 hg with e | e
                          · exact Hfs.out g e
                          · rw [List.mem_singleton] at e
                            subst e
                            have := Hml.out
                            have := bd_le j
                            simp only
                            omega)⟩
                        case measure => simp [intOf]; omega
                      · go_simp
                        refine hK.out _ _ HSa.out (fun hS0 => ?_)
                        clear hK K
                        refine wpAnyH_ready (rs := [1]) (by kernel_rfl) (by simp) (AllReadyH.cons rfl (fun K hK => ?_) AllReadyH.nil)
                        go_simp
                        refine hK.out _ _ HSa.out (fun hS0 => ?_)
                        clear hK K
                        refine wpAnyH_ready (rs := [16]) (by kernel_rfl) (by simp) (AllReadyH.cons rfl (fun K hK => ?_) AllReadyH.nil)
                        refine step_append_rowK rfl (.tmp 59) (.tmp 73) _ _ rfl elem_field rfl rfl HF3.out.row HSr.out hj46 HF3.out.le.2.1 NoS HF3.out.kin HF3.out.fs.kinds (by intro u hu; simp at hu; rcases hu with rfl | rfl | rfl | rfl <;> exact fun s h => by cases h) zero_field ?_
                        intro A4 c4 w9 ho9 hg9 hat9 hk9
                        have hp := HF3.out.push (f := ⟨m, (j2 : Int), (!m.all)⟩) HI3.out Hnc6.out (Nat.zero_le _) ho9 hg9 hk9
                        obtain ⟨q3, q4, q5⟩ := box3 hp.1
                        have hf9 : w9.frozen? ⟨wo.heap.size, 0, none⟩ = false := by simp [World.frozen?, hp.1]
                        have hS9 : w9.cell? ⟨M, 0, none⟩ = some (.bool m.all) ∧ w9.cell? ⟨M, 1, none⟩ = some (.slice A6 m.l.length c6) ∧ w9.cell? ⟨Fb, 2, none⟩ = some (.int .i64 f.to) ∧ w9.cell? ⟨Fb, 3, none⟩ = some (.bool true) :=
                          ⟨hg9.cell HSa.out.1 (fun e => by have := Hown.out _ e.symm; simp only at this; omega), hg9.cell HSa.out.2.1 (fun e => by have := Hown.out _ e.symm; simp only at this; omega), hg9.cell HSa.out.2.2.1 (fun e => by have := Hown.out _ e.symm; simp only at this; omega), hg9.cell HSa.out.2.2.2 (fun e => by have := Hown.out _ e.symm; simp only at this; omega)⟩
                        have hL9 := left_push HF3.out hg9 HL3.out HI3L.out (by omega) (.slice A4 (j + 1) c4)
                        have HL9 := Lib.hid hL9
                        have HP := Lib.hid hp.2
                        clear hp ho9 hg9 hat9 hk9 hL9
                        refine hK.out _ _ hS9 (fun hS0 => ?_)
                        clear hK K
                        refine wpAnyH_take (i := 17) (v := .pointer (some ⟨wo.heap.size, 0, none⟩)) rfl (by kernel_rfl) (by kernel_rfl) (by kernel_rfl) (fun _ _ _ h => h) (Or.inl ⟨by rfl, ?_⟩) hS0 ?_
                        · intro w' hSw
                          obtain ⟨s0, s1, s2, s3⟩ := hSw
                          go_simp
                        simp only [List.getElem_toArray, List.getElem_cons_succ, List.getElem_cons_zero, Act.put, List.setIfInBounds_toArray, List.set_cons_zero, List.set_cons_succ]
                        refine wpAnyH_ready (rs := [18]) (by kernel_rfl) (by simp) (AllReadyH.cons rfl (fun K hK => ?_) AllReadyH.nil)
                        go_simp
                        refine hK.out _ _ ⟨(World.cell?_setCell_far _ _ _ _ (by simp only [ne_eq]; omega)).trans hS9.1, (World.cell?_setCell_far _ _ _ _ (by simp only [ne_eq]; omega)).trans hS9.2.1, (World.cell?_setCell_far _ _ _ _ (by simp only [ne_eq]; omega)).trans hS9.2.2.1, (World.cell?_setCell_far _ _ _ _ (by simp only [ne_eq]; omega)).trans hS9.2.2.2⟩ (fun hS0 => ?_)
                        clear hK K hS9
                        refine wpAnyH_done (by kernel_rfl) ?_ _
                        refine NoPanic.normal ?_
                        go_wp2_with fail
                        go_roundw
                        case rel => exact ⟨j + 1, A4, c4, _, _, L2', AL2, nL2, cL2, by omega, by go_num, HP.out, HL9.out.1, HL9.out.2, HbL2', Lib.hid (by
                          intro g hg
                          rcases List.mem_append.1 hg with e | e
                          · exact Hfs.out g e
                          · rw [List.mem_singleton] at e
                            subst e
                            have := Hml.out
                            have := bd_le j
                            simp only
                            omega)⟩
                        case measure => simp [intOf]; omega
                  | false =>
                    have HS : Hid (w8.drew.cell? ⟨M, 0, none⟩ = some (.bool m.all) ∧ w8.drew.cell? ⟨M, 1, none⟩ = some (.slice A6 m.l.length c6) ∧ w8.drew.cell? ⟨Fb, 2, none⟩ = some (.int .i64 f.to) ∧ w8.drew.cell? ⟨Fb, 3, none⟩ = some (.bool false)) := Lib.hid ⟨m0, m1, f2, f3⟩
                    have HSa : Hid ((w8.alloc (Obj.cells #[Value.bool m.all, Value.slice A6 m.l.length c6, Value.int .i64 (j2 : Int), Value.bool false] 83)).drew.cell? ⟨M, 0, none⟩ = some (.bool m.all) ∧ (w8.alloc (Obj.cells #[Value.bool m.all, Value.slice A6 m.l.length c6, Value.int .i64 (j2 : Int), Value.bool false] 83)).drew.cell? ⟨M, 1, none⟩ = some (.slice A6 m.l.length c6) ∧ (w8.alloc (Obj.cells #[Value.bool m.all, Value.slice A6 m.l.length c6, Value.int .i64 (j2 : Int), Value.bool false] 83)).drew.cell? ⟨Fb, 2, none⟩ = some (.int .i64 f.to) ∧ (w8.alloc (Obj.cells #[Value.bool m.all, Value.slice A6 m.l.length c6, Value.int .i64 (j2 : Int), Value.bool false] 83)).drew.cell? ⟨Fb, 3, none⟩ = some (.bool false)) := Lib.hid ⟨(World.cell?_alloc_lt _ _ ⟨M, 0, none⟩ hMl).trans m0, (World.cell?_alloc_lt _ _ ⟨M, 1, none⟩ hMl).trans m1, (World.cell?_alloc_lt _ _ ⟨Fb, 2, none⟩ hFl).trans f2, (World.cell?_alloc_lt _ _ ⟨Fb, 3, none⟩ hFl).trans f3⟩
                    have hba : Below w8.heap.size w8 (w8.alloc (Obj.cells #[Value.bool m.all, Value.slice A6 m.l.length c6, Value.int .i64 (j2 : Int), Value.bool false] 83)).drew := ((Below.refl _ _).alloc (Nat.le_refl _) _).drew
                    have HF3 := Lib.hid (HF8.out.below hba)
                    have HI3 : Hid (SeesV (w8.alloc (Obj.cells #[Value.bool m.all, Value.slice A6 m.l.length c6, Value.int .i64 (j2 : Int), Value.bool false] 83)).drew (w8.alloc (Obj.cells #[Value.bool m.all, Value.slice A6 m.l.length c6, Value.int .i64 (j2 : Int), Value.bool false] 83)).drew.heap.size A6 m.l.length (m.l.map encs)) := Lib.hid (SeesV.more hba.size (Him.out.sees.below hba))
                    have HL3 := Lib.hid (Below.box hba HLb.out)
                    have HI3L := Lib.hid (HIL.out.below hba)
                    have HSr : Hid (Src Try.prog 4 78 (.slice (some ⟨w8.heap.size, 0, none⟩) 1 1) 1 [.bool m.all, .slice A6 m.l.length c6, .int .i64 (j2 : Int), .bool false] (w8.alloc (Obj.cells #[Value.bool m.all, Value.slice A6 m.l.length c6, Value.int .i64 (j2 : Int), Value.bool false] 83)).drew) := Lib.hid (src_blockD w8 _ _ _ Try.underlying78 4 _ _ rfl rfl (by simp [Value.oneCell']))
                    have hj46 : j + 1 ≤ 1099511627776 := by omega
                    clear hba
                    go_wp2_with fail
                    refine wp_region_noPanic (wp_region_held_drew (S := fun W => W.cell? ⟨M, 0, none⟩ = some (.bool m.all) ∧ W.cell? ⟨M, 1, none⟩ = some (.slice A6 m.l.length c6) ∧ W.cell? ⟨Fb, 2, none⟩ = some (.int .i64 f.to) ∧ W.cell? ⟨Fb, 3, none⟩ = some (.bool false)) (by kernel_rfl) HS.out (fun hS0 => ?_))
                    refine wpAnyH_take (i := 0) (v := .pointer (some ⟨wo.heap.size, 0, none⟩)) rfl (by kernel_rfl) (by kernel_rfl) (by kernel_rfl) (fun _ _ _ h => h) (Or.inl ⟨by rfl, ?_⟩) hS0 ?_
                    · intro w' hSw
                      obtain ⟨s0, s1, s2, s3⟩ := hSw
                      go_simp
                    simp only [List.getElem_toArray, List.getElem_cons_zero, Act.put, List.setIfInBounds_toArray, List.set_cons_zero, List.set_cons_succ]
                    refine wpAnyH_take (i := 2) (v := .agg #[.bool m.all, .slice A6 m.l.length c6]) rfl (by kernel_rfl) (by kernel_rfl) (by kernel_rfl) (fun _ _ _ h => h) (Or.inl ⟨by rfl, ?_⟩) hS0 ?_
                    · intro w' hSw
                      obtain ⟨s0, s1, s2, s3⟩ := hSw
                      go_simp
                    simp only [List.getElem_toArray, List.getElem_cons_succ, List.getElem_cons_zero, Act.put, List.setIfInBounds_toArray, List.set_cons_zero, List.set_cons_succ]
                    refine wpAnyH_take (i := 3) (v := .pointer (some ⟨Fb, 2, none⟩)) rfl (by kernel_rfl) (by kernel_rfl) (by kernel_rfl) (fun _ _ _ h => h) (Or.inl ⟨by rfl, ?_⟩) hS0 ?_
                    · intro w' hSw
                      obtain ⟨s0, s1, s2, s3⟩ := hSw
                      go_simp
                    simp only [List.getElem_toArray, List.getElem_cons_succ, List.getElem_cons_zero, Act.put, List.setIfInBounds_toArray, List.set_cons_zero, List.set_cons_succ]
                    refine wpAnyH_take (i := 4) (v := .int .i64 f.to) rfl (by kernel_rfl) (by kernel_rfl) (by kernel_rfl) (fun _ _ _ h => h) (Or.inl ⟨by rfl, ?_⟩) hS0 ?_
                    · intro w' hSw
                      obtain ⟨s0, s1, s2, s3⟩ := hSw
                      go_simp
                    simp only [List.getElem_toArray, List.getElem_cons_succ, List.getElem_cons_zero, Act.put, List.setIfInBounds_toArray, List.set_cons_zero, List.set_cons_succ]
                    refine wpAnyH_take (i := 5) (v := .int .i64 (N : Int)) rfl (by kernel_rfl) (by kernel_rfl) (by kernel_rfl) (fun _ _ _ h => h) (Or.inl ⟨by rfl, ?_⟩) hS0 ?_
                    · intro w' hSw
                      obtain ⟨s0, s1, s2, s3⟩ := hSw
                      go_simp
                    simp only [List.getElem_toArray, List.getElem_cons_succ, List.getElem_cons_zero, Act.put, List.setIfInBounds_toArray, List.set_cons_zero, List.set_cons_succ]
                    refine wpAnyH_take (i := 7) (v := .pointer (some ⟨Fb, 3, none⟩)) rfl (by kernel_rfl) (by kernel_rfl) (by kernel_rfl) (fun _ _ _ h => h) (Or.inl ⟨by rfl, ?_⟩) hS0 ?_
                    · intro w' hSw
                      obtain ⟨s0, s1, s2, s3⟩ := hSw
                      go_simp
                    simp only [List.getElem_toArray, List.getElem_cons_succ, List.getElem_cons_zero, Act.put, List.setIfInBounds_toArray, List.set_cons_zero, List.set_cons_succ]
                    refine wpAnyH_take (i := 8) (v := .bool false) rfl (by kernel_rfl) (by kernel_rfl) (by kernel_rfl) (fun _ _ _ h => h) (Or.inl ⟨by rfl, ?_⟩) hS0 ?_
                    · intro w' hSw
                      obtain ⟨s0, s1, s2, s3⟩ := hSw
                      go_simp
                    simp only [List.getElem_toArray, List.getElem_cons_succ, List.getElem_cons_zero, Act.put, List.setIfInBounds_toArray, List.set_cons_zero, List.set_cons_succ]
                    refine wpAnyH_ready (rs := [1, 6]) (by kernel_rfl) (by simp) (AllReadyH.cons rfl (fun K hK => ?_) (AllReadyH.cons rfl (fun K hK => ?_) AllReadyH.nil))
                    · go_simp
                      refine hK.out _ _ HS.out (fun hS0 => ?_)
                      clear hK K
                      refine wpAnyH_ready (rs := [6]) (by kernel_rfl) (by simp) (AllReadyH.cons rfl (fun K hK => ?_) AllReadyH.nil)
                      go_simp
                      (with_reducible refine (HJ.out _).mono ?_)
                      rintro e w' ⟨rfl, rfl⟩
                      refine hK.out _ _ HS.out (fun hS0 => ?_)
                      clear hK K
                      refine wpAnyH_take (i := 9) (v := .bool false) rfl (by kernel_rfl) (by kernel_rfl) (by kernel_rfl) (fun _ _ _ h => h) (Or.inl ⟨by rfl, ?_⟩) hS0 ?_
                      · intro w' hSw
                        obtain ⟨s0, s1, s2, s3⟩ := hSw
                        go_simp
                      simp only [List.getElem_toArray, List.getElem_cons_succ, List.getElem_cons_zero, Act.put, List.setIfInBounds_toArray, List.set_cons_zero, List.set_cons_succ]
                      refine wpAnyH_take (i := 10) (v := undef) rfl (by kernel_rfl) (by kernel_rfl) (by kernel_rfl) (fun _ _ _ h => h) (Or.inr ⟨by rfl, rfl⟩) hS0 ?_
                      simp only [List.getElem_toArray, List.getElem_cons_succ, List.getElem_cons_zero, Act.put, List.setIfInBounds_toArray, List.set_cons_zero, List.set_cons_succ]
                      refine wpAnyH_take (i := 11) (v := undef) rfl (by kernel_rfl) (by kernel_rfl) (by kernel_rfl) (fun _ _ _ h => h) (Or.inr ⟨by rfl, rfl⟩) hS0 ?_
                      simp only [List.getElem_toArray, List.getElem_cons_succ, List.getElem_cons_zero, Act.put, List.setIfInBounds_toArray, List.set_cons_zero, List.set_cons_succ]
                      refine wpAnyH_take (i := 12) (v := undef) rfl (by kernel_rfl) (by kernel_rfl) (by kernel_rfl) (fun _ _ _ h => h) (Or.inr ⟨by rfl, rfl⟩) hS0 ?_
                      simp only [List.getElem_toArray, List.getElem_cons_succ, List.getElem_cons_zero, Act.put, List.setIfInBounds_toArray, List.set_cons_zero, List.set_cons_succ]
                      refine wpAnyH_take (i := 13) (v := .bool false) rfl (by kernel_rfl) (by kernel_rfl) (by kernel_rfl) (fun _ _ _ h => h) (Or.inl ⟨by rfl, ?_⟩) hS0 ?_
                      · intro w' hSw
                        obtain ⟨s0, s1, s2, s3⟩ := hSw
                        go_simp
                      simp only [List.getElem_toArray, List.getElem_cons_succ, List.getElem_cons_zero, Act.put, List.setIfInBounds_toArray, List.set_cons_zero, List.set_cons_succ]
                      refine wpAnyH_take (i := 14) (v := .agg #[.bool m.all, .slice A6 m.l.length c6, .int .i64 (j2 : Int), .bool false]) rfl (by kernel_rfl) (by kernel_rfl) (by kernel_rfl) (fun _ _ _ h => h) (Or.inl ⟨by rfl, ?_⟩) hS0 ?_
                      · intro w' hSw
                        obtain ⟨s0, s1, s2, s3⟩ := hSw
                        go_simp
                      simp only [List.getElem_toArray, List.getElem_cons_succ, List.getElem_cons_zero, Act.put, List.setIfInBounds_toArray, List.set_cons_zero, List.set_cons_succ]
                      refine wpAnyH_ready (rs := [15]) (by kernel_rfl) (by simp) (AllReadyH.cons rfl (fun K hK => ?_) AllReadyH.nil)
                      go_simp
                      refine hK.out _ _ HSa.out (fun hS0 => ?_)
                      clear hK K
                      refine wpAnyH_ready (rs := [16]) (by kernel_rfl) (by simp) (AllReadyH.cons rfl (fun K hK => ?_) AllReadyH.nil)
                      refine step_append_rowK rfl (.tmp 59) (.tmp 73) _ _ rfl elem_field rfl rfl HF3.out.row HSr.out hj46 HF3.out.le.2.1 NoS HF3.out.kin HF3.out.fs.kinds (by intro u hu; simp at hu; rcases hu with rfl | rfl | rfl | rfl <;> exact fun s h => by cases h) zero_field ?_
                      intro A4 c4 w9 ho9 hg9 hat9 hk9
                      have hp := HF3.out.push (f := ⟨m, (j2 : Int), false⟩) HI3.out Hnc6.out (Nat.zero_le _) ho9 hg9 hk9
                      obtain ⟨q3, q4, q5⟩ := box3 hp.1
                      have hf9 : w9.frozen? ⟨wo.heap.size, 0, none⟩ = false := by simp [World.frozen?, hp.1]
                      have hS9 : w9.cell? ⟨M, 0, none⟩ = some (.bool m.all) ∧ w9.cell? ⟨M, 1, none⟩ = some (.slice A6 m.l.length c6) ∧ w9.cell? ⟨Fb, 2, none⟩ = some (.int .i64 f.to) ∧ w9.cell? ⟨Fb, 3, none⟩ = some (.bool false) :=
                        ⟨hg9.cell HSa.out.1 (fun e => by have := Hown.out _ e.symm; simp only at this; omega), hg9.cell HSa.out.2.1 (fun e => by have := Hown.out _ e.symm; simp only at this; omega), hg9.cell HSa.out.2.2.1 (fun e => by have := Hown.out _ e.symm; simp only at this; omega), hg9.cell HSa.out.2.2.2 (fun e => by have := Hown.out _ e.symm; simp only at this; omega)⟩
                      have hL9 := left_push HF3.out hg9 HL3.out HI3L.out (by omega) (.slice A4 (j + 1) c4)
                      have HL9 := Lib.hid hL9
                      have HP := Lib.hid hp.2
                      clear hp ho9 hg9 hat9 hk9 hL9
                      refine hK.out _ _ hS9 (fun hS0 => ?_)
                      clear hK K
                      refine wpAnyH_take (i := 17) (v := .pointer (some ⟨wo.heap.size, 0, none⟩)) rfl (by kernel_rfl) (by kernel_rfl) (by kernel_rfl) (fun _ _ _ h => h) (Or.inl ⟨by rfl, ?_⟩) hS0 ?_
                      · intro w' hSw
                        obtain ⟨s0, s1, s2, s3⟩ := hSw
                        go_simp
                      simp only [List.getElem_toArray, List.getElem_cons_succ, List.getElem_cons_zero, Act.put, List.setIfInBounds_toArray, List.set_cons_zero, List.set_cons_succ]
                      refine wpAnyH_ready (rs := [18]) (by kernel_rfl) (by simp) (AllReadyH.cons rfl (fun K hK => ?_) AllReadyH.nil)
                      go_simp
                      refine hK.out _ _ ⟨(World.cell?_setCell_far _ _ _ _ (by simp only [ne_eq]; omega)).trans hS9.1, (World.cell?_setCell_far _ _ _ _ (by simp only [ne_eq]; omega)).trans hS9.2.1, (World.cell?_setCell_far _ _ _ _ (by simp only [ne_eq]; omega)).trans hS9.2.2.1, (World.cell?_setCell_far _ _ _ _ (by simp only [ne_eq]; omega)).trans hS9.2.2.2⟩ (fun hS0 => ?_)
                      clear hK K hS9
                      refine wpAnyH_done (by kernel_rfl) ?_ _
                      refine NoPanic.normal ?_
                      go_wp2_with fail
                      go_roundw
                      case rel => exact ⟨j + 1, A4, c4, _, _, L2', AL2, nL2, cL2, by omega, by go_num, HP.out, HL9.out.1, HL9.out.2, HbL2', Lib.hid (by
                        intro g hg
                        rcases List.mem_append.1 hg with e | e
                        · exact Hfs.out g e
                        · rw [List.mem_singleton] at e
                          subst e
                          have := Hml.out
                          have := bd_le j
                          simp only
                          omega)⟩
                      case measure => simp [intOf]; omega
                    · go_simp
                      (with_reducible refine (HJ.out _).mono ?_)
                      rintro e w' ⟨rfl, rfl⟩
                      refine hK.out _ _ HS.out (fun hS0 => ?_)
                      clear hK K
                      refine wpAnyH_take (i := 9) (v := .bool false) rfl (by kernel_rfl) (by kernel_rfl) (by kernel_rfl) (fun _ _ _ h => h) (Or.inl ⟨by rfl, ?_⟩) hS0 ?_
                      · intro w' hSw
                        obtain ⟨s0, s1, s2, s3⟩ := hSw
                        go_simp
                      simp only [List.getElem_toArray, List.getElem_cons_succ, List.getElem_cons_zero, Act.put, List.setIfInBounds_toArray, List.set_cons_zero, List.set_cons_succ]
                      refine wpAnyH_take (i := 10) (v := undef) rfl (by kernel_rfl) (by kernel_rfl) (by kernel_rfl) (fun _ _ _ h => h) (Or.inr ⟨by rfl, rfl⟩) hS0 ?_
                      simp only [List.getElem_toArray, List.getElem_cons_succ, List.getElem_cons_zero, Act.put, List.setIfInBounds_toArray, List.set_cons_zero, List.set_cons_succ]
                      refine wpAnyH_take (i := 11) (v := undef) rfl (by kernel_rfl) (by kernel_rfl) (by kernel_rfl) (fun _ _ _ h => h) (Or.inr ⟨by rfl, rfl⟩) hS0 ?_
                      simp only [List.getElem_toArray, List.getElem_cons_succ, List.getElem_cons_zero, Act.put, List.setIfInBounds_toArray, List.set_cons_zero, List.set_cons_succ]
                      refine wpAnyH_take (i := 12) (v := undef) rfl (by kernel_rfl) (by kernel_rfl) (by kernel_rfl) (fun _ _ _ h => h) (Or.inr ⟨by rfl, rfl⟩) hS0 ?_
                      simp only [List.getElem_toArray, List.getElem_cons_succ, List.getElem_cons_zero, Act.put, List.setIfInBounds_toArray, List.set_cons_zero, List.set_cons_succ]
                      refine wpAnyH_take (i := 13) (v := .bool false) rfl (by kernel_rfl) (by kernel_rfl) (by kernel_rfl) (fun _ _ _ h => h) (Or.inl ⟨by rfl, ?_⟩) hS0 ?_
                      · intro w' hSw
                        obtain ⟨s0, s1, s2, s3⟩ := hSw
                        go_simp
                      simp only [List.getElem_toArray, List.getElem_cons_succ, List.getElem_cons_zero, Act.put, List.setIfInBounds_toArray, List.set_cons_zero, List.set_cons_succ]
                      refine wpAnyH_take (i := 14) (v := .agg #[.bool m.all, .slice A6 m.l.length c6, .int .i64 (j2 : Int), .bool false]) rfl (by kernel_rfl) (by kernel_rfl) (by kernel_rfl) (fun _ _ _ h => h) (Or.inl ⟨by rfl, ?_⟩) hS0 ?_
                      · intro w' hSw
                        obtain ⟨s0, s1, s2, s3⟩ := hSw
                        go_simp
                      simp only [List.getElem_toArray, List.getElem_cons_succ, List.getElem_cons_zero, Act.put, List.setIfInBounds_toArray, List.set_cons_zero, List.set_cons_succ]
                      refine wpAnyH_ready (rs := [1, 15]) (by kernel_rfl) (by simp) (AllReadyH.cons rfl (fun K hK => ?_) (AllReadyH.cons rfl (fun K hK => ?_) AllReadyH.nil))
                      · go_simp
                        refine hK.out _ _ HS.out (fun hS0 => ?_)
                        clear hK K
                        refine wpAnyH_ready (rs := [15]) (by kernel_rfl) (by simp) (AllReadyH.cons rfl (fun K hK => ?_) AllReadyH.nil)
                        go_simp
                        refine hK.out _ _ HSa.out (fun hS0 => ?_)
                        clear hK K
                        refine wpAnyH_ready (rs := [16]) (by kernel_rfl) (by simp) (AllReadyH.cons rfl (fun K hK => ?_) AllReadyH.nil)
                        refine step_append_rowK rfl (.tmp 59) (.tmp 73) _ _ rfl elem_field rfl rfl HF3.out.row HSr.out hj46 HF3.out.le.2.1 NoS HF3.out.kin HF3.out.fs.kinds (by intro u hu; simp at hu; rcases hu with rfl | rfl | rfl | rfl <;> exact fun s h => by cases h) zero_field ?_
                        intro A4 c4 w9 ho9 hg9 hat9 hk9
                        have hp := HF3.out.push (f := ⟨m, (j2 : Int), false⟩) HI3.out Hnc6.out (Nat.zero_le _) ho9 hg9 hk9
                        obtain ⟨q3, q4, q5⟩ := box3 hp.1
                        have hf9 : w9.frozen? ⟨wo.heap.size, 0, none⟩ = false := by simp [World.frozen?, hp.1]
                        have hS9 : w9.cell? ⟨M, 0, none⟩ = some (.bool m.all) ∧ w9.cell? ⟨M, 1, none⟩ = some (.slice A6 m.l.length c6) ∧ w9.cell? ⟨Fb, 2, none⟩ = some (.int .i64 f.to) ∧ w9.cell? ⟨Fb, 3, none⟩ = some (.bool false) :=
                          ⟨hg9.cell HSa.out.1 (fun e => by have := Hown.out _ e.symm; simp only at this; omega), hg9.cell HSa.out.2.1 (fun e => by have := Hown.out _ e.symm; simp only at this; omega), hg9.cell HSa.out.2.2.1 (fun e => by have := Hown.out _ e.symm; simp only at this; omega), hg9.cell HSa.out.2.2.2 (fun e => by have := Hown.out _ e.symm; simp only at this; omega)⟩
                        have hL9 := left_push HF3.out hg9 HL3.out HI3L.out (by omega) (.slice A4 (j + 1) c4)
                        have HL9 := Lib.hid hL9
                        have HP := Lib.hid hp.2
                        clear hp ho9 hg9 hat9 hk9 hL9
                        refine hK.out _ _ hS9 (fun hS0 => ?_)
                        clear hK K
                        refine wpAnyH_take (i := 17) (v := .pointer (some ⟨wo.heap.size, 0, none⟩)) rfl (by kernel_rfl) (by kernel_rfl) (by kernel_rfl) (fun _ _ _ h => h) (Or.inl ⟨by rfl, ?_⟩) hS0 ?_
                        · intro w' hSw
                          obtain ⟨s0, s1, s2, s3⟩ := hSw
                          go_simp
                        simp only [List.getElem_toArray, List.getElem_cons_succ, List.getElem_cons_zero, Act.put, List.setIfInBounds_toArray, List.set_cons_zero, List.set_cons_succ]
                        refine wpAnyH_ready (rs := [18]) (by kernel_rfl) (by simp) (AllReadyH.cons rfl (fun K hK => ?_) AllReadyH.nil)
                        go_simp
                        refine hK.out _ _ ⟨(World.cell?_setCell_far _ _ _ _ (by simp only [ne_eq]; omega)).trans hS9.1, (World.cell?_setCell_far _ _ _ _ (by simp only [ne_eq]; omega)).trans hS9.2.1, (World.cell?_setCell_far _ _ _ _ (by simp only [ne_eq]; omega)).trans hS9.2.2.1, (World.cell?_setCell_far _ _ _ _ (by simp only [ne_eq]; omega)).trans hS9.2.2.2⟩ (fun hS0 => ?_)
                        clear hK K hS9
                        refine wpAnyH_done (by kernel_rfl) ?_ _
                        refine NoPanic.normal ?_
                        go_wp2_with fail
                        go_roundw
                        case rel => exact ⟨j + 1, A4, c4, _, _, L2', AL2, nL2, cL2, by omega, by go_num, HP.out, HL9.out.1, HL9.out.2, HbL2', Lib.hid (by
                          intro g hg
                          rcases List.mem_append.1 hg with e | e
                          · exact Hfs.out g e
                          · rw [List.mem_singleton] at e
                            subst e
                            have := Hml.out
                            have := bd_le j
                            simp only
                            omega)⟩
                        case measure => simp [intOf]; omega
                      · go_simp
                        refine hK.out _ _ HSa.out (fun hS0 => ?_)
                        clear hK K
                        refine wpAnyH_ready (rs := [1]) (by kernel_rfl) (by simp) (AllReadyH.cons rfl (fun K hK => ?_) AllReadyH.nil)
                        go_simp
                        refine hK.out _ _ HSa.out (fun hS0 => ?_)
                        clear hK K
                        refine wpAnyH_ready (rs := [16]) (by kernel_rfl) (by simp) (AllReadyH.cons rfl (fun K hK => ?_) AllReadyH.nil)
                        refine step_append_rowK rfl (.tmp 59) (.tmp 73) _ _ rfl elem_field rfl rfl HF3.out.row HSr.out hj46 HF3.out.le.2.1 NoS HF3.out.kin HF3.out.fs.kinds (by intro u hu; simp at hu; rcases hu with rfl | rfl | rfl | rfl <;> exact fun s h => by cases h) zero_field ?_
                        intro A4 c4 w9 ho9 hg9 hat9 hk9
                        have hp := HF3.out.push (f := ⟨m, (j2 : Int), false⟩) HI3.out Hnc6.out (Nat.zero_le _) ho9 hg9 hk9
                        obtain ⟨q3, q4, q5⟩ := box3 hp.1
                        have hf9 : w9.frozen? ⟨wo.heap.size, 0, none⟩ = false := by simp [World.frozen?, hp.1]
                        have hS9 : w9.cell? ⟨M, 0, none⟩ = some (.bool m.all) ∧ w9.cell? ⟨M, 1, none⟩ = some (.slice A6 m.l.length c6) ∧ w9.cell? ⟨Fb, 2, none⟩ = some (.int .i64 f.to) ∧ w9.cell? ⟨Fb, 3, none⟩ = some (.bool false) :=
                          ⟨hg9.cell HSa.out.1 (fun e => by have := Hown.out _ e.symm; simp only at this; omega), hg9.cell HSa.out.2.1 (fun e => by have := Hown.out _ e.symm; simp only at this; omega), hg9.cell HSa.out.2.2.1 (fun e => by have := Hown.out _ e.symm; simp only at this; omega), hg9.cell HSa.out.2.2.2 (fun e => by have := Hown.out _ e.symm; simp only at this; omega)⟩
                        have hL9 := left_push HF3.out hg9 HL3.out HI3L.out (by omega) (.slice A4 (j + 1) c4)
                        have HL9 := Lib.hid hL9
                        have HP := Lib.hid hp.2
                        clear hp ho9 hg9 hat9 hk9 hL9
                        refine hK.out _ _ hS9 (fun hS0 => ?_)
                        clear hK K
                        refine wpAnyH_take (i := 17) (v := .pointer (some ⟨wo.heap.size, 0, none⟩)) rfl (by kernel_rfl) (by kernel_rfl) (by kernel_rfl) (fun _ _ _ h => h) (Or.inl ⟨by rfl, ?_⟩) hS0 ?_
                        · intro w' hSw
                          obtain ⟨s0, s1, s2, s3⟩ := hSw
                          go_simp
                        simp only [List.getElem_toArray, List.getElem_cons_succ, List.getElem_cons_zero, Act.put, List.setIfInBounds_toArray, List.set_cons_zero, List.set_cons_succ]
                        refine wpAnyH_ready (rs := [18]) (by kernel_rfl) (by simp) (AllReadyH.cons rfl (fun K hK => ?_) AllReadyH.nil)
                        go_simp
                        refine hK.out _ _ ⟨(World.cell?_setCell_far _ _ _ _ (by simp only [ne_eq]; omega)).trans hS9.1, (World.cell?_setCell_far _ _ _ _ (by simp only [ne_eq]; omega)).trans hS9.2.1, (World.cell?_setCell_far _ _ _ _ (by simp only [ne_eq]; omega)).trans hS9.2.2.1, (World.cell?_setCell_far _ _ _ _ (by simp only [ne_eq]; omega)).trans hS9.2.2.2⟩ (fun hS0 => ?_)
                        clear hK K hS9
                        refine wpAnyH_done (by kernel_rfl) ?_ _
                        refine NoPanic.normal ?_
                        go_wp2_with fail
                        go_roundw
                        case rel => exact ⟨j + 1, A4, c4, _, _, L2', AL2, nL2, cL2, by omega, by go_num, HP.out, HL9.out.1, HL9.out.2, HbL2', Lib.hid (by
                          intro g hg
                          rcases List.mem_append.1 hg with e | e
                          · exact Hfs.out g e
                          · rw [List.mem_singleton] at e
                            subst e
                            have := Hml.out
                            have := bd_le j
                            simp only
                            omega)⟩
                        case measure => simp [intOf]; omega
            · have hj3' : (3 : Int) ≤ (j : Int) := by omega
              have hfr : wr.frozen? ⟨wo.heap.size, 1, none⟩ = false ∧ wr.frozen? ⟨wo.heap.size, 2, none⟩ = false := by simp [World.frozen?, hF.box]
              obtain ⟨hfr1, hfr2⟩ := hfr
              have hne : b ≠ wo.heap.size := by omega
              have HFl := Lib.hid (hF.flags D.one D.some)
              have h23 : wr.cell? ⟨b, o + k * 3 + 1, none⟩ = some (.bool D.one) ∧ wr.cell? ⟨b, o + k * 3 + 2, none⟩ = some (.bool D.some) := ⟨h2, h3⟩
              clear hF
              go_wp2_with fail
              go_region_held3 (fun W => W.cell? ⟨b, o + k * 3 + 1, none⟩ = some (.bool D.one) ∧ W.cell? ⟨b, o + k * 3 + 2, none⟩ = some (.bool D.some))
                (first | exact ⟨h2, h3⟩ | exact ⟨(World.cell?_setCell_far _ _ _ _ (by simp only [ne_eq]; omega)).trans h2, (World.cell?_setCell_far _ _ _ _ (by simp only [ne_eq]; omega)).trans h3⟩ | exact ⟨(World.cell?_setCell_far _ _ _ _ (by simp only [ne_eq]; omega)).trans ((World.cell?_setCell_far _ _ _ _ (by simp only [ne_eq]; omega)).trans h2), (World.cell?_setCell_far _ _ _ _ (by simp only [ne_eq]; omega)).trans ((World.cell?_setCell_far _ _ _ _ (by simp only [ne_eq]; omega)).trans h3)⟩) (fail)
              all_goals
                refine abs_ex (fun W => Fst wo.heap.size (wo.heap.size + 2) wo.heap.size wo W D.one D.some A2 j c2 us fs) (fst_drew HFl.out) ?_
                intro w11 hF11
                obtain ⟨k0', k1', k2'⟩ := box3 hF11.box
                obtain ⟨W4, hW4⟩ : ∃ W, W = w11.alloc (Obj.cells #[Value.slice A2 j c2, Value.bool D.one, Value.bool D.some] 80) := ⟨_, rfl⟩
                have hb4 : Below w11.heap.size w11 W4 := by rw [hW4]; exact (Below.refl _ _).alloc (Nat.le_refl _) _
                have hF4 := (hF11.below hb4).made
                have hD4 := (HDs.out.below hF11.keep).below hb4
                have hsrc : Src Try.prog 3 72 (.slice (some ⟨w11.heap.size, 0, none⟩) 1 1) 1 [.slice A2 j c2, .bool D.one, .bool D.some] W4 := by
                  rw [hW4]
                  exact src_blockE w11 _ _ _ Try.underlying72 3 _ _ rfl rfl (by simp [Value.oneCell']) _ rfl
                have hk46 : k + 1 ≤ 1099511627776 := by omega
                have HJ3 : Hid (fs.length ≤ 3) := Lib.hid (by have := hF4.1.len; omega)
                have HD4 := Lib.hid hD4
                have HF4 := Lib.hid hF4
                have HW4 := Lib.hid hW4
                have HSr := Lib.hid hsrc
                clear hW4 hb4 hF4 hD4 hsrc
                clear hF11
                go_wp2_with (at_builtin; rw [← HW4.out]; refine wpList_append_rowK rfl (.tmp 92) (.tmp 94) _ _ rfl elem_def rfl rfl HD4.out.row HSr.out hk46 HD4.out.le NoSI HD4.out.kin HD4.out.ds.kinds (by intro u hu; simp at hu; rcases hu with rfl | rfl | rfl <;> exact ⟨fun s h => (by cases h), fun k i h => (by cases h)⟩) zero_def ?_; intro A5 c5 w12 ho5 hg5 hat5 hk5; have hp := HD4.out.push (d := ⟨fs, D.one, D.some⟩) HF4.out.1 HF4.out.2.1 HF4.out.2.2 ho5 hg5 hk5; have HP := Lib.hid hp; clear hp ho5 hg5 hat5 hk5)
                go_roundw
                case rel => exact ⟨k + 1, A5, c5, _, _, by omega, by go_num, rfl, HP.out, Lib.hid (good_add HG.out HJ3.out Hfs.out)⟩
                case measure => simp [intOf]; omega
          · have hjn : (n3 : Int) ≤ (j : Int) := by omega
            have hfr : wr.frozen? ⟨wo.heap.size, 1, none⟩ = false ∧ wr.frozen? ⟨wo.heap.size, 2, none⟩ = false := by simp [World.frozen?, hF.box]
            obtain ⟨hfr1, hfr2⟩ := hfr
            have hne : b ≠ wo.heap.size := by omega
            have HFl := Lib.hid (hF.flags D.one D.some)
            have h23 : wr.cell? ⟨b, o + k * 3 + 1, none⟩ = some (.bool D.one) ∧ wr.cell? ⟨b, o + k * 3 + 2, none⟩ = some (.bool D.some) := ⟨h2, h3⟩
            clear hF
            go_wp2_with fail
            go_region_held3 (fun W => W.cell? ⟨b, o + k * 3 + 1, none⟩ = some (.bool D.one) ∧ W.cell? ⟨b, o + k * 3 + 2, none⟩ = some (.bool D.some))
              (first | exact ⟨h2, h3⟩ | exact ⟨(World.cell?_setCell_far _ _ _ _ (by simp only [ne_eq]; omega)).trans h2, (World.cell?_setCell_far _ _ _ _ (by simp only [ne_eq]; omega)).trans h3⟩ | exact ⟨(World.cell?_setCell_far _ _ _ _ (by simp only [ne_eq]; omega)).trans ((World.cell?_setCell_far _ _ _ _ (by simp only [ne_eq]; omega)).trans h2), (World.cell?_setCell_far _ _ _ _ (by simp only [ne_eq]; omega)).trans ((World.cell?_setCell_far _ _ _ _ (by simp only [ne_eq]; omega)).trans h3)⟩) (fail)
            all_goals
              refine abs_ex (fun W => Fst wo.heap.size (wo.heap.size + 2) wo.heap.size wo W D.one D.some A2 j c2 us fs) (fst_drew HFl.out) ?_
              intro w11 hF11
              obtain ⟨k0', k1', k2'⟩ := box3 hF11.box
              obtain ⟨W4, hW4⟩ : ∃ W, W = w11.alloc (Obj.cells #[Value.slice A2 j c2, Value.bool D.one, Value.bool D.some] 80) := ⟨_, rfl⟩
              have hb4 : Below w11.heap.size w11 W4 := by rw [hW4]; exact (Below.refl _ _).alloc (Nat.le_refl _) _
              have hF4 := (hF11.below hb4).made
              have hD4 := (HDs.out.below hF11.keep).below hb4
              have hsrc : Src Try.prog 3 72 (.slice (some ⟨w11.heap.size, 0, none⟩) 1 1) 1 [.slice A2 j c2, .bool D.one, .bool D.some] W4 := by
                rw [hW4]
                exact src_blockE w11 _ _ _ Try.underlying72 3 _ _ rfl rfl (by simp [Value.oneCell']) _ rfl
              have hk46 : k + 1 ≤ 1099511627776 := by omega
              have HJ3 : Hid (fs.length ≤ 3) := Lib.hid (by have := hF4.1.len; omega)
              have HD4 := Lib.hid hD4
              have HF4 := Lib.hid hF4
              have HW4 := Lib.hid hW4
              have HSr := Lib.hid hsrc
              clear hW4 hb4 hF4 hD4 hsrc
              clear hF11
              go_wp2_with (at_builtin; rw [← HW4.out]; refine wpList_append_rowK rfl (.tmp 92) (.tmp 94) _ _ rfl elem_def rfl rfl HD4.out.row HSr.out hk46 HD4.out.le NoSI HD4.out.kin HD4.out.ds.kinds (by intro u hu; simp at hu; rcases hu with rfl | rfl | rfl <;> exact ⟨fun s h => (by cases h), fun k i h => (by cases h)⟩) zero_def ?_; intro A5 c5 w12 ho5 hg5 hat5 hk5; have hp := HD4.out.push (d := ⟨fs, D.one, D.some⟩) HF4.out.1 HF4.out.2.1 HF4.out.2.2 ho5 hg5 hk5; have HP := Lib.hid hp; clear hp ho5 hg5 hat5 hk5)
              go_roundw
              case rel => exact ⟨k + 1, A5, c5, _, _, by omega, by go_num, rfl, HP.out, Lib.hid (good_add HG.out HJ3.out Hfs.out)⟩
              case measure => simp [intOf]; omega
        · have hkn' : (n : Int) ≤ (k : Int) := by omega
          obtain ⟨W4, hW4⟩ : ∃ W, W = wr.alloc (Obj.cells #[Value.slice A2 j c2, Value.bool false, Value.bool false] 80) := ⟨_, rfl⟩
          have hb4 : Below wr.heap.size wr W4 := by rw [hW4]; exact (Below.refl _ _).alloc (Nat.le_refl _) _
          have hF4 := (hF.below hb4).made
          have hD4 := (HDs.out.below hF.keep).below hb4
          have hsrc : Src Try.prog 3 72 (.slice (some ⟨wr.heap.size, 0, none⟩) 1 1) 1 [.slice A2 j c2, .bool false, .bool false] W4 := by
            rw [hW4]
            exact src_blockE wr _ _ _ Try.underlying72 3 _ _ rfl rfl (by simp [Value.oneCell']) _ rfl
          have hk46 : k + 1 ≤ 1099511627776 := by omega
          have HJ3 : Hid (fs.length ≤ 3) := Lib.hid (by have := hF4.1.len; omega)
          have HD4 := Lib.hid hD4
          have HF4 := Lib.hid hF4
          have HW4 := Lib.hid hW4
          have HSr := Lib.hid hsrc
          clear hW4 hb4 hF4 hD4 hsrc
          clear hF
          go_wp2_with (at_builtin; rw [← HW4.out]; refine wpList_append_rowK rfl (.tmp 92) (.tmp 94) _ _ rfl elem_def rfl rfl HD4.out.row HSr.out hk46 HD4.out.le NoSI HD4.out.kin HD4.out.ds.kinds (by intro u hu; simp at hu; rcases hu with rfl | rfl | rfl <;> exact ⟨fun s h => (by cases h), fun k i h => (by cases h)⟩) zero_def ?_; intro A5 c5 w12 ho5 hg5 hat5 hk5; have hp := HD4.out.push (d := ⟨fs, false, false⟩) HF4.out.1 HF4.out.2.1 HF4.out.2.2 ho5 hg5 hk5; have HP := Lib.hid hp; clear hp ho5 hg5 hat5 hk5)
          go_roundw
          case rel => exact ⟨k + 1, A5, c5, _, _, by omega, by go_num, rfl, HP.out, Lib.hid (good_add HG.out HJ3.out Hfs.out)⟩
          case measure => simp [intOf]; omega
    · have hkN : (N : Int) ≤ (k : Int) := by omega
      have HkN : Hid (k = N) := Lib.hid (by omega)
      have HDs := Lib.hid hDs
      clear hDs
      go_wp2_with fail
      go_ret
      have hm := HDs.out.made
      exact ⟨A0, c0, ds, by rw [← HkN.out]; rfl, by rw [← HkN.out]; exact hm.1, by rw [← HkN.out]; exact hm.2.1, hm.2.2, HG.out, HDs.out.keep⟩
end Go.Proofs.Ytagoeededpmdkaa.Sc
