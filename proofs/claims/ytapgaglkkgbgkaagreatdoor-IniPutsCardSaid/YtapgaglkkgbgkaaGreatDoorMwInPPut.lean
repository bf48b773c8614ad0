/- ini's part put: its lines that stay, those of new keys. Conditions: the tree fits; rows in bounds. · ini's file put: the file of a tree that fits. Conditions: the tree fits; parts and rows in bounds. -/
import Derived.Test.YtapgaglkkgbgkaaGreatDoorMwInRPut
import Derived.Test.YtapgaglkkgbgkaaGreatDoorMwRQuote
import Derived.Outline
import Derived.Test.YtapgaglkkgbgkaaGreatDoorMwLiSplit
import Derived.Test.YtapgaglkkgbgkaaGreatDoorMwClClone
import Derived.Deep.RegionWith
namespace Go.Proofs.YtapgaglkkgbgkaaGreatDoor.In
open Go.RowKit Go.Proofs.YtapgaglkkgbgkaaGreatDoor.Jd Go.Proofs.YtapgaglkkgbgkaaGreatDoor.Li Go.Proofs.YtapgaglkkgbgkaaGreatDoor.Cl Go.Proofs.YtapgaglkkgbgkaaGreatDoor.Cv Go.Proofs.YtapgaglkkgbgkaaGreatDoor.Pt
set_option maxRecDepth 100000

def LsP (w : World) (ls : List Ln) (en : Ending) (w' : World) : Prop := ∃ A c, en = .returned (.slice A ls.length c) ∧ OwnL w' w.heap.size A ls.length c ls ∧ Below w.heap.size w w'
theorem step_len (k : Tr) (is : Bool) : ∀ (rs : List Ro) (a : List Ln × Nat), a.2 ≤ a.1.length → (rs.foldl (stepR k is) a).2 ≤ (rs.foldl (stepR k is) a).1.length ∧ (rs.foldl (stepR k is) a).1.length ≤ a.1.length + rs.length
  | [], a, h => ⟨h, Nat.le_refl _⟩
  | r :: rs, a, h => by
    rw [List.foldl_cons]
    have h1 : (stepR k is a r).2 ≤ (stepR k is a r).1.length ∧ (stepR k is a r).1.length ≤ a.1.length + 1 := by
      unfold stepR
      split
      · exact ⟨h, by omega⟩
      · dsimp only
        split
        · simp; omega
        · simp
    have := step_len k is rs _ h1.1
    simp only [List.length_cons]
    omega
theorem putPart_len (t : Tr) (E : Bs) (p : Pt) : (putPart t E p).length ≤ p.rows.length + t.len + t.size := by
  unfold putPart
  dsimp only
  have h1 := (step_len (getT t [⟨p.name.toArray⟩]).1 (getT t [⟨p.name.toArray⟩]).2 p.rows ([], 0) (Nat.le_refl _)).2
  have h2 : (freshK (getT t [⟨p.name.toArray⟩]).1 p.rows).length ≤ t.size := by
    unfold freshK
    refine Nat.le_trans (List.length_filter_le _ _) ?_
    rw [eds_len]
    exact Nat.le_trans (Tr.len_size _) get_size
  simp only [List.length_append, List.length_take, List.length_drop, List.length_map, List.length_nil] at *
  omega

set_option maxHeartbeats 16000000 in
theorem pput_any (t : Tr) (p : Pt) (E : ByteArray) (Ap A : Option Addr) (np cp n c : Nat) (w : World) (ht : Holds w w.heap.size A n t) (hf : FitT t) (hp : RowsP w (· < w.heap.size) Ap np p.rows) (hnp : np ≤ 9000) (hok : ∀ r ∈ p.rows, Ok1 r) :
    Calls Tryz.prog 62 #[.agg #[.string ⟨p.name.toArray⟩, .slice Ap np cp], .slice A n c, .string E] w (LsP w (putPart t E.data.toList p)) := by
  obtain ⟨nm, hnm⟩ : ∃ nm : ByteArray, nm = ⟨p.name.toArray⟩ := ⟨_, rfl⟩
  rw [← hnm]
  obtain ⟨R, hR⟩ : ∃ R, R = putPart t E.data.toList p := ⟨_, rfl⟩
  rw [← hR]
  unfold putPart at hR
  dsimp only at hR
  rw [← hnm] at hR
  obtain ⟨W1, hW1⟩ : ∃ W, W = w.alloc (Obj.cells #[.string nm, .slice Ap np cp] 108) := ⟨_, rfl⟩
  have hb1 : Below w.heap.size w W1 := by rw [hW1]; exact (Below.refl _ _).alloc (Nat.le_refl _) _
  have hg1 : W1.heap[w.heap.size]? = some (Obj.cells #[.string nm, .slice Ap np cp] 108) := by rw [hW1]; exact heap_alloc_new w _
  have hl1 := (Array.getElem?_eq_some_iff.1 hg1).1
  have HK := Lib.hid (fun (W : World) (hW : Below W1.heap.size W1 W) => (⟨(hW.cell (p := ⟨w.heap.size, 0, none⟩) hl1).trans (by rw [cell_of_row _ _ _ _ _ _ hg1]; rfl), (hW.cell (p := ⟨w.heap.size, 1, none⟩) hl1).trans (by rw [cell_of_row _ _ _ _ _ _ hg1]; rfl)⟩ : W.cell? ⟨w.heap.size, 0, none⟩ = some (.string nm) ∧ W.cell? ⟨w.heap.size, 1, none⟩ = some (.slice Ap np cp)))
  obtain ⟨W2, hW2⟩ : ∃ W, W = W1.alloc (Obj.cells #[.string nm] 9) := ⟨_, rfl⟩
  have hb2 : Below W1.heap.size W1 W2 := by rw [hW2]; exact (Below.refl _ _).alloc (Nat.le_refl _) _
  have hg2 : W2.heap[W1.heap.size]? = some (Obj.cells #[.string nm] 9) := by rw [hW2]; exact heap_alloc_new W1 _
  have hl2 := (Array.getElem?_eq_some_iff.1 hg2).1
  have hsv : SeesV W2 W2.heap.size (some ⟨W1.heap.size, 0, none⟩) 1 ([nm].map Value.string) := ⟨rfl, fun j u hu => by
    match j, hu with
    | 0, hu => exact ⟨W1.heap.size, 0, rfl, hl2, by rw [cell_of_row _ _ _ _ _ _ hg2]; simpa using hu⟩
    | j + 1, hu => simp at hu⟩
  have hb12 := hb1.trans (hb2.mono hb1.size)
  have hGet := get_any t [nm] A (some ⟨W1.heap.size, 0, none⟩) n c 1 1 W2 ((ht.below hb12).more hb12.size) hsv hf.asc (by have := hf.size; omega) (by simp)
  have hfk := hf.get nm
  obtain ⟨G, hG⟩ : ∃ G, G = getT t [nm] := ⟨_, rfl⟩
  rw [← hG] at hGet hfk hR
  obtain ⟨k, is⟩ := G
  dsimp only at hfk hR
  have HGet := Lib.hid hGet
  have Hf := Lib.hid hfk
  have HB1 := Lib.hid hb1
  have HB2 := Lib.hid hb2
  have HR := Lib.hid hR
  have Hp := Lib.hid hp
  have Hlp := Lib.hid hp.len
  have Hok := Lib.hid hok
  clear hGet hfk hb1 hb2 hb12 hg1 hg2 hl1 hl2 hsv hG hR hp hok ht hf hnm
  go_enter Tryz.func62, Tryz.ntmps62
  go_upto_region 1 with (fail)
  rw [← hW1]
  clear hW1
  obtain ⟨l0, l1⟩ := HK.out W1 (Below.refl _ _)
  go_upto_region 2 with (go_at_call 80; rw [← hW2]; clear hW2; (with_reducible refine HGet.out.mono ?_); rintro e3 w3 ⟨A3, n3, c3, rfl, hn3, hc3, hh3, hb3⟩)
  have HB3 := Lib.hid (HB2.out.trans (hb3.mono HB2.out.size))
  have Hh3 := Lib.hid hh3
  have Hl3 := Lib.hid hh3.len
  obtain ⟨m0, m1⟩ := HK.out w3 HB3.out
  have Hc3 := Lib.hid (And.intro hn3 hc3)
  clear hh3 hb3 hn3 hc3 l0 l1
  have HBw3 := Lib.hid (HB1.out.trans (HB3.out.mono HB1.out.size))
  have Hp3 := Lib.hid ((Hp.out.keep (w' := w3) fun b o hb => HBw3.out.cell (p := ⟨b, o, none⟩) hb).more (P' := (· < w3.heap.size)) fun q hq => Nat.lt_of_lt_of_le hq HBw3.out.size)
  have h3z : w.heap.size ≤ w3.heap.size := HBw3.out.size
  have h1z : w.heap.size < W1.heap.size := World.block_lt_of_cell? W1 ⟨w.heap.size, 0, none⟩ (HK.out W1 (Below.refl _ _)).1
  have h13z : W1.heap.size ≤ w3.heap.size := HB3.out.size
  go_wp2_with fail
  go_loopw [9, 10, 26] (fun a bb i wr => ∃ (j : Nat) (A9 : Option Addr) (c9 N bh : Nat), j ≤ np ∧ i = .int .i64 j ∧ a = .slice A9 N c9 ∧ bb = .int .i64 bh ∧ Hid (OwnL wr w3.heap.size A9 N c9 ((p.rows.take j).foldl (stepR k is) ([], 0)).1) ∧ Hid (bh = ((p.rows.take j).foldl (stepR k is) ([], 0)).2) ∧ Hid (N ≤ j) ∧ Hid (Below w3.heap.size w3 wr)) (fun _ _ i _ => np - (intOf i).toNat)
  case atStart => exact ⟨0, none, 0, 0, 0, Nat.zero_le _, rfl, rfl, rfl, Lib.hid (World.ownsRow_nil _ _ _ _), Lib.hid rfl, Lib.hid (Nat.le_refl _), Lib.hid (Below.refl _ _)⟩
  case round =>
    obtain ⟨j, A9, c9, N, bh, hj, rfl, rfl, rfl, HO, Hbh, HN, HW⟩ := hrel
    by_cases hlt : j < np
    · have hjl : j < p.rows.length := by have := Hlp.out; omega
      obtain ⟨x, hx⟩ : ∃ x, p.rows[j]? = some x := ⟨_, List.getElem?_eq_getElem hjl⟩
      have htk : p.rows.take (j + 1) = p.rows.take j ++ [x] := by rw [List.take_add_one, hx]; rfl
      have hokx := Hok.out x (List.mem_of_getElem? hx)
      obtain ⟨b, o, rfl, hbl, hc1, hc2, hc3, hc4, hc5, hc6⟩ := (Hp3.out.keep (w' := wr) (fun b o hb => HW.out.cell (p := ⟨b, o, none⟩) hb)).at_ hx
      have hkn : (j : Int) < (np : Int) := by omega
      have hk0 : (0 : Int) ≤ (j : Int) := by omega
      obtain ⟨t1, ht1⟩ : ∃ s : ByteArray, s = ⟨x.ln.1.toArray⟩ := ⟨_, rfl⟩
      obtain ⟨t2, ht2⟩ : ∃ s : ByteArray, s = ⟨x.ln.2.toArray⟩ := ⟨_, rfl⟩
      obtain ⟨s, hs⟩ : ∃ s : ByteArray, s = ⟨x.name.toArray⟩ := ⟨_, rfl⟩
      obtain ⟨v, hv⟩ : ∃ s : ByteArray, s = ⟨x.val.toArray⟩ := ⟨_, rfl⟩
      obtain ⟨kd, hkd⟩ : ∃ q, q = x.kind := ⟨_, rfl⟩
      obtain ⟨ps, hps⟩ : ∃ q, q = x.pos := ⟨_, rfl⟩
      rw [show Li.encs x.ln.1 = .string t1 by rw [ht1]; rfl] at hc1
      rw [show Li.encs x.ln.2 = .string t2 by rw [ht2]; rfl] at hc2
      rw [← hkd] at hc3
      rw [show Li.encs x.name = .string s by rw [hs]; rfl] at hc4
      rw [show Li.encs x.val = .string v by rw [hv]; rfl] at hc5
      rw [← hps] at hc6
      have hxe : x = ⟨(t1.data.toList, t2.data.toList), kd, s.data.toList, v.data.toList, ps⟩ := by rw [ht1, ht2, hs, hv, hkd, hps]
      have h1s : t1.size ≤ 4000 := by rw [ht1, mk_size]; exact hokx.1
      have h2s : ps + v.size ≤ t1.size := by rw [hps, hv, ht1, mk_size, mk_size]; exact hokx.2.1
      obtain ⟨V1, hV1⟩ : ∃ W, W = wr.alloc (Obj.cells #[.string t1, .string t2, .int .i64 kd, .string s, .string v, .int .i64 ps] 114) := ⟨_, rfl⟩
      have hbv : Below wr.heap.size wr V1 := by rw [hV1]; exact (Below.refl _ _).alloc (Nat.le_refl _) _
      have hgv : V1.heap[wr.heap.size]? = some (Obj.cells #[.string t1, .string t2, .int .i64 kd, .string s, .string v, .int .i64 ps] 114) := by rw [hV1]; exact heap_alloc_new wr _
      have hvl := (Array.getElem?_eq_some_iff.1 hgv).1
      have hv0 : V1.cell? ⟨wr.heap.size, 0, none⟩ = some (.string t1) := by rw [cell_of_row _ _ _ _ _ _ hgv]; rfl
      have hv1 : V1.cell? ⟨wr.heap.size, 1, none⟩ = some (.string t2) := by rw [cell_of_row _ _ _ _ _ _ hgv]; rfl
      have hv2 : V1.cell? ⟨wr.heap.size, 2, none⟩ = some (.int .i64 kd) := by rw [cell_of_row _ _ _ _ _ _ hgv]; rfl
      have hv3 : V1.cell? ⟨wr.heap.size, 3, none⟩ = some (.string s) := by rw [cell_of_row _ _ _ _ _ _ hgv]; rfl
      have hv4 : V1.cell? ⟨wr.heap.size, 4, none⟩ = some (.string v) := by rw [cell_of_row _ _ _ _ _ _ hgv]; rfl
      have hv5 : V1.cell? ⟨wr.heap.size, 5, none⟩ = some (.int .i64 ps) := by rw [cell_of_row _ _ _ _ _ _ hgv]; rfl
      have hbV := HW.out.trans (hbv.mono HW.out.size)
      have hRp := rput_any k is t1 t2 s v kd ps A3 n3 c3 V1 (by omega) h2s ((Hh3.out.below hbV).more hbV.size) Hf.out.asc Hf.out.size Hf.out.fit Hf.out.n80
      have hst : stepR k is ((p.rows.take j).foldl (stepR k is) ([], 0)) x = (p.rows.take (j + 1)).foldl (stepR k is) ([], 0) := by rw [htk, List.foldl_append]; rfl
      rw [hxe] at hst
      have Hst := Lib.hid hst
      have HRp := Lib.hid hRp
      have HbV := Lib.hid hbV
      have HOV := Lib.hid (HO.out.below hbv)
      have Hv2 := Lib.hid hv2
      have Hvl := Lib.hid hvl
      have HOl := Lib.hid (fun g (hg : (Value.slice A9 N c9).ownBlock = some g) => HO.out.lt g hg)
      have Hlt := Lib.hid hlt
      clear hlt hx htk hokx hjl ht1 ht2 hs hv hkd hps hxe h1s h2s hbv hgv hvl hbV hRp hst HO HW
      go_upto_region 7 with (fail)
      rw [← hV1]
      clear hV1
      go_upto_region 8 with (go_at_call 81; (with_reducible refine HRp.out.mono ?_); rintro e4 w4 ⟨y, z, bv, rfl, hput, hb4⟩)
      have HW4 := Lib.hid (HbV.out.trans (hb4.mono HbV.out.size))
      have HO4 := Lib.hid (HOV.out.below hb4)
      have hkd4 := (hb4.cell (p := ⟨wr.heap.size, 2, none⟩) Hvl.out).trans Hv2.out
      have hvl4 : wr.heap.size < w4.heap.size := Nat.lt_of_lt_of_le Hvl.out hb4.size
      have Hput := Lib.hid hput
      clear hb4 hput hv0 hv1 hv2 hv3 hv4 hv5
      obtain ⟨V5, hV5⟩ : ∃ W, W = w4.alloc (Obj.cells #[.string y, .string z] 85) := ⟨_, rfl⟩
      have hb5 : Below w4.heap.size w4 V5 := by rw [hV5]; exact (Below.refl _ _).alloc (Nat.le_refl _) _
      have hg5 : V5.heap[w4.heap.size]? = some (Obj.cells #[.string y, .string z] 85) := by rw [hV5]; exact heap_alloc_new w4 _
      have hy0 : V5.cell? ⟨w4.heap.size, 0, none⟩ = some (.string y) := by rw [cell_of_row _ _ _ _ _ _ hg5]; rfl
      have hy1 : V5.cell? ⟨w4.heap.size, 1, none⟩ = some (.string z) := by rw [cell_of_row _ _ _ _ _ _ hg5]; rfl
      have hkd5 := (hb5.cell (p := ⟨wr.heap.size, 2, none⟩) hvl4).trans hkd4
      have HW5 := Lib.hid (HW4.out.trans (hb5.mono HW4.out.size))
      have HO5 := Lib.hid (HO4.out.below hb5)
      have h5z : w3.heap.size ≤ V5.heap.size := HW5.out.size
      have Hvl5 := Lib.hid (Nat.lt_of_lt_of_le hvl4 hb5.size)
      rw [← hV5]
      clear hV5 hb5 hg5 hkd4 hvl4
      cases bv with
      | false =>
        have hsame : stepR k is ((p.rows.take j).foldl (stepR k is) ([], 0)) ⟨(t1.data.toList, t2.data.toList), kd, s.data.toList, v.data.toList, ps⟩ = (p.rows.take j).foldl (stepR k is) ([], 0) := by
          rw [stepR, Hput.out]; rfl
        rw [Hst.out] at hsame
        rw [← hsame] at HO5 Hbh
        clear hsame
        go_wp2_with fail
        go_roundw
        case rel => exact ⟨j + 1, A9, c9, N, bh, Hlt.out, by go_num, rfl, rfl, HO5, Hbh, Lib.hid (by have := HN.out; omega), HW5⟩
        case measure => have := Hlt.out; simp [intOf]; omega
      | true =>
        have hnew : stepR k is ((p.rows.take j).foldl (stepR k is) ([], 0)) ⟨(t1.data.toList, t2.data.toList), kd, s.data.toList, v.data.toList, ps⟩ = (((p.rows.take j).foldl (stepR k is) ([], 0)).1 ++ [(y.data.toList, z.data.toList)], if kd = 1 then ((p.rows.take j).foldl (stepR k is) ([], 0)).2 else ((p.rows.take j).foldl (stepR k is) ([], 0)).1.length + 1) := by
          rw [stepR, Hput.out]; rfl
        rw [Hst.out] at hnew
        have Hnew := Lib.hid hnew
        have hN1 : N + 1 ≤ 1099511627776 := by have := HN.out; omega
        clear hnew
        by_cases k1 : kd = 1
        · have K1 : ((kd : Int) != 1) = false := by rw [k1]; rfl
          have K1' : ((kd : Int) == 1) = true := by rw [k1]; rfl
          go_wp2_with (at_builtin; refine wpList_append_row rfl (.tmp 39) (.tmp 41) _ _ rfl elem_line rfl rfl (HO5.out.alloc _) (src_lineV V5 y z _ rfl) hN1 (by simp; omega) ?_; intro A8 c8 w8 ho8 hg8 hat8; have hal : Below V5.heap.size V5 (V5.alloc (Obj.cells #[Value.string y, Value.string z] 85)) := (Below.refl _ _).alloc (Nat.le_refl _) _; have hkd8 : w8.cell? ⟨wr.heap.size, 2, none⟩ = some (.int .i64 kd) := (World.cell?_of_block (hg8.block wr.heap.size (Nat.lt_of_lt_of_le Hvl5.out hal.size) (fun e => Nat.lt_irrefl _ (HOl.out wr.heap.size e.symm).2))).trans ((hal.cell (p := ⟨wr.heap.size, 2, none⟩) Hvl5.out).trans hkd5))
          have HP : Hid (OwnL w8 w3.heap.size A8 (N + 1) c8 ((p.rows.take (j + 1)).foldl (stepR k is) ([], 0)).1) := Lib.hid (by rw [Hnew.out, OwnL, lcells_append]; exact ho8)
          have HW8 : Hid (Below w3.heap.size w3 w8) := Lib.hid ((HW5.out.trans (hal.mono HW5.out.size)).grown hg8 (Nat.le_trans HW5.out.size hal.size) (fun q hq => (HO5.out.lt q hq).1))
          clear ho8 hg8 hat8 hal
          have Hbh2 : Hid (bh = ((p.rows.take (j + 1)).foldl (stepR k is) ([], 0)).2) := Lib.hid (by rw [Hnew.out, Hbh.out]; simp [k1])
          go_wp2_with fail
          go_roundw
          case rel => exact ⟨j + 1, A8, c8, N + 1, bh, Hlt.out, by go_num, rfl, rfl, HP, Hbh2, Lib.hid (by have := HN.out; omega), HW8⟩
          case measure => have := Hlt.out; simp [intOf]; omega
        · have K1 : ((kd : Int) != 1) = true := by rw [bne_iff_ne]; omega
          have K1' : ((kd : Int) == 1) = false := by rw [beq_eq_false_iff_ne]; omega
          go_wp2_with (at_builtin; refine wpList_append_row rfl (.tmp 39) (.tmp 41) _ _ rfl elem_line rfl rfl (HO5.out.alloc _) (src_lineV V5 y z _ rfl) hN1 (by simp; omega) ?_; intro A8 c8 w8 ho8 hg8 hat8; have hal : Below V5.heap.size V5 (V5.alloc (Obj.cells #[Value.string y, Value.string z] 85)) := (Below.refl _ _).alloc (Nat.le_refl _) _; have hkd8 : w8.cell? ⟨wr.heap.size, 2, none⟩ = some (.int .i64 kd) := (World.cell?_of_block (hg8.block wr.heap.size (Nat.lt_of_lt_of_le Hvl5.out hal.size) (fun e => Nat.lt_irrefl _ (HOl.out wr.heap.size e.symm).2))).trans ((hal.cell (p := ⟨wr.heap.size, 2, none⟩) Hvl5.out).trans hkd5))
          have HP : Hid (OwnL w8 w3.heap.size A8 (N + 1) c8 ((p.rows.take (j + 1)).foldl (stepR k is) ([], 0)).1) := Lib.hid (by rw [Hnew.out, OwnL, lcells_append]; exact ho8)
          have HW8 : Hid (Below w3.heap.size w3 w8) := Lib.hid ((HW5.out.trans (hal.mono HW5.out.size)).grown hg8 (Nat.le_trans HW5.out.size hal.size) (fun q hq => (HO5.out.lt q hq).1))
          clear ho8 hg8 hat8 hal
          have hlen := HO5.out.sees.len
          have Hbh2 : Hid (N + 1 = ((p.rows.take (j + 1)).foldl (stepR k is) ([], 0)).2) := Lib.hid (by rw [Hnew.out, hlen]; simp [k1])
          clear hlen
          go_wp2_with fail
          go_roundw
          case rel => exact ⟨j + 1, A8, c8, N + 1, N + 1, Hlt.out, by go_num, rfl, by go_num, HP, Hbh2, Lib.hid (by have := HN.out; omega), HW8⟩
          case measure => have := Hlt.out; simp [intOf]; omega
    · obtain rfl : j = np := by omega
      have hO := HO.out
      have hbh := Hbh.out
      rw [List.take_of_length_le (by rw [← Hlp.out]; exact Nat.le_refl _)] at hO hbh
      obtain ⟨F, hF⟩ : ∃ F, F = p.rows.foldl (stepR k is) ([], 0) := ⟨_, rfl⟩
      rw [← hF] at hO hbh
      have hR := HR.out
      rw [← hF] at hR
      have hbl : F.2 ≤ F.1.length := by rw [hF]; exact (step_len k is p.rows ([], 0) (Nat.le_refl _)).1
      have hNl := hO.sees.len
      have HO2 := Lib.hid hO
      have HR2 := Lib.hid hR
      have Hbn : Hid (bh ≤ N) := Lib.hid (by omega)
      have Hbh2 := Lib.hid hbh
      have hm2 := HK.out wr (HB3.out.trans (HW.out.mono HB3.out.size))
      obtain ⟨q0, q1⟩ := hm2
      have hWo := withoutR_any k p.rows A3 Ap n3 c3 j cp wr.heap.size wr ((Hh3.out.below HW.out).more HW.out.size) (Nat.le_refl _) ((Hp3.out.keep (w' := wr) fun b o hb => HW.out.cell (p := ⟨b, o, none⟩) hb).more fun q hq => Nat.lt_of_lt_of_le hq HW.out.size) (by have := Hl3.out; have := Hf.out.size; have := k.len_size; omega) (by omega)
      have HWo := Lib.hid hWo
      have h39 : w3.heap.size ≤ wr.heap.size := HW.out.size
      clear hlt hO hbh hF hR hbl hNl hWo HO Hbh
      go_wp2_with fail
      (with_reducible refine HWo.out.mono ?_)
      rintro e6 w6 ⟨A6, c6, N6, vs6, rfl, hE6, _, hb6⟩
      have HO6 := Lib.hid (HO2.out.below hb6)
      have HW6 := Lib.hid (HW.out.trans (hb6.mono HW.out.size))
      have hl6 := hE6.len
      have hKl := keyLines_any (ofL ((eds k).filter fun e => !(p.rows.any fun r => r.kind == 3 && e.1.data.toList == r.name))) E A6 N6 c6 w6 (hE6.holds (Nat.zero_le _)) (by have h7 := filter_len (fun e => !(p.rows.any fun r => r.kind == 3 && e.1.data.toList == r.name)) k; have := Hf.out.size; have := k.len_size; omega) (allT_filter fkB _ Hf.out.fit) (n80_filter _ Hf.out.n80)
      have hN6 : N6 ≤ 400 := by have h7 := filter_len (fun e => !(p.rows.any fun r => r.kind == 3 && e.1.data.toList == r.name)) k; have := Hf.out.size; have := k.len_size; omega
      rw [eds_ofL] at hKl
      have HKl := Lib.hid hKl
      have h69 : wr.heap.size ≤ w6.heap.size := hb6.size
      clear hE6 hb6 hKl hl6
      go_wp2_with fail
      (with_reducible refine HKl.out.mono ?_)
      rintro e7 w7 ⟨A7, c7, rfl, ho7, hb7⟩
      have HO7 := Lib.hid (HO6.out.below hb7)
      have HW7 := Lib.hid (HW6.out.trans (hb7.mono HW6.out.size))
      have hIn := insertL_any F.1 _ A9 A7 N c9 N6 c7 bh w3.heap.size w6.heap.size w7 HO7.out ho7 (fun g hg e => by have h8 := (ho7.lt g hg).1; have h9 := (HO6.out.lt g e).2; omega) Hbn.out (by have := HN.out; omega) (by omega) HW7.out.size
      have HIn := Lib.hid hIn
      have Hl7 := Lib.hid ho7.sees.len
      clear ho7 hb7 hIn
      go_wp2_with fail
      (with_reducible refine HIn.out.mono ?_)
      rintro e8 w8 ⟨A8, c8, rfl, ho8, hb8⟩
      have hres : F.1.take bh ++ ((eds k).filter fun e => !(p.rows.any fun r => r.kind == 3 && e.1.data.toList == r.name)).map (keyL E.data.toList) ++ F.1.drop bh = R := by
        rw [HR2.out, Hbh2.out]; rfl
      rw [hres] at ho8
      have hl8 := ho8.sees.len
      have HP := Lib.hid (own_base ho8 h3z)
      have HBf := Lib.hid (HBw3.out.trans ((HW7.out.trans hb8).mono h3z))
      clear ho8 hb8 hres
      go_wp2_with fail
      go_ret
      have hP := HP.out
      rw [hl8] at hP
      exact ⟨A8, c8, by rw [← hl8]; rfl, hP, HBf.out⟩
end Go.Proofs.YtapgaglkkgbgkaaGreatDoor.In
namespace Go.Proofs.YtapgaglkkgbgkaaGreatDoor.In
open Go.RowKit Go.Proofs.YtapgaglkkgbgkaaGreatDoor.Jd Go.Proofs.YtapgaglkkgbgkaaGreatDoor.Li Go.Proofs.YtapgaglkkgbgkaaGreatDoor.Cl Go.Proofs.YtapgaglkkgbgkaaGreatDoor.Cv Go.Proofs.YtapgaglkkgbgkaaGreatDoor.Pt
set_option maxRecDepth 100000

def endK (e : Bs) (ls : List Ln) (k : Nat) : List Ln := (ls.take k).map (fun x => (x.1, or2 x.2 e)) ++ ls.drop k
theorem endK_len (e : Bs) (ls : List Ln) (k : Nat) : (endK e ls k).length = ls.length := by
  rw [endK, List.length_append, List.length_map, List.length_take, List.length_drop]; omega
theorem endK_at {e : Bs} {ls : List Ln} {k : Nat} {x : Ln} (h : ls[k]? = some x) : (endK e ls k)[k]? = some x ∧ endK e ls (k + 1) = (endK e ls k).set k (x.1, or2 x.2 e) := by
  obtain ⟨hk, hx⟩ := List.getElem?_eq_some_iff.1 h
  have e1 : ((ls.take k).map (fun x : Ln => (x.1, or2 x.2 e))).length = k := by rw [List.length_map, List.length_take]; omega
  have e2 : ls.drop k = x :: ls.drop (k + 1) := by rw [List.drop_eq_getElem_cons hk, hx]
  constructor
  · rw [endK, List.getElem?_append_right (by omega), e1, Nat.sub_self, e2]; rfl
  · rw [endK, endK, List.set_append_right _ _ (by omega), e1, Nat.sub_self, e2, List.set_cons_zero, List.take_add_one, h]
    simp
theorem lcells_set : ∀ (ls : List Ln) (k : Nat) (x y : Ln), ls[k]? = some x → x.1 = y.1 → lcells (ls.set k y) = (lcells ls).set (k * 2 + 1) (Li.encs y.2)
  | [], k, _, _, h, _ => by simp at h
  | z :: ls, 0, x, y, h, he => by
    simp at h; subst h
    simp [lcells, he]
  | z :: ls, k + 1, x, y, h, he => by
    have := lcells_set ls k x y (by simpa using h) he
    rw [List.set_cons_succ, lcells, lcells, this, show (k + 1) * 2 + 1 = k * 2 + 1 + 1 + 1 by omega, List.set_cons_succ, List.set_cons_succ]
theorem endK_last (e : Bs) (ls : List Ln) : endK e ls (ls.length - 1) = ended e ls := by rw [ended_eq]; rfl
theorem frozen_own {w : World} {base size n c g p : Nat} {e : TypeId} {xs : List Value} (h : w.ownsRow base e size (.slice (some ⟨g, 0, none⟩) n c) n xs) : w.frozen? ⟨g, p, none⟩ = false := by
  obtain ⟨h1, hr⟩ := h
  rcases hr with ⟨e1, _⟩ | ⟨g', cap, cur, e1, hg, hh, _⟩
  · cases e1
  · injection e1 with e1 _ e3
    injection e1 with e1
    injection e1 with e1 _ _
    subst e1
    simp [World.frozen?, hh]
theorem kid_size : ∀ {t : Tr} {e : ByteArray × Tr}, e ∈ eds t → e.2.size ≤ t.size
  | .cons s k r, e, he => by
    simp only [Tr.size]
    rcases List.mem_cons.1 he with rfl | he
    · dsimp only; omega
    · have := kid_size (t := r) he; omega
theorem flat_snoc {α β : Type} (f : α → List β) {l : List α} {j : Nat} {x : α} (h : l[j]? = some x) : (l.take (j + 1)).flatMap f = (l.take j).flatMap f ++ f x := by
  rw [List.take_add_one, h, List.flatMap_append]
  simp
theorem two_at (W : World) (x y : ByteArray) : (W.alloc (Obj.cells #[.string x, .string y] 9)).cell? ⟨W.heap.size, 0, none⟩ = some (.string x) ∧ (W.alloc (Obj.cells #[.string x, .string y] 9)).cell? ⟨W.heap.size, 1, none⟩ = some (.string y) :=
  ⟨by rw [cell_of_row _ _ _ _ _ _ (heap_alloc_new W _)]; rfl, by rw [cell_of_row _ _ _ _ _ _ (heap_alloc_new W _)]; rfl⟩
theorem subs_at : ∀ {t : Tr} {i : Nat} {s : ByteArray} {k r : Tr}, t.dropT i = .cons s k r → (subs t)[i]? = some k
  | .nil, i, s, k, r, h => by rw [drop_len .nil i (Nat.zero_le _)] at h; cases h
  | .cons a b c, 0, s, k, r, h => by rw [dropT_zero] at h; injection h with _ h2 _; subst h2; rfl
  | .cons a b c, i + 1, s, k, r, h => by
    have h2 : c.dropT i = .cons s k r := h
    rw [subs, List.getElem?_cons_succ]
    exact subs_at h2
theorem row_holds {w6 : World} {B base n c : Nat} {A : Option Addr} {u : Tr} {vs : List Value} (hE : Edg w6 base 0 A n c u vs) (hR : Jd.RowP w6 (· < B) vs u) : HoldsP w6 (fun b => b < B ∨ (base ≤ b ∧ b < w6.heap.size)) A n u := by
  have hn := hE.len
  rcases hE.own.2 with ⟨e1, e2⟩ | ⟨g, cap, cur, e1, hg, hh, _⟩
  · subst e2
    cases u with
    | nil => rfl
    | cons _ _ _ => simp [Tr.len] at hn
  · injection e1 with a1 a2 a3
    subst a1
    have hc : ∀ j u, vs[j]? = some u → w6.cell? ⟨g, 0 + j, none⟩ = some u := fun j u hu => by
      have := rowCells hE.own j u hu
      rw [Addr.add_lit] at this
      exact this
    have hrow := (hR.more (P' := fun b => b < B ∨ (base ≤ b ∧ b < w6.heap.size)) fun b hb => .inl hb).holds (g := g) (.inr ⟨hg, (Array.getElem?_eq_some_iff.1 hh).1⟩) hc
    rw [hn]
    exact hrow
def allL (ps : List Pt) (E : Bs) (t : Tr) : List Ln := ps.flatMap (putPart t E) ++ (freshS t ps).flatMap (secL E)
theorem allL_sz {ps : List Pt} {E : Bs} {t : Tr} (hE : E.length ≤ 4000) (ht : N80 t) (hr : ∀ p ∈ ps, ∀ r ∈ p.rows, Ok1 r) : ∀ x ∈ allL ps E t, Sz x := by
  intro x hx
  rcases List.mem_append.1 hx with hx | hx
  · obtain ⟨p, hp, hx⟩ := List.mem_flatMap.1 hx
    exact putPart_sz hE ht (hr p hp) x hx
  · obtain ⟨e, he, hx⟩ := List.mem_flatMap.1 hx
    have h1 := eds_n80 ht (List.mem_filter.1 he).1
    exact secL_sz hE h1.1 h1.2 x hx

set_option maxHeartbeats 16000000 in
theorem fput_any (ps : List Pt) (t : Tr) (E : ByteArray) (Ap Ax A : Option Addr) (np cp nx cx n c : Nat) (w : World) (ht : Holds w w.heap.size A n t) (hf : FitT t) (hp : PartsP w (· < w.heap.size) Ap np ps) (hnp : np ≤ 9000) (hr : ∀ p ∈ ps, p.rows.length ≤ 9000 ∧ ∀ r ∈ p.rows, Ok1 r) (hE : E.size ≤ 4000) :
    Calls Tryz.prog 40 #[.agg #[.slice Ap np cp, .string E, .slice Ax nx cx], .slice A n c] w fun en w' => en = .returned (Li.encs (putI ps E.data.toList t)) ∧ Below w.heap.size w w' := by
  obtain ⟨W1, hW1⟩ : ∃ W, W = w.alloc (Obj.cells #[.slice Ap np cp, .string E, .slice Ax nx cx] 59) := ⟨_, rfl⟩
  have hb1 : Below w.heap.size w W1 := by rw [hW1]; exact (Below.refl _ _).alloc (Nat.le_refl _) _
  have hg1 : W1.heap[w.heap.size]? = some (Obj.cells #[.slice Ap np cp, .string E, .slice Ax nx cx] 59) := by rw [hW1]; exact heap_alloc_new w _
  have hl1 := (Array.getElem?_eq_some_iff.1 hg1).1
  have HK := Lib.hid (fun (W : World) (hW : Below W1.heap.size W1 W) => (⟨(hW.cell (p := ⟨w.heap.size, 0, none⟩) hl1).trans (by rw [cell_of_row _ _ _ _ _ _ hg1]; rfl), (hW.cell (p := ⟨w.heap.size, 1, none⟩) hl1).trans (by rw [cell_of_row _ _ _ _ _ _ hg1]; rfl)⟩ : W.cell? ⟨w.heap.size, 0, none⟩ = some (.slice Ap np cp) ∧ W.cell? ⟨w.heap.size, 1, none⟩ = some (.string E)))
  have HB1 := Lib.hid hb1
  have Hp1 := Lib.hid ((hp.below hb1).more (P' := (· < W1.heap.size)) fun q hq => Nat.lt_of_lt_of_le hq hb1.size)
  have Hlp := Lib.hid hp.len
  have Ht1 := Lib.hid ((ht.below hb1).more hb1.size)
  have Hlt1 := Lib.hid ht.len
  have Hf := Lib.hid hf
  have Hr := Lib.hid hr
  have HE := Lib.hid hE
  have hEl : E.data.toList.length = E.size := rfl
  have hsz := allL_sz (ps := ps) (E := E.data.toList) (by rw [hEl]; exact hE) hf.n80 (fun p hp => (hr p hp).2)
  have Hsz := Lib.hid hsz
  have hns : n ≤ 400 := by have := ht.len; have := t.len_size; have := hf.size; omega
  clear hb1 hg1 hp ht hf hr hE hEl hsz
  go_enter Tryz.func40, Tryz.ntmps40
  go_upto_region 1 with (fail)
  rw [← hW1]
  clear hW1
  obtain ⟨l0, l1⟩ := HK.out W1 (Below.refl _ _)
  go_wp2_with fail
  go_loopw [5, 14] (fun a i wr => ∃ (j : Nat) (A5 : Option Addr) (c5 N : Nat), j ≤ np ∧ i = .int .i64 j ∧ a = .slice A5 N c5 ∧ Hid (OwnL wr W1.heap.size A5 N c5 ((ps.take j).flatMap (putPart t E.data.toList))) ∧ Hid (N ≤ j * 20000) ∧ Hid (Below W1.heap.size W1 wr)) (fun _ i _ => np - (intOf i).toNat)
  case atStart => exact ⟨0, none, 0, 0, Nat.zero_le _, rfl, rfl, Lib.hid (World.ownsRow_nil _ _ _ _), Lib.hid (Nat.le_refl _), Lib.hid (Below.refl _ _)⟩
  case round =>
    obtain ⟨j, A5, c5, N, hj, rfl, rfl, HO, HN, HW⟩ := hrel
    by_cases hlt : j < np
    · have hjl : j < ps.length := by have := Hlp.out; omega
      obtain ⟨x, hx⟩ : ∃ x, ps[j]? = some x := ⟨_, List.getElem?_eq_getElem hjl⟩
      have hxm := List.mem_of_getElem? hx
      obtain ⟨b, o, Af, nf, cf, hAe, hbl, hc1, hc2, hrows, hnf, hcf⟩ := (Hp1.out.below HW.out).at_ hx
      subst hAe
      have hkn : (j : Int) < (np : Int) := by omega
      have hk0 : (0 : Int) ≤ (j : Int) := by omega
      obtain ⟨V1, hV1⟩ : ∃ W, W = wr.alloc (Obj.cells #[.string ⟨x.name.toArray⟩, .slice Af nf cf] 108) := ⟨_, rfl⟩
      have hbv : Below wr.heap.size wr V1 := by rw [hV1]; exact (Below.refl _ _).alloc (Nat.le_refl _) _
      have hgv : V1.heap[wr.heap.size]? = some (Obj.cells #[.string ⟨x.name.toArray⟩, .slice Af nf cf] 108) := by rw [hV1]; exact heap_alloc_new wr _
      have hv0 : V1.cell? ⟨wr.heap.size, 0, none⟩ = some (.string ⟨x.name.toArray⟩) := by rw [cell_of_row _ _ _ _ _ _ hgv]; rfl
      have hv1 : V1.cell? ⟨wr.heap.size, 1, none⟩ = some (.slice Af nf cf) := by rw [cell_of_row _ _ _ _ _ _ hgv]; rfl
      have hbV := HW.out.trans (hbv.mono HW.out.size)
      obtain ⟨f0, f1⟩ := HK.out V1 hbV
      have hPp := pput_any t x E Af A nf cf n c V1 ((Ht1.out.below hbV).more hbV.size) Hf.out ((hrows.keep (w' := V1) fun b o hb => hbv.cell (p := ⟨b, o, none⟩) (Nat.lt_of_lt_of_le hb HW.out.size)).more fun q hq => Nat.lt_of_lt_of_le hq hbV.size) (by have := hrows.len; have := (Hr.out x hxm).1; omega) (Hr.out x hxm).2
      have hml : (putPart t E.data.toList x).length ≤ 20000 := by
        have h1 := putPart_len t E.data.toList x
        have := (Hr.out x hxm).1
        have := Hf.out.size
        have := t.len_size
        omega
      have hst := flat_snoc (putPart t E.data.toList) hx
      obtain ⟨M, hM⟩ : ∃ M, M = putPart t E.data.toList x := ⟨_, rfl⟩
      rw [← hM] at hPp hml hst
      have HPp := Lib.hid hPp
      have Hml := Lib.hid hml
      have Hst := Lib.hid hst
      have HbV := Lib.hid hbV
      have HOV := Lib.hid (HO.out.below hbv)
      have Hlt := Lib.hid hlt
      have hN46 : N + M.length ≤ 1099511627776 := by have := HN.out; omega
      obtain ⟨ml, hml2⟩ : ∃ ml, ml = M.length := ⟨_, rfl⟩
      clear hlt hx hxm hjl hrows hnf hcf hbv hgv hbV hPp hml hst hM HO HW
      go_upto_region 5 with (fail)
      rw [← hV1]
      clear hV1
      go_wp2_with (first
        | (go_at_call 62; (with_reducible refine HPp.out.mono ?_); rintro e4 w4 ⟨A4, c4, rfl, ho4, hb4⟩; have HO4 := Lib.hid (HOV.out.below hb4); have HW4 := Lib.hid (HbV.out.trans (hb4.mono HbV.out.size)); have h4z : W1.heap.size ≤ w4.heap.size := HW4.out.size)
        | (at_builtin; refine wpList_append_row rfl (.tmp 18) (.tmp 23) _ _ rfl elem_line rfl rfl HO4.out (OwnL.sees ho4).src hN46 h4z ?_; intro A8 c8 w8 ho8 hg8 hat8))
      have HP : Hid (OwnL w8 W1.heap.size A8 (N + M.length) c8 ((ps.take (j + 1)).flatMap (putPart t E.data.toList))) := Lib.hid (by rw [Hst.out, OwnL, lcells_append]; exact ho8)
      have HW8 : Hid (Below W1.heap.size W1 w8) := Lib.hid (HW4.out.grown hg8 h4z (fun q hq => (HO4.out.lt q hq).1))
      clear ho8 hg8 hat8 ho4 hb4
      go_wp2_with fail
      go_roundw
      case rel => exact ⟨j + 1, A8, c8, N + M.length, Hlt.out, by go_num, rfl, HP, Lib.hid (by have := HN.out; have := Hml.out; omega), HW8⟩
      case measure => have := Hlt.out; simp [intOf]; omega
    · obtain rfl : j = np := by omega
      have hO := HO.out
      rw [List.take_of_length_le (by rw [← Hlp.out]; exact Nat.le_refl _)] at hO
      have HO1 := Lib.hid hO
      obtain ⟨q0, q1⟩ := HK.out wr HW.out
      have hWo := withoutP_any t ps A Ap n c j cp W1.heap.size wr (Ht1.out.below HW.out) HW.out.size ((Hp1.out.below HW.out).more fun q hq => Nat.lt_of_lt_of_le hq HW.out.size) (by omega) (by omega)
      have HWo := Lib.hid hWo
      clear hlt hO hWo HO
      go_upto_region 7 with (fail)
      go_wp2_with (go_at_call 63; (with_reducible refine HWo.out.mono ?_); rintro e6 w6 ⟨A6, c6, N6, vs6, rfl, hE6, hRo6, hb6⟩)
      obtain ⟨u, hu⟩ : ∃ u, u = ofL ((eds t).filter fun e => !(ps.any fun p => e.1.data.toList == p.name)) := ⟨_, rfl⟩
      rw [← hu] at hE6 hRo6
      have HPu := Lib.hid (row_holds hE6 (hRo6.keep (w' := w6) fun b o hb => hb6.cell (p := ⟨b, o, none⟩) (Nat.lt_of_lt_of_le hb HW.out.size)))
      have HOd0 := Lib.hid (fun g (hg : (Value.slice A5 N c5).ownBlock = some g) => HO1.out.lt g hg)
      have heu : eds u = freshS t ps := by rw [hu, eds_ofL]; rfl
      have HO6 := Lib.hid (HO1.out.below hb6)
      have HW6 := Lib.hid (HW.out.trans (hb6.mono HW.out.size))
      have Hh6 := Lib.hid (hE6.holds (Nat.zero_le _))
      have Hl6 := Lib.hid hE6.len
      have hN6 : N6 ≤ 400 := by have h7 := filter_len (fun e => !(ps.any fun p => e.1.data.toList == p.name)) t; rw [← hu] at h7; have := hE6.len; have := Hf.out.size; have := t.len_size; omega
      have Hfit := Lib.hid (show allT fsB u = true by rw [hu]; exact allT_filter fsB _ Hf.out.fit)
      have Hn80 := Lib.hid (show N80 u by rw [hu]; exact n80_filter _ Hf.out.n80)
      have Hsub := Lib.hid (show ∀ e ∈ eds u, e.2.size ≤ 400 from fun e he => by
        rw [heu] at he
        have := kid_size (List.mem_filter.1 he).1
        have := Hf.out.size
        omega)
      have Heu := Lib.hid heu
      have h96 : wr.heap.size ≤ w6.heap.size := hb6.size
      clear hE6 hb6 hu heu hRo6
      obtain ⟨zz, hzz⟩ : ∃ z, z = wr.heap.size := ⟨_, rfl⟩
      rw [← hzz] at HPu HOd0 h96
      have H96 := Lib.hid h96
      clear hzz HO1 h96
      go_loopw [5, 31] (fun a i wr => ∃ (l : Nat) (A5 : Option Addr) (c5 M : Nat), l ≤ N6 ∧ i = .int .i64 l ∧ a = .slice A5 M c5 ∧ Hid (OwnL wr W1.heap.size A5 M c5 (ps.flatMap (putPart t E.data.toList) ++ ((eds u).take l).flatMap (secL E.data.toList))) ∧ Hid (M ≤ j * 20000 + l * 1000) ∧ Hid (∀ g, (Value.slice A5 M c5).ownBlock = some g → (W1.heap.size ≤ g ∧ g < zz) ∨ w6.heap.size ≤ g) ∧ Hid (w6.heap.size ≤ wr.heap.size ∧ Below W1.heap.size W1 wr ∧ ∀ b, b < w6.heap.size → (b < W1.heap.size ∨ zz ≤ b) → wr.heap[b]? = w6.heap[b]?)) (fun _ i _ => N6 - (intOf i).toNat)
      case atStart => exact ⟨0, A5, c5, N, Nat.zero_le _, rfl, rfl, Lib.hid (by rw [List.take_zero]; simpa using HO6.out), Lib.hid (by have := HN.out; omega), Lib.hid (fun g hg => .inl (HOd0.out g hg)), Lib.hid ⟨Nat.le_refl _, HW6.out, fun _ _ _ => rfl⟩⟩
      case round =>
        obtain ⟨l, A5, c5, M, hl, rfl, rfl, HO, HM, HOd, HX⟩ := hrel
        by_cases hlt : l < N6
        · have hPw := HPu.out.keep (w' := wr) fun b o hb => World.cell?_of_block (w := w6) (w' := wr) (a := ⟨b, o, none⟩) (HX.out.2.2 b (by rcases hb with hb | hb; exact Nat.lt_of_lt_of_le hb HW6.out.size; exact hb.2) (hb.imp id fun h => h.1))
          have hPs : ∀ b, (b < W1.heap.size ∨ (zz ≤ b ∧ b < w6.heap.size)) → b < w6.heap.size := fun b hb => by rcases hb with hb | hb; exact Nat.lt_of_lt_of_le hb HW6.out.size; exact hb.2
          obtain ⟨b, q, s, kt, r, A', n', c', hAq, hbl, hs1, hc1, hn', hm', hk', hr', hd, hdd2⟩ := (hPw.to (B := wr.heap.size) fun b hb => Nat.lt_of_lt_of_le (hPs b hb) HX.out.1).split l hlt
          subst hAq
          obtain ⟨A'', n'', c'', hcc, _, _, hkp⟩ := HoldsP.sub hPw (subs_at hd)
          have hcc2 : some (Value.slice A'' n'' c'') = some (Value.slice A' n' c') := by rw [← hcc, ← hc1]
          injection hcc2 with hcc2
          injection hcc2 with ea en2 ec
          subst ea; subst en2; subst ec
          have Hkp := Lib.hid hkp
          have HPs := Lib.hid hPs
          clear hcc hkp hPw hPs
          have hat := eds_at hd
          have hmem := List.mem_of_getElem? hat
          have hfs := allT_at Hfit.out hd
          unfold fsB at hfs
          rw [Bool.and_eq_true] at hfs
          have hn8 := eds_n80 Hn80.out hmem
          have hks := Hsub.out _ hmem
          dsimp only at hks hn8
          have hkn : (l : Int) < (N6 : Int) := by omega
          have hk0 : (0 : Int) ≤ (l : Int) := by omega
          have ha1 := fun W => run_string_add_sum (P := Tryz.prog) (w := W) ⟨#[91]⟩ s (by have : (⟨#[91]⟩ : ByteArray).size = 1 := rfl; omega)
          have ha2 := fun W => run_string_add_sum (P := Tryz.prog) (w := W) (⟨#[91]⟩ ++ s) ⟨#[93]⟩ (by rw [ByteArray.size_append]; have : (⟨#[91]⟩ : ByteArray).size = 1 := rfl; have : (⟨#[93]⟩ : ByteArray).size = 1 := rfl; omega)
          have hsec : secL E.data.toList (s, kt) = ((⟨#[91]⟩ ++ s ++ ⟨#[93]⟩ : ByteArray).data.toList, E.data.toList) :: (eds kt).map (keyL E.data.toList) := by
            rw [secL, ByteArray.data_append, Array.toList_append, ByteArray.data_append, Array.toList_append]
          obtain ⟨t1, ht1⟩ : ∃ t1, t1 = (⟨#[91]⟩ : ByteArray) ++ s := ⟨_, rfl⟩
          rw [← ht1] at ha1 ha2 hsec
          obtain ⟨t2, ht2⟩ : ∃ t2, t2 = t1 ++ (⟨#[93]⟩ : ByteArray) := ⟨_, rfl⟩
          rw [← ht2] at ha2 hsec
          have hst := flat_snoc (secL E.data.toList) hat
          rw [hsec] at hst
          have hkl := hk'.len
          have hks2 := kt.len_size
          obtain ⟨V1, hV1⟩ : ∃ W, W = wr.alloc (Obj.cells #[.string s, .slice A'' n'' c''] 56) := ⟨_, rfl⟩
          have hbv : Below wr.heap.size wr V1 := by rw [hV1]; exact (Below.refl _ _).alloc (Nat.le_refl _) _
          have hgv : V1.heap[wr.heap.size]? = some (Obj.cells #[.string s, .slice A'' n'' c''] 56) := by rw [hV1]; exact heap_alloc_new wr _
          have hvl := (Array.getElem?_eq_some_iff.1 hgv).1
          have hv0 : V1.cell? ⟨wr.heap.size, 0, none⟩ = some (.string s) := by rw [cell_of_row _ _ _ _ _ _ hgv]; rfl
          have hv1 : V1.cell? ⟨wr.heap.size, 1, none⟩ = some (.slice A'' n'' c'') := by rw [cell_of_row _ _ _ _ _ _ hgv]; rfl
          have hbW := HX.out.2.1.trans (hbv.mono HX.out.2.1.size)
          have Hbv := Lib.hid hbv
          have Hwz := Lib.hid HX.out.1
          obtain ⟨f0, f1⟩ := HK.out V1 hbW
          have Hv1 := Lib.hid hv1
          have Hvl := Lib.hid hvl
          have HOl := Lib.hid (fun g (hg : (Value.slice A5 M c5).ownBlock = some g) => HO.out.lt g hg)
          have HOV := Lib.hid (HO.out.below hbv)
          have HbW := Lib.hid hbW
          have Hst := Lib.hid hst
          have Hfk := Lib.hid (And.intro hfs.2 hn8.2)
          have Hlt := Lib.hid hlt
          have hM1 : M + 1 ≤ 1099511627776 := by have := HM.out; omega
          have hM2 : M + 1 + n'' ≤ 1099511627776 := by have := HM.out; omega
          have hn4 : n'' ≤ 400 := by omega
          have hvz : W1.heap.size ≤ V1.heap.size := hbW.size
          clear hlt hat hmem hfs hn8 hks hsec ht1 ht2 hst hkl hks2 hbv hgv hvl hbW hn' hm' hk' hr' hd hdd2 HO
          go_upto_region 10 with (fail)
          rw [← hV1]
          clear hV1
          go_upto_region 11 with (at_builtin; refine wpList_append_row rfl (.tmp 35) (.tmp 43) _ _ rfl elem_line rfl rfl (HOV.out.alloc _) (src_lineV V1 t2 E _ rfl) hM1 (by simp; omega) ?_; intro A8 c8 w8 ho8 hg8 hat8)
          have hal : Below V1.heap.size V1 (V1.alloc (Obj.cells #[Value.string t2, Value.string E] 85)) := (Below.refl _ _).alloc (Nat.le_refl _) _
          have hW8 : Below W1.heap.size W1 w8 := (HbW.out.trans (hal.mono HbW.out.size)).grown hg8 (Nat.le_trans hvz hal.size) (fun q hq => (HOV.out.lt q hq).1)
          have hown6 : ∀ q, (Value.slice A5 M c5).ownBlock = some q → q < wr.heap.size := fun q hq => (HOl.out q hq).2
          have hV8 : ∀ q, q < V1.heap.size → some q ≠ (Value.slice A5 M c5).ownBlock → w8.heap[q]? = V1.heap[q]? := fun q hq hn => (hg8.block q (Nat.lt_of_lt_of_le hq hal.size) hn).trans (hal.block q hq)
          have hx1 : w8.cell? ⟨wr.heap.size, 1, none⟩ = some (.slice A'' n'' c'') := (World.cell?_of_block (hV8 wr.heap.size Hvl.out (fun e => Nat.lt_irrefl _ (hown6 wr.heap.size e.symm)))).trans Hv1.out
          obtain ⟨f2, f3⟩ := HK.out w8 hW8
          have HO8 : Hid (OwnL w8 W1.heap.size A8 (M + 1) c8 (ps.flatMap (putPart t E.data.toList) ++ ((eds u).take l).flatMap (secL E.data.toList) ++ [(t2.data.toList, E.data.toList)])) := Lib.hid (by rw [OwnL, lcells_append]; exact ho8)
          have HW8 := Lib.hid hW8
          have hzr : wr.heap.size ≤ V1.heap.size := Hbv.out.size
          have hz6 : w6.heap.size ≤ V1.heap.size := Nat.le_trans Hwz.out hzr
          have hz68 : w6.heap.size ≤ w8.heap.size := by have := hg8.size; have := hal.size; omega
          have hk8 : Holds w8 w8.heap.size A'' n'' kt := by
            refine ((Hkp.out.keep (w' := w8) fun b o hb => ?_).more (P' := (· < w8.heap.size)) fun b hb => ?_).to fun _ hb => hb
            · have hb6 : b < w6.heap.size := by
                rcases hb with hb | hb
                · exact Nat.lt_of_lt_of_le hb HW6.out.size
                · exact hb.2
              refine (World.cell?_of_block (w := V1) (w' := w8) (a := ⟨b, o, none⟩) (hV8 b (Nat.lt_of_lt_of_le hb6 hz6) (fun e => ?_))).trans (Hbv.out.cell (p := ⟨b, o, none⟩) (Nat.lt_of_lt_of_le hb6 Hwz.out))
              have hH := H96.out
              rcases HOd.out b e.symm with h1 | h1
              · rcases hb with hb | hb <;> omega
              · omega
            · rcases hb with hb | hb
              · exact Nat.lt_of_lt_of_le hb hW8.size
              · exact Nat.lt_of_lt_of_le hb.2 hz68
          have HOd8 : Hid (∀ g, (Value.slice A8 (M + 1) c8).ownBlock = some g → (W1.heap.size ≤ g ∧ g < zz) ∨ w6.heap.size ≤ g) := Lib.hid (fun g hg => by
            cases A8 with
            | none => cases hg
            | some a =>
              have e : a.block = g := by injection hg
              rcases hat8 a rfl with h1 | h1
              · have := hal.size; exact .inr (by omega)
              · exact HOd.out g (by rw [← h1, e]))
          have HKl := Lib.hid (keyLines_any kt E A'' n'' c'' w8 hk8 (by omega) Hfk.out.1 Hfk.out.2)
          have h8z : W1.heap.size ≤ w8.heap.size := hW8.size
          have H68 := Lib.hid hz68
          have H86 : Hid (∀ b, b < w6.heap.size → (b < W1.heap.size ∨ zz ≤ b) → w8.heap[b]? = w6.heap[b]?) := Lib.hid (fun b hb hc => by
            have h1 : some b ≠ (Value.slice A5 M c5).ownBlock := fun e => by
              rcases HOd.out b e.symm with h1 | h1
              · rcases hc with hc | hc <;> omega
              · omega
            exact (hV8 b (Nat.lt_of_lt_of_le hb hz6) h1).trans ((Hbv.out.block b (Nat.lt_of_lt_of_le hb Hwz.out)).trans (HX.out.2.2 b hb hc)))
          clear hz68
          clear ho8 hg8 hat8 hal hW8 hV8 hk8 f2
          have f3' := f3
          go_wp2_with (first
            | (go_at_call 65; (with_reducible refine HKl.out.mono ?_); rintro e9 w9 ⟨A9, c9, rfl, ho9, hb9⟩; have HO9 := Lib.hid (HO8.out.below hb9); have HW9 := Lib.hid (HW8.out.trans (hb9.mono HW8.out.size)); have h9z : W1.heap.size ≤ w9.heap.size := HW9.out.size)
            | (at_builtin; refine wpList_append_row rfl (.tmp 45) (.tmp 50) _ _ rfl elem_line rfl rfl HO9.out (OwnL.sees ho9).src hM2 h9z ?_; intro A4 c4 w4 ho4 hg4 hat4))
          have HP : Hid (OwnL w4 W1.heap.size A4 (M + 1 + n'') c4 (ps.flatMap (putPart t E.data.toList) ++ ((eds u).take (l + 1)).flatMap (secL E.data.toList))) := Lib.hid (by
            rw [Hst.out]
            have e : ps.flatMap (putPart t E.data.toList) ++ (((eds u).take l).flatMap (secL E.data.toList) ++ ((t2.data.toList, E.data.toList) :: (eds kt).map (keyL E.data.toList))) = (ps.flatMap (putPart t E.data.toList) ++ ((eds u).take l).flatMap (secL E.data.toList) ++ [(t2.data.toList, E.data.toList)]) ++ (eds kt).map (keyL E.data.toList) := by simp
            rw [e, OwnL, lcells_append]
            exact ho4)
          have HOd4 : Hid (∀ g, (Value.slice A4 (M + 1 + n'') c4).ownBlock = some g → (W1.heap.size ≤ g ∧ g < zz) ∨ w6.heap.size ≤ g) := Lib.hid (fun g hg => by
            cases A4 with
            | none => cases hg
            | some a =>
              have e : a.block = g := by injection hg
              rcases hat4 a rfl with h1 | h1
              · have := hb9.size; have := H68.out; exact .inr (by omega)
              · exact HOd8.out g (by rw [← h1, e]))
          have HX4 : Hid (w6.heap.size ≤ w4.heap.size ∧ Below W1.heap.size W1 w4 ∧ ∀ b, b < w6.heap.size → (b < W1.heap.size ∨ zz ≤ b) → w4.heap[b]? = w6.heap[b]?) := Lib.hid ⟨Nat.le_trans H68.out (Nat.le_trans hb9.size hg4.size), HW9.out.grown hg4 h9z (fun q hq => (HO9.out.lt q hq).1), fun b hb hc => by
            have h1 : some b ≠ (Value.slice A8 (M + 1) c8).ownBlock := fun e => by
              rcases HOd8.out b e.symm with h1 | h1
              · rcases hc with hc | hc <;> omega
              · omega
            exact (hg4.block b (Nat.lt_of_lt_of_le hb (Nat.le_trans H68.out hb9.size)) h1).trans ((hb9.block b (Nat.lt_of_lt_of_le hb H68.out)).trans (H86.out b hb hc))⟩
          have hm4 : M + 1 + n'' ≤ j * 20000 + (l + 1) * 1000 := by have := HM.out; omega
          have Hm4 := Lib.hid hm4
          clear ho4 hg4 hat4 ho9 hb9 hm4
          go_wp2_with fail
          go_roundw
          case rel => exact ⟨l + 1, A4, c4, M + 1 + n'', Hlt.out, by go_num, rfl, HP, Hm4, HOd4, HX4⟩
          case measure => have := Hlt.out; simp [intOf]; omega
        · obtain rfl : l = N6 := by omega
          have hO := HO.out
          rw [List.take_of_length_le (by rw [eds_len, ← Hl6.out]; exact Nat.le_refl _), Heu.out] at hO
          have hL : ps.flatMap (putPart t E.data.toList) ++ (freshS t ps).flatMap (secL E.data.toList) = allL ps E.data.toList t := rfl
          rw [hL] at hO
          obtain ⟨LL, hLL⟩ : ∃ LL, LL = allL ps E.data.toList t := ⟨_, rfl⟩
          rw [← hLL] at hO
          have hres : putI ps E.data.toList t = join (ended E.data.toList LL) := by rw [hLL]; rfl
          have hszL : ∀ x ∈ ended E.data.toList LL, Sz x := ended_sz HE.out LL (by rw [hLL]; exact Hsz.out)
          have hMl := hO.sees.len
          have hjl : (join (ended E.data.toList LL)).length ≤ 140737488355328 := by
            have h1 := join_sz _ hszL
            rw [ended_size] at h1
            have := HM.out
            omega
          have Hres := Lib.hid hres
          have Hjl := Lib.hid hjl
          have HO2 := Lib.hid hO
          have HMl := Lib.hid hMl
          have HXw := Lib.hid HX.out.2.1
          have hMb : M ≤ 1000000000 := by have := HM.out; omega
          clear hlt hO hL hLL hres hszL hMl hjl HO HX
          cases M with
          | zero =>
            have hnil : LL = [] := List.eq_nil_of_length_eq_zero HMl.out.symm
            subst hnil
            have hwm : IntKind.i64.wrap (-1 : Int) = -1 := by decide
            go_wp2_with fail
            go_loopw [56] (fun i wr => i = .int .i64 0 ∧ Hid (Below W1.heap.size W1 wr)) (fun _ _ => 0)
            case atStart => exact ⟨rfl, HXw⟩
            case round =>
              obtain ⟨rfl, HY⟩ := hrel
              have hJ := join_any [] A5 0 c5 wr.heap.size wr (Nat.le_refl _) (SeesL.nil _ _ _) (by omega) (by decide)
              have HJ := Lib.hid hJ
              clear hJ
              go_wp2_with fail
              (with_reducible refine HJ.out.mono ?_)
              rintro e9 w9 ⟨rfl, hb9⟩
              have HBf := Lib.hid (HB1.out.trans ((HY.out.trans (hb9.mono HY.out.size)).mono HB1.out.size))
              clear hb9
              go_wp2_with fail
              go_ret
              exact ⟨by rw [Hres.out]; rfl, HBf.out⟩
          | succ Q =>
            obtain ⟨g, hA, hgb, _⟩ : ∃ g, A5 = some ⟨g, 0, none⟩ ∧ W1.heap.size ≤ g ∧ True := by
              rcases own_form HO2.out with ⟨_, e, _⟩ | ⟨g, e, hg, _⟩
              · omega
              · exact ⟨g, e, hg, trivial⟩
            subst hA
            have hw1 : IntKind.i64.wrap ((Q : Int) + 1 - 1) = (Q : Int) := by rw [IntKind.wrap_i64]; omega
            have hw2 : IntKind.i64.wrap (Q : Int) = (Q : Int) := by rw [IntKind.wrap_i64]; omega
            go_wp2_with fail
            go_loopw [56] (fun i wr => ∃ k : Nat, k ≤ Q ∧ i = .int .i64 k ∧ Hid (OwnL wr W1.heap.size (some ⟨g, 0, none⟩) (Q + 1) c5 (endK E.data.toList LL k)) ∧ Hid (Below W1.heap.size W1 wr)) (fun i _ => Q - (intOf i).toNat)
            case atStart => exact ⟨0, Nat.zero_le _, rfl, Lib.hid (by rw [endK, List.take_zero, List.drop_zero]; exact HO2.out), HXw⟩
            case round =>
              obtain ⟨k, hk, rfl, HO, HY⟩ := hrel
              by_cases hlt : k < Q
              · have hkl : k < LL.length := by have := HMl.out; omega
                obtain ⟨x, hx⟩ : ∃ x, LL[k]? = some x := ⟨_, List.getElem?_eq_getElem hkl⟩
                obtain ⟨e1, e2⟩ := endK_at (e := E.data.toList) hx
                obtain ⟨b, o, hA, hbg, _, hc2⟩ := (OwnL.sees HO.out).at_ e1
                injection hA with hA
                injection hA with hA1 hA2
                subst hA1; subst hA2
                rw [Nat.zero_add] at hc2
                obtain ⟨z, hz⟩ : ∃ z : ByteArray, z = ⟨x.2.toArray⟩ := ⟨_, rfl⟩
                rw [show Li.encs x.2 = .string z by rw [hz]; rfl] at hc2
                have hzl : z.data.toList = x.2 := by rw [hz]
                obtain ⟨r2, hr2⟩ : ∃ r : ByteArray, r = ⟨(or2 x.2 E.data.toList).toArray⟩ := ⟨_, rfl⟩
                have hor : Li.encs (or2 z.data.toList E.data.toList) = .string r2 := by rw [hzl, hr2]; rfl
                have hset : lcells (endK E.data.toList LL (k + 1)) = (lcells (endK E.data.toList LL k)).set (k * 2 + 1) (.string r2) := by
                  rw [e2, lcells_set _ k x (x.1, or2 x.2 E.data.toList) e1 rfl, hr2]; rfl
                obtain ⟨_, hE1⟩ := HK.out wr HY.out
                have hfz := frozen_own (p := k * 2 + 1) HO.out
                have hkn : (k : Int) < (Q : Int) := by omega
                have hkn2 : (k : Int) < (Q : Int) + 1 := by omega
                have hk0 : (0 : Int) ≤ (k : Int) := by omega
                have hc3 : wr.drew.cell? ⟨g, k * 2 + 1, none⟩ = some (.string z) := hc2
                have hE2 : wr.drew.cell? ⟨w.heap.size, 1, none⟩ = some (.string E) := hE1
                have hwg : w.heap.size < wr.heap.size := World.block_lt_of_cell? wr ⟨w.heap.size, 1, none⟩ hE1
                have hcX : ∀ X : Obj, (wr.alloc X).cell? ⟨g, k * 2 + 1, none⟩ = some (.string z) := fun X => (World.cell?_alloc_lt _ _ _ hbg).trans hc2
                have hcE : ∀ X : Obj, (wr.alloc X).cell? ⟨w.heap.size, 1, none⟩ = some (.string E) := fun X => (World.cell?_alloc_lt _ _ _ hwg).trans hE1
                have hfX : ∀ X : Obj, (wr.alloc X).frozen? ⟨g, k * 2 + 1, none⟩ = false := fun X => (World.frozen?_of_block (Below.heap_alloc wr _ _ hbg)).trans hfz
                have hOr : ∀ W : World, W.cell? ⟨wr.heap.size, 0, none⟩ = some (.string z) → W.cell? ⟨wr.heap.size, 1, none⟩ = some (.string E) → Calls Tryz.prog 66 #[.slice (some ⟨wr.heap.size, 0, none⟩) 2 2] W fun e w' => e = .returned (.string r2) ∧ W = w' := fun W h0 h1 => by
                  have := or_any wr.heap.size z E W h0 h1
                  rw [hor] at this
                  exact this
                have HOr := Lib.hid hOr
                have Hset := Lib.hid hset
                have Hlt := Lib.hid hlt
                have Hbg := Lib.hid hbg
                obtain ⟨ta, tb⟩ := two_at wr z E
                clear hlt hkl hx e1 e2 hz hzl hr2 hor hset hOr hfz
                go_upto_region 16 with (fail)
                go_region_with (go_at_call 66; refine (HOr.out _ (by exact ta) (by exact tb)).mono ?_; rintro e w7 ⟨rfl, rfl⟩)
                all_goals
                  have HO7 : Hid (OwnL (wr.setCell ⟨g, k * 2 + 1, none⟩ (.string r2)) W1.heap.size (some ⟨g, 0, none⟩) (Q + 1) c5 (endK E.data.toList LL (k + 1))) := Lib.hid (by
                    have h5 := store_own (p := k * 2 + 1) HO.out (.string r2)
                    rw [OwnL, Hset.out]
                    exact h5)
                  have hY7 := HY.out.setCell (p := ⟨g, k * 2 + 1, none⟩) hgb (.string r2)
                  have HY7 := Lib.hid hY7
                  clear hY7
                  go_wp2_with fail
                  go_roundw
                  case rel => exact ⟨k + 1, Hlt.out, by go_num, Lib.hid (World.ownsRow.drew (World.ownsRow.alloc HO7.out _)), Lib.hid ((HY7.out.alloc HY7.out.size _).drew)⟩
                  case measure => have := Hlt.out; simp [intOf]; omega
              · obtain rfl : k = Q := by omega
                have hO := HO.out
                have e9 : endK E.data.toList LL k = ended E.data.toList LL := by rw [← endK_last, ← HMl.out]; rfl
                rw [e9] at hO
                have hJ := join_any (ended E.data.toList LL) (some ⟨g, 0, none⟩) (k + 1) c5 wr.heap.size wr (Nat.le_refl _) hO.sees (by omega) Hjl.out
                have HJ := Lib.hid hJ
                clear hlt hO hJ e9
                go_wp2_with fail
                (with_reducible refine HJ.out.mono ?_)
                rintro e9 w9 ⟨rfl, hb9⟩
                have HBf := Lib.hid (HB1.out.trans ((HY.out.trans (hb9.mono HY.out.size)).mono HB1.out.size))
                clear hb9
                go_wp2_with fail
                go_ret
                exact ⟨by rw [Hres.out]; rfl, HBf.out⟩
end Go.Proofs.YtapgaglkkgbgkaaGreatDoor.In
