/- schema.Fits, walked. Conditions: fewer than 2^39 edges. -/
import Derived.Test.YtagoeededpmdkaaScFits
namespace Go.Proofs.Ytagoeededpmdkaa.Sc
open Go.RowKit Go.Proofs.Ytagoeededpmdkaa.Nm
set_option maxRecDepth 100000

theorem row_pos {w : World} {base N c : Nat} {A : Option Addr} {vs : List Value} (h : w.ownsRow base 150 2 (.slice A N c) N vs) {w' : World} (hb : Below w.heap.size w w') : w'.ownsRow base 150 2 (.slice A N c) N vs :=
  h.kept (row := none) ⟨hb.os, hb.tape, hb.output, hb.size, fun i hi _ => hb.block i hi⟩ (by cases hv : (Value.slice A N c).ownBlock <;> simp)

set_option maxHeartbeats 4000000 in
theorem fits_any (s : List Df) (t0 : Tr) (A : Option Addr) (n c B : Nat) (d0 : Int) (A0 : Option Addr) (n0 c0 : Nat) (w : World) (h : Ds w B A n s) (hfit : FitS s) (hB : B ≤ w.heap.size) (hn : n ≤ 9223372036854775807) (ht : Holds w B A0 n0 t0) (hsz : t0.size ≤ 549755813888) :
    Calls Try.prog 55 #[.slice A n c, .int .i64 d0, .slice A0 n0 c0] w fun e w' => e = .returned (.bool (fits s d0 t0)) ∧ Below w.heap.size w w' := by
  have HLv := Lib.hid (fun (W : World) (d : Int) (t : Tr) (A2 : Option Addr) (n2 c2 : Nat) (hb : Below w.heap.size w W) (ht : Holds W B A2 n2 t) (hn2 : n2 ≤ 140737488351232) => level_any s t A n c B d A2 n2 c2 W (h.below (hb.mono hB)) hfit (Nat.le_trans hB hb.size) hn ht hn2)
  have HTo := Lib.hid (fun (W : World) (d : Int) (x : ByteArray) (hb : Below w.heap.size w W) => to_any s A n c B d x W (h.below (hb.mono hB)) (Nat.le_trans hB hb.size) hn)
  clear h hfit
  obtain ⟨F, hF⟩ : ∃ F, F = fits s d0 t0 := ⟨_, rfl⟩
  have HF := Lib.hid hF
  rw [← hF]
  clear hF
  go_enter Try.func55, Try.ntmps55
  go_wp2_with fail
  go_loopg [7] (t0.size + 1) (fun k v wr => ∃ (L : List PL) (A1 : Option Addr) (N c1 : Nat) (b : Bool), k ≤ t0.size + 1 ∧ v = .slice A1 N c1 ∧ Hid (N = L.length) ∧ STodo wr B s L k b ∧ wr.ownsRow w.heap.size 150 2 (.slice A1 N c1) N (pls L) ∧ Hid (b = F) ∧ Below w.heap.size w wr)
  case atStart =>
    refine ⟨[⟨d0, A0, n0, c0⟩], _, 1, 1, true && fits s d0 t0, Nat.le_refl _, rfl, Lib.hid rfl, ?_, World.ownsRow_lit (base := w.heap.size) (e := 150) (size := 2) w #[Value.int .i64 d0, Value.slice A0 n0 c0] 1 (Nat.le_refl _) (by simp [maxLen]) rfl, by rw [Bool.true_and]; exact Lib.hid HF.out.symm, (Below.refl _ w).alloc (Nat.le_refl _) _⟩
    have := (STodo.cons (L := []) (x := ⟨d0, A0, n0, c0⟩) ht (STodo.nil (s := s))).keep (w' := w.alloc (Obj.cells #[Value.int .i64 d0, Value.slice A0 n0 c0] 150)) (fun p hp => World.cell?_alloc_lt _ _ _ (by omega))
    simpa using this
  case round =>
    obtain ⟨L, A1, N, c1, b, hk, rfl, HN, hT, hrow, Hb, hbw⟩ := hrel
    obtain ⟨wo, rfl⟩ : ∃ wo : World, wo = wr := ⟨_, rfl⟩
    cases hT with
    | nil =>
      obtain rfl : N = 0 := HN.out
      have hF2 : F = true := Hb.out.symm
      subst hF2
      go_wp2_with fail
      go_ret
      exact ⟨rfl, hbw⟩
    | @cons L x t m b h1 hT =>
      have hN2 : N = L.length + 1 := by rw [HN.out]; simp
      subst hN2
      obtain ⟨g, rfl, hg0, hg1, q0, q1, hc1, hcm, hrow2⟩ := row_last hrow
      unfold maxLen at hcm
      have hLl : L.length ≤ 549755813889 := by have := hT.len; omega
      obtain ⟨d, a1, n1, ca⟩ := x
      simp only at h1 q0 q1 Hb
      have hn1 : n1 ≤ 549755813889 := by have := h1.len; have := t.len_size; omega
      obtain ⟨K, hK⟩ : ∃ K, K = L.length := ⟨_, rfl⟩
      rw [← hK] at q0 q1 hc1 hrow2 hLl
      obtain ⟨W1, hW1⟩ : ∃ W, W = wo.alloc (Obj.cells #[Value.int .i64 d, Value.slice a1 n1 ca] 150) := ⟨_, rfl⟩
      have g0 : W1.heap[wo.heap.size]? = some (Obj.cells #[Value.int .i64 d, Value.slice a1 n1 ca] 150) := by rw [hW1, heap_alloc_new]
      have hb1 : Below wo.heap.size wo W1 := by rw [hW1]; exact (Below.refl _ _).alloc (Nat.le_refl _) _
      have hbW := hbw.trans (hb1.mono hbw.size)
      have HC := Lib.hid (HLv.out W1 d t a1 n1 ca hbW (h1.below (hb1.mono (Nat.le_trans hB hbw.size))) (by omega))
      obtain ⟨p0, p1, _, _⟩ := box2 g0
      have hcK : (K : Int) + 1 ≤ (c1 : Int) := by omega
      have hK0 : (0 : Int) ≤ (K : Int) := by omega
      have HK := Lib.hid hK
      have HG := Lib.hid g0
      have Hl1 := Lib.hid h1.len
      have HBW := Lib.hid hbW
      have HB1 := Lib.hid hb1
      obtain ⟨v, hv⟩ : ∃ v, v = lvl s d t := ⟨_, rfl⟩
      rw [← hv] at HC
      have Hv := Lib.hid hv
      clear hv hK hbW hb1 g0
      rw [← HK.out]
      cases v with
      | false =>
        have hF2 : F = false := by rw [← Hb.out, fits, ← Hv.out, Bool.false_and, Bool.and_false]
        subst hF2
        go_wp2_with fail
        rw [← hW1]
        go_wp2_with fail
        (with_reducible refine HC.out.mono ?_)
        rintro e w1 ⟨rfl, hb2⟩
        go_wp2_with fail
        go_ret
        exact ⟨rfl, HBW.out.trans (hb2.mono HBW.out.size)⟩
      | true =>
        go_wp2_with fail
        rw [← hW1]
        go_wp2_with fail
        (with_reducible refine HC.out.mono ?_)
        rintro e w1 ⟨rfl, hb2⟩
        have hbz := HBW.out.trans (hb2.mono HBW.out.size)
        have hbr : Below wo.heap.size wo w1 := HB1.out.trans (hb2.mono HB1.out.size)
        obtain ⟨r0, r1, _, _⟩ := box2 (Below.box hb2 HG.out)
        have hrow3 := row_pos hrow2 hbr
        have hT1 := hT.keep (w' := w1) fun p hp => hbr.cell (Nat.lt_of_lt_of_le hp (Nat.le_trans hB hbw.size))
        have h1' := h1.below (hbr.mono (Nat.le_trans hB hbw.size))
        have hq := (Below.box hb2 HG.out)
        have hsz1 : wo.heap.size < w1.heap.size := (Array.getElem?_eq_some_iff.1 hq).1
        go_wp2_with fail
        go_loopw [39, 7] (fun i v wl => ∃ (j : Nat) (L2 : List PL) (m2 : Nat) (b2 : Bool) (A2 : Option Addr) (N2 c2 : Nat), j ≤ n1 ∧ i = .int .i64 j ∧ v = .slice A2 N2 c2 ∧ Hid (N2 = L2.length) ∧ STodo wl B s L2 m2 b2 ∧ wl.ownsRow w.heap.size 150 2 (.slice A2 N2 c2) N2 (pls L2) ∧ Holds wl B a1 n1 t ∧ m2 + (t.dropT j).size = m + t.size ∧ Hid ((b2 && fitsK s d (t.dropT j)) = F) ∧ Below w.heap.size w wl ∧ w1.heap.size ≤ wl.heap.size ∧ wl.heap[wo.heap.size]? = some (Obj.cells #[Value.int .i64 d, Value.slice a1 n1 ca] 150) ∧ (Value.slice A2 N2 c2).ownBlock ≠ some wo.heap.size) (fun i _ _ => n1 - (intOf i).toNat)
        case atStart =>
          exact ⟨0, L, m, b, _, K, c1, Nat.zero_le _, rfl, rfl, Lib.hid HK.out, hT1, hrow3, h1', by rw [dropT_zero], by rw [dropT_zero, ← fits_split s d t b Hv.out.symm]; exact Lib.hid Hb.out, hbz, Nat.le_refl _, hq, by simp only [Value.ownBlock, ne_eq, Option.some.injEq]; omega⟩
        case round =>
          obtain ⟨j, L2, m2, b2, A2, N2, c2, hj, rfl, rfl, HN2, hT2, hrow4, hw1, hm2, Hb2, hbl, hsl, hbx, hnq⟩ := hrel
          by_cases hlt : j < n1
          · obtain ⟨b3, o3, nm, kt, r, A', n', c', rfl, hb3, hs, hc, hn', hc', hk', hr, hdr, hd2⟩ := hw1.split j hlt
            have hjn : (j : Int) < (n1 : Int) := by omega
            have hj0 : (0 : Int) ≤ (j : Int) := by omega
            have hN2 : N2 + 1 ≤ 1099511627776 := by have := hT2.len; have := HN2.out; omega
            have hLs : m2 + kt.size + 1 + (t.dropT (j + 1)).size = m + t.size := by
              rw [hd2]
              rw [hdr] at hm2
              simp only [Tr.size] at hm2
              omega
            have He : Hid (((b2 && fits s (toS s d nm.data.toList) kt) && fitsK s d (t.dropT (j + 1))) = F) := by
              have := Hb2.out
              rw [hdr, fitsK_cons, ← Bool.and_assoc] at this
              rw [hd2]
              exact Lib.hid this
            obtain ⟨W2, hW2⟩ : ∃ W, W = wr.alloc (Obj.cells #[Value.string nm, Value.slice A' n' c'] 32) := ⟨_, rfl⟩
            have g2 : W2.heap[wr.heap.size]? = some (Obj.cells #[Value.string nm, Value.slice A' n' c'] 32) := by rw [hW2, heap_alloc_new]
            have hb2 : Below wr.heap.size wr W2 := by rw [hW2]; exact (Below.refl _ _).alloc (Nat.le_refl _) _
            have hq2 : W2.heap[wo.heap.size]? = some (Obj.cells #[Value.int .i64 d, Value.slice (some ⟨b3, o3, none⟩) n1 ca] 150) := Below.box hb2 hbx
            obtain ⟨v, hv⟩ : ∃ v, v = toS s d nm.data.toList := ⟨_, rfl⟩
            have hbW2 : Below w.heap.size w W2.drew := (hbl.trans (hb2.mono hbl.size)).drew
            have HC := Lib.hid (HTo.out W2.drew d nm hbW2)
            rw [← hv] at HC He
            have Hbx := Lib.hid hbx
            have HB2 := Lib.hid hb2
            have HBl := Lib.hid hbl
            have hrl := hrow4.lt
            have Hrl := Lib.hid hrl
            have Hnq := Lib.hid hnq
            have HK := Lib.hid (fun W (hb : Below W2.heap.size W2 W) => (⟨(box2 (Below.box hb hq2)).1, (box2 (Below.box hb g2)).1, (box2 (Below.box hb g2)).2.1⟩ : W.cell? ⟨wo.heap.size, 0, none⟩ = some (.int .i64 d) ∧ W.cell? ⟨wr.heap.size, 0, none⟩ = some (.string nm) ∧ W.cell? ⟨wr.heap.size, 1, none⟩ = some (.slice A' n' c')))
            have hb0 : Below W2.heap.size W2 W2.drew := (Below.refl _ _).drew
            have hwrl : wr.heap.size < W2.heap.size := (Array.getElem?_eq_some_iff.1 g2).1
            have hwol : wo.heap.size < wr.heap.size := (Array.getElem?_eq_some_iff.1 hbx).1
            have hblz := hbl.size
            clear hv hdr hd2 hr hm2 Hb2 g2 hq2 hb2 hbl hrl hbW2 hnq
            go_wp2_with fail
            rw [← hW2]
            clear hW2
            go_wp2_with fail
            go_region_held3 (fun W => W.cell? ⟨wo.heap.size, 0, none⟩ = some (.int .i64 d) ∧ W.cell? ⟨wr.heap.size, 0, none⟩ = some (.string nm) ∧ W.cell? ⟨wr.heap.size, 1, none⟩ = some (.slice A' n' c'))
              (first | exact HS4 | exact HK.out _ (hb4.alloc hb4.size _) | exact HK.out _ hb4 | exact HK.out _ hb0)
              (first
              | (go_at_call 57; (with_reducible refine HC.out.mono ?_); rintro e w3 ⟨rfl, hb5⟩; have hb4 : Below W2.heap.size W2 w3 := hb0.trans hb5; have hb6 : Below wr.heap.size wr w3 := HB2.out.trans (hb4.mono HB2.out.size); have hz6 := hb6.size; have hrow5 := row_pos hrow4 hb6)
              | (refine step_append_row rfl (.tmp 43) (.tmp 53) _ _ rfl elem_place rfl rfl (hrow5.alloc _) (src_place w3 v A' n' c') hN2 (by simp; omega) ?_; intro A4 c4 w4 ho4 hg4 hat4; have HS4 : w4.cell? ⟨wo.heap.size, 0, none⟩ = some (.int .i64 d) ∧ w4.cell? ⟨wr.heap.size, 0, none⟩ = some (.string nm) ∧ w4.cell? ⟨wr.heap.size, 1, none⟩ = some (.slice A' n' c') := (have k := HK.out _ (hb4.alloc (o := Obj.cells #[Value.int .i64 v, Value.slice A' n' c'] 150) hb4.size); ⟨hg4.cell k.1 (fun e => Hnq.out e.symm), hg4.cell k.2.1 (fun e => by have := (Hrl.out _ e.symm).2; simp only at this; omega), hg4.cell k.2.2 (fun e => by have := (Hrl.out _ e.symm).2; simp only at this; omega)⟩)))
            all_goals
              have hgb : Below w.heap.size wr w4 := ((hb6.mono hblz).alloc (by omega) _).grown hg4 (by simp; omega) (fun k hk => (Hrl.out k hk).1)
              rw [← pls_append] at ho4
              go_wp2_with fail
              go_roundw
              case rel => exact ⟨j + 1, L2 ++ [⟨v, A', n', c'⟩], m2 + kt.size + 1, b2 && fits s v kt, A4, N2 + 1, c4, by omega, by go_num, rfl, Lib.hid (by rw [HN2.out]; simp), .cons (hk'.keep fun p hp => hgb.cell (Nat.lt_of_lt_of_le hp hB)) (hT2.keep fun p hp => hgb.cell (Nat.lt_of_lt_of_le hp hB)), ho4, hw1.keep fun p hp => hgb.cell (Nat.lt_of_lt_of_le hp hB), hLs, He, HBl.out.trans hgb, by have := hgb.size; have := hg4.size; simp at this; omega, (hg4.block _ (by simp; omega) (fun e => Hnq.out e.symm)).trans ((Below.heap_alloc _ _ _ (by omega)).trans ((hb6.block _ hwol).trans Hbx.out)), by
                cases A4 with
                | none => simp [Value.ownBlock]
                | some a =>
                  simp only [Value.ownBlock, ne_eq, Option.some.injEq]
                  rcases hat4 a rfl with e | e
                  · simp at e; omega
                  · intro e2
                    exact Hnq.out (by rw [← e, e2])⟩
              case measure => simp [intOf]; omega
          · obtain rfl : j = n1 := by omega
            have hnil := drop_len t j (by rw [← Hl1.out]; exact Nat.le_refl _)
            have He : Hid (b2 = F) := by
              have := Hb2.out
              rw [hnil] at this
              rw [← this]
              exact Lib.hid (by simp [fitsK])
            rw [hnil] at hm2
            simp only [Tr.size] at hm2
            clear Hb2 hnil hlt
            go_wp2_with fail
            go_roundg m2
            case measure => omega
            case rel => exact ⟨L2, A2, N2, c2, b2, by omega, rfl, HN2, hT2, hrow4, He, hbl⟩
end Go.Proofs.Ytagoeededpmdkaa.Sc
