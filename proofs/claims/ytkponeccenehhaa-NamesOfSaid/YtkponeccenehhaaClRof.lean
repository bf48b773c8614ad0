/- Of of the reference: a tree's edges parted by a set. Conditions: fewer than 2^39 edges, 2^61 names. -/
import Derived.Test.YtkponeccenehhaaClPart
import Derived.Test.YtkponeccenehhaaNmRef1
namespace Go.Proofs.Ytkponeccenehhaa.Cl
open Go.RowKit Go.Proofs.Ytkponeccenehhaa.Nm
set_option maxRecDepth 100000

set_option maxHeartbeats 2000000 in
theorem rof_any (s : St) (A2 : Option Addr) (n2 c2 : Nat) (t : Tr) (A : Option Addr) (n c : Nat) (w : World) (h : In w s A2 n2) (hn2 : n2 ≤ 274877906944) (ht : Holds w w.heap.size A n t) (hn : n ≤ 549755813888) :
    Calls Try.prog 10 #[.slice A n c, .agg #[.bool s.all, .slice A2 n2 c2]] w fun e w' =>
      ∃ A4 n4 c4 A5 n5 c5, e = .returned (.tuple #[.slice A4 n4 c4, .slice A5 n5 c5]) ∧ Holds w' w'.heap.size A4 n4 (part (fun x => s.mem x) t) ∧ Holds w' w'.heap.size A5 n5 (part (fun x => !s.mem x) t) ∧ n4 + n5 = n ∧ n4 ≤ c4 ∧ n5 ≤ c5 ∧ c4 ≤ maxLen ∧ c5 ≤ maxLen ∧ Below w.heap.size w w' := by
  have Hn := Lib.hid ht.len
  obtain ⟨f, hf⟩ : ∃ f : List UInt8 → Bool, f = fun x => s.mem x := ⟨_, rfl⟩
  obtain ⟨f', hf'⟩ : ∃ f' : List UInt8 → Bool, f' = fun x => !s.mem x := ⟨_, rfl⟩
  have Hf := Lib.hid hf
  have Hf' := Lib.hid hf'
  rw [← hf, ← hf']
  clear hf hf'
  obtain ⟨y, hy⟩ : ∃ y, y = s.all := ⟨_, rfl⟩
  have Hy := Lib.hid hy
  rw [← hy]
  clear hy
  obtain ⟨W0, hW0⟩ : ∃ W, W = w.alloc (Obj.cells #[Value.bool y, Value.slice A2 n2 c2] 25) := ⟨_, rfl⟩
  have g00 : W0.heap[w.heap.size]? = some (Obj.cells #[Value.bool y, Value.slice A2 n2 c2] 25) := by rw [hW0, heap_alloc_new]
  have hb0 : Below w.heap.size w W0 := by rw [hW0]; exact (Below.refl _ _).alloc (Nat.le_refl _) _
  have HB0 := Lib.hid hb0
  have HG0 := Lib.hid g00
  have hsz0 : W0.heap.size = w.heap.size + 1 := by rw [hW0]; simp
  have Hsz0 := Lib.hid hsz0
  have Ht := Lib.hid ((ht.below hb0).more hb0.size)
  have Hin := Lib.hid (h.below hb0)
  clear ht h g00 hb0 hsz0
  go_enter Try.func10, Try.ntmps10
  go_wp2_with fail
  rw [← hW0]
  clear hW0
  go_loopw [6, 7, 8] (fun x y i wr => ∃ (k : Nat) (A4 : Option Addr) (n4 c4 : Nat) (A5 : Option Addr) (n5 c5 : Nat) (vs us : List Value) (T U : Tr), k ≤ n ∧ i = .int .i64 k ∧ x = .slice A4 n4 c4 ∧ y = .slice A5 n5 c5 ∧ wr.ownsRow W0.heap.size 37 2 (.slice A4 n4 c4) n4 vs ∧ wr.ownsRow W0.heap.size 37 2 (.slice A5 n5 c5) n5 us ∧ RowT wr W0.heap.size vs T ∧ RowT wr W0.heap.size us U ∧ n4 + n5 = k ∧ Hid (∀ b, (Value.slice A4 n4 c4).ownBlock = some b → (Value.slice A5 n5 c5).ownBlock ≠ some b) ∧ Hid (app T (part f (t.dropT k)) = part f t) ∧ Hid (app U (part f' (t.dropT k)) = part f' t) ∧ Below W0.heap.size W0 wr) (fun _ _ i _ => n - (intOf i).toNat)
  case atStart => exact ⟨0, none, 0, 0, none, 0, 0, [], [], .nil, .nil, Nat.zero_le _, rfl, rfl, rfl, World.ownsRow_nil _ W0.heap.size _ _, World.ownsRow_nil _ W0.heap.size _ _, trivial, trivial, rfl, Lib.hid (fun b e => by cases e), by rw [dropT_zero]; exact Lib.hid rfl, by rw [dropT_zero]; exact Lib.hid rfl, Below.refl _ _⟩
  case round =>
    obtain ⟨k, A4, n4, c4, A5, n5, c5, vs, us, T, U, hk, rfl, rfl, rfl, ho4, ho5, hT, hU, hnk, Hne, HT, HU, hbw⟩ := hrel
    by_cases hlt : k < n
    · obtain ⟨b, o, x, kt, r, A', n', c', rfl, hb, hs, hc, hn', hc', hk', hr, hd, hd2⟩ := (Ht.out.below hbw).split k hlt
      have hkn : (k : Int) < (n : Int) := by omega
      have hk0 : (0 : Int) ≤ (k : Int) := by omega
      have hsz := hbw.size
      have HC := Lib.hid (rhas_any s A2 n2 c2 x wr.drew (Hin.out.below hbw.drew) (by omega))
      rw [← Hy.out] at HC
      obtain ⟨q0, q1, _, _⟩ := box2 (Below.box hbw HG0.out)
      have HK := Lib.hid (fun W (hb : Below wr.heap.size wr W) => (⟨(box2 (Below.box hb (Below.box hbw HG0.out))).1, (box2 (Below.box hb (Below.box hbw HG0.out))).2.1, (hb.cell (p := ⟨b, o + k * 2, none⟩) (by show b < _; omega)).trans hs⟩ : W.cell? ⟨w.heap.size, 0, none⟩ = some (.bool y) ∧ W.cell? ⟨w.heap.size, 1, none⟩ = some (.slice A2 n2 c2) ∧ W.cell? ⟨b, o + k * 2, none⟩ = some (.string x)))
      have hb0 : Below wr.heap.size wr wr.drew := (Below.refl _ _).drew
      obtain ⟨v, hv⟩ : ∃ v, v = s.mem x.data.toList := ⟨_, rfl⟩
      have Hv : Hid (f x.data.toList = v) := Lib.hid (by rw [Hf.out, hv])
      have Hv' : Hid (f' x.data.toList = !v) := Lib.hid (by rw [Hf'.out, hv])
      rw [← hv] at HC
      have hsrc : ∀ (W : World) (g : Nat), g = W.heap.size → Src Try.prog 2 30 (.slice (some ⟨g, 0, none⟩) 1 1) 1 [.string x, .slice A' n' c'] (W.alloc (Obj.cells #[Value.string x, Value.slice A' n' c'] 37)) := fun W g hg =>
        hg ▸ src_edges rfl (fun j u hu => by rw [cell_of_row _ _ _ _ _ _ (heap_alloc_new W _), ← hu]; simp) (fun u hu => by simp only [List.mem_cons, List.not_mem_nil, or_false] at hu; rcases hu with rfl | rfl <;> rfl)
      have Hd := Lib.hid hd
      have Hd2 := Lib.hid hd2
      have Hr := Lib.hid hr
      clear hv hd hd2 hr
      cases v with
      | true =>
        have hN2 : n4 + 1 ≤ 1099511627776 := by omega
        go_wp2_with fail
        go_region_held3 (fun W => W.cell? ⟨w.heap.size, 0, none⟩ = some (.bool y) ∧ W.cell? ⟨w.heap.size, 1, none⟩ = some (.slice A2 n2 c2) ∧ W.cell? ⟨b, o + k * 2, none⟩ = some (.string x))
          (first | exact HK.out _ hbr | exact HK.out _ hb0)
          ((go_at_call 27; (with_reducible refine HC.out.mono ?_); rintro e w1 ⟨rfl, hb2⟩; have hbr : Below wr.heap.size wr w1 := hb0.trans hb2))
        have hs1 := (hbr.cell (p := ⟨b, o + k * 2, none⟩) (by show b < _; omega)).trans hs
        have hc1 := (hbr.cell (p := ⟨b, o + k * 2 + 1, none⟩) (by show b < _; omega)).trans hc
        have hsw := hbr.size
        have ho4' := row_below ho4 hbr
        have ho5' := row_below ho5 hbr
        have hbz := hbw.trans (hbr.mono hbw.size)
        go_wp2_with (at_builtin; refine wpList_append_row rfl (.tmp 22) (.tmp 27) _ _ rfl elem_edge rfl rfl (ho4'.alloc _) (hsrc _ _ rfl) hN2 (by simp; omega) ?_; intro A3 c3 w3 ho3 hg3 hat3)
        have hbl : Below W0.heap.size w1 w3 := ((Below.refl _ _).alloc (by omega) _).grown hg3 (by simp; omega) (fun q hq => (ho4'.lt q hq).1)
        have hb3 := hbz.trans hbl
        have hT3 := hT.keep (w' := w3) (fun p hp => (((hbr.mono hbw.size).trans hbl).cell hp))
        have hU3 := hU.keep (w' := w3) (fun p hp => (((hbr.mono hbw.size).trans hbl).cell hp))
        have hk3 := hk'.keep (w' := w3) (fun p hp => (((hbr.mono hbw.size).trans hbl).cell hp))
        have ho5'' : w3.ownsRow W0.heap.size 37 2 (.slice A5 n5 c5) n5 us := (ho5'.alloc _).kept hg3 (by
          cases hv : (Value.slice A4 n4 c4).ownBlock with
          | none => exact Classical.em _
          | some q => exact .inr (Hne.out q hv))
        go_roundw
        case rel =>
          refine ⟨k + 1, A3, n4 + 1, c3, A5, n5, c5, _, us, app T (.cons x kt .nil), U, by omega, by go_num, rfl, rfl, ho3, ho5'', rowT_app hT3 (rowT_one hk3 hn' hc'), hU3, by omega, Lib.hid ?_, ?_, ?_, hb3⟩
          · intro q h3 h5
            have h5l := (ho5'.lt q h5).2
            cases A3 with
            | none => cases h3
            | some a =>
              injection h3 with h3
              rcases hat3 a rfl with e | e
              · simp at e; omega
              · exact Hne.out q (by rw [← e, h3]) h5
          · have := HT.out
            rw [Hd.out, part_yes Hv.out] at this
            rw [app_cons, Hd2.out]
            exact Lib.hid this
          · have := HU.out
            rw [Hd.out, part_no Hv'.out] at this
            rw [Hd2.out]
            exact Lib.hid this
        case measure => simp [intOf]; omega
      | false =>
        have hN2 : n5 + 1 ≤ 1099511627776 := by omega
        go_wp2_with fail
        go_region_held3 (fun W => W.cell? ⟨w.heap.size, 0, none⟩ = some (.bool y) ∧ W.cell? ⟨w.heap.size, 1, none⟩ = some (.slice A2 n2 c2) ∧ W.cell? ⟨b, o + k * 2, none⟩ = some (.string x))
          (first | exact HK.out _ hbr | exact HK.out _ hb0)
          ((go_at_call 27; (with_reducible refine HC.out.mono ?_); rintro e w1 ⟨rfl, hb2⟩; have hbr : Below wr.heap.size wr w1 := hb0.trans hb2))
        have hs1 := (hbr.cell (p := ⟨b, o + k * 2, none⟩) (by show b < _; omega)).trans hs
        have hc1 := (hbr.cell (p := ⟨b, o + k * 2 + 1, none⟩) (by show b < _; omega)).trans hc
        have hsw := hbr.size
        have ho4' := row_below ho4 hbr
        have ho5' := row_below ho5 hbr
        have hbz := hbw.trans (hbr.mono hbw.size)
        go_wp2_with (at_builtin; refine wpList_append_row rfl (.tmp 29) (.tmp 34) _ _ rfl elem_edge rfl rfl (ho5'.alloc _) (hsrc _ _ rfl) hN2 (by simp; omega) ?_; intro A3 c3 w3 ho3 hg3 hat3)
        have hbl : Below W0.heap.size w1 w3 := ((Below.refl _ _).alloc (by omega) _).grown hg3 (by simp; omega) (fun q hq => (ho5'.lt q hq).1)
        have hb3 := hbz.trans hbl
        have hT3 := hT.keep (w' := w3) (fun p hp => (((hbr.mono hbw.size).trans hbl).cell hp))
        have hU3 := hU.keep (w' := w3) (fun p hp => (((hbr.mono hbw.size).trans hbl).cell hp))
        have hk3 := hk'.keep (w' := w3) (fun p hp => (((hbr.mono hbw.size).trans hbl).cell hp))
        have ho4'' : w3.ownsRow W0.heap.size 37 2 (.slice A4 n4 c4) n4 vs := (ho4'.alloc _).kept hg3 (by
          cases hv : (Value.slice A5 n5 c5).ownBlock with
          | none => exact Classical.em _
          | some q => exact .inr (fun e => Hne.out q e hv))
        go_roundw
        case rel =>
          refine ⟨k + 1, A4, n4, c4, A3, n5 + 1, c3, vs, _, T, app U (.cons x kt .nil), by omega, by go_num, rfl, rfl, ho4'', ho3, hT3, rowT_app hU3 (rowT_one hk3 hn' hc'), by omega, Lib.hid ?_, ?_, ?_, hb3⟩
          · intro q h4 h3
            have h4l := (ho4'.lt q h4).2
            cases A3 with
            | none => cases h3
            | some a =>
              injection h3 with h3
              rcases hat3 a rfl with e | e
              · simp at e; omega
              · exact Hne.out q h4 (by rw [← e, h3])
          · have := HT.out
            rw [Hd.out, part_no Hv.out] at this
            rw [Hd2.out]
            exact Lib.hid this
          · have := HU.out
            rw [Hd.out, part_yes Hv'.out] at this
            rw [app_cons, Hd2.out]
            exact Lib.hid this
        case measure => simp [intOf]; omega
    · obtain rfl : k = n := by omega
      have hT2 := HT.out
      have hU2 := HU.out
      rw [drop_len t k (by rw [← Hn.out]; exact Nat.le_refl _)] at hT2 hU2
      simp only [part, app_nil] at hT2 hU2
      subst hT2; subst hU2
      have HO4 := Lib.hid ho4
      have HO5 := Lib.hid ho5
      have HT2 := Lib.hid hT
      have HU2 := Lib.hid hU
      have Hnk := Lib.hid hnk
      clear ho4 ho5 hT hU HT HU hnk hlt
      go_wp2_with fail
      go_ret2
      refine ⟨A4, n4, c4, A5, n5, c5, rfl, own_holds HO4.out (HT2.out.more hbw.size), own_holds HO5.out (HU2.out.more hbw.size), Hnk.out, (row_room HO4.out).1, (row_room HO5.out).1, (row_room HO4.out).2, (row_room HO5.out).2, HB0.out.trans (hbw.mono HB0.out.size)⟩
end Go.Proofs.Ytkponeccenehhaa.Cl
