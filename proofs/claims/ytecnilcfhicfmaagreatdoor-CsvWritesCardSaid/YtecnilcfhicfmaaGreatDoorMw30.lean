/- csv: what a record has below it. Conditions: that inOrder sorts a row of edges of one's own. · csv: the edge of a record. Conditions: that inOrder sorts a row of edges of one's own. -/
import Derived.Test.YtecnilcfhicfmaaGreatDoorMw29
import Derived.Test.YtecnilcfhicfmaaGreatDoorMw20
import Derived.Outline
import Derived.Deep.RegionHeld3
namespace Go.Proofs.YtecnilcfhicfmaaGreatDoor.Cv
open Go.RowKit Go.Proofs.YtecnilcfhicfmaaGreatDoor.Jd Go.Proofs.YtecnilcfhicfmaaGreatDoor.Li Go.Proofs.YtecnilcfhicfmaaGreatDoor.Cl
set_option maxRecDepth 100000

/-- The order of two names, as strings.Compare says it. -/
theorem cmp1_any (a b : ByteArray) (A A2 : Option Addr) (n c n2 c2 : Nat) (w : World) : Calls Tryz.prog 80 #[.agg #[.string a, .slice A n c], .agg #[.string b, .slice A2 n2 c2]] w fun e w' => e = .returned (.int .i64 (Lib.compareBytes a.data.toList b.data.toList)) ∧ w' = (w.alloc (Obj.cells #[.string a, .slice A n c] 27)).alloc (Obj.cells #[.string b, .slice A2 n2 c2] 27) := by
  have HC := Lib.hid (fun W => Tryz.strings_Compare a b W)
  have h1 := heap_alloc_new w (Obj.cells #[.string a, .slice A n c] 27)
  have h1l := (Array.getElem?_eq_some_iff.1 h1).1
  have h1' : ((w.alloc (Obj.cells #[.string a, .slice A n c] 27)).alloc (Obj.cells #[.string b, .slice A2 n2 c2] 27)).cell? ⟨w.heap.size, 0, none⟩ = some (.string a) := by
    rw [World.cell?_alloc_lt _ _ _ h1l, cell_of_row _ _ _ _ _ _ h1]; rfl
  go_enter Tryz.func80, Tryz.ntmps80
  go_wp2_with fail
  (with_reducible refine (HC.out _).mono ?_)
  rintro e w1 ⟨rfl, rfl⟩
  go_wp2_with fail
  go_ret
  exact ⟨rfl, rfl⟩

/-- inOrder answers a row of edges of one's own, sorted. -/
def InOrd (srt : Tr → Tr) : Prop := ∀ (t : Tr) (A : Option Addr) (n c base : Nat) (vs : List Value) (w : World), Edg w base base A n c t vs → base ≤ w.heap.size → n ≤ 100000 →
  Calls Tryz.prog 39 #[.slice A n c] w fun e w' => ∃ vs', e = .returned (.slice A n c) ∧ Edg w' base base A n c (srt t) vs' ∧ Below base w w'
/-- The columns with something in them, as they come. -/
def rawB : List ByteArray → List ByteArray → Tr
  | c :: cs, v :: vs => if v.size = 0 then rawB cs vs else .cons c (.cons v .nil .nil) (rawB cs vs)
  | _, _ => .nil
/-- A record's tree. -/
def BlP (srt : Tr → Tr) (w : World) (t : Tr) (en : Ending) (w' : World) : Prop := ∃ A n c vs, en = .returned (.slice A n c) ∧ Edg w' w.heap.size w.heap.size A n c (srt t) vs ∧ Below w.heap.size w w'

set_option maxHeartbeats 8000000 in
theorem below_any (srt : Tr → Tr) (hI : InOrd srt) (x0 : Ln) (xl : List Ln) (cols : List ByteArray) (Ar Ac : Option Addr) (nr cr m cc : Nat) (en : ByteArray) (w : World) (hr : SeesL w w.heap.size Ar nr (x0 :: xl)) (hc : SeesV w w.heap.size Ac m (cols.map Value.string)) (hm : xl.length = m) (hn : nr ≤ 100000) :
    Calls Tryz.prog 42 #[.agg #[.slice Ar nr cr, .string en], .slice Ac m cc] w (BlP srt w (rawB cols (mns xl))) := by
  have hl := hr.len
  rw [List.length_cons, hm] at hl
  subst hl
  have hb0 : Below w.heap.size w (w.alloc (Obj.cells #[.slice Ar (m + 1) cr, .string en] 44)) := (Below.refl _ _).alloc (Nat.le_refl _) _
  have HM := Lib.hid (means_any (x0 :: xl) Ar (m + 1) cr w.heap.size en (w.alloc (Obj.cells #[.slice Ar (m + 1) cr, .string en] 44)) (hr.below hb0) hb0.size hn)
  have HB0 := Lib.hid hb0
  obtain ⟨vals, hvals⟩ : ∃ v, v = mns xl := ⟨_, rfl⟩
  rw [← hvals]
  have Hlv : Hid (m = vals.length) := Lib.hid (by rw [hvals, mns_len, hm])
  have Hcs := Lib.hid hc
  have Hlc : Hid (m = cols.length) := Lib.hid (by have := hc.len; simpa using this)
  have Hvd := Lib.hid hvals
  clear hr hc hb0 hvals hm
  go_enter Tryz.func42, Tryz.ntmps42
  go_wp2_with fail
  (with_reducible refine HM.out.mono ?_)
  rintro e w2 ⟨g, rfl, hg, hgc, hb2⟩
  have HB2 := Lib.hid (HB0.out.trans (hb2.mono HB0.out.size))
  have hgl : g < w2.heap.size := (Array.getElem?_eq_some_iff.1 hgc).1
  have Hvals : Hid (∀ (k : Nat) (hk : k < vals.length), w2.cell? ⟨g, 1 + k, none⟩ = some (.string vals[k])) := Lib.hid (fun k hk => by
    rw [cell_of_row _ _ _ _ _ _ hgc]
    have e : (meanV (x0 :: xl)).toArray[1 + k]? = ((mns xl).map Value.string)[k]? := by
      rw [List.getElem?_toArray, ← mean_strs, Nat.add_comm 1 k]
      rfl
    rw [e, ← Hvd.out, List.getElem?_map, List.getElem?_eq_getElem hk]
    rfl)
  clear hb2 hgc hg
  have hnc1 : (1 : Int) ≤ ((m + 1 : Nat) : Int) := by omega
  by_cases hm0 : m = 0
  · subst hm0
    go_wp2_with fail
    go_loopw [5, 12] (fun a i wr => ∃ (k q : Nat) (A : Option Addr) (c : Nat) (t : Tr) (vs : List Value), k ≤ 0 ∧ q ≤ k ∧ i = .int .i64 k ∧ a = .slice A q c ∧ Hid (Edg wr w.heap.size w.heap.size A q c t vs) ∧ Hid (Below w.heap.size w wr) ∧ Hid (Below w2.heap.size w2 wr) ∧ Hid (∀ z, (Value.slice A q c).ownBlock = some z → w2.heap.size ≤ z) ∧ Hid (appT t (rawB (cols.drop k) (vals.drop k)) = rawB cols vals)) (fun _ i _ => 0 - (intOf i).toNat)
    case atStart => exact ⟨0, 0, none, 0, .nil, [], Nat.zero_le _, Nat.le_refl _, rfl, rfl, Lib.hid (Edg.nil _ _ _), HB2, Lib.hid (Below.refl _ _), Lib.hid (fun z hz => by cases hz), Lib.hid rfl⟩
    case round =>
      obtain ⟨k, q, A, c, t, vs, hk, hqk, rfl, rfl, HE, HW, HW2, HQ, HT⟩ := hrel
      by_cases hlt : k < 0
      · exact absurd hlt (Nat.not_lt_zero _)
      · obtain rfl : k = 0 := by omega
        have hT := HT.out
        rw [List.drop_of_length_le (l := cols) (by rw [← Hlc.out]; exact Nat.le_refl _)] at hT
        have hT2 : t = rawB cols vals := by rw [← hT]; simp [rawB, appT_nil]
        have HI2 := Lib.hid (hI t A q c w.heap.size vs wr HE.out HW.out.size (by omega))
        rw [hT2] at HI2
        clear hlt hT hT2 HT
        go_wp2_with fail
        (with_reducible refine HI2.out.mono ?_)
        rintro e w5 ⟨vs5, rfl, hE5, hb5⟩
        have HB5 := Lib.hid (HW.out.trans hb5)
        have HE5 := Lib.hid hE5
        clear hE5 hb5
        go_wp2_with fail
        go_ret
        exact ⟨A, q, c, vs5, rfl, HE5.out, HB5.out⟩
  · have hc1 : ¬ m + 1 = 1 := by omega
    have hnc2 : (1 : Int) ≤ (m : Int) + 1 := by omega
    go_wp2_with fail
    go_loopw [5, 12] (fun a i wr => ∃ (k q : Nat) (A : Option Addr) (c : Nat) (t : Tr) (vs : List Value), k ≤ m ∧ q ≤ k ∧ i = .int .i64 k ∧ a = .slice A q c ∧ Hid (Edg wr w.heap.size w.heap.size A q c t vs) ∧ Hid (Below w.heap.size w wr) ∧ Hid (Below w2.heap.size w2 wr) ∧ Hid (∀ z, (Value.slice A q c).ownBlock = some z → w2.heap.size ≤ z) ∧ Hid (appT t (rawB (cols.drop k) (vals.drop k)) = rawB cols vals)) (fun _ i _ => m - (intOf i).toNat)
    case atStart => exact ⟨0, 0, none, 0, .nil, [], Nat.zero_le _, Nat.le_refl _, rfl, rfl, Lib.hid (Edg.nil _ _ _), HB2, Lib.hid (Below.refl _ _), Lib.hid (fun z hz => by cases hz), Lib.hid rfl⟩
    case round =>
      obtain ⟨k, q, A, c, t, vs, hk, hqk, rfl, rfl, HE, HW, HW2, HQ, HT⟩ := hrel
      by_cases hlt : k < m
      · obtain ⟨bc, oc, col, rfl, hbc, hcol, hcc⟩ := strs_at ((Hcs.out.below HW.out)) hlt
        have hkc : k < cols.length := (List.getElem?_eq_some_iff.1 hcol).1
        have hce : cols[k] = col := (List.getElem?_eq_some_iff.1 hcol).2
        have hkv : k < vals.length := by have := Hlv.out; omega
        obtain ⟨v, hv⟩ : ∃ v, v = vals[k] := ⟨_, rfl⟩
        have hcv : wr.cell? ⟨g, 1 + k, none⟩ = some (.string v) := by rw [hv]; exact (HW2.out.cell (p := ⟨g, 1 + k, none⟩) hgl).trans (Hvals.out k hkv)
        have hT := HT.out
        rw [List.drop_eq_getElem_cons hkc, List.drop_eq_getElem_cons hkv, hce, ← hv, rawB] at hT
        have hkn : (k : Int) < (m : Int) := by omega
        have hk0 : (0 : Int) ≤ (k : Int) := by omega
        have Hlt := Lib.hid hlt
        have HT2 := Lib.hid hT
        by_cases hz : v.size = 0
        · have he : (v.toList == ([] : List UInt8)) = true := by rw [empty_iff, decide_eq_true hz]
          rw [if_pos hz] at hT
          have HT3 := Lib.hid hT
          clear hlt hT HT HT2 hz hv hkc hkv hce hcol
          go_wp2_with fail
          go_roundw
          case rel => exact ⟨k + 1, q, A, c, t, vs, Hlt.out, by omega, by go_num, rfl, HE, HW, HW2, HQ, HT3⟩
          case measure => have := Hlt.out; simp [intOf]; omega
        · have he : (v.toList == ([] : List UInt8)) = false := by rw [empty_iff, decide_eq_false hz]
          rw [if_neg hz] at hT
          have HT3 : Hid (appT (appT t (.cons col (.cons v .nil .nil) .nil)) (rawB (cols.drop (k + 1)) (vals.drop (k + 1))) = rawB cols vals) := Lib.hid (by rw [appT_cons]; exact hT)
          obtain ⟨W1, hW1⟩ : ∃ W, W = wr.alloc (Obj.cells #[.string v, .slice none 0 0] 27) := ⟨_, rfl⟩
          have hb1 : Below wr.heap.size wr W1 := by rw [hW1]; exact (Below.refl _ _).alloc (Nat.le_refl _) _
          have hg1 : W1.heap[wr.heap.size]? = some (Obj.cells #[.string v, .slice none 0 0] 27) := by rw [hW1]; exact heap_alloc_new wr _
          have hl1 : wr.heap.size < W1.heap.size := (Array.getElem?_eq_some_iff.1 hg1).1
          obtain ⟨W2, hW2⟩ : ∃ W, W = W1.alloc (Obj.cells #[.string col, .slice (some ⟨wr.heap.size, 0, none⟩) 1 1] 27) := ⟨_, rfl⟩
          have hb2 : Below W1.heap.size W1 W2 := by rw [hW2]; exact (Below.refl _ _).alloc (Nat.le_refl _) _
          have hg2 : W2.heap[wr.heap.size]? = some (Obj.cells #[.string v, .slice none 0 0] 27) := (hb2.block _ hl1).trans hg1
          have hsrc : Src Tryz.prog 2 24 (.slice (some ⟨W1.heap.size, 0, none⟩) 1 1) 1 [.string col, .slice (some ⟨wr.heap.size, 0, none⟩) 1 1] W2 := by rw [hW2]; exact src_edge W1 col (some ⟨wr.heap.size, 0, none⟩) 1 1 _ rfl
          have hbr2 : Below wr.heap.size wr W2 := hb1.trans (hb2.mono hb1.size)
          have HEa := Lib.hid (HE.out.below hbr2)
          have hk1 : q + 1 ≤ 1099511627776 := by omega
          have hwz : w.heap.size ≤ W2.heap.size := Nat.le_trans HW.out.size hbr2.size
          have hrow : RowP W2 (fun b => w.heap.size ≤ b ∧ b < W2.heap.size ∧ some b ≠ (Value.slice A q c).ownBlock) [.string col, .slice (some ⟨wr.heap.size, 0, none⟩) 1 1] (.cons col (.cons v .nil .nil) .nil) := by
            refine RowP.one ⟨wr.heap.size, 0, rfl, ⟨HW.out.size, Nat.lt_of_lt_of_le hl1 hb2.size, fun e => ?_⟩, by rw [cell_of_row _ _ _ _ _ _ hg2]; rfl, ⟨none, 0, 0, by rw [cell_of_row _ _ _ _ _ _ hg2]; rfl, Nat.le_refl _, Nat.zero_le _, rfl⟩, 0, rfl, rfl⟩ (Nat.le_refl _) (by simp [maxLen])
            have := (HE.out.own.lt _ e.symm).2
            omega
          have Hsrc := Lib.hid hsrc
          have Hrow := Lib.hid hrow
          have Hbr2 := Lib.hid hbr2
          have hW12 : (wr.alloc (Obj.cells #[.string v, .slice none 0 0] 27)).alloc (Obj.cells #[.string col, .slice (some ⟨wr.heap.size, 0, none⟩) 1 1] 27) = W2 := by rw [hW2, hW1]
          have HW12 := Lib.hid hW12
          have hW1s : (wr.alloc (Obj.cells #[.string v, .slice none 0 0] 27)).heap.size = W1.heap.size := by rw [hW1]
          rw [← hW12, ← hW1s] at hsrc
          have HEb : Hid (Edg ((wr.alloc (Obj.cells #[.string v, .slice none 0 0] 27)).alloc (Obj.cells #[.string col, .slice (some ⟨wr.heap.size, 0, none⟩) 1 1] 27)) w.heap.size w.heap.size A q c t vs) := Lib.hid (by rw [hW12]; exact HEa.out)
          have Hsrc2 := Lib.hid hsrc
          have hwz2 : w.heap.size ≤ ((wr.alloc (Obj.cells #[.string v, .slice none 0 0] 27)).alloc (Obj.cells #[.string col, .slice (some ⟨wr.heap.size, 0, none⟩) 1 1] 27)).heap.size := by rw [hW12]; exact hwz
          clear hlt hT HT HT2 hz hv hkc hkv hce hcol hW1 hW2 hb1 hg1 hl1 hb2 hg2 hsrc hrow hbr2 hW12 hW1s hwz
          go_wp2_with (at_builtin; refine wpList_append_row rfl (.tmp 19) (.tmp 28) _ _ rfl elem_edge rfl rfl HEb.out.own (src_edge _ col (some ⟨wr.heap.size, 0, none⟩) 1 1 _ (by simp)) hk1 hwz2 ?_; intro A4 c4 w4 ho4 hg4 hat4)
          rw [HW12.out] at hg4 hat4
          have HP := Lib.hid (HEa.out.push Hrow.out ho4 hg4 (fun a ha => (hat4 a ha).imp (fun e => Nat.le_of_eq e.symm) id))
          have HW4 : Hid (Below w.heap.size w w4) := Lib.hid ((HW.out.trans (Hbr2.out.mono HW.out.size)).grown hg4 (Nat.le_trans HW.out.size Hbr2.out.size) (fun q hq => (HEa.out.own.lt q hq).1))
          have HW24 : Hid (Below w2.heap.size w2 w4) := Lib.hid ((HW2.out.trans (Hbr2.out.mono HW2.out.size)).grown hg4 (Nat.le_trans HW2.out.size Hbr2.out.size) (fun z hz => HQ.out z hz))
          have HQ4 : Hid (∀ z, (Value.slice A4 (q + 1) c4).ownBlock = some z → w2.heap.size ≤ z) := Lib.hid (fun z hz => by
            cases A4 with
            | none => cases hz
            | some a =>
              have e : a.block = z := by injection hz
              rcases hat4 a rfl with h1 | h1
              · have := Nat.le_trans HW2.out.size Hbr2.out.size; omega
              · exact HQ.out z (by rw [← h1, e]))
          clear ho4 hg4 hat4
          go_wp2_with fail
          go_roundw
          case rel => exact ⟨k + 1, q + 1, A4, c4, _, _, Hlt.out, by omega, by go_num, rfl, HP, HW4, HW24, HQ4, HT3⟩
          case measure => have := Hlt.out; simp [intOf]; omega
      · obtain rfl : k = m := by omega
        have hT := HT.out
        rw [List.drop_of_length_le (l := cols) (by rw [← Hlc.out]; exact Nat.le_refl _)] at hT
        have hT2 : t = rawB cols vals := by rw [← hT]; simp [rawB, appT_nil]
        have HI2 := Lib.hid (hI t A q c w.heap.size vs wr HE.out HW.out.size (by omega))
        rw [hT2] at HI2
        clear hlt hT hT2 HT
        go_wp2_with fail
        (with_reducible refine HI2.out.mono ?_)
        rintro e w5 ⟨vs5, rfl, hE5, hb5⟩
        have HB5 := Lib.hid (HW.out.trans hb5)
        have HE5 := Lib.hid hE5
        clear hE5 hb5
        go_wp2_with fail
        go_ret
        exact ⟨A, q, c, vs5, rfl, HE5.out, HB5.out⟩
end Go.Proofs.YtecnilcfhicfmaaGreatDoor.Cv
namespace Go.Proofs.YtecnilcfhicfmaaGreatDoor.Cv
open Go.RowKit Go.Proofs.YtecnilcfhicfmaaGreatDoor.Jd Go.Proofs.YtecnilcfhicfmaaGreatDoor.Li Go.Proofs.YtecnilcfhicfmaaGreatDoor.Cl
set_option maxRecDepth 100000

theorem seesV_moreT {w : World} {B B' n : Nat} {A : Option Addr} {vs : List Value} (h : SeesV w B A n vs) (hB : B ≤ B') : SeesV w B' A n vs :=
  ⟨h.len, fun j u hu => by
    obtain ⟨b, o, e, hb, hc⟩ := h.cell j u hu
    exact ⟨b, o, e, Nat.lt_of_lt_of_le hb hB, hc⟩⟩
/-- An edge answered. -/
def TfP (w : World) (s : ByteArray) (k : Tr) (en : Ending) (w' : World) : Prop := ∃ A n c, en = .returned (.agg #[.string s, .slice A n c]) ∧ HoldsP w' (fun b => w.heap.size ≤ b ∧ b < w'.heap.size) A n k ∧ n ≤ c ∧ c ≤ maxLen ∧ Below w.heap.size w w'

set_option maxHeartbeats 8000000 in
theorem tree1_any (srt : Tr → Tr) (hI : InOrd srt) (r : Rw) (x0 : Ln) (xl : List Ln) (hr0 : r.fs = x0 :: xl) (cols : List ByteArray) (Ar Ac : Option Addr) (nr cr m cc gc : Nat) (w : World) (hr : SeesL w w.heap.size Ar nr r.fs) (hc : SeesV w w.heap.size Ac m (cols.map Value.string)) (hm : xl.length = m) (hn : nr ≤ 100000)
    (hgc : w.cell? ⟨gc, 0, none⟩ = some (.slice Ac m cc)) :
    Calls Tryz.prog 41 #[.agg #[.slice Ar nr cr, .string r.en], .pointer (some ⟨gc, 0, none⟩)] w (TfP w (nm r) (srt (rawB cols (mns xl)))) := by
  have hgl : gc < w.heap.size := World.block_lt_of_cell? w ⟨gc, 0, none⟩ hgc
  rw [hr0] at hr
  have hex := nm_enc hr0
  obtain ⟨W1, hW1⟩ : ∃ W, W = (w.alloc (Obj.cells #[.slice Ar nr cr, .string r.en] 44)).alloc (Obj.cells #[.string ⟨#[]⟩, .slice none 0 0] 27) := ⟨_, rfl⟩
  have hb1 : Below w.heap.size w W1 := by rw [hW1]; exact ((Below.refl _ _).alloc (Nat.le_refl _) _).alloc (by simp) _
  have hg1 : W1.heap[w.heap.size]? = some (Obj.cells #[.slice Ar nr cr, .string r.en] 44) := by
    rw [hW1]
    exact (Below.heap_alloc _ _ _ (by simp)).trans (heap_alloc_new w _)
  have hg2 : W1.heap[w.heap.size + 1]? = some (Obj.cells #[.string ⟨#[]⟩, .slice none 0 0] 27) := by
    rw [hW1]
    have := heap_alloc_new (w.alloc (Obj.cells #[.slice Ar nr cr, .string r.en] 44)) (Obj.cells #[.string ⟨#[]⟩, .slice none 0 0] 27)
    simpa using this
  have hl2 : w.heap.size + 1 < W1.heap.size := (Array.getElem?_eq_some_iff.1 hg2).1
  have hl1 : w.heap.size < W1.heap.size := by omega
  have hp0 : W1.cell? ⟨w.heap.size, 0, none⟩ = some (.slice Ar nr cr) := by rw [cell_of_row _ _ _ _ _ _ hg1]; rfl
  have hp1 : W1.cell? ⟨w.heap.size, 1, none⟩ = some (.string r.en) := by rw [cell_of_row _ _ _ _ _ _ hg1]; rfl
  have hpc : W1.cell? ⟨gc, 0, none⟩ = some (.slice Ac m cc) := (hb1.cell (p := ⟨gc, 0, none⟩) hgl).trans hgc
  have HK := Lib.hid (fun (W : World) (hW : Below W1.heap.size W1 W) => (⟨(hW.cell (p := ⟨w.heap.size, 0, none⟩) hl1).trans hp0, (hW.cell (p := ⟨w.heap.size, 1, none⟩) hl1).trans hp1, (hW.cell (p := ⟨gc, 0, none⟩) (Nat.lt_trans hgl hl1)).trans hpc⟩ : W.cell? ⟨w.heap.size, 0, none⟩ = some (.slice Ar nr cr) ∧ W.cell? ⟨w.heap.size, 1, none⟩ = some (.string r.en) ∧ W.cell? ⟨gc, 0, none⟩ = some (.slice Ac m cc)))
  have HN := Lib.hid (fun (W : World) (hW : Below W1.heap.size W1 W) => rname_any x0 xl Ar nr cr w.heap.size r.en (nm r) W ((hr.below hb1).below (hW.mono (Nat.le_of_lt hl1))) (Nat.le_trans (Nat.le_of_lt hl1) hW.size) hex)
  have HBl := Lib.hid (fun (W : World) (hW : Below W1.heap.size W1 W) => below_any srt hI x0 xl cols Ar Ac nr cr m cc r.en W (((hr.below hb1).below (hW.mono (Nat.le_of_lt hl1))).more (Nat.le_trans (Nat.le_of_lt hl1) hW.size)) (seesV_moreT ((hc.below hb1).below (hW.mono (Nat.le_of_lt hl1))) (Nat.le_trans (Nat.le_of_lt hl1) hW.size)) hm hn)
  have HB1 := Lib.hid hb1
  have Hg2 := Lib.hid hg2
  have hq0 : Below W1.heap.size W1 W1.drew := (Below.refl _ _).drew
  obtain ⟨k, hk⟩ : ∃ k, k = srt (rawB cols (mns xl)) := ⟨_, rfl⟩
  have Hk := Lib.hid hk
  rw [← hk]
  obtain ⟨s, hs⟩ : ∃ s, s = nm r := ⟨_, rfl⟩
  rw [← hs] at HN
  rw [← hs]
  clear hr hc hex hb1 hg1 hg2 hp0 hp1 hpc hr0 hm hk hs hgc
  go_enter Tryz.func41, Tryz.ntmps41
  go_wp2_with fail
  rw [← hW1]
  clear hW1
  go_region_held3 (fun W => W.cell? ⟨w.heap.size, 0, none⟩ = some (.slice Ar nr cr) ∧ W.cell? ⟨w.heap.size, 1, none⟩ = some (.string r.en) ∧ W.cell? ⟨gc, 0, none⟩ = some (.slice Ac m cc))
    (first | exact HK.out _ hq0 | exact HK.out _ hq2 | exact HK.out _ hq3 | exact ⟨(World.cell?_setCell_far _ _ _ _ (by simp only [ne_eq]; omega)).trans ((World.cell?_setCell_far _ _ _ _ (by simp only [ne_eq]; omega)).trans (HK.out _ hq3).1), (World.cell?_setCell_far _ _ _ _ (by simp only [ne_eq]; omega)).trans ((World.cell?_setCell_far _ _ _ _ (by simp only [ne_eq]; omega)).trans (HK.out _ hq3).2.1), (World.cell?_setCell_far _ _ _ _ (by simp only [ne_eq]; omega)).trans ((World.cell?_setCell_far _ _ _ _ (by simp only [ne_eq]; omega)).trans (HK.out _ hq3).2.2)⟩)
    (first
    | (go_at_call 30; (with_reducible refine (HN.out _ hq0).mono ?_); rintro e w2 ⟨rfl, hg2⟩; have hq2 := hq0.trans (hg2.mono hq0.size); clear hg2)
    | (go_at_call 42; (with_reducible refine (HBl.out _ hq2).mono ?_); rintro e w3 ⟨A3, n3, c3, vs3, rfl, hE3, hb3⟩; have hq3 := hq2.trans (hb3.mono hq2.size); have hg3 := (hq3.block _ hl2).trans Hg2.out; have hc30 : w3.cell? ⟨w.heap.size + 1, 0, none⟩ = some (.string ⟨#[]⟩) := (by rw [cell_of_row _ _ _ _ _ _ hg3]; rfl); have hc31 : w3.cell? ⟨w.heap.size + 1, 1, none⟩ = some (.slice none 0 0) := (by rw [cell_of_row _ _ _ _ _ _ hg3]; rfl); have hf30 : w3.frozen? ⟨w.heap.size + 1, 0, none⟩ = false := (by simp [World.frozen?, hg3]); have hf31 : w3.frozen? ⟨w.heap.size + 1, 1, none⟩ = false := (by simp [World.frozen?, hg3])))
  all_goals
    have hw1 : (w3.setCell ⟨w.heap.size + 1, 0, none⟩ (.string s)).heap[w.heap.size + 1]? = some (.cells #[.string s, .slice none 0 0] 27 (0, 0)) := by rw [heap_setCell_same w3 _ 0 _ _ _ hg3]; rfl
    have hw2 : ((w3.setCell ⟨w.heap.size + 1, 0, none⟩ (.string s)).setCell ⟨w.heap.size + 1, 1, none⟩ (.slice A3 n3 c3)).heap[w.heap.size + 1]? = some (.cells #[.string s, .slice A3 n3 c3] 27 (0, 0)) := by rw [heap_setCell_same _ _ 1 _ _ _ hw1]; rfl
    have hx0 : ((w3.setCell ⟨w.heap.size + 1, 0, none⟩ (.string s)).setCell ⟨w.heap.size + 1, 1, none⟩ (.slice A3 n3 c3)).cell? ⟨w.heap.size + 1, 0, none⟩ = some (.string s) := by rw [cell_of_row _ _ _ _ _ _ hw2]; rfl
    have hx1 : ((w3.setCell ⟨w.heap.size + 1, 0, none⟩ (.string s)).setCell ⟨w.heap.size + 1, 1, none⟩ (.slice A3 n3 c3)).cell? ⟨w.heap.size + 1, 1, none⟩ = some (.slice A3 n3 c3) := by rw [cell_of_row _ _ _ _ _ _ hw2]; rfl
    have hz1 := HB1.out.size
    have hbw : Below w.heap.size w ((w3.setCell ⟨w.heap.size + 1, 0, none⟩ (.string s)).setCell ⟨w.heap.size + 1, 1, none⟩ (.slice A3 n3 c3)) := ((HB1.out.trans (hq3.mono HB1.out.size)).setCell (by simp only; omega) _).setCell (by simp only; omega) _
    have hh := hE3.holdsP (Nat.le_refl _)
    have hcap := hE3.cap
    have hq2s := hq2.size
    have hh2 : HoldsP ((w3.setCell ⟨w.heap.size + 1, 0, none⟩ (.string s)).setCell ⟨w.heap.size + 1, 1, none⟩ (.slice A3 n3 c3)) (fun b => w.heap.size ≤ b ∧ b < ((w3.setCell ⟨w.heap.size + 1, 0, none⟩ (.string s)).setCell ⟨w.heap.size + 1, 1, none⟩ (.slice A3 n3 c3)).heap.size) A3 n3 k := by
      rw [Hk.out]
      refine (hh.keep (w' := (w3.setCell ⟨w.heap.size + 1, 0, none⟩ (.string s)).setCell ⟨w.heap.size + 1, 1, none⟩ (.slice A3 n3 c3)) (fun b o hb => ?_)).more (fun b hb => ⟨by have := hb.1; omega, by have := hb.2; simp [World.setCell]; exact this⟩)
      have hb1 := hb.1
      exact (World.cell?_setCell_far _ _ _ _ (by simp only [ne_eq]; omega)).trans (World.cell?_setCell_far _ _ _ _ (by simp only [ne_eq]; omega))
    have Hbw := Lib.hid hbw
    have Hh2 := Lib.hid hh2
    have Hcap := Lib.hid hcap
    clear hw1 hw2 hbw hh hh2 hcap hE3 hb3 hq0 hq2 hq3 hg3
    go_wp2_with fail
    refine bodyPost_ret (v := .agg #[.string s, .slice A3 n3 c3]) (by simp [results, Tryz.results41, go_sem, hx0, hx1]) rfl ?_
    exact ⟨A3, n3, c3, rfl, Hh2.out, Hcap.out.1, Hcap.out.2, Hbw.out⟩
end Go.Proofs.YtecnilcfhicfmaaGreatDoor.Cv
