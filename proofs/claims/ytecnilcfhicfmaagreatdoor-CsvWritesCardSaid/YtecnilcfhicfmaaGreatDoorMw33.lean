/- slices.Grow of nil, slices.Concat of rows of lines. Conditions: what is joined is fewer than 2^40 lines. · lines.each, at the two function values of Insert. Conditions: fewer than 2^38 lines. -/
import Derived.Test.YtecnilcfhicfmaaGreatDoorMw32
import Derived.Lib.AppendZerosOnto
import Derived.OwnWalk
namespace Go.Proofs.YtecnilcfhicfmaaGreatDoor.Li
open Go.RowKit
set_option maxRecDepth 100000

def Grown (w : World) (e : Ending) (w' : World) : Prop := ∃ A c, e = .returned (.slice A 0 c) ∧ w'.ownsRow w.heap.size 66 2 (.slice A 0 c) 0 [] ∧ Below w.heap.size w w'

set_option maxHeartbeats 400000 in
theorem grow_any (n : Nat) (hn : n ≤ 1099511627776) (w : World) : Calls Tryz.prog 100 #[.slice none 0 0, .int .i64 n] w (Grown w) := by
  by_cases h0 : n = 0
  · subst h0
    go_enter Tryz.func100, Tryz.ntmps100
    go_wp2
    go_ret
    exact ⟨none, 0, rfl, World.ownsRow_nil _ _ _ _, Below.refl _ _⟩
  · obtain ⟨i0, hi0, hz0, hs0, hb0⟩ := info_parts elem_line.info
    have hr : ∀ ty, (Builtin.append_ #[56, 3] ty #[.slice none 0 0, .int .i64 n]).run Tryz.prog w = .ok (.slice (some ⟨w.heap.size, 0, none⟩) n (grownCap w n 0 66)) (w.drew.alloc (.cells (Builtin.zeroCells (Value.agg #[.string ⟨#[]⟩, .string ⟨#[]⟩]).cells n ++ Builtin.zeroCells (Value.agg #[.string ⟨#[]⟩, .string ⟨#[]⟩]).cells (grownCap w n 0 66 - n)) 66)) := by
      intro ty
      have h := Lib.run_append_grow_zeros (P := Tryz.prog) w 56 3 ty 66 i0 (.agg #[.string ⟨#[]⟩, .string ⟨#[]⟩]) .i64 .i64 Tryz.underlying56 Tryz.underlying3 hi0 hz0 none 0 0 [] (run_firstCells_none w.drew i0.size 0 0 0) n (by omega) (by omega) (by omega) (by omega) (by rw [hb0]; omega) (by
        have := growslice_fits (need := 0 + n) (old := 0) (bytes := i0.bytes) (by omega) (by rw [hb0]; omega)
        exact this)
      simpa using h
    have hge := grownCap_ge w n 0 66
    have hcm := grownCap_le_maxLen w n 0 66 (by simp only [maxLen]; omega)
    obtain ⟨G, hG⟩ : ∃ G, G = grownCap w n 0 66 := ⟨_, rfl⟩
    rw [← hG] at hr hge hcm
    have hzc : (Builtin.zeroCells (Value.agg #[.string ⟨#[]⟩, .string ⟨#[]⟩]).cells n ++ Builtin.zeroCells (Value.agg #[.string ⟨#[]⟩, .string ⟨#[]⟩]).cells (G - n)).size = G * 2 := by
      simp only [Array.size_append, size_zeroCells]
      rw [show (Value.agg #[.string ⟨#[]⟩, .string ⟨#[]⟩]).cells.size = 2 from rfl]
      omega
    have hown := World.ownsRow_made (base := w.heap.size) (e := 66) (size := 2) w.drew (Builtin.zeroCells (Value.agg #[.string ⟨#[]⟩, .string ⟨#[]⟩]).cells n ++ Builtin.zeroCells (Value.agg #[.string ⟨#[]⟩, .string ⟨#[]⟩]).cells (G - n)) G (by simp) hcm hzc
    generalize (Builtin.zeroCells (Value.agg #[.string ⟨#[]⟩, .string ⟨#[]⟩]).cells n ++ Builtin.zeroCells (Value.agg #[.string ⟨#[]⟩, .string ⟨#[]⟩]).cells (G - n)) = Z at *
    have hG2 : G ≤ 9223372036854775807 := by simp only [maxLen] at hcm; omega
    have Hown := Lib.hid hown
    clear hown hG hzc hi0 hz0 hs0 hb0 hcm
    go_enter Tryz.func100, Tryz.ntmps100
    go_wp2_with (at_builtin; refine Lib.wpList_append_run _ rfl _ _ _ _ rfl _ _ rfl rfl _ _ (hr _) ?_)
    go_ret
    exact ⟨_, _, rfl, Hown.out, (Below.refl _ _).drew.alloc (Nat.le_refl _) _⟩

/-- What is joined: the slices at the cells of a slice of slices. -/
structure Parts (w : World) (g : Nat) (vs : List Value) (ls : List (List Ln)) : Prop where
  len : vs.length = ls.length
  cell : ∀ (i : Nat) v, vs[i]? = some v → w.cell? ⟨g, i, none⟩ = some v
  sees : ∀ (i : Nat) l, ls[i]? = some l → ∃ A n c, vs[i]? = some (.slice A n c) ∧ SeesL w w.heap.size A n l

theorem Parts.three {w : World} {g : Nat} {A B C : Option Addr} {n m o c d f : Nat} {l k q : List Ln} (hg : w.heap[g]? = some (.cells #[.slice A n c, .slice B m d, .slice C o f] 56 (0, 0))) (h1 : SeesL w w.heap.size A n l) (h2 : SeesL w w.heap.size B m k) (h3 : SeesL w w.heap.size C o q) :
    Parts w g [.slice A n c, .slice B m d, .slice C o f] [l, k, q] := by
  refine ⟨rfl, fun i v hv => ?_, fun i l' hl => ?_⟩
  · rw [cell_of_row w g i _ _ _ hg]
    simpa using hv
  · match i, hl with
    | 0, hl => simp at hl; subst hl; exact ⟨A, n, c, rfl, h1⟩
    | 1, hl => simp at hl; subst hl; exact ⟨B, m, d, rfl, h2⟩
    | 2, hl => simp at hl; subst hl; exact ⟨C, o, f, rfl, h3⟩

theorem flat_succ {ls : List (List Ln)} {k : Nat} {l : List Ln} (h : ls[k]? = some l) : (ls.take (k + 1)).flatten = (ls.take k).flatten ++ l := by
  rw [List.take_add_one, h]
  simp
theorem flat_le (ls : List (List Ln)) (k : Nat) : (ls.take k).flatten.length ≤ ls.flatten.length := by
  conv => rhs; rw [← List.take_append_drop k ls, List.flatten_append, List.length_append]
  exact Nat.le_add_right _ _

def Joined (l : List Ln) (w : World) (e : Ending) (w' : World) : Prop := ∃ A c, e = .returned (.slice A l.length c) ∧ OwnL w' w.heap.size A l.length c l ∧ Below w.heap.size w w'

set_option maxHeartbeats 1000000 in
theorem concat_any (g K : Nat) (vs : List Value) (ls : List (List Ln)) (w : World) (hp : Parts w g vs ls) (hK : K = ls.length) (hK2 : K ≤ 65536) (hT : ls.flatten.length ≤ 1099511627776) (hg : g < w.heap.size) :
    Calls Tryz.prog 66 #[.slice (some ⟨g, 0, none⟩) K K] w (Joined ls.flatten w) := by
  have HK := Lib.hid hK
  clear hK
  obtain ⟨T, hTd⟩ : ∃ T : Nat → Nat, T = fun k => (ls.take k).flatten.length := ⟨_, rfl⟩
  have HT : Hid (∀ k, T k = (ls.take k).flatten.length) := by intro k; rw [hTd]
  have HTb : Hid (∀ k, T k ≤ 1099511627776) := by
    intro k
    rw [hTd]
    exact Nat.le_trans (flat_le ls k) hT
  have HT0 : Hid (T 0 = 0) := by rw [HT.out]; rfl
  clear hTd
  go_enter Tryz.func66, Tryz.ntmps66
  go_wp2
  go_loop [3, 11] (fun v i => ∃ k : Nat, k ≤ K ∧ i = .int .i64 k ∧ v = .int .i64 (T k)) (fun _ i => K - (intOf i).toNat)
  case atStart => exact ⟨0, Nat.zero_le _, rfl, by rw [HT0.out]; rfl⟩
  case round =>
    obtain ⟨k, hk, rfl, rfl⟩ := hrel
    have hTk := HTb.out k
    by_cases hlt : k < K
    · obtain ⟨l, hl⟩ : ∃ l, ls[k]? = some l := ⟨ls[k]'(by rw [← HK.out]; exact hlt), List.getElem?_eq_getElem _⟩
      obtain ⟨A, n, c, hv, hs⟩ := hp.sees k l hl
      have hc := hp.cell k _ hv
      have hnl := hs.len
      have HT1 := Lib.hid (show T (k + 1) = T k + n by rw [HT.out, HT.out, flat_succ hl, List.length_append, hnl])
      have hb1 : T k + n ≤ 1099511627776 := by have := HTb.out (k + 1); rw [HT1.out] at this; exact this
      clear hl hv hnl
      go_wp2
      go_round
      case rel => exact ⟨k + 1, by omega, by go_num, by rw [HT1.out]; go_num⟩
      case measure => simp [intOf]; omega
    · obtain rfl : k = K := by omega
      go_wp2_with (go_at_call 100; refine (grow_any _ hTk _).mono ?_; rintro e w1 ⟨A1, c1, rfl, ho1, hb1⟩)
      go_loopw [6, 27] (fun v i wr => ∃ (j : Nat) (A : Option Addr) (n c : Nat), j ≤ k ∧ i = .int .i64 j ∧ v = .slice A n c ∧ wr.ownsRow w.heap.size 66 2 (.slice A n c) n (lcells (ls.take j).flatten) ∧ Below w.heap.size w wr) (fun _ i _ => k - (intOf i).toNat)
      case atStart => exact ⟨0, A1, 0, c1, Nat.zero_le _, rfl, rfl, ho1, hb1⟩
      case round =>
        obtain ⟨j, A, n, c, hj, rfl, rfl, ho, hb⟩ := hrel
        have hn := ho.1
        rw [lcells_length] at hn
        by_cases hlt2 : j < k
        · obtain ⟨l, hl⟩ : ∃ l, ls[j]? = some l := ⟨ls[j]'(by rw [← HK.out]; exact hlt2), List.getElem?_eq_getElem _⟩
          obtain ⟨A2, m, c2, hv, hs⟩ := hp.sees j l hl
          have hc := (hb.cell (p := ⟨g, j, none⟩) hg).trans (hp.cell j _ hv)
          have hnl := hs.len
          have hlen : n + m ≤ 1099511627776 := by
            have h1 := HTb.out (j + 1)
            rw [HT.out, flat_succ hl, List.length_append, ← hnl] at h1
            omega
          have hs2 := (hs.below hb).src (c := c2)
          have Hfl := Lib.hid (flat_succ hl)
          clear hl hv hnl hn
          go_wp2_with (at_builtin; refine wpList_append_row rfl _ _ _ _ rfl elem_line rfl rfl ho hs2 hlen hb.size ?_; intro A' c' w' ho' hg' hat')
          go_roundw
          case rel => exact ⟨j + 1, A', n + m, c', by omega, by go_num, rfl, by rw [Hfl.out, lcells_append]; exact ho', hb.grown hg' hb.size (fun q hq => (ho.lt q hq).1)⟩
          case measure => simp [intOf]; omega
        · obtain rfl : j = k := by omega
          have hall : ls.take j = ls := List.take_of_length_le (by rw [HK.out]; exact Nat.le_refl _)
          rw [hall] at ho hn
          obtain rfl : n = ls.flatten.length := by omega
          have Ho := Lib.hid ho
          clear ho hn hall
          go_wp2
          go_ret
          exact ⟨A, c, rfl, Ho.out, hb⟩
end Go.Proofs.YtecnilcfhicfmaaGreatDoor.Li
namespace Go.Proofs.YtecnilcfhicfmaaGreatDoor.Li
open Go.RowKit
set_option maxRecDepth 100000
attribute [local go_sem ↓] Go.wp_at_zero Go.wp_at_succ

/-- A line of a text. -/
theorem new_any (g : Nat) (s d : ByteArray) (w : World) (hd : w.cell? ⟨g, 0, none⟩ = some (.string d)) :
    Calls Tryz.prog 68 #[.string s, .pointer (some ⟨g, 0, none⟩)] w fun e w' => e = .returned (.agg #[.string s, .string d]) ∧ Below w.heap.size w w' := by
  have hgl : g < w.heap.size := World.block_lt_of_cell? w ⟨g, 0, none⟩ hd
  go_enter Tryz.func68, Tryz.ntmps68
  go_wp2
  refine bodyPost_ret (v := .agg #[.string s, .string d]) (by simp [results, Tryz.results68, go_sem]) rfl ⟨rfl, ?_⟩
  exact (Below.refl _ _).alloc (Nat.le_refl _) _
theorem or_new (W : World) (t d : ByteArray) (g : Nat) (h : g = W.heap.size) : Calls Tryz.prog 71 #[.slice (some ⟨g, 0, none⟩) 2 2] (W.alloc (.cells #[.string t, .string d] 9)).drew fun e w' => e = .returned (encs (or2 t.data.toList d.data.toList)) ∧ (W.alloc (.cells #[.string t, .string d] 9)).drew = w' := by
  subst h
  have hg : (W.alloc (.cells #[.string t, .string d] 9)).drew.heap[W.heap.size]? = some (.cells #[.string t, .string d] 9 (0, 0)) := heap_alloc_new W _
  obtain ⟨p1, p2⟩ := box2 hg
  exact or_any _ t d _ p1 p2
theorem old_any (g : Nat) (s t d : ByteArray) (w : World) (hd : w.cell? ⟨g, 0, none⟩ = some (.string d)) :
    Calls Tryz.prog 70 #[.agg #[.string s, .string t], .pointer (some ⟨g, 0, none⟩)] w fun e w' => e = .returned (.agg #[.string s, encs (or2 t.data.toList d.data.toList)]) ∧ Below w.heap.size w w' := by
  have hgl : g < w.heap.size := World.block_lt_of_cell? w ⟨g, 0, none⟩ hd
  have HG := Lib.hid (fun W (hb : Below w.heap.size w W) => (hb.cell (p := ⟨g, 0, none⟩) hgl).trans hd)
  have K1 : ((w.alloc (Obj.cells #[.string s, .string t] 66)).alloc (Obj.cells #[.string ⟨#[]⟩, .string ⟨#[]⟩] 66)).cell? ⟨g, 0, none⟩ = some (.string d) := HG.out _ (((Below.refl _ _).alloc (Nat.le_refl _) _).alloc (by simp) _)
  have K2 : (((w.alloc (Obj.cells #[.string s, .string t] 66)).alloc (Obj.cells #[.string ⟨#[]⟩, .string ⟨#[]⟩] 66)).alloc (Obj.cells #[.string t, .string d] 9)).drew.cell? ⟨g, 0, none⟩ = some (.string d) := HG.out _ ((((Below.refl _ _).alloc (Nat.le_refl _) _).alloc (by simp) _).alloc (by simp <;> omega) _).drew
  have HO := Lib.hid (fun W g' h' => or_new W t d g' h')
  obtain ⟨q, hq⟩ : ∃ q : ByteArray, encs (or2 t.data.toList d.data.toList) = .string q := ⟨_, rfl⟩
  rw [hq] at HO
  rw [hq]
  clear hq
  have K3 : (((w.alloc (Obj.cells #[.string s, .string t] 66)).alloc (Obj.cells #[.string s, .string q] 66)).alloc (Obj.cells #[.string t, .string d] 9)).drew.cell? ⟨g, 0, none⟩ = some (.string d) := HG.out _ ((((Below.refl _ _).alloc (Nat.le_refl _) _).alloc (by simp) _).alloc (by simp <;> omega) _).drew
  go_enter Tryz.func70, Tryz.ntmps70
  go_wp2
  go_region_held3 (fun W => W.cell? ⟨w.heap.size, 0, none⟩ = some (.string s) ∧ W.cell? ⟨w.heap.size, 1, none⟩ = some (.string t) ∧ W.cell? ⟨g, 0, none⟩ = some (.string d))
    (go_keep)
    (first | (go_at_call 71; (with_reducible refine (HO.out _ _ (by simp)).mono ?_); rintro e w3 ⟨rfl, rfl⟩))
  all_goals
    go_wp2_with fail
    refine bodyPost_ret (v := .agg #[.string s, .string q]) (by simp [results, Tryz.results70, go_sem]) rfl ⟨rfl, ?_⟩
    exact ((((Below.refl _ _).alloc (Nat.le_refl _) _).alloc (by simp) _).alloc (by simp <;> omega) _).drew

/-- What is made of rows: a new row. -/
def Row (base : Nat) (w : World) (ls : List Ln) (e : Ending) (w' : World) : Prop :=
  ∃ A c, e = .returned (.slice A ls.length c) ∧ OwnL w' base A ls.length c ls ∧ Below base w w'
theorem make_line : (Tryz.prog.info? 66).map (fun i => (i.zero, i.size, i.bytes)) = some (some (.agg #[.string ⟨#[]⟩, .string ⟨#[]⟩]), 2, 32) := elem_line.info
theorem map_snoc {α β : Type} {l : List α} {k : Nat} {x : α} (h : l[k]? = some x) (f : α → β) : (l.take (k + 1)).map f = (l.take k).map f ++ [f x] := by
  rw [List.take_add_one, h]
  simp

set_option maxHeartbeats 2000000 in
theorem eachT_any (ts : List Bs) (A : Option Addr) (n c g : Nat) (d : ByteArray) (w : World) (h : SeesV w w.heap.size A n (ts.map encs)) (hn : n ≤ 274877906944) (hd : w.cell? ⟨g, 0, none⟩ = some (.string d)) :
    Calls Tryz.prog 67 #[.slice A n c, .func (.func 68) #[] #[.pointer (some ⟨g, 0, none⟩)]] w (Row w.heap.size w (ts.map fun t => (t, d.data.toList))) := by
  have hgl : g < w.heap.size := World.block_lt_of_cell? w ⟨g, 0, none⟩ hd
  have hlen := h.len
  rw [List.length_map] at hlen
  have HL := Lib.hid hlen
  obtain ⟨i0, hi, hz0, hz1, hz2⟩ := info_parts make_line
  have hb2 : i0.bytes * n ≤ 281474976710656 := by rw [hz2]; omega
  have HN := Lib.hid (fun W s (hb : Below w.heap.size w W) => new_any g s d W ((hb.cell (p := ⟨g, 0, none⟩) hgl).trans hd))
  clear hlen hd
  go_enter Tryz.func67, Tryz.ntmps67
  go_wp2_with (refine wpList_make_own _ rfl (.const (.int .i64 0)) (.tmp 9) _ rfl w.heap.size 66 i0 _ 2 Tryz.underlying56 hi hz0 hz1 .i64 .i64 _ n rfl rfl rfl hb2 (by simp only [maxLen]; omega) (Nat.le_refl _) ?_; intro w1 ho1 hg1)
  have hb1 : Below w.heap.size w w1 := ⟨hg1.os, hg1.tape, hg1.output, hg1.size, fun k hk => hg1.block k hk (by simp)⟩
  clear hi hz0 hz1 hz2 hb2 hg1
  go_loopw [5, 13] (fun v i wr => ∃ (k : Nat) (A2 : Option Addr) (c2 : Nat), k ≤ n ∧ i = .int .i64 k ∧ v = .slice A2 k c2 ∧ OwnL wr w.heap.size A2 k c2 ((ts.take k).map fun t => (t, d.data.toList)) ∧ Below w.heap.size w wr) (fun _ i _ => n - (intOf i).toNat)
  case atStart => exact ⟨0, _, n, Nat.zero_le _, rfl, rfl, ho1, hb1⟩
  case round =>
    obtain ⟨k, A2, c2, hk, rfl, rfl, ho, hb⟩ := hrel
    by_cases hlt : k < n
    · have q0 : (k : Int) < (n : Int) := by omega
      have q1 : (0 : Int) ≤ (k : Int) := by omega
      obtain ⟨t, ht⟩ : ∃ t, ts[k]? = some t := ⟨_, List.getElem?_eq_getElem (by have := HL.out; omega)⟩
      obtain ⟨b, o, rfl, hbB, hcell⟩ := (h.below hb).cell k (encs t) (by rw [List.getElem?_map, ht]; rfl)
      obtain ⟨s, hs⟩ : ∃ s : ByteArray, s = ⟨t.toArray⟩ := ⟨_, rfl⟩
      rw [encs, ← hs] at hcell
      have et : encs t = .string s := by rw [hs]; rfl
      have HM := Lib.hid (map_snoc ht (fun t => (t, d.data.toList)))
      have hbw : b < wr.heap.size := Nat.lt_of_lt_of_le hbB hb.size
      have hk46 : k + 1 ≤ 1099511627776 := by omega
      have HE := Lib.hid et
      have HO := Lib.hid ho
      have HB := Lib.hid hb
      clear ht hs et ho hb h
      go_wp2_with fail
      (with_reducible refine (HN.out _ s HB.out).mono ?_)
      rintro e w2 ⟨rfl, hb2⟩
      have hsz2 := HB.out.size
      have hsz3 := hb2.size
      have ho2 := (OwnL.below HO.out hb2).alloc (.cells #[.string s, .string d] 66)
      have hsrc := src_line w2 t d.data.toList #[.string s, .string d] (by rw [HE.out]; rfl) w2.heap.size rfl
      go_wp2_with (at_builtin; refine wpList_append_row rfl (.tmp 17) (.tmp 21) _ _ rfl elem_line rfl rfl ho2 hsrc hk46 (by simp; omega) ?_; intro A4 c4 w4 ho4 hg4 hat4)
      have HR : Hid (OwnL w4 w.heap.size A4 (k + 1) c4 ((ts.take (k + 1)).map fun t => (t, d.data.toList)) ∧ Below w.heap.size w w4) := Lib.hid ⟨by rw [HM.out, OwnL, lcells_append]; exact ho4, by
        have e1 : Below w.heap.size w (w2.alloc (.cells #[.string s, .string d] 66)) := (HB.out.trans (hb2.mono hsz2)).alloc (by omega) _
        exact e1.grown hg4 e1.size (fun k hk => (ho2.lt k hk).1)⟩
      clear ho4 hg4 hat4 ho2 hsrc
      go_roundw
      case rel => exact ⟨k + 1, A4, c4, by omega, by go_num, rfl, HR.out.1, HR.out.2⟩
      case measure => simp [intOf]; omega
    · have q0 : (n : Int) ≤ (k : Int) := by omega
      obtain rfl : k = n := by omega
      have e : ts.take k = ts := List.take_of_length_le (by have := HL.out; omega)
      rw [e] at ho
      have HO := Lib.hid ho
      clear ho e
      go_wp2_with fail
      go_ret
      have e2 : (ts.map fun t => (t, d.data.toList)).length = k := by rw [List.length_map, HL.out]
      exact ⟨A2, c2, by rw [e2]; rfl, by rw [e2]; exact HO.out, hb⟩
set_option maxHeartbeats 2000000 in
theorem eachL_any (ts : List Ln) (A : Option Addr) (n c g : Nat) (d : ByteArray) (w : World) (h : SeesL w w.heap.size A n ts) (hn : n ≤ 274877906944) (hd : w.cell? ⟨g, 0, none⟩ = some (.string d)) :
    Calls Tryz.prog 69 #[.slice A n c, .func (.func 70) #[] #[.pointer (some ⟨g, 0, none⟩)]] w (Row w.heap.size w (ts.map fun x => (x.1, or2 x.2 d.data.toList))) := by
  have hgl : g < w.heap.size := World.block_lt_of_cell? w ⟨g, 0, none⟩ hd
  have hlen := h.len
  have HL := Lib.hid hlen
  obtain ⟨i0, hi, hz0, hz1, hz2⟩ := info_parts make_line
  have hb2 : i0.bytes * n ≤ 281474976710656 := by rw [hz2]; omega
  have HN := Lib.hid (fun W s s2 (hb : Below w.heap.size w W) => old_any g s s2 d W ((hb.cell (p := ⟨g, 0, none⟩) hgl).trans hd))
  clear hlen hd
  go_enter Tryz.func69, Tryz.ntmps69
  go_wp2_with (refine wpList_make_own _ rfl (.const (.int .i64 0)) (.tmp 9) _ rfl w.heap.size 66 i0 _ 2 Tryz.underlying56 hi hz0 hz1 .i64 .i64 _ n rfl rfl rfl hb2 (by simp only [maxLen]; omega) (Nat.le_refl _) ?_; intro w1 ho1 hg1)
  have hb1 : Below w.heap.size w w1 := ⟨hg1.os, hg1.tape, hg1.output, hg1.size, fun k hk => hg1.block k hk (by simp)⟩
  clear hi hz0 hz1 hz2 hb2 hg1
  go_loopw [5, 13] (fun v i wr => ∃ (k : Nat) (A2 : Option Addr) (c2 : Nat), k ≤ n ∧ i = .int .i64 k ∧ v = .slice A2 k c2 ∧ OwnL wr w.heap.size A2 k c2 ((ts.take k).map fun x => (x.1, or2 x.2 d.data.toList)) ∧ Below w.heap.size w wr) (fun _ i _ => n - (intOf i).toNat)
  case atStart => exact ⟨0, _, n, Nat.zero_le _, rfl, rfl, ho1, hb1⟩
  case round =>
    obtain ⟨k, A2, c2, hk, rfl, rfl, ho, hb⟩ := hrel
    by_cases hlt : k < n
    · have q0 : (k : Int) < (n : Int) := by omega
      have q1 : (0 : Int) ≤ (k : Int) := by omega
      obtain ⟨t, ht⟩ : ∃ t, ts[k]? = some t := ⟨_, List.getElem?_eq_getElem (by have := HL.out; omega)⟩
      obtain ⟨b, o, rfl, hbB, hcell, hcell2⟩ := (h.below hb).at_ ht
      obtain ⟨s, hs⟩ : ∃ s : ByteArray, s = ⟨t.1.toArray⟩ := ⟨_, rfl⟩
      obtain ⟨s2, hs2⟩ : ∃ s : ByteArray, s = ⟨t.2.toArray⟩ := ⟨_, rfl⟩
      rw [encs, ← hs] at hcell
      rw [encs, ← hs2] at hcell2
      have et : encs t.1 = .string s := by rw [hs]; rfl
      have e2 : s2.data.toList = t.2 := by rw [hs2]
      obtain ⟨q, hq⟩ : ∃ q : ByteArray, encs (or2 t.2 d.data.toList) = .string q := ⟨_, rfl⟩
      have hN2 : ∀ W, Below w.heap.size w W → Calls Tryz.prog 70 #[.agg #[.string s, .string s2], .pointer (some ⟨g, 0, none⟩)] W fun e w' => e = .returned (.agg #[.string s, .string q]) ∧ Below W.heap.size W w' := by
        intro W hbW
        have := HN.out W s s2 hbW
        rwa [e2, hq] at this
      have HN2 := Lib.hid hN2
      have HQ := Lib.hid hq
      have HM := Lib.hid (map_snoc ht (fun x : Ln => (x.1, or2 x.2 d.data.toList)))
      have hbw : b < wr.heap.size := Nat.lt_of_lt_of_le hbB hb.size
      have hk46 : k + 1 ≤ 1099511627776 := by omega
      have HE := Lib.hid et
      have HO := Lib.hid ho
      have HB := Lib.hid hb
      clear ht hs et ho hb h hs2 e2 hq hN2
      go_wp2_with fail
      (with_reducible refine (HN2.out _ (HB.out.alloc HB.out.size _)).mono ?_)
      rintro e w2 ⟨rfl, hb2⟩
      have hsz2 := HB.out.size
      have hsz3 : wr.heap.size + 1 ≤ w2.heap.size := by have := hb2.size; simpa using this
      have hb2 : Below wr.heap.size wr w2 := ((Below.refl _ _).alloc (Nat.le_refl _) _).trans (hb2.mono (by simp))
      have ho2 := (OwnL.below HO.out hb2).alloc (.cells #[.string s, .string q] 66)
      have hsrc := src_line w2 t.1 (or2 t.2 d.data.toList) #[.string s, .string q] (by rw [HE.out, HQ.out]) w2.heap.size rfl
      go_wp2_with (at_builtin; refine wpList_append_row rfl (.tmp 17) (.tmp 21) _ _ rfl elem_line rfl rfl ho2 hsrc hk46 (by simp; omega) ?_; intro A4 c4 w4 ho4 hg4 hat4)
      have HR : Hid (OwnL w4 w.heap.size A4 (k + 1) c4 ((ts.take (k + 1)).map fun x => (x.1, or2 x.2 d.data.toList)) ∧ Below w.heap.size w w4) := Lib.hid ⟨by rw [HM.out, OwnL, lcells_append]; exact ho4, by
        have e1 : Below w.heap.size w (w2.alloc (.cells #[.string s, .string q] 66)) := (HB.out.trans (hb2.mono hsz2)).alloc (by omega) _
        exact e1.grown hg4 e1.size (fun k hk => (ho2.lt k hk).1)⟩
      clear ho4 hg4 hat4 ho2 hsrc
      go_roundw
      case rel => exact ⟨k + 1, A4, c4, by omega, by go_num, rfl, HR.out.1, HR.out.2⟩
      case measure => simp [intOf]; omega
    · have q0 : (n : Int) ≤ (k : Int) := by omega
      obtain rfl : k = n := by omega
      have e : ts.take k = ts := List.take_of_length_le (by have := HL.out; omega)
      rw [e] at ho
      have HO := Lib.hid ho
      clear ho e
      go_wp2_with fail
      go_ret
      have e2 : (ts.map fun x => (x.1, or2 x.2 d.data.toList)).length = k := by rw [List.length_map, HL.out]
      exact ⟨A2, c2, by rw [e2]; rfl, by rw [e2]; exact HO.out, hb⟩
end Go.Proofs.YtecnilcfhicfmaaGreatDoor.Li
