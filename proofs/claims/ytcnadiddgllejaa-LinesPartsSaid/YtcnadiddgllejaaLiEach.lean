/- lines.each, at the two function values of Insert. Conditions: fewer than 2^38 lines. -/
import Derived.Test.YtcnadiddgllejaaLiConcat
import Derived.OwnWalk
namespace Go.Proofs.Ytcnadiddgllejaa.Li
open Go.RowKit
set_option maxRecDepth 100000
attribute [local go_sem ↓] Go.wp_at_zero Go.wp_at_succ

/-- A line of a text. -/
theorem new_any (g : Nat) (s d : ByteArray) (w : World) (hd : w.cell? ⟨g, 0, none⟩ = some (.string d)) :
    Calls Try.prog 23 #[.string s, .pointer (some ⟨g, 0, none⟩)] w fun e w' => e = .returned (.agg #[.string s, .string d]) ∧ Below w.heap.size w w' := by
  have hgl : g < w.heap.size := World.block_lt_of_cell? w ⟨g, 0, none⟩ hd
  go_enter Try.func23, Try.ntmps23
  go_wp2
  refine bodyPost_ret (v := .agg #[.string s, .string d]) (by simp [results, Try.results23, go_sem]) rfl ⟨rfl, ?_⟩
  exact (Below.refl _ _).alloc (Nat.le_refl _) _
theorem or_new (W : World) (t d : ByteArray) (g : Nat) (h : g = W.heap.size) : Calls Try.prog 20 #[.slice (some ⟨g, 0, none⟩) 2 2] (W.alloc (.cells #[.string t, .string d] 9)).drew fun e w' => e = .returned (encs (or2 t.data.toList d.data.toList)) ∧ (W.alloc (.cells #[.string t, .string d] 9)).drew = w' := by
  subst h
  have hg : (W.alloc (.cells #[.string t, .string d] 9)).drew.heap[W.heap.size]? = some (.cells #[.string t, .string d] 9 (0, 0)) := heap_alloc_new W _
  obtain ⟨p1, p2⟩ := box2 hg
  exact or_any _ t d _ p1 p2
theorem old_any (g : Nat) (s t d : ByteArray) (w : World) (hd : w.cell? ⟨g, 0, none⟩ = some (.string d)) :
    Calls Try.prog 25 #[.agg #[.string s, .string t], .pointer (some ⟨g, 0, none⟩)] w fun e w' => e = .returned (.agg #[.string s, encs (or2 t.data.toList d.data.toList)]) ∧ Below w.heap.size w w' := by
  have hgl : g < w.heap.size := World.block_lt_of_cell? w ⟨g, 0, none⟩ hd
  have HG := Lib.hid (fun W (hb : Below w.heap.size w W) => (hb.cell (p := ⟨g, 0, none⟩) hgl).trans hd)
  have K1 : ((w.alloc (Obj.cells #[.string s, .string t] 34)).alloc (Obj.cells #[.string ⟨#[]⟩, .string ⟨#[]⟩] 34)).cell? ⟨g, 0, none⟩ = some (.string d) := HG.out _ (((Below.refl _ _).alloc (Nat.le_refl _) _).alloc (by simp) _)
  have K2 : (((w.alloc (Obj.cells #[.string s, .string t] 34)).alloc (Obj.cells #[.string ⟨#[]⟩, .string ⟨#[]⟩] 34)).alloc (Obj.cells #[.string t, .string d] 9)).drew.cell? ⟨g, 0, none⟩ = some (.string d) := HG.out _ ((((Below.refl _ _).alloc (Nat.le_refl _) _).alloc (by simp) _).alloc (by simp <;> omega) _).drew
  have HO := Lib.hid (fun W g' h' => or_new W t d g' h')
  obtain ⟨q, hq⟩ : ∃ q : ByteArray, encs (or2 t.data.toList d.data.toList) = .string q := ⟨_, rfl⟩
  rw [hq] at HO
  rw [hq]
  clear hq
  have K3 : (((w.alloc (Obj.cells #[.string s, .string t] 34)).alloc (Obj.cells #[.string s, .string q] 34)).alloc (Obj.cells #[.string t, .string d] 9)).drew.cell? ⟨g, 0, none⟩ = some (.string d) := HG.out _ ((((Below.refl _ _).alloc (Nat.le_refl _) _).alloc (by simp) _).alloc (by simp <;> omega) _).drew
  go_enter Try.func25, Try.ntmps25
  go_wp2
  go_region_held3 (fun W => W.cell? ⟨w.heap.size, 0, none⟩ = some (.string s) ∧ W.cell? ⟨w.heap.size, 1, none⟩ = some (.string t) ∧ W.cell? ⟨g, 0, none⟩ = some (.string d))
    (go_keep)
    (first | (go_at_call 20; (with_reducible refine (HO.out _ _ (by simp)).mono ?_); rintro e w3 ⟨rfl, rfl⟩))
  all_goals
    go_wp2_with fail
    refine bodyPost_ret (v := .agg #[.string s, .string q]) (by simp [results, Try.results25, go_sem]) rfl ⟨rfl, ?_⟩
    exact ((((Below.refl _ _).alloc (Nat.le_refl _) _).alloc (by simp) _).alloc (by simp <;> omega) _).drew

/-- What is made of rows: a new row. -/
def Row (base : Nat) (w : World) (ls : List Ln) (e : Ending) (w' : World) : Prop :=
  ∃ A c, e = .returned (.slice A ls.length c) ∧ OwnL w' base A ls.length c ls ∧ Below base w w'
theorem make_line : (Try.prog.info? 34).map (fun i => (i.zero, i.size, i.bytes)) = some (some (.agg #[.string ⟨#[]⟩, .string ⟨#[]⟩]), 2, 32) := elem_line.info
theorem map_snoc {α β : Type} {l : List α} {k : Nat} {x : α} (h : l[k]? = some x) (f : α → β) : (l.take (k + 1)).map f = (l.take k).map f ++ [f x] := by
  rw [List.take_add_one, h]
  simp

set_option maxHeartbeats 2000000 in
theorem eachT_any (ts : List Bs) (A : Option Addr) (n c g : Nat) (d : ByteArray) (w : World) (h : SeesV w w.heap.size A n (ts.map encs)) (hn : n ≤ 274877906944) (hd : w.cell? ⟨g, 0, none⟩ = some (.string d)) :
    Calls Try.prog 22 #[.slice A n c, .func (.func 23) #[] #[.pointer (some ⟨g, 0, none⟩)]] w (Row w.heap.size w (ts.map fun t => (t, d.data.toList))) := by
  have hgl : g < w.heap.size := World.block_lt_of_cell? w ⟨g, 0, none⟩ hd
  have hlen := h.len
  rw [List.length_map] at hlen
  have HL := Lib.hid hlen
  obtain ⟨i0, hi, hz0, hz1, hz2⟩ := info_parts make_line
  have hb2 : i0.bytes * n ≤ 281474976710656 := by rw [hz2]; omega
  have HN := Lib.hid (fun W s (hb : Below w.heap.size w W) => new_any g s d W ((hb.cell (p := ⟨g, 0, none⟩) hgl).trans hd))
  clear hlen hd
  go_enter Try.func22, Try.ntmps22
  go_wp2_with (refine wpList_make_own _ rfl (.const (.int .i64 0)) (.tmp 9) _ rfl w.heap.size 34 i0 _ 2 Try.underlying26 hi hz0 hz1 .i64 .i64 _ n rfl rfl rfl hb2 (by simp only [maxLen]; omega) (Nat.le_refl _) ?_; intro w1 ho1 hg1)
  have hb1 : Below w.heap.size w w1 := ⟨hg1.os, hg1.tape, hg1.output, hg1.size, fun k hk => hg1.block k hk (by simp)⟩
  clear hi hz0 hz1 hz2 hb2 hg1
  go_loopw [5, 13] (fun v i wr => ∃ (k : Nat) (A2 : Option Addr) (c2 : Nat), k ≤ n ∧ i = .int .i64 k ∧ v = .slice A2 k c2 ∧ OwnL wr w.heap.size A2 k c2 ((ts.take k).map fun t => (t, d.data.toList)) ∧ Below w.heap.size w wr) (fun _ i _ => n - (intOf i).toNat)
  case atStart => exact ⟨0, _, n, Nat.zero_le _, rfl, rfl, ho1, hb1⟩
  case round =>
    obtain ⟨k, A2, c2, hk, rfl, rfl, ho, hb⟩ := hrel
    by_cases hlt : k < n
    · have q0 : (k : Int) < (n : Int) := by omega
      have q1 : (0 : Int) ≤ (k : Int) := by omega
      obtain ⟨t, ht⟩ : ∃ t, ts[k]? = some t := ⟨_, List.getElem?_eq_getElem (by have := HL.out; omega)⟩
      obtain ⟨b, o, rfl, hbB, hcell⟩ := (h.below hb).cell k (encs t) (by rw [List.getElem?_map, ht]; rfl)
      obtain ⟨s, hs⟩ : ∃ s : ByteArray, s = ⟨t.toArray⟩ := ⟨_, rfl⟩
      rw [encs, ← hs] at hcell
      have et : encs t = .string s := by rw [hs]; rfl
      have HM := Lib.hid (map_snoc ht (fun t => (t, d.data.toList)))
      have hbw : b < wr.heap.size := Nat.lt_of_lt_of_le hbB hb.size
      have hk46 : k + 1 ≤ 1099511627776 := by omega
      have HE := Lib.hid et
      have HO := Lib.hid ho
      have HB := Lib.hid hb
      clear ht hs et ho hb h
      go_wp2_with fail
      (with_reducible refine (HN.out _ s HB.out).mono ?_)
      rintro e w2 ⟨rfl, hb2⟩
      have hsz2 := HB.out.size
      have hsz3 := hb2.size
      have ho2 := (OwnL.below HO.out hb2).alloc (.cells #[.string s, .string d] 34)
      have hsrc := src_line w2 t d.data.toList #[.string s, .string d] (by rw [HE.out]; rfl) w2.heap.size rfl
      go_wp2_with (at_builtin; refine wpList_append_row rfl (.tmp 17) (.tmp 21) _ _ rfl elem_line rfl rfl ho2 hsrc hk46 (by simp; omega) ?_; intro A4 c4 w4 ho4 hg4 hat4)
      have HR : Hid (OwnL w4 w.heap.size A4 (k + 1) c4 ((ts.take (k + 1)).map fun t => (t, d.data.toList)) ∧ Below w.heap.size w w4) := Lib.hid ⟨by rw [HM.out, OwnL, lcells_append]; exact ho4, by
        have e1 : Below w.heap.size w (w2.alloc (.cells #[.string s, .string d] 34)) := (HB.out.trans (hb2.mono hsz2)).alloc (by omega) _
        exact e1.grown hg4 e1.size (fun k hk => (ho2.lt k hk).1)⟩
      clear ho4 hg4 hat4 ho2 hsrc
      go_roundw
      case rel => exact ⟨k + 1, A4, c4, by omega, by go_num, rfl, HR.out.1, HR.out.2⟩
      case measure => simp [intOf]; omega
    · have q0 : (n : Int) ≤ (k : Int) := by omega
      obtain rfl : k = n := by omega
      have e : ts.take k = ts := List.take_of_length_le (by have := HL.out; omega)
      rw [e] at ho
      have HO := Lib.hid ho
      clear ho e
      go_wp2_with fail
      go_ret
      have e2 : (ts.map fun t => (t, d.data.toList)).length = k := by rw [List.length_map, HL.out]
      exact ⟨A2, c2, by rw [e2]; rfl, by rw [e2]; exact HO.out, hb⟩
set_option maxHeartbeats 2000000 in
theorem eachL_any (ts : List Ln) (A : Option Addr) (n c g : Nat) (d : ByteArray) (w : World) (h : SeesL w w.heap.size A n ts) (hn : n ≤ 274877906944) (hd : w.cell? ⟨g, 0, none⟩ = some (.string d)) :
    Calls Try.prog 24 #[.slice A n c, .func (.func 25) #[] #[.pointer (some ⟨g, 0, none⟩)]] w (Row w.heap.size w (ts.map fun x => (x.1, or2 x.2 d.data.toList))) := by
  have hgl : g < w.heap.size := World.block_lt_of_cell? w ⟨g, 0, none⟩ hd
  have hlen := h.len
  have HL := Lib.hid hlen
  obtain ⟨i0, hi, hz0, hz1, hz2⟩ := info_parts make_line
  have hb2 : i0.bytes * n ≤ 281474976710656 := by rw [hz2]; omega
  have HN := Lib.hid (fun W s s2 (hb : Below w.heap.size w W) => old_any g s s2 d W ((hb.cell (p := ⟨g, 0, none⟩) hgl).trans hd))
  clear hlen hd
  go_enter Try.func24, Try.ntmps24
  go_wp2_with (refine wpList_make_own _ rfl (.const (.int .i64 0)) (.tmp 9) _ rfl w.heap.size 34 i0 _ 2 Try.underlying26 hi hz0 hz1 .i64 .i64 _ n rfl rfl rfl hb2 (by simp only [maxLen]; omega) (Nat.le_refl _) ?_; intro w1 ho1 hg1)
  have hb1 : Below w.heap.size w w1 := ⟨hg1.os, hg1.tape, hg1.output, hg1.size, fun k hk => hg1.block k hk (by simp)⟩
  clear hi hz0 hz1 hz2 hb2 hg1
  go_loopw [5, 13] (fun v i wr => ∃ (k : Nat) (A2 : Option Addr) (c2 : Nat), k ≤ n ∧ i = .int .i64 k ∧ v = .slice A2 k c2 ∧ OwnL wr w.heap.size A2 k c2 ((ts.take k).map fun x => (x.1, or2 x.2 d.data.toList)) ∧ Below w.heap.size w wr) (fun _ i _ => n - (intOf i).toNat)
  case atStart => exact ⟨0, _, n, Nat.zero_le _, rfl, rfl, ho1, hb1⟩
  case round =>
    obtain ⟨k, A2, c2, hk, rfl, rfl, ho, hb⟩ := hrel
    by_cases hlt : k < n
    · have q0 : (k : Int) < (n : Int) := by omega
      have q1 : (0 : Int) ≤ (k : Int) := by omega
      obtain ⟨t, ht⟩ : ∃ t, ts[k]? = some t := ⟨_, List.getElem?_eq_getElem (by have := HL.out; omega)⟩
      obtain ⟨b, o, rfl, hbB, hcell, hcell2⟩ := (h.below hb).at_ ht
      obtain ⟨s, hs⟩ : ∃ s : ByteArray, s = ⟨t.1.toArray⟩ := ⟨_, rfl⟩
      obtain ⟨s2, hs2⟩ : ∃ s : ByteArray, s = ⟨t.2.toArray⟩ := ⟨_, rfl⟩
      rw [encs, ← hs] at hcell
      rw [encs, ← hs2] at hcell2
      have et : encs t.1 = .string s := by rw [hs]; rfl
      have e2 : s2.data.toList = t.2 := by rw [hs2]
      obtain ⟨q, hq⟩ : ∃ q : ByteArray, encs (or2 t.2 d.data.toList) = .string q := ⟨_, rfl⟩
      have hN2 : ∀ W, Below w.heap.size w W → Calls Try.prog 25 #[.agg #[.string s, .string s2], .pointer (some ⟨g, 0, none⟩)] W fun e w' => e = .returned (.agg #[.string s, .string q]) ∧ Below W.heap.size W w' := by
        intro W hbW
        have := HN.out W s s2 hbW
        rwa [e2, hq] at this
      have HN2 := Lib.hid hN2
      have HQ := Lib.hid hq
      have HM := Lib.hid (map_snoc ht (fun x : Ln => (x.1, or2 x.2 d.data.toList)))
      have hbw : b < wr.heap.size := Nat.lt_of_lt_of_le hbB hb.size
      have hk46 : k + 1 ≤ 1099511627776 := by omega
      have HE := Lib.hid et
      have HO := Lib.hid ho
      have HB := Lib.hid hb
      clear ht hs et ho hb h hs2 e2 hq hN2
      go_wp2_with fail
      (with_reducible refine (HN2.out _ (HB.out.alloc HB.out.size _)).mono ?_)
      rintro e w2 ⟨rfl, hb2⟩
      have hsz2 := HB.out.size
      have hsz3 : wr.heap.size + 1 ≤ w2.heap.size := by have := hb2.size; simpa using this
      have hb2 : Below wr.heap.size wr w2 := ((Below.refl _ _).alloc (Nat.le_refl _) _).trans (hb2.mono (by simp))
      have ho2 := (OwnL.below HO.out hb2).alloc (.cells #[.string s, .string q] 34)
      have hsrc := src_line w2 t.1 (or2 t.2 d.data.toList) #[.string s, .string q] (by rw [HE.out, HQ.out]) w2.heap.size rfl
      go_wp2_with (at_builtin; refine wpList_append_row rfl (.tmp 17) (.tmp 21) _ _ rfl elem_line rfl rfl ho2 hsrc hk46 (by simp; omega) ?_; intro A4 c4 w4 ho4 hg4 hat4)
      have HR : Hid (OwnL w4 w.heap.size A4 (k + 1) c4 ((ts.take (k + 1)).map fun x => (x.1, or2 x.2 d.data.toList)) ∧ Below w.heap.size w w4) := Lib.hid ⟨by rw [HM.out, OwnL, lcells_append]; exact ho4, by
        have e1 : Below w.heap.size w (w2.alloc (.cells #[.string s, .string q] 34)) := (HB.out.trans (hb2.mono hsz2)).alloc (by omega) _
        exact e1.grown hg4 e1.size (fun k hk => (ho2.lt k hk).1)⟩
      clear ho4 hg4 hat4 ho2 hsrc
      go_roundw
      case rel => exact ⟨k + 1, A4, c4, by omega, by go_num, rfl, HR.out.1, HR.out.2⟩
      case measure => simp [intOf]; omega
    · have q0 : (n : Int) ≤ (k : Int) := by omega
      obtain rfl : k = n := by omega
      have e : ts.take k = ts := List.take_of_length_le (by have := HL.out; omega)
      rw [e] at ho
      have HO := Lib.hid ho
      clear ho e
      go_wp2_with fail
      go_ret
      have e2 : (ts.map fun x => (x.1, or2 x.2 d.data.toList)).length = k := by rw [List.length_map, HL.out]
      exact ⟨A2, c2, by rw [e2]; rfl, by rw [e2]; exact HO.out, hb⟩
end Go.Proofs.Ytcnadiddgllejaa.Li
