/- lines.each, at the two function values of Insert. Conditions: fewer than 2^38 lines. · lines.Insert: what it makes of any lines. Conditions: fewer than 2^36 lines, texts. -/
import Derived.Test.YtkgpjohfkfbfhaaGreatDoorMwCwSay
import Derived.OwnWalk
namespace Go.Proofs.YtkgpjohfkfbfhaaGreatDoor.Li
open Go.RowKit
set_option maxRecDepth 100000
attribute [local go_sem ↓] Go.wp_at_zero Go.wp_at_succ

/-- A line of a text. -/
theorem new_any (g : Nat) (s d : ByteArray) (w : World) (hd : w.cell? ⟨g, 0, none⟩ = some (.string d)) :
    Calls Tryz.prog 109 #[.string s, .pointer (some ⟨g, 0, none⟩)] w fun e w' => e = .returned (.agg #[.string s, .string d]) ∧ Below w.heap.size w w' := by
  have hgl : g < w.heap.size := World.block_lt_of_cell? w ⟨g, 0, none⟩ hd
  go_enter Tryz.func109, Tryz.ntmps109
  go_wp2
  refine bodyPost_ret (v := .agg #[.string s, .string d]) (by simp [results, Tryz.results109, go_sem]) rfl ⟨rfl, ?_⟩
  exact (Below.refl _ _).alloc (Nat.le_refl _) _
theorem or_new (W : World) (t d : ByteArray) (g : Nat) (h : g = W.heap.size) : Calls Tryz.prog 112 #[.slice (some ⟨g, 0, none⟩) 2 2] (W.alloc (.cells #[.string t, .string d] 9)).drew fun e w' => e = .returned (encs (or2 t.data.toList d.data.toList)) ∧ (W.alloc (.cells #[.string t, .string d] 9)).drew = w' := by
  subst h
  have hg : (W.alloc (.cells #[.string t, .string d] 9)).drew.heap[W.heap.size]? = some (.cells #[.string t, .string d] 9 (0, 0)) := heap_alloc_new W _
  obtain ⟨p1, p2⟩ := box2 hg
  exact or_any _ t d _ p1 p2
theorem old_any (g : Nat) (s t d : ByteArray) (w : World) (hd : w.cell? ⟨g, 0, none⟩ = some (.string d)) :
    Calls Tryz.prog 111 #[.agg #[.string s, .string t], .pointer (some ⟨g, 0, none⟩)] w fun e w' => e = .returned (.agg #[.string s, encs (or2 t.data.toList d.data.toList)]) ∧ Below w.heap.size w w' := by
  have hgl : g < w.heap.size := World.block_lt_of_cell? w ⟨g, 0, none⟩ hd
  have HG := Lib.hid (fun W (hb : Below w.heap.size w W) => (hb.cell (p := ⟨g, 0, none⟩) hgl).trans hd)
  have K1 : ((w.alloc (Obj.cells #[.string s, .string t] 86)).alloc (Obj.cells #[.string ⟨#[]⟩, .string ⟨#[]⟩] 86)).cell? ⟨g, 0, none⟩ = some (.string d) := HG.out _ (((Below.refl _ _).alloc (Nat.le_refl _) _).alloc (by simp) _)
  have K2 : (((w.alloc (Obj.cells #[.string s, .string t] 86)).alloc (Obj.cells #[.string ⟨#[]⟩, .string ⟨#[]⟩] 86)).alloc (Obj.cells #[.string t, .string d] 9)).drew.cell? ⟨g, 0, none⟩ = some (.string d) := HG.out _ ((((Below.refl _ _).alloc (Nat.le_refl _) _).alloc (by simp) _).alloc (by simp <;> omega) _).drew
  have HO := Lib.hid (fun W g' h' => or_new W t d g' h')
  obtain ⟨q, hq⟩ : ∃ q : ByteArray, encs (or2 t.data.toList d.data.toList) = .string q := ⟨_, rfl⟩
  rw [hq] at HO
  rw [hq]
  clear hq
  have K3 : (((w.alloc (Obj.cells #[.string s, .string t] 86)).alloc (Obj.cells #[.string s, .string q] 86)).alloc (Obj.cells #[.string t, .string d] 9)).drew.cell? ⟨g, 0, none⟩ = some (.string d) := HG.out _ ((((Below.refl _ _).alloc (Nat.le_refl _) _).alloc (by simp) _).alloc (by simp <;> omega) _).drew
  go_enter Tryz.func111, Tryz.ntmps111
  go_wp2
  go_region_held3 (fun W => W.cell? ⟨w.heap.size, 0, none⟩ = some (.string s) ∧ W.cell? ⟨w.heap.size, 1, none⟩ = some (.string t) ∧ W.cell? ⟨g, 0, none⟩ = some (.string d))
    (go_keep)
    (first | (go_at_call 112; (with_reducible refine (HO.out _ _ (by simp)).mono ?_); rintro e w3 ⟨rfl, rfl⟩))
  all_goals
    go_wp2_with fail
    refine bodyPost_ret (v := .agg #[.string s, .string q]) (by simp [results, Tryz.results111, go_sem]) rfl ⟨rfl, ?_⟩
    exact ((((Below.refl _ _).alloc (Nat.le_refl _) _).alloc (by simp) _).alloc (by simp <;> omega) _).drew

/-- What is made of rows: a new row. -/
def Row (base : Nat) (w : World) (ls : List Ln) (e : Ending) (w' : World) : Prop :=
  ∃ A c, e = .returned (.slice A ls.length c) ∧ OwnL w' base A ls.length c ls ∧ Below base w w'
theorem make_line : (Tryz.prog.info? 86).map (fun i => (i.zero, i.size, i.bytes)) = some (some (.agg #[.string ⟨#[]⟩, .string ⟨#[]⟩]), 2, 32) := elem_line.info
theorem map_snoc {α β : Type} {l : List α} {k : Nat} {x : α} (h : l[k]? = some x) (f : α → β) : (l.take (k + 1)).map f = (l.take k).map f ++ [f x] := by
  rw [List.take_add_one, h]
  simp

set_option maxHeartbeats 2000000 in
theorem eachT_any (ts : List Bs) (A : Option Addr) (n c g : Nat) (d : ByteArray) (w : World) (h : SeesV w w.heap.size A n (ts.map encs)) (hn : n ≤ 274877906944) (hd : w.cell? ⟨g, 0, none⟩ = some (.string d)) :
    Calls Tryz.prog 108 #[.slice A n c, .func (.func 109) #[] #[.pointer (some ⟨g, 0, none⟩)]] w (Row w.heap.size w (ts.map fun t => (t, d.data.toList))) := by
  have hgl : g < w.heap.size := World.block_lt_of_cell? w ⟨g, 0, none⟩ hd
  have hlen := h.len
  rw [List.length_map] at hlen
  have HL := Lib.hid hlen
  obtain ⟨i0, hi, hz0, hz1, hz2⟩ := info_parts make_line
  have hb2 : i0.bytes * n ≤ 281474976710656 := by rw [hz2]; omega
  have HN := Lib.hid (fun W s (hb : Below w.heap.size w W) => new_any g s d W ((hb.cell (p := ⟨g, 0, none⟩) hgl).trans hd))
  clear hlen hd
  go_enter Tryz.func108, Tryz.ntmps108
  go_wp2_with (refine wpList_make_own _ rfl (.const (.int .i64 0)) (.tmp 9) _ rfl w.heap.size 86 i0 _ 2 Tryz.underlying62 hi hz0 hz1 .i64 .i64 _ n rfl rfl rfl hb2 (by simp only [maxLen]; omega) (Nat.le_refl _) ?_; intro w1 ho1 hg1)
  have hb1 : Below w.heap.size w w1 := ⟨hg1.os, hg1.tape, hg1.output, hg1.size, fun k hk => hg1.block k hk (by simp)⟩
  clear hi hz0 hz1 hz2 hb2 hg1
  go_loopw [5, 13] (fun v i wr => ∃ (k : Nat) (A2 : Option Addr) (c2 : Nat), k ≤ n ∧ i = .int .i64 k ∧ v = .slice A2 k c2 ∧ OwnL wr w.heap.size A2 k c2 ((ts.take k).map fun t => (t, d.data.toList)) ∧ Below w.heap.size w wr) (fun _ i _ => n - (intOf i).toNat)
  case atStart => exact ⟨0, _, n, Nat.zero_le _, rfl, rfl, ho1, hb1⟩
  case round =>
    obtain ⟨k, A2, c2, hk, rfl, rfl, ho, hb⟩ := hrel
    by_cases hlt : k < n
    · have q0 : (k : Int) < (n : Int) := by omega
      have q1 : (0 : Int) ≤ (k : Int) := by omega
      obtain ⟨t, ht⟩ : ∃ t, ts[k]? = some t := ⟨_, List.getElem?_eq_getElem (by have := HL.out; omega)⟩
      obtain ⟨b, o, rfl, hbB, hcell⟩ := (h.below hb).cell k (encs t) (by rw [List.getElem?_map, ht]; rfl)
      obtain ⟨s, hs⟩ : ∃ s : ByteArray, s = ⟨t.toArray⟩ := ⟨_, rfl⟩
      rw [encs, ← hs] at hcell
      have et : encs t = .string s := by rw [hs]; rfl
      have HM := Lib.hid (map_snoc ht (fun t => (t, d.data.toList)))
      have hbw : b < wr.heap.size := Nat.lt_of_lt_of_le hbB hb.size
      have hk46 : k + 1 ≤ 1099511627776 := by omega
      have HE := Lib.hid et
      have HO := Lib.hid ho
      have HB := Lib.hid hb
      clear ht hs et ho hb h
      go_wp2_with fail
      (with_reducible refine (HN.out _ s HB.out).mono ?_)
      rintro e w2 ⟨rfl, hb2⟩
      have hsz2 := HB.out.size
      have hsz3 := hb2.size
      have ho2 := (OwnL.below HO.out hb2).alloc (.cells #[.string s, .string d] 86)
      have hsrc := src_line w2 t d.data.toList #[.string s, .string d] (by rw [HE.out]; rfl) w2.heap.size rfl
      go_wp2_with (at_builtin; refine wpList_append_row rfl (.tmp 17) (.tmp 21) _ _ rfl elem_line rfl rfl ho2 hsrc hk46 (by simp; omega) ?_; intro A4 c4 w4 ho4 hg4 hat4)
      have HR : Hid (OwnL w4 w.heap.size A4 (k + 1) c4 ((ts.take (k + 1)).map fun t => (t, d.data.toList)) ∧ Below w.heap.size w w4) := Lib.hid ⟨by rw [HM.out, OwnL, lcells_append]; exact ho4, by
        have e1 : Below w.heap.size w (w2.alloc (.cells #[.string s, .string d] 86)) := (HB.out.trans (hb2.mono hsz2)).alloc (by omega) _
        exact e1.grown hg4 e1.size (fun k hk => (ho2.lt k hk).1)⟩
      clear ho4 hg4 hat4 ho2 hsrc
      go_roundw
      case rel => exact ⟨k + 1, A4, c4, by omega, by go_num, rfl, HR.out.1, HR.out.2⟩
      case measure => simp [intOf]; omega
    · have q0 : (n : Int) ≤ (k : Int) := by omega
      obtain rfl : k = n := by omega
      have e : ts.take k = ts := List.take_of_length_le (by have := HL.out; omega)
      rw [e] at ho
      have HO := Lib.hid ho
      clear ho e
      go_wp2_with fail
      go_ret
      have e2 : (ts.map fun t => (t, d.data.toList)).length = k := by rw [List.length_map, HL.out]
      exact ⟨A2, c2, by rw [e2]; rfl, by rw [e2]; exact HO.out, hb⟩
set_option maxHeartbeats 2000000 in
theorem eachL_any (ts : List Ln) (A : Option Addr) (n c g : Nat) (d : ByteArray) (w : World) (h : SeesL w w.heap.size A n ts) (hn : n ≤ 274877906944) (hd : w.cell? ⟨g, 0, none⟩ = some (.string d)) :
    Calls Tryz.prog 110 #[.slice A n c, .func (.func 111) #[] #[.pointer (some ⟨g, 0, none⟩)]] w (Row w.heap.size w (ts.map fun x => (x.1, or2 x.2 d.data.toList))) := by
  have hgl : g < w.heap.size := World.block_lt_of_cell? w ⟨g, 0, none⟩ hd
  have hlen := h.len
  have HL := Lib.hid hlen
  obtain ⟨i0, hi, hz0, hz1, hz2⟩ := info_parts make_line
  have hb2 : i0.bytes * n ≤ 281474976710656 := by rw [hz2]; omega
  have HN := Lib.hid (fun W s s2 (hb : Below w.heap.size w W) => old_any g s s2 d W ((hb.cell (p := ⟨g, 0, none⟩) hgl).trans hd))
  clear hlen hd
  go_enter Tryz.func110, Tryz.ntmps110
  go_wp2_with (refine wpList_make_own _ rfl (.const (.int .i64 0)) (.tmp 9) _ rfl w.heap.size 86 i0 _ 2 Tryz.underlying62 hi hz0 hz1 .i64 .i64 _ n rfl rfl rfl hb2 (by simp only [maxLen]; omega) (Nat.le_refl _) ?_; intro w1 ho1 hg1)
  have hb1 : Below w.heap.size w w1 := ⟨hg1.os, hg1.tape, hg1.output, hg1.size, fun k hk => hg1.block k hk (by simp)⟩
  clear hi hz0 hz1 hz2 hb2 hg1
  go_loopw [5, 13] (fun v i wr => ∃ (k : Nat) (A2 : Option Addr) (c2 : Nat), k ≤ n ∧ i = .int .i64 k ∧ v = .slice A2 k c2 ∧ OwnL wr w.heap.size A2 k c2 ((ts.take k).map fun x => (x.1, or2 x.2 d.data.toList)) ∧ Below w.heap.size w wr) (fun _ i _ => n - (intOf i).toNat)
  case atStart => exact ⟨0, _, n, Nat.zero_le _, rfl, rfl, ho1, hb1⟩
  case round =>
    obtain ⟨k, A2, c2, hk, rfl, rfl, ho, hb⟩ := hrel
    by_cases hlt : k < n
    · have q0 : (k : Int) < (n : Int) := by omega
      have q1 : (0 : Int) ≤ (k : Int) := by omega
      obtain ⟨t, ht⟩ : ∃ t, ts[k]? = some t := ⟨_, List.getElem?_eq_getElem (by have := HL.out; omega)⟩
      obtain ⟨b, o, rfl, hbB, hcell, hcell2⟩ := (h.below hb).at_ ht
      obtain ⟨s, hs⟩ : ∃ s : ByteArray, s = ⟨t.1.toArray⟩ := ⟨_, rfl⟩
      obtain ⟨s2, hs2⟩ : ∃ s : ByteArray, s = ⟨t.2.toArray⟩ := ⟨_, rfl⟩
      rw [encs, ← hs] at hcell
      rw [encs, ← hs2] at hcell2
      have et : encs t.1 = .string s := by rw [hs]; rfl
      have e2 : s2.data.toList = t.2 := by rw [hs2]
      obtain ⟨q, hq⟩ : ∃ q : ByteArray, encs (or2 t.2 d.data.toList) = .string q := ⟨_, rfl⟩
      have hN2 : ∀ W, Below w.heap.size w W → Calls Tryz.prog 111 #[.agg #[.string s, .string s2], .pointer (some ⟨g, 0, none⟩)] W fun e w' => e = .returned (.agg #[.string s, .string q]) ∧ Below W.heap.size W w' := by
        intro W hbW
        have := HN.out W s s2 hbW
        rwa [e2, hq] at this
      have HN2 := Lib.hid hN2
      have HQ := Lib.hid hq
      have HM := Lib.hid (map_snoc ht (fun x : Ln => (x.1, or2 x.2 d.data.toList)))
      have hbw : b < wr.heap.size := Nat.lt_of_lt_of_le hbB hb.size
      have hk46 : k + 1 ≤ 1099511627776 := by omega
      have HE := Lib.hid et
      have HO := Lib.hid ho
      have HB := Lib.hid hb
      clear ht hs et ho hb h hs2 e2 hq hN2
      go_wp2_with fail
      (with_reducible refine (HN2.out _ (HB.out.alloc HB.out.size _)).mono ?_)
      rintro e w2 ⟨rfl, hb2⟩
      have hsz2 := HB.out.size
      have hsz3 : wr.heap.size + 1 ≤ w2.heap.size := by have := hb2.size; simpa using this
      have hb2 : Below wr.heap.size wr w2 := ((Below.refl _ _).alloc (Nat.le_refl _) _).trans (hb2.mono (by simp))
      have ho2 := (OwnL.below HO.out hb2).alloc (.cells #[.string s, .string q] 86)
      have hsrc := src_line w2 t.1 (or2 t.2 d.data.toList) #[.string s, .string q] (by rw [HE.out, HQ.out]) w2.heap.size rfl
      go_wp2_with (at_builtin; refine wpList_append_row rfl (.tmp 17) (.tmp 21) _ _ rfl elem_line rfl rfl ho2 hsrc hk46 (by simp; omega) ?_; intro A4 c4 w4 ho4 hg4 hat4)
      have HR : Hid (OwnL w4 w.heap.size A4 (k + 1) c4 ((ts.take (k + 1)).map fun x => (x.1, or2 x.2 d.data.toList)) ∧ Below w.heap.size w w4) := Lib.hid ⟨by rw [HM.out, OwnL, lcells_append]; exact ho4, by
        have e1 : Below w.heap.size w (w2.alloc (.cells #[.string s, .string q] 86)) := (HB.out.trans (hb2.mono hsz2)).alloc (by omega) _
        exact e1.grown hg4 e1.size (fun k hk => (ho2.lt k hk).1)⟩
      clear ho4 hg4 hat4 ho2 hsrc
      go_roundw
      case rel => exact ⟨k + 1, A4, c4, by omega, by go_num, rfl, HR.out.1, HR.out.2⟩
      case measure => simp [intOf]; omega
    · have q0 : (n : Int) ≤ (k : Int) := by omega
      obtain rfl : k = n := by omega
      have e : ts.take k = ts := List.take_of_length_le (by have := HL.out; omega)
      rw [e] at ho
      have HO := Lib.hid ho
      clear ho e
      go_wp2_with fail
      go_ret
      have e2 : (ts.map fun x => (x.1, or2 x.2 d.data.toList)).length = k := by rw [List.length_map, HL.out]
      exact ⟨A2, c2, by rw [e2]; rfl, by rw [e2]; exact HO.out, hb⟩
end Go.Proofs.YtkgpjohfkfbfhaaGreatDoor.Li
namespace Go.Proofs.YtkgpjohfkfbfhaaGreatDoor.Li
open Go.RowKit
set_option maxRecDepth 100000
attribute [local go_sem ↓] Go.wp_at_zero Go.wp_at_succ

theorem SeesV.more {w : World} {B B' n : Nat} {A : Option Addr} {vs : List Value} (hB : B ≤ B') (h : SeesV w B A n vs) : SeesV w B' A n vs :=
  ⟨h.len, fun j u hu => by
    obtain ⟨b, o, ha, hb, hc⟩ := h.cell j u hu
    exact ⟨b, o, ha, Nat.lt_of_lt_of_le hb hB, hc⟩⟩
/-- The place: from 0 to n. -/
def Place (a : Int) (n k : Nat) : Prop := (a < 0 ∧ k = 0) ∨ (0 ≤ a ∧ a ≤ n ∧ a = k) ∨ ((n : Int) < a ∧ k = n)
theorem ended_eq (e : Bs) : ∀ l : List Ln, ended e l = (l.take (l.length - 1)).map (fun x => (x.1, or2 x.2 e)) ++ l.drop (l.length - 1)
  | [] => rfl
  | [x] => rfl
  | x :: y :: r => by
    have := ended_eq e (y :: r)
    rw [ended, this]
    rfl

theorem SeesL.cut {w : World} {B n : Nat} {A : Option Addr} {ls : List Ln} (h : SeesL w B A n ls) {k : Nat} (hk : k ≤ n) : SeesL w B (Option.map (fun x => x.add (k * 2)) A) (n - k) (ls.drop k) := by
  have hl := h.len
  refine ⟨by rw [List.length_drop]; omega, fun j u hu => ?_⟩
  rw [lcells_drop, List.getElem?_drop] at hu
  obtain ⟨b, o, rfl, hb, hc⟩ := h.cell _ u hu
  exact ⟨b, o + k * 2, by rw [Option.map_some, Addr.add_lit], hb, by rw [Nat.add_assoc]; exact hc⟩
theorem SeesL.over {w : World} {B n : Nat} {A : Option Addr} {ls : List Ln} (h : SeesL w B A n ls) {k : Nat} (hk : n ≤ k) : SeesL w B A 0 (ls.drop k) := by
  have hl := h.len
  rw [List.drop_of_length_le (by omega)]
  exact SeesL.nil _ _ _
theorem OwnL.less {w : World} {base base' n c : Nat} {A : Option Addr} {cs : List Value} (h : w.ownsRow base 86 2 (.slice A n c) n cs) (hb : base' ≤ base) : w.ownsRow base' 86 2 (.slice A n c) n cs := by
  refine ⟨h.1, ?_⟩
  rcases h.2 with e | ⟨g, cap, cur, e, hg, rest⟩
  · exact .inl e
  · exact .inr ⟨g, cap, cur, e, Nat.le_trans hb hg, rest⟩
theorem joined3 {V : World} {g n1 n2 n3 c1 c2 c3 : Nat} {A1 A2 A3 : Option Addr} {l1 l2 l3 : List Ln} (h1 : SeesL V V.heap.size A1 n1 l1) (h2 : SeesL V V.heap.size A2 n2 l2) (h3 : SeesL V V.heap.size A3 n3 l3) (hl : n1 + n2 + n3 ≤ 1099511627776) (hg : g = V.heap.size) :
    Calls Tryz.prog 107 #[.slice (some ⟨g, 0, none⟩) 3 3] (V.alloc (.cells #[.slice A1 n1 c1, .slice A2 n2 c2, .slice A3 n3 c3] 62)) fun e w' => ∃ A c N, Hid (N = n1 + n2 + n3) ∧ e = .returned (.slice A N c) ∧ OwnL w' V.heap.size A N c (l1 ++ l2 ++ l3) ∧ Below V.heap.size V w' := by
  subst hg
  have hn1 := h1.len
  have hn2 := h2.len
  have hn3 := h3.len
  have hb : Below V.heap.size V (V.alloc (.cells #[.slice A1 n1 c1, .slice A2 n2 c2, .slice A3 n3 c3] 62)) := (Below.refl _ _).alloc (Nat.le_refl _) _
  have hp := Parts.three (heap_alloc_new V (.cells #[.slice A1 n1 c1, .slice A2 n2 c2, .slice A3 n3 c3] 62)) ((h1.below hb).more hb.size) ((h2.below hb).more hb.size) ((h3.below hb).more hb.size)
  have hf : [l1, l2, l3].flatten = l1 ++ l2 ++ l3 := by simp
  have hfl : (l1 ++ l2 ++ l3).length = n1 + n2 + n3 := by simp only [List.length_append]; omega
  have := concat_any V.heap.size 3 _ _ _ hp rfl (by omega) (by rw [hf, hfl]; exact hl) (by simp)
  rw [hf] at this
  refine this.mono ?_
  rintro e w' ⟨A, c, rfl, ho, hbb⟩
  rw [hfl] at ho ⊢
  refine ⟨A, c, _, Lib.hid rfl, rfl, ?_, hb.trans (hbb.mono hb.size)⟩
  exact OwnL.less ho (by simp)

theorem eachL_n (ts : List Ln) (A : Option Addr) (n c g : Nat) (d : ByteArray) (w : World) (h : SeesL w w.heap.size A n ts) (hn : n ≤ 274877906944) (hd : w.cell? ⟨g, 0, none⟩ = some (.string d)) :
    Calls Tryz.prog 110 #[.slice A n c, .func (.func 111) #[] #[.pointer (some ⟨g, 0, none⟩)]] w fun e w' => ∃ A' c', e = .returned (.slice A' n c') ∧ OwnL w' w.heap.size A' n c' (ts.map fun x => (x.1, or2 x.2 d.data.toList)) ∧ Below w.heap.size w w' := by
  refine (eachL_any ts A n c g d w h hn hd).mono ?_
  rintro e w' ⟨A', c', rfl, ho, hb⟩
  have e2 : (ts.map fun x => (x.1, or2 x.2 d.data.toList)).length = n := by rw [List.length_map, h.len]
  rw [e2] at ho ⊢
  exact ⟨A', c', rfl, ho, hb⟩

set_option maxHeartbeats 4000000 in
theorem insert_any (ls : List Ln) (A : Option Addr) (n c : Nat) (ts : List Bs) (A2 : Option Addr) (n2 c2 : Nat) (a : Int) (k : Nat) (w : World) (h : SeesL w w.heap.size A n ls) (hc : n ≤ c) (hn : n ≤ 68719476736) (h2 : SeesV w w.heap.size A2 n2 (ts.map encs)) (hn2 : n2 ≤ 68719476736) (hk : Place a n k)
    (hr : -9223372036854775808 ≤ a ∧ a ≤ 9223372036854775807) :
    Calls Tryz.prog 71 #[.slice A n c, .int .i64 a, .slice A2 n2 c2] w (Row w.heap.size w (insert ls k ts)) := by
  have HE := Lib.hid (fun W (hb : Below w.heap.size w W) => end_any ls A n c W.heap.size W (Nat.le_refl _) ((h.below hb).more hb.size) hc (by omega))
  obtain ⟨d, hd⟩ : ∃ d : ByteArray, d = ⟨(endOf ls).toArray⟩ := ⟨_, rfl⟩
  have hd1 : encs (endOf ls) = .string d := by rw [hd]; rfl
  have hd2 : d.data.toList = endOf ls := by rw [hd]
  rw [hd1] at HE
  have Hd2 := Lib.hid hd2
  clear hd hd1 hd2
  have hmm : min (max a 0) (n : Int) = (k : Int) := by
    rcases hk with ⟨ha, rfl⟩ | ⟨ha, ha2, ha3⟩ | ⟨ha, rfl⟩ <;> omega
  have hkn : k ≤ n := by
    rcases hk with ⟨ha, rfl⟩ | ⟨ha, ha2, ha3⟩ | ⟨ha, rfl⟩ <;> omega
  have HM := Lib.hid hmm
  have b1 : (0 : Int) ≤ (k : Int) := by omega
  have b2 : (k : Int) ≤ (n : Int) := by omega
  have b3 : (k : Int) ≤ (c : Int) := by omega
  clear hmm hk
  have key : (k = c ∧ Hid (SeesL w w.heap.size A 0 (ls.drop k))) ∨ (¬ c = k ∧ Hid (SeesL w w.heap.size (Option.map (fun x => x.add (k * 2)) A) (n - k) (ls.drop k))) := by
    by_cases hck : c = k
    · exact .inl ⟨hck.symm, Lib.hid (h.over (by omega))⟩
    · exact .inr ⟨hck, Lib.hid (h.cut hkn)⟩
  have hln := h2.len
  rw [List.length_map] at hln
  have Hln := Lib.hid hln
  have HT1 := Lib.hid (h.take hkn)
  clear hln
  rcases key with ⟨hck, HD⟩ | ⟨hck, HD⟩
  all_goals
    first | subst hck | skip
    go_enter Tryz.func71, Tryz.ntmps71
    go_wp2_with fail
    (with_reducible refine (HE.out _ (Below.refl _ _)).mono ?_)
    rintro e w1 ⟨rfl, hb1⟩
    go_wp2_with fail
    rw [HM.out]
    obtain ⟨W0, hW0⟩ : ∃ W, W = w1.alloc (Obj.cells #[.string d] 9) := ⟨_, rfl⟩
    rw [← hW0]
    have hg0 : W0.heap[w1.heap.size]? = some (.cells #[.string d] 9 (0, 0)) := by rw [hW0]; exact heap_alloc_new _ _
    have hz0 : W0.heap.size = w1.heap.size + 1 := by rw [hW0]; simp
    have hbW : Below w.heap.size w W0 := by rw [hW0]; exact hb1.alloc hb1.size _
    have hin := (h.below hbW).more hbW.size
    have hin2 := SeesV.more hbW.size (h2.below hbW)
    have hcd : W0.cell? ⟨w1.heap.size, 0, none⟩ = some (.string d) := by rw [cell_of_row _ _ _ _ _ _ hg0]; rfl
    have HT := Lib.hid (fun W (hb : Below W0.heap.size W0 W) => eachT_any ts A2 n2 c2 w1.heap.size d W (SeesV.more hb.size (hin2.below hb)) (by omega) ((hb.cell (p := ⟨w1.heap.size, 0, none⟩) (by simp only; omega)).trans hcd))
    rw [Hd2.out] at HT
    have hb0 := (Below.refl W0.heap.size W0).drew
    have hsum0 : k + ts.length + 0 ≤ 1099511627776 := by have := Hln.out; omega
    have hsum : k + ts.length + (n - k) ≤ 1099511627776 := by have := Hln.out; omega
    have HI := Lib.hid hin
    have Hbw := Lib.hid hbW
    have Hz := Lib.hid hz0
    have Hcd := Lib.hid hcd
    clear h h2 hW0 hg0 hz0 hin hin2 hcd hbW
    go_region_held3 (fun W => Below W0.heap.size W0 W) (first | exact f1.alloc f1.size _ | exact f2 | exact f1 | exact hb0)
      (first
      | (go_at_call 108; (with_reducible refine (HT.out _ hb0).mono ?_); rintro e v1 ⟨A3, c3, rfl, ho3, e1⟩; have f1 := hb0.trans (e1.mono hb0.size); rw [List.length_map] at ho3; have i3 := ho3.sees; have j1 := (HT1.out.below (Hbw.out.trans (f1.mono Hbw.out.size))).more (Hbw.out.trans (f1.mono Hbw.out.size)).size; have j3 := (HD.out.below (Hbw.out.trans (f1.mono Hbw.out.size))).more (Hbw.out.trans (f1.mono Hbw.out.size)).size)
      | (go_at_call 107; (with_reducible refine (joined3 j1 i3 j3 hsum rfl).mono ?_); rintro e v2 ⟨A4, c4, N, HN0, rfl, ho4, e2⟩; have f2 := f1.trans (e2.mono f1.size))
      | (go_at_call 107; (with_reducible refine (joined3 j1 i3 j3 hsum0 rfl).mono ?_); rintro e v2 ⟨A4, c4, N, HN0, rfl, ho4, e2⟩; have f2 := f1.trans (e2.mono f1.size)))
    have hN := HN0.out
    have hNb : N ≤ 1099511627776 := by have := Hln.out; omega
    have hl4 := ho4.sees
    have hc4 := ho4.cap
    have hmx : max ((N : Int) - 1) 0 = ((N - 1 : Nat) : Int) := by omega
    obtain ⟨p, hp⟩ : ∃ p, p = N - 1 := ⟨_, rfl⟩
    rw [← hp] at hmx
    have hpN : p ≤ N := by omega
    have g1 : (0 : Int) ≤ (N : Int) := by omega
    have g2 : (N : Int) ≤ 1099511627776 := by omega
    have g3 : (0 : Int) ≤ (p : Int) := by omega
    have g4 : (p : Int) ≤ (c4 : Int) := by omega
    have g5 : (p : Int) ≤ (N : Int) := by omega
    obtain ⟨all, hall⟩ : ∃ all, all = ls.take k ++ ts.map (fun t => (t, endOf ls)) ++ ls.drop k := ⟨_, rfl⟩
    rw [← hall] at ho4 hl4
    have Hall := Lib.hid hall
    have Hp := Lib.hid hp
    have HN := Lib.hid hN
    have HA := Lib.hid hl4.len
    have key2 : (p = c4 ∧ Hid (SeesL v2 v2.heap.size A4 (N - p) (all.drop p))) ∨ (¬ c4 = p ∧ Hid (SeesL v2 v2.heap.size (Option.map (fun x => x.add (p * 2)) A4) (N - p) (all.drop p))) := by
      by_cases hcp : c4 = p
      · exact .inl ⟨hcp.symm, Lib.hid (by rw [show N - p = 0 by omega]; exact hl4.over (by omega))⟩
      · exact .inr ⟨hcp, Lib.hid (hl4.cut hpN)⟩
    have hcd2 : v2.cell? ⟨w1.heap.size, 0, none⟩ = some (.string d) := (f2.cell (p := ⟨w1.heap.size, 0, none⟩) (by have := Hz.out; simp only; omega)).trans Hcd.out
    have HX := Lib.hid (fun c => eachL_n (all.take p) A4 p c w1.heap.size d v2 (hl4.take hpN) (by have := Hln.out; omega) hcd2)
    have hf2 := Hbw.out.trans (f2.mono Hbw.out.size)
    have Hf2 := Lib.hid hf2
    clear hp hN hall hl4 hcd2 e1 e2 i3 j1 j3 ho3 f1 f2 hf2 hc4
    rcases key2 with ⟨hcp, HD2⟩ | ⟨hcp, HD2⟩
    all_goals
      first | subst hcp | skip
      go_wp2_with fail
      (with_reducible refine (HX.out _).mono ?_)
      rintro e v3 ⟨A5, c5, rfl, ho5, e3⟩
      have hs6 := ((HD2.out.below e3).more e3.size)
      have hn6 : p + (N - p) ≤ 1099511627776 := by omega
      have hsrc := fun c => hs6.src (c := c)
      have hz3 := e3.size
      go_wp2_with (at_builtin; refine wpList_append_row rfl (.tmp 38) (.tmp 41) _ _ rfl elem_line rfl rfl ho5 (hsrc _) hn6 hz3 ?_; intro A6 c6 v4 ho6 hg6 hat6)
      have hE : insert ls k ts = (all.take p).map (fun x => (x.1, or2 x.2 d.data.toList)) ++ all.drop p := by
        rw [insert, ← Hall.out, ended_eq, ← HA.out, ← Hp.out, Hd2.out]
      have hL : (insert ls k ts).length = N := by rw [insert, ← Hall.out, ended_length, ← HA.out]
      rw [show p + (N - p) = N by omega] at ho6
      have HE1 := Lib.hid hE
      have HL1 := Lib.hid hL
      clear hE hL
      go_ret
      refine ⟨A6, c6, ?_, ?_, ?_⟩
      · rw [HL1.out]; rfl
      · rw [HL1.out, HE1.out, OwnL, lcells_append]
        exact OwnL.less ho6 Hf2.out.size
      · have e4 := e3.grown hg6 e3.size (fun q hq => (ho5.lt q hq).1)
        exact Hf2.out.trans (e4.mono Hf2.out.size)
end Go.Proofs.YtkgpjohfkfbfhaaGreatDoor.Li
