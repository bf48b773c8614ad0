/- cmp.Or of two strings, lines.End, the document's own End; its Same at two rows that are the same. Conditions: lengths below 2^62. · slices.Grow of nil, slices.Concat of rows of lines. Conditions: what is joined is fewer than 2^40 lines. -/
import Derived.Test.YtlcbhooiinaalaaGreatDoorMwCvKn
import Derived.Lib.AppendZerosOnto
namespace Go.Proofs.YtlcbhooiinaalaaGreatDoor.Li
open Go.RowKit
set_option maxRecDepth 100000

/-- The first one that is not empty. -/
def or2 (a b : Bs) : Bs := if a = [] then b else a
theorem endOf_or {x : Ln} {r : List Ln} : endOf (x :: r) = or2 x.2 [10] := rfl

set_option maxHeartbeats 1000000 in
theorem or_any (g : Nat) (s t : ByteArray) (w : World) (h0 : w.cell? ⟨g, 0, none⟩ = some (.string s)) (h1 : w.cell? ⟨g, 1, none⟩ = some (.string t)) :
    Calls Tryz.prog 115 #[.slice (some ⟨g, 0, none⟩) 2 2] w fun e w' => e = .returned (encs (or2 s.data.toList t.data.toList)) ∧ w = w' := by
  by_cases hs : s.data.toList = []
  · have e1 : s.toList = [] := by rw [ByteArray.toList_eq]; exact hs
    have e2 : encs (or2 s.data.toList t.data.toList) = .string t := by rw [or2, if_pos hs]; rfl
    have HE := Lib.hid e2
    have hs0 : s = ⟨#[]⟩ := ByteArray.ext (Array.toList_inj.1 hs)
    subst hs0
    clear hs e2
    by_cases ht : t.data.toList = []
    · have ht0 : t = ⟨#[]⟩ := ByteArray.ext (Array.toList_inj.1 ht)
      subst ht0
      clear ht
      go_enter Tryz.func115, Tryz.ntmps115
      go_wp2
      go_loop [8] (fun i => ∃ k : Nat, k ≤ 2 ∧ i = .int .i64 k) (fun i => 2 - (intOf i).toNat)
      case atStart => exact ⟨0, by omega, rfl⟩
      case round =>
        obtain ⟨k, hk, rfl⟩ := hrel
        have hk3 : k = 0 ∨ k = 1 ∨ k = 2 := by omega
        rcases hk3 with rfl | rfl | rfl
        · go_wp2
          go_round
          case rel => exact ⟨1, by omega, rfl⟩
          case measure => simp [intOf]
        · go_wp2
          go_round
          case rel => exact ⟨2, by omega, rfl⟩
          case measure => simp [intOf]
        · go_wp2
          go_ret
          exact ⟨by rw [HE.out]; rfl, rfl⟩
    · have e3 : t.toList ≠ [] := by rw [ByteArray.toList_eq]; exact ht
      have e4 : t.toList.isEmpty = false := by rw [List.isEmpty_eq_false_iff]; exact e3
      have e5 : (t.toList == ([] : List UInt8)) = false := by simpa using e3
      clear ht e3
      go_enter Tryz.func115, Tryz.ntmps115
      go_wp2
      go_loop [8] (fun i => ∃ k : Nat, k ≤ 1 ∧ i = .int .i64 k) (fun i => 2 - (intOf i).toNat)
      case atStart => exact ⟨0, by omega, rfl⟩
      case round =>
        obtain ⟨k, hk, rfl⟩ := hrel
        have hk3 : k = 0 ∨ k = 1 := by omega
        rcases hk3 with rfl | rfl
        · go_wp2
          go_round
          case rel => exact ⟨1, by omega, rfl⟩
          case measure => simp [intOf]
        · go_wp2
          go_ret
          exact ⟨by rw [HE.out]; rfl, rfl⟩
  · have e2 : encs (or2 s.data.toList t.data.toList) = .string s := by rw [or2, if_neg hs]; rfl
    have HE := Lib.hid e2
    have e3 : s.toList ≠ [] := by rw [ByteArray.toList_eq]; exact hs
    have e4 : s.toList.isEmpty = false := by rw [List.isEmpty_eq_false_iff]; exact e3
    have e5 : (s.toList == ([] : List UInt8)) = false := by simpa using e3
    clear hs e2 e3
    go_enter Tryz.func115, Tryz.ntmps115
    go_wp2
    go_loop [8] (fun i => i = .int .i64 ((0 : Nat) : Int)) (fun i => 2 - (intOf i).toNat)
    case atStart => rfl
    case round =>
      subst hrel
      go_wp2
      go_ret
      exact ⟨by rw [HE.out]; rfl, rfl⟩

set_option maxHeartbeats 1000000 in
theorem end_any (ls : List Ln) (A : Option Addr) (n c B : Nat) (w : World) (_ : B ≤ w.heap.size) (h : SeesL w B A n ls) (hc : n ≤ c) (hn : n ≤ 1099511627776) :
    Calls Tryz.prog 109 #[.slice A n c] w fun e w' => e = .returned (encs (endOf ls)) ∧ Below w.heap.size w w' := by
  have hlen := h.len
  cases ls with
  | nil =>
    obtain rfl : n = 0 := hlen
    go_enter Tryz.func109, Tryz.ntmps109
    go_wp2
    go_ret
    exact ⟨rfl, Below.refl _ _⟩
  | cons x r =>
    obtain ⟨m, rfl⟩ : ∃ m, n = m + 1 := ⟨r.length, hlen⟩
    obtain ⟨b, o, rfl, hbB, hc1, hc2⟩ := h.at_ (j := 0) rfl
    obtain ⟨s2, hs2⟩ : ∃ s : ByteArray, s = ⟨x.2.toArray⟩ := ⟨_, rfl⟩
    rw [encs, ← hs2] at hc2
    have e2 : s2.data.toList = x.2 := by rw [hs2]
    have H2 := Lib.hid e2
    rw [Nat.zero_mul, Nat.add_zero] at hc2
    have q0 : ((m : Int) + 1 == 0) = false := by simp; omega
    obtain ⟨W1, hW1⟩ : ∃ W, W = w.alloc (Obj.cells #[.string s2, .string ⟨#[10]⟩] 9) := ⟨_, rfl⟩
    have hg1 : W1.heap[w.heap.size]? = some (.cells #[.string s2, .string ⟨#[10]⟩] 9 (0, 0)) := by rw [hW1]; exact heap_alloc_new _ _
    have hbb : Below w.heap.size w W1 := by rw [hW1]; exact (Below.refl _ _).alloc (Nat.le_refl _) _
    obtain ⟨p1, p2⟩ := box2 hg1
    have HC := Lib.hid (or_any w.heap.size s2 ⟨#[10]⟩ W1 p1 p2)
    have HW := Lib.hid hW1
    clear hs2 e2 hlen h hc1 p1 p2 hg1 hW1
    go_enter Tryz.func109, Tryz.ntmps109
    go_wp2_with fail
    rw [← HW.out]
    (with_reducible refine HC.out.mono ?_)
    rintro e w2 ⟨rfl, rfl⟩
    go_wp2_with fail
    go_ret
    refine ⟨?_, hbb⟩
    rw [endOf_or, ← H2.out]; rfl

set_option maxHeartbeats 1000000 in
theorem rend_any (ls : List Ln) (A : Option Addr) (n c B : Nat) (w : World) (_ : B ≤ w.heap.size) (h : SeesL w B A n ls) (hc : n ≤ c) (hn : n ≤ 1099511627776) :
    Calls Tryz.prog 42 #[.slice A n c] w fun e w' => e = .returned (encs (endOf ls)) ∧ w = w' := by
  have hlen := h.len
  cases ls with
  | nil =>
    obtain rfl : n = 0 := hlen
    go_enter Tryz.func42, Tryz.ntmps42
    go_wp2
    go_ret
    exact ⟨rfl, rfl⟩
  | cons x r =>
    obtain ⟨m, rfl⟩ : ∃ m, n = m + 1 := ⟨r.length, hlen⟩
    obtain ⟨b, o, rfl, hbB, hc1, hc2⟩ := h.at_ (j := 0) rfl
    obtain ⟨s2, hs2⟩ : ∃ s : ByteArray, s = ⟨x.2.toArray⟩ := ⟨_, rfl⟩
    have hv : encs (endOf (x :: r)) = if x.2 = [] then .string ⟨#[10]⟩ else .string s2 := by
      rw [endOf_or, or2]
      by_cases h0 : x.2 = []
      · rw [if_pos h0, if_pos h0]; rfl
      · rw [if_neg h0, if_neg h0, hs2]; rfl
    rw [encs, ← hs2] at hc2
    have e2 : s2.data.toList = x.2 := by rw [hs2]
    rw [Nat.zero_mul, Nat.add_zero] at hc2
    have q0 : ((m : Int) + 1 == 0) = false := by simp; omega
    by_cases h0 : x.2 = []
    · rw [if_pos h0] at hv
      have hs0 : s2 = ⟨#[]⟩ := ByteArray.ext (Array.toList_inj.1 (e2.trans h0))
      subst hs0
      have HV := Lib.hid hv
      clear hv hs2 e2 h0 hlen h hc1
      go_enter Tryz.func42, Tryz.ntmps42
      go_wp2_with fail
      go_ret
      exact ⟨by rw [HV.out]; rfl, rfl⟩
    · rw [if_neg h0] at hv
      have HV := Lib.hid hv
      have e3 : s2.toList ≠ [] := by rw [ByteArray.toList_eq, e2]; exact h0
      have e4 : s2.toList.isEmpty = false := by rw [List.isEmpty_eq_false_iff]; exact e3
      have e5 : (s2.toList == ([] : List UInt8)) = false := by simpa using e3
      clear hv hs2 e2 h0 hlen h hc1 e3
      go_enter Tryz.func42, Tryz.ntmps42
      go_wp2_with fail
      go_ret
      exact ⟨by rw [HV.out]; rfl, rfl⟩

theorem below_drewN {b : Nat} {w w' : World} (h : Below b w w') (n : Nat) : Below b w (w'.drewN n) := ⟨h.os, h.tape, h.output, h.size, h.block⟩
theorem neq_line (s t : ByteArray) (w : World) : (binOp .neq 88 (.agg #[.string s, .string t]) (.agg #[.string s, .string t])).run Tryz.prog w = .ok (.bool false) w := by
  have h1 := Tryz.underlying9
  simp [go_sem, run_neq_struct, run_equalIn_struct]


end Go.Proofs.YtlcbhooiinaalaaGreatDoor.Li
namespace Go.Proofs.YtlcbhooiinaalaaGreatDoor.Li
open Go.RowKit
set_option maxRecDepth 100000

def Grown (w : World) (e : Ending) (w' : World) : Prop := ∃ A c, e = .returned (.slice A 0 c) ∧ w'.ownsRow w.heap.size 88 2 (.slice A 0 c) 0 [] ∧ Below w.heap.size w w'

set_option maxHeartbeats 400000 in
theorem grow_any (n : Nat) (hn : n ≤ 1099511627776) (w : World) : Calls Tryz.prog 138 #[.slice none 0 0, .int .i64 n] w (Grown w) := by
  by_cases h0 : n = 0
  · subst h0
    go_enter Tryz.func138, Tryz.ntmps138
    go_wp2
    go_ret
    exact ⟨none, 0, rfl, World.ownsRow_nil _ _ _ _, Below.refl _ _⟩
  · obtain ⟨i0, hi0, hz0, hs0, hb0⟩ := info_parts elem_line.info
    have hr : ∀ ty, (Builtin.append_ #[71, 3] ty #[.slice none 0 0, .int .i64 n]).run Tryz.prog w = .ok (.slice (some ⟨w.heap.size, 0, none⟩) n (grownCap w n 0 88)) (w.drew.alloc (.cells (Builtin.zeroCells (Value.agg #[.string ⟨#[]⟩, .string ⟨#[]⟩]).cells n ++ Builtin.zeroCells (Value.agg #[.string ⟨#[]⟩, .string ⟨#[]⟩]).cells (grownCap w n 0 88 - n)) 88)) := by
      intro ty
      have h := Lib.run_append_grow_zeros (P := Tryz.prog) w 71 3 ty 88 i0 (.agg #[.string ⟨#[]⟩, .string ⟨#[]⟩]) .i64 .i64 Tryz.underlying71 Tryz.underlying3 hi0 hz0 none 0 0 [] (run_firstCells_none w.drew i0.size 0 0 0) n (by omega) (by omega) (by omega) (by omega) (by rw [hb0]; omega) (by
        have := growslice_fits (need := 0 + n) (old := 0) (bytes := i0.bytes) (by omega) (by rw [hb0]; omega)
        exact this)
      simpa using h
    have hge := grownCap_ge w n 0 88
    have hcm := grownCap_le_maxLen w n 0 88 (by simp only [maxLen]; omega)
    obtain ⟨G, hG⟩ : ∃ G, G = grownCap w n 0 88 := ⟨_, rfl⟩
    rw [← hG] at hr hge hcm
    have hzc : (Builtin.zeroCells (Value.agg #[.string ⟨#[]⟩, .string ⟨#[]⟩]).cells n ++ Builtin.zeroCells (Value.agg #[.string ⟨#[]⟩, .string ⟨#[]⟩]).cells (G - n)).size = G * 2 := by
      simp only [Array.size_append, size_zeroCells]
      rw [show (Value.agg #[.string ⟨#[]⟩, .string ⟨#[]⟩]).cells.size = 2 from rfl]
      omega
    have hown := World.ownsRow_made (base := w.heap.size) (e := 88) (size := 2) w.drew (Builtin.zeroCells (Value.agg #[.string ⟨#[]⟩, .string ⟨#[]⟩]).cells n ++ Builtin.zeroCells (Value.agg #[.string ⟨#[]⟩, .string ⟨#[]⟩]).cells (G - n)) G (by simp) hcm hzc
    generalize (Builtin.zeroCells (Value.agg #[.string ⟨#[]⟩, .string ⟨#[]⟩]).cells n ++ Builtin.zeroCells (Value.agg #[.string ⟨#[]⟩, .string ⟨#[]⟩]).cells (G - n)) = Z at *
    have hG2 : G ≤ 9223372036854775807 := by simp only [maxLen] at hcm; omega
    have Hown := Lib.hid hown
    clear hown hG hzc hi0 hz0 hs0 hb0 hcm
    go_enter Tryz.func138, Tryz.ntmps138
    go_wp2_with (at_builtin; refine Lib.wpList_append_run _ rfl _ _ _ _ rfl _ _ rfl rfl _ _ (hr _) ?_)
    go_ret
    exact ⟨_, _, rfl, Hown.out, (Below.refl _ _).drew.alloc (Nat.le_refl _) _⟩

/-- What is joined: the slices at the cells of a slice of slices. -/
structure Parts (w : World) (g : Nat) (vs : List Value) (ls : List (List Ln)) : Prop where
  len : vs.length = ls.length
  cell : ∀ (i : Nat) v, vs[i]? = some v → w.cell? ⟨g, i, none⟩ = some v
  sees : ∀ (i : Nat) l, ls[i]? = some l → ∃ A n c, vs[i]? = some (.slice A n c) ∧ SeesL w w.heap.size A n l

theorem Parts.three {w : World} {g : Nat} {A B C : Option Addr} {n m o c d f : Nat} {l k q : List Ln} (hg : w.heap[g]? = some (.cells #[.slice A n c, .slice B m d, .slice C o f] 71 (0, 0))) (h1 : SeesL w w.heap.size A n l) (h2 : SeesL w w.heap.size B m k) (h3 : SeesL w w.heap.size C o q) :
    Parts w g [.slice A n c, .slice B m d, .slice C o f] [l, k, q] := by
  refine ⟨rfl, fun i v hv => ?_, fun i l' hl => ?_⟩
  · rw [cell_of_row w g i _ _ _ hg]
    simpa using hv
  · match i, hl with
    | 0, hl => simp at hl; subst hl; exact ⟨A, n, c, rfl, h1⟩
    | 1, hl => simp at hl; subst hl; exact ⟨B, m, d, rfl, h2⟩
    | 2, hl => simp at hl; subst hl; exact ⟨C, o, f, rfl, h3⟩

theorem flat_succ {ls : List (List Ln)} {k : Nat} {l : List Ln} (h : ls[k]? = some l) : (ls.take (k + 1)).flatten = (ls.take k).flatten ++ l := by
  rw [List.take_add_one, h]
  simp
theorem flat_le (ls : List (List Ln)) (k : Nat) : (ls.take k).flatten.length ≤ ls.flatten.length := by
  conv => rhs; rw [← List.take_append_drop k ls, List.flatten_append, List.length_append]
  exact Nat.le_add_right _ _

def Joined (l : List Ln) (w : World) (e : Ending) (w' : World) : Prop := ∃ A c, e = .returned (.slice A l.length c) ∧ OwnL w' w.heap.size A l.length c l ∧ Below w.heap.size w w'

set_option maxHeartbeats 1000000 in
theorem concat_any (g K : Nat) (vs : List Value) (ls : List (List Ln)) (w : World) (hp : Parts w g vs ls) (hK : K = ls.length) (hK2 : K ≤ 65536) (hT : ls.flatten.length ≤ 1099511627776) (hg : g < w.heap.size) :
    Calls Tryz.prog 110 #[.slice (some ⟨g, 0, none⟩) K K] w (Joined ls.flatten w) := by
  have HK := Lib.hid hK
  clear hK
  obtain ⟨T, hTd⟩ : ∃ T : Nat → Nat, T = fun k => (ls.take k).flatten.length := ⟨_, rfl⟩
  have HT : Hid (∀ k, T k = (ls.take k).flatten.length) := by intro k; rw [hTd]
  have HTb : Hid (∀ k, T k ≤ 1099511627776) := by
    intro k
    rw [hTd]
    exact Nat.le_trans (flat_le ls k) hT
  have HT0 : Hid (T 0 = 0) := by rw [HT.out]; rfl
  clear hTd
  go_enter Tryz.func110, Tryz.ntmps110
  go_wp2
  go_loop [3, 11] (fun v i => ∃ k : Nat, k ≤ K ∧ i = .int .i64 k ∧ v = .int .i64 (T k)) (fun _ i => K - (intOf i).toNat)
  case atStart => exact ⟨0, Nat.zero_le _, rfl, by rw [HT0.out]; rfl⟩
  case round =>
    obtain ⟨k, hk, rfl, rfl⟩ := hrel
    have hTk := HTb.out k
    by_cases hlt : k < K
    · obtain ⟨l, hl⟩ : ∃ l, ls[k]? = some l := ⟨ls[k]'(by rw [← HK.out]; exact hlt), List.getElem?_eq_getElem _⟩
      obtain ⟨A, n, c, hv, hs⟩ := hp.sees k l hl
      have hc := hp.cell k _ hv
      have hnl := hs.len
      have HT1 := Lib.hid (show T (k + 1) = T k + n by rw [HT.out, HT.out, flat_succ hl, List.length_append, hnl])
      have hb1 : T k + n ≤ 1099511627776 := by have := HTb.out (k + 1); rw [HT1.out] at this; exact this
      clear hl hv hnl
      go_wp2
      go_round
      case rel => exact ⟨k + 1, by omega, by go_num, by rw [HT1.out]; go_num⟩
      case measure => simp [intOf]; omega
    · obtain rfl : k = K := by omega
      go_wp2_with (go_at_call 138; refine (grow_any _ hTk _).mono ?_; rintro e w1 ⟨A1, c1, rfl, ho1, hb1⟩)
      go_loopw [6, 27] (fun v i wr => ∃ (j : Nat) (A : Option Addr) (n c : Nat), j ≤ k ∧ i = .int .i64 j ∧ v = .slice A n c ∧ wr.ownsRow w.heap.size 88 2 (.slice A n c) n (lcells (ls.take j).flatten) ∧ Below w.heap.size w wr) (fun _ i _ => k - (intOf i).toNat)
      case atStart => exact ⟨0, A1, 0, c1, Nat.zero_le _, rfl, rfl, ho1, hb1⟩
      case round =>
        obtain ⟨j, A, n, c, hj, rfl, rfl, ho, hb⟩ := hrel
        have hn := ho.1
        rw [lcells_length] at hn
        by_cases hlt2 : j < k
        · obtain ⟨l, hl⟩ : ∃ l, ls[j]? = some l := ⟨ls[j]'(by rw [← HK.out]; exact hlt2), List.getElem?_eq_getElem _⟩
          obtain ⟨A2, m, c2, hv, hs⟩ := hp.sees j l hl
          have hc := (hb.cell (p := ⟨g, j, none⟩) hg).trans (hp.cell j _ hv)
          have hnl := hs.len
          have hlen : n + m ≤ 1099511627776 := by
            have h1 := HTb.out (j + 1)
            rw [HT.out, flat_succ hl, List.length_append, ← hnl] at h1
            omega
          have hs2 := (hs.below hb).src (c := c2)
          have Hfl := Lib.hid (flat_succ hl)
          clear hl hv hnl hn
          go_wp2_with (at_builtin; refine wpList_append_row rfl _ _ _ _ rfl elem_line rfl rfl ho hs2 hlen hb.size ?_; intro A' c' w' ho' hg' hat')
          go_roundw
          case rel => exact ⟨j + 1, A', n + m, c', by omega, by go_num, rfl, by rw [Hfl.out, lcells_append]; exact ho', hb.grown hg' hb.size (fun q hq => (ho.lt q hq).1)⟩
          case measure => simp [intOf]; omega
        · obtain rfl : j = k := by omega
          have hall : ls.take j = ls := List.take_of_length_le (by rw [HK.out]; exact Nat.le_refl _)
          rw [hall] at ho hn
          obtain rfl : n = ls.flatten.length := by omega
          have Ho := Lib.hid ho
          clear ho hn hall
          go_wp2
          go_ret
          exact ⟨A, c, rfl, Ho.out, hb⟩
end Go.Proofs.YtlcbhooiinaalaaGreatDoor.Li
