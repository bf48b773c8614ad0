/- schema.edgeOf and what it hands out: whether a name is that of one of a tree's edges; schema.every of strings with it. Conditions: slices no longer than slices can be. -/
import Derived.Test.YtagoeededpmdkaaScMath
import Derived.Outline
namespace Go.Proofs.Ytagoeededpmdkaa.Sc
open Go.RowKit Go.Proofs.Ytagoeededpmdkaa.Nm
set_option maxRecDepth 100000

theorem tl_is {s t : ByteArray} (h : s.data.toList = t.data.toList) : (s.toList == t.toList) = true := by
  rw [beq_iff_eq, ByteArray.toList_eq, ByteArray.toList_eq]
  exact h
theorem tl_ne {s t : ByteArray} (h : s.data.toList ≠ t.data.toList) : (s.toList == t.toList) = false := by
  rw [beq_eq_false_iff_ne, ByteArray.toList_eq, ByteArray.toList_eq]
  exact h
theorem box1 {w : World} {g : Nat} {u : Value} {T : TypeId} (h : w.heap[g]? = some (.cells #[u] T (0, 0))) : w.cell? ⟨g, 0, none⟩ = some u := by
  rw [cell_of_row w g 0 _ _ _ h]; rfl
theorem tn_drop {s : ByteArray} {k r : Tr} : ∀ {t : Tr} {i : Nat}, t.dropT i = .cons s k r → (tn t)[i]? = some s.data.toList
  | .nil, 0, h => by cases h
  | .nil, _ + 1, h => by cases h
  | .cons _ _ _, 0, h => by rw [dropT_zero] at h; injection h with h1 _ _; subst h1; rfl
  | .cons _ _ r', i + 1, h => by simp only [tn, List.getElem?_cons_succ]; exact tn_drop (t := r') h
theorem mem_take' {ss : List (List UInt8)} {k : Nat} {x y : List UInt8} (h : ss[k]? = some y) : x ∈ ss.take (k + 1) ↔ x ∈ ss.take k ∨ x = y := by
  rw [List.take_add_one, h]
  simp

theorem same_edge (s x : ByteArray) (A : Option Addr) (n c g : Nat) (w : World) (hg : w.cell? ⟨g, 0, none⟩ = some (.string x)) :
    Calls Try.prog 148 #[.agg #[.string s, .slice A n c], .pointer (some ⟨g, 0, none⟩)] w fun e w' => e = .returned (.bool (decide (s.data.toList = x.data.toList))) ∧ Below w.heap.size w w' := by
  have hl : g < w.heap.size := block_lt hg
  by_cases he : s.data.toList = x.data.toList
  · have hq := tl_is he
    rw [decide_eq_true he]
    clear he
    go_enter Try.func148, Try.ntmps148
    go_wp2_with fail
    go_ret
    exact ⟨rfl, (Below.refl _ _).alloc (Nat.le_refl _) _⟩
  · have hq := tl_ne he
    rw [decide_eq_false he]
    clear he
    go_enter Try.func148, Try.ntmps148
    go_wp2_with fail
    go_ret
    exact ⟨rfl, (Below.refl _ _).alloc (Nat.le_refl _) _⟩

def Found (b : Bool) (w : World) (e : Ending) (w' : World) : Prop := ∃ i : Int, -1 ≤ i ∧ i ≤ 4611686018427387904 ∧ e = .returned (.int .i64 i) ∧ decide (0 ≤ i) = b ∧ Below w.heap.size w w'

set_option maxHeartbeats 1000000 in
theorem index_edge (t : Tr) (A : Option Addr) (n c B g : Nat) (x : ByteArray) (w : World) (h : Holds w B A n t) (hB : B ≤ w.heap.size) (hg : w.cell? ⟨g, 0, none⟩ = some (.string x)) (hn : n ≤ 140737488351232) :
    Calls Try.prog 173 #[.slice A n c, .func (.func 148) #[] #[.pointer (some ⟨g, 0, none⟩)]] w (Found (decide (x.data.toList ∈ tn t)) w) := by
  have hgl : g < w.heap.size := block_lt hg
  have Hn := Lib.hid h.len
  obtain ⟨d, hd⟩ : ∃ d, d = decide (x.data.toList ∈ tn t) := ⟨_, rfl⟩
  have Hd := Lib.hid hd
  rw [← hd]
  clear hd
  go_enter Try.func173, Try.ntmps173
  go_wp2_with fail
  go_loopw [8] (fun i wr => ∃ k : Nat, k ≤ n ∧ i = .int .i64 k ∧ Hid (x.data.toList ∉ (tn t).take k) ∧ Below w.heap.size w wr) (fun i _ => n - (intOf i).toNat)
  case atStart => exact ⟨0, Nat.zero_le _, rfl, Lib.hid (by simp), Below.refl _ _⟩
  case round =>
    obtain ⟨k, hk, rfl, H, hbw⟩ := hrel
    by_cases hlt : k < n
    · obtain ⟨b, o, s, kt, r, A', n', c', rfl, hb, hs, hc, hn', hc', hk', hr, hdr, hd2⟩ := (h.below (hbw.mono hB)).split k hlt
      have Hs := Lib.hid (tn_drop hdr)
      have hkn : (k : Int) < (n : Int) := by omega
      have hk0 : (0 : Int) ≤ (k : Int) := by omega
      have hgw := (hbw.cell (p := ⟨g, 0, none⟩) hgl).trans hg
      have HC := Lib.hid (same_edge s x A' n' c' g wr hgw)
      have hsz := hbw.size
      clear hk' hr hdr hd2 hgw
      by_cases he : s.data.toList = x.data.toList
      · rw [decide_eq_true he] at HC
        have Hd2 : d = true := by
          rw [Hd.out, decide_eq_true_iff, ← he]
          exact List.mem_of_getElem? Hs.out
        subst Hd2
        clear he
        go_wp2_with fail
        (with_reducible refine HC.out.mono ?_)
        rintro e w1 ⟨rfl, hb1⟩
        go_wp2_with fail
        go_ret
        exact ⟨k, by omega, by omega, rfl, by simp, hbw.trans (hb1.mono hsz)⟩
      · rw [decide_eq_false he] at HC
        have H2 : Hid (x.data.toList ∉ (tn t).take (k + 1)) := Lib.hid (by rw [mem_take' Hs.out]; exact fun g => g.elim H.out (fun g => he g.symm))
        clear he
        go_wp2_with fail
        (with_reducible refine HC.out.mono ?_)
        rintro e w1 ⟨rfl, hb1⟩
        go_wp2_with fail
        go_roundw
        case rel => exact ⟨k + 1, by omega, by go_num, H2, hbw.trans (hb1.mono hsz)⟩
        case measure => simp [intOf]; omega
    · obtain rfl : k = n := by omega
      have Hd2 : d = false := by
        rw [Hd.out, decide_eq_false_iff_not]
        have := H.out
        rwa [List.take_of_length_le (by rw [tn_length, ← Hn.out]; exact Nat.le_refl _)] at this
      subst Hd2
      go_wp2_with fail
      go_ret
      exact ⟨-1, by omega, by omega, rfl, rfl, hbw⟩

theorem contains_edge (t : Tr) (A : Option Addr) (n c B g : Nat) (x : ByteArray) (w : World) (h : Holds w B A n t) (hB : B ≤ w.heap.size) (hg : w.cell? ⟨g, 0, none⟩ = some (.string x)) (hn : n ≤ 140737488351232) :
    Calls Try.prog 147 #[.slice A n c, .func (.func 148) #[] #[.pointer (some ⟨g, 0, none⟩)]] w fun e w' => e = .returned (.bool (decide (x.data.toList ∈ tn t))) ∧ Below w.heap.size w w' := by
  have HC := Lib.hid (index_edge t A n c B g x w h hB hg hn)
  obtain ⟨d, hd⟩ : ∃ d, d = decide (x.data.toList ∈ tn t) := ⟨_, rfl⟩
  rw [← hd] at HC ⊢
  clear hd h hg
  go_enter Try.func147, Try.ntmps147
  go_wp2_with fail
  (with_reducible refine HC.out.mono ?_)
  rintro e w1 ⟨i, hi1, hi2, rfl, hi, hb1⟩
  have Hi := Lib.hid hi
  clear hi
  go_wp2_with fail
  go_ret
  exact ⟨by rw [← Hi.out]; rfl, hb1⟩

theorem has_edge (t : Tr) (A : Option Addr) (n c B g : Nat) (x : ByteArray) (w : World) (h : Holds w B A n t) (hB : B ≤ w.heap.size) (hg : w.cell? ⟨g, 0, none⟩ = some (.slice A n c)) (hn : n ≤ 140737488351232) :
    Calls Try.prog 146 #[.string x, .pointer (some ⟨g, 0, none⟩)] w fun e w' => e = .returned (.bool (decide (x.data.toList ∈ tn t))) ∧ Below w.heap.size w w' := by
  have hgl : g < w.heap.size := block_lt hg
  obtain ⟨W1, hW1⟩ : ∃ W, W = w.alloc (Obj.cells #[Value.string x] 9) := ⟨_, rfl⟩
  have g0 : W1.heap[w.heap.size]? = some (Obj.cells #[Value.string x] 9) := by rw [hW1, heap_alloc_new]
  have hb1 : Below w.heap.size w W1 := by rw [hW1]; exact (Below.refl _ _).alloc (Nat.le_refl _) _
  have HC := Lib.hid (contains_edge t A n c B w.heap.size x W1 (h.below (hb1.mono hB)) (Nat.le_trans hB hb1.size) (box1 g0) hn)
  have hg1 := (hb1.cell (p := ⟨g, 0, none⟩) hgl).trans hg
  have hsz := hb1.size
  have HB := Lib.hid hb1
  clear hb1 h
  obtain ⟨d, hd⟩ : ∃ d, d = decide (x.data.toList ∈ tn t) := ⟨_, rfl⟩
  rw [← hd] at HC ⊢
  clear hd
  go_enter Try.func146, Try.ntmps146
  go_wp2_with fail
  rw [← hW1]
  clear hW1
  (with_reducible refine HC.out.mono ?_)
  rintro e w1 ⟨rfl, hb2⟩
  go_wp2_with fail
  go_ret
  exact ⟨rfl, HB.out.trans (hb2.mono hsz)⟩

theorem edgeOf_any (A : Option Addr) (n c : Nat) (w : World) :
    Calls Try.prog 109 #[.slice A n c] w fun e w' => e = .returned (.func (.func 146) #[] #[.pointer (some ⟨w.heap.size, 0, none⟩)]) ∧ w' = w.alloc (Obj.cells #[Value.slice A n c] 27) := by
  go_enter Try.func109, Try.ntmps109
  go_wp2_with fail
  go_ret
  exact ⟨rfl, rfl⟩

theorem all_take {α : Type} {l : List α} {p : α → Bool} {k : Nat} {y : α} (h : l[k]? = some y) : (l.take (k + 1)).all p = ((l.take k).all p && p y) := by
  rw [List.take_add_one, h]
  simp
theorem all_false {α : Type} {l : List α} {p : α → Bool} {k : Nat} {y : α} (h : l[k]? = some y) (hp : p y = false) : l.all p = false := by
  rw [List.all_eq_false]
  exact ⟨y, List.mem_of_getElem? h, by simp [hp]⟩

set_option maxHeartbeats 1000000 in
theorem every_has (ss : List (List UInt8)) (t : Tr) (A2 A : Option Addr) (m cm n c B g : Nat) (w : World) (hs : SeesV w B A2 m (ss.map encs)) (h : Holds w B A n t) (hB : B ≤ w.heap.size) (hg : w.cell? ⟨g, 0, none⟩ = some (.slice A n c)) (hn : n ≤ 140737488351232) (hm : m ≤ 4611686018427387904) :
    Calls Try.prog 108 #[.slice A2 m cm, .func (.func 146) #[] #[.pointer (some ⟨g, 0, none⟩)]] w fun e w' => e = .returned (.bool (ss.all fun x => decide (x ∈ tn t))) ∧ Below w.heap.size w w' := by
  have hgl : g < w.heap.size := block_lt hg
  have hl := hs.len
  rw [List.length_map] at hl
  have Hl := Lib.hid hl
  obtain ⟨p, hp⟩ : ∃ p : List UInt8 → Bool, p = fun x => decide (x ∈ tn t) := ⟨_, rfl⟩
  have Hp := Lib.hid hp
  rw [← hp]
  obtain ⟨d, hd⟩ : ∃ d, d = ss.all p := ⟨_, rfl⟩
  have Hd := Lib.hid hd
  rw [← hd]
  clear hd hp hl
  go_enter Try.func108, Try.ntmps108
  go_wp2_with fail
  go_loopw [9] (fun i wr => ∃ k : Nat, k ≤ m ∧ i = .int .i64 k ∧ Hid ((ss.take k).all p = true) ∧ Below w.heap.size w wr) (fun i _ => m - (intOf i).toNat)
  case atStart => exact ⟨0, Nat.zero_le _, rfl, Lib.hid (by simp), Below.refl _ _⟩
  case round =>
    obtain ⟨k, hk, rfl, H, hbw⟩ := hrel
    by_cases hlt : k < m
    · obtain ⟨b, o, s, rfl, hb, hc, hsk⟩ := nth (hs.below (hbw.mono hB)) hlt
      have Hs := Lib.hid hsk
      have hkn : (k : Int) < (m : Int) := by omega
      have hk0 : (0 : Int) ≤ (k : Int) := by omega
      have hgw := (hbw.cell (p := ⟨g, 0, none⟩) hgl).trans hg
      have HC := Lib.hid (has_edge t A n c B g s wr (h.below (hbw.mono hB)) (Nat.le_trans hB hbw.size) hgw hn)
      have hsz := hbw.size
      obtain ⟨q, hq⟩ : ∃ q, q = decide (s.data.toList ∈ tn t) := ⟨_, rfl⟩
      have Hq : Hid (p s.data.toList = q) := Lib.hid (by rw [hq, Hp.out])
      rw [← hq] at HC
      clear hsk hgw hq
      cases q with
      | false =>
        have Hd2 : d = false := by rw [Hd.out]; exact all_false Hs.out Hq.out
        subst Hd2
        go_wp2_with fail
        (with_reducible refine HC.out.mono ?_)
        rintro e w1 ⟨rfl, hb1⟩
        go_wp2_with fail
        go_ret
        exact ⟨rfl, hbw.trans (hb1.mono hsz)⟩
      | true =>
        have H2 : Hid ((ss.take (k + 1)).all p = true) := Lib.hid (by rw [all_take Hs.out, H.out, Hq.out]; rfl)
        go_wp2_with fail
        (with_reducible refine HC.out.mono ?_)
        rintro e w1 ⟨rfl, hb1⟩
        go_wp2_with fail
        go_roundw
        case rel => exact ⟨k + 1, by omega, by go_num, H2, hbw.trans (hb1.mono hsz)⟩
        case measure => simp [intOf]; omega
    · obtain rfl : k = m := by omega
      have Hd2 : d = true := by
        have := H.out
        rw [List.take_of_length_le (by rw [← Hl.out]; exact Nat.le_refl _)] at this
        rw [Hd.out, this]
      subst Hd2
      go_wp2_with fail
      go_ret
      exact ⟨rfl, hbw⟩
end Go.Proofs.Ytagoeededpmdkaa.Sc
