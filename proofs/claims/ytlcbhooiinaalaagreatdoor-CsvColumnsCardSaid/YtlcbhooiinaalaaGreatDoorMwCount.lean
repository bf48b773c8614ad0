/- Count, Few: how many raw edges there are, no more than so many counted. Conditions: a slice is no longer than a slice can be. · At, Kid of the reference: where a name's edge stands, or would. Conditions: fewer edges than 2^47. · A row of bytes of the call's own, and append of bytes onto it: from a slice, from a text, from make; at an operation of the walk. No conditions but that lengths stay below 2^46. -/
import Derived.Test.YtlcbhooiinaalaaGreatDoorMwWords
import Derived.LoopTactic
import Derived.Deep.QuietTactic
import Derived.BigQuiet
import Derived.Deep.AppendSrc
namespace Go.Proofs.YtlcbhooiinaalaaGreatDoor
open Go.RowKit
set_option maxRecDepth 100000

/-- Count, round by round: what is still to be looked at, what has been counted. -/
def Tr.count : Tr → Int → Int → Int
  | .nil, n, _ => n
  | .cons _ k r, n, most => if n < most then r.count (n + k.count k.len (most - n)) most else n
theorem count_ge (t : Tr) : ∀ n most, n ≤ t.count n most := by
  induction t with
  | nil => intro n most; exact Int.le_refl _
  | cons s k r ihk ihr =>
    intro n most
    simp only [Tr.count]
    split
    · have h1 := ihk k.len (most - n)
      have h2 := ihr (n + k.count k.len (most - n)) most
      omega
    · exact Int.le_refl _
/-- Where it stays below, all were counted. -/
theorem count_all (t : Tr) : ∀ n most, t.count n most < most → t.count n most + t.len = n + t.size := by
  induction t with
  | nil => intro n most _; simp [Tr.count, Tr.len, Tr.size]
  | cons s k r ihk ihr =>
    intro n most h
    have hg := count_ge (.cons s k r) n most
    simp only [Tr.count] at h hg ⊢
    by_cases hc : n < most
    case neg => rw [if_neg hc] at h; omega
    rw [if_pos hc] at h hg ⊢
    have h0 := count_ge r (n + k.count k.len (most - n)) most
    have h1 := ihk k.len (most - n) (by omega)
    have h2 := ihr _ _ h
    simp only [Tr.len, Tr.size]
    omega
/-- An edge among others. -/
theorem Holds.split {w : World} {B : Nat} : ∀ {t : Tr} {A : Option Addr} {n : Nat} (i : Nat), Holds w B A n t → i < n →
    ∃ (b o : Nat) (s : ByteArray) (k r : Tr) (A' : Option Addr) (n' c' : Nat), A = some ⟨b, o, none⟩ ∧ b < B ∧ w.cell? ⟨b, o + i * 2, none⟩ = some (.string s) ∧ w.cell? ⟨b, o + i * 2 + 1, none⟩ = some (.slice A' n' c') ∧ n' ≤ c' ∧ c' ≤ maxLen ∧
      Holds w B A' n' k ∧ Holds w B (some ⟨b, o + i * 2 + 2, none⟩) (n - i - 1) r ∧ t.dropT i = .cons s k r ∧ t.dropT (i + 1) = r
  | .nil, _, _, i, h, hi => by rw [show _ = 0 from h] at hi; omega
  | .cons s k r, _, n, 0, ⟨b, o, e, hb, hs, ⟨A', n', c', hc, hn, hm, hk⟩, m, hm1, hr⟩, _ => by
    subst hm1
    exact ⟨b, o, s, k, r, A', n', c', e, hb, by simpa using hs, by simpa using hc, hn, hm, hk, by simpa using hr, rfl, by simp [Tr.dropT]⟩
  | .cons s k r, _, n, i + 1, ⟨b, o, e, hb, hs, ⟨A', n', c', hc, hn, hm, hk⟩, m, hm1, hr⟩, hi => by
    subst hm1
    obtain ⟨b', o', s', k', r', A2, n2, c2, e2, hb2, h1, h2, h3, h4, h5, h6, h7, h8⟩ := Holds.split i hr (by omega)
    cases e2
    refine ⟨b, o, s', k', r', A2, n2, c2, e, hb, ?_, ?_, h3, h4, h5, ?_, h7, h8⟩
    · rw [show o + (i + 1) * 2 = o + 2 + i * 2 by omega]; exact h1
    · rw [show o + (i + 1) * 2 + 1 = o + 2 + i * 2 + 1 by omega]; exact h2
    · rw [show o + (i + 1) * 2 + 2 = o + 2 + i * 2 + 2 by omega, show m + 1 - (i + 1) - 1 = m - i - 1 by omega]; exact h6

/-- How long a slice is, at each level. -/
def Tr.Low : Tr → Prop
  | .nil => True
  | .cons _ k r => k.len ≤ 140737488351232 ∧ k.Low ∧ r.Low
theorem count_bd (t : Tr) : ∀ n most : Int, t.Low → t.count n most ≤ max n (most + 140737488351232) := by
  induction t with
  | nil => intro n most _; simp only [Tr.count]; omega
  | cons s k r ihk ihr =>
    intro n most h
    obtain ⟨h1, h2, h3⟩ := h
    simp only [Tr.count]
    split
    · have hk := ihk k.len (most - n) h2
      have hr := ihr (n + k.count k.len (most - n)) most h3
      omega
    · omega
theorem Tr.Low.drop : ∀ {t : Tr} (i : Nat), t.Low → (t.dropT i).Low
  | t, 0, h => by rw [dropT_zero]; exact h
  | .nil, _ + 1, _ => trivial
  | .cons _ _ _, i + 1, h => Tr.Low.drop i h.2.2
theorem size_drop : ∀ (t : Tr) (i : Nat), (t.dropT i).size ≤ t.size
  | t, 0 => by rw [dropT_zero]; exact Nat.le_refl _
  | .nil, _ + 1 => Nat.le_refl _
  | .cons _ _ r, i + 1 => by simp only [Tr.dropT, Tr.size]; have := size_drop r i; omega
theorem drop_len : ∀ (t : Tr) (i : Nat), t.len ≤ i → t.dropT i = .nil
  | .nil, 0, _ => rfl
  | .nil, _ + 1, _ => rfl
  | .cons _ _ _, 0, h => by simp [Tr.len] at h
  | .cons _ _ r, i + 1, h => by simp only [Tr.dropT]; exact drop_len r i (by simp only [Tr.len] at h; omega)

set_option maxHeartbeats 1000000 in
theorem cnt_any (N : Nat) : ∀ (t : Tr) (A : Option Addr) (n c B : Nat) (most : Int) (w : World), t.size ≤ N → Holds w B A n t → B ≤ w.heap.size → n ≤ 140737488351232 → t.Low → 0 ≤ most → most ≤ 200 →
    Calls Tryz.prog 32 #[.slice A n c, .int .i64 most] w fun e w' => e = .returned (.int .i64 (t.count n most)) ∧ w = w' := by
  induction N with
  | zero =>
    intro t A n c B most w hN h hB hn hl h0 h2
    cases t with
    | nil =>
      obtain rfl : n = 0 := h
      go_enter Tryz.func32, Tryz.ntmps32
      go_wp2_with fail
      go_loop [5, 6] (fun v i => v = .int .i64 0 ∧ i = .int .i64 0) (fun _ _ => 0)
      case atStart => exact ⟨rfl, rfl⟩
      case round =>
        obtain ⟨rfl, rfl⟩ := hrel
        go_wp2_with fail
        go_ret
        exact ⟨rfl, rfl⟩
    | cons s k r => simp [Tr.size] at hN
  | succ N ih =>
    intro t A n c B most w hN h hB hn hl h0 h2
    have Hn := Lib.hid h.len
    go_enter Tryz.func32, Tryz.ntmps32
    go_wp2_with fail
    go_loop [5, 6] (fun v i => ∃ (k : Nat) (m : Int), k ≤ n ∧ i = .int .i64 k ∧ v = .int .i64 m ∧ 0 ≤ m ∧ m ≤ 140737488351432 ∧ Hid ((t.dropT k).count m most = t.count n most)) (fun _ i => n - (intOf i).toNat)
    case atStart => exact ⟨0, n, by omega, rfl, rfl, by omega, by omega, by rw [dropT_zero]; exact Lib.hid rfl⟩
    case round =>
      obtain ⟨k, m, hk, rfl, rfl, hm0, hm1, He⟩ := hrel
      by_cases hlt : k < n
      · by_cases hmm : m < most
        · obtain ⟨b, o, s, kt, r, A', n', c', rfl, hb, hs, hc, hn', hc', hk', hr, hd, hd2⟩ := h.split k hlt
          have hld := hl.drop k
          rw [hd] at hld
          obtain ⟨hl1, hl2, hl3⟩ := hld
          have hsz := size_drop t k
          rw [hd] at hsz
          simp only [Tr.size] at hsz
          have hkl := hk'.len
          have hbd := count_bd kt n' (most - m) hl2
          have hge := count_ge kt n' (most - m)
          have hn'2 : n' ≤ 140737488351232 := by omega
          have HC := Lib.hid (ih kt A' n' c' B (most - m) w (by omega) hk' hB hn'2 hl2 (by omega) (by omega))
          obtain ⟨C, hC⟩ : ∃ C, C = kt.count n' (most - m) := ⟨_, rfl⟩
          have He2 : Hid (r.count (m + C) most = t.count n most) := by
            have := He.out
            rw [hd] at this
            simp only [Tr.count] at this
            rw [if_pos hmm, ← hkl, ← hC] at this
            exact this
          rw [← hC] at hbd hge HC
          have Hd2 := Lib.hid hd2
          have hnl : ((n : Int) : Int) ≤ 140737488351232 := by omega
          clear hC hd hd2 hkl He hN hsz
          go_wp2_with fail
          refine HC.out.mono ?_
          rintro e w' ⟨rfl, rfl⟩
          go_wp2_with fail
          go_round
          case rel => exact ⟨k + 1, m + C, by omega, by go_num, rfl, by omega, by omega, by rw [Hd2.out]; exact He2⟩
          case measure => simp [intOf]; omega
        · have hmm2 : most ≤ m := by omega
          have He2 : Hid (m = t.count n most) := by
            have := He.out
            obtain ⟨b, o, s, kt, r, A', n', c', _, hb, hs, hc, hn', hc', hk', hr, hd, hd2⟩ := h.split k hlt
            rw [hd] at this
            simp only [Tr.count] at this
            rw [if_neg hmm] at this
            exact this
          clear hmm He
          go_wp2_with fail
          go_ret
          exact ⟨by rw [← He2.out]; rfl, rfl⟩
      · obtain rfl : k = n := by omega
        have He2 : Hid (m = t.count k most) := by
          have := He.out
          rw [drop_len t k (by rw [← Hn.out]; exact Nat.le_refl _)] at this
          exact this
        clear He hlt
        go_wp2_with fail
        go_ret
        exact ⟨by rw [← He2.out]; rfl, rfl⟩

/-- Few: its answer; where it is yes, there are fewer than 200. -/
theorem few_any (t : Tr) (A : Option Addr) (n c B : Nat) (w : World) (h : Holds w B A n t) (hB : B ≤ w.heap.size) (hn : n ≤ 140737488351232) (hl : t.Low) :
    Calls Tryz.prog 15 #[.slice A n c] w fun e w' => e = .returned (.bool (decide (t.count n 200 < 200))) ∧ w = w' := by
  have HC := Lib.hid (cnt_any t.size t A n c B 200 w (Nat.le_refl _) h hB hn hl (by omega) (by omega))
  go_enter Tryz.func15, Tryz.ntmps15
  go_wp2_with fail
  refine HC.out.mono ?_
  rintro e w' ⟨rfl, rfl⟩
  go_wp2_with fail
  go_ret
  exact ⟨rfl, rfl⟩
theorem few_yes {t : Tr} {n : Nat} (hn : n = t.len) (h : t.count n 200 < 200) : t.size < 200 := by
  subst hn
  have := count_all t t.len 200 h
  omega
end Go.Proofs.YtlcbhooiinaalaaGreatDoor
namespace Go.Proofs.YtlcbhooiinaalaaGreatDoor
open Go.RowKit
set_option maxRecDepth 100000

/-- How many edges stand ahead of a name; whether the next one is its own. -/
def Tr.atN (name : ByteArray) : Tr → Nat
  | .nil => 0
  | .cons s _ r => if Op.bytesLess s.toList name.toList = true then r.atN name + 1 else 0
def Tr.headIs (name : ByteArray) : Tr → Bool
  | .nil => false
  | .cons s _ _ => s.toList == name.toList
def Tr.atIs (name : ByteArray) (t : Tr) : Bool := (t.dropT (t.atN name)).headIs name
theorem atN_le (name : ByteArray) (t : Tr) : t.atN name ≤ t.len := by
  induction t with
  | nil => exact Nat.le_refl _
  | cons s k r _ ih => simp only [Tr.atN, Tr.len]; split <;> omega

set_option maxHeartbeats 1000000 in
theorem at_any (t : Tr) (A : Option Addr) (n c B : Nat) (name : ByteArray) (w : World) (h : Holds w B A n t) (hB : B ≤ w.heap.size) (hn : n ≤ 140737488351232) :
    Calls Tryz.prog 57 #[.slice A n c, .string name] w fun e w' => e = .returned (.tuple #[.int .i64 (t.atN name : Nat), .bool (t.atIs name)]) ∧ ∃ q, w' = w.drewN q := by
  have Hn := Lib.hid h.len
  go_enter Tryz.func57, Tryz.ntmps57
  go_wp2_with fail
  go_loop [6] (fun i => ∃ k : Nat, k ≤ n ∧ i = .int .i64 k ∧ Hid (k + (t.dropT k).atN name = t.atN name)) (fun i => n - (intOf i).toNat)
  case atStart => exact ⟨0, by omega, rfl, by rw [dropT_zero]; exact Lib.hid (Nat.zero_add _)⟩
  case round =>
    obtain ⟨k, hk, rfl, He⟩ := hrel
    by_cases hlt : k < n
    · obtain ⟨b, o, s, kt, r, A', n', c', rfl, hb, hs, hc, hn', hc', hk', hr, hd, hd2⟩ := h.split k hlt
      have hbl : b < w.heap.size := by omega
      by_cases hls : Op.bytesLess s.toList name.toList = true
      · have He2 : Hid (k + 1 + (t.dropT (k + 1)).atN name = t.atN name) := by
          have := He.out
          rw [hd] at this
          simp only [Tr.atN] at this
          rw [if_pos hls] at this
          rw [hd2]
          exact Lib.hid (by omega)
        clear hd hd2 He
        go_wp2_with fail
        go_round
        case rel => exact ⟨k + 1, by omega, by go_num, He2⟩
        case measure => simp [intOf]; omega
      · have He2 : Hid (k = t.atN name ∧ t.atIs name = (s.toList == name.toList)) := by
          have := He.out
          rw [hd] at this
          simp only [Tr.atN] at this
          rw [if_neg hls] at this
          refine Lib.hid ⟨by omega, ?_⟩
          unfold Tr.atIs
          rw [← this, Nat.add_zero, hd]
          rfl
        have hls2 : Op.bytesLess s.toList name.toList = false := by simpa using hls
        have hkn : (k : Int) < (n : Int) := by omega
        have hk0 : (0 : Int) ≤ (k : Int) := by omega
        clear hd hd2 He hls
        go_wp2_with fail
        go_quiet (fail)
        go_wp2_with fail
        go_ret2
        exact ⟨by rw [← He2.out.1, He2.out.2]; rfl, _, rfl⟩
    · obtain rfl : k = n := by omega
      have He2 : Hid (k = t.atN name ∧ t.atIs name = false) := by
        have := He.out
        rw [drop_len t k (by rw [← Hn.out]; exact Nat.le_refl _)] at this
        simp only [Tr.atN] at this
        refine Lib.hid ⟨by omega, ?_⟩
        unfold Tr.atIs
        rw [← this, Nat.add_zero, drop_len t k (by rw [← Hn.out]; exact Nat.le_refl _)]
        rfl
      clear He hlt
      go_wp2_with fail
      go_quiet (fail)
      go_wp2_with fail
      go_ret2
      exact ⟨by rw [← He2.out.1, He2.out.2]; rfl, _, rfl⟩
end Go.Proofs.YtlcbhooiinaalaaGreatDoor
namespace Go.Proofs.YtlcbhooiinaalaaGreatDoor
open Go.RowKit

theorem info_u8 : (Tryz.prog.info? 5).map (fun i => (i.zero, i.size, i.bytes)) = some (some (.int .u8 0), 1, 1) := by kernel_rfl

/-- The slice with address A, n elements, capacity c is a row of the call's own (in a block from base on, not frozen), and reads as the bytes l. -/
structure Own (w : World) (base : Nat) (A : Option Addr) (n c : Nat) (l : List UInt8) : Prop where
  row : w.ownsRow base 5 1 (.slice A n c) n (byts l)

section
variable {w w' : World} {base n c : Nat} {A : Option Addr} {l : List UInt8}
theorem Own.nil (w : World) (base : Nat) : Own w base none 0 0 [] := ⟨by simp [byts], .inl ⟨rfl, rfl⟩⟩
theorem Own.len (h : Own w base A n c l) : n = l.length := by have := h.row.1; rw [byts_length] at this; omega
theorem Own.sees (h : Own w base A n c l) : Sees w w.heap.size A n l := Sees.of_own h.row
theorem Own.lt (h : Own w base A n c l) : ∀ k, (Value.slice A n c).ownBlock = some k → base ≤ k ∧ k < w.heap.size := h.row.lt
theorem Own.cap (h : Own w base A n c l) : n ≤ c ∧ c ≤ maxLen := by
  rcases h.row.2 with ⟨e, _⟩ | ⟨g, cap, cur, e, _, _, hn, hm, _⟩
  · injection e with _ h1 h2
    subst h1; subst h2
    exact ⟨Nat.le_refl _, Nat.zero_le _⟩
  · injection e with _ _ h2
    subst h2
    exact ⟨hn, hm⟩
theorem Own.keep (h : Own w base A n c l) (hb : Below w.heap.size w w') : Own w' base A n c l :=
  ⟨h.row.kept (row := none) ⟨hb.os, hb.tape, hb.output, hb.size, fun i hi _ => hb.block i hi⟩ (by cases hv : (Value.slice A n c).ownBlock <;> simp)⟩
theorem Own.alloc (h : Own w base A n c l) (o : Obj) : Own (w.alloc o) base A n c l := ⟨h.row.alloc o⟩
theorem Own.drew (h : Own w base A n c l) : Own w.drew base A n c l := ⟨h.row.drew⟩
theorem Own.less {base' : Nat} (h : Own w base A n c l) (hb : base' ≤ base) : Own w base' A n c l := by
  refine ⟨⟨h.row.1, ?_⟩⟩
  rcases h.row.2 with e | ⟨g, cap, cur, e, hg, rest⟩
  · exact .inl e
  · exact .inr ⟨g, cap, cur, e, Nat.le_trans hb hg, rest⟩
theorem Own.below (h : Own w base A n c l) (hg : w.grownBy w' (Value.slice A n c).ownBlock) (hbase : base ≤ w.heap.size) : Below base w w' :=
  (Below.refl base w).grown hg hbase (fun k hk => (h.lt k hk).1)
/-- Seen from a block below which the row lies. -/
theorem Own.sees_below {B : Nat} (h : Own w base A n c l) (hb : ∀ a, A = some a → a.block < B) : Sees w B A n l :=
  ⟨h.len, fun j u hu => by
    obtain ⟨a, ha, _, hc⟩ := h.sees.cell j u hu
    exact ⟨a, ha, hb a ha, hc⟩⟩
/-- A row just laid whole. -/
theorem Own.lit (w : World) (l : List UInt8) (n : Nat) (hb : base ≤ w.heap.size) (hm : n ≤ maxLen) (hn : l.length = n) : Own (w.alloc (.cells (byts l).toArray 5)) base (some ⟨w.heap.size, 0, none⟩) n n l := by
  have h := World.ownsRow_lit (base := base) (e := 5) (size := 1) w (byts l).toArray n hb hm (by simp [byts_length, hn])
  exact ⟨by simpa using h⟩
end

/-- A source of bytes: what append takes behind its first argument. -/
structure From (P : Program) (w : World) (tx : TypeId) (x : Value) (m : Nat) (l : List UInt8) : Prop where
  len : m = l.length
  src : Src P 1 tx x m (byts l) w

theorem From.sees {w : World} {B m c : Nat} {A : Option Addr} {l : List UInt8} (h : Sees w B A m l) : From Tryz.prog w 26 (.slice A m c) m l := by
  refine ⟨h.len, ?_⟩
  cases A with
  | none =>
    obtain ⟨rfl, rfl⟩ := h.empty
    exact Src.ofNil w Tryz.underlying26 c
  | some a => exact Src.ofSlice w Tryz.underlying26 a m c (byts l) (by rw [byts_length, h.len, Nat.mul_one]) h.cells (byts_one l)
theorem From.text (w : World) (s : ByteArray) : From Tryz.prog w 9 (.string s) s.size s.data.toList :=
  ⟨rfl, Src.ofString w Tryz.underlying9 s⟩

theorem heap_cells (g : Nat) : ∀ (vs : List Value) (o : Nat) (w : World) (cur : Array Value) (e : TypeId), w.heap[g]? = some (.cells cur e (0, 0)) → o + vs.length ≤ cur.size →
    (w.setCells g o vs).heap[g]? = some (.cells (cur.toList.take o ++ vs ++ cur.toList.drop (o + vs.length)).toArray e (0, 0))
  | [], o, w, cur, e, h, hl => by
    simp only [World.setCells, List.append_nil, List.length_nil, Nat.add_zero, List.take_append_drop]
    rw [h]
  | v :: r, o, w, cur, e, h, hl => by
    simp only [List.length_cons] at hl
    rw [World.setCells, heap_cells g r (o + 1) _ (cur.setIfInBounds o v) e (heap_setCell_same w g o cur e v h) (by simp; omega)]
    congr 3
    have ho : o < cur.toList.length := by simp; omega
    rw [Array.toList_setIfInBounds, List.take_succ_eq_append_getElem (by simpa using ho)]
    rw [List.take_set_of_le (Nat.le_refl o), List.getElem_set_self, List.drop_set_of_lt (by omega)]
    simp only [List.append_assoc, List.singleton_append, List.length_cons]
    rw [show o + 1 + r.length = o + (r.length + 1) by omega]
theorem heap_cells_far (g k : Nat) (hk : k ≠ g) : ∀ (vs : List Value) (o : Nat) (w : World), (w.setCells g o vs).heap[k]? = w.heap[k]?
  | [], _, _ => rfl
  | v :: r, o, w => by rw [World.setCells, heap_cells_far g k hk r (o + 1), heap_setCell_other _ _ _ _ hk]
theorem setCells_os (g : Nat) : ∀ (vs : List Value) (o : Nat) (w : World), (w.setCells g o vs).os = w.os ∧ (w.setCells g o vs).tape = w.tape ∧ (w.setCells g o vs).output = w.output ∧ (w.setCells g o vs).heap.size = w.heap.size
  | [], _, _ => ⟨rfl, rfl, rfl, rfl⟩
  | v :: r, o, w => by
    obtain ⟨a, b, c, d⟩ := setCells_os g r (o + 1) (w.setCell ⟨g, o, none⟩ v)
    rw [World.setCells]
    exact ⟨a, b, c, by rw [d]; simp [World.setCell]⟩

set_option maxRecDepth 100000 in
/-- append onto a row of the call's own, whatever the source. -/
theorem run_append_from {w : World} {base n c m : Nat} {A : Option Addr} {l l2 : List UInt8} {tx : TypeId} {x : Value} (ty : TypeId) (ho : Own w base A n c l) (hx : From Tryz.prog w tx x m l2) (h46 : n + m ≤ 70368744177664) (hbase : base ≤ w.heap.size) :
    ∃ A' N c' w', (Builtin.append_ #[26, tx] ty #[.slice A n c, x]).run Tryz.prog w = .ok (.slice A' N c') w' ∧ Own w' base A' N c' (l ++ l2) ∧ w.grownBy w' (Value.slice A n c).ownBlock ∧
      (∀ a, A' = some a → a.block = w.heap.size ∨ some a.block = (Value.slice A n c).ownBlock) := by
  obtain ⟨i, hi, hz, hs, hb⟩ := info_parts info_u8
  have hzs : (Value.int IntKind.u8 0).cells.size = 1 := rfl
  have hsrc := hx.src
  rw [← hs] at hsrc
  have hlen := ho.len
  have hlen2 := hx.len
  -- there is none
  have grows : ∀ (hg : c < n + m), ∃ A' N c' w', (Builtin.append_ #[26, tx] ty #[.slice A n c, x]).run Tryz.prog w = .ok (.slice A' N c') w' ∧ Own w' base A' N c' (l ++ l2) ∧ w.grownBy w' (Value.slice A n c).ownBlock ∧
      (∀ a, A' = some a → a.block = w.heap.size ∨ some a.block = (Value.slice A n c).ownBlock) := by
    intro hg
    have hold : (Builtin.firstCells i.size n (.slice A n c)).run Tryz.prog w.drew = .ok (byts l).toArray w.drew := by
      rcases A with _ | a
      · obtain ⟨rfl, rfl⟩ := ho.sees.empty
        exact run_firstCells_none w.drew i.size 0 0 c
      · exact run_firstCells_some w.drew i.size n a n c (byts l) (by rw [byts_length, hs]; omega) (by simpa using ho.sees.cells)
    have hr := run_append_grow_src (P := Tryz.prog) w 26 tx ty 5 i (.int .u8 0) Tryz.underlying26 hi hz A n c (byts l) hold x m (byts l2) hsrc hg (by omega) (growslice_fits hg (by rw [hb]; omega))
    have hge := grownCap_ge w (n + m) c 5
    have hcm := grownCap_le_maxLen w (n + m) c 5 (by simp only [maxLen]; omega)
    refine ⟨_, _, _, _, hr, ⟨⟨by rw [byts_length, List.length_append]; omega, .inr ⟨w.heap.size, _, _, rfl, hbase, heap_alloc_new w.drew _, hge, hcm, ?_, ?_⟩⟩⟩, ⟨rfl, rfl, rfl, by simp, fun k hk _ => heap_alloc_old w.drew _ hk⟩, fun a ha => .inl (by injection ha with ha; rw [← ha])⟩
    · simp only [Array.size_append, List.size_toArray, size_zeroCells, hzs, List.length_append, byts_length]
      omega
    · simp only [Array.toList_append, byts_append]
      rw [List.take_append_of_le_length (by simp [byts_length]; omega), List.take_of_length_le (by simp [byts_length]; omega)]
  rcases ho.row.2 with ⟨e, hn0⟩ | ⟨g, cap, cur, e, hbg, hg, hnc, hcm, hcs, htake⟩
  · injection e with e1 e2 e3
    subst e1; subst e2; subst e3
    obtain ⟨rfl, _⟩ := ho.sees.empty
    by_cases hm : m = 0
    · subst hm
      have h2 : l2 = [] := List.eq_nil_of_length_eq_zero hlen2.symm
      subst h2
      refine ⟨none, 0, 0, w, ?_, Own.nil w base, World.grownBy.refl w _, fun a ha => by cases ha⟩
      rcases hsrc.kind with ⟨e', hk⟩ | hk <;> simp [Builtin.append_, run_underlying Tryz.underlying26, run_underlying hk, sizeOf, typeInfo, hi, hsrc.len, hsrc.cells, byts]
    · exact grows (by omega)
  · injection e with e1 e2 e3
    subst e1; subst e3
    by_cases hroom : n + m ≤ c
    · have hl : (byts l2).length = m := by rw [byts_length]; omega
      have hr := run_append_room_src (P := Tryz.prog) w 26 tx ty 5 i Tryz.underlying26 hi g 0 n c x m (byts l2) hsrc hroom
        (fun j hj => by rw [cell_of_row w g _ cur _ _ hg, hs, Array.getElem?_eq_getElem (by omega)]; rfl) (fun j hj => by simp [World.frozen?, hg])
      rw [hs] at hr
      have hh := heap_cells g (byts l2) (0 + n * 1) w cur 5 hg (by omega)
      obtain ⟨o1, o2, o3, o4⟩ := setCells_os g (byts l2) (0 + n * 1) w
      have htl : (cur.toList.take (0 + n * 1)) = byts l := by rw [Nat.zero_add]; exact htake
      rw [htl] at hh
      refine ⟨_, _, _, _, hr, ⟨⟨by rw [byts_length, List.length_append]; omega, .inr ⟨g, c, _, rfl, hbg, hh, hroom, hcm, ?_, ?_⟩⟩⟩, ⟨o1, o2, o3, by rw [o4]; exact Nat.le_refl _, fun k _ hk => heap_cells_far g k (fun e => hk (by simp [Value.ownBlock, e])) _ _ _⟩, fun a ha => .inr (by injection ha with ha; rw [← ha]; rfl)⟩
      · simp only [List.size_toArray, List.length_append, List.length_drop, Array.length_toList, byts_length]
        omega
      · simp only [byts_append]
        rw [List.take_append_of_le_length (by simp [byts_length]; omega), List.take_of_length_le (by simp [byts_length]; omega)]
    · exact grows (by omega)

set_option maxRecDepth 100000 in
/-- The same at the walk's operation: behind it 'intro A' N c' w' ho' hg' hat''. -/
theorem wpList_append_from {w : World} {ops : Array Oper} {rest : List Oper} {o : Oper} {a : Act} {Q : Exit → Act → World → Prop} (hgd : o.guard = none) (s x : Operand) (tx : TypeId)
    (hop : o.op = .call { callee := .builtin .append, args := #[s, x], argTypes := #[26, tx] })
    {base n c m : Nat} {A : Option Addr} {l l2 : List UInt8} {vx : Value} (hs : a.eval s = .slice A n c) (hxv : a.eval x = vx) (ho : Own w base A n c l) (hx : From Tryz.prog w tx vx m l2) (h46 : n + m ≤ 70368744177664) (hbase : base ≤ w.heap.size)
    (h : ∀ A' N c' w', Own w' base A' N c' (l ++ l2) → w.grownBy w' (Value.slice A n c).ownBlock → (∀ a, A' = some a → a.block = w.heap.size ∨ some a.block = (Value.slice A n c).ownBlock) → wpList Tryz.prog ops Q rest (a.put o.dst (.slice A' N c')) w') :
    wpList Tryz.prog ops Q (o :: rest) a w := by
  obtain ⟨A', N, c', w', hr, h1, h2, h3⟩ := run_append_from o.type ho hx h46 hbase
  exact Lib.wpList_append_run w hgd s x _ _ hop _ _ hs hxv _ _ hr (h A' N c' w' h1 h2 h3)
end Go.Proofs.YtlcbhooiinaalaaGreatDoor
