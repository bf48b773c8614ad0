/- tree's judge: what it says of the next edge, and what it keeps of it. Conditions: at most 400 edges told ahead, at most twelve names kept. -/
import Derived.Test.YtlcbhooiinaalaaGreatDoorMwChkMath
import Derived.Test.YtlcbhooiinaalaaGreatDoorMwGrow
import Derived.Test.YtlcbhooiinaalaaGreatDoorStack
import Derived.Deep.QuietTactic
import Derived.BigQuiet
import Derived.Outline
import Derived.Sort.Walk0
namespace Go.Proofs.YtlcbhooiinaalaaGreatDoor.Jd
open Go.RowKit
set_option maxRecDepth 100000

def strs (l : List ByteArray) : List Value := l.map Value.string
theorem elem_str : Elem Tryz.prog 28 9 (.string ⟨#[]⟩) 1 16 := ⟨Tryz.underlying28, by kernel_rfl, rfl, by omega⟩
theorem strs_one (l : List ByteArray) : ∀ u ∈ strs l, u.oneCell' = true := by
  intro u hu
  simp only [strs, List.mem_map] at hu
  obtain ⟨x, _, rfl⟩ := hu
  rfl

/-- At place o of block b a judge lies: so many told, these names, in a row of its own. -/
structure Jdg (w : World) (base b o : Nat) (E : TypeId) (cur : Array Value) (n : Nat) (L : List ByteArray) (A : Option Addr) (c : Nat) : Prop where
  heap : w.heap[b]? = some (.cells cur E (0, 0))
  told : cur[o]? = some (.int .i64 n)
  names : cur[o + 1]? = some (.slice A L.length c)
  row : w.ownsRow base 9 1 (.slice A L.length c) L.length (strs L)
  far : (Value.slice A L.length c).ownBlock ≠ some b
  le : base ≤ w.heap.size

/-- The front of a row of one's own. -/
theorem row_take {w : World} {base n m c : Nat} {e : TypeId} {A : Option Addr} {L : List Value} (h : w.ownsRow base e 1 (.slice A n c) n L) (hm : m ≤ n) : w.ownsRow base e 1 (.slice A m c) m (L.take m) := by
  obtain ⟨h1, h2⟩ := h
  refine ⟨by rw [List.length_take]; omega, ?_⟩
  rcases h2 with ⟨e1, e2⟩ | ⟨g, cap, cur, e1, hg, hh, hcap, hmx, hsz, htk⟩
  · injection e1 with a1 a2 a3
    subst a1; subst a3
    obtain rfl : m = 0 := by omega
    exact .inl ⟨rfl, rfl⟩
  · injection e1 with a1 a2 a3
    subst a1; subst a3
    refine .inr ⟨g, c, cur, rfl, hg, hh, by omega, hmx, hsz, ?_⟩
    rw [← htk, List.take_take]
    congr 1
    omega
theorem own_of (A : Option Addr) (n m c : Nat) : (Value.slice A n c).ownBlock = (Value.slice A m c).ownBlock := by cases A <;> rfl

/-- What changed: block b, the row of the names, and what is new. -/
structure Chg (b : Nat) (row : Option Nat) (w w' : World) : Prop where
  os : w'.os = w.os
  tape : w'.tape = w.tape
  output : w'.output = w.output
  size : w.heap.size ≤ w'.heap.size
  block : ∀ k, k < w.heap.size → k ≠ b → some k ≠ row → w'.heap[k]? = w.heap[k]?
theorem Chg.set {b o : Nat} {row : Option Nat} (w : World) (v : Value) : Chg b row w (w.setCell ⟨b, o, none⟩ v) :=
  ⟨rfl, rfl, rfl, by simp [World.setCell], fun k _ hk _ => Below.heap_setCell w ⟨b, o, none⟩ v k hk⟩
theorem Chg.trans {b : Nat} {row : Option Nat} {w w' w'' : World} (h : Chg b row w w') (k : Chg b row w' w'') : Chg b row w w'' :=
  ⟨k.os.trans h.os, k.tape.trans h.tape, k.output.trans h.output, Nat.le_trans h.size k.size, fun i hi h1 h2 => (k.block i (Nat.lt_of_lt_of_le hi h.size) h1 h2).trans (h.block i hi h1 h2)⟩
theorem Chg.grown {b : Nat} {row : Option Nat} {w w' : World} (h : w.grownBy w' row) : Chg b row w w' :=
  ⟨h.os, h.tape, h.output, h.size, fun k hk _ h2 => h.block k hk h2⟩

section
variable {w : World} {base b o n c : Nat} {E : TypeId} {cur : Array Value} {L : List ByteArray} {A : Option Addr}
theorem Jdg.told_ (h : Jdg w base b o E cur n L A c) (v : Value) (hv : v = .int .i64 ((n + 1 : Nat) : Int)) : Jdg (w.setCell ⟨b, o, none⟩ v) base b o E (cur.setIfInBounds o v) (n + 1) L A c := by
  have hl : o < cur.size := (Array.getElem?_eq_some_iff.1 h.told).1
  refine ⟨heap_setCell_same w b o cur E v h.heap, by rw [Array.getElem?_setIfInBounds_self_of_lt hl, hv], ?_, ownsRow_setCell_other h.row h.far v, h.far, by simp [World.setCell]; exact h.le⟩
  rw [Array.getElem?_setIfInBounds_ne (by omega)]
  exact h.names
theorem Jdg.cells (h : Jdg w base b o E cur n L A c) : w.cell? ⟨b, o, none⟩ = some (.int .i64 n) ∧ w.cell? ⟨b, o + 1, none⟩ = some (.slice A L.length c) ∧ (∀ q, w.frozen? ⟨b, q, none⟩ = false) ∧ b < w.heap.size :=
  ⟨by rw [cell_of_row w b o _ _ _ h.heap]; exact h.told, by rw [cell_of_row w b (o + 1) _ _ _ h.heap]; exact h.names, fun q => by simp [World.frozen?, h.heap], (Array.getElem?_eq_some_iff.1 h.heap).1⟩
/-- A name kept. -/
theorem Jdg.at_ (h : Jdg w base b o E cur n L A c) {j : Nat} (hj : j < L.length) : ∃ g, A = some ⟨g, 0, none⟩ ∧ g ≠ b ∧ g < w.heap.size ∧ w.cell? ⟨g, j, none⟩ = some (.string (L.getD j ⟨#[]⟩)) := by
  obtain ⟨h1, h2⟩ := h.row
  rcases h2 with ⟨e1, e2⟩ | ⟨g, cap, cu, e1, hg, hh, hcap, hmx, hsz, htk⟩
  · omega
  · injection e1 with a1 a2 a3
    subst a1; subst a3
    refine ⟨g, rfl, fun e => h.far (by rw [e]; rfl), (Array.getElem?_eq_some_iff.1 hh).1, ?_⟩
    rw [cell_of_row w g j cu _ _ hh]
    have : (cu.toList.take (L.length * 1))[j]? = some (Value.string (L.getD j ⟨#[]⟩)) := by
      rw [htk, strs, List.getElem?_map, List.getElem?_eq_getElem hj, List.getD_eq_getElem?_getD, List.getElem?_eq_getElem hj]; rfl
    rw [List.getElem?_take] at this
    split at this
    · rw [← Array.getElem?_toList]; exact this
    · cases this
end

theorem lt_iff (x y : ByteArray) : Op.bytesLess x.toList y.toList = true ↔ x.data.toList < y.data.toList := by
  rw [Go.Proofs.bytesLess_eq, ByteArray.toList_eq, ByteArray.toList_eq, decide_eq_true_iff]
theorem not_lt {x y : ByteArray} (h : Op.bytesLess x.toList y.toList = false) : Op.bytesLess y.toList x.toList = true ∨ (Op.bytesLess y.toList x.toList = false ∧ (y.toList == x.toList) = true) := by
  cases hc : Op.bytesLess y.toList x.toList with
  | true => exact .inl rfl
  | false =>
    right
    have h1 : ¬ x.data.toList < y.data.toList := fun e => by rw [(lt_iff x y).2 e] at h; cases h
    have h2 : ¬ y.data.toList < x.data.toList := fun e => by rw [(lt_iff y x).2 e] at hc; cases hc
    have := List.le_antisymm (Classical.not_not.1 (fun e => h2 (by simpa using e)) : x.data.toList ≤ y.data.toList) (Classical.not_not.1 (fun e => h1 (by simpa using e)))
    rw [ByteArray.toList_eq, ByteArray.toList_eq, this]
    exact ⟨rfl, beq_self_eq_true _⟩
theorem lt_not {x y : ByteArray} (h : Op.bytesLess x.toList y.toList = true) : Op.bytesLess y.toList x.toList = false ∧ (y.toList == x.toList) = false := by
  have h1 := (lt_iff x y).1 h
  constructor
  · cases hc : Op.bytesLess y.toList x.toList with
    | false => rfl
    | true => exact absurd (List.lt_trans h1 ((lt_iff y x).1 hc)) (List.lt_irrefl _)
  · cases hc : (y.toList == x.toList) with
    | false => rfl
    | true =>
      have := beq_iff_eq.1 hc
      rw [ByteArray.toList_eq, ByteArray.toList_eq] at this
      rw [this] at h1
      exact absurd h1 (List.lt_irrefl _)

/-- How the call ends. -/
def Told (w : World) (base b o : Nat) (E : TypeId) (cur : Array Value) (n : Nat) (L : List ByteArray) (d : Nat) (s : ByteArray) (row : Option Nat) (w' : World) : Prop :=
  ∃ cur' L' A' c', Jdg w' base b o E cur' (n + 1) L' A' c' ∧ (judgeE n L d s = 0 → L' = judgeL L d s) ∧ (∀ i, i ≠ o → i ≠ o + 1 → cur'[i]? = cur[i]?) ∧ cur'.size = cur.size ∧ Chg b row w w'

theorem told_no {w : World} {base b o n c d : Nat} {E : TypeId} {cur : Array Value} {L : List ByteArray} {A : Option Addr} {s : ByteArray} (h : Jdg w base b o E cur n L A c) (v : Value) (hv : v = .int .i64 ((n + 1 : Nat) : Int)) (he : judgeE n L d s ≠ 0) (row : Option Nat) : Told w base b o E cur n L d s row (w.setCell ⟨b, o, none⟩ v) :=
  ⟨_, L, A, c, h.told_ v hv, fun e => absurd e he, fun i h1 _ => by rw [Array.getElem?_setIfInBounds_ne (by omega)], by simp, Chg.set w v⟩

theorem told_yes {w w2 : World} {base b o n c j c2 d : Nat} {E : TypeId} {cur : Array Value} {L : List ByteArray} {A A2 : Option Addr} {s : ByteArray} {v : Value} {ob : Obj} (hJ : Jdg w base b o E cur n L A c) (hv : v = .int .i64 ((n + 1 : Nat) : Int)) (hd : d = j + 1) (hj : j ≤ L.length)
    (ho : w2.ownsRow base 9 1 (.slice A2 (j + 1) c2) (j + 1) ((strs L).take j ++ strs [s])) (hg : ((w.setCell ⟨b, o, none⟩ v).alloc ob).grownBy w2 (Value.slice A j c).ownBlock)
    (hat : ∀ a, A2 = some a → a.block = ((w.setCell ⟨b, o, none⟩ v).alloc ob).heap.size ∨ some a.block = (Value.slice A j c).ownBlock) :
    Told w base b o E cur n L d s (Value.slice A L.length c).ownBlock (w2.setCell ⟨b, o + 1, none⟩ (.slice A2 (j + 1) c2)) := by
  have hJ1 := hJ.told_ v hv
  have hfar : (Value.slice A j c).ownBlock ≠ some b := by rw [own_of A j L.length c]; exact hJ.far
  have hbl := (Array.getElem?_eq_some_iff.1 hJ1.heap).1
  have hblk : w2.heap[b]? = some (.cells (cur.setIfInBounds o v) E (0, 0)) := (hg.block b (by simp at hbl ⊢; omega) (fun e => hfar e.symm)).trans (heap_keep hJ1.heap _)
  have hL' : (judgeL L d s).length = j + 1 := by rw [judgeL_length (by omega) (by omega), hd]
  have hl1 : o + 1 < (cur.setIfInBounds o v).size := (Array.getElem?_eq_some_iff.1 hJ1.names).1
  have hfar2 : (Value.slice A2 (j + 1) c2).ownBlock ≠ some b := by
    intro e
    cases A2 with
    | none => cases e
    | some a =>
      have e : some a.block = some b := e
      rcases hat a rfl with h | h
      · injection e with e
        simp at h hbl
        omega
      · rw [e] at h
        exact hfar h.symm
  refine ⟨_, judgeL L d s, A2, c2, ⟨heap_setCell_same w2 b (o + 1) _ E _ hblk, ?_, ?_, ?_, ?_, ?_⟩, fun _ => rfl, fun i h1 h2 => ?_, by simp, ?_⟩
  · rw [Array.getElem?_setIfInBounds_ne (by omega)]
    exact hJ1.told
  · rw [Array.getElem?_setIfInBounds_self_of_lt hl1, hL']
  · rw [hL']
    refine ownsRow_setCell_other ?_ hfar2 _
    have : strs (judgeL L d s) = (strs L).take j ++ strs [s] := by rw [judgeL, hd]; simp [strs, List.map_take]
    rw [this]
    exact ho
  · rw [hL']
    exact hfar2
  · exact Nat.le_trans (Nat.le_trans hJ1.le (by simp)) (Nat.le_trans hg.size (by simp [World.setCell]))
  · rw [Array.getElem?_setIfInBounds_ne (by omega), Array.getElem?_setIfInBounds_ne (by omega)]
  · rw [own_of A L.length j c]
    exact ((((Chg.set w v).trans (Chg.grown (grown_new (World.grownBy.refl _ _) _))).trans (Chg.grown hg)).trans (Chg.set w2 _))

set_option maxHeartbeats 2000000 in
theorem edge_any (w : World) (base b o n c d : Nat) (E : TypeId) (cur : Array Value) (L : List ByteArray) (A : Option Addr) (s : ByteArray) (hJ : Jdg w base b o E cur n L A c) (hn : n ≤ 400) (hd1 : 1 ≤ d) (hd2 : d ≤ L.length + 1) (hs : s.size ≤ 140737488351232) :
    Calls Tryz.prog 59 #[.pointer (some ⟨b, o, none⟩), .int .i64 d, .string s] w fun e w' => e = .returned (.int .i64 (judgeE n L d s : Nat)) ∧ Told w base b o E cur n L d s (Value.slice A L.length c).ownBlock w' := by
  have hJ1 := hJ.told_ (.int .i64 ((n : Int) + 1)) rfl
  have HJ := Lib.hid hJ
  obtain ⟨hc0, hc1, hf, hbl⟩ := hJ.cells
  have hf0 := hf o
  obtain ⟨_, hc1', hf', hbl'⟩ := hJ1.cells
  have hf1' := hf' (o + 1)
  obtain ⟨_, hc0', _⟩ : True ∧ (w.setCell ⟨b, o, none⟩ (.int .i64 ((n : Int) + 1))).cell? ⟨b, o, none⟩ = some (.int .i64 ((n : Int) + 1)) ∧ True := ⟨trivial, by
    rw [cell_of_row _ b o _ _ _ hJ1.heap]; exact hJ1.told, trivial⟩
  obtain ⟨r, hr⟩ : ∃ r, r = judgeE n L d s := ⟨_, rfl⟩
  have HT := Lib.hid (fun (he : r ≠ 0) => told_no (d := d) (s := s) hJ (.int .i64 ((n : Int) + 1)) rfl (hr ▸ he) (Value.slice A L.length c).ownBlock)
  have hr2 := hr
  unfold judgeE at hr2
  rw [← hr]
  have Hr := Lib.hid hr
  clear hr hf hf'
  obtain ⟨k, hk⟩ : ∃ k, k = L.length := ⟨_, rfl⟩
  rw [← hk] at hc1 hc1' hd2
  have Hk := Lib.hid hk
  by_cases h1 : 400 < n + 1
  · rw [if_pos h1] at hr2
    subst hr2
    have h1' : (400 : Int) < (n : Int) + 1 := by omega
    clear hk hJ hJ1 Hr HJ h1
    go_enter Tryz.func59, Tryz.ntmps59
    go_wp2_with fail
    go_ret
    exact ⟨rfl, HT.out (by omega)⟩
  rw [if_neg h1] at hr2
  have h1' : ¬ (400 : Int) < (n : Int) + 1 := by omega
  by_cases h2 : 12 < d
  · rw [if_pos h2] at hr2
    subst hr2
    have h2' : (12 : Int) < (d : Int) := by omega
    clear hk hJ hJ1 Hr HJ h1 h2
    go_enter Tryz.func59, Tryz.ntmps59
    go_wp2_with fail
    go_ret
    exact ⟨rfl, HT.out (by omega)⟩
  rw [if_neg h2] at hr2
  have h2' : ¬ (12 : Int) < (d : Int) := by omega
  by_cases h3 : 80 < s.size
  · rw [if_pos h3] at hr2
    subst hr2
    have h3' : (80 : Int) < (s.size : Int) := by omega
    clear hk hJ hJ1 Hr HJ h1 h2 h3
    go_enter Tryz.func59, Tryz.ntmps59
    go_wp2_with fail
    go_ret
    exact ⟨rfl, HT.out (by omega)⟩
  rw [if_neg h3] at hr2
  have h3' : ¬ (80 : Int) < (s.size : Int) := by omega
  obtain ⟨j, hj⟩ : ∃ j, d = j + 1 := ⟨d - 1, by omega⟩
  have hdj : (d : Int) - 1 = (j : Int) := by omega
  have hj0 : (0 : Int) ≤ (j : Int) := by omega
  have hjk : j ≤ k := by omega
  by_cases h4 : d ≤ L.length ∧ Op.bytesLess (L.getD (d - 1) ⟨#[]⟩).toList s.toList = false
  · rw [if_pos h4] at hr2
    subst hr2
    obtain ⟨g, rfl, hgb, hgl, hcg⟩ := hJ1.at_ (j := j) (by have := h4.1; omega)
    have h4' := h4.2
    rw [show d - 1 = j by omega] at h4'
    obtain ⟨p, hp⟩ : ∃ p, p = L.getD j ⟨#[]⟩ := ⟨_, rfl⟩
    rw [← hp] at hcg h4'
    have hdk : d ≤ k := by rw [hk]; exact h4.1
    have hdk' : decide (d ≤ k) = true := by simpa using hdk
    have hjk2 : j < k := by omega
    have hjk3 : (j : Int) < (k : Int) := by omega
    clear hk hJ hJ1 Hr HJ h1 h2 h3 h4 hp hj
    rcases not_lt h4' with h5 | ⟨h5, h6⟩
    all_goals
      clear h4'
      go_enter Tryz.func59, Tryz.ntmps59
      go_wp2_with fail
      go_ret
      exact ⟨rfl, HT.out (by omega)⟩
  rw [if_neg h4] at hr2
  subst hr2
  have hrow := row_take hJ1.row (m := j) (by omega)
  have hfar1 : (Value.slice A j c).ownBlock ≠ some b := by rw [own_of A j L.length c]; exact hJ.far
  have hb1 : base ≤ (w.setCell ⟨b, o, none⟩ (.int .i64 ((n : Int) + 1))).heap.size := hJ1.le
  have hsrc : ∀ (W : World) (g : Nat), g = W.heap.size → Src Tryz.prog 1 28 (.slice (some ⟨g, 0, none⟩) 1 1) 1 (strs [s]) (W.alloc (Obj.cells #[Value.string s] 9)) := fun W g hg =>
    hg ▸ Src.laid Tryz.underlying28 rfl (fun j u hu => by rw [cell_of_row _ _ _ _ _ _ (heap_alloc_new W _), ← hu]; simp [strs]) (strs_one _)
  have hj12 : j + 1 ≤ 1099511627776 := by omega
  have HK2 : Hid (strs (L.take j) = (strs L).take j) := Lib.hid (by simp [strs, List.map_take])
  have hcap : (A = none ∧ j = 0 ∧ c = 0) ∨ ∃ g, A = some ⟨g, 0, none⟩ ∧ j ≤ c ∧ c ≤ maxLen := by
    rcases hrow.2 with ⟨e1, e2⟩ | ⟨g, cap, cu, e1, hg, hh, hcap, hmx, hsz, htk⟩
    · injection e1 with a1 a2 a3
      exact .inl ⟨a1, a2, a3⟩
    · injection e1 with a1 a2 a3
      exact .inr ⟨g, a1, a3 ▸ hcap, a3 ▸ hmx⟩
  have hguard : (decide (d ≤ k) = false) ∨ (decide (d ≤ k) = true ∧ ∃ g p, A = some ⟨g, 0, none⟩ ∧ g ≠ b ∧ g < (w.setCell ⟨b, o, none⟩ (.int .i64 ((n : Int) + 1))).heap.size ∧ (w.setCell ⟨b, o, none⟩ (.int .i64 ((n : Int) + 1))).cell? ⟨g, j, none⟩ = some (.string p) ∧ Op.bytesLess s.toList p.toList = false ∧ (s.toList == p.toList) = false) := by
    by_cases hdk : d ≤ k
    · right
      obtain ⟨g, hA, hgb, hgl, hcg⟩ := hJ1.at_ (j := j) (by omega)
      refine ⟨by simpa using hdk, g, _, hA, hgb, hgl, hcg, ?_⟩
      have : Op.bytesLess (L.getD (d - 1) ⟨#[]⟩).toList s.toList = true := by
        cases hx : Op.bytesLess (L.getD (d - 1) ⟨#[]⟩).toList s.toList with
        | true => rfl
        | false => exact absurd ⟨by omega, hx⟩ h4
      rw [show d - 1 = j by omega] at this
      exact lt_not this
    · left
      simpa using hdk
  have HJ1 := Lib.hid hJ1
  have Hfar := Lib.hid hfar1
  have Hj := Lib.hid hj
  clear hk hJ hJ1 h1 h2 h3 h4 hfar1 hj
  rcases hguard with hg1 | ⟨hg1, g, p, rfl, hgb, hgl, hcg, hs2, hs3⟩
  · rcases hcap with ⟨rfl, rfl, rfl⟩ | ⟨g, rfl, hjc, hcm⟩
    · go_enter Tryz.func59, Tryz.ntmps59
      go_wp2_with (at_builtin; refine wpList_append_row rfl (.tmp 54) (.tmp 56) _ _ rfl elem_str rfl rfl (hrow.alloc _) (hsrc _ _ (by simp)) hj12 (Nat.le_trans hb1 (by simp)) ?_; intro A2 c2 w2 ho2 hg2 hat2; have hblk := (hg2.block b (by simp at hbl' ⊢; omega) (fun e => Hfar.out e.symm)).trans (heap_keep HJ1.out.heap _); have hcw := (cell_of_row w2 b (o + 1) _ _ _ hblk).trans HJ1.out.names; have hfw : w2.frozen? ⟨b, o + 1, none⟩ = false := (by simp [World.frozen?, hblk]); clear hblk)
      go_ret
      exact ⟨rfl, told_yes HJ.out rfl Hj.out (by rw [← Hk.out]; exact hjk) ho2 hg2 hat2⟩
    · go_enter Tryz.func59, Tryz.ntmps59
      go_wp2_with (at_builtin; refine wpList_append_row rfl (.tmp 54) (.tmp 56) _ _ rfl elem_str rfl rfl (hrow.alloc _) (hsrc _ _ (by simp)) hj12 (Nat.le_trans hb1 (by simp)) ?_; intro A2 c2 w2 ho2 hg2 hat2; have hblk := (hg2.block b (by simp at hbl' ⊢; omega) (fun e => Hfar.out e.symm)).trans (heap_keep HJ1.out.heap _); have hcw := (cell_of_row w2 b (o + 1) _ _ _ hblk).trans HJ1.out.names; have hfw : w2.frozen? ⟨b, o + 1, none⟩ = false := (by simp [World.frozen?, hblk]); clear hblk)
      go_ret
      exact ⟨rfl, told_yes HJ.out rfl Hj.out (by rw [← Hk.out]; exact hjk) ho2 hg2 hat2⟩
  · obtain ⟨g', e, hjc, hcm⟩ := hcap.resolve_left (fun e => by cases e.1)
    cases e
    have hjk2 : j < k := by have := of_decide_eq_true hg1; have := Hj.out; omega
    have hjk3 : (j : Int) < (k : Int) := by omega
    go_enter Tryz.func59, Tryz.ntmps59
    go_wp2_with (at_builtin; refine wpList_append_row rfl (.tmp 54) (.tmp 56) _ _ rfl elem_str rfl rfl (hrow.alloc _) (hsrc _ _ (by simp)) hj12 (Nat.le_trans hb1 (by simp)) ?_; intro A2 c2 w2 ho2 hg2 hat2; have hblk := (hg2.block b (by simp at hbl' ⊢; omega) (fun e => Hfar.out e.symm)).trans (heap_keep HJ1.out.heap _); have hcw := (cell_of_row w2 b (o + 1) _ _ _ hblk).trans HJ1.out.names; have hfw : w2.frozen? ⟨b, o + 1, none⟩ = false := (by simp [World.frozen?, hblk]); clear hblk)
    go_ret
    exact ⟨rfl, told_yes HJ.out rfl Hj.out (by rw [← Hk.out]; exact hjk) ho2 hg2 hat2⟩
end Go.Proofs.YtlcbhooiinaalaaGreatDoor.Jd
