/- tree's judge: what it says of the next edge, and what it keeps of it. Conditions: at most 400 edges told ahead, at most twelve names kept. · The iterator over a tree's edges: each ahead of what is below it, in order. Conditions: fewer than 2^39 edges. · quote: a name, quoted, behind bytes of the call's own. Conditions: lengths below 2^40. · The text of a tree: as the document has it; and as a row of edges makes it, one by one. No conditions. · A region that draws its order, in a round of a range over a function: it goes as it goes everywhere. Conditions: none of its operations is a defer statement. · tree.Text: the document's text of a tree. Conditions: edges, names' bytes below 2^36. -/
import Derived.Test.YtgefoehpdiiomaaGreatDoorMwChkMath
import Derived.Test.YtgefoehpdiiomaaGreatDoorMwWords
import Derived.Test.YtgefoehpdiiomaaGreatDoorStack
import Derived.Deep.QuietTactic
import Derived.BigQuiet
import Derived.Outline
import Derived.Sort.Walk0
import Derived.LoopNIn
import Derived.Sort.LoopGhostIn
import Derived.Stop.RegionWithIn
import Derived.Sort.CutIn
import Derived.LoopIn
import Derived.TacticsInMore
import Derived.Shelf.RegionOpen
import Derived.StillTailTactics
import Derived.Deep.RegionLaw
import Derived.Deep.RegionHeld
import Derived.OwnWalkIn
import Derived.Test.YtgefoehpdiiomaaGreatDoorShelf
import Derived.Lib.SlBytesConst
import Derived.IntWalk
import Derived.Deep.RegionWith
namespace Go.Proofs.YtgefoehpdiiomaaGreatDoor.Jd
open Go.RowKit
set_option maxRecDepth 100000

def strs (l : List ByteArray) : List Value := l.map Value.string
theorem elem_str : Elem Tryz.prog 28 9 (.string ⟨#[]⟩) 1 16 := ⟨Tryz.underlying28, by kernel_rfl, rfl, by omega⟩
theorem strs_one (l : List ByteArray) : ∀ u ∈ strs l, u.oneCell' = true := by
  intro u hu
  simp only [strs, List.mem_map] at hu
  obtain ⟨x, _, rfl⟩ := hu
  rfl

/-- At place o of block b a judge lies: so many told, these names, in a row of its own. -/
structure Jdg (w : World) (base b o : Nat) (E : TypeId) (cur : Array Value) (n : Nat) (L : List ByteArray) (A : Option Addr) (c : Nat) : Prop where
  heap : w.heap[b]? = some (.cells cur E (0, 0))
  told : cur[o]? = some (.int .i64 n)
  names : cur[o + 1]? = some (.slice A L.length c)
  row : w.ownsRow base 9 1 (.slice A L.length c) L.length (strs L)
  far : (Value.slice A L.length c).ownBlock ≠ some b
  le : base ≤ w.heap.size

/-- The front of a row of one's own. -/
theorem row_take {w : World} {base n m c : Nat} {e : TypeId} {A : Option Addr} {L : List Value} (h : w.ownsRow base e 1 (.slice A n c) n L) (hm : m ≤ n) : w.ownsRow base e 1 (.slice A m c) m (L.take m) := by
  obtain ⟨h1, h2⟩ := h
  refine ⟨by rw [List.length_take]; omega, ?_⟩
  rcases h2 with ⟨e1, e2⟩ | ⟨g, cap, cur, e1, hg, hh, hcap, hmx, hsz, htk⟩
  · injection e1 with a1 a2 a3
    subst a1; subst a3
    obtain rfl : m = 0 := by omega
    exact .inl ⟨rfl, rfl⟩
  · injection e1 with a1 a2 a3
    subst a1; subst a3
    refine .inr ⟨g, c, cur, rfl, hg, hh, by omega, hmx, hsz, ?_⟩
    rw [← htk, List.take_take]
    congr 1
    omega
theorem own_of (A : Option Addr) (n m c : Nat) : (Value.slice A n c).ownBlock = (Value.slice A m c).ownBlock := by cases A <;> rfl

/-- What changed: block b, the row of the names, and what is new. -/
structure Chg (b : Nat) (row : Option Nat) (w w' : World) : Prop where
  os : w'.os = w.os
  tape : w'.tape = w.tape
  output : w'.output = w.output
  size : w.heap.size ≤ w'.heap.size
  block : ∀ k, k < w.heap.size → k ≠ b → some k ≠ row → w'.heap[k]? = w.heap[k]?
theorem Chg.set {b o : Nat} {row : Option Nat} (w : World) (v : Value) : Chg b row w (w.setCell ⟨b, o, none⟩ v) :=
  ⟨rfl, rfl, rfl, by simp [World.setCell], fun k _ hk _ => Below.heap_setCell w ⟨b, o, none⟩ v k hk⟩
theorem Chg.trans {b : Nat} {row : Option Nat} {w w' w'' : World} (h : Chg b row w w') (k : Chg b row w' w'') : Chg b row w w'' :=
  ⟨k.os.trans h.os, k.tape.trans h.tape, k.output.trans h.output, Nat.le_trans h.size k.size, fun i hi h1 h2 => (k.block i (Nat.lt_of_lt_of_le hi h.size) h1 h2).trans (h.block i hi h1 h2)⟩
theorem Chg.grown {b : Nat} {row : Option Nat} {w w' : World} (h : w.grownBy w' row) : Chg b row w w' :=
  ⟨h.os, h.tape, h.output, h.size, fun k hk _ h2 => h.block k hk h2⟩

section
variable {w : World} {base b o n c : Nat} {E : TypeId} {cur : Array Value} {L : List ByteArray} {A : Option Addr}
theorem Jdg.told_ (h : Jdg w base b o E cur n L A c) (v : Value) (hv : v = .int .i64 ((n + 1 : Nat) : Int)) : Jdg (w.setCell ⟨b, o, none⟩ v) base b o E (cur.setIfInBounds o v) (n + 1) L A c := by
  have hl : o < cur.size := (Array.getElem?_eq_some_iff.1 h.told).1
  refine ⟨heap_setCell_same w b o cur E v h.heap, by rw [Array.getElem?_setIfInBounds_self_of_lt hl, hv], ?_, ownsRow_setCell_other h.row h.far v, h.far, by simp [World.setCell]; exact h.le⟩
  rw [Array.getElem?_setIfInBounds_ne (by omega)]
  exact h.names
theorem Jdg.cells (h : Jdg w base b o E cur n L A c) : w.cell? ⟨b, o, none⟩ = some (.int .i64 n) ∧ w.cell? ⟨b, o + 1, none⟩ = some (.slice A L.length c) ∧ (∀ q, w.frozen? ⟨b, q, none⟩ = false) ∧ b < w.heap.size :=
  ⟨by rw [cell_of_row w b o _ _ _ h.heap]; exact h.told, by rw [cell_of_row w b (o + 1) _ _ _ h.heap]; exact h.names, fun q => by simp [World.frozen?, h.heap], (Array.getElem?_eq_some_iff.1 h.heap).1⟩
/-- A name kept. -/
theorem Jdg.at_ (h : Jdg w base b o E cur n L A c) {j : Nat} (hj : j < L.length) : ∃ g, A = some ⟨g, 0, none⟩ ∧ g ≠ b ∧ g < w.heap.size ∧ w.cell? ⟨g, j, none⟩ = some (.string (L.getD j ⟨#[]⟩)) := by
  obtain ⟨h1, h2⟩ := h.row
  rcases h2 with ⟨e1, e2⟩ | ⟨g, cap, cu, e1, hg, hh, hcap, hmx, hsz, htk⟩
  · omega
  · injection e1 with a1 a2 a3
    subst a1; subst a3
    refine ⟨g, rfl, fun e => h.far (by rw [e]; rfl), (Array.getElem?_eq_some_iff.1 hh).1, ?_⟩
    rw [cell_of_row w g j cu _ _ hh]
    have : (cu.toList.take (L.length * 1))[j]? = some (Value.string (L.getD j ⟨#[]⟩)) := by
      rw [htk, strs, List.getElem?_map, List.getElem?_eq_getElem hj, List.getD_eq_getElem?_getD, List.getElem?_eq_getElem hj]; rfl
    rw [List.getElem?_take] at this
    split at this
    · rw [← Array.getElem?_toList]; exact this
    · cases this
end

theorem lt_iff (x y : ByteArray) : Op.bytesLess x.toList y.toList = true ↔ x.data.toList < y.data.toList := by
  rw [Go.Proofs.bytesLess_eq, ByteArray.toList_eq, ByteArray.toList_eq, decide_eq_true_iff]
theorem not_lt {x y : ByteArray} (h : Op.bytesLess x.toList y.toList = false) : Op.bytesLess y.toList x.toList = true ∨ (Op.bytesLess y.toList x.toList = false ∧ (y.toList == x.toList) = true) := by
  cases hc : Op.bytesLess y.toList x.toList with
  | true => exact .inl rfl
  | false =>
    right
    have h1 : ¬ x.data.toList < y.data.toList := fun e => by rw [(lt_iff x y).2 e] at h; cases h
    have h2 : ¬ y.data.toList < x.data.toList := fun e => by rw [(lt_iff y x).2 e] at hc; cases hc
    have := List.le_antisymm (Classical.not_not.1 (fun e => h2 (by simpa using e)) : x.data.toList ≤ y.data.toList) (Classical.not_not.1 (fun e => h1 (by simpa using e)))
    rw [ByteArray.toList_eq, ByteArray.toList_eq, this]
    exact ⟨rfl, beq_self_eq_true _⟩
theorem lt_not {x y : ByteArray} (h : Op.bytesLess x.toList y.toList = true) : Op.bytesLess y.toList x.toList = false ∧ (y.toList == x.toList) = false := by
  have h1 := (lt_iff x y).1 h
  constructor
  · cases hc : Op.bytesLess y.toList x.toList with
    | false => rfl
    | true => exact absurd (List.lt_trans h1 ((lt_iff y x).1 hc)) (List.lt_irrefl _)
  · cases hc : (y.toList == x.toList) with
    | false => rfl
    | true =>
      have := beq_iff_eq.1 hc
      rw [ByteArray.toList_eq, ByteArray.toList_eq] at this
      rw [this] at h1
      exact absurd h1 (List.lt_irrefl _)

/-- How the call ends. -/
def Told (w : World) (base b o : Nat) (E : TypeId) (cur : Array Value) (n : Nat) (L : List ByteArray) (d : Nat) (s : ByteArray) (row : Option Nat) (w' : World) : Prop :=
  ∃ cur' L' A' c', Jdg w' base b o E cur' (n + 1) L' A' c' ∧ (judgeE n L d s = 0 → L' = judgeL L d s) ∧ (∀ i, i ≠ o → i ≠ o + 1 → cur'[i]? = cur[i]?) ∧ cur'.size = cur.size ∧ Chg b row w w'

theorem told_no {w : World} {base b o n c d : Nat} {E : TypeId} {cur : Array Value} {L : List ByteArray} {A : Option Addr} {s : ByteArray} (h : Jdg w base b o E cur n L A c) (v : Value) (hv : v = .int .i64 ((n + 1 : Nat) : Int)) (he : judgeE n L d s ≠ 0) (row : Option Nat) : Told w base b o E cur n L d s row (w.setCell ⟨b, o, none⟩ v) :=
  ⟨_, L, A, c, h.told_ v hv, fun e => absurd e he, fun i h1 _ => by rw [Array.getElem?_setIfInBounds_ne (by omega)], by simp, Chg.set w v⟩

theorem told_yes {w w2 : World} {base b o n c j c2 d : Nat} {E : TypeId} {cur : Array Value} {L : List ByteArray} {A A2 : Option Addr} {s : ByteArray} {v : Value} {ob : Obj} (hJ : Jdg w base b o E cur n L A c) (hv : v = .int .i64 ((n + 1 : Nat) : Int)) (hd : d = j + 1) (hj : j ≤ L.length)
    (ho : w2.ownsRow base 9 1 (.slice A2 (j + 1) c2) (j + 1) ((strs L).take j ++ strs [s])) (hg : ((w.setCell ⟨b, o, none⟩ v).alloc ob).grownBy w2 (Value.slice A j c).ownBlock)
    (hat : ∀ a, A2 = some a → a.block = ((w.setCell ⟨b, o, none⟩ v).alloc ob).heap.size ∨ some a.block = (Value.slice A j c).ownBlock) :
    Told w base b o E cur n L d s (Value.slice A L.length c).ownBlock (w2.setCell ⟨b, o + 1, none⟩ (.slice A2 (j + 1) c2)) := by
  have hJ1 := hJ.told_ v hv
  have hfar : (Value.slice A j c).ownBlock ≠ some b := by rw [own_of A j L.length c]; exact hJ.far
  have hbl := (Array.getElem?_eq_some_iff.1 hJ1.heap).1
  have hblk : w2.heap[b]? = some (.cells (cur.setIfInBounds o v) E (0, 0)) := (hg.block b (by simp at hbl ⊢; omega) (fun e => hfar e.symm)).trans (heap_keep hJ1.heap _)
  have hL' : (judgeL L d s).length = j + 1 := by rw [judgeL_length (by omega) (by omega), hd]
  have hl1 : o + 1 < (cur.setIfInBounds o v).size := (Array.getElem?_eq_some_iff.1 hJ1.names).1
  have hfar2 : (Value.slice A2 (j + 1) c2).ownBlock ≠ some b := by
    intro e
    cases A2 with
    | none => cases e
    | some a =>
      have e : some a.block = some b := e
      rcases hat a rfl with h | h
      · injection e with e
        simp at h hbl
        omega
      · rw [e] at h
        exact hfar h.symm
  refine ⟨_, judgeL L d s, A2, c2, ⟨heap_setCell_same w2 b (o + 1) _ E _ hblk, ?_, ?_, ?_, ?_, ?_⟩, fun _ => rfl, fun i h1 h2 => ?_, by simp, ?_⟩
  · rw [Array.getElem?_setIfInBounds_ne (by omega)]
    exact hJ1.told
  · rw [Array.getElem?_setIfInBounds_self_of_lt hl1, hL']
  · rw [hL']
    refine ownsRow_setCell_other ?_ hfar2 _
    have : strs (judgeL L d s) = (strs L).take j ++ strs [s] := by rw [judgeL, hd]; simp [strs, List.map_take]
    rw [this]
    exact ho
  · rw [hL']
    exact hfar2
  · exact Nat.le_trans (Nat.le_trans hJ1.le (by simp)) (Nat.le_trans hg.size (by simp [World.setCell]))
  · rw [Array.getElem?_setIfInBounds_ne (by omega), Array.getElem?_setIfInBounds_ne (by omega)]
  · rw [own_of A L.length j c]
    exact ((((Chg.set w v).trans (Chg.grown (grown_new (World.grownBy.refl _ _) _))).trans (Chg.grown hg)).trans (Chg.set w2 _))

set_option maxHeartbeats 2000000 in
theorem edge_any (w : World) (base b o n c d : Nat) (E : TypeId) (cur : Array Value) (L : List ByteArray) (A : Option Addr) (s : ByteArray) (hJ : Jdg w base b o E cur n L A c) (hn : n ≤ 400) (hd1 : 1 ≤ d) (hd2 : d ≤ L.length + 1) (hs : s.size ≤ 140737488351232) :
    Calls Tryz.prog 62 #[.pointer (some ⟨b, o, none⟩), .int .i64 d, .string s] w fun e w' => e = .returned (.int .i64 (judgeE n L d s : Nat)) ∧ Told w base b o E cur n L d s (Value.slice A L.length c).ownBlock w' := by
  have hJ1 := hJ.told_ (.int .i64 ((n : Int) + 1)) rfl
  have HJ := Lib.hid hJ
  obtain ⟨hc0, hc1, hf, hbl⟩ := hJ.cells
  have hf0 := hf o
  obtain ⟨_, hc1', hf', hbl'⟩ := hJ1.cells
  have hf1' := hf' (o + 1)
  obtain ⟨_, hc0', _⟩ : True ∧ (w.setCell ⟨b, o, none⟩ (.int .i64 ((n : Int) + 1))).cell? ⟨b, o, none⟩ = some (.int .i64 ((n : Int) + 1)) ∧ True := ⟨trivial, by
    rw [cell_of_row _ b o _ _ _ hJ1.heap]; exact hJ1.told, trivial⟩
  obtain ⟨r, hr⟩ : ∃ r, r = judgeE n L d s := ⟨_, rfl⟩
  have HT := Lib.hid (fun (he : r ≠ 0) => told_no (d := d) (s := s) hJ (.int .i64 ((n : Int) + 1)) rfl (hr ▸ he) (Value.slice A L.length c).ownBlock)
  have hr2 := hr
  unfold judgeE at hr2
  rw [← hr]
  have Hr := Lib.hid hr
  clear hr hf hf'
  obtain ⟨k, hk⟩ : ∃ k, k = L.length := ⟨_, rfl⟩
  rw [← hk] at hc1 hc1' hd2
  have Hk := Lib.hid hk
  by_cases h1 : 400 < n + 1
  · rw [if_pos h1] at hr2
    subst hr2
    have h1' : (400 : Int) < (n : Int) + 1 := by omega
    clear hk hJ hJ1 Hr HJ h1
    go_enter Tryz.func62, Tryz.ntmps62
    go_wp2_with fail
    go_ret
    exact ⟨rfl, HT.out (by omega)⟩
  rw [if_neg h1] at hr2
  have h1' : ¬ (400 : Int) < (n : Int) + 1 := by omega
  by_cases h2 : 12 < d
  · rw [if_pos h2] at hr2
    subst hr2
    have h2' : (12 : Int) < (d : Int) := by omega
    clear hk hJ hJ1 Hr HJ h1 h2
    go_enter Tryz.func62, Tryz.ntmps62
    go_wp2_with fail
    go_ret
    exact ⟨rfl, HT.out (by omega)⟩
  rw [if_neg h2] at hr2
  have h2' : ¬ (12 : Int) < (d : Int) := by omega
  by_cases h3 : 80 < s.size
  · rw [if_pos h3] at hr2
    subst hr2
    have h3' : (80 : Int) < (s.size : Int) := by omega
    clear hk hJ hJ1 Hr HJ h1 h2 h3
    go_enter Tryz.func62, Tryz.ntmps62
    go_wp2_with fail
    go_ret
    exact ⟨rfl, HT.out (by omega)⟩
  rw [if_neg h3] at hr2
  have h3' : ¬ (80 : Int) < (s.size : Int) := by omega
  obtain ⟨j, hj⟩ : ∃ j, d = j + 1 := ⟨d - 1, by omega⟩
  have hdj : (d : Int) - 1 = (j : Int) := by omega
  have hj0 : (0 : Int) ≤ (j : Int) := by omega
  have hjk : j ≤ k := by omega
  by_cases h4 : d ≤ L.length ∧ Op.bytesLess (L.getD (d - 1) ⟨#[]⟩).toList s.toList = false
  · rw [if_pos h4] at hr2
    subst hr2
    obtain ⟨g, rfl, hgb, hgl, hcg⟩ := hJ1.at_ (j := j) (by have := h4.1; omega)
    have h4' := h4.2
    rw [show d - 1 = j by omega] at h4'
    obtain ⟨p, hp⟩ : ∃ p, p = L.getD j ⟨#[]⟩ := ⟨_, rfl⟩
    rw [← hp] at hcg h4'
    have hdk : d ≤ k := by rw [hk]; exact h4.1
    have hdk' : decide (d ≤ k) = true := by simpa using hdk
    have hjk2 : j < k := by omega
    have hjk3 : (j : Int) < (k : Int) := by omega
    clear hk hJ hJ1 Hr HJ h1 h2 h3 h4 hp hj
    rcases not_lt h4' with h5 | ⟨h5, h6⟩
    all_goals
      clear h4'
      go_enter Tryz.func62, Tryz.ntmps62
      go_wp2_with fail
      go_ret
      exact ⟨rfl, HT.out (by omega)⟩
  rw [if_neg h4] at hr2
  subst hr2
  have hrow := row_take hJ1.row (m := j) (by omega)
  have hfar1 : (Value.slice A j c).ownBlock ≠ some b := by rw [own_of A j L.length c]; exact hJ.far
  have hb1 : base ≤ (w.setCell ⟨b, o, none⟩ (.int .i64 ((n : Int) + 1))).heap.size := hJ1.le
  have hsrc : ∀ (W : World) (g : Nat), g = W.heap.size → Src Tryz.prog 1 28 (.slice (some ⟨g, 0, none⟩) 1 1) 1 (strs [s]) (W.alloc (Obj.cells #[Value.string s] 9)) := fun W g hg =>
    hg ▸ Src.laid Tryz.underlying28 rfl (fun j u hu => by rw [cell_of_row _ _ _ _ _ _ (heap_alloc_new W _), ← hu]; simp [strs]) (strs_one _)
  have hj12 : j + 1 ≤ 1099511627776 := by omega
  have HK2 : Hid (strs (L.take j) = (strs L).take j) := Lib.hid (by simp [strs, List.map_take])
  have hcap : (A = none ∧ j = 0 ∧ c = 0) ∨ ∃ g, A = some ⟨g, 0, none⟩ ∧ j ≤ c ∧ c ≤ maxLen := by
    rcases hrow.2 with ⟨e1, e2⟩ | ⟨g, cap, cu, e1, hg, hh, hcap, hmx, hsz, htk⟩
    · injection e1 with a1 a2 a3
      exact .inl ⟨a1, a2, a3⟩
    · injection e1 with a1 a2 a3
      exact .inr ⟨g, a1, a3 ▸ hcap, a3 ▸ hmx⟩
  have hguard : (decide (d ≤ k) = false) ∨ (decide (d ≤ k) = true ∧ ∃ g p, A = some ⟨g, 0, none⟩ ∧ g ≠ b ∧ g < (w.setCell ⟨b, o, none⟩ (.int .i64 ((n : Int) + 1))).heap.size ∧ (w.setCell ⟨b, o, none⟩ (.int .i64 ((n : Int) + 1))).cell? ⟨g, j, none⟩ = some (.string p) ∧ Op.bytesLess s.toList p.toList = false ∧ (s.toList == p.toList) = false) := by
    by_cases hdk : d ≤ k
    · right
      obtain ⟨g, hA, hgb, hgl, hcg⟩ := hJ1.at_ (j := j) (by omega)
      refine ⟨by simpa using hdk, g, _, hA, hgb, hgl, hcg, ?_⟩
      have : Op.bytesLess (L.getD (d - 1) ⟨#[]⟩).toList s.toList = true := by
        cases hx : Op.bytesLess (L.getD (d - 1) ⟨#[]⟩).toList s.toList with
        | true => rfl
        | false => exact absurd ⟨by omega, hx⟩ h4
      rw [show d - 1 = j by omega] at this
      exact lt_not this
    · left
      simpa using hdk
  have HJ1 := Lib.hid hJ1
  have Hfar := Lib.hid hfar1
  have Hj := Lib.hid hj
  clear hk hJ hJ1 h1 h2 h3 h4 hfar1 hj
  rcases hguard with hg1 | ⟨hg1, g, p, rfl, hgb, hgl, hcg, hs2, hs3⟩
  · rcases hcap with ⟨rfl, rfl, rfl⟩ | ⟨g, rfl, hjc, hcm⟩
    · go_enter Tryz.func62, Tryz.ntmps62
      go_wp2_with (at_builtin; refine wpList_append_row rfl (.tmp 54) (.tmp 56) _ _ rfl elem_str rfl rfl (hrow.alloc _) (hsrc _ _ (by simp)) hj12 (Nat.le_trans hb1 (by simp)) ?_; intro A2 c2 w2 ho2 hg2 hat2; have hblk := (hg2.block b (by simp at hbl' ⊢; omega) (fun e => Hfar.out e.symm)).trans (heap_keep HJ1.out.heap _); have hcw := (cell_of_row w2 b (o + 1) _ _ _ hblk).trans HJ1.out.names; have hfw : w2.frozen? ⟨b, o + 1, none⟩ = false := (by simp [World.frozen?, hblk]); clear hblk)
      go_ret
      exact ⟨rfl, told_yes HJ.out rfl Hj.out (by rw [← Hk.out]; exact hjk) ho2 hg2 hat2⟩
    · go_enter Tryz.func62, Tryz.ntmps62
      go_wp2_with (at_builtin; refine wpList_append_row rfl (.tmp 54) (.tmp 56) _ _ rfl elem_str rfl rfl (hrow.alloc _) (hsrc _ _ (by simp)) hj12 (Nat.le_trans hb1 (by simp)) ?_; intro A2 c2 w2 ho2 hg2 hat2; have hblk := (hg2.block b (by simp at hbl' ⊢; omega) (fun e => Hfar.out e.symm)).trans (heap_keep HJ1.out.heap _); have hcw := (cell_of_row w2 b (o + 1) _ _ _ hblk).trans HJ1.out.names; have hfw : w2.frozen? ⟨b, o + 1, none⟩ = false := (by simp [World.frozen?, hblk]); clear hblk)
      go_ret
      exact ⟨rfl, told_yes HJ.out rfl Hj.out (by rw [← Hk.out]; exact hjk) ho2 hg2 hat2⟩
  · obtain ⟨g', e, hjc, hcm⟩ := hcap.resolve_left (fun e => by cases e.1)
    cases e
    have hjk2 : j < k := by have := of_decide_eq_true hg1; have := Hj.out; omega
    have hjk3 : (j : Int) < (k : Int) := by omega
    go_enter Tryz.func62, Tryz.ntmps62
    go_wp2_with (at_builtin; refine wpList_append_row rfl (.tmp 54) (.tmp 56) _ _ rfl elem_str rfl rfl (hrow.alloc _) (hsrc _ _ (by simp)) hj12 (Nat.le_trans hb1 (by simp)) ?_; intro A2 c2 w2 ho2 hg2 hat2; have hblk := (hg2.block b (by simp at hbl' ⊢; omega) (fun e => Hfar.out e.symm)).trans (heap_keep HJ1.out.heap _); have hcw := (cell_of_row w2 b (o + 1) _ _ _ hblk).trans HJ1.out.names; have hfw : w2.frozen? ⟨b, o + 1, none⟩ = false := (by simp [World.frozen?, hblk]); clear hblk)
    go_ret
    exact ⟨rfl, told_yes HJ.out rfl Hj.out (by rw [← Hk.out]; exact hjk) ho2 hg2 hat2⟩
end Go.Proofs.YtgefoehpdiiomaaGreatDoor.Jd
namespace Go.Proofs.YtgefoehpdiiomaaGreatDoor
open Go.RowKit Go.Shelf
set_option maxRecDepth 100000
attribute [local go_sem] Oper.semAt_some

/-- The jobs L (the top at the end) lie in memory, and hand out xs: the top's first; none deeper than D. -/
inductive Todo (w : World) (B D : Nat) : List Job → Nat → List Handed → Prop where
  | nil : Todo w B D [] 0 []
  | cons {L : List Job} {x : Job} {t : Tr} {ys zs : List Handed} {m : Nat} (hw : Walks w B x.at_ x.n x.deep t ys) (hc : x.n ≤ x.c) (hm : x.c ≤ maxLen) (hd : x.deep + t.size ≤ D) (hl : Todo w B D L m zs) : Todo w B D (L ++ [x]) (m + 2 * t.size + 1) (ys ++ zs)
theorem Todo.keep {w w' : World} {B D : Nat} (hk : ∀ p : Addr, p.block < B → w'.cell? p = w.cell? p) {L : List Job} {m : Nat} {xs : List Handed} (h : Todo w B D L m xs) : Todo w' B D L m xs := by
  induction h with
  | nil => exact .nil
  | cons hw hc hm hd _ ih => exact .cons (hw.keep hk) hc hm hd ih
theorem Todo.len {w : World} {B D : Nat} {L : List Job} {m : Nat} {xs : List Handed} (h : Todo w B D L m xs) : L.length ≤ m := by
  induction h with
  | nil => exact Nat.le_refl _
  | cons hw hc hm _ _ ih => simp; omega

theorem edges_any (A : Option Addr) (n c : Nat) (w : World) : Calls Tryz.prog 61 #[.slice A n c] w fun e w' =>
    e = .returned (.func (.func 80) #[] #[.pointer (some ⟨w.heap.size, 0, none⟩)]) ∧ w' = w.alloc (.cells #[.slice A n c] 30) := by
  go_enter Tryz.func61, Tryz.ntmps61
  go_wp2
  go_ret
  exact ⟨rfl, rfl⟩

set_option maxHeartbeats 2000000 in
theorem edges_in (n l gb B c0 : Nat) (A0 : Option Addr) (t0 : Tr) (xs : List Handed) (J Jx : List Handed → World → Prop) (W0 : World)
    (hJ : ∀ s A C, J s A → Keeps (pA kinds) B A C → J s C) 
    (hY : ∀ pre x W1, J pre W1 → (pre ++ [x]) <+: xs → YieldAt Fence.wide (n - 1) Tryz.prog l x.args W1 fun e W' =>
      (e = .returned (.bool true) ∧ J (pre ++ [x]) W' ∧ Keeps (pT kinds) B W1 W') ∨ (e = .returned (.bool false) ∧ Jx (pre ++ [x]) W'))
    (hB : B ≤ W0.heap.size) (hbox : W0.cell? ⟨gb, 0, none⟩ = some (.slice A0 t0.len c0)) (hw : Walks W0 B A0 t0.len 1 t0 xs) (hc0 : t0.len ≤ c0) (hm0 : c0 ≤ maxLen) (hsz : t0.size ≤ 549755813888) (h0 : J [] W0) :
    CallsIn Fence.wide n Tryz.prog 80 #[.func (.yield l) #[] #[], .pointer (some ⟨gb, 0, none⟩)] W0 fun e W' => (∃ v, e = .returned v) ∧ (J xs W' ∨ (∃ pre, pre <+: xs ∧ Jx pre W')) := by
  refine callsIn_of_wp Tryz.func80 rfl trivial ?_ rfl
  simp only [Tryz.ntmps80, List.size_toArray, List.length_cons, List.length_nil, Nat.reduceAdd, Nat.reduceSub, Array.replicate_succ, Array.replicate_zero, List.push_toArray, List.append_toArray, List.nil_append, List.cons_append]
  have hgl : gb < W0.heap.size := World.block_lt_of_cell? _ _ hbox
  gi_wp2
  gi_loopg [] (2 * t0.size + 1) (fun k wr => ∃ L pre zs, k ≤ 2 * t0.size + 1 ∧ Todo wr B (t0.size + 1) L k zs ∧ Stk wr W0.heap.size (W0.heap.size + 1) L ∧ J pre wr ∧ xs = pre ++ zs ∧ W0.heap.size ≤ wr.heap.size)
  case atStart =>
    refine ⟨[⟨A0, t0.len, c0, 1⟩], [], xs, Nat.le_refl _, ?_, ⟨by omega, some ⟨W0.heap.size, 0, none⟩, 1, ?_, ?_⟩, ?_, by simp, by simp; omega⟩
    · have := Todo.cons (L := []) (x := ⟨A0, t0.len, c0, 1⟩) hw hc0 hm0 (D := t0.size + 1) (by simp; omega) .nil
      have := this.keep (w' := (W0.alloc (Obj.cells #[Value.slice A0 t0.len c0, Value.int IntKind.i64 1] 128)).alloc (Obj.cells #[Value.slice (some { block := W0.heap.size, off := 0 }) 1 1] 130)) (fun p hp => by
        rw [World.cell?_alloc_lt _ _ _ (by simp; omega), World.cell?_alloc_lt _ _ _ (by omega)])
      simpa using this
    · have := heap_alloc_new (W0.alloc (Obj.cells #[Value.slice A0 t0.len c0, Value.int IntKind.i64 1] 128)) (Obj.cells #[Value.slice (some { block := W0.heap.size, off := 0 }) 1 1] 130)
      simpa using this
    · exact (World.ownsRow_lit (base := W0.heap.size) (e := 128) (size := 2) W0 #[Value.slice A0 t0.len c0, Value.int IntKind.i64 1] 1 (Nat.le_refl _) (by simp [maxLen]) rfl).alloc _
    · exact hJ _ _ _ h0 ((Keeps.alloc _ W0 _ hB).trans (Keeps.alloc _ _ _ (by simp; omega)))
  case round =>
    obtain ⟨L, pre, zs, hk, hT, hS, hJr, hx, hle⟩ := hrel
    cases hT with
    | nil =>
      obtain ⟨A, c, hb, _⟩ := hS.row
      have hbx : wr.cell? ⟨W0.heap.size + 1, 0, none⟩ = some (.slice A 0 c) := by rw [cell_of_row wr _ 0 _ _ _ hb]; rfl
      have Hx := Lib.hid hx
      clear hx hb
      gi_wp2
      go_end0
      exact ⟨⟨_, rfl⟩, .inl (by rw [Hx.out, List.append_nil]; exact hJr)⟩
    | @cons L x t ys zs m hw1 hc1 hm1 hd1 hT =>
      obtain ⟨A, c, hb, _⟩ := hS.row
      have hbx : wr.cell? ⟨W0.heap.size + 1, 0, none⟩ = some (.slice A (L.length + 1) c) := by rw [cell_of_row wr _ 0 _ _ _ hb]; simp
      have hgw : W0.heap.size + 1 < wr.heap.size := (Array.getElem?_eq_some_iff.1 hb).1
      have hLl : L.length ≤ 1099511627776 := by have := hT.len; omega
      have Hx := Lib.hid hx
      have Hb := Lib.hid hb
      clear hx hb
      cases t with
      | nil =>
        obtain ⟨hys, hn⟩ := hw1
        obtain ⟨xa, xn, xc, xd⟩ := x
        simp only at hn hc1 hm1
        subst hn
        have Hys := Lib.hid hys
        clear hys
        gi_wp2_with (refine ⟨trivial, fun h => (by cases h), ?_⟩; gi_at_call 81; refine (callsIn_wide.2 (pop_any _ _ L _ _ hS hLl)).mono ?_; rintro e w1 ⟨rfl, hS1, hg1⟩; have hle1 := hg1.size)
        have hb1 : Below B wr w1 := (Below.refl _ _).grown hg1 (by omega) (fun q hq => by injection hq with hq; omega)
        go_roundg m
        case measure => omega
        case rel =>
          refine ⟨L, pre, zs, by omega, (hT.keep fun p hp => (hb1.cell hp).trans rfl).keep fun p hp => World.cell?_alloc_lt _ _ _ (by omega), ?_, ?_, by rw [Hx.out, Hys.out, List.nil_append], by simp; omega⟩
          · exact hS1.keep (Keeps.alloc _ _ _ (Nat.le_trans hB (Nat.le_trans hle hle1)))
          · refine hJ _ _ _ hJr ((Keeps.grown hg1 (by omega) (fun q hq => ?_)).trans (Keeps.alloc _ _ _ (by omega)))
            injection hq with hq
            subst hq
            exact ⟨by omega, fun o ho => by rw [Hb.out] at ho; cases ho; rfl⟩
      | cons s k r =>
        obtain ⟨b, o, A', n', c', ys1, zs1, e, hbB, hs, hc2, hn2, hm2, hyw, hl2, hn3, hz, hys⟩ := hw1
        obtain ⟨xa, xn, xc, xd⟩ := x
        simp only at e hn3 hc1 hm1 hd1 hyw hz
        subst e; subst hn3
        have Hys := Lib.hid hys
        have Hl2 := Lib.hid hl2
        clear hys hl2
        have hpre : (pre ++ [⟨xd, s, A', n', c'⟩]) <+: xs := ⟨ys1 ++ zs1 ++ zs, by rw [Hx.out, Hys.out]; simp⟩
        gi_wp2_with (refine ⟨trivial, fun h => (by cases h), ?_⟩; gi_at_call 81; refine (callsIn_wide.2 (pop_any _ _ L _ _ hS hLl)).mono ?_; rintro e w1 ⟨rfl, hS1, hg1⟩; have hle1 := hg1.size; have hb1 : Below B wr w1 := (Below.refl _ _).grown hg1 (by omega) (fun q hq => by injection hq with hq; omega); have hs1 := (hb1.cell (p := ⟨b, o, none⟩) hbB).trans hs; have hc1' := (hb1.cell (p := ⟨b, o + 1, none⟩) hbB).trans hc2; have hbl : b < w1.heap.size := (by omega); have hJ1 := hJ _ _ _ hJr (((Keeps.grown hg1 (by omega) (fun q hq => (by injection hq with hq; subst hq; exact ⟨by omega, fun o' ho => by rw [Hb.out] at ho; cases ho; rfl⟩))).trans (Keeps.alloc _ w1 (Obj.cells #[Value.slice (some ⟨b, o, none⟩) (r.len + 1) xc, Value.int IntKind.i64 xd] 128) (by omega))).trans (Keeps.alloc _ _ (Obj.cells #[Value.string s, Value.slice A' n' c'] 59) (by simp; omega))); obtain ⟨fn, tmps, assign, body, hy, hR⟩ := hY pre ⟨xd, s, A', n', c'⟩ _ hJ1 hpre; simp only [Handed.args] at hy)
        refine ⟨fun h => (by cases h), hR.mono ?_⟩
        obtain ⟨W1, hW1⟩ : ∃ W, W = (w1.alloc (Obj.cells #[Value.slice (some ⟨b, o, none⟩) (r.len + 1) xc, Value.int IntKind.i64 xd] 128)).alloc (Obj.cells #[Value.string s, Value.slice A' n' c'] 59) := ⟨_, rfl⟩
        have hg4 : W1.heap[w1.heap.size]? = some (Obj.cells #[Value.slice (some ⟨b, o, none⟩) (r.len + 1) xc, Value.int IntKind.i64 xd] 128 (0, 0)) := by rw [hW1]; exact heap_keep (heap_alloc_new w1 _) _
        have hg5 : W1.heap[w1.heap.size + 1]? = some (Obj.cells #[Value.string s, Value.slice A' n' c'] 59 (0, 0)) := by
          rw [hW1]
          have := heap_alloc_new (w1.alloc (Obj.cells #[Value.slice (some ⟨b, o, none⟩) (r.len + 1) xc, Value.int IntKind.i64 xd] 128)) (Obj.cells #[Value.string s, Value.slice A' n' c'] 59)
          simpa using this
        have hSy : Stk W1 W0.heap.size (W0.heap.size + 1) L := by
          rw [hW1]
          exact hS1.keep ((Keeps.alloc _ w1 _ (by omega)).trans (Keeps.alloc (B := B) _ _ _ (by simp; omega)))
        have hbW : Below B wr W1 := by rw [hW1]; exact (hb1.alloc (by omega) _).alloc (by simp; omega) _
        have hsz1 : W1.heap.size = w1.heap.size + 2 := by rw [hW1]; simp
        rw [← hW1]
        clear hW1 hJ1 hy hR
        have Hsz1 := Lib.hid hsz1
        clear hsz1
        rintro e W3 (⟨rfl, hJ3, hk3⟩ | ⟨rfl, hJx3⟩)
        · have hS3 := hSy.keep hk3
          have hle3 : w1.heap.size + 1 < W3.heap.size := by have := Hsz1.out; have := hk3.size; omega
          have h40 : W3.cell? ⟨w1.heap.size, 0, none⟩ = some (Value.slice (some ⟨b, o, none⟩) (r.len + 1) xc) := by rw [cell_of_row W3 _ 0 _ _ _ (hk3.same _ _ hg4 rfl)]; rfl
          have h41 : W3.cell? ⟨w1.heap.size, 1, none⟩ = some (Value.int IntKind.i64 xd) := by rw [cell_of_row W3 _ 1 _ _ _ (hk3.same _ _ hg4 rfl)]; rfl
          have h51 : W3.cell? ⟨w1.heap.size + 1, 1, none⟩ = some (Value.slice A' n' c') := by rw [cell_of_row W3 _ 1 _ _ _ (hk3.same _ _ hg5 rfl)]; rfl
          have hT3 := (hT.keep fun p hp => hbW.cell hp).keep fun p hp => hk3.below.cell hp
          have hy3 := (hyw.keep fun p hp => hbW.cell hp).keep fun p hp => hk3.below.cell hp
          have hz3 := (hz.keep fun p hp => hbW.cell hp).keep fun p hp => hk3.below.cell hp
          clear hg4 hg5 hSy hbW hS1 hg1 hb1 hs1 hc1' hbl hs hc2 hT hyw hz hS hbx hJr
          have hxd : xd ≤ 549755813889 := by simp only [Tr.size] at hd1; omega
          have h1r : (1 : Int) ≤ (r.len : Int) + 1 := by omega
          have hzx : Walks W3 B (if xc = 1 then some ⟨b, o, none⟩ else some ⟨b, o + 2, none⟩) r.len xd r zs1 := by
            by_cases h1 : xc = 1
            · have h0 : r.len = 0 := by omega
              cases r with
              | nil => exact hz3
              | cons _ _ _ => simp [Tr.len] at h0
            · rw [if_neg h1]; exact hz3
          clear hz3
          gi_wp2
          refine wpIn_wide.2 ?_
          go_still_tail 12, (by kernel_rfl)
          change wpList _ _ _ _ _ W3.drew
          generalize (if xc = 1 then some (⟨b, o, none⟩ : Addr) else some ⟨b, o + 2, none⟩) = Ax at hzx ⊢
          go_wp2_with fail
          have hLm : L.length ≤ m := hT3.len
          have hn3 : r.len ≤ xc - 1 := by omega
          have hsize : (Tr.cons s k r).size = k.size + r.size + 1 := rfl
          have hL2 : L.length + 2 ≤ 1099511627776 := by omega
          have Hsize := Lib.hid hsize
          clear hsize
          refine (push_any W0.heap.size (W0.heap.size + 1) W3.heap.size 0 2 2 L [⟨Ax, r.len, xc - 1, xd⟩, ⟨A', n', c', xd + 1⟩] _ (hS3.keep (B := B) ((Keeps.alloc _ W3 _ (by omega)).drew)) rfl ?_ (by omega) (by simp; omega)).mono ?_
          · intro j u hu
            rw [World.cell?_drew, cell_of_row _ _ _ _ _ _ (heap_alloc_new W3 _)]
            rw [← hu]
            simp [jobs, Job.cells]
          rintro e W4 ⟨⟨v, rfl⟩, hS4, hk4⟩
          have hk34 : Keeps (pA kinds) B W3 W4 := ((Keeps.alloc _ W3 _ (by omega)).drew).trans (hk4.less hB)
          have hle4 : W3.heap.size ≤ W4.heap.size := hk34.size
          go_wp2_with fail
          go_roundg (m + 2 * r.size + 1 + 2 * k.size + 1)
          case measure => rw [Hsize.out]; omega
          case rel =>
            refine ⟨_, _, ys1 ++ (zs1 ++ zs), by rw [Hsize.out] at hk; omega, ?_, hS4, hJ _ _ _ hJ3 hk34, by rw [Hx.out, Hys.out]; simp, by omega⟩
            rw [Hsize.out] at hd1
            have hlow : ∀ p : Addr, p.block < B → W4.cell? p = W3.cell? p := fun p hp => hk34.below.cell hp
            have h1 := Todo.cons (x := ⟨Ax, r.len, xc - 1, xd⟩) (hzx.keep hlow) hn3 (by simp only; omega) (by simp only; omega) (hT3.keep hlow)
            have h2 := Todo.cons (x := ⟨A', n', c', xd + 1⟩) (hy3.keep hlow) hn2 hm2 (by simp only; omega) h1
            simpa using h2
        · gi_wp2
          refine bodyPost_ret (results_none rfl _ _ _) rfl ?_
          exact ⟨⟨_, rfl⟩, .inr ⟨_, hpre, hJx3⟩⟩

/-- The value that edges hands out, as a caller takes it. -/
theorem edges_seq (n : Nat) (A : Option Addr) (c : Nat) (t : Tr) (w : World) (h : Holds w w.heap.size A t.len t) (hc : t.len ≤ c) (hm : c ≤ maxLen) (hsz : t.size ≤ 549755813888) :
    ∃ xs : List Handed, xs.map Handed.word = t.flat 1 ∧ ∀ w1, Below w.heap.size w w1 → ∀ gb, w1.cell? ⟨gb, 0, none⟩ = some (.slice A t.len c) → 
      SeqT kinds w.heap.size Fence.wide n Tryz.prog 80 #[.pointer (some ⟨gb, 0, none⟩)] Handed.args xs w1 := by
  obtain ⟨xs, hx⟩ := h.walks 1
  refine ⟨xs, hx.words, fun w1 hb gb hg l J Jx W hW hJ _ hY h0 => ?_⟩
  have hgl := World.block_lt_of_cell? _ _ hg
  have hbW : Below w.heap.size w W := hb.trans (hW.mono hb.size)
  exact edges_in n l gb w.heap.size c A t xs J Jx W hJ hY hbW.size ((hW.cell (p := ⟨gb, 0, none⟩) hgl).trans hg) (hx.keep fun p hp => hbW.cell hp) hc hm hsz h0
end Go.Proofs.YtgefoehpdiiomaaGreatDoor
namespace Go.Proofs.YtgefoehpdiiomaaGreatDoor
open Go.RowKit
set_option maxRecDepth 100000

/-- A digit, a byte, a text as quote writes them. -/
def dig16 (n : Nat) : UInt8 := (UInt8.ofNat (if n < 10 then 48 + n else 87 + n))
def quoB (c : UInt8) : List UInt8 :=
  if c.toNat = 34 ∨ c.toNat = 92 then [92, c] else if c.toNat < 32 ∨ 126 < c.toNat then [92, 120, dig16 (c.toNat / 16), dig16 (c.toNat % 16)] else [c]
def quoL (l : List UInt8) : List UInt8 := l.flatMap quoB
def quo (l : List UInt8) : List UInt8 := [34] ++ quoL l ++ [34]
theorem quoB_le (c : UInt8) : (quoB c).length ≤ 4 := by
  unfold quoB
  split
  · simp
  · split <;> simp
theorem quoL_le (l : List UInt8) : (quoL l).length ≤ 4 * l.length := by
  induction l with
  | nil => exact Nat.le_refl _
  | cons c l ih =>
    have := quoB_le c
    simp only [quoL, List.flatMap_cons, List.length_append, List.length_cons] at ih ⊢
    omega

/-- From w0 to w a row (at A now) was grown: nothing else that lay has turned. -/
structure Grew (w0 w : World) (row : Option Nat) (A : Option Addr) : Prop where
  by_ : w0.grownBy w row
  at_ : ∀ a, A = some a → w0.heap.size ≤ a.block ∨ some a.block = row
theorem Grew.refl (w : World) (A : Option Addr) (n c : Nat) : Grew w w (Value.slice A n c).ownBlock A :=
  ⟨World.grownBy.refl w _, fun a ha => .inr (by subst ha; rfl)⟩
theorem Grew.alloc {w0 w : World} {row : Option Nat} {A : Option Addr} (h : Grew w0 w row A) (o : Obj) : Grew w0 (w.alloc o) row A :=
  ⟨⟨h.by_.os, h.by_.tape, h.by_.output, by simp; exact Nat.le_succ_of_le h.by_.size, fun k hk hn => (Below.heap_alloc w o k (by have := h.by_.size; omega)).trans (h.by_.block k hk hn)⟩, h.at_⟩
theorem Grew.drew {w0 w : World} {row : Option Nat} {A : Option Addr} (h : Grew w0 w row A) : Grew w0 w.drew row A := ⟨⟨h.by_.os, h.by_.tape, h.by_.output, h.by_.size, h.by_.block⟩, h.at_⟩
theorem Grew.step {w0 w w' : World} {row : Option Nat} {A A' : Option Addr} {n c : Nat} (h : Grew w0 w row A) (hg : w.grownBy w' (Value.slice A n c).ownBlock) (hat : ∀ a, A' = some a → a.block = w.heap.size ∨ some a.block = (Value.slice A n c).ownBlock) : Grew w0 w' row A' := by
  have hs := h.by_.size
  refine ⟨⟨hg.os.trans h.by_.os, hg.tape.trans h.by_.tape, hg.output.trans h.by_.output, Nat.le_trans hs hg.size, fun k hk hn => (hg.block k (by omega) (fun e => ?_)).trans (h.by_.block k hk hn)⟩, fun a ha => ?_⟩
  · cases A with
    | none => simp [Value.ownBlock] at e
    | some a =>
      simp only [Value.ownBlock, Option.some.injEq] at e
      rcases h.at_ a rfl with h1 | h1
      · omega
      · exact hn (by rw [e]; exact h1)
  · rcases hat a ha with e | e
    · exact .inl (by omega)
    · cases A with
      | none => simp [Value.ownBlock] at e
      | some a1 =>
        simp only [Value.ownBlock, Option.some.injEq] at e
        rcases h.at_ a1 rfl with h1 | h1
        · exact .inl (by omega)
        · exact .inr (by rw [e]; exact h1)

theorem take_snoc_ (s : ByteArray) (k : Nat) (h : k < s.size) : s.data.toList.take (k + 1) = s.data.toList.take k ++ [s[k]] := by
  rw [List.take_succ_eq_append_getElem (by simpa using h)]; rfl
theorem quoL_snoc (l : List UInt8) (c : UInt8) : quoL (l ++ [c]) = quoL l ++ quoB c := by simp [quoL]

/-- The digits. -/
theorem digits_at (d : Nat) (hd : d < 16) (h : d < (ByteArray.mk #[48, 49, 50, 51, 52, 53, 54, 55, 56, 57, 97, 98, 99, 100, 101, 102]).size) : (ByteArray.mk #[48, 49, 50, 51, 52, 53, 54, 55, 56, 57, 97, 98, 99, 100, 101, 102])[d] = dig16 d := by
  have : d = 0 ∨ d = 1 ∨ d = 2 ∨ d = 3 ∨ d = 4 ∨ d = 5 ∨ d = 6 ∨ d = 7 ∨ d = 8 ∨ d = 9 ∨ d = 10 ∨ d = 11 ∨ d = 12 ∨ d = 13 ∨ d = 14 ∨ d = 15 := by omega
  rcases this with rfl | rfl | rfl | rfl | rfl | rfl | rfl | rfl | rfl | rfl | rfl | rfl | rfl | rfl | rfl | rfl <;> rfl
theorem and_15 (c : Nat) (hc : c < 256) : bits .and .u8 (c : Int) 15 = (c : Int) % 16 := by
  show IntKind.u8.wrap (((BitVec.ofInt 8 c &&& BitVec.ofInt 8 15).toNat : Nat) : Int) = _
  have e : (BitVec.ofInt 8 15).toNat = 2 ^ 4 - 1 := by decide
  have h : ((BitVec.ofInt 8 (c : Int)).toNat : Int) = c := by
    rw [BitVec.toNat_ofInt]
    omega
  rw [BitVec.toNat_and, e, Nat.and_two_pow_sub_one_eq_mod, IntKind.wrap_u8]
  omega

set_option maxHeartbeats 1000000 in
/-- A slice that is full: what is put behind it goes to a new row. -/
theorem run_append_full {w : World} {base n m : Nat} {A : Option Addr} {l l2 : List UInt8} {tx : TypeId} {x : Value} (ty : TypeId) (hs : Sees w w.heap.size A n l) (hx : From Tryz.prog w tx x m l2) (h46 : n + m ≤ 70368744177664) (hm : 0 < m) (hbase : base ≤ w.heap.size) :
    ∃ c' w', (Builtin.append_ #[26, tx] ty #[.slice A n n, x]).run Tryz.prog w = .ok (.slice (some ⟨w.heap.size, 0, none⟩) (n + m) c') w' ∧ Own w' base (some ⟨w.heap.size, 0, none⟩) (n + m) c' (l ++ l2) ∧ w.grownBy w' none := by
  obtain ⟨i, hi, hz, hsz, hb⟩ := info_parts info_u8
  have hzs : (Value.int IntKind.u8 0).cells.size = 1 := rfl
  have hsrc := hx.src
  rw [← hsz] at hsrc
  have hlen := hs.len
  have hlen2 := hx.len
  have hold : (Builtin.firstCells i.size n (.slice A n n)).run Tryz.prog w.drew = .ok (byts l).toArray w.drew := by
    rcases A with _ | a
    · obtain ⟨rfl, rfl⟩ := hs.empty
      exact run_firstCells_none w.drew i.size 0 0 0
    · exact run_firstCells_some w.drew i.size n a n n (byts l) (by rw [byts_length, hsz]; omega) (by simpa using hs.cells)
  have hg : n < n + m := by omega
  have hr := run_append_grow_src (P := Tryz.prog) w 26 tx ty 5 i (.int .u8 0) Tryz.underlying26 hi hz A n n (byts l) hold x m (byts l2) hsrc hg (by omega) (growslice_fits hg (by rw [hb]; omega))
  have hge := grownCap_ge w (n + m) n 5
  have hcm := grownCap_le_maxLen w (n + m) n 5 (by simp only [maxLen]; omega)
  refine ⟨_, _, hr, ⟨⟨by rw [byts_length, List.length_append]; omega, .inr ⟨w.heap.size, _, _, rfl, hbase, heap_alloc_new w.drew _, hge, hcm, ?_, ?_⟩⟩⟩, ⟨rfl, rfl, rfl, by simp, fun k hk _ => heap_alloc_old w.drew _ hk⟩⟩
  · simp only [Array.size_append, List.size_toArray, size_zeroCells, hzs, List.length_append, byts_length]
    omega
  · simp only [Array.toList_append, byts_append]
    rw [List.take_append_of_le_length (by simp [byts_length]; omega), List.take_of_length_le (by simp [byts_length]; omega)]
end Go.Proofs.YtgefoehpdiiomaaGreatDoor
namespace Go.Proofs.YtgefoehpdiiomaaGreatDoor
open Go.RowKit

/-- Text: braces, its edges between; the edges alone. -/
def Tr.body : Tr → List UInt8
  | .nil => []
  | .cons s k .nil => quo s.data.toList ++ [58, 32, 123] ++ k.body ++ [125]
  | .cons s k (.cons s2 k2 r2) => quo s.data.toList ++ [58, 32, 123] ++ k.body ++ [125, 44, 32] ++ (Tr.cons s2 k2 r2).body
def Tr.text (t : Tr) : List UInt8 := [123] ++ t.body ++ [125]

/-- One edge behind those ahead: what is written so far, how many braces stand open. -/
def textStep (st : List UInt8 × Nat) (x : Nat × ByteArray × Nat) : List UInt8 × Nat :=
  ((if x.1 ≤ st.2 then st.1 ++ (List.replicate (st.2 - x.1 + 1) 125 ++ [44, 32]) else st.1) ++ quo x.2.1.data.toList ++ [58, 32, 123], x.1)
def textRun (st : List UInt8 × Nat) (l : List (Nat × ByteArray × Nat)) : List UInt8 × Nat := l.foldl textStep st
theorem textRun_append (st : List UInt8 × Nat) (l m : List (Nat × ByteArray × Nat)) : textRun st (l ++ m) = textRun (textRun st l) m := by simp [textRun]
theorem textRun_one (st : List UInt8 × Nat) (l : List (Nat × ByteArray × Nat)) (x : Nat × ByteArray × Nat) : textRun st (l ++ [x]) = textStep (textRun st l) x := by simp [textRun]
theorem textStep_more (st : List UInt8 × Nat) (x : Nat × ByteArray × Nat) : st.1.length ≤ (textStep st x).1.length := by
  unfold textStep
  simp only [List.length_append]
  split
  · simp only [List.length_append]; omega
  · omega
theorem textRun_more (l : List (Nat × ByteArray × Nat)) : ∀ st, st.1.length ≤ (textRun st l).1.length := by
  induction l with
  | nil => intro st; exact Nat.le_refl _
  | cons x l ih => intro st; exact Nat.le_trans (textStep_more st x) (ih (textStep st x))

/-- Closed down to m open braces. -/
def shutTo (st : List UInt8 × Nat) (m : Nat) : List UInt8 := st.1 ++ List.replicate (st.2 - m) 125
theorem replicate_down {o d : Nat} (h : d ≤ o) (hd : 1 ≤ d) : List.replicate (o - (d - 1)) (125 : UInt8) = List.replicate (o - d) 125 ++ [125] := by
  rw [show o - (d - 1) = (o - d) + 1 by omega, List.replicate_succ']
theorem shut_down {st : List UInt8 × Nat} {d : Nat} (h : d ≤ st.2) (hd : 1 ≤ d) : shutTo st (d - 1) = shutTo st d ++ [125] := by
  unfold shutTo
  rw [replicate_down h hd, List.append_assoc]

theorem text_flat (t : Tr) : ∀ (d : Nat), 1 ≤ d →
    (∀ out, d - 1 ≤ (textRun (out, d - 1) (t.flat d)).2 ∧ shutTo (textRun (out, d - 1) (t.flat d)) (d - 1) = out ++ t.body) ∧
    (∀ out o, d ≤ o → t ≠ .nil → d ≤ (textRun (out, o) (t.flat d)).2 ∧ shutTo (textRun (out, o) (t.flat d)) (d - 1) = shutTo (out, o) (d - 1) ++ [44, 32] ++ t.body) := by
  induction t with
  | nil =>
    intro d hd
    refine ⟨fun out => ⟨Nat.le_refl _, by simp [Tr.flat, textRun, shutTo, Tr.body]⟩, fun out o _ h => absurd rfl h⟩
  | cons s k r ihk ihr =>
    intro d hd
    -- behind the edge itself
    have rest : ∀ pre : List UInt8, d ≤ (textRun (pre ++ quo s.data.toList ++ [58, 32, 123], d) (k.flat (d + 1) ++ r.flat d)).2 ∧
        shutTo (textRun (pre ++ quo s.data.toList ++ [58, 32, 123], d) (k.flat (d + 1) ++ r.flat d)) (d - 1) = pre ++ (Tr.cons s k r).body := by
      intro pre
      obtain ⟨h1, h2⟩ := (ihk (d + 1) (by omega)).1 (pre ++ quo s.data.toList ++ [58, 32, 123])
      simp only [Nat.add_sub_cancel] at h1 h2
      rw [textRun_append]
      generalize textRun (pre ++ quo s.data.toList ++ [58, 32, 123], d) (k.flat (d + 1)) = st at h1 h2 ⊢
      have h3 := shut_down h1 hd
      rw [h2] at h3
      cases r with
      | nil =>
        simp only [Tr.flat, textRun, List.foldl_nil]
        refine ⟨h1, ?_⟩
        rw [h3]
        simp [Tr.body]
      | cons s2 k2 r2 =>
        obtain ⟨h4, h5⟩ := (ihr d hd).2 st.1 st.2 h1 (by intro e; cases e)
        refine ⟨h4, ?_⟩
        rw [show (st.1, st.2) = st from rfl] at h5
        rw [h5, h3]
        simp [Tr.body]
    refine ⟨fun out => ?_, fun out o ho _ => ?_⟩
    · have hs : textRun (out, d - 1) ((Tr.cons s k r).flat d) = textRun (out ++ quo s.data.toList ++ [58, 32, 123], d) (k.flat (d + 1) ++ r.flat d) := by
        simp only [Tr.flat, textRun, List.foldl_cons, textStep]
        rw [if_neg (by omega)]
      rw [hs]
      obtain ⟨h1, h2⟩ := rest out
      exact ⟨by omega, h2⟩
    · have hs : textRun (out, o) ((Tr.cons s k r).flat d) = textRun ((out ++ (List.replicate (o - d + 1) 125 ++ [44, 32])) ++ quo s.data.toList ++ [58, 32, 123], d) (k.flat (d + 1) ++ r.flat d) := by
        simp only [Tr.flat, textRun, List.foldl_cons, textStep]
        rw [if_pos ho]
      rw [hs]
      obtain ⟨h1, h2⟩ := rest (out ++ (List.replicate (o - d + 1) 125 ++ [44, 32]))
      refine ⟨h1, ?_⟩
      rw [h2]
      unfold shutTo
      simp only
      rw [show o - (d - 1) = o - d + 1 by omega]
      simp

/-- The whole. -/
theorem text_run (t : Tr) : (textRun ([123], 0) (t.flat 1)).1 ++ List.replicate ((textRun ([123], 0) (t.flat 1)).2 + 1) 125 = t.text := by
  obtain ⟨h1, h2⟩ := (text_flat t 1 (Nat.le_refl _)).1 [123]
  simp only [Nat.sub_self] at h1 h2
  unfold shutTo at h2
  rw [Nat.sub_zero] at h2
  rw [List.replicate_succ', ← List.append_assoc, h2]
  rfl
theorem quo_le (s : List UInt8) : (quo s).length ≤ 4 * s.length + 2 := by
  have := quoL_le s
  simp only [quo, List.length_append, List.length_cons, List.length_nil]
  omega
theorem body_le : ∀ t : Tr, t.body.length ≤ 4 * t.bulk + 8 * t.size
  | .nil => by simp [Tr.body]
  | .cons s k .nil => by
    have h1 := quo_le s.data.toList
    have h2 := body_le k
    simp only [Tr.body, Tr.bulk, Tr.size, List.length_append, List.length_cons, List.length_nil, Array.length_toList] at h1 ⊢
    have : s.data.size = s.size := rfl
    omega
  | .cons s k (.cons s2 k2 r2) => by
    have h1 := quo_le s.data.toList
    have h2 := body_le k
    have h3 := body_le (.cons s2 k2 r2)
    simp only [Tr.body, Tr.bulk, Tr.size, List.length_append, List.length_cons, List.length_nil, Array.length_toList] at h1 h3 ⊢
    have : s.data.size = s.size := rfl
    omega
theorem flat_deep (t : Tr) : ∀ d, ∀ x ∈ t.flat d, d ≤ x.1 ∧ x.1 ≤ d + t.size ∧ x.2.1.size ≤ t.bulk := by
  induction t with
  | nil => intro d x hx; cases hx
  | cons s k r ihk ihr =>
    intro d x hx
    simp only [Tr.flat, List.mem_cons, List.mem_append] at hx
    simp only [Tr.size, Tr.bulk]
    rcases hx with rfl | hx | hx
    · simp only; omega
    · have := ihk _ x hx; omega
    · have := ihr _ x hx; omega
end Go.Proofs.YtgefoehpdiiomaaGreatDoor
namespace Go.Proofs.YtgefoehpdiiomaaGreatDoor
open Go.RowKit

variable {P : Program} {l n : Nat}

theorem rows_in {row : String} {args : Array Value} {w : World} {R : Value → World → Prop} (h : Rows P row args w R) : RowsIn (Fence.wide.inRound l) n P row args w R := by
  intro c cs _
  obtain ⟨v, w', hr, hs⟩ := h c cs
  exact ⟨v, w', hr, stepsIn_wide.2 hs⟩

def noDefer (o : Oper) : Bool :=
  match o.op with
  | .defer _ => false
  | _ => true

theorem oper_in {o : Oper} {a : Act} {w : World} {K : Act → World → Prop} {Q : Exit → Act → World → Prop} (hd : noDefer o = true) (h : o.wp P a w K Q) : o.wpIn (Fence.wide.inRound l) n P a w K Q := by
  unfold Oper.wp at h
  unfold Oper.wpIn
  refine ⟨fun _ _ => trivial, ?_⟩
  rw [Oper.semAt_plain _ _ _ (by intro c hc; unfold noDefer at hd; rw [hc] at hd; cases hd)]
  generalize (execOp a.eval o).run P w = r at h ⊢
  cases r with
  | ok x w' =>
    cases x with
    | value v => exact h
    | skip => exact h
    | defer d => exact h
    | enter f args => exact ⟨fun h => (by cases h), CallsIn.inRound l (callsIn_wide.2 h)⟩
    | row r args => exact ⟨fun h => (by cases h), rows_in h⟩
    | _ => exact h.elim
  | halt hh w' =>
    cases hh <;> first | exact h | exact h.elim

theorem wpOp_in {ops : Array Oper} {Q : Exit → Act → World → Prop} {i : Nat} {K : Act → World → Prop} {a : Act} {w : World} (hd : ops.all noDefer = true) (hQ : ¬ LetsOut Q) (h : wpOp P ops Q i K a w) : wpOpIn (Fence.wide.inRound l) n P ops Q i K a w := by
  unfold wpOp at h
  unfold wpOpIn
  cases ho : ops[i]? with
  | none => rw [ho] at h; exact h
  | some o =>
    rw [ho] at h
    simp only at h ⊢
    have hdo : noDefer o = true := by
      obtain ⟨hlt, e⟩ := Array.getElem?_eq_some_iff.1 ho
      rw [← e]
      exact (Array.all_eq_true.1 hd) i hlt
    split
    · rename_i hw
      rw [if_pos hw] at h
      rcases h with h | ⟨_, h⟩
      · exact oper_in hdo h
      · exact absurd h hQ
    · rename_i hw
      rw [if_neg hw] at h
      exact ⟨fun _ _ => trivial, h⟩

theorem wpAny_in {ops : Array Oper} {md : Region.Mode} {Q : Exit → Act → World → Prop} (hd : ops.all noDefer = true) (hQ : ¬ LetsOut Q) (fuel : Nat) : ∀ {listed : Array Bool} {a : Act} {w : World},
    wpAny P md ops Q fuel listed a w → wpAnyIn (Fence.wide.inRound l) n P md ops Q fuel listed a w := by
  induction fuel with
  | zero => exact fun h => h
  | succ fuel ih => exact fun h => ⟨h.1, fun i hi => wpOp_in hd hQ (wpOp_mono (fun a' w' h' => ih h') (h.2 i hi))⟩

theorem no_out {K : Act → World → Prop} : ¬ LetsOut (Exit.then K fun _ _ _ => False) := fun ⟨_, _, h⟩ => h

theorem round_any {id : Nat} {ops : Array Oper} {K : Act → World → Prop} {Q : Exit → Act → World → Prop} {a : Act} {w : World} (hd : ops.all noDefer = true) (hm : P.follows .mixedOrders = true)
    (h : wpAny P .any ops (Exit.then K fun _ _ _ => False) ops.size (Array.replicate ops.size false) a w.drew) : (Code.region id ops true).wpIn (Fence.wide.inRound l) n P (Exit.then K Q) a w :=
  wpIn_shut (wpIn_region_any hm (wpAny_in hd no_out _ h))

/-- Where the region is its block's last: what is asked of another exit than its end is not asked. -/
def onlyN (Q : Exit → Act → World → Prop) : Exit → Act → World → Prop
  | .normal, a, w => Q .normal a w
  | _, _, _ => False
theorem onlyN_out {Q : Exit → Act → World → Prop} : ¬ LetsOut (onlyN Q) := fun ⟨_, _, h⟩ => h
theorem round_last {id : Nat} {ops : Array Oper} {Q : Exit → Act → World → Prop} {a : Act} {w : World} (hd : ops.all noDefer = true) (hm : P.follows .mixedOrders = true)
    (h : wpAny P .any ops (onlyN Q) ops.size (Array.replicate ops.size false) a w.drew) : (Code.region id ops true).wpIn (Fence.wide.inRound l) n P Q a w :=
  wpIn_mono (wpIn_region_any hm (wpAny_in hd onlyN_out _ h)) fun e _ _ hh => by cases e <;> first | exact hh | exact hh.elim

/-- The beginning: what is held is shown of the world behind the draw. -/
theorem round_held {id : Nat} {ops : Array Oper} {S : World → Prop} {K : Act → World → Prop} {Q : Exit → Act → World → Prop} {a : Act} {w : World} (hd : ops.all noDefer = true) (hm : P.follows .mixedOrders = true) (hS : S w.drew)
    (h : S w.drew → wpAnyH P .any ops (Exit.then K fun _ _ _ => False) S ops.size (Array.replicate ops.size false) a w.drew) : (Code.region id ops true).wpIn (Fence.wide.inRound l) n P (Exit.then K Q) a w :=
  wpIn_shut (wpIn_region_any hm (wpAny_in hd no_out _ (wpAny_of_held _ _ _ _ (h hS))))
end Go.Proofs.YtgefoehpdiiomaaGreatDoor
namespace Go.Proofs.YtgefoehpdiiomaaGreatDoor
open Go.RowKit Go.Shelf
set_option maxRecDepth 100000
attribute [local go_sem] Oper.semAt_some

/-- What Text's own cells hold, these edges having come: the bytes are a row of its own; ahead of the first edge they are the brace that the text began with. -/
def TextI (B g1 g2 : Nat) (w0 : World) (pre : List Handed) (W : World) : Prop :=
  (∃ A N c, W.heap[g1]? = some (.cells #[.slice A N c] 26 (0, 0)) ∧
    (Own W B A N c (textRun ([123], 0) (pre.map Handed.word)).1 ∨ (pre = [] ∧ A = some ⟨B, 0, none⟩ ∧ N = 1 ∧ c = 1 ∧ W.heap[B]? = some (.cells #[.int .u8 123] 5 (1, 2))))) ∧
  W.heap[g2]? = some (.cells #[.int .i64 ((textRun ([123], 0) (pre.map Handed.word)).2 : Nat)] 3 (0, 0)) ∧ Below B w0 W

theorem Own.held {W W' : World} {B base n c : Nat} {A : Option Addr} {l : List UInt8} (h : Own W base A n c l) (hk : Keeps (pI kinds) B W W') : Own W' base A n c l := by
  refine ⟨h.row.1, ?_⟩
  rcases h.row.2 with e | ⟨g1, cap, cur, e, hg, hh, rest⟩
  · exact .inl e
  · exact .inr ⟨g1, cap, cur, e, hg, hk.same _ _ hh rfl, rest⟩
theorem TextI.bears (B g1 g2 : Nat) (w0 : World) : Bears kinds B (TextI B g1 g2 w0) := by
  intro pre W W' ⟨⟨A, N, c, hb, ho⟩, h2, hB⟩ hk
  refine ⟨⟨A, N, c, hk.same _ _ hb rfl, ?_⟩, hk.same _ _ h2 rfl, hB.trans hk.below⟩
  rcases ho with ho | ⟨h1, h2, h3, h4, h5⟩
  · exact .inl (ho.held hk)
  · exact .inr ⟨h1, h2, h3, h4, hk.same _ _ h5 rfl⟩

/-- A row of bytes lies in no block of another kind. -/
theorem Own.ne {W : World} {base n c g : Nat} {A : Option Addr} {l : List UInt8} {cs : Array Value} {e : TypeId} {fr : Nat × Nat} (h : Own W base A n c l) (hg : W.heap[g]? = some (.cells cs e fr)) (he : e ≠ 5) : some g ≠ (Value.slice A n c).ownBlock := by
  intro e1
  rcases h.row.2 with ⟨e2, _⟩ | ⟨g1, cap, cur, e2, _, hh, _⟩
  · rw [e2] at e1; cases e1
  · rw [e2] at e1
    injection e1 with e1
    simp only at e1
    subst e1
    rw [hh] at hg
    injection hg with hg
    injection hg with _ hg
    exact he hg.symm
theorem Own.tag {W : World} {base n c : Nat} {A : Option Addr} {l : List UInt8} (h : Own W base A n c l) : ∀ g, (Value.slice A n c).ownBlock = some g → base ≤ g ∧ ∃ cs fr, W.heap[g]? = some (.cells cs 5 fr) := by
  intro g hg
  refine ⟨(h.lt g hg).1, ?_⟩
  rcases h.row.2 with ⟨e2, _⟩ | ⟨g1, cap, cur, e2, _, hh, _⟩
  · rw [e2] at hg; cases hg
  · rw [e2] at hg
    injection hg with hg
    simp only at hg
    subst hg
    exact ⟨_, _, hh⟩
/-- A row of bytes was grown: whatever is of another kind lies as it lay. -/
theorem Grew.keeps {W W' : World} {B : Nat} {row : Option Nat} {A : Option Addr} (h : Grew W W' row A) (hB : B ≤ W.heap.size) (hrow : ∀ g, row = some g → B ≤ g ∧ ∃ cs fr, W.heap[g]? = some (.cells cs 5 fr)) : Keeps (pB kinds) B W W' :=
  Keeps.grown h.by_ hB (fun g hg => ⟨(hrow g hg).1, fun o ho => by
    obtain ⟨cs, fr, hh⟩ := (hrow g hg).2
    rw [hh] at ho
    cases ho
    rfl⟩)
theorem Grew.block {W W' : World} {row : Option Nat} {A : Option Addr} (h : Grew W W' row A) {g : Nat} {o : Obj} (hg : W.heap[g]? = some o) (hne : some g ≠ row) : W'.heap[g]? = some o :=
  (h.by_.block g (Array.getElem?_eq_some_iff.1 hg).1 hne).trans hg
theorem Own.set {W : World} {base n c g : Nat} {A : Option Addr} {l : List UInt8} (h : Own W base A n c l) (hne : some g ≠ (Value.slice A n c).ownBlock) (v : Value) : Own (W.setCell ⟨g, 0, none⟩ v) base A n c l :=
  ⟨h.row.kept (grown_set W ⟨g, 0, none⟩ v) (.inr (fun e => hne e.symm))⟩

/-- Within a round: what has been kept since it began; the boxes; the row that is being grown. -/
structure Mid (B g1 g2 : Nat) (W2 w : World) (v : Value) (o : Nat) (A : Option Addr) (n c : Nat) (out : List UInt8) : Prop where
  keeps : Keeps (pB kinds) B W2 w
  box1 : w.heap[g1]? = some (.cells #[v] 26 (0, 0))
  box2 : w.heap[g2]? = some (.cells #[.int .i64 (o : Nat)] 3 (0, 0))
  own : Own w B A n c out
  le : B ≤ w.heap.size ∧ B ≤ g1 ∧ B ≤ g2
section
variable {B g1 g2 o n c n' c' : Nat} {W2 w w' : World} {v : Value} {A A' : Option Addr} {out out' : List UInt8}
theorem Mid.new (h : Mid B g1 g2 W2 w v o A n c out) (hb : Below w.heap.size w w') : Mid B g1 g2 W2 w' v o A n c out :=
  ⟨h.keeps.trans (Keeps.new hb h.le.1), (hb.block _ (Array.getElem?_eq_some_iff.1 h.box1).1).trans h.box1, (hb.block _ (Array.getElem?_eq_some_iff.1 h.box2).1).trans h.box2, h.own.keep hb, ⟨Nat.le_trans h.le.1 hb.size, h.le.2⟩⟩
theorem Mid.drew (h : Mid B g1 g2 W2 w v o A n c out) : Mid B g1 g2 W2 w.drew v o A n c out := ⟨h.keeps.drew, h.box1, h.box2, h.own.drew, h.le⟩
theorem Mid.grow (h : Mid B g1 g2 W2 w v o A n c out) (hg : w.grownBy w' (Value.slice A n c).ownBlock) (ho : Own w' B A' n' c' out') : Mid B g1 g2 W2 w' v o A' n' c' out' :=
  ⟨h.keeps.trans (Keeps.grown hg h.le.1 (fun g hh => ⟨(h.own.tag g hh).1, fun o' ho' => by
    obtain ⟨cs, fr, hx⟩ := (h.own.tag g hh).2
    rw [hx] at ho'
    cases ho'
    rfl⟩)), (hg.block _ (Array.getElem?_eq_some_iff.1 h.box1).1 (h.own.ne h.box1 (by decide))).trans h.box1, (hg.block _ (Array.getElem?_eq_some_iff.1 h.box2).1 (h.own.ne h.box2 (by decide))).trans h.box2, ho, ⟨Nat.le_trans h.le.1 hg.size, h.le.2⟩⟩
theorem Mid.grew (h : Mid B g1 g2 W2 w v o A n c out) (hg : Grew w w' (Value.slice A n c).ownBlock A') (ho : Own w' B A' n' c' out') : Mid B g1 g2 W2 w' v o A' n' c' out' := h.grow hg.by_ ho
theorem Mid.store1 (h : Mid B g1 g2 W2 w v o A n c out) (hne : g1 ≠ g2) (u : Value) : Mid B g1 g2 W2 (w.setCell ⟨g1, 0, none⟩ u) u o A n c out :=
  ⟨h.keeps.trans (Keeps.setCell (a := ⟨g1, 0, none⟩) w u h.box1 rfl h.le.2.1), box_set h.box1, heap_far (a := ⟨g1, 0, none⟩) h.box2 hne.symm _, h.own.set (h.own.ne h.box1 (by decide)) _, ⟨by simp [World.setCell]; exact h.le.1, h.le.2⟩⟩
theorem Mid.store2 (h : Mid B g1 g2 W2 w v o A n c out) (hne : g1 ≠ g2) (o' : Nat) : Mid B g1 g2 W2 (w.setCell ⟨g2, 0, none⟩ (.int .i64 (o' : Nat))) v o' A n c out :=
  ⟨h.keeps.trans (Keeps.setCell (a := ⟨g2, 0, none⟩) w _ h.box2 rfl h.le.2.2), heap_far (a := ⟨g2, 0, none⟩) h.box1 hne _, box_set h.box2, h.own.set (h.own.ne h.box2 (by decide)) _, ⟨by simp [World.setCell]; exact h.le.1, h.le.2⟩⟩
theorem Mid.start {row : Option Nat} (hb1 : w.heap[g1]? = some (.cells #[v] 26 (0, 0))) (hb2 : w.heap[g2]? = some (.cells #[.int .i64 (o : Nat)] 3 (0, 0))) (hle : B ≤ w.heap.size ∧ B ≤ g1 ∧ B ≤ g2)
    (hrow : ∀ g, row = some g → B ≤ g ∧ ∃ cs fr, w.heap[g]? = some (.cells cs 5 fr)) (hg : Grew w w' row A') (ho : Own w' B A' n' c' out') : Mid B g1 g2 w w' v o A' n' c' out' := by
  have ne : ∀ {g : Nat} {cs : Array Value} {e : TypeId} {fr : Nat × Nat}, w.heap[g]? = some (.cells cs e fr) → e ≠ 5 → some g ≠ row := by
    intro g cs e fr h he e1
    obtain ⟨cs', fr', h'⟩ := (hrow g e1.symm).2
    rw [h] at h'
    injection h' with h'
    injection h' with _ h'
    exact he h'
  exact ⟨hg.keeps hle.1 hrow, hg.block hb1 (ne hb1 (by decide)), hg.block hb2 (ne hb2 (by decide)), ho, ⟨Nat.le_trans hle.1 hg.by_.size, hle.2⟩⟩
theorem Mid.cell1 (h : Mid B g1 g2 W2 w v o A n c out) : w.cell? ⟨g1, 0, none⟩ = some v ∧ w.frozen? ⟨g1, 0, none⟩ = false ∧ g1 < w.heap.size :=
  ⟨by rw [cell_of_row w _ 0 _ _ _ h.box1]; rfl, by simp [World.frozen?, h.box1], (Array.getElem?_eq_some_iff.1 h.box1).1⟩
theorem Mid.cell2 (h : Mid B g1 g2 W2 w v o A n c out) : w.cell? ⟨g2, 0, none⟩ = some (.int .i64 (o : Nat)) ∧ w.frozen? ⟨g2, 0, none⟩ = false ∧ g2 < w.heap.size :=
  ⟨by rw [cell_of_row w _ 0 _ _ _ h.box2]; rfl, by simp [World.frozen?, h.box2], (Array.getElem?_eq_some_iff.1 h.box2).1⟩
/-- A round's end. -/
theorem Mid.text {w0 : World} {ps : List Handed} (h : Mid B g1 g2 W2 w (.slice A n c) o A n c out) (hb : Below B w0 W2) (hr : textRun ([123], 0) (ps.map Handed.word) = (out, o)) : Keeps (pB kinds) B W2 w ∧ TextI B g1 g2 w0 ps w :=
  ⟨h.keeps, ⟨A, n, c, h.box1, .inl (by rw [hr]; exact h.own)⟩, by rw [hr]; exact h.box2, hb.trans h.keeps.below⟩
end

end Go.Proofs.YtgefoehpdiiomaaGreatDoor
