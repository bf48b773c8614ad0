/- The text of a tree: as the document has it; and as a row of edges makes it, one by one. No conditions. · A region that draws its order, in a round of a range over a function: it goes as it goes everywhere. Conditions: none of its operations is a defer statement. · tree.Text: the document's text of a tree. Conditions: edges, names' bytes below 2^36. · tree.Check: the first fault of a tree. Conditions: edges below 2^34, names below 2^47 bytes. · The reference's checker: it goes through a tree level by level. Conditions: fewer than 2^47 edges beside one another. -/
import Derived.Test.YtapgaglkkgbgkaaGreatDoorMwWords
import Derived.Test.YtapgaglkkgbgkaaGreatDoorMwClHold
import Derived.Test.YtapgaglkkgbgkaaGreatDoorMwLists
import Derived.Deep.RegionHeld
import Derived.OwnWalkIn
import Derived.Test.YtapgaglkkgbgkaaGreatDoorShelf
import Derived.Lib.SlBytesConst
import Derived.IntWalk
import Derived.Deep.RegionWith
import Derived.Deep.QuietTactic
import Derived.BigQuiet
namespace Go.Proofs.YtapgaglkkgbgkaaGreatDoor
open Go.RowKit

def Tr.body : Tr → List UInt8
  | .nil => []
  | .cons s k .nil => quo s.data.toList ++ [58, 32, 123] ++ k.body ++ [125]
  | .cons s k (.cons s2 k2 r2) => quo s.data.toList ++ [58, 32, 123] ++ k.body ++ [125, 44, 32] ++ (Tr.cons s2 k2 r2).body
def Tr.text (t : Tr) : List UInt8 := [123] ++ t.body ++ [125]

def textStep (st : List UInt8 × Nat) (x : Nat × ByteArray × Nat) : List UInt8 × Nat :=
  ((if x.1 ≤ st.2 then st.1 ++ (List.replicate (st.2 - x.1 + 1) 125 ++ [44, 32]) else st.1) ++ quo x.2.1.data.toList ++ [58, 32, 123], x.1)
def textRun (st : List UInt8 × Nat) (l : List (Nat × ByteArray × Nat)) : List UInt8 × Nat := l.foldl textStep st
end Go.Proofs.YtapgaglkkgbgkaaGreatDoor
namespace Go.Proofs.YtapgaglkkgbgkaaGreatDoor
open Go.RowKit

variable {P : Program} {l n : Nat}

end Go.Proofs.YtapgaglkkgbgkaaGreatDoor
namespace Go.Proofs.YtapgaglkkgbgkaaGreatDoor
open Go.RowKit Go.Shelf
set_option maxRecDepth 100000
attribute [local go_sem] Oper.semAt_some

def TextI (B g1 g2 : Nat) (w0 : World) (pre : List Handed) (W : World) : Prop :=
  (∃ A N c, W.heap[g1]? = some (.cells #[.slice A N c] 26 (0, 0)) ∧
    (Own W B A N c (textRun ([123], 0) (pre.map Handed.word)).1 ∨ (pre = [] ∧ A = some ⟨B, 0, none⟩ ∧ N = 1 ∧ c = 1 ∧ W.heap[B]? = some (.cells #[.int .u8 123] 5 (1, 2))))) ∧
  W.heap[g2]? = some (.cells #[.int .i64 ((textRun ([123], 0) (pre.map Handed.word)).2 : Nat)] 3 (0, 0)) ∧ Below B w0 W

theorem Own.held {W W' : World} {B base n c : Nat} {A : Option Addr} {l : List UInt8} (h : Own W base A n c l) (hk : Keeps (pI kinds) B W W') : Own W' base A n c l := by
  refine ⟨h.row.1, ?_⟩
  rcases h.row.2 with e | ⟨g1, cap, cur, e, hg, hh, rest⟩
  · exact .inl e
  · exact .inr ⟨g1, cap, cur, e, hg, hk.same _ _ hh rfl, rest⟩
theorem TextI.bears (B g1 g2 : Nat) (w0 : World) : Bears kinds B (TextI B g1 g2 w0) := by
  intro pre W W' ⟨⟨A, N, c, hb, ho⟩, h2, hB⟩ hk
  refine ⟨⟨A, N, c, hk.same _ _ hb rfl, ?_⟩, hk.same _ _ h2 rfl, hB.trans hk.below⟩
  rcases ho with ho | ⟨h1, h2, h3, h4, h5⟩
  · exact .inl (ho.held hk)
  · exact .inr ⟨h1, h2, h3, h4, hk.same _ _ h5 rfl⟩

theorem Own.ne {W : World} {base n c g : Nat} {A : Option Addr} {l : List UInt8} {cs : Array Value} {e : TypeId} {fr : Nat × Nat} (h : Own W base A n c l) (hg : W.heap[g]? = some (.cells cs e fr)) (he : e ≠ 5) : some g ≠ (Value.slice A n c).ownBlock := by
  intro e1
  rcases h.row.2 with ⟨e2, _⟩ | ⟨g1, cap, cur, e2, _, hh, _⟩
  · rw [e2] at e1; cases e1
  · rw [e2] at e1
    injection e1 with e1
    simp only at e1
    subst e1
    rw [hh] at hg
    injection hg with hg
    injection hg with _ hg
    exact he hg.symm
theorem Own.tag {W : World} {base n c : Nat} {A : Option Addr} {l : List UInt8} (h : Own W base A n c l) : ∀ g, (Value.slice A n c).ownBlock = some g → base ≤ g ∧ ∃ cs fr, W.heap[g]? = some (.cells cs 5 fr) := by
  intro g hg
  refine ⟨(h.lt g hg).1, ?_⟩
  rcases h.row.2 with ⟨e2, _⟩ | ⟨g1, cap, cur, e2, _, hh, _⟩
  · rw [e2] at hg; cases hg
  · rw [e2] at hg
    injection hg with hg
    simp only at hg
    subst hg
    exact ⟨_, _, hh⟩
theorem Grew.keeps {W W' : World} {B : Nat} {row : Option Nat} {A : Option Addr} (h : Grew W W' row A) (hB : B ≤ W.heap.size) (hrow : ∀ g, row = some g → B ≤ g ∧ ∃ cs fr, W.heap[g]? = some (.cells cs 5 fr)) : Keeps (pB kinds) B W W' :=
  Keeps.grown h.by_ hB (fun g hg => ⟨(hrow g hg).1, fun o ho => by
    obtain ⟨cs, fr, hh⟩ := (hrow g hg).2
    rw [hh] at ho
    cases ho
    rfl⟩)
theorem Grew.block {W W' : World} {row : Option Nat} {A : Option Addr} (h : Grew W W' row A) {g : Nat} {o : Obj} (hg : W.heap[g]? = some o) (hne : some g ≠ row) : W'.heap[g]? = some o :=
  (h.by_.block g (Array.getElem?_eq_some_iff.1 hg).1 hne).trans hg
theorem Own.set {W : World} {base n c g : Nat} {A : Option Addr} {l : List UInt8} (h : Own W base A n c l) (hne : some g ≠ (Value.slice A n c).ownBlock) (v : Value) : Own (W.setCell ⟨g, 0, none⟩ v) base A n c l :=
  ⟨h.row.kept (grown_set W ⟨g, 0, none⟩ v) (.inr (fun e => hne e.symm))⟩

structure Mid (B g1 g2 : Nat) (W2 w : World) (v : Value) (o : Nat) (A : Option Addr) (n c : Nat) (out : List UInt8) : Prop where
  keeps : Keeps (pB kinds) B W2 w
  box1 : w.heap[g1]? = some (.cells #[v] 26 (0, 0))
  box2 : w.heap[g2]? = some (.cells #[.int .i64 (o : Nat)] 3 (0, 0))
  own : Own w B A n c out
  le : B ≤ w.heap.size ∧ B ≤ g1 ∧ B ≤ g2
section
variable {B g1 g2 o n c n' c' : Nat} {W2 w w' : World} {v : Value} {A A' : Option Addr} {out out' : List UInt8}
theorem Mid.new (h : Mid B g1 g2 W2 w v o A n c out) (hb : Below w.heap.size w w') : Mid B g1 g2 W2 w' v o A n c out :=
  ⟨h.keeps.trans (Keeps.new hb h.le.1), (hb.block _ (Array.getElem?_eq_some_iff.1 h.box1).1).trans h.box1, (hb.block _ (Array.getElem?_eq_some_iff.1 h.box2).1).trans h.box2, h.own.keep hb, ⟨Nat.le_trans h.le.1 hb.size, h.le.2⟩⟩
theorem Mid.drew (h : Mid B g1 g2 W2 w v o A n c out) : Mid B g1 g2 W2 w.drew v o A n c out := ⟨h.keeps.drew, h.box1, h.box2, h.own.drew, h.le⟩
theorem Mid.grow (h : Mid B g1 g2 W2 w v o A n c out) (hg : w.grownBy w' (Value.slice A n c).ownBlock) (ho : Own w' B A' n' c' out') : Mid B g1 g2 W2 w' v o A' n' c' out' :=
  ⟨h.keeps.trans (Keeps.grown hg h.le.1 (fun g hh => ⟨(h.own.tag g hh).1, fun o' ho' => by
    obtain ⟨cs, fr, hx⟩ := (h.own.tag g hh).2
    rw [hx] at ho'
    cases ho'
    rfl⟩)), (hg.block _ (Array.getElem?_eq_some_iff.1 h.box1).1 (h.own.ne h.box1 (by decide))).trans h.box1, (hg.block _ (Array.getElem?_eq_some_iff.1 h.box2).1 (h.own.ne h.box2 (by decide))).trans h.box2, ho, ⟨Nat.le_trans h.le.1 hg.size, h.le.2⟩⟩
theorem Mid.start {row : Option Nat} (hb1 : w.heap[g1]? = some (.cells #[v] 26 (0, 0))) (hb2 : w.heap[g2]? = some (.cells #[.int .i64 (o : Nat)] 3 (0, 0))) (hle : B ≤ w.heap.size ∧ B ≤ g1 ∧ B ≤ g2)
    (hrow : ∀ g, row = some g → B ≤ g ∧ ∃ cs fr, w.heap[g]? = some (.cells cs 5 fr)) (hg : Grew w w' row A') (ho : Own w' B A' n' c' out') : Mid B g1 g2 w w' v o A' n' c' out' := by
  have ne : ∀ {g : Nat} {cs : Array Value} {e : TypeId} {fr : Nat × Nat}, w.heap[g]? = some (.cells cs e fr) → e ≠ 5 → some g ≠ row := by
    intro g cs e fr h he e1
    obtain ⟨cs', fr', h'⟩ := (hrow g e1.symm).2
    rw [h] at h'
    injection h' with h'
    injection h' with _ h'
    exact he h'
  exact ⟨hg.keeps hle.1 hrow, hg.block hb1 (ne hb1 (by decide)), hg.block hb2 (ne hb2 (by decide)), ho, ⟨Nat.le_trans hle.1 hg.by_.size, hle.2⟩⟩
theorem Mid.text {w0 : World} {ps : List Handed} (h : Mid B g1 g2 W2 w (.slice A n c) o A n c out) (hb : Below B w0 W2) (hr : textRun ([123], 0) (ps.map Handed.word) = (out, o)) : Keeps (pB kinds) B W2 w ∧ TextI B g1 g2 w0 ps w :=
  ⟨h.keeps, ⟨A, n, c, h.box1, .inl (by rw [hr]; exact h.own)⟩, by rw [hr]; exact h.box2, hb.trans h.keeps.below⟩
end

end Go.Proofs.YtapgaglkkgbgkaaGreatDoor
namespace Go.Proofs.YtapgaglkkgbgkaaGreatDoor.Jd
open Go.RowKit Go.Shelf
set_option maxRecDepth 100000
attribute [local go_sem] Oper.semAt_some

def Tr.Nm : Tr → Prop
  | .nil => True
  | .cons s k r => s.size ≤ 140737488351232 ∧ Tr.Nm k ∧ Tr.Nm r
theorem flat_nm : ∀ (t : Tr) (d : Nat) (x : Nat × ByteArray × Nat), Tr.Nm t → x ∈ t.flat d → x.2.1.size ≤ 140737488351232
  | .nil, _, _, _, h => by cases h
  | .cons s k r, d, x, ⟨h1, h2, h3⟩, h => by
    simp only [Tr.flat, List.mem_cons, List.mem_append] at h
    rcases h with rfl | h | h
    · exact h1
    · exact flat_nm k _ x h2 h
    · exact flat_nm r _ x h3 h

section
variable {W W' : World} {B b o n c : Nat} {E : TypeId} {cur : Array Value} {L : List ByteArray} {A : Option Addr}
theorem Jdg.keeps (h : Jdg W B b o E cur n L A c) (hE : kinds E = false) (hk : Keeps (pI kinds) B W W') : Jdg W' B b o E cur n L A c := by
  refine ⟨hk.same _ _ h.heap (by simp [pI, hE]), h.told, h.names, ⟨h.row.1, ?_⟩, h.far, Nat.le_trans h.le hk.size⟩
  rcases h.row.2 with e | ⟨g1, cap, cu, e, hg, hh, rest⟩
  · exact .inl e
  · exact .inr ⟨g1, cap, cu, e, hg, hk.same _ _ hh rfl, rest⟩
theorem Jdg.chg (h : Jdg W B b o E cur n L A c) (hE : kinds E = false) (hb : B ≤ b) (hc : Chg b (Value.slice A L.length c).ownBlock W W') : Keeps (pB kinds) B W W' := by
  have hrow := h.row.lt
  refine ⟨hc.os, hc.tape, hc.output, hc.size, fun k hk => hc.block k (Nat.lt_of_lt_of_le hk h.le) (by omega) (fun e => by have := (hrow k e.symm).1; omega), fun k ob hk hp => ?_⟩
  refine (hc.block k (Array.getElem?_eq_some_iff.1 hk).1 (fun e => ?_) (fun e => ?_)).trans hk
  · subst e
    rw [h.heap] at hk
    cases hk
    simp [pB, hE] at hp
  · rcases h.row.2 with ⟨e1, _⟩ | ⟨g1, cap, cu, e1, hg, hh, _⟩
    · rw [e1] at e; cases e
    · rw [e1] at e
      injection e with e
      subst e
      rw [hh] at hk
      cases hk
      simp [pB] at hp
      exact absurd hp (by decide)
theorem Jdg.ne (h : Jdg W B b o E cur n L A c) {g : Nat} {cs : Array Value} {e : TypeId} {fr : Nat × Nat} (hg : W.heap[g]? = some (.cells cs e fr)) (he : e ≠ 9) : some g ≠ (Value.slice A L.length c).ownBlock := by
  intro e1
  rcases h.row.2 with ⟨e2, _⟩ | ⟨g1, cap, cu, e2, _, hh, _⟩
  · rw [e2] at e1; cases e1
  · rw [e2] at e1
    injection e1 with e1
    simp only at e1
    subst e1
    rw [hh] at hg
    injection hg with hg
    injection hg with _ hg
    exact he hg.symm
end
theorem judgeRun_ok {n : Nat} {L : List ByteArray} {x : Nat × ByteArray × Nat} {r : List (Nat × ByteArray × Nat)} (h : judgeE n L x.1 x.2.1 = 0) : judgeRun n L (x :: r) = judgeRun (n + 1) (judgeL L x.1 x.2.1) r := if_pos h
theorem judgeRun_no {n : Nat} {L : List ByteArray} {x : Nat × ByteArray × Nat} {r : List (Nat × ByteArray × Nat)} (h : ¬ judgeE n L x.1 x.2.1 = 0) : judgeRun n L (x :: r) = judgeE n L x.1 x.2.1 := if_neg h

def ChkI (B g gr : Nat) (t : Tr) (w0 : World) (pre : List Handed) (W : World) : Prop :=
  (∃ cur L A c rest, Jdg W B g 0 101 cur pre.length L A c ∧ pre.map Handed.word ++ rest = t.flat 1 ∧ judgeRun pre.length L rest = t.fault ∧ Smooth L.length rest ∧ pre.length ≤ 400) ∧
  W.heap[gr]? = some (.cells #[.int .i64 0] 31 (0, 0)) ∧ Below B w0 W
def ChkX (B gr : Nat) (t : Tr) (w0 : World) (c : Code) (_ : List Handed) (W : World) : Prop :=
  c = .ret ∧ W.heap[gr]? = some (.cells #[.int .i64 (t.fault : Nat)] 31 (0, 0)) ∧ Below B w0 W
theorem ChkI.bears (B g gr : Nat) (t : Tr) (w0 : World) : Bears kinds B (ChkI B g gr t w0) := by
  rintro pre W W' ⟨⟨cur, L, A, c, rest, h1, h2⟩, h3, h4⟩ hk
  exact ⟨⟨cur, L, A, c, rest, h1.keeps rfl hk, h2⟩, hk.same _ _ h3 rfl, h4.trans hk.below⟩
theorem ChkX.bears (B gr : Nat) (t : Tr) (w0 : World) (c : Code) : Bears kinds B (ChkX B gr t w0 c) := by
  rintro pre W W' ⟨h1, h3, h4⟩ hk
  exact ⟨h1, hk.same _ _ h3 rfl, h4.trans hk.below⟩

set_option maxHeartbeats 2000000 in
theorem check_any (A : Option Addr) (c : Nat) (t : Tr) (w : World) (h : Holds w w.heap.size A t.len t) (hc : t.len ≤ c) (hm : c ≤ maxLen) (hsz : t.size ≤ 17179869184) (hnm : Tr.Nm t) :
    Calls Tryz.prog 35 #[.slice A t.len c] w fun e w' => e = .returned (.int .i64 (t.fault : Nat)) ∧ Below w.heap.size w w' := by
  obtain ⟨xs, hxs, hseq⟩ := edges_seq 3 A c t w h hc hm (by omega)
  obtain ⟨xl, hxl2⟩ : ∃ n, n = t.len := ⟨_, rfl⟩
  rw [← hxl2] at hc hseq ⊢
  have Hxs := Lib.hid hxs
  have Hnm := Lib.hid hnm
  clear hxs hxl2 hnm
  refine (callsIn_wide (n := 4)).1 ?_
  refine callsIn_of_wp_marks Tryz.func35 rfl trivial ?_ rfl
  simp only [Tryz.ntmps35, List.size_toArray, List.length_cons, List.length_nil, Nat.reduceAdd, Nat.reduceSub, Array.replicate_succ, Array.replicate_zero, List.push_toArray, List.append_toArray, List.nil_append, List.cons_append]
  gi_wp2_with (refine ⟨trivial, ?_⟩; gi_at_call 55; refine (callsIn_wide.2 (edges_any _ _ _ _)).mono ?_; rintro e w1 ⟨rfl, rfl⟩)
  have hgr := heap_alloc_new w (.cells #[.int .i64 0] 31)
  have hgx := heap_alloc_new (w.alloc (.cells #[.int .i64 0] 31)) (.cells #[.int .i64 0, .slice none 0 0] 101)
  have htx := heap_alloc_new ((w.alloc (.cells #[.int .i64 0] 31)).alloc (.cells #[.int .i64 0, .slice none 0 0] 101)) (.cells #[.slice A xl c] 30)
  simp only [World.size_alloc] at hgx htx
  have hb3 : Below w.heap.size w (((w.alloc (.cells #[.int .i64 0] 31)).alloc (.cells #[.int .i64 0, .slice none 0 0] 101)).alloc (.cells #[.slice A xl c] 30)) :=
    (((Below.refl _ w).alloc (Nat.le_refl _) _).alloc (by simp) _).alloc (by simp; omega) _
  refine wpIn_rangeFunc_T (T := kinds) (B := w.heap.size) rfl (by omega) (gf := 74) (lb := #[.pointer (some ⟨w.heap.size + 1 + 1, 0, none⟩)]) rfl trivial (enters_of Tryz.func74 (by kernel_rfl) rfl)
    (hseq _ hb3 _ (by rw [cell_of_row _ _ 0 _ _ _ htx]; rfl)) (Below.refl _ _) (by simp; omega) (fun _ => rfl)
    (ChkI w.heap.size (w.heap.size + 1) w.heap.size t w) (ChkX w.heap.size w.heap.size t w) (ChkI.bears _ _ _ _ _) (ChkX.bears _ _ _ _) ?start ?round ?done ?stop
  case start =>
    refine ⟨⟨_, [], none, 0, t.flat 1, ⟨heap_keep hgx _, rfl, rfl, World.ownsRow_nil _ _ _ _, by simp [Value.ownBlock], by simp; omega⟩, rfl, judge_all t, smooth_all t, Nat.zero_le _⟩, heap_keep (heap_keep hgr _) _, hb3⟩
  case stop =>
    rintro D c' pre W hD _ ⟨rfl, hb2, hB⟩ hK
    have hne : w.heap.size ≠ D := by simp at hD; omega
    have hc3 : (W.putObj D (.deferred none)).cell? ⟨w.heap.size, 0, none⟩ = some (.int .i64 (t.fault : Nat)) := by rw [cell_of_row _ _ 0 _ _ _ ((World.putObj_heap_other hne).trans hb2)]; rfl
    have HK := Lib.hid hK
    clear hb2 hK h hseq hne
    gi_wp2
    refine ⟨by simp, .inl ⟨_, _, rfl, run_takeDeferred HK.out, ?_⟩⟩
    refine ⟨_, by simp [results, Tryz.results35, go_sem, hc3]; rfl, ?_, hB.trans (belowK_b (w := w) (Nat.le_refl _) W D _ _ (by simp at hD; omega) HK.out rfl rfl)⟩
    rfl
  case done =>
    rintro D W hD ⟨⟨cur, L, A1, c1, rest, hJ, hfl, hrun, hsm, h400⟩, hb2, hB⟩ hK
    have hz : t.fault = 0 := by
      rw [← Hxs.out] at hfl
      have : rest = [] := by
        have := congrArg List.length hfl
        rw [List.length_append] at this
        exact List.eq_nil_of_length_eq_zero (by omega)
      subst this
      rw [← hrun]; rfl
    have hc2 : W.cell? ⟨w.heap.size, 0, none⟩ = some (.int .i64 0) := by rw [cell_of_row W _ 0 _ _ _ hb2]; rfl
    have hf2 : W.frozen? ⟨w.heap.size, 0, none⟩ = false := by simp [World.frozen?, hb2]
    have hne : w.heap.size ≠ D := by simp at hD; omega
    have hK2 : (W.setCell ⟨w.heap.size, 0, none⟩ (.int .i64 0)).heap[D]? = some (.deferred (some [])) := heap_far hK (fun e => hne e.symm) _
    have hc3 : ((W.setCell ⟨w.heap.size, 0, none⟩ (.int .i64 0)).putObj D (.deferred none)).cell? ⟨w.heap.size, 0, none⟩ = some (.int .i64 0) := by rw [cell_of_row _ _ 0 _ _ _ ((World.putObj_heap_other hne).trans (box_set hb2))]; rfl
    have Hz := Lib.hid hz
    have HK := Lib.hid hK2
    clear hb2 hK hK2 h hseq hz hJ hfl hrun hsm hne
    gi_wp2
    refine ⟨by simp, .inl ⟨_, _, rfl, run_takeDeferred HK.out, ?_⟩⟩
    refine ⟨_, by simp [results, Tryz.results35, go_sem, hc3]; rfl, by rw [Hz.out]; rfl, (hB.setCell (Nat.le_refl _) _).trans (belowK_b (w := w) (Nat.le_refl _) _ D _ _ (by simp at hD; omega) HK.out rfl rfl)⟩
  case round =>
    rintro l pre x W ⟨⟨cur, L, A1, c1, rest, hJ, hfl, hrun, hsm, h400⟩, hb2, hB⟩ hpre hle
    obtain ⟨sfx, hsfx⟩ := hpre
    have hrest : rest = x.word :: sfx.map Handed.word := by
      rw [← Hxs.out, ← hsfx, List.append_assoc, List.map_append] at hfl
      exact List.append_cancel_left hfl
    subst hrest
    have hxn : x.name.size ≤ 140737488351232 := flat_nm t 1 x.word Hnm.out (by rw [← hfl]; simp)
    have hfl2 : (pre ++ [x]).map Handed.word ++ sfx.map Handed.word = t.flat 1 := by rw [← hfl]; simp
    have hlen : (pre ++ [x]).length = pre.length + 1 := by simp
    obtain ⟨hd1, hd2, hsm2⟩ := hsm
    obtain ⟨k, hk⟩ : ∃ k, k = pre.length := ⟨_, rfl⟩
    rw [← hk] at hJ hrun h400 hlen
    obtain ⟨d, nm, xa, xn, xc⟩ := x
    simp only [Handed.word] at hd1 hd2 hsm2 hrun hxn
    have Hrun := Lib.hid hrun
    have Hfl := Lib.hid hfl2
    have Hlen := Lib.hid hlen
    have Hsm := Lib.hid hsm2
    have Hk := Lib.hid hk
    clear hseq h hfl hsfx hrun hfl2 hlen hsm2 hk
    simp only [Handed.args]
    gi_wp2
    refine ⟨Keeps.alloc _ W _ hB.size, fun W2 hk2 hsz2 => ?_⟩
    have hkI : Keeps (pI kinds) w.heap.size W W2 := (Keeps.alloc _ W _ hB.size).trans (hk2.of fun _ => pI_pC)
    have hgx : W2.heap[W.heap.size]? = some (.cells #[.string nm, .slice xa xn xc] 56 (0, 0)) := hk2.same _ _ (heap_alloc_new W _) rfl
    have hb2' := hkI.same _ _ hb2 rfl
    have hJ2 := hJ.keeps rfl hkI
    have hB2 : Below w.heap.size w W2 := hB.trans hkI.below
    have hcx : W2.cell? ⟨W.heap.size, 0, none⟩ = some (.string nm) := by rw [cell_of_row W2 _ 0 _ _ _ hgx]; rfl
    have HE := Lib.hid (edge_any W2 w.heap.size (w.heap.size + 1) 0 k c1 d 101 cur L A1 nm hJ2 h400 hd1 hd2 hxn)
    have Hb := Lib.hid hb2'
    have HJ2 := Lib.hid hJ2
    clear hb2 hb2' hJ hJ2 hgx
    have hrow2 := HJ2.out
    by_cases hz : judgeE k L d nm = 0
    · have hz2 := HE.out
      rw [hz, Int.natCast_zero] at hz2
      have HE2 := Lib.hid hz2
      have hle400 := (judgeE_zero hz).1
      have Hz := Lib.hid hz
      clear hz2 HE hz
      gi_wp2_with (refine ⟨trivial, ?_⟩; gi_at_call 56; refine (CallsIn.inRound l (callsIn_wide.2 HE2.out)).mono ?_; rintro e w3 ⟨rfl, hT⟩)
      obtain ⟨cur', L', A', c', hJ3, hL3, _, _, hch⟩ := hT
      have hL3 := hL3 Hz.out
      subst hL3
      have hkp := HJ2.out.chg rfl (by omega) hch
      have hlL := judgeL_length (s := nm) hd1 hd2
      refine ⟨hkp, ⟨cur', _, A', c', sfx.map Handed.word, by rw [Hlen.out]; exact hJ3, Hfl.out, ?_, by rw [hlL]; exact Hsm.out, by rw [Hlen.out]; exact hle400⟩, ?_, hB2.trans hkp.below⟩
      · rw [Hlen.out]
        have := Hrun.out
        rw [judgeRun_ok Hz.out] at this
        exact this
      · exact (hch.block _ (Array.getElem?_eq_some_iff.1 Hb.out).1 (by omega) (HJ2.out.ne Hb.out (by decide))).trans Hb.out
    · obtain ⟨q, hq⟩ : ∃ q, q = judgeE k L d nm := ⟨_, rfl⟩
      have hqf : t.fault = q := by
        have := Hrun.out
        rw [judgeRun_no hz] at this
        rw [hq]; exact this.symm
      have hz2 := HE.out
      rw [← hq] at hz hz2
      have HE2 := Lib.hid hz2
      have hq0 : ((q : Int) == 0) = false := by simp; exact hz
      have hq1 : ((q : Int) != 0) = true := by simp; exact hz
      have hq2 : ¬ (q : Int) = 0 := by omega
      have Hqf := Lib.hid hqf
      clear hz2 HE hq hqf hz
      gi_wp2_with (refine ⟨trivial, ?_⟩; gi_at_call 56; refine (CallsIn.inRound l (callsIn_wide.2 HE2.out)).mono ?_; rintro e w3 ⟨rfl, cur', L', A', c', hJ3, _, _, _, hch⟩; have hb4 := (hch.block _ (Array.getElem?_eq_some_iff.1 Hb.out).1 (by omega) (HJ2.out.ne Hb.out (by decide))).trans Hb.out; have hc4 : w3.cell? ⟨w.heap.size, 0, none⟩ = some (.int .i64 0) := (by rw [cell_of_row w3 _ 0 _ _ _ hb4]; rfl); have hf4 : w3.frozen? ⟨w.heap.size, 0, none⟩ = false := (by simp [World.frozen?, hb4]); have hkp := HJ2.out.chg rfl (by omega) hch; have Hb4 := Lib.hid hb4; clear hb4)
      have hkq : Keeps (pB kinds) w.heap.size W2 (w3.setCell ⟨w.heap.size, 0, none⟩ (.int .i64 (q : Nat))) := hkp.trans (Keeps.setCell (o := .cells #[.int .i64 0] 31 (0, 0)) w3 _ Hb4.out rfl (Nat.le_refl _))
      exact ⟨hkq, rfl, by rw [Hqf.out]; exact box_set Hb4.out, hB2.trans hkq.below⟩
end Go.Proofs.YtapgaglkkgbgkaaGreatDoor.Jd
namespace Go.Proofs.YtapgaglkkgbgkaaGreatDoor.Jd
open Go.RowKit
set_option maxRecDepth 100000

def nameAt : Tr → Nat → Option ByteArray
  | .nil, _ => none
  | .cons s _ _, 0 => some s
  | .cons _ _ r, k + 1 => nameAt r k
def prv (t : Tr) (k : Nat) : Option ByteArray := if k = 0 then none else nameAt t (k - 1)
theorem nameAt_drop : ∀ (t : Tr) (k : Nat) {s : ByteArray} {kt r : Tr}, t.dropT k = .cons s kt r → nameAt t k = some s
  | .nil, k, _, _, _, h => by cases k <;> simp [Tr.dropT] at h
  | .cons s0 k0 r0, 0, s, kt, r, h => by
    rw [dropT_zero] at h
    injection h with h _ _
    rw [← h]; rfl
  | .cons s0 k0 r0, k + 1, _, _, _, h => by
    simp only [Tr.dropT] at h
    exact nameAt_drop r0 k h

def Ckr (w : World) (g n e : Nat) : Prop := w.heap[g]? = some (.cells #[.int .i64 n, .int .i64 e] 95 (0, 0))
theorem Ckr.cells {w : World} {g n e : Nat} (h : Ckr w g n e) : w.cell? ⟨g, 0, none⟩ = some (.int .i64 n) ∧ w.cell? ⟨g, 1, none⟩ = some (.int .i64 e) ∧ (∀ o, w.frozen? ⟨g, o, none⟩ = false) ∧ g < w.heap.size := by
  unfold Ckr at h
  exact ⟨by rw [cell_of_row w g 0 _ _ _ h]; rfl, by rw [cell_of_row w g 1 _ _ _ h]; rfl, fun o => by simp [World.frozen?, h], (Array.getElem?_eq_some_iff.1 h).1⟩
theorem Ckr.set0 {w : World} {g n e : Nat} (h : Ckr w g n e) (n' : Nat) (v : Value) (hv : v = .int .i64 (n' : Int)) : Ckr (w.setCell ⟨g, 0, none⟩ v) g n' e := by
  unfold Ckr at h ⊢
  rw [heap_setCell_same w g 0 _ _ _ h, hv]; rfl
theorem Ckr.set1 {w : World} {g n e : Nat} (h : Ckr w g n e) (e' : Nat) (v : Value) (hv : v = .int .i64 (e' : Int)) : Ckr (w.setCell ⟨g, 1, none⟩ v) g n e' := by
  unfold Ckr at h ⊢
  rw [heap_setCell_same w g 1 _ _ _ h, hv]; rfl
theorem Ckr.drew {w : World} {g n e : Nat} (h : Ckr w g n e) : Ckr w.drew g n e := h
theorem Ckr.drewN {w : World} {g n e : Nat} (h : Ckr w g n e) (q : Nat) : Ckr (w.drewN q) g n e := h

def WalkI (d : Nat) (t : Tr) (m0 : Nat) (k m e : Nat) : Prop :=
  (e = 0 → m ≤ 400 ∧ walkC d (t.dropT k) (prv t k) m = walkC d t none m0) ∧ (e ≠ 0 → walkC d t none m0 = (m, e))
theorem WalkI.start (d : Nat) (t : Tr) (m0 : Nat) (h : m0 ≤ 400) : WalkI d t m0 0 m0 0 := ⟨fun _ => ⟨h, by rw [dropT_zero]; rfl⟩, fun h => absurd rfl h⟩
theorem WalkI.fin {d m0 k m e : Nat} {t : Tr} (h : WalkI d t m0 k m e) (hk : t.len ≤ k) : walkC d t none m0 = (m, e) := by
  by_cases he : e = 0
  · subst he
    rw [← (h.1 rfl).2, drop_len t k hk]
    rfl
  · exact h.2 he
section
variable {d m0 k m : Nat} {t kt r : Tr} {s : ByteArray}
theorem WalkI.step (h : WalkI d t m0 k m 0) (hd : t.dropT k = .cons s kt r) (hd2 : t.dropT (k + 1) = r) :
    (400 < m + 1 → WalkI d t m0 (k + 1) (m + 1) 4) ∧
    (¬ 400 < m + 1 → 12 < d → WalkI d t m0 (k + 1) (m + 1) 11) ∧
    (¬ 400 < m + 1 → ¬ 12 < d → 80 < s.size → WalkI d t m0 (k + 1) (m + 1) 5) ∧
    (¬ 400 < m + 1 → ¬ 12 < d → ¬ 80 < s.size → notAfter (prv t k) s = true → WalkI d t m0 (k + 1) (m + 1) 12) ∧
    (¬ 400 < m + 1 → ¬ 12 < d → ¬ 80 < s.size → ¬ notAfter (prv t k) s = true → WalkI d t m0 (k + 1) (walkC (d + 1) kt none (m + 1)).1 (walkC (d + 1) kt none (m + 1)).2) := by
  obtain ⟨_, hw⟩ := h.1 rfl
  rw [hd] at hw
  simp only [walkC] at hw
  have hn : nameAt t k = some s := nameAt_drop t k hd
  refine ⟨fun h1 => ?_, fun h1 h2 => ?_, fun h1 h2 h3 => ?_, fun h1 h2 h3 h4 => ?_, fun h1 h2 h3 h4 => ?_⟩
  · rw [if_pos h1] at hw
    exact ⟨fun e => absurd e (by decide), fun _ => hw.symm⟩
  · rw [if_neg h1, if_pos h2] at hw
    exact ⟨fun e => absurd e (by decide), fun _ => hw.symm⟩
  · rw [if_neg h1, if_neg h2, if_pos h3] at hw
    exact ⟨fun e => absurd e (by decide), fun _ => hw.symm⟩
  · rw [if_neg h1, if_neg h2, if_neg h3, if_pos h4] at hw
    exact ⟨fun e => absurd e (by decide), fun _ => hw.symm⟩
  · rw [if_neg h1, if_neg h2, if_neg h3, if_neg h4] at hw
    constructor
    · intro hz
      rw [if_pos hz] at hw
      refine ⟨(walkC_le kt (d + 1) (m + 1) none (by omega)).2.2.1 hz, ?_⟩
      rw [hd2, ← hw, prv, if_neg (by omega), Nat.add_sub_cancel, hn]
    · intro hz
      rw [if_neg hz] at hw
      exact hw.symm
end

theorem nm_drop : ∀ (t : Tr) (k : Nat), Tr.Nm t → Tr.Nm (t.dropT k)
  | t, 0, h => by rw [dropT_zero]; exact h
  | .nil, _ + 1, _ => trivial
  | .cons _ _ r, k + 1, h => nm_drop r k h.2.2
theorem keep_of {w w' : World} {B g : Nat} (hg : w.grownBy w' (some g)) (hB : B ≤ g) (hl : g < w.heap.size) : ∀ p : Addr, p.block < B → w'.cell? p = w.cell? p :=
  fun p hp => World.cell?_of_block (hg.block p.block (by omega) (fun e => by injection e with e; omega))
theorem grown_trans {w w' w'' : World} {g : Nat} (h : w.grownBy w' (some g)) (k : w'.grownBy w'' (some g)) : w.grownBy w'' (some g) :=
  ⟨k.os.trans h.os, k.tape.trans h.tape, k.output.trans h.output, Nat.le_trans h.size k.size, fun i hi hn => (k.block i (Nat.lt_of_lt_of_le hi h.size) hn).trans (h.block i hi hn)⟩

theorem grown_drewN {w w' : World} {row : Option Nat} (h : w.grownBy w' row) (q : Nat) : w.grownBy (w'.drewN q) row := ⟨h.os, h.tape, h.output, h.size, h.block⟩

set_option maxHeartbeats 4000000 in
theorem rwalk_any (N : Nat) : ∀ (t : Tr) (A : Option Addr) (n c B d m g : Nat) (w : World), t.size ≤ N → Holds w B A n t → B ≤ g → Ckr w g m 0 → m ≤ 400 → n ≤ 140737488351232 → t.Low → Tr.Nm t → d ≤ 13 →
    Calls Tryz.prog 52 #[.pointer (some ⟨g, 0, none⟩), .slice A n c, .int .i64 d] w fun e w' => (∃ v, e = .returned v) ∧ Ckr w' g (walkC d t none m).1 (walkC d t none m).2 ∧ w.grownBy w' (some g) := by
  induction N with
  | zero =>
    intro t A n c B d m g w hN h hB hC hm hn hl hnm hd
    cases t with
    | nil =>
      obtain rfl : n = 0 := h
      have HC := Lib.hid hC
      obtain ⟨hc0, hc1, hf, hgl⟩ := hC.cells
      clear hC hf
      go_enter Tryz.func52, Tryz.ntmps52
      go_wp2_with fail
      go_loop [6] (fun i => i = .int .i64 0) (fun _ => 0)
      case atStart => exact rfl
      case round =>
        subst hrel
        go_wp2_with fail
        go_end0
        exact ⟨⟨_, rfl⟩, HC.out, World.grownBy.refl _ _⟩
    | cons s k r => simp [Tr.size] at hN
  | succ N ih =>
    intro t A n c B d m g w hN h hB hC hm hn hl hnm hd
    have Hn := Lib.hid h.len
    have HC0 := Lib.hid hC
    have HI0 := Lib.hid (WalkI.start d t m hm)
    have hgl := hC.cells.2.2.2
    clear hC
    go_enter Tryz.func52, Tryz.ntmps52
    go_wp2_with fail
    go_loopw [6] (fun i wr => ∃ k m' e' : Nat, k ≤ n ∧ i = .int .i64 k ∧ Hid (Ckr wr g m' e') ∧ w.grownBy wr (some g) ∧ Hid (WalkI d t m k m' e')) (fun i _ => n - (intOf i).toNat)
    case atStart => exact ⟨0, m, 0, Nat.zero_le _, rfl, HC0, World.grownBy.refl _ _, HI0⟩
    case round =>
      obtain ⟨k, m', e', hk, rfl, HC, hgr, HI⟩ := hrel
      obtain ⟨hc0, hc1, hf, hgl2⟩ := HC.out.cells
      by_cases hlt : k < n
      · by_cases he : e' = 0
        · subst he
          obtain ⟨b, o, s, kt, r, A', n', c', rfl, hb, hs, hcl, hn', hc', hk', hr, hd1, hd2⟩ := (h.keep (keep_of hgr hB hgl)).split k hlt
          have hbg : b ≠ g := by omega
          have hS := HI.out.step hd1 hd2
          have hm4 := (HI.out.1 rfl).1
          have HC1 := Lib.hid (HC.out.set0 (m' + 1) (.int .i64 ((m' : Int) + 1)) rfl)
          have hgr1 : w.grownBy (wr.setCell ⟨g, 0, none⟩ (.int .i64 ((m' : Int) + 1))) (some g) := grown_trans hgr (grown_set wr ⟨g, 0, none⟩ _)
          have hc10 : (wr.setCell ⟨g, 0, none⟩ (.int .i64 ((m' : Int) + 1))).cell? ⟨g, 0, none⟩ = some (.int .i64 ((m' : Int) + 1)) := HC1.out.cells.1
          have hf0 := hf 0
          have hf1 : (wr.setCell ⟨g, 0, none⟩ (.int .i64 ((m' : Int) + 1))).frozen? ⟨g, 1, none⟩ = false := HC1.out.cells.2.2.1 1
          have hc11 : (wr.setCell ⟨g, 0, none⟩ (.int .i64 ((m' : Int) + 1))).cell? ⟨g, 1, none⟩ = some (.int .i64 0) := HC1.out.cells.2.1
          have hs1 : (wr.setCell ⟨g, 0, none⟩ (.int .i64 ((m' : Int) + 1))).cell? ⟨b, o + k * 2, none⟩ = some (.string s) := (World.cell?_setCell_other _ _ _ _ (fun e => hbg (congrArg Addr.block e).symm)).trans hs
          have hcl1 : (wr.setCell ⟨g, 0, none⟩ (.int .i64 ((m' : Int) + 1))).cell? ⟨b, o + k * 2 + 1, none⟩ = some (.slice A' n' c') := (World.cell?_setCell_other _ _ _ _ (fun e => hbg (congrArg Addr.block e).symm)).trans hcl
          have hkn : (k : Int) < (n : Int) := by omega
          have hk0 : (0 : Int) ≤ (k : Int) := by omega
          have hnms : s.size ≤ 140737488351232 := by
            have := nm_drop t k hnm
            rw [hd1] at this
            exact this.1
          have Hlt := Lib.hid hlt
          obtain ⟨hS1, hS2, hS3, hS4, hS5⟩ := hS
          by_cases h1 : 400 < m' + 1
          · have h1' : (400 : Int) < (m' : Int) + 1 := by omega
            have HS := Lib.hid (hS1 h1)
            clear hd1 hd2 hS1 hS2 hS3 hS4 hS5 h1 hf hlt
            go_wp2_with fail
            go_roundw
            case rel => exact ⟨k + 1, _, _, Hlt.out, by go_num, Lib.hid (HC1.out.set1 4 _ rfl), grown_trans hgr1 (grown_set _ ⟨g, 1, none⟩ _), HS⟩
            case measure => simp [intOf]; omega
          have h1' : ¬ (400 : Int) < (m' : Int) + 1 := by omega
          by_cases h2 : 12 < d
          · have h2' : (12 : Int) < (d : Int) := by omega
            have HS := Lib.hid (hS2 h1 h2)
            clear hd1 hd2 hS1 hS2 hS3 hS4 hS5 h1 h2 hf hlt
            go_wp2_with fail
            go_roundw
            case rel => exact ⟨k + 1, _, _, Hlt.out, by go_num, Lib.hid (HC1.out.set1 11 _ rfl), grown_trans hgr1 (grown_set _ ⟨g, 1, none⟩ _), HS⟩
            case measure => simp [intOf]; omega
          have h2' : ¬ (12 : Int) < (d : Int) := by omega
          by_cases h3 : 80 < s.size
          · have h3' : (80 : Int) < (s.size : Int) := by omega
            have HS := Lib.hid (hS3 h1 h2 h3)
            clear hd1 hd2 hS1 hS2 hS3 hS4 hS5 h1 h2 h3 hf hlt
            go_wp2_with fail
            go_roundw
            case rel => exact ⟨k + 1, _, _, Hlt.out, by go_num, Lib.hid (HC1.out.set1 5 _ rfl), grown_trans hgr1 (grown_set _ ⟨g, 1, none⟩ _), HS⟩
            case measure => simp [intOf]; omega
          have h3' : ¬ (80 : Int) < (s.size : Int) := by omega
          have hbl : b < wr.heap.size := World.block_lt_of_cell? _ _ hs
          by_cases h4 : notAfter (prv t k) s = true
          · have HS := Lib.hid (hS4 h1 h2 h3 h4)
            have hk1 : 0 < k := by
              rcases Nat.eq_zero_or_pos k with e | e
              · subst e; simp [prv, notAfter] at h4
              · exact e
            obtain ⟨j, hj⟩ : ∃ j, k = j + 1 := ⟨k - 1, by omega⟩
            obtain ⟨b', o', p, kt', r', A3, n3, c3, e, _, hsp, _, _, _, _, _, hdp, _⟩ := (h.keep (keep_of hgr hB hgl)).split j (by omega)
            cases e
            have hp : prv t k = some p := by rw [prv, if_neg (by omega), hj, Nat.add_sub_cancel]; exact nameAt_drop t j hdp
            rw [hp] at h4
            have h4' : Op.bytesLess p.toList s.toList = false := by simpa [notAfter] using h4
            have hj1 : (k : Int) - 1 = (j : Int) := by omega
            have hj0 : (0 : Int) ≤ (j : Int) := by omega
            have hjn : (j : Int) < (n : Int) := by omega
            have hjb : j ≤ 140737488351232 := by omega
            have hkb : k ≤ 140737488351232 := by omega
            have hg : (0 : Int) < (k : Int) := by omega
            have hs3 : (wr.setCell ⟨g, 0, none⟩ (.int .i64 ((m' : Int) + 1))).cell? ⟨b, o + j * 2, none⟩ = some (.string p) := (World.cell?_setCell_other _ _ _ _ (fun e => hbg (congrArg Addr.block e).symm)).trans hsp
            clear hd1 hd2 hS1 hS2 hS3 hS4 hS5 h1 h2 h3 h4 hf hlt hj hp hdp hsp
            rcases not_lt h4' with h5 | ⟨h5, h6⟩
            all_goals
              clear h4'
              go_wp2_with fail
              go_quiet (fail)
              have HC2 := HC1.out.drewN nq
              have hf2 : ((wr.setCell ⟨g, 0, none⟩ (.int .i64 ((m' : Int) + 1))).drewN nq).frozen? ⟨g, 1, none⟩ = false := HC2.cells.2.2.1 1
              have hc21 : ((wr.setCell ⟨g, 0, none⟩ (.int .i64 ((m' : Int) + 1))).drewN nq).cell? ⟨g, 1, none⟩ = some (.int .i64 0) := HC2.cells.2.1
              go_wp2_with fail
              go_roundw
              case rel => exact ⟨k + 1, _, _, Hlt.out, by go_num, Lib.hid (HC2.set1 12 _ rfl), grown_trans (grown_drewN hgr1 _) (grown_set _ ⟨g, 1, none⟩ _), HS⟩
              case measure => simp [intOf]; omega
          · have HS := Lib.hid (hS5 h1 h2 h3 h4)
            have hld := hl.drop k
            rw [hd1] at hld
            obtain ⟨hl1, hll, _⟩ := hld
            have hnb : n' ≤ 140737488351232 := by rw [hk'.len]; exact hl1
            have hlnm : Tr.Nm kt := by
              have := nm_drop t k hnm
              rw [hd1] at this
              exact this.2.1
            have hszk := size_drop t k
            rw [hd1] at hszk
            simp only [Tr.size] at hszk
            have hktN : kt.size ≤ N := by omega
            have hm5 : m' + 1 ≤ 400 := by omega
            have hkp : ∀ p : Addr, p.block < B → (wr.setCell ⟨g, 0, none⟩ (.int .i64 ((m' : Int) + 1))).cell? p = wr.cell? p := fun p hp => World.cell?_setCell_other _ _ _ _ (fun e => by have := congrArg Addr.block e; simp only at this; omega)
            have hd12 : d ≤ 12 := by omega
            have Hkp := Lib.hid hkp
            clear hN hszk hl1 hkp
            rcases Nat.eq_zero_or_pos k with hk1 | hk1
            · have hg : ¬ ((0 : Int) < (k : Int)) := by omega
              have hg2 : ¬ (0 < k) := by omega
              clear hd1 hd2 hS1 hS2 hS3 hS4 hS5 h1 h2 h3 h4 hf hlt hk1
              go_wp2_with fail
              go_quiet (fail)
              have hcall := ih kt A' n' c' B (d + 1) (m' + 1) g ((wr.setCell ⟨g, 0, none⟩ (.int .i64 ((m' : Int) + 1))).drewN nq) (by omega) (hk'.keep (w' := (wr.setCell ⟨g, 0, none⟩ (.int .i64 ((m' : Int) + 1))).drewN nq) (fun p hp => Hkp.out p hp)) hB (HC1.out.drewN nq) (by omega) hnb hll hlnm (by omega)
              rw [show (((d + 1 : Nat)) : Int) = (d : Int) + 1 from rfl] at hcall
              have HCall := Lib.hid hcall
              clear hcall
              have hcl2 : ((wr.setCell ⟨g, 0, none⟩ (.int .i64 ((m' : Int) + 1))).drewN nq).cell? ⟨b, o + k * 2 + 1, none⟩ = some (.slice A' n' c') := hcl1
              go_wp2_with fail
              refine HCall.out.mono ?_
              rintro e w3 ⟨⟨v, rfl⟩, hC3, hg3⟩
              go_wp2_with fail
              go_roundw
              case rel => exact ⟨k + 1, _, _, Hlt.out, by go_num, Lib.hid hC3, grown_trans (grown_drewN hgr1 _) hg3, HS⟩
              case measure => simp [intOf]; omega
            · obtain ⟨j, hj⟩ : ∃ j, k = j + 1 := ⟨k - 1, by omega⟩
              obtain ⟨b', o', p, kt', r', A3, n3, c3, e, _, hsp, _, _, _, _, _, hdp, _⟩ := (h.keep (keep_of hgr hB hgl)).split j (by omega)
              cases e
              have hp : prv t k = some p := by rw [prv, if_neg (by omega), hj, Nat.add_sub_cancel]; exact nameAt_drop t j hdp
              rw [hp] at h4
              have h4' : Op.bytesLess p.toList s.toList = true := by simpa [notAfter] using h4
              have hj1 : (k : Int) - 1 = (j : Int) := by omega
              have hj0 : (0 : Int) ≤ (j : Int) := by omega
              have hjn : (j : Int) < (n : Int) := by omega
              have hjb : j ≤ 140737488351232 := by omega
              have hkb : k ≤ 140737488351232 := by omega
              have hg : (0 : Int) < (k : Int) := by omega
              have hk2 : 0 < k := hk1
              have hwj : IntKind.i64.wrap (j : Int) = (j : Int) := IntWalk.i64_in _ (by omega)
              have hs3 : (wr.setCell ⟨g, 0, none⟩ (.int .i64 ((m' : Int) + 1))).cell? ⟨b, o + j * 2, none⟩ = some (.string p) := (World.cell?_setCell_other _ _ _ _ (fun e => hbg (congrArg Addr.block e).symm)).trans hsp
              clear hd1 hd2 hS1 hS2 hS3 hS4 hS5 h1 h2 h3 h4 hf hlt hj hp hdp hsp
              obtain ⟨h5, h6⟩ := lt_not h4'
              clear h4'
              go_wp2_with fail
              go_quiet (fail)
              have hcall := ih kt A' n' c' B (d + 1) (m' + 1) g ((wr.setCell ⟨g, 0, none⟩ (.int .i64 ((m' : Int) + 1))).drewN nq) (by omega) (hk'.keep (w' := (wr.setCell ⟨g, 0, none⟩ (.int .i64 ((m' : Int) + 1))).drewN nq) (fun p hp => Hkp.out p hp)) hB (HC1.out.drewN nq) (by omega) hnb hll hlnm (by omega)
              rw [show (((d + 1 : Nat)) : Int) = (d : Int) + 1 from rfl] at hcall
              have HCall := Lib.hid hcall
              clear hcall
              have hcl2 : ((wr.setCell ⟨g, 0, none⟩ (.int .i64 ((m' : Int) + 1))).drewN nq).cell? ⟨b, o + k * 2 + 1, none⟩ = some (.slice A' n' c') := hcl1
              go_wp2_with fail
              refine HCall.out.mono ?_
              rintro e w3 ⟨⟨v, rfl⟩, hC3, hg3⟩
              go_wp2_with fail
              go_roundw
              case rel => exact ⟨k + 1, _, _, Hlt.out, by go_num, Lib.hid hC3, grown_trans (grown_drewN hgr1 _) hg3, HS⟩
              case measure => simp [intOf]; omega
        · have he2 : ((e' : Int) == 0) = false := by simpa using he
          have he3 : ¬ (e' : Int) = 0 := by omega
          have hfin : walkC d t none m = (m', e') := HI.out.2 he
          have Hfin := Lib.hid hfin
          have hkn : (k : Int) < (n : Int) := by omega
          clear hfin he hf hlt
          go_wp2_with fail
          go_end0
          exact ⟨⟨_, rfl⟩, by rw [Hfin.out]; exact HC.out, hgr⟩
      · obtain rfl : k = n := by omega
        have hfin : walkC d t none m = (m', e') := HI.out.fin (by rw [← Hn.out]; exact Nat.le_refl _)
        have Hfin := Lib.hid hfin
        clear hfin hf hlt
        go_wp2_with fail
        go_end0
        exact ⟨⟨_, rfl⟩, by rw [Hfin.out]; exact HC.out, hgr⟩

theorem rcheck_any (t : Tr) (A : Option Addr) (n c B : Nat) (w : World) (h : Holds w B A n t) (hB : B ≤ w.heap.size) (hn : n ≤ 140737488351232) (hl : t.Low) (hnm : Tr.Nm t) :
    Calls Tryz.prog 28 #[.slice A n c] w fun e w' => e = .returned (.int .i64 (t.fault : Nat)) ∧ Below w.heap.size w w' := by
  have hC : Ckr (w.alloc (.cells #[.int .i64 0, .int .i64 0] 95)) w.heap.size 0 0 := heap_alloc_new w _
  have hcall := rwalk_any t.size t A n c B 1 0 w.heap.size (w.alloc (.cells #[.int .i64 0, .int .i64 0] 95)) (Nat.le_refl _) (h.keep fun p hp => World.cell?_alloc_lt _ _ _ (Nat.lt_of_lt_of_le hp hB)) hB hC (by omega) hn hl hnm (by omega)
  obtain ⟨q, hq⟩ : ∃ q, q = t.fault := ⟨_, rfl⟩
  rw [← hq]
  have Hq := Lib.hid hq
  have HCall := Lib.hid hcall
  clear hcall hC hq
  go_enter Tryz.func28, Tryz.ntmps28
  go_wp2_with fail
  refine HCall.out.mono ?_
  rintro e w3 ⟨⟨v, rfl⟩, hC3, hg3⟩
  have hc3 := hC3.cells.2.1
  have he : (walkC 1 t none 0).2 = q := by rw [Hq.out]; rfl
  rw [he] at hc3
  clear he hC3
  go_wp2_with fail
  go_ret
  exact ⟨rfl, ((Below.refl _ w).alloc (Nat.le_refl _) _).grown hg3 (by simp) (fun k e => by injection e with e; omega)⟩
end Go.Proofs.YtapgaglkkgbgkaaGreatDoor.Jd
