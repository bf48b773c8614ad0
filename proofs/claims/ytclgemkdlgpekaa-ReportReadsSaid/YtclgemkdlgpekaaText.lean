/- tree.Text: the document's text of a tree. Conditions: edges, names' bytes below 2^36. -/
import Derived.Test.YtclgemkdlgpekaaTextWords
import Derived.Test.YtclgemkdlgpekaaEdges
import Derived.Test.YtclgemkdlgpekaaRound
import Derived.Test.YtclgemkdlgpekaaShelf
import Derived.Lib.SlBytesConst
import Derived.IntWalk
import Derived.Deep.RegionWith
namespace Go.Proofs.Ytclgemkdlgpekaa
open Go.RowKit Go.Shelf
set_option maxRecDepth 100000
attribute [local go_sem] Oper.semAt_some

/-- What Text's own cells hold, these edges having come: the bytes are a row of its own; ahead of the first edge they are the brace that the text began with. -/
def TextI (B g1 g2 : Nat) (w0 : World) (pre : List Handed) (W : World) : Prop :=
  (∃ A N c, W.heap[g1]? = some (.cells #[.slice A N c] 31 (0, 0)) ∧
    (Own W B A N c (textRun ([123], 0) (pre.map Handed.word)).1 ∨ (pre = [] ∧ A = some ⟨B, 0, none⟩ ∧ N = 1 ∧ c = 1 ∧ W.heap[B]? = some (.cells #[.int .u8 123] 5 (1, 2))))) ∧
  W.heap[g2]? = some (.cells #[.int .i64 ((textRun ([123], 0) (pre.map Handed.word)).2 : Nat)] 3 (0, 0)) ∧ Below B w0 W

theorem Own.held {W W' : World} {B base n c : Nat} {A : Option Addr} {l : List UInt8} (h : Own W base A n c l) (hk : Keeps (pI kinds) B W W') : Own W' base A n c l := by
  refine ⟨h.row.1, ?_⟩
  rcases h.row.2 with e | ⟨g1, cap, cur, e, hg, hh, rest⟩
  · exact .inl e
  · exact .inr ⟨g1, cap, cur, e, hg, hk.same _ _ hh rfl, rest⟩
theorem TextI.bears (B g1 g2 : Nat) (w0 : World) : Bears kinds B (TextI B g1 g2 w0) := by
  intro pre W W' ⟨⟨A, N, c, hb, ho⟩, h2, hB⟩ hk
  refine ⟨⟨A, N, c, hk.same _ _ hb rfl, ?_⟩, hk.same _ _ h2 rfl, hB.trans hk.below⟩
  rcases ho with ho | ⟨h1, h2, h3, h4, h5⟩
  · exact .inl (ho.held hk)
  · exact .inr ⟨h1, h2, h3, h4, hk.same _ _ h5 rfl⟩

/-- A row of bytes lies in no block of another kind. -/
theorem Own.ne {W : World} {base n c g : Nat} {A : Option Addr} {l : List UInt8} {cs : Array Value} {e : TypeId} {fr : Nat × Nat} (h : Own W base A n c l) (hg : W.heap[g]? = some (.cells cs e fr)) (he : e ≠ 5) : some g ≠ (Value.slice A n c).ownBlock := by
  intro e1
  rcases h.row.2 with ⟨e2, _⟩ | ⟨g1, cap, cur, e2, _, hh, _⟩
  · rw [e2] at e1; cases e1
  · rw [e2] at e1
    injection e1 with e1
    simp only at e1
    subst e1
    rw [hh] at hg
    injection hg with hg
    injection hg with _ hg
    exact he hg.symm
theorem Own.tag {W : World} {base n c : Nat} {A : Option Addr} {l : List UInt8} (h : Own W base A n c l) : ∀ g, (Value.slice A n c).ownBlock = some g → base ≤ g ∧ ∃ cs fr, W.heap[g]? = some (.cells cs 5 fr) := by
  intro g hg
  refine ⟨(h.lt g hg).1, ?_⟩
  rcases h.row.2 with ⟨e2, _⟩ | ⟨g1, cap, cur, e2, _, hh, _⟩
  · rw [e2] at hg; cases hg
  · rw [e2] at hg
    injection hg with hg
    simp only at hg
    subst hg
    exact ⟨_, _, hh⟩
/-- A row of bytes was grown: whatever is of another kind lies as it lay. -/
theorem Grew.keeps {W W' : World} {B : Nat} {row : Option Nat} {A : Option Addr} (h : Grew W W' row A) (hB : B ≤ W.heap.size) (hrow : ∀ g, row = some g → B ≤ g ∧ ∃ cs fr, W.heap[g]? = some (.cells cs 5 fr)) : Keeps (pB kinds) B W W' :=
  Keeps.grown h.by_ hB (fun g hg => ⟨(hrow g hg).1, fun o ho => by
    obtain ⟨cs, fr, hh⟩ := (hrow g hg).2
    rw [hh] at ho
    cases ho
    rfl⟩)
theorem Grew.block {W W' : World} {row : Option Nat} {A : Option Addr} (h : Grew W W' row A) {g : Nat} {o : Obj} (hg : W.heap[g]? = some o) (hne : some g ≠ row) : W'.heap[g]? = some o :=
  (h.by_.block g (Array.getElem?_eq_some_iff.1 hg).1 hne).trans hg
theorem Own.set {W : World} {base n c g : Nat} {A : Option Addr} {l : List UInt8} (h : Own W base A n c l) (hne : some g ≠ (Value.slice A n c).ownBlock) (v : Value) : Own (W.setCell ⟨g, 0, none⟩ v) base A n c l :=
  ⟨h.row.kept (grown_set W ⟨g, 0, none⟩ v) (.inr (fun e => hne e.symm))⟩

/-- Within a round: what has been kept since it began; the boxes; the row that is being grown. -/
structure Mid (B g1 g2 : Nat) (W2 w : World) (v : Value) (o : Nat) (A : Option Addr) (n c : Nat) (out : List UInt8) : Prop where
  keeps : Keeps (pB kinds) B W2 w
  box1 : w.heap[g1]? = some (.cells #[v] 31 (0, 0))
  box2 : w.heap[g2]? = some (.cells #[.int .i64 (o : Nat)] 3 (0, 0))
  own : Own w B A n c out
  le : B ≤ w.heap.size ∧ B ≤ g1 ∧ B ≤ g2
section
variable {B g1 g2 o n c n' c' : Nat} {W2 w w' : World} {v : Value} {A A' : Option Addr} {out out' : List UInt8}
theorem Mid.new (h : Mid B g1 g2 W2 w v o A n c out) (hb : Below w.heap.size w w') : Mid B g1 g2 W2 w' v o A n c out :=
  ⟨h.keeps.trans (Keeps.new hb h.le.1), (hb.block _ (Array.getElem?_eq_some_iff.1 h.box1).1).trans h.box1, (hb.block _ (Array.getElem?_eq_some_iff.1 h.box2).1).trans h.box2, h.own.keep hb, ⟨Nat.le_trans h.le.1 hb.size, h.le.2⟩⟩
theorem Mid.drew (h : Mid B g1 g2 W2 w v o A n c out) : Mid B g1 g2 W2 w.drew v o A n c out := ⟨h.keeps.drew, h.box1, h.box2, h.own.drew, h.le⟩
theorem Mid.grow (h : Mid B g1 g2 W2 w v o A n c out) (hg : w.grownBy w' (Value.slice A n c).ownBlock) (ho : Own w' B A' n' c' out') : Mid B g1 g2 W2 w' v o A' n' c' out' :=
  ⟨h.keeps.trans (Keeps.grown hg h.le.1 (fun g hh => ⟨(h.own.tag g hh).1, fun o' ho' => by
    obtain ⟨cs, fr, hx⟩ := (h.own.tag g hh).2
    rw [hx] at ho'
    cases ho'
    rfl⟩)), (hg.block _ (Array.getElem?_eq_some_iff.1 h.box1).1 (h.own.ne h.box1 (by decide))).trans h.box1, (hg.block _ (Array.getElem?_eq_some_iff.1 h.box2).1 (h.own.ne h.box2 (by decide))).trans h.box2, ho, ⟨Nat.le_trans h.le.1 hg.size, h.le.2⟩⟩
theorem Mid.grew (h : Mid B g1 g2 W2 w v o A n c out) (hg : Grew w w' (Value.slice A n c).ownBlock A') (ho : Own w' B A' n' c' out') : Mid B g1 g2 W2 w' v o A' n' c' out' := h.grow hg.by_ ho
theorem Mid.store1 (h : Mid B g1 g2 W2 w v o A n c out) (hne : g1 ≠ g2) (u : Value) : Mid B g1 g2 W2 (w.setCell ⟨g1, 0, none⟩ u) u o A n c out :=
  ⟨h.keeps.trans (Keeps.setCell (a := ⟨g1, 0, none⟩) w u h.box1 rfl h.le.2.1), box_set h.box1, heap_far (a := ⟨g1, 0, none⟩) h.box2 hne.symm _, h.own.set (h.own.ne h.box1 (by decide)) _, ⟨by simp [World.setCell]; exact h.le.1, h.le.2⟩⟩
theorem Mid.store2 (h : Mid B g1 g2 W2 w v o A n c out) (hne : g1 ≠ g2) (o' : Nat) : Mid B g1 g2 W2 (w.setCell ⟨g2, 0, none⟩ (.int .i64 (o' : Nat))) v o' A n c out :=
  ⟨h.keeps.trans (Keeps.setCell (a := ⟨g2, 0, none⟩) w _ h.box2 rfl h.le.2.2), heap_far (a := ⟨g2, 0, none⟩) h.box1 hne _, box_set h.box2, h.own.set (h.own.ne h.box2 (by decide)) _, ⟨by simp [World.setCell]; exact h.le.1, h.le.2⟩⟩
theorem Mid.start {row : Option Nat} (hb1 : w.heap[g1]? = some (.cells #[v] 31 (0, 0))) (hb2 : w.heap[g2]? = some (.cells #[.int .i64 (o : Nat)] 3 (0, 0))) (hle : B ≤ w.heap.size ∧ B ≤ g1 ∧ B ≤ g2)
    (hrow : ∀ g, row = some g → B ≤ g ∧ ∃ cs fr, w.heap[g]? = some (.cells cs 5 fr)) (hg : Grew w w' row A') (ho : Own w' B A' n' c' out') : Mid B g1 g2 w w' v o A' n' c' out' := by
  have ne : ∀ {g : Nat} {cs : Array Value} {e : TypeId} {fr : Nat × Nat}, w.heap[g]? = some (.cells cs e fr) → e ≠ 5 → some g ≠ row := by
    intro g cs e fr h he e1
    obtain ⟨cs', fr', h'⟩ := (hrow g e1.symm).2
    rw [h] at h'
    injection h' with h'
    injection h' with _ h'
    exact he h'
  exact ⟨hg.keeps hle.1 hrow, hg.block hb1 (ne hb1 (by decide)), hg.block hb2 (ne hb2 (by decide)), ho, ⟨Nat.le_trans hle.1 hg.by_.size, hle.2⟩⟩
theorem Mid.cell1 (h : Mid B g1 g2 W2 w v o A n c out) : w.cell? ⟨g1, 0, none⟩ = some v ∧ w.frozen? ⟨g1, 0, none⟩ = false ∧ g1 < w.heap.size :=
  ⟨by rw [cell_of_row w _ 0 _ _ _ h.box1]; rfl, by simp [World.frozen?, h.box1], (Array.getElem?_eq_some_iff.1 h.box1).1⟩
theorem Mid.cell2 (h : Mid B g1 g2 W2 w v o A n c out) : w.cell? ⟨g2, 0, none⟩ = some (.int .i64 (o : Nat)) ∧ w.frozen? ⟨g2, 0, none⟩ = false ∧ g2 < w.heap.size :=
  ⟨by rw [cell_of_row w _ 0 _ _ _ h.box2]; rfl, by simp [World.frozen?, h.box2], (Array.getElem?_eq_some_iff.1 h.box2).1⟩
/-- A round's end. -/
theorem Mid.text {w0 : World} {ps : List Handed} (h : Mid B g1 g2 W2 w (.slice A n c) o A n c out) (hb : Below B w0 W2) (hr : textRun ([123], 0) (ps.map Handed.word) = (out, o)) : Keeps (pB kinds) B W2 w ∧ TextI B g1 g2 w0 ps w :=
  ⟨h.keeps, ⟨A, n, c, h.box1, .inl (by rw [hr]; exact h.own)⟩, by rw [hr]; exact h.box2, hb.trans h.keeps.below⟩
end

theorem rep_any (k : Int) (w : World) (h0 : 0 ≤ k) (hk : k ≤ 1099511627776) : Calls Try.prog 35 #[.string ⟨#[125]⟩, .int .i64 k] w fun e w' => ∃ R : ByteArray, e = .returned (.string R) ∧ Hid (R = ⟨(List.replicate k.toNat 125).toArray⟩) ∧ R.size ≤ 1099511627776 ∧ Below w.heap.size w w' := by
  have h := Try.strings_Repeat ⟨#[125]⟩ k.toNat w (by omega) (by have : (ByteArray.mk #[125]).size = 1 := rfl; rw [this]; omega)
  rw [show ((k.toNat : Nat) : Int) = k from by omega] at h
  have : ∀ n : Nat, Lib.repeatL (ByteArray.mk #[125]).data.toList n = List.replicate n 125 := by
    intro n
    induction n with
    | zero => rfl
    | succ n ih => rw [List.replicate_succ, ← ih]; rfl
  rw [this] at h
  exact h.mono fun e w' hh => ⟨_, hh.1, rfl, by simp only [ByteArray.size_mk', List.size_toArray, List.length_replicate]; omega, hh.2⟩

set_option maxHeartbeats 2000000 in
theorem text_any (A : Option Addr) (c : Nat) (t : Tr) (w : World) (h : Holds w w.heap.size A t.len t) (hc : t.len ≤ c) (hm : c ≤ maxLen) (hsz : t.size ≤ 17179869184) (hbk : t.bulk ≤ 17179869184) :
    Calls Try.prog 27 #[.slice A t.len c] w fun e w' => e = .returned (.string ⟨t.text.toArray⟩) ∧ Below w.heap.size w w' := by
  obtain ⟨xs, hxs, hseq⟩ := edges_seq 3 A c t w h hc hm (by omega)
  obtain ⟨xl, hxl⟩ : ∃ n, n = t.len := ⟨_, rfl⟩
  rw [← hxl] at hc hseq ⊢
  have Hxs := Lib.hid hxs
  clear hxs hxl
  have kc := fun (w : World) (C : Array Value) (n c : Nat) => Lib.run_convert_bytes_const (P := Try.prog) w 31 5 C n c Try.underlying31 Try.underlying5
  refine (callsIn_wide (n := 4)).1 ?_
  refine callsIn_of_wp_marks Try.func27 rfl trivial ?_ rfl
  simp only [Try.ntmps27, List.size_toArray, List.length_cons, List.length_nil, Nat.reduceAdd, Nat.reduceSub, Array.replicate_succ, Array.replicate_zero, List.push_toArray, List.append_toArray, List.nil_append, List.cons_append]
  gi_wp2_with (refine ⟨trivial, ?_⟩; gi_at_call 34; refine (callsIn_wide.2 (edges_any _ _ _ _)).mono ?_; rintro e w1 ⟨rfl, rfl⟩)
  have hbx := heap_alloc_new (w.alloc (.cells #[.int .u8 123] 5 (1, 2))) (.cells #[.slice (some ⟨w.heap.size, 0, none⟩) 1 1] 31)
  have hgx := heap_alloc_new ((w.alloc (.cells #[.int .u8 123] 5 (1, 2))).alloc (.cells #[.slice (some ⟨w.heap.size, 0, none⟩) 1 1] 31)) (.cells #[.int .i64 0] 3)
  have hrx := heap_alloc_new w (.cells #[.int .u8 123] 5 (1, 2))
  have htx := heap_alloc_new (((w.alloc (.cells #[.int .u8 123] 5 (1, 2))).alloc (.cells #[.slice (some ⟨w.heap.size, 0, none⟩) 1 1] 31)).alloc (.cells #[.int .i64 0] 3)) (.cells #[.slice A xl c] 63)
  simp only [World.size_alloc] at hbx hgx htx
  refine wpIn_rangeFunc_T (T := kinds) (B := w.heap.size) rfl (by omega) (gf := 41) (lb := #[.pointer (some ⟨w.heap.size + 1 + 1 + 1, 0, none⟩)]) rfl trivial (enters_of Try.func41 (by kernel_rfl) rfl)
    (hseq _ (((((Below.refl _ w).alloc (Nat.le_refl _) _).alloc (by simp) _).alloc (by simp; omega) _).alloc (by simp; omega) _) _ (by rw [cell_of_row _ _ 0 _ _ _ htx]; rfl)) (Below.refl _ _) (by simp; omega) (fun _ => rfl)
    (TextI w.heap.size (w.heap.size + 1) (w.heap.size + 1 + 1) w) (fun _ _ _ => False) (TextI.bears _ _ _ _) (fun _ _ _ _ h _ => h) ?start ?round ?done ?stop
  case start =>
    exact ⟨⟨_, _, _, heap_keep (heap_keep hbx _) _, .inr ⟨rfl, rfl, rfl, rfl, heap_keep (heap_keep (heap_keep hrx _) _) _⟩⟩, heap_keep hgx _, ((((Below.refl _ w).alloc (Nat.le_refl _) _).alloc (by simp) _).alloc (by simp; omega) _).alloc (by simp; omega) _⟩
  case stop =>
    intro D c pre W _ _ h
    exact h.elim
  case done =>
    rintro D W hD ⟨⟨A1, N1, c1, hb1, ho1⟩, hb2, hB⟩ hK
    rw [Hxs.out] at ho1 hb2
    have hrun := text_run t
    have hlen := congrArg List.length hrun
    have hbl := body_le t
    obtain ⟨out, o, hst⟩ : ∃ a b, textRun ([123], 0) (t.flat 1) = (a, b) := ⟨_, _, rfl⟩
    rw [hst] at ho1 hb2 hrun hlen
    simp only [List.length_append, List.length_replicate, Tr.text, List.length_cons, List.length_nil] at hlen
    simp only at ho1 hb2 hrun
    have hSee : Sees W W.heap.size A1 N1 out := by
      rcases ho1 with ho1 | ⟨h1, h2, h3, h4, h5⟩
      · exact ho1.sees
      · have e : out = [123] := by
          have := Hxs.out
          subst h1
          rw [List.map_nil] at this
          rw [← this] at hst
          simp [textRun] at hst
          exact hst.1.symm
        subst e; subst h2; subst h3
        exact ⟨rfl, fun j u hu => ⟨⟨w.heap.size, 0, none⟩, rfl, (Array.getElem?_eq_some_iff.1 h5).1, by
          match j with
          | 0 => simp at hu; subst hu; rw [Addr.add_lit, cell_of_row W _ _ _ _ _ h5]; rfl
          | j + 1 => simp at hu⟩⟩
    have hc1 : W.cell? ⟨w.heap.size + 1, 0, none⟩ = some (.slice A1 N1 c1) := by rw [cell_of_row W _ 0 _ _ _ hb1]; rfl
    have hc2 : W.cell? ⟨w.heap.size + 1 + 1, 0, none⟩ = some (.int .i64 (o : Nat)) := by rw [cell_of_row W _ 0 _ _ _ hb2]; rfl
    have hcv := run_text 31 9 5 Try.underlying31 Try.underlying5 Try.underlying9 (c := c1) hSee.drew
    obtain ⟨O, hO⟩ : ∃ O : ByteArray, O = ⟨out.toArray⟩ := ⟨_, rfl⟩
    rw [← hO] at hcv
    have hOs : O.size ≤ 1099511627776 := by rw [hO]; simp only [ByteArray.size_mk', List.size_toArray]; omega
    have HO := Lib.hid hO
    clear hO
    have ho : (o : Int) ≤ 900000000000 := by omega
    have hl1 := (Array.getElem?_eq_some_iff.1 hb1).1
    have hl2 := (Array.getElem?_eq_some_iff.1 hb2).1
    have Hrun := Lib.hid hrun
    have HK := Lib.hid hK
    clear hlen hbl hst hrun kc hseq hb1 hb2 ho1 hK h Hxs
    gi_wp2
    refine wpIn_wide.2 (wp_shut ?_)
    have hw1 : IntKind.i64.wrap ((o : Int) + 1) = (o : Int) + 1 := IntWalk.i64_in _ (by omega)
    have ho1' : (0 : Int) ≤ (o : Int) + 1 := by omega
    have ho2 : (o : Int) + 1 ≤ 1099511627776 := by omega
    first
    | go_region_with (first
      | (go_at_call 35; refine (rep_any ((o : Int) + 1) _ ho1' ho2).mono ?_; rintro e w' ⟨R, rfl, HR, hRs, hb'⟩; have hc1' := (hb'.cell (p := ⟨w.heap.size + 1, 0, none⟩) hl1).trans hc1; have hcv' := run_text 31 9 5 Try.underlying31 Try.underlying5 Try.underlying9 (c := c1) (hSee.drew.below hb'); rw [← HO.out] at hcv'; have hadd := fun W => run_string_add_sum (P := Try.prog) W O R (by omega)))
    | fail
    all_goals
      have hK' : w'.heap[D]? = some (.deferred (some [])) := (hb'.block D (Array.getElem?_eq_some_iff.1 HK.out).1).trans HK.out
      have HK' := Lib.hid hK'
      clear hK'
      gi_wp2
      refine ⟨by simp, .inl ⟨_, _, rfl, run_takeDeferred HK'.out, ?_⟩⟩
      refine ⟨_, results_tmp rfl _ _ _, ?_, (hB.drew.trans (hb'.mono hB.size)).trans (belowK_b (w := w) (Nat.le_refl _) w' D _ _ (by simp at hD; omega) HK'.out rfl rfl)⟩
      have he : O ++ R = ⟨t.text.toArray⟩ := by
        rw [HO.out, HR.out, ByteArray.mk_append_mk, ← Hrun.out]
        rfl
      rw [← he]
      rfl
  case round =>
    rintro l pre x W hI hpre hle
    obtain ⟨sfx, hsfx⟩ := hpre
    have hxw : x.word ∈ t.flat 1 := by rw [← Hxs.out]; exact List.mem_map_of_mem (by rw [← hsfx]; simp)
    obtain ⟨hd1, hd2, hbn⟩ := flat_deep t 1 x.word hxw
    have hmore : (textStep (textRun ([123], 0) (pre.map Handed.word)) x.word).1.length ≤ (textRun ([123], 0) (t.flat 1)).1.length := by
      rw [← textRun_one, ← Hxs.out, ← hsfx, List.map_append, List.map_append, textRun_append _ (List.map Handed.word pre ++ List.map Handed.word [x])]
      exact textRun_more _ _
    have hlen := congrArg List.length (text_run t)
    have hbl := body_le t
    simp only [List.length_append, List.length_replicate, Tr.text, List.length_cons, List.length_nil] at hlen
    obtain ⟨⟨A1, N1, c1, hb1, ho1⟩, hb2, hB⟩ := hI
    have hr1 : textRun ([123], 0) ((pre ++ [x]).map Handed.word) = textStep (textRun ([123], 0) (pre.map Handed.word)) x.word := by rw [List.map_append]; exact textRun_one _ _ _
    obtain ⟨out, o, hst⟩ : ∃ a b, textRun ([123], 0) (pre.map Handed.word) = (a, b) := ⟨_, _, rfl⟩
    obtain ⟨d, nm, xa, xn, xc⟩ := x
    rw [hst] at hmore hr1 ho1 hb2
    simp only [Handed.word] at hd1 hd2 hbn hmore hr1
    have hout : (textStep (out, o) (d, nm, xn)).1.length ≤ 300000000000 := by omega
    clear hmore hlen hbl hseq kc hxw h
    have Hr1 := Lib.hid hr1
    have Hst := Lib.hid hst
    have Hsfx := Lib.hid hsfx
    clear hr1 hst hsfx
    simp only [Handed.args]
    gi_wp2
    refine ⟨Keeps.alloc _ W _ hB.size, fun W2 hk2 hsz2 => ?_⟩
    have hkI : Keeps (pI kinds) w.heap.size W W2 := (Keeps.alloc _ W _ hB.size).trans (hk2.of fun _ => pI_pC)
    have hgx : W2.heap[W.heap.size]? = some (.cells #[.string nm, .slice xa xn xc] 65 (0, 0)) := hk2.same _ _ (heap_alloc_new W _) rfl
    have hb1' := hkI.same _ _ hb1 rfl
    have hb2' := hkI.same _ _ hb2 rfl
    have hB2 : Below w.heap.size w W2 := hB.trans hkI.below
    have ho2 : Own W2 w.heap.size A1 N1 c1 out ∨ (o = 0 ∧ out = [123] ∧ A1 = some ⟨w.heap.size, 0, none⟩ ∧ N1 = 1 ∧ c1 = 1 ∧ W2.heap[w.heap.size]? = some (.cells #[.int .u8 123] 5 (1, 2))) := by
      rcases ho1 with ho1 | ⟨h1, h2, h3, h4, h5⟩
      · exact .inl (ho1.held hkI)
      · have hs := Hst.out
        rw [h1] at hs
        simp [textRun] at hs
        exact .inr ⟨hs.2.symm, hs.1.symm, h2, h3, h4, hkI.same _ _ h5 rfl⟩
    have hl1 := (Array.getElem?_eq_some_iff.1 hb1').1
    have hl2 := (Array.getElem?_eq_some_iff.1 hb2').1
    have hlx := (Array.getElem?_eq_some_iff.1 hgx).1
    have hc1 : W2.cell? ⟨w.heap.size + 1, 0, none⟩ = some (.slice A1 N1 c1) := by rw [cell_of_row W2 _ 0 _ _ _ hb1']; rfl
    have hf1 : W2.frozen? ⟨w.heap.size + 1, 0, none⟩ = false := by simp [World.frozen?, hb1']
    have hc2 : W2.cell? ⟨w.heap.size + 1 + 1, 0, none⟩ = some (.int .i64 (o : Nat)) := by rw [cell_of_row W2 _ 0 _ _ _ hb2']; rfl
    have hf2 : W2.frozen? ⟨w.heap.size + 1 + 1, 0, none⟩ = false := by simp [World.frozen?, hb2']
    have hcx : W2.cell? ⟨W.heap.size, 0, none⟩ = some (.string nm) := by rw [cell_of_row W2 _ 0 _ _ _ hgx]; rfl
    have hsee : Sees W2 W2.heap.size A1 N1 out := by
      rcases ho2 with ho2 | ⟨_, rfl, rfl, rfl, _, h5⟩
      · exact ho2.sees
      · exact ⟨rfl, fun j u hu => ⟨⟨w.heap.size, 0, none⟩, rfl, (Array.getElem?_eq_some_iff.1 h5).1, by
          match j with
          | 0 => simp at hu; subst hu; rw [Addr.add_lit, cell_of_row W2 _ _ _ _ _ h5]; rfl
          | j + 1 => simp at hu⟩⟩
    by_cases hdo : d ≤ o
    · have hod : (d : Int) ≤ (o : Int) := by omega
      have hd0 : (1 : Int) ≤ (d : Int) := by omega
      have ho3 : Own W2 w.heap.size A1 N1 c1 out := by
        rcases ho2 with ho2 | ⟨h, _⟩
        · exact ho2
        · omega
      have hstep : textStep (out, o) (d, nm, xn) = (out ++ (List.replicate (o - d + 1) 125 ++ [44, 32]) ++ quo nm.data.toList ++ [58, 32, 123], d) := by unfold textStep; rw [if_pos hdo]
      rw [hstep] at hout
      simp only [List.length_append, List.length_cons, List.length_nil, List.length_replicate] at hout
      have Hstep := Lib.hid hstep
      have hm2 : Mid w.heap.size (w.heap.size + 1) (w.heap.size + 1 + 1) W2 W2 (.slice A1 N1 c1) o A1 N1 c1 out := ⟨Keeps.refl _ _ _, hb1', hb2', ho3, hB2.size, by omega, by omega⟩
      have hod2 : (o : Int) - (d : Int) ≤ 300000000000 := by omega
      have hw1 : IntKind.i64.wrap ((o : Int) - (d : Int)) = (o : Int) - (d : Int) := IntWalk.i64_in _ (by omega)
      have hw2 : IntKind.i64.wrap ((o : Int) - (d : Int) + 1) = (o : Int) - (d : Int) + 1 := IntWalk.i64_in _ (by omega)
      have hrb : (0 : Int) ≤ (o : Int) - (d : Int) + 1 ∧ (o : Int) - (d : Int) + 1 ≤ 1099511627776 := by omega
      have Hrb := Lib.hid hrb
      clear hstep ho2 hsee hrb
      gi_wp2
      refine round_any (by kernel_rfl) (by kernel_rfl) ?_
      refine wpAny_take (i := 2) (v := .int .i64 d) rfl (by kernel_rfl) (by kernel_rfl) (by kernel_rfl) (fun _ _ _ h => h) (Or.inl ⟨by rfl, ?_⟩) ?_
      · intro w'
        go_simp
      simp only [List.getElem_toArray, List.getElem_cons_succ, List.getElem_cons_zero, Act.put, List.setIfInBounds_toArray, List.set_cons_zero, List.set_cons_succ]
      refine wpAny_ready (rs := [0, 1]) (by kernel_rfl) (by simp) (AllReady.cons rfl (fun K hK => ?_) (AllReady.cons rfl (fun K hK => ?_) AllReady.nil))
      · go_simp
        refine hK _ _ ?_
        clear hK K
        refine wpAny_ready (rs := [1]) (by kernel_rfl) (by simp) (AllReady.cons rfl (fun K hK => ?_) AllReady.nil)
        go_simp
        refine hK _ _ ?_
        clear hK K
        refine wpAny_take (i := 3) (v := .int .i64 ((o : Int) - (d : Int))) rfl (by kernel_rfl) (by kernel_rfl) (by kernel_rfl) (fun _ _ _ h => h) (Or.inl ⟨by rfl, ?_⟩) ?_
        · intro w'
          go_simp
        simp only [List.getElem_toArray, List.getElem_cons_succ, List.getElem_cons_zero, Act.put, List.setIfInBounds_toArray, List.set_cons_zero, List.set_cons_succ]
        refine wpAny_take (i := 4) (v := .int .i64 ((o : Int) - (d : Int) + 1)) rfl (by kernel_rfl) (by kernel_rfl) (by kernel_rfl) (fun _ _ _ h => h) (Or.inl ⟨by rfl, ?_⟩) ?_
        · intro w'
          go_simp
        simp only [List.getElem_toArray, List.getElem_cons_succ, List.getElem_cons_zero, Act.put, List.setIfInBounds_toArray, List.set_cons_zero, List.set_cons_succ]
        refine wpAny_ready (rs := [5]) (by kernel_rfl) (by simp) (AllReady.cons rfl (fun K hK => ?_) AllReady.nil)
        go_simp
        refine (rep_any _ _ Hrb.out.1 Hrb.out.2).mono ?_
        rintro e w3 ⟨R, rfl, HR, hRs, hb3⟩
        have hm3 := hm2.drew.new hb3
        obtain ⟨hc13, hf13, hl13⟩ := hm3.cell1
        refine hK _ _ ?_
        clear hK K
        refine wpAny_ready (rs := [6]) (by kernel_rfl) (by simp) (AllReady.cons rfl (fun K hK => ?_) AllReady.nil)
        refine step_append_from rfl (.tmp 16) (.tmp 21) _ rfl rfl rfl hm3.own (From.text w3 R) (by have := hm3.own.len; omega) hm3.le.1 ?_
        intro A4 N4 c4 w4 ho4 hg4 hat4
        have hm4 := hm3.grow hg4 ho4
        obtain ⟨hc14, hf14, hl14⟩ := hm4.cell1
        refine hK _ _ ?_
        clear hK K
        refine wpAny_ready (rs := [7]) (by kernel_rfl) (by simp) (AllReady.cons rfl (fun K hK => ?_) AllReady.nil)
        go_simp
        refine hK _ _ ?_
        clear hK K
        refine wpAny_done (by kernel_rfl) ?_ _
        have hm5 := hm4.store1 (by omega) (.slice A4 N4 c4)
        obtain ⟨hc15, hf15, hl15⟩ := hm5.cell1
        have hN4 : N4 + 2 ≤ 70368744177664 := by
          have := ho4.len
          rw [List.length_append, HR.out] at this
          simp only [List.length_replicate] at this
          omega
        have hsum : (out ++ R.data.toList ++ (ByteArray.mk #[44, 32]).data.toList).length + 4 * nm.size ≤ 549755813888 := by
          rw [List.length_append, List.length_append, HR.out]
          simp only [List.length_replicate, List.length_cons, List.length_nil]
          omega
        have Hsum := Lib.hid hsum
        clear hsum
        gi_wp2_with (first
          | (gi_at_builtin; refine wpListIn_append_from rfl (.tmp 23) (.const (.string ⟨#[44, 32]⟩)) _ rfl rfl rfl hm5.own (From.text _ ⟨#[44, 32]⟩) hN4 hm5.le.1 ?_; intro A6 N6 c6 w6 ho6 hg6 hat6; have hm6 := hm5.grow hg6 ho6; obtain ⟨hc16, hf16, hl16⟩ := hm6.cell1; have hm7 := hm6.store1 (by omega) (.slice A6 N6 c6); obtain ⟨hc17, hf17, hl17⟩ := hm7.cell1; have hcx6 : w6.cell? ⟨W.heap.size, 0, none⟩ = some (.string nm) := (by rw [cell_of_row _ _ 0 _ _ _ (hm6.keeps.same _ _ hgx rfl)]; rfl); have hcx7 : (w6.setCell ⟨w.heap.size + 1, 0, none⟩ (.slice A6 N6 c6)).cell? ⟨W.heap.size, 0, none⟩ = some (.string nm) := (by rw [cell_of_row _ _ 0 _ _ _ (hm7.keeps.same _ _ hgx rfl)]; rfl))
          | (refine ⟨trivial, ?_⟩; gi_at_call 36; refine (CallsIn.inRound l (callsIn_wide.2 (quote_any _ _ _ _ _ nm _ hm7.own hm7.le.1 Hsum.out))).mono ?_; rintro e w8 ⟨A8, N8, c8, rfl, ho8, hG8⟩; have hm8 := hm7.grew hG8 ho8; have hN8 : N8 + 3 ≤ 70368744177664 := (by have h1 := ho8.len; have h2 := Hsum.out; have h3 := quo_le nm.data.toList; rw [List.length_append] at h1; simp only [Array.length_toList] at h3; have : nm.data.size = nm.size := rfl; omega))
          | (gi_at_builtin; refine wpListIn_append_from rfl (.tmp 28) (.const (.string ⟨#[58, 32, 123]⟩)) _ rfl rfl rfl hm8.own (From.text w8 ⟨#[58, 32, 123]⟩) hN8 hm8.le.1 ?_; intro A9 N9 c9 w9 ho9 hg9 hat9; have hm9 := hm8.grow hg9 ho9; obtain ⟨hc19, hf19, hl19⟩ := hm9.cell1; obtain ⟨hc29, hf29, hl29⟩ := hm9.cell2))
        exact ((hm9.store1 (by omega) _).store2 (by omega) d).text hB2 (by rw [Hr1.out, Hstep.out, HR.out, show ((o : Int) - (d : Int) + 1).toNat = o - d + 1 from by omega]; simp)
      · go_simp
        refine hK _ _ ?_
        clear hK K
        refine wpAny_take (i := 3) (v := .int .i64 ((o : Int) - (d : Int))) rfl (by kernel_rfl) (by kernel_rfl) (by kernel_rfl) (fun _ _ _ h => h) (Or.inl ⟨by rfl, ?_⟩) ?_
        · intro w'
          go_simp
        simp only [List.getElem_toArray, List.getElem_cons_succ, List.getElem_cons_zero, Act.put, List.setIfInBounds_toArray, List.set_cons_zero, List.set_cons_succ]
        refine wpAny_take (i := 4) (v := .int .i64 ((o : Int) - (d : Int) + 1)) rfl (by kernel_rfl) (by kernel_rfl) (by kernel_rfl) (fun _ _ _ h => h) (Or.inl ⟨by rfl, ?_⟩) ?_
        · intro w'
          go_simp
        simp only [List.getElem_toArray, List.getElem_cons_succ, List.getElem_cons_zero, Act.put, List.setIfInBounds_toArray, List.set_cons_zero, List.set_cons_succ]
        refine wpAny_ready (rs := [0, 5]) (by kernel_rfl) (by simp) (AllReady.cons rfl (fun K hK => ?_) (AllReady.cons rfl (fun K hK => ?_) AllReady.nil))
        · go_simp
          refine hK _ _ ?_
          clear hK K
          refine wpAny_ready (rs := [5]) (by kernel_rfl) (by simp) (AllReady.cons rfl (fun K hK => ?_) AllReady.nil)
          go_simp
          refine (rep_any _ _ Hrb.out.1 Hrb.out.2).mono ?_
          rintro e w3 ⟨R, rfl, HR, hRs, hb3⟩
          have hm3 := hm2.drew.new hb3
          obtain ⟨hc13, hf13, hl13⟩ := hm3.cell1
          refine hK _ _ ?_
          clear hK K
          refine wpAny_ready (rs := [6]) (by kernel_rfl) (by simp) (AllReady.cons rfl (fun K hK => ?_) AllReady.nil)
          refine step_append_from rfl (.tmp 16) (.tmp 21) _ rfl rfl rfl hm3.own (From.text w3 R) (by have := hm3.own.len; omega) hm3.le.1 ?_
          intro A4 N4 c4 w4 ho4 hg4 hat4
          have hm4 := hm3.grow hg4 ho4
          obtain ⟨hc14, hf14, hl14⟩ := hm4.cell1
          refine hK _ _ ?_
          clear hK K
          refine wpAny_ready (rs := [7]) (by kernel_rfl) (by simp) (AllReady.cons rfl (fun K hK => ?_) AllReady.nil)
          go_simp
          refine hK _ _ ?_
          clear hK K
          refine wpAny_done (by kernel_rfl) ?_ _
          have hm5 := hm4.store1 (by omega) (.slice A4 N4 c4)
          obtain ⟨hc15, hf15, hl15⟩ := hm5.cell1
          have hN4 : N4 + 2 ≤ 70368744177664 := by
            have := ho4.len
            rw [List.length_append, HR.out] at this
            simp only [List.length_replicate] at this
            omega
          have hsum : (out ++ R.data.toList ++ (ByteArray.mk #[44, 32]).data.toList).length + 4 * nm.size ≤ 549755813888 := by
            rw [List.length_append, List.length_append, HR.out]
            simp only [List.length_replicate, List.length_cons, List.length_nil]
            omega
          have Hsum := Lib.hid hsum
          clear hsum
          gi_wp2_with (first
            | (gi_at_builtin; refine wpListIn_append_from rfl (.tmp 23) (.const (.string ⟨#[44, 32]⟩)) _ rfl rfl rfl hm5.own (From.text _ ⟨#[44, 32]⟩) hN4 hm5.le.1 ?_; intro A6 N6 c6 w6 ho6 hg6 hat6; have hm6 := hm5.grow hg6 ho6; obtain ⟨hc16, hf16, hl16⟩ := hm6.cell1; have hm7 := hm6.store1 (by omega) (.slice A6 N6 c6); obtain ⟨hc17, hf17, hl17⟩ := hm7.cell1; have hcx6 : w6.cell? ⟨W.heap.size, 0, none⟩ = some (.string nm) := (by rw [cell_of_row _ _ 0 _ _ _ (hm6.keeps.same _ _ hgx rfl)]; rfl); have hcx7 : (w6.setCell ⟨w.heap.size + 1, 0, none⟩ (.slice A6 N6 c6)).cell? ⟨W.heap.size, 0, none⟩ = some (.string nm) := (by rw [cell_of_row _ _ 0 _ _ _ (hm7.keeps.same _ _ hgx rfl)]; rfl))
            | (refine ⟨trivial, ?_⟩; gi_at_call 36; refine (CallsIn.inRound l (callsIn_wide.2 (quote_any _ _ _ _ _ nm _ hm7.own hm7.le.1 Hsum.out))).mono ?_; rintro e w8 ⟨A8, N8, c8, rfl, ho8, hG8⟩; have hm8 := hm7.grew hG8 ho8; have hN8 : N8 + 3 ≤ 70368744177664 := (by have h1 := ho8.len; have h2 := Hsum.out; have h3 := quo_le nm.data.toList; rw [List.length_append] at h1; simp only [Array.length_toList] at h3; have : nm.data.size = nm.size := rfl; omega))
            | (gi_at_builtin; refine wpListIn_append_from rfl (.tmp 28) (.const (.string ⟨#[58, 32, 123]⟩)) _ rfl rfl rfl hm8.own (From.text w8 ⟨#[58, 32, 123]⟩) hN8 hm8.le.1 ?_; intro A9 N9 c9 w9 ho9 hg9 hat9; have hm9 := hm8.grow hg9 ho9; obtain ⟨hc19, hf19, hl19⟩ := hm9.cell1; obtain ⟨hc29, hf29, hl29⟩ := hm9.cell2))
          exact ((hm9.store1 (by omega) _).store2 (by omega) d).text hB2 (by rw [Hr1.out, Hstep.out, HR.out, show ((o : Int) - (d : Int) + 1).toNat = o - d + 1 from by omega]; simp)
        · go_simp
          refine (rep_any _ _ Hrb.out.1 Hrb.out.2).mono ?_
          rintro e w3 ⟨R, rfl, HR, hRs, hb3⟩
          have hm3 := hm2.drew.new hb3
          obtain ⟨hc13, hf13, hl13⟩ := hm3.cell1
          refine hK _ _ ?_
          clear hK K
          refine wpAny_ready (rs := [0]) (by kernel_rfl) (by simp) (AllReady.cons rfl (fun K hK => ?_) AllReady.nil)
          go_simp
          refine hK _ _ ?_
          clear hK K
          refine wpAny_ready (rs := [6]) (by kernel_rfl) (by simp) (AllReady.cons rfl (fun K hK => ?_) AllReady.nil)
          refine step_append_from rfl (.tmp 16) (.tmp 21) _ rfl rfl rfl hm3.own (From.text w3 R) (by have := hm3.own.len; omega) hm3.le.1 ?_
          intro A4 N4 c4 w4 ho4 hg4 hat4
          have hm4 := hm3.grow hg4 ho4
          obtain ⟨hc14, hf14, hl14⟩ := hm4.cell1
          refine hK _ _ ?_
          clear hK K
          refine wpAny_ready (rs := [7]) (by kernel_rfl) (by simp) (AllReady.cons rfl (fun K hK => ?_) AllReady.nil)
          go_simp
          refine hK _ _ ?_
          clear hK K
          refine wpAny_done (by kernel_rfl) ?_ _
          have hm5 := hm4.store1 (by omega) (.slice A4 N4 c4)
          obtain ⟨hc15, hf15, hl15⟩ := hm5.cell1
          have hN4 : N4 + 2 ≤ 70368744177664 := by
            have := ho4.len
            rw [List.length_append, HR.out] at this
            simp only [List.length_replicate] at this
            omega
          have hsum : (out ++ R.data.toList ++ (ByteArray.mk #[44, 32]).data.toList).length + 4 * nm.size ≤ 549755813888 := by
            rw [List.length_append, List.length_append, HR.out]
            simp only [List.length_replicate, List.length_cons, List.length_nil]
            omega
          have Hsum := Lib.hid hsum
          clear hsum
          gi_wp2_with (first
            | (gi_at_builtin; refine wpListIn_append_from rfl (.tmp 23) (.const (.string ⟨#[44, 32]⟩)) _ rfl rfl rfl hm5.own (From.text _ ⟨#[44, 32]⟩) hN4 hm5.le.1 ?_; intro A6 N6 c6 w6 ho6 hg6 hat6; have hm6 := hm5.grow hg6 ho6; obtain ⟨hc16, hf16, hl16⟩ := hm6.cell1; have hm7 := hm6.store1 (by omega) (.slice A6 N6 c6); obtain ⟨hc17, hf17, hl17⟩ := hm7.cell1; have hcx6 : w6.cell? ⟨W.heap.size, 0, none⟩ = some (.string nm) := (by rw [cell_of_row _ _ 0 _ _ _ (hm6.keeps.same _ _ hgx rfl)]; rfl); have hcx7 : (w6.setCell ⟨w.heap.size + 1, 0, none⟩ (.slice A6 N6 c6)).cell? ⟨W.heap.size, 0, none⟩ = some (.string nm) := (by rw [cell_of_row _ _ 0 _ _ _ (hm7.keeps.same _ _ hgx rfl)]; rfl))
            | (refine ⟨trivial, ?_⟩; gi_at_call 36; refine (CallsIn.inRound l (callsIn_wide.2 (quote_any _ _ _ _ _ nm _ hm7.own hm7.le.1 Hsum.out))).mono ?_; rintro e w8 ⟨A8, N8, c8, rfl, ho8, hG8⟩; have hm8 := hm7.grew hG8 ho8; have hN8 : N8 + 3 ≤ 70368744177664 := (by have h1 := ho8.len; have h2 := Hsum.out; have h3 := quo_le nm.data.toList; rw [List.length_append] at h1; simp only [Array.length_toList] at h3; have : nm.data.size = nm.size := rfl; omega))
            | (gi_at_builtin; refine wpListIn_append_from rfl (.tmp 28) (.const (.string ⟨#[58, 32, 123]⟩)) _ rfl rfl rfl hm8.own (From.text w8 ⟨#[58, 32, 123]⟩) hN8 hm8.le.1 ?_; intro A9 N9 c9 w9 ho9 hg9 hat9; have hm9 := hm8.grow hg9 ho9; obtain ⟨hc19, hf19, hl19⟩ := hm9.cell1; obtain ⟨hc29, hf29, hl29⟩ := hm9.cell2))
          exact ((hm9.store1 (by omega) _).store2 (by omega) d).text hB2 (by rw [Hr1.out, Hstep.out, HR.out, show ((o : Int) - (d : Int) + 1).toNat = o - d + 1 from by omega]; simp)
    · have hod : (o : Int) < (d : Int) := by omega
      have hstep : textStep (out, o) (d, nm, xn) = (out ++ quo nm.data.toList ++ [58, 32, 123], d) := by unfold textStep; rw [if_neg hdo]
      rw [hstep] at hout
      simp only [List.length_append, List.length_cons, List.length_nil] at hout
      have hsum : out.length + 4 * nm.size ≤ 549755813888 := by omega
      have Hstep := Lib.hid hstep
      clear hstep
      -- what quote does, whichever
      have hq : ∃ row, (∀ g, row = some g → w.heap.size ≤ g ∧ ∃ cs fr, W2.heap[g]? = some (.cells cs 5 fr)) ∧ Calls Try.prog 36 #[.slice A1 N1 c1, .string nm] W2 fun e w' => ∃ A' N c', e = .returned (.slice A' N c') ∧ Own w' w.heap.size A' N c' (out ++ quo nm.data.toList) ∧ Grew W2 w' row A' := by
        rcases ho2 with ho2 | ⟨_, rfl, rfl, rfl, rfl, h5⟩
        · exact ⟨_, ho2.tag, quote_any _ _ _ _ _ _ _ ho2 hB2.size hsum⟩
        · exact ⟨none, (fun g hg => by cases hg), quote_full _ _ _ _ _ _ hsee hB2.size hsum⟩
      obtain ⟨row, hrow, hq⟩ := hq
      have Hq := Lib.hid hq
      clear hq hb1 hb2 ho1
      gi_wp2_with (first
        | (refine ⟨trivial, ?_⟩; gi_at_call 36; refine (CallsIn.inRound l (callsIn_wide.2 Hq.out)).mono ?_; rintro e w3 ⟨A3, N3, c3, rfl, ho3, hG3⟩; have hm3 := Mid.start hb1' hb2' ⟨hB2.size, by omega, by omega⟩ hrow hG3 ho3; have hN3 : N3 + 3 ≤ 70368744177664 := (by have := ho3.len; rw [List.length_append] at this; omega))
        | (gi_at_builtin; refine wpListIn_append_from rfl (.tmp 28) (.const (.string ⟨#[58, 32, 123]⟩)) _ rfl rfl rfl ho3 (From.text w3 ⟨#[58, 32, 123]⟩) hN3 hm3.le.1 ?_; intro A4 N4 c4 w4 ho4 hg4 hat4; have hm4 := hm3.grow hg4 ho4; obtain ⟨hc14, hf14, hl14⟩ := hm4.cell1; obtain ⟨hc24, hf24, hl24⟩ := hm4.cell2))
      exact ((hm4.store1 (by omega) _).store2 (by omega) d).text hB2 (by rw [Hr1.out, Hstep.out])
end Go.Proofs.Ytclgemkdlgpekaa
