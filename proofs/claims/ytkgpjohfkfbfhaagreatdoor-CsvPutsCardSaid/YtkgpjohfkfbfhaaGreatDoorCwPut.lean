/- csv's file: the file of a tree that fits. Conditions: as the tree's and the file's bounds say (PutOk); MaxLen's cell. -/
import Derived.Test.YtkgpjohfkfbfhaaGreatDoorMwCwLess
import Derived.Test.YtkgpjohfkfbfhaaGreatDoorMwCwSay
import Derived.Test.YtkgpjohfkfbfhaaGreatDoorMwRtLine
import Derived.Test.YtkgpjohfkfbfhaaGreatDoorMwEdg
import Derived.Test.YtkgpjohfkfbfhaaGreatDoorMwLiEach
import Derived.Deep.RegionHeld3
import Derived.Deep.RegionWith
import Derived.Deep.CutRange
namespace Go.Proofs.YtkgpjohfkfbfhaaGreatDoor.Cv
open Go.RowKit Go.Proofs.YtkgpjohfkfbfhaaGreatDoor.Jd Go.Proofs.YtkgpjohfkfbfhaaGreatDoor.Li Go.Proofs.YtkgpjohfkfbfhaaGreatDoor.Pt
set_option maxRecDepth 100000

def mkB (l : Bs) : ByteArray := ⟨l.toArray⟩
/-- The columns of a file that a tree is put into. -/
def colsP (xl : List Ln) (t : Tr) : List ByteArray := mns xl ++ (lessF (colsF t) (mns xl)).map mkB
/-- Texts that may be written. -/
def Tx (m : ByteArray) : Prop := m.size ≤ 4000 ∧ Pl m
structure PutOk (hd : Rw) (x0 : Ln) (xl : List Ln) (rs : List Rw) (t : Tr) : Prop where
  head : hd.fs = x0 :: xl
  len : rs.length ≤ 5000 ∧ xl.length ≤ 5000 ∧ t.size ≤ 90000
  fs : ∀ r ∈ hd :: rs, r.fs.length = xl.length + 1 ∧ ∀ x ∈ r.fs, x.1.length ≤ 4000
  asc : AscD t
  full : ∀ name, (getT t [name]).2 = true → Full (getT t [name]).1
  vals : ∀ name c, Tx (valF (getT t [name]).1 c)
  nms : (∀ r ∈ rs, Tx (nm r)) ∧ ∀ s ∈ t.names, Tx s
  cols : ∀ m ∈ colsP xl t, Tx m
  few : (colsP xl t).length ≤ 90000
theorem names_few (t : Tr) : ((kidsL t).flatMap Tr.names).length ≤ t.size := by
  induction t with
  | nil => exact Nat.zero_le _
  | cons s k r _ ih =>
    have h1 := names_length k
    have h2 := k.len_size
    simp only [kidsL, List.flatMap_cons, List.length_append, Tr.size]
    omega
theorem encStr_strs (ss : List Bs) : ss.map encStr = (ss.map mkB).map Value.string := by
  rw [List.map_map]; rfl

theorem concatW_any (l k : List ByteArray) (A B : Option Addr) (n m c d g : Nat) (W : World) (hg : W.heap[g]? = some (Obj.cells #[.slice A n c, .slice B m d] 36)) (h1 : SeesV W W.heap.size A n (l.map Value.string)) (h2 : SeesV W W.heap.size B m (k.map Value.string)) (hl : n + m ≤ 1000000) :
    Calls Tryz.prog 60 #[.slice (some ⟨g, 0, none⟩) 2 2] W fun e w' => ∃ A' c', e = .returned (.slice A' (l ++ k).length c') ∧ SeesV w' w'.heap.size A' (l ++ k).length ((l ++ k).map Value.string) ∧ Below W.heap.size W w' := by
  have e1 := h1.len
  have e2 := h2.len
  rw [List.length_map] at e1 e2
  have hc := Nm.concat_any g 2 _ [l.map fun x => x.data.toList, k.map fun x => x.data.toList] _ (Nm.Parts.two hg (strs_encs h1) (strs_encs h2)) rfl (by decide) (by simp; omega) (Array.getElem?_eq_some_iff.1 hg).1
  refine hc.mono ?_
  rintro e w' ⟨A', c', rfl, hs, hb2⟩
  have ef : [l.map fun x => x.data.toList, k.map fun x => x.data.toList].flatten = (l ++ k).map fun x => x.data.toList := by simp
  rw [ef] at hs ⊢
  rw [List.length_map] at hs ⊢
  exact ⟨A', c', rfl, encs_strs' hs, hb2⟩
theorem own_line (v : World) (base : Nat) (x : Ln) (h : base ≤ v.heap.size) : OwnL (v.alloc (Obj.cells #[encs x.1, encs x.2] 86)) base (some ⟨v.heap.size, 0, none⟩) 1 1 [x] :=
  ⟨rfl, .inr ⟨v.heap.size, 1, #[encs x.1, encs x.2], rfl, h, heap_alloc_new v _, Nat.le_refl _, by simp [maxLen], rfl, rfl⟩⟩
abbrev kB : ByteArray := ⟨#[107, 101, 121]⟩
theorem kB_tx : Tx kB := ⟨by decide, fun j b h => by
  match j, h with
  | 0, h => simp at h; subst h; decide
  | 1, h => simp at h; subst h; decide
  | 2, h => simp at h; subst h; decide
  | j + 3, h => simp at h⟩
/-- A row of lines of one's own. -/
def P2 (w4 : World) (ls : List Ln) (v : Value) (wx : World) : Prop := ∃ A c, v = .slice A ls.length c ∧ OwnL wx w4.heap.size A ls.length c ls ∧ Below w4.heap.size w4 wx
theorem get_asc {t : Tr} {p : ByteArray} (h : AscD t) : AscD (getT t [p]).1 := by
  rw [getT]
  split
  · exact kidT_asc h
  · trivial
theorem get_size {t : Tr} {p : ByteArray} : (getT t [p]).1.size ≤ t.size := by
  rw [getT]
  split
  · exact kidT_size t p
  · exact Nat.zero_le _
theorem rowcells {W : World} {g : Nat} {a b : Value} (h : W.heap[g]? = some (Obj.cells #[a, b] 75)) : W.cell? ⟨g, 0, none⟩ = some a ∧ W.cell? ⟨g, 1, none⟩ = some b :=
  ⟨by rw [cell_of_row _ _ _ _ _ _ h]; rfl, by rw [cell_of_row _ _ _ _ _ _ h]; rfl⟩
theorem box_grown {W W' : World} {g : Nat} {ob : Obj} {v : Value} (hg : W.heap[g]? = some ob) (hG : W.grownBy W' v.ownBlock) (hv : v.ownBlock ≠ some g) : W'.heap[g]? = some ob :=
  (hG.block g (Array.getElem?_eq_some_iff.1 hg).1 (fun e => hv e.symm)).trans hg
theorem stay_step {f : Rw → Option Ln} {rs : List Rw} {k : Nat} {r : Rw} (h : rs[k]? = some r) : (rs.take (k + 1)).filterMap f = (rs.take k).filterMap f ++ (f r).toList := by
  rw [List.take_add_one, h, List.filterMap_append]
  cases hf : f r <;> simp [hf]
/-- The line of a record that stays. -/
def stayF (cols : List ByteArray) (t : Tr) (r : Rw) : Option Ln := if (getT t [nm r]).2 = true then some (sayF (recF (nm r) cols (getT t [nm r]).1) r) else none
theorem row1_keep {w w' : World} {base N c : Nat} {A : Option Addr} {ss : List Bs} (h : Row1 w base A N c ss) (hb : Below w.heap.size w w') : Row1 w' base A N c ss :=
  ⟨h.1, h.2.imp id fun ⟨g, e, h1, h2, h3, h4⟩ => ⟨g, e, h1, Nat.lt_of_lt_of_le h2 hb.size, h3, fun j hj => ⟨(hb.cell (p := ⟨g, 0 + j, none⟩) h2).trans (h4 j hj).1, by
    have h5 := (h4 j hj).2
    unfold World.frozen? at h5 ⊢
    rw [hb.block _ h2]
    exact h5⟩⟩⟩
theorem apart_new {W : World} {base N c g11 : Nat} {A : Option Addr} {ss : List Bs} (hr : Row1 W base A N c ss) (hg : W.heap.size ≤ g11) (hs : ss ≠ []) : ∀ b o g, some (⟨g11, 0, none⟩ : Addr) = some ⟨b, o, none⟩ → A = some ⟨g, 0, none⟩ → b ≠ g := by
  intro b o g h1 h2
  injection h1 with h1
  injection h1 with e1 _
  rcases hr.2 with h0 | ⟨g', e2, _, h3, _⟩
  · exact absurd h0 hs
  · rw [h2] at e2
    injection e2 with e2
    injection e2 with e2 _
    omega
/-- The names that are new. -/
def P3 (w8 : World) (F : List Bs) (a b d : Value) (wx : World) : Prop := ∃ A c, a = .slice A F.length c ∧ b = .int .i64 F.length ∧ d = .int .i64 0 ∧ SeesV wx wx.heap.size A F.length ((F.map mkB).map Value.string) ∧ Below w8.heap.size w8 wx
theorem owns_below {w w' : World} {base size n c : Nat} {e : TypeId} {A : Option Addr} {vs : List Value} (h : w.ownsRow base e size (.slice A n c) n vs) (hb : Below w.heap.size w w') : w'.ownsRow base e size (.slice A n c) n vs :=
  World.ownsRow.kept h (row := none) ⟨hb.os, hb.tape, hb.output, hb.size, fun i hi _ => hb.block i hi⟩ (by cases hv : (Value.slice A n c).ownBlock <;> simp)
theorem owns_sees {w : World} {base n c : Nat} {A : Option Addr} {vs : List Value} (h : w.ownsRow base 9 1 (.slice A n c) n vs) : SeesV w w.heap.size A n vs := by
  have h1 := h.1
  refine ⟨by omega, fun j u hu => ?_⟩
  rcases own_form h with ⟨rfl, rfl, hl⟩ | ⟨g, rfl, hg, hgl, _, _, hc⟩
  · rw [hl] at hu; simp at hu
  · exact ⟨g, 0, rfl, hgl, hc _ _ hu⟩
theorem ended_size (e : Bs) : ∀ l : List Ln, (ended e l).length = l.length
  | [] => rfl
  | [_] => rfl
  | x :: y :: r => by
    rw [ended, List.length_cons, ended_size e (y :: r)]
    rfl
theorem insert_size (l : List Ln) (k : Nat) (ts : List Bs) : (insert l k ts).length = l.length + ts.length := by
  unfold Li.insert
  rw [ended_size]
  simp only [List.length_append, List.length_map, List.length_take, List.length_drop]
  omega
/-- The text of a row that is new. -/
def freshB (cols : List ByteArray) (t : Tr) (l : Bs) : Bs := Lib.join (fieldF (recF (mkB l) cols (getT t [mkB l]).1) []) [44]
/-- The lines of a file that stay; the file. -/
def stayL (hd : Rw) (xl : List Ln) (rs : List Rw) (t : Tr) : List Ln := [sayF ([kB] ++ colsP xl t) hd] ++ rs.filterMap (stayF (colsP xl t) t)
def putB (hd : Rw) (xl : List Ln) (rs : List Rw) (t : Tr) : Bs := join (insert (stayL hd xl rs t) (stayL hd xl rs t).length ((lessF (namesOf t.names) (rs.map nm)).map (freshB (colsP xl t) t)))
theorem full_any {t : Tr} (h : ∀ name, (getT t [name]).2 = true → Full (getT t [name]).1) (name : ByteArray) : Full (getT t [name]).1 := by
  by_cases hu : (getT t [name]).2 = true
  · exact h name hu
  · have e : (getT t [name]).1 = .nil := by
      rw [getT] at hu ⊢
      split
      · rename_i h1
        rw [if_pos h1] at hu
        exact absurd rfl hu
      · rfl
    rw [e]
    intro c hc
    rw [getT] at hc
    split at hc
    · rename_i h1
      simp [Tr.atIs, Tr.atN, dropT_zero, Tr.headIs] at h1
    · cases hc
theorem src_str (W : World) (x : Bs) (g : Nat) (hg : g = W.heap.size) : Src Tryz.prog 1 36 (.slice (some ⟨g, 0, none⟩) 1 1) 1 [encs x] (W.alloc (Obj.cells #[.string (mkB x)] 9)) :=
  hg ▸ Src.laid Tryz.underlying36 rfl (fun j u hu => by rw [cell_of_row _ _ _ _ _ _ (heap_alloc_new W _), ← hu]; simp [encs, mkB]) (by intro u hu; simp at hu; subst hu; rfl)
/-- The box of a file. -/
def boxV (Af Ar At : Option Addr) (nf cf nr cr nt ct : Nat) (en : ByteArray) : Obj := Obj.cells #[.slice Af nf cf, .string en, .slice Ar nr cr, .slice At nt ct] 78
/-- Behind the columns. -/
def P1 (Wb : World) (cols : List ByteArray) (v : Value) (wx : World) : Prop :=
  ∃ A c, v = .slice A cols.length c ∧ SeesV wx wx.heap.size A cols.length (cols.map Value.string) ∧ Below Wb.heap.size Wb wx

set_option maxHeartbeats 16000000 in
theorem put_any (hd : Rw) (x0 : Ln) (xl : List Ln) (rs : List Rw) (t : Tr) (Af Ar At A : Option Addr) (nf cf nr cr nt ct n c : Nat) (w : World) (hO : PutOk hd x0 xl rs t) (hf : SeesL w w.heap.size Af nf hd.fs) (hr : SeesR w w.heap.size Ar nr rs) (ht : Holds w w.heap.size A n t) (hG : Gl w) (hJ : (putB hd xl rs t).length ≤ 140737488355328) :
    Calls Tryz.prog 38 #[.agg #[.slice Af nf cf, .string hd.en, .slice Ar nr cr, .slice At nt ct], .slice A n c] w fun e w' => e = .returned (encs (putB hd xl rs t)) ∧ Below w.heap.size w w' := by
  obtain ⟨Wb, hWb⟩ : ∃ Wb, Wb = w.alloc (Obj.cells #[.slice Af nf cf, .string hd.en, .slice Ar nr cr, .slice At nt ct] 78) := ⟨_, rfl⟩
  have hb0 : Below w.heap.size w Wb := by rw [hWb]; exact (Below.refl _ _).alloc (Nat.le_refl _) _
  have hgb : Wb.heap[w.heap.size]? = some (Obj.cells #[.slice Af nf cf, .string hd.en, .slice Ar nr cr, .slice At nt ct] 78) := by rw [hWb]; exact heap_alloc_new w _
  have hszb : w.heap.size < Wb.heap.size := by rw [hWb]; simp
  have hnf : nf ≤ 100000 := by have := hf.len; have h2 := (hO.fs hd (by simp)).1; have := hO.len; omega
  have hnt : n ≤ 90000 := by have := ht.len; have := t.len_size; have := hO.len; omega
  obtain ⟨cols, hcols⟩ : ∃ cols, cols = colsP xl t := ⟨_, rfl⟩
  have hf' := hf
  rw [hO.head] at hf'
  have HCo := Lib.hid (fun (W : World) (hW : Below Wb.heap.size Wb W) => columns_any x0 xl Af Ar At nf cf nr cr nt ct hd.en W ((hf'.below (hb0.trans (hW.mono hb0.size))).more (Nat.le_trans hb0.size hW.size)) hnf)
  have hcl := hO.few
  have HCf := Lib.hid (fun (W : World) (hW : Below Wb.heap.size Wb W) => columnsOf_any t A n c W ((ht.below (hb0.trans (hW.mono hb0.size))).more (Nat.le_trans hb0.size hW.size)) (by omega) (by have := names_few t; have := hO.len; omega))
  have Hcols := Lib.hid hcols
  have hbx := cell_of_row _ w.heap.size 0 _ _ _ hgb
  have hbx1 := cell_of_row _ w.heap.size 1 _ _ _ hgb
  have hbx2 := cell_of_row _ w.heap.size 2 _ _ _ hgb
  have hbx3 := cell_of_row _ w.heap.size 3 _ _ _ hgb
  have HO := Lib.hid hO
  have Hf := Lib.hid hf
  have Hr := Lib.hid hr
  have Ht := Lib.hid ht
  have HG := Lib.hid hG
  have HB0 := Lib.hid hb0
  have Hgb := Lib.hid hgb
  have hml : (mns xl).length = xl.length := mns_len xl
  have Hml := Lib.hid hml
  have hxl := hO.len.2.1
  clear hO hf hr ht hG hb0 hgb hf' hcols hcl hml
  go_enter Tryz.func38, Tryz.ntmps38
  go_upto_region 1 with (fail)
  rw [← hWb]
  clear hWb
  go_wp2_with fail
  (with_reducible refine (HCo.out _ (Below.refl _ _)).mono ?_)
  rintro e w1 ⟨A1, c1, rfl, hs1, hb1⟩
  have HS1 := Lib.hid hs1
  have HB1 := Lib.hid hb1
  have HC1 := Lib.hid (HCf.out w1 hb1)
  clear hs1 hb1
  go_wp2_with fail
  (with_reducible refine HC1.out.mono ?_)
  rintro e w2 ⟨A2, c2, rfl, hr2, hb2⟩
  have HL := Lib.hid (less_any (colsF t) (mns xl) A2 A1 (colsF t).length c2 (mns xl).length c1 w1.heap.size w2 hr2 (seesV_more (HS1.out.below hb2) hb2.size) (fun hm hs => row_apart HS1.out (by simpa using hm) hr2 hs (Nat.le_refl _)) hb2.size (by
    have h1 := namesOf_le ((kidsL t).flatMap Tr.names)
    have h2 := names_few t
    have h3 := HO.out.len
    unfold colsF
    omega) (by rw [Hml.out]; omega))
  have HB2 := Lib.hid (HB1.out.trans (hb2.mono HB1.out.size))
  have HB12 := Lib.hid hb2
  clear hr2 hb2
  go_wp2_with fail
  (with_reducible refine HL.out.mono ?_)
  rintro e w3 ⟨rfl, hr3, hb3⟩
  have hs3 := hr3.sees
  rw [encStr_strs] at hs3
  have hlen3 : (lessF (colsF t) (mns xl)).length ≤ 90000 := by
    have := HO.out.few
    unfold colsP at this
    rw [List.length_append, List.length_map] at this
    omega
  have hC := concat2_any (mns xl) ((lessF (colsF t) (mns xl)).map mkB) A1 A2 (mns xl).length (lessF (colsF t) (mns xl)).length c1 c2 w3 (seesV_more (HS1.out.below (HB12.out.trans hb3)) (HB12.out.trans hb3).size) hs3 (by rw [Hml.out]; omega) w3.heap.size rfl
  rw [show mns xl ++ (lessF (colsF t) (mns xl)).map mkB = cols by rw [Hcols.out]; rfl] at hC
  have HC := Lib.hid hC
  have HB3 := Lib.hid (HB2.out.trans (hb3.mono HB1.out.size))
  clear hs3 hr3 hb3 hC hlen3
  go_wp2_with fail
  (with_reducible refine HC.out.mono ?_)
  rintro e w4 ⟨A4, c4, rfl, hs4, hb4⟩
  have HS4 := Lib.hid hs4
  have HB4 := Lib.hid (HB3.out.trans (hb4.mono HB3.out.size))
  clear hs4 hb4
  have hqw : Below w4.heap.size w4 ((w4.alloc (Obj.cells #[.string kB] 9)).alloc (Obj.cells #[.slice (some ⟨w4.heap.size, 0, none⟩) 1 1, .slice A4 cols.length c4] 36)).drew := (((Below.refl _ _).alloc (Nat.le_refl _) _).alloc (by simp) _).drew
  have hk0 : ((w4.alloc (Obj.cells #[.string kB] 9)).alloc (Obj.cells #[.slice (some ⟨w4.heap.size, 0, none⟩) 1 1, .slice A4 cols.length c4] 36)).drew.heap[w4.heap.size]? = some (Obj.cells #[.string kB] 9) := (((Below.refl (w4.alloc (Obj.cells #[.string kB] 9)).heap.size (w4.alloc (Obj.cells #[.string kB] 9))).alloc (Nat.le_refl _) _).block w4.heap.size (by simp)).trans (heap_alloc_new w4 _)
  have hk1 : ((w4.alloc (Obj.cells #[.string kB] 9)).alloc (Obj.cells #[.slice (some ⟨w4.heap.size, 0, none⟩) 1 1, .slice A4 cols.length c4] 36)).drew.heap[w4.heap.size + 1]? = some (Obj.cells #[.slice (some ⟨w4.heap.size, 0, none⟩) 1 1, .slice A4 cols.length c4] 36) := by
    have := heap_alloc_new (w4.alloc (Obj.cells #[.string kB] 9)) (Obj.cells #[.slice (some ⟨w4.heap.size, 0, none⟩) 1 1, .slice A4 cols.length c4] 36)
    rw [show (w4.alloc (Obj.cells #[.string kB] 9)).heap.size = w4.heap.size + 1 by simp] at this
    exact this
  have hcl4 := HO.out.few
  rw [← Hcols.out] at hcl4
  have HCc := Lib.hid (concatW_any [kB] cols (some ⟨w4.heap.size, 0, none⟩) A4 1 cols.length 1 c4 (w4.heap.size + 1) _ hk1 (sees_one hk0) (seesV_more (HS4.out.below hqw) hqw.size) (by omega))
  have HSay := Lib.hid (fun (W : World) (A5 : Option Addr) (c5 : Nat) (hW : Below w4.heap.size w4 W) (h5 : SeesV W W.heap.size A5 ([kB] ++ cols).length (([kB] ++ cols).map Value.string)) =>
    (show Calls Tryz.prog 63 #[.agg #[.slice Af nf cf, .string hd.en], .slice A5 (cols.length + 1) c5] W fun e w' => e = .returned (.agg #[encs (sayF ([kB] ++ cols) hd).1, encs (sayF ([kB] ++ cols) hd).2]) ∧ Below W.heap.size W w' from saying_any ([kB] ++ cols) hd A5 Af (cols.length + 1) c5 nf cf W (by rw [show cols.length + 1 = ([kB] ++ cols).length by simp]; exact h5) ((Hf.out.below (HB0.out.trans ((HB4.out.trans (hW.mono HB4.out.size)).mono HB0.out.size))).more (HB0.out.trans ((HB4.out.trans (hW.mono HB4.out.size)).mono HB0.out.size)).size) (by
      have h1 := Hf.out.len
      have h2 := (HO.out.fs hd (by simp)).1
      have h3 : cols.length = (mns xl).length + (lessF (colsF t) (mns xl)).length := by rw [Hcols.out]; simp [colsP]
      have h4 := Hml.out
      omega) (by omega) (fun m hm => by
      rcases List.mem_append.1 hm with hm | hm
      · rw [List.mem_singleton.1 hm]; exact kB_tx
      · exact HO.out.cols m (by rw [← Hcols.out]; exact hm)) (fun x hx => (HO.out.fs hd (by simp)).2 x hx) (HG.out.below (HB0.out.trans ((HB4.out.trans (hW.mono HB4.out.size)).mono HB0.out.size)))))
  have HX := Lib.hid (fun (W : World) (hW : Below w4.heap.size w4 W) => (And.intro (((HB4.out.trans (hW.mono HB4.out.size)).cell (p := ⟨w.heap.size, 0, none⟩) hszb).trans hbx) (((HB4.out.trans (hW.mono HB4.out.size)).cell (p := ⟨w.heap.size, 1, none⟩) hszb).trans hbx1) : W.cell? ⟨w.heap.size, 0, none⟩ = some (.slice Af nf cf) ∧ W.cell? ⟨w.heap.size, 1, none⟩ = some (.string hd.en)))
  have HQw := Lib.hid hqw
  have q0 : Below w4.heap.size w4 w4 := Below.refl _ _
  clear hqw hk0 hk1 hcl4
  go_upto_region 3 with (fail)
  go_cut [6] from 16 to 93 (fun v wx => P2 w4 [sayF ([kB] ++ cols) hd] v wx)
  case first =>
    go_region_held3 (fun W => W.cell? ⟨w.heap.size, 0, none⟩ = some (.slice Af nf cf) ∧ W.cell? ⟨w.heap.size, 1, none⟩ = some (.string hd.en))
      (first | exact HX.out _ q0.drew | exact HX.out _ (q0.alloc q0.size _).drew | exact HX.out _ ((q0.alloc q0.size _).alloc (q0.alloc q0.size _).size _).drew | exact HX.out _ q1 | exact HX.out _ q2 | exact HX.out _ (q2.alloc q2.size _))
      (first
      | (go_at_call 60; (with_reducible refine HCc.out.mono ?_); rintro e v1 ⟨A5, c5, rfl, hs5, hb5⟩; have q1 := HQw.out.trans (hb5.mono HQw.out.size))
      | (go_at_call 63; (with_reducible refine (HSay.out _ A5 c5 q1 hs5).mono ?_); rintro e v2 ⟨rfl, hb6⟩; have q2 := q1.trans (hb6.mono q1.size)))
    all_goals
      go_wp2_with fail
      go_meet
      exact ⟨some ⟨v2.heap.size, 0, none⟩, 1, rfl, own_line v2 _ _ q2.size, q2.alloc q2.size _⟩
  case rest =>
    obtain ⟨A6, c6, rfl, ho6, hb6⟩ := hcut
    obtain ⟨w5, rfl⟩ : ∃ w5 : World, w5 = wc := ⟨_, rfl⟩
    have HQ4 := Lib.hid (fun (W : World) (hW : Below w4.heap.size w4 W) => (HB0.out.trans ((HB4.out.trans (hW.mono HB4.out.size)).mono HB0.out.size) : Below w.heap.size w W))
    have HNm := Lib.hid (fun (r : Rw) (hr : r ∈ rs) (W : World) (Afr : Option Addr) (nfr cfr : Nat) (hs : SeesL W W.heap.size Afr nfr r.fs) => (by
      obtain ⟨y, ys, hy⟩ : ∃ y ys, r.fs = y :: ys := List.exists_cons_of_ne_nil (fun e => by have := (HO.out.fs r (by simp [hr])).1; rw [e] at this; simp at this)
      rw [hy] at hs
      exact rname_any y ys Afr nfr cfr W.heap.size r.en (nm r) W hs (Nat.le_refl _) (by rw [nm, hy]; rfl) :
        Calls Tryz.prog 65 #[.agg #[.slice Afr nfr cfr, .string r.en]] W fun e w' => e = .returned (.string (nm r)) ∧ Below W.heap.size W w'))
    have HGet := Lib.hid (fun (r : Rw) (W : World) (hW : Below w4.heap.size w4 W) (Ap : Option Addr) (hp : SeesV W W.heap.size Ap 1 ([nm r].map Value.string)) =>
      get_any t [nm r] A Ap n c 1 1 W ((Ht.out.below (HQ4.out W hW)).more (HQ4.out W hW).size) hp HO.out.asc (by have := HO.out.len; omega) (by simp))
    have HRec := Lib.hid (fun (r : Rw) (hk : (getT t [nm r]).2 = true) (W : World) (hW : Below w4.heap.size w4 W) (A' : Option Addr) (n' c' : Nat) (hh : Holds W W.heap.size A' n' (getT t [nm r]).1) =>
      record_any (nm r) (getT t [nm r]).1 cols A' A4 n' c' cols.length c4 W hh (get_asc HO.out.asc) (by have := HO.out.len; have := @get_size t (nm r); omega) (HO.out.full _ hk) (seesV_more (HS4.out.below hW) hW.size) (by have := HO.out.few; rw [← Hcols.out] at this; omega))
    have HSy := Lib.hid (fun (r : Rw) (hr : r ∈ rs) (W : World) (hW : Below w4.heap.size w4 W) (A5 : Option Addr) (c5 : Nat) (h5 : SeesV W W.heap.size A5 (recF (nm r) cols (getT t [nm r]).1).length ((recF (nm r) cols (getT t [nm r]).1).map Value.string)) (Afr : Option Addr) (nfr cfr : Nat) (hs : SeesL W W.heap.size Afr nfr r.fs) =>
      (show Calls Tryz.prog 63 #[.agg #[.slice Afr nfr cfr, .string r.en], .slice A5 (recF (nm r) cols (getT t [nm r]).1).length c5] W fun e w' => e = .returned (.agg #[encs (sayF (recF (nm r) cols (getT t [nm r]).1) r).1, encs (sayF (recF (nm r) cols (getT t [nm r]).1) r).2]) ∧ Below W.heap.size W w' from
        saying_any (recF (nm r) cols (getT t [nm r]).1) r A5 Afr _ c5 nfr cfr W h5 hs (by
          have h1 := hs.len
          have h2 := (HO.out.fs r (by simp [hr])).1
          have h3 : cols.length = (mns xl).length + (lessF (colsF t) (mns xl)).length := by rw [Hcols.out]; simp [colsP]
          have h4 := Hml.out
          simp only [recF, List.length_cons, List.length_map]
          omega) (by have := HO.out.few; rw [← Hcols.out] at this; simp only [recF, List.length_cons, List.length_map]; omega) (fun m hm => by
          rcases List.mem_cons.1 hm with rfl | hm
          · exact HO.out.nms.1 r hr
          · obtain ⟨cc, _, rfl⟩ := List.mem_map.1 hm
            exact HO.out.vals _ _) (fun x hx => (HO.out.fs r (by simp [hr])).2 x hx) (HG.out.below (HQ4.out W hW))))
    have hbx2' := ((HB4.out.trans (hb6.mono HB4.out.size)).cell (p := ⟨w.heap.size, 2, none⟩) hszb).trans hbx2
    have HO6 := Lib.hid ho6
    have HB6 := Lib.hid hb6
    have hnr := Hr.out.len
    have hnr5 : nr ≤ 5000 := by have := HO.out.len.1; omega
    have Hnr := Lib.hid hnr
    have hbx2 := Lib.hid hbx2
    clear ho6 hb6 HX HSay HCc HQw q0 HCo HCf hbx hbx1 hbx3 hnr
    go_wp2_with fail
    go_loopw [6, 36] (fun v i wr => ∃ (k : Nat) (A : Option Addr) (N c : Nat), k ≤ nr ∧ i = .int .i64 k ∧ v = .slice A N c ∧ Hid (N ≤ k + 1 ∧ N = ([sayF ([kB] ++ cols) hd] ++ (rs.take k).filterMap (stayF cols t)).length) ∧ Hid (OwnL wr w4.heap.size A N c ([sayF ([kB] ++ cols) hd] ++ (rs.take k).filterMap (stayF cols t))) ∧ Hid (Below w4.heap.size w4 wr)) (fun _ i _ => nr - (intOf i).toNat)
    case atStart => exact ⟨0, A6, 1, c6, Nat.zero_le _, rfl, rfl, Lib.hid (by simp), by simpa using HO6, HB6⟩
    case round =>
      obtain ⟨k, A7, N7, c7, hk, rfl, rfl, HN, HOw, HBw⟩ := hrel
      by_cases hlt : k < nr
      · obtain ⟨r, hr⟩ : ∃ r, rs[k]? = some r := ⟨_, List.getElem?_eq_getElem (by have := Hnr.out; omega)⟩
        have hrm := List.mem_of_getElem? hr
        obtain ⟨b, o, Afr, nfr, cfr, rfl, hbl, hc1, hc2, hsf, _, _⟩ := Hr.out.at_ k r hr
        have hc3 := ((HQ4.out wr HBw.out).cell (p := ⟨b, o + k * 2, none⟩) hbl).trans hc1
        have hc4 := ((HQ4.out wr HBw.out).cell (p := ⟨b, o + k * 2 + 1, none⟩) hbl).trans hc2
        have hkn : (k : Int) < (nr : Int) := by omega
        have hk0 : (0 : Int) ≤ (k : Int) := by omega
        have HSL := Lib.hid (fun (W : World) (hW : Below w4.heap.size w4 W) => (hsf.below (HQ4.out W hW)).more (HQ4.out W hW).size)
        have q1 : Below w4.heap.size w4 (wr.alloc (Obj.cells #[.slice Afr nfr cfr, .string r.en] 75)) := HBw.out.alloc HBw.out.size _
        have HN1 := Lib.hid (HNm.out r hrm _ Afr nfr cfr (HSL.out _ q1))
        have Hst := Lib.hid (stay_step (f := stayF cols t) hr)
        have Hlt := Lib.hid hlt
        have Hrm := Lib.hid hrm
        have Q1 := Lib.hid q1
        have Hwr := Lib.hid (heap_alloc_new wr (Obj.cells #[.slice Afr nfr cfr, .string r.en] 75))
        have hne : (Value.slice A7 N7 c7).ownBlock ≠ some wr.heap.size := fun e => by have := (HOw.out.lt _ e).2; omega
        clear hr hrm hc1 hc2 hsf q1 hlt hbl
        go_wp2_with fail
        (with_reducible refine HN1.out.mono ?_)
        rintro e w6 ⟨rfl, hb7⟩
        have hx6 : w6.heap[wr.heap.size]? = some (Obj.cells #[.slice Afr nfr cfr, .string r.en] 75) := (hb7.block _ (by simp)).trans Hwr.out
        have q6 := Q1.out.trans (hb7.mono Q1.out.size)
        have hw6 : Below wr.heap.size wr w6 := ((Below.refl wr.heap.size wr).alloc (Nat.le_refl _) _).trans (hb7.mono (by simp))
        have HG1 := Lib.hid (HGet.out r (w6.alloc (Obj.cells #[.string (nm r)] 9)) (q6.alloc q6.size _) (some ⟨w6.heap.size, 0, none⟩) (sees_one (heap_alloc_new w6 _)))
        have Hx6 := Lib.hid hx6
        have Q6 := Lib.hid q6
        have HW6 := Lib.hid hw6
        clear hb7 hx6 q6 hw6
        go_wp2_with fail
        (with_reducible refine HG1.out.mono ?_)
        rintro e w7 ⟨A', n', c', rfl, hn', hc', hh, hb8⟩
        have hw67 : Below w6.heap.size w6 w7 := ((Below.refl w6.heap.size w6).alloc (Nat.le_refl _) _).trans (hb8.mono (by simp))
        have q7 := Q6.out.trans (hw67.mono Q6.out.size)
        have hw7 := HW6.out.trans (hw67.mono HW6.out.size)
        have hx7 := (hw67.block _ (Array.getElem?_eq_some_iff.1 Hx6.out).1).trans Hx6.out
        have HHh := Lib.hid hh
        have Q7 := Lib.hid q7
        have HW7 := Lib.hid hw7
        have Hx7 := Lib.hid hx7
        clear hh hb8 hw67 q7 hw7 hx7 hn' hc'
        by_cases hu : (getT t [nm r]).2 = true
        · rw [hu]
          have Hu := Lib.hid hu
          clear hu
          have p7 : Below w7.heap.size w7 w7 := Below.refl _ _
          have HBX := Lib.hid (fun (W : World) (hW : Below w7.heap.size w7 W) => (hW.block _ (Array.getElem?_eq_some_iff.1 Hx7.out).1).trans Hx7.out)
          have HQ7 := Lib.hid (fun (W : World) (hW : Below w7.heap.size w7 W) => (Q7.out.trans (hW.mono Q7.out.size) : Below w4.heap.size w4 W))
          have HHh7 := Lib.hid (fun (W : World) (hW : Below w7.heap.size w7 W) => (HHh.out.below hW).more hW.size)
          have HOw7 := Lib.hid (fun (W : World) (hW : Below w7.heap.size w7 W) => OwnL.below HOw.out (HW7.out.trans (hW.mono HW7.out.size)))
          have hN46 : N7 + 1 ≤ 1099511627776 := by have := HN.out.1; omega
          go_upto_region 9 with (fail)
          go_region_held3 (fun W => W.cell? ⟨wr.heap.size, 0, none⟩ = some (.slice Afr nfr cfr) ∧ W.cell? ⟨wr.heap.size, 1, none⟩ = some (.string r.en))
            (first | exact rowcells (HBX.out _ p7.drew) | exact rowcells (HBX.out _ p8) | exact rowcells (HBX.out _ p9) | exact rowcells (HBX.out _ p10) | exact rowcells (HBX.out _ (p10.alloc p10.size _)) | exact rowcells (box_grown (HBX.out _ (p10.alloc p10.size _)) hg8 hne))
            (first
            | (go_at_call 65; (with_reducible refine (HNm.out r Hrm.out _ Afr nfr cfr (HSL.out _ (HQ7.out _ p7.drew))).mono ?_); rintro e w8 ⟨rfl, hb9⟩; have p8 := p7.drew.trans (hb9.mono p7.drew.size))
            | (go_at_call 66; (with_reducible refine (HRec.out r Hu.out _ (HQ7.out _ p8) A' n' c' (HHh7.out _ p8)).mono ?_); rintro e w9 ⟨A5, c5, rfl, hs5, hb10⟩; have p9 := p8.trans (hb10.mono p8.size))
            | (go_at_call 63; (with_reducible refine (HSy.out r Hrm.out _ (HQ7.out _ p9) A5 c5 hs5 Afr nfr cfr (HSL.out _ (HQ7.out _ p9))).mono ?_); rintro e w10 ⟨rfl, hb11⟩; have p10 := p9.trans (hb11.mono p9.size))
            | (refine step_append_row rfl (.tmp 49) (.tmp 57) _ _ rfl elem_line rfl rfl ((HOw7.out _ p10).alloc _) (src_line w10 (sayF (recF (nm r) cols (getT t [nm r]).1) r).1 (sayF (recF (nm r) cols (getT t [nm r]).1) r).2 _ rfl _ rfl) hN46 (Nat.le_trans (HQ7.out _ (p10.alloc p10.size _)).size (Nat.le_refl _)) ?_; intro A8 c8 w11 ho8 hg8 hat8))
          all_goals
            have hst : stayF cols t r = some (sayF (recF (nm r) cols (getT t [nm r]).1) r) := if_pos Hu.out
            have e10 := HQ7.out _ (p10.alloc p10.size (Obj.cells #[encs (sayF (recF (nm r) cols (getT t [nm r]).1) r).1, encs (sayF (recF (nm r) cols (getT t [nm r]).1) r).2] 86))
            have HB11 := Lib.hid (e10.grown hg8 e10.size (fun q hq => (HOw.out.lt q hq).1))
            have HO11 : Hid (OwnL w11 w4.heap.size A8 (N7 + 1) c8 ([sayF ([kB] ++ cols) hd] ++ (rs.take (k + 1)).filterMap (stayF cols t))) := Lib.hid (by
              rw [Hst.out, hst, ← List.append_assoc, OwnL, lcells_append]
              exact ho8)
            have HN11 : Hid (N7 + 1 ≤ k + 1 + 1 ∧ N7 + 1 = ([sayF ([kB] ++ cols) hd] ++ (rs.take (k + 1)).filterMap (stayF cols t)).length) := Lib.hid ⟨by have := HN.out.1; omega, by
              rw [Hst.out, hst, ← List.append_assoc, List.length_append, ← HN.out.2]
              rfl⟩
            clear ho8 hg8 hat8 e10 hst
            go_wp2_with fail
            go_roundw
            case rel => exact ⟨k + 1, A8, N7 + 1, c8, Hlt.out, by go_num, rfl, HN11, HO11, HB11⟩
            case measure => have := Hlt.out; simp [intOf]; omega
        · have hu2 : (getT t [nm r]).2 = false := by simpa using hu
          rw [hu2]
          have hst : stayF cols t r = none := if_neg hu
          have HO8 := Lib.hid (OwnL.below HOw.out HW7.out)
          have Hst2 := Lib.hid hst
          clear hu hu2 hst
          go_wp2_with fail
          go_roundw
          case rel => exact ⟨k + 1, A7, N7, c7, Hlt.out, by go_num, rfl, Lib.hid ⟨by have := HN.out.1; omega, by rw [Hst.out, Hst2.out]; simpa using HN.out.2⟩, Lib.hid (by rw [Hst.out, Hst2.out]; simpa using HO8.out), Q7⟩
          case measure => have := Hlt.out; simp [intOf]; omega
      · obtain rfl : k = nr := by omega
        have hall : rs.take k = rs := List.take_of_length_le (by have := Hnr.out; omega)
        rw [hall] at HN HOw
        obtain ⟨lns, hlns⟩ : ∃ lns, lns = [sayF ([kB] ++ cols) hd] ++ rs.filterMap (stayF cols t) := ⟨_, rfl⟩
        rw [← hlns] at HN HOw
        have HNr := Lib.hid (Nat.le_trans hk hnr5)
        have Hlns := Lib.hid hlns
        have hbx2'' := fun (W : World) (hW : Below w4.heap.size w4 W) => ((HB4.out.trans (hW.mono HB4.out.size)).cell (p := ⟨w.heap.size, 2, none⟩) hszb).trans (hbx2.out)
        have HX2 := Lib.hid hbx2''
        clear hlt hall hlns hbx2''
        have q9 : Below wr.heap.size wr (wr.alloc (Obj.cells #[.slice A n c] 30)).drew := ((Below.refl _ _).alloc (Nat.le_refl _) _).drew
        have hq9 := HBw.out.trans (q9.mono HBw.out.size)
        have HNa := Lib.hid (names_own [⟨A, n, c, t⟩] (some ⟨wr.heap.size, 0, none⟩) 1 1 (wr.alloc (Obj.cells #[.slice A n c] 30)).drew.heap.size (wr.alloc (Obj.cells #[.slice A n c] 30)).drew (fun j x hj => by
          obtain rfl : j = 0 := by have := (List.getElem?_eq_some_iff.1 hj).1; simpa using this
          simp only [List.getElem?_cons_zero, Option.some.injEq] at hj
          subst hj
          exact ⟨wr.heap.size, 0, rfl, by simp, cell_of_row _ _ 0 _ 30 (0, 0) (heap_alloc_new wr _), (Ht.out.below (HQ4.out _ hq9)).more (HQ4.out _ hq9).size⟩) rfl (Nat.le_refl _) (by have := names_length t; have := t.len_size; have := HO.out.len; simp [allNames]; omega) (by simp))
        rw [show allNames [⟨A, n, c, t⟩] = t.names by simp [allNames]] at HNa
        have HEa := Lib.hid (fun (W : World) (hW : Below w4.heap.size w4 W) => eachN_any rs (rs.map nm) Ar k cr w.heap.size W (HQ4.out W hW).size (by have := HNr.out; omega) (by rw [List.length_map]; exact Hnr.out) (Hr.out.below (HQ4.out W hW)) (fun j rr hrr q hq W' Af' nf' cf' hW' hs' => by
          rw [List.getElem?_map, hq] at hrr
          simp only [Option.map_some, Option.some.injEq] at hrr
          subst hrr
          exact HNm.out q (List.mem_of_getElem? hq) W' Af' nf' cf' (hs'.more (Nat.le_trans (HQ4.out W hW).size hW'.size))))
        have HQ9 := Lib.hid q9
        have HX9 := Lib.hid (fun (W : World) (hW : Below wr.heap.size wr W) => HX2.out W (HBw.out.trans (hW.mono HBw.out.size)))
        have HQ8 := Lib.hid (fun (W : World) (hW : Below wr.heap.size wr W) => (HBw.out.trans (hW.mono HBw.out.size) : Below w4.heap.size w4 W))
        have hFl : (namesOf t.names).length ≤ 90000 := by
          have h1 := namesOf_le t.names
          have h2 := names_length t
          have h3 := t.len_size
          have h4 := HO.out.len
          omega
        have q8 : Below wr.heap.size wr wr := Below.refl _ _
        clear q9 hq9
        go_upto_region 12 with (fail)
        go_cut [66, 67, 68] from 59 to 93 (fun a b d wx => P3 wr (lessF (namesOf t.names) (rs.map nm)) a b d wx)
        case first =>
          go_region_held3 (fun W => W.cell? ⟨w.heap.size, 2, none⟩ = some (.slice Ar k cr))
            (first | exact HX9.out _ q8.drew | exact HX9.out _ (q8.alloc q8.size _).drew | exact HX9.out _ q10 | exact HX9.out _ q11 | exact HX9.out _ q12)
            (first
            | (go_at_call 67; (with_reducible refine HNa.out.mono ?_); rintro e w10 ⟨A10, c10, rfl, hr10, hb10⟩; have q10 := HQ9.out.trans (hb10.mono HQ9.out.size))
            | (go_at_call 68; (with_reducible refine (HEa.out _ (HQ8.out _ q10)).mono ?_); rintro e w11 ⟨g11, rfl, hg11, hc11, hb11⟩; have q11 := q10.trans (hb11.mono q10.size))
            | (go_at_call 61; (with_reducible refine (less_any (namesOf t.names) (rs.map nm) A10 (some ⟨g11, 0, none⟩) _ c10 k k _ w11 (row1_keep hr10 hb11) (⟨by rw [List.length_map, List.length_map]; exact Hnr.out, fun j u hu => ⟨g11, 0, rfl, (Array.getElem?_eq_some_iff.1 hc11).1, by rw [cell_of_row _ _ _ _ _ _ hc11, Nat.zero_add]; simpa using hu⟩⟩) (fun _ hs => apart_new hr10 hg11 hs) (Nat.le_trans hb10.size hb11.size) (by omega) (by have := HNr.out; omega)).mono ?_); rintro e w12 ⟨rfl, hr12, hb12⟩; have q12 := q11.trans (hb12.mono HQ9.out.size)))
          all_goals
            have hs12 := hr12.sees
            rw [encStr_strs] at hs12
            have HS12 := Lib.hid hs12
            clear hs12 hr12 hb12 hr10 hb10 hb11 hc11
            go_wp2_with fail
            go_meet
            exact ⟨A10, c10, rfl, rfl, rfl, HS12.out, q12⟩
        case rest =>
          obtain ⟨A13, c13, rfl, rfl, rfl, hs13, hb13⟩ := hcut
          obtain ⟨w13, rfl⟩ : ∃ w13 : World, w13 = wc := ⟨_, rfl⟩
          obtain ⟨F, hF⟩ : ∃ F, F = lessF (namesOf t.names) (rs.map nm) := ⟨_, rfl⟩
          rw [← hF] at hs13
          rw [← hF]
          have hFl2 : F.length ≤ 90000 := by rw [hF]; exact Nat.le_trans (List.length_filter_le ..) hFl
          have hFm : ∀ l ∈ F, Tx (mkB l) := fun l hl => by
            rw [hF] at hl
            have h1 := (List.mem_filter.1 hl).1
            obtain ⟨s, hs, rfl⟩ := List.mem_map.1 ((namesOf_mem t.names l).1 h1)
            have e : mkB s.data.toList = s := by simp [mkB]
            rw [e]
            exact HO.out.nms.2 s hs
          have HF := Lib.hid hF
          have HFm := Lib.hid hFm
          have HS13 := Lib.hid hs13
          have q13 := HQ8.out _ hb13
          have HQ13 := Lib.hid (fun (W : World) (hW : Below w13.heap.size w13 W) => (q13.trans (hW.mono q13.size) : Below w4.heap.size w4 W))
          have HOw13 := Lib.hid (OwnL.below HOw.out hb13)
          have Q13 := Lib.hid q13
          have HFr := Lib.hid (fun (l : Bs) (W : World) (hW : Below w4.heap.size w4 W) (Ap : Option Addr) (hp : SeesV W W.heap.size Ap 1 ([mkB l].map Value.string)) =>
            get_any t [mkB l] A Ap n c 1 1 W ((Ht.out.below (HQ4.out W hW)).more (HQ4.out W hW).size) hp HO.out.asc (by have := HO.out.len; omega) (by simp))
          have HRe := Lib.hid (fun (l : Bs) (W : World) (hW : Below w4.heap.size w4 W) (A' : Option Addr) (n' c' : Nat) (hh : Holds W W.heap.size A' n' (getT t [mkB l]).1) =>
            record_any (mkB l) (getT t [mkB l]).1 cols A' A4 n' c' cols.length c4 W hh (get_asc HO.out.asc) (by have := HO.out.len; have := @get_size t (mkB l); omega) (full_any HO.out.full _) (seesV_more (HS4.out.below hW) hW.size) (by have := HO.out.few; rw [← Hcols.out] at this; omega))
          have HTe := Lib.hid (fun (l : Bs) (hl : l ∈ F) (W : World) (hW : Below w4.heap.size w4 W) (A5 : Option Addr) (c5 : Nat) (h5 : SeesV W W.heap.size A5 (recF (mkB l) cols (getT t [mkB l]).1).length ((recF (mkB l) cols (getT t [mkB l]).1).map Value.string)) =>
            (show Calls Tryz.prog 69 #[.slice A5 (recF (mkB l) cols (getT t [mkB l]).1).length c5, .slice none 0 0] W fun e w' => e = .returned (.string (mkB (freshB cols t l))) ∧ Below W.heap.size W w' from
              textOf_any (recF (mkB l) cols (getT t [mkB l]).1) [] A5 none _ c5 0 0 W h5 (SeesL.nil _ _ _) (Nat.zero_le _) (by have := HO.out.few; rw [← Hcols.out] at this; simp only [recF, List.length_cons, List.length_map]; omega) (fun m hm => by
                rcases List.mem_cons.1 hm with rfl | hm
                · exact HFm.out l hl
                · obtain ⟨cc, _, rfl⟩ := List.mem_map.1 hm
                  exact HO.out.vals _ _) (fun x hx => by cases hx) (HG.out.below (HQ4.out W hW))))
          clear hF hs13 hb13 q13 hFm hFl
          go_wp2_with fail
          go_loopw [11, 68] (fun v i wr => ∃ (j : Nat) (B : Option Addr) (d : Nat), j ≤ F.length ∧ i = .int .i64 j ∧ v = .slice B j d ∧ Hid (wr.ownsRow w13.heap.size 9 1 (.slice B j d) j (((F.take j).map (freshB cols t)).map encs)) ∧ Hid (Below w13.heap.size w13 wr)) (fun _ i _ => F.length - (intOf i).toNat)
          case atStart => exact ⟨0, none, 0, Nat.zero_le _, rfl, rfl, Lib.hid (World.ownsRow_nil _ w13.heap.size _ _), Lib.hid (Below.refl _ _)⟩
          case round =>
            obtain ⟨j, B, d, hj, rfl, rfl, HOr, HBr⟩ := hrel
            by_cases hlt : j < F.length
            · obtain ⟨l, hl⟩ : ∃ l, F[j]? = some l := ⟨_, List.getElem?_eq_getElem hlt⟩
              have hlm := List.mem_of_getElem? hl
              obtain ⟨b, o, rfl, hbl, hc1⟩ := HS13.out.cell j (.string (mkB l)) (by rw [List.getElem?_map, List.getElem?_map, hl]; rfl)
              have hc2 := (HBr.out.cell (p := ⟨b, o + j, none⟩) hbl).trans hc1
              have hjn : (j : Int) < (F.length : Int) := by omega
              have hj0 : (0 : Int) ≤ (j : Int) := by omega
              have hjN : j + 1 ≤ 1099511627776 := by omega
              have HG2 := Lib.hid (HFr.out l (wr.alloc (Obj.cells #[.string (mkB l)] 9)) (HQ13.out _ (HBr.out.alloc HBr.out.size _)) (some ⟨wr.heap.size, 0, none⟩) (sees_one (heap_alloc_new wr _)))
              have Hst : Hid (((F.take (j + 1)).map (freshB cols t)).map encs = ((F.take j).map (freshB cols t)).map encs ++ [encs (freshB cols t l)]) := Lib.hid (by rw [List.take_add_one, hl]; simp)
              have Hlm := Lib.hid hlm
              have Hlt := Lib.hid hlt
              clear hl hlm hlt hc1
              go_wp2_with fail
              (with_reducible refine HG2.out.mono ?_)
              rintro e w14 ⟨A', n', c', rfl, hn', hc', hh, hb14⟩
              have hw14 : Below wr.heap.size wr w14 := ((Below.refl wr.heap.size wr).alloc (Nat.le_refl _) _).trans (hb14.mono (by simp))
              have HW14 := Lib.hid hw14
              have HR2 := Lib.hid (HRe.out l w14 (HQ13.out _ (HBr.out.trans (hw14.mono HBr.out.size))) A' n' c' hh)
              clear hh hb14 hn' hc' hw14
              go_wp2_with fail
              (with_reducible refine HR2.out.mono ?_)
              rintro e w15 ⟨A5, c5, rfl, hs5, hb15⟩
              have hw15 := HW14.out.trans (hb15.mono HW14.out.size)
              have HT2 := Lib.hid (HTe.out l Hlm.out w15 (HQ13.out _ (HBr.out.trans (hw15.mono HBr.out.size))) A5 c5 hs5)
              have HW15 := Lib.hid hw15
              clear hs5 hb15 hw15
              go_wp2_with fail
              (with_reducible refine HT2.out.mono ?_)
              rintro e w16 ⟨rfl, hb16⟩
              have hw16 := HW15.out.trans (hb16.mono HW15.out.size)
              have HW16 := Lib.hid hw16
              have ho16 := owns_below HOr.out hw16
              have hsz16 : w13.heap.size ≤ (w16.alloc (Obj.cells #[.string (mkB (freshB cols t l))] 9)).heap.size := Nat.le_trans HBr.out.size (Nat.le_trans hw16.size (by simp))
              clear hb16 hw16
              go_wp2_with (at_builtin; refine wpList_append_row rfl (.tmp 79) (.tmp 85) _ _ rfl Jd.elem_str rfl rfl (ho16.alloc _) (src_str w16 (freshB cols t l) _ rfl) hjN hsz16 ?_; intro A8 c8 w17 ho8 hg8 hat8)
              have HB17 : Hid (Below w13.heap.size w13 w17) := Lib.hid (by
                have e1 : Below w13.heap.size w13 (w16.alloc (Obj.cells #[.string (mkB (freshB cols t l))] 9)) := (HBr.out.trans (HW16.out.mono HBr.out.size)).alloc (HBr.out.trans (HW16.out.mono HBr.out.size)).size _
                exact e1.grown hg8 e1.size (fun q hq => (HOr.out.lt q hq).1))
              have HO17 : Hid (w17.ownsRow w13.heap.size 9 1 (.slice A8 (j + 1) c8) (j + 1) (((F.take (j + 1)).map (freshB cols t)).map encs)) := Lib.hid (by rw [Hst.out]; exact ho8)
              clear ho8 hg8 hat8 ho16
              go_roundw
              case rel => exact ⟨j + 1, A8, c8, Hlt.out, by go_num, rfl, HO17, HB17⟩
              case measure => have := Hlt.out; simp [intOf]; omega
            · obtain ⟨m, hm⟩ : ∃ m, m = F.length := ⟨_, rfl⟩
              have hjm : j = F.length := by omega
              have hOr := HOr.out
              rw [hjm, List.take_length] at hOr
              have hlw := OwnL.below HOw13.out HBr.out
              have hcap := own_cap hlw
              have HI := Lib.hid (insert_any lns A7 N7 c7 (F.map (freshB cols t)) B F.length d N7 N7 wr hlw.sees hcap.1 (by have := HN.out.1; have := HNr.out; omega) (owns_sees hOr) (by omega) (.inr (.inl ⟨by omega, by omega, rfl⟩)) (by have := HN.out.1; have := HNr.out; omega))
              have HBw2 := Lib.hid (HQ13.out _ HBr.out)
              clear hOr hlw hcap hm
              subst hjm
              go_wp2_with fail
              (with_reducible refine HI.out.mono ?_)
              rintro e w19 ⟨A9, c9, rfl, ho9, hb19⟩
              have hN7 := HN.out.2
              have ej : join (insert lns N7 (F.map (freshB cols t))) = putB hd xl rs t := by
                rw [hN7, Hlns.out, HF.out, Hcols.out]
                rfl
              have hlen9 : (insert lns N7 (F.map (freshB cols t))).length ≤ 1099511627776 := by
                rw [insert_size, List.length_map, ← hN7]
                have := HN.out.1
                have := HNr.out
                omega
              have hJn := join_any (insert lns N7 (F.map (freshB cols t))) A9 _ c9 w19.heap.size w19 (Nat.le_refl _) ho9.sees hlen9 (by rw [ej]; exact hJ)
              rw [ej] at hJn
              have HJn := Lib.hid hJn
              have HB19 := Lib.hid (HQ4.out _ (HBw2.out.trans (hb19.mono HBw2.out.size)))
              clear hN7 ej hlen9 hJn ho9 hb19
              go_wp2_with fail
              (with_reducible refine HJn.out.mono ?_)
              rintro e w20 ⟨rfl, hb20⟩
              go_wp2_with fail
              go_ret
              exact ⟨rfl, HB19.out.trans (hb20.mono HB19.out.size)⟩
end Go.Proofs.YtkgpjohfkfbfhaaGreatDoor.Cv
