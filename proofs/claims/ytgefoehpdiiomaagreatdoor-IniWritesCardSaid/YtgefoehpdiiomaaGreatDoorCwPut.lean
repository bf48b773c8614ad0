/- csv's file: the file of a tree that fits. Conditions: as the tree's and the file's bounds say (PutOk); MaxLen's cell. -/
import Derived.Test.YtgefoehpdiiomaaGreatDoorMwNmMath
import Derived.Test.YtgefoehpdiiomaaGreatDoorMwClClone
import Derived.Test.YtgefoehpdiiomaaGreatDoorMwRcRows
import Derived.Test.YtgefoehpdiiomaaGreatDoorMwCvGrow
import Derived.Deep.RegionHeld3
import Derived.Deep.RegionWith
import Derived.Deep.CutRange
namespace Go.Proofs.YtgefoehpdiiomaaGreatDoor.Cv
open Go.RowKit Go.Proofs.YtgefoehpdiiomaaGreatDoor.Jd Go.Proofs.YtgefoehpdiiomaaGreatDoor.Li Go.Proofs.YtgefoehpdiiomaaGreatDoor.Pt
set_option maxRecDepth 100000

def mkB (l : Bs) : ByteArray := ⟨l.toArray⟩
/-- The columns of a file that a tree is put into. -/
def colsP (xl : List Ln) (t : Tr) : List ByteArray := mns xl ++ (lessF (colsF t) (mns xl)).map mkB
/-- Texts that may be written. -/
def Tx (m : ByteArray) : Prop := m.size ≤ 4000 ∧ Pl m
structure PutOk (hd : Rw) (x0 : Ln) (xl : List Ln) (rs : List Rw) (t : Tr) : Prop where
  head : hd.fs = x0 :: xl
  len : rs.length ≤ 5000 ∧ xl.length ≤ 5000 ∧ t.size ≤ 90000
  fs : ∀ r ∈ hd :: rs, r.fs.length = xl.length + 1 ∧ ∀ x ∈ r.fs, x.1.length ≤ 4000
  asc : AscD t
  full : ∀ name, (getT t [name]).2 = true → Full (getT t [name]).1
  vals : ∀ name c, Tx (valF (getT t [name]).1 c)
  nms : (∀ r ∈ rs, Tx (nm r)) ∧ ∀ s ∈ t.names, Tx s
  cols : ∀ m ∈ colsP xl t, Tx m
  few : (colsP xl t).length ≤ 90000
theorem names_few (t : Tr) : ((kidsL t).flatMap Tr.names).length ≤ t.size := by
  induction t with
  | nil => exact Nat.zero_le _
  | cons s k r _ ih =>
    have h1 := names_length k
    have h2 := k.len_size
    simp only [kidsL, List.flatMap_cons, List.length_append, Tr.size]
    omega
theorem encStr_strs (ss : List Bs) : ss.map encStr = (ss.map mkB).map Value.string := by
  rw [List.map_map]; rfl

theorem own_line (v : World) (base : Nat) (x : Ln) (h : base ≤ v.heap.size) : OwnL (v.alloc (Obj.cells #[encs x.1, encs x.2] 88)) base (some ⟨v.heap.size, 0, none⟩) 1 1 [x] :=
  ⟨rfl, .inr ⟨v.heap.size, 1, #[encs x.1, encs x.2], rfl, h, heap_alloc_new v _, Nat.le_refl _, by simp [maxLen], rfl, rfl⟩⟩
abbrev kB : ByteArray := ⟨#[107, 101, 121]⟩
theorem kB_tx : Tx kB := ⟨by decide, fun j b h => by
  match j, h with
  | 0, h => simp at h; subst h; decide
  | 1, h => simp at h; subst h; decide
  | 2, h => simp at h; subst h; decide
  | j + 3, h => simp at h⟩
/-- A row of lines of one's own. -/
def P2 (w4 : World) (ls : List Ln) (v : Value) (wx : World) : Prop := ∃ A c, v = .slice A ls.length c ∧ OwnL wx w4.heap.size A ls.length c ls ∧ Below w4.heap.size w4 wx
theorem get_asc {t : Tr} {p : ByteArray} (h : AscD t) : AscD (getT t [p]).1 := by
  rw [getT]
  split
  · exact kidT_asc h
  · trivial
theorem get_size {t : Tr} {p : ByteArray} : (getT t [p]).1.size ≤ t.size := by
  rw [getT]
  split
  · exact kidT_size t p
  · exact Nat.zero_le _
theorem box_grown {W W' : World} {g : Nat} {ob : Obj} {v : Value} (hg : W.heap[g]? = some ob) (hG : W.grownBy W' v.ownBlock) (hv : v.ownBlock ≠ some g) : W'.heap[g]? = some ob :=
  (hG.block g (Array.getElem?_eq_some_iff.1 hg).1 (fun e => hv e.symm)).trans hg
theorem stay_step {f : Rw → Option Ln} {rs : List Rw} {k : Nat} {r : Rw} (h : rs[k]? = some r) : (rs.take (k + 1)).filterMap f = (rs.take k).filterMap f ++ (f r).toList := by
  rw [List.take_add_one, h, List.filterMap_append]
  cases hf : f r <;> simp [hf]
/-- The line of a record that stays. -/
def stayF (cols : List ByteArray) (t : Tr) (r : Rw) : Option Ln := if (getT t [nm r]).2 = true then some (sayF (recF (nm r) cols (getT t [nm r]).1) r) else none
theorem row1_keep {w w' : World} {base N c : Nat} {A : Option Addr} {ss : List Bs} (h : Row1 w base A N c ss) (hb : Below w.heap.size w w') : Row1 w' base A N c ss :=
  ⟨h.1, h.2.imp id fun ⟨g, e, h1, h2, h3, h4⟩ => ⟨g, e, h1, Nat.lt_of_lt_of_le h2 hb.size, h3, fun j hj => ⟨(hb.cell (p := ⟨g, 0 + j, none⟩) h2).trans (h4 j hj).1, by
    have h5 := (h4 j hj).2
    unfold World.frozen? at h5 ⊢
    rw [hb.block _ h2]
    exact h5⟩⟩⟩
theorem apart_new {W : World} {base N c g11 : Nat} {A : Option Addr} {ss : List Bs} (hr : Row1 W base A N c ss) (hg : W.heap.size ≤ g11) (hs : ss ≠ []) : ∀ b o g, some (⟨g11, 0, none⟩ : Addr) = some ⟨b, o, none⟩ → A = some ⟨g, 0, none⟩ → b ≠ g := by
  intro b o g h1 h2
  injection h1 with h1
  injection h1 with e1 _
  rcases hr.2 with h0 | ⟨g', e2, _, h3, _⟩
  · exact absurd h0 hs
  · rw [h2] at e2
    injection e2 with e2
    injection e2 with e2 _
    omega
/-- The names that are new. -/
def P3 (w8 : World) (F : List Bs) (a b d : Value) (wx : World) : Prop := ∃ A c, a = .slice A F.length c ∧ b = .int .i64 F.length ∧ d = .int .i64 0 ∧ SeesV wx wx.heap.size A F.length ((F.map mkB).map Value.string) ∧ Below w8.heap.size w8 wx
theorem owns_below {w w' : World} {base size n c : Nat} {e : TypeId} {A : Option Addr} {vs : List Value} (h : w.ownsRow base e size (.slice A n c) n vs) (hb : Below w.heap.size w w') : w'.ownsRow base e size (.slice A n c) n vs :=
  World.ownsRow.kept h (row := none) ⟨hb.os, hb.tape, hb.output, hb.size, fun i hi _ => hb.block i hi⟩ (by cases hv : (Value.slice A n c).ownBlock <;> simp)
theorem owns_sees {w : World} {base n c : Nat} {A : Option Addr} {vs : List Value} (h : w.ownsRow base 9 1 (.slice A n c) n vs) : SeesV w w.heap.size A n vs := by
  have h1 := h.1
  refine ⟨by omega, fun j u hu => ?_⟩
  rcases own_form h with ⟨rfl, rfl, hl⟩ | ⟨g, rfl, hg, hgl, _, _, hc⟩
  · rw [hl] at hu; simp at hu
  · exact ⟨g, 0, rfl, hgl, hc _ _ hu⟩
theorem ended_size (e : Bs) : ∀ l : List Ln, (ended e l).length = l.length
  | [] => rfl
  | [_] => rfl
  | x :: y :: r => by
    rw [ended, List.length_cons, ended_size e (y :: r)]
    rfl
theorem insert_size (l : List Ln) (k : Nat) (ts : List Bs) : (insert l k ts).length = l.length + ts.length := by
  unfold Li.insert
  rw [ended_size]
  simp only [List.length_append, List.length_map, List.length_take, List.length_drop]
  omega
/-- The text of a row that is new. -/
def freshB (cols : List ByteArray) (t : Tr) (l : Bs) : Bs := Lib.join (fieldF (recF (mkB l) cols (getT t [mkB l]).1) []) [44]
/-- The lines of a file that stay; the file. -/
def stayL (hd : Rw) (xl : List Ln) (rs : List Rw) (t : Tr) : List Ln := [sayF ([kB] ++ colsP xl t) hd] ++ rs.filterMap (stayF (colsP xl t) t)
def putB (hd : Rw) (xl : List Ln) (rs : List Rw) (t : Tr) : Bs := join (insert (stayL hd xl rs t) (stayL hd xl rs t).length ((lessF (namesOf t.names) (rs.map nm)).map (freshB (colsP xl t) t)))
theorem full_any {t : Tr} (h : ∀ name, (getT t [name]).2 = true → Full (getT t [name]).1) (name : ByteArray) : Full (getT t [name]).1 := by
  by_cases hu : (getT t [name]).2 = true
  · exact h name hu
  · have e : (getT t [name]).1 = .nil := by
      rw [getT] at hu ⊢
      split
      · rename_i h1
        rw [if_pos h1] at hu
        exact absurd rfl hu
      · rfl
    rw [e]
    intro c hc
    rw [getT] at hc
    split at hc
    · rename_i h1
      simp [Tr.atIs, Tr.atN, dropT_zero, Tr.headIs] at h1
    · cases hc
theorem src_str (W : World) (x : Bs) (g : Nat) (hg : g = W.heap.size) : Src Tryz.prog 1 28 (.slice (some ⟨g, 0, none⟩) 1 1) 1 [encs x] (W.alloc (Obj.cells #[.string (mkB x)] 9)) :=
  hg ▸ Src.laid Tryz.underlying28 rfl (fun j u hu => by rw [cell_of_row _ _ _ _ _ _ (heap_alloc_new W _), ← hu]; simp [encs, mkB]) (by intro u hu; simp at hu; subst hu; rfl)
/-- Behind the columns. -/
def P1 (Wb : World) (cols : List ByteArray) (v : Value) (wx : World) : Prop :=
  ∃ A c, v = .slice A cols.length c ∧ SeesV wx wx.heap.size A cols.length (cols.map Value.string) ∧ Below Wb.heap.size Wb wx

end Go.Proofs.YtgefoehpdiiomaaGreatDoor.Cv
