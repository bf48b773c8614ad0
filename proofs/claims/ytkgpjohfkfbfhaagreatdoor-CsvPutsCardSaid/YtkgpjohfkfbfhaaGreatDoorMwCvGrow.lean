/- csv: a row of rows of one's own, being grown: the rows' fields lie in other blocks. No conditions. · csv's rows of lines. Conditions: texts of ASCII bytes, of 4000 at most; MaxLen's cell. · Trees in memory, told with the blocks they lie in: kept, copied, one of their cells replaced by another slice that reads the same. No conditions. · The reference's checker: it goes through a tree level by level. Conditions: fewer than 2^47 edges beside one another. -/
import Derived.Test.YtkgpjohfkfbfhaaGreatDoorMwCvFlds
import Derived.Test.YtkgpjohfkfbfhaaGreatDoorMwWords
import Derived.Outline
import Derived.Test.YtkgpjohfkfbfhaaGreatDoorCvRec
import Derived.Deep.CutRange
import Derived.Test.YtkgpjohfkfbfhaaGreatDoorStack
import Derived.Test.YtkgpjohfkfbfhaaGreatDoorMwChkMath
import Derived.Test.YtkgpjohfkfbfhaaGreatDoorMwJudge
import Derived.Test.YtkgpjohfkfbfhaaGreatDoorMwChkP
import Derived.Deep.QuietTactic
import Derived.BigQuiet
import Derived.IntWalk
namespace Go.Proofs.YtkgpjohfkfbfhaaGreatDoor.Cv
open Go.RowKit Go.Proofs.YtkgpjohfkfbfhaaGreatDoor.Jd Go.Proofs.YtkgpjohfkfbfhaaGreatDoor.Li
set_option maxRecDepth 100000

theorem own_cap' {w : World} {base n c size k : Nat} {e : TypeId} {A : Option Addr} {xs : List Value} (h : w.ownsRow base e size (.slice A n c) k xs) (hk : k = n) : n ≤ c ∧ c ≤ maxLen := by
  subst hk
  rcases h.2 with ⟨e, _⟩ | ⟨g, cap, cur, e, _, _, hn, hm, _⟩
  · injection e with _ h1 h2
    subst h1; subst h2
    exact ⟨Nat.le_refl _, Nat.zero_le _⟩
  · injection e with _ _ h2
    subst h2
    exact ⟨hn, hm⟩
/-- As SeesL, in blocks of which P holds. -/
structure SeesLP (w : World) (P : Nat → Prop) (A : Option Addr) (n : Nat) (ls : List Ln) : Prop where
  len : n = ls.length
  cell : ∀ (j : Nat) (u : Value), (lcells ls)[j]? = some u → ∃ b o, A = some ⟨b, o, none⟩ ∧ P b ∧ w.cell? ⟨b, o + j, none⟩ = some u
section
variable {w w' : World} {P P' : Nat → Prop} {n : Nat} {A : Option Addr} {ls : List Ln}
theorem SeesLP.keep (h : SeesLP w P A n ls) (hk : ∀ b o, P b → w'.cell? ⟨b, o, none⟩ = w.cell? ⟨b, o, none⟩) : SeesLP w' P A n ls :=
  ⟨h.len, fun j u hu => by
    obtain ⟨b, o, e, hb, hc⟩ := h.cell j u hu
    exact ⟨b, o, e, hb, (hk b _ hb).trans hc⟩⟩
theorem SeesLP.more (h : SeesLP w P A n ls) (hP : ∀ b, P b → P' b) : SeesLP w P' A n ls :=
  ⟨h.len, fun j u hu => by
    obtain ⟨b, o, e, hb, hc⟩ := h.cell j u hu
    exact ⟨b, o, e, hP b hb, hc⟩⟩
theorem SeesLP.sees {B : Nat} (h : SeesLP w P A n ls) (hP : ∀ b, P b → b < B) : SeesL w B A n ls :=
  ⟨h.len, fun j u hu => by
    obtain ⟨b, o, e, hb, hc⟩ := h.cell j u hu
    exact ⟨b, o, e, hP b hb, hc⟩⟩
end
/-- A row of fields of one's own lies in one block. -/
theorem ownF_lp {w : World} {base n c : Nat} {A : Option Addr} {ls : List Ln} (h : OwnF w base A n c ls) : SeesLP w (fun b => base ≤ b ∧ b < w.heap.size) A n ls := by
  rcases own_form h with ⟨rfl, rfl, hl⟩ | ⟨g, rfl, hg, hgl, _, _, hc⟩
  · have : ls = [] := List.eq_nil_of_length_eq_zero (by have := lcells_length ls; rw [hl] at this; simp at this; omega)
    subst this
    exact ⟨rfl, fun j u hu => by simp [lcells] at hu⟩
  · exact ⟨h.len, fun j u hu => ⟨g, 0, rfl, ⟨hg, hgl⟩, hc j u hu⟩⟩
theorem ownF_cap {w : World} {base n c : Nat} {A : Option Addr} {ls : List Ln} (h : OwnF w base A n c ls) : n ≤ c ∧ c ≤ maxLen := own_cap' h rfl
/-- Cells of rows; their fields lie in blocks that P picks. -/
def RwV (w : World) (P : Nat → Prop) : List Value → List Rw → Prop
  | [], [] => True
  | .slice A n c :: .string e :: vs, r :: rs => e = r.en ∧ n ≤ c ∧ c ≤ maxLen ∧ SeesLP w P A n r.fs ∧ RwV w P vs rs
  | _, _ => False
section
variable {w w' : World} {P P' : Nat → Prop}
theorem RwV.keep (hk : ∀ b o, P b → w'.cell? ⟨b, o, none⟩ = w.cell? ⟨b, o, none⟩) : ∀ {vs : List Value} {rs : List Rw}, RwV w P vs rs → RwV w' P vs rs
  | [], [], _ => trivial
  | .slice _ _ _ :: .string _ :: _, _ :: _, ⟨h1, h2, h3, h4, h5⟩ => ⟨h1, h2, h3, h4.keep hk, RwV.keep hk h5⟩
theorem RwV.more (hP : ∀ b, P b → P' b) : ∀ {vs : List Value} {rs : List Rw}, RwV w P vs rs → RwV w P' vs rs
  | [], [], _ => trivial
  | .slice _ _ _ :: .string _ :: _, _ :: _, ⟨h1, h2, h3, h4, h5⟩ => ⟨h1, h2, h3, h4.more hP, RwV.more hP h5⟩
theorem RwV.app : ∀ {vs us : List Value} {rs qs : List Rw}, RwV w P vs rs → RwV w P us qs → RwV w P (vs ++ us) (rs ++ qs)
  | [], _, [], _, _, h2 => h2
  | .slice _ _ _ :: .string _ :: _, _, _ :: _, _, ⟨h1, h2, h3, h4, h5⟩, h6 => ⟨h1, h2, h3, h4, RwV.app h5 h6⟩
theorem RwV.length : ∀ {vs : List Value} {rs : List Rw}, RwV w P vs rs → vs.length = rs.length * 2
  | [], [], _ => rfl
  | .slice _ _ _ :: .string _ :: _, _ :: _, ⟨_, _, _, _, h5⟩ => by
    have := RwV.length h5
    simp only [List.length_cons]
    omega
theorem RwV.at_ : ∀ {vs : List Value} {rs : List Rw} {k : Nat} {r : Rw}, RwV w P vs rs → rs[k]? = some r → ∃ A n c, vs[k * 2]? = some (.slice A n c) ∧ vs[k * 2 + 1]? = some (.string r.en) ∧ n ≤ c ∧ c ≤ maxLen ∧ SeesLP w P A n r.fs
  | [], [], _, _, _, h => by simp at h
  | .slice A n c :: .string e :: vs, r :: rs, 0, r', ⟨h1, h2, h3, h4, h5⟩, h => by
    simp only [List.getElem?_cons_zero, Option.some.injEq] at h
    subst h
    exact ⟨A, n, c, rfl, by rw [h1]; rfl, h2, h3, h4⟩
  | .slice A n c :: .string e :: vs, r :: rs, k + 1, r', ⟨h1, h2, h3, h4, h5⟩, h => by
    simp only [List.getElem?_cons_succ] at h
    rw [show (k + 1) * 2 = k * 2 + 1 + 1 by omega]
    exact RwV.at_ h5 h
end
/-- The slice is a row of rows of one's own. -/
structure OwnR (w : World) (base : Nat) (A : Option Addr) (n c : Nat) (rs : List Rw) (vs : List Value) : Prop where
  own : w.ownsRow base 75 2 (.slice A n c) n vs
  row : RwV w (fun b => base ≤ b ∧ b < w.heap.size ∧ some b ≠ (Value.slice A n c).ownBlock) vs rs
section
variable {w w' : World} {base n c : Nat} {A : Option Addr} {rs : List Rw} {vs : List Value}
theorem OwnR.nil (w : World) (base : Nat) : OwnR w base none 0 0 [] [] := ⟨World.ownsRow_nil w base _ _, trivial⟩
theorem OwnR.len (h : OwnR w base A n c rs vs) : n = rs.length := by
  have h1 := h.own.1
  have h2 := h.row.length
  omega
theorem OwnR.cap (h : OwnR w base A n c rs vs) : n ≤ c ∧ c ≤ maxLen := own_cap' h.own rfl
theorem OwnR.below (h : OwnR w base A n c rs vs) (hb : Below w.heap.size w w') : OwnR w' base A n c rs vs := by
  refine ⟨h.own.kept (row := none) ⟨hb.os, hb.tape, hb.output, hb.size, fun i hi _ => hb.block i hi⟩ (by cases hv : (Value.slice A n c).ownBlock <;> simp), ?_⟩
  exact (h.row.keep (w' := w') fun b o hb1 => hb.cell (p := ⟨b, o, none⟩) hb1.2.1).more fun b hb1 => ⟨hb1.1, Nat.lt_of_lt_of_le hb1.2.1 hb.size, hb1.2.2⟩
theorem OwnR.sees (h : OwnR w base A n c rs vs) : SeesR w w.heap.size A n rs := by
  refine ⟨h.len, fun k r hr => ?_⟩
  obtain ⟨Af, nf, cf, h1, h2, h3, h4, h5⟩ := h.row.at_ hr
  rcases own_form h.own with ⟨rfl, rfl, hl⟩ | ⟨g, rfl, hg, hgl, _, _, hc⟩
  · rw [hl] at h1; simp at h1
  · exact ⟨g, 0, Af, nf, cf, rfl, hgl, hc _ _ h1, hc _ _ h2, h5.sees (fun b hb => hb.2.1), h3, h4⟩
/-- Grown by rows whose fields lie elsewhere. -/
theorem OwnR.push {m c2 : Nat} {A2 : Option Addr} {qs : List Rw} {us : List Value} (h : OwnR w base A n c rs vs) (hu : RwV w (fun b => base ≤ b ∧ b < w.heap.size ∧ some b ≠ (Value.slice A n c).ownBlock) us qs)
    (ho : w'.ownsRow base 75 2 (.slice A2 m c2) m (vs ++ us)) (hg : w.grownBy w' (Value.slice A n c).ownBlock) (hat : ∀ a, A2 = some a → w.heap.size ≤ a.block ∨ some a.block = (Value.slice A n c).ownBlock) :
    OwnR w' base A2 m c2 (rs ++ qs) (vs ++ us) := by
  refine ⟨ho, ?_⟩
  refine ((h.row.app hu).keep (w' := w') fun b o hb => World.cell?_of_block (hg.block b hb.2.1 hb.2.2)).more fun b hb => ⟨hb.1, Nat.lt_of_lt_of_le hb.2.1 hg.size, fun e => ?_⟩
  cases A2 with
  | none => cases e
  | some a =>
    have e : b = a.block := by injection e
    rcases hat a rfl with h1 | h1
    · have := hb.2.1; omega
    · exact hb.2.2 (by rw [e]; exact h1)
end
theorem elem_row : Elem Tryz.prog 76 75 (.agg #[.slice none 0 0, .string ⟨#[]⟩]) 2 40 := ⟨Tryz.underlying76, by kernel_rfl, rfl, by omega⟩
/-- One row, laid beside it. -/
theorem src_row (W : World) (A : Option Addr) (n c : Nat) (e : ByteArray) (g : Nat) (hg : g = W.heap.size) : Src Tryz.prog 2 76 (.slice (some ⟨g, 0, none⟩) 1 1) 1 [.slice A n c, .string e] (W.alloc (Obj.cells #[Value.slice A n c, Value.string e] 75)) := by
  subst hg
  refine Src.ofSlice _ Tryz.underlying76 ⟨W.heap.size, 0, none⟩ 1 1 [.slice A n c, .string e] rfl (fun j u hu => ?_) (by intro u hu; simp at hu; rcases hu with rfl | rfl <;> rfl)
  rw [Addr.add_lit, cell_of_row _ _ _ _ _ _ (heap_alloc_new W _), ← hu, Nat.zero_add]
  simp
end Go.Proofs.YtkgpjohfkfbfhaaGreatDoor.Cv
namespace Go.Proofs.YtkgpjohfkfbfhaaGreatDoor.Cv
open Go.RowKit Go.Proofs.YtkgpjohfkfbfhaaGreatDoor.Jd Go.Proofs.YtkgpjohfkfbfhaaGreatDoor.Li
set_option maxRecDepth 100000

/-- The row of a line. -/
def rowF (x : Ln) : Rw := ⟨fldsL x.1, ⟨x.2.toArray⟩⟩
/-- The rows of lines behind these, or the line that has a fault, and the fault. -/
def rowsF : List Rw → Nat → List Ln → List Rw × Nat × Int
  | ahead, _, [] => (ahead, 0, 0)
  | ahead, i, x :: r => if faultF ahead (rowF x) ≠ 0 then ([], i + 1, faultF ahead (rowF x)) else rowsF (ahead ++ [rowF x]) (i + 1) r
theorem fault_any (ahead : List Rw) (r : Rw) (A Ar : Option Addr) (n c nr cr : Nat) (w : World) (hs : SeesR w w.heap.size A n ahead) (hn : n ≤ 100000) (hr : SeesL w w.heap.size Ar nr r.fs) (hnr : nr ≤ 100000) (hp : ∀ z ∈ mns r.fs, Pl z) (hnc : n ≤ c) (ht : ∀ x ∈ ahead, x.fs ≠ []) :
    Calls Tryz.prog 83 #[.slice A n c, .agg #[.slice Ar nr cr, .string r.en]] w fun e w' => e = .returned (.int .i64 (faultF ahead r)) ∧ Below w.heap.size w w' := by
  cases ahead with
  | nil =>
    obtain rfl : n = 0 := hs.len
    exact fault_head r A Ar c nr cr w hr hnr hp
  | cons h t =>
    obtain ⟨b, o, Af, nf, cf, rfl, _⟩ := hs.at_ 0 h rfl
    exact fault_rec h t r Ar b o n c nr cr w hs hn hr hnr hp hnc (fun x hx => ht x (List.mem_cons_of_mem _ hx))
theorem fault_fs {ahead : List Rw} {r : Rw} (h : ¬ faultF ahead r ≠ 0) : r.fs ≠ [] := fun e => h (by unfold faultF; rw [if_pos e]; decide)
theorem flds_len : ∀ (F : Nat) (l : Bs) (r : List Ln), flds F l = some r → r.length ≤ F
  | 0, _, _, h => by simp [flds] at h
  | F + 1, l, r, h => by
    rw [flds] at h
    split at h
    · cases h
    · split at h
      · injection h with h; subst h; simp
      · cases hf : flds F (l.drop (wid false l + 1)) with
        | none => rw [hf] at h; cases h
        | some q =>
          rw [hf] at h
          injection h with h
          subst h
          have := flds_len F _ q hf
          simp only [List.length_cons]
          omega
theorem fldsL_len (l : Bs) : (fldsL l).length ≤ l.length + 1 := by
  unfold fldsL
  cases h : flds (l.length + 1) l with
  | none => simp
  | some r => exact flds_len _ _ _ h
/-- What the region leaves: the row just read. -/
def RdRow (w : World) (base : Nat) (x : Ln) (p : Value) (w' : World) : Prop :=
  ∃ (g : Nat) (Af : Option Addr) (cf : Nat), p = .pointer (some ⟨g, 0, none⟩) ∧ w'.heap[g]? = some (.cells #[.slice Af (fldsL x.1).length cf, encs x.2] 75 (0, 0)) ∧ OwnF w' base Af (fldsL x.1).length cf (fldsL x.1) ∧ Below w.heap.size w w'
theorem own_base {w : World} {base base' n size : Nat} {e : TypeId} {v : Value} {xs : List Value} (h : w.ownsRow base' e size v n xs) (hb : base ≤ base') : w.ownsRow base e size v n xs :=
  ⟨h.1, by
    rcases h.2 with hn | ⟨g, cap, cur, e1, hg, rest⟩
    · exact .inl hn
    · exact .inr ⟨g, cap, cur, e1, Nat.le_trans hb hg, rest⟩⟩
/-- What is answered. -/
def RoP (w : World) (o : List Rw × Nat × Int) (en : Ending) (w' : World) : Prop :=
  ∃ (A : Option Addr) (c : Nat) (vs : List Value), en = .returned (.tuple #[.slice A o.1.length c, .int .i64 (o.2.1 : Nat), .int .i64 o.2.2]) ∧ OwnR w' w.heap.size A o.1.length c o.1 vs ∧ Below w.heap.size w w'

set_option maxHeartbeats 8000000 in
theorem rowsOf_any (ls : List Ln) (A : Option Addr) (n c B : Nat) (w : World) (h : SeesL w B A n ls) (hB : B ≤ w.heap.size) (hn : n ≤ 5000) (hz : ∀ x ∈ ls, x.1.length ≤ 4000) (hp : ∀ x ∈ ls, ∀ z ∈ mns (fldsL x.1), Pl z) (hG : Gl w) :
    Calls Tryz.prog 56 #[.slice A n c] w (RoP w (rowsF [] 0 ls)) := by
  obtain ⟨R, hR⟩ : ∃ R, R = rowsF [] 0 ls := ⟨_, rfl⟩
  rw [← hR]
  have HR := Lib.hid hR
  have Hl := Lib.hid h.len
  have HH := Lib.hid h
  have Hz := Lib.hid hz
  have Hp := Lib.hid hp
  have HG := Lib.hid hG
  clear h hz hp hG hR
  go_enter Tryz.func56, Tryz.ntmps56
  go_wp2_with fail
  go_loopw [5, 12] (fun a i wr => ∃ (k : Nat) (A5 : Option Addr) (c5 : Nat) (acc : List Rw) (vs : List Value), k ≤ n ∧ i = .int .i64 k ∧ a = .slice A5 k c5 ∧ Hid (OwnR wr w.heap.size A5 k c5 acc vs) ∧ Hid (Below w.heap.size w wr) ∧ Hid (∀ x ∈ acc, x.fs ≠ []) ∧ Hid (R = rowsF acc k (ls.drop k))) (fun _ i _ => n - (intOf i).toNat)
  case atStart => exact ⟨0, none, 0, [], [], Nat.zero_le _, rfl, rfl, Lib.hid (OwnR.nil _ _), Lib.hid (Below.refl _ _), Lib.hid (fun x hx => by cases hx), HR⟩
  case round =>
    obtain ⟨k, A5, c5, acc, vs, hk, rfl, rfl, HO, HW, HN, HF⟩ := hrel
    by_cases hlt : k < n
    · have hkl : k < ls.length := by have := Hl.out; omega
      obtain ⟨x, hx⟩ : ∃ x, ls[k]? = some x := ⟨_, List.getElem?_eq_getElem hkl⟩
      have hxe : ls[k] = x := (List.getElem?_eq_some_iff.1 hx).2
      have hxm := List.mem_of_getElem? hx
      obtain ⟨b, o, rfl, hbl, hc1, hc2⟩ := (HH.out.below (HW.out.mono hB)).at_ hx
      obtain ⟨x1, hx1⟩ : ∃ x1 : ByteArray, encs x.1 = .string x1 := ⟨_, rfl⟩
      obtain ⟨x2, hx2⟩ : ∃ x2 : ByteArray, encs x.2 = .string x2 := ⟨_, rfl⟩
      rw [hx1] at hc1
      rw [hx2] at hc2
      have hx1d : x1.data.toList = x.1 := by
        have e : (⟨x.1.toArray⟩ : ByteArray) = x1 := by unfold encs at hx1; injection hx1
        rw [← e]
      have hx1s : x1.size ≤ 4000 := by
        have e : x1.size = x1.data.toList.length := rfl
        rw [e, hx1d]
        exact Hz.out x hxm
      have hF := HF.out
      rw [List.drop_eq_getElem_cons hkl, hxe, rowsF] at hF
      have hkn : (k : Int) < (n : Int) := by omega
      have hk0 : (0 : Int) ≤ (k : Int) := by omega
      obtain ⟨W1, hW1⟩ : ∃ W, W = wr.alloc (Obj.cells #[.string x1, .string x2] 86) := ⟨_, rfl⟩
      have hb1 : Below wr.heap.size wr W1 := by rw [hW1]; exact (Below.refl _ _).alloc (Nat.le_refl _) _
      have hg1 : W1.heap[wr.heap.size]? = some (Obj.cells #[.string x1, .string x2] 86) := by rw [hW1]; exact heap_alloc_new wr _
      have hl1 : wr.heap.size < W1.heap.size := (Array.getElem?_eq_some_iff.1 hg1).1
      have hp0 : W1.cell? ⟨wr.heap.size, 0, none⟩ = some (.string x1) := by rw [cell_of_row _ _ _ _ _ _ hg1]; rfl
      have hp1 : W1.cell? ⟨wr.heap.size, 1, none⟩ = some (.string x2) := by rw [cell_of_row _ _ _ _ _ _ hg1]; rfl
      have HK := Lib.hid (fun (W : World) (hW : Below W1.heap.size W1 W) => (⟨(hW.cell (p := ⟨wr.heap.size, 0, none⟩) hl1).trans hp0, (hW.cell (p := ⟨wr.heap.size, 1, none⟩) hl1).trans hp1⟩ : W.cell? ⟨wr.heap.size, 0, none⟩ = some (.string x1) ∧ W.cell? ⟨wr.heap.size, 1, none⟩ = some (.string x2)))
      have hG1 : Gl W1 := (HG.out.below HW.out).below hb1
      have HFi := Lib.hid (fun (W : World) (hW : Below W1.heap.size W1 W) => by
        have := fields_any x1 W hx1s (hG1.below hW)
        rw [hx1d] at this
        exact this)
      have hq0 : Below W1.heap.size W1 W1.drew := (Below.refl _ _).drew
      have Hlt := Lib.hid hlt
      have HF2 := Lib.hid hF
      have HB1 := Lib.hid hb1
      have Hxm := Lib.hid hxm
      have Hx2 := Lib.hid hx2
      clear hkl hx hxe hxm hlt hx1 hx2 hx1d hx1s hF hb1 hg1 hp0 hp1 hG1
      go_upto_region 5 with (fail)
      rw [← hW1]
      clear hW1
      go_cut [8] from 13 to 35 (fun p wx => RdRow W1 W1.heap.size x p wx)
      case first =>
        have hqa : Below W1.heap.size W1 (W1.alloc (Obj.cells #[.slice none 0 0, .string ⟨#[]⟩] 75)).drew := ((Below.refl W1.heap.size W1).alloc (Nat.le_refl _) (Obj.cells #[.slice none 0 0, .string ⟨#[]⟩] 75)).drew
        have hga : (W1.alloc (Obj.cells #[.slice none 0 0, .string ⟨#[]⟩] 75)).drew.heap[W1.heap.size]? = some (Obj.cells #[.slice none 0 0, .string ⟨#[]⟩] 75) := heap_alloc_new W1 _
        have hgal : W1.heap.size < (W1.alloc (Obj.cells #[.slice none 0 0, .string ⟨#[]⟩] 75)).drew.heap.size := (Array.getElem?_eq_some_iff.1 hga).1
        go_region_held3 (fun W => Below W1.heap.size W1 W ∧ W.cell? ⟨wr.heap.size, 0, none⟩ = some (.string x1) ∧ W.cell? ⟨wr.heap.size, 1, none⟩ = some (.string x2))
          (first | exact ⟨hq0, HK.out _ hq0⟩ | exact ⟨hq2, HK.out _ hq2⟩ | exact ⟨hqa, HK.out _ hqa⟩ | exact ⟨hq2.alloc hq2.size _, HK.out _ (hq2.alloc hq2.size _)⟩ | exact ⟨hq3, HK.out _ hq3⟩ | exact ⟨(hq3.setCell (Nat.le_refl _) _).setCell (Nat.le_refl _) _, HK.out _ ((hq3.setCell (Nat.le_refl _) _).setCell (Nat.le_refl _) _)⟩)
          (first
          | (go_at_call 82; (with_reducible refine (HFi.out _ hq0).mono ?_); rintro e w2 ⟨Af, cf, rfl, ho2, hb2⟩; have hq2 := hq0.trans (hb2.mono hq0.size))
          | (go_at_call 82; (with_reducible refine (HFi.out _ hqa).mono ?_); rintro e w3 ⟨Af, cf, rfl, ho3, hb3⟩; have hq3 := hqa.trans (hb3.mono hqa.size); have hg3 := (hb3.block _ hgal).trans hga; have hc30 : w3.cell? ⟨W1.heap.size, 0, none⟩ = some (.slice none 0 0) := (by rw [cell_of_row _ _ _ _ _ _ hg3]; rfl); have hc31 : w3.cell? ⟨W1.heap.size, 1, none⟩ = some (.string ⟨#[]⟩) := (by rw [cell_of_row _ _ _ _ _ _ hg3]; rfl); have hf30 : w3.frozen? ⟨W1.heap.size, 0, none⟩ = false := (by simp [World.frozen?, hg3]); have hf31 : w3.frozen? ⟨W1.heap.size, 1, none⟩ = false := (by simp [World.frozen?, hg3])))
        · go_wp2_with fail
          go_meet
          exact ⟨w2.heap.size, Af, cf, rfl, by rw [Hx2.out]; exact heap_alloc_new w2 _, OwnF.below ho2 ((Below.refl _ _).alloc (Nat.le_refl _) _), hq2.alloc hq2.size _⟩
        · go_wp2_with fail
          go_meet
          have hlt3 : ∀ q, (Value.slice Af (fldsL x.1).length cf).ownBlock = some q → W1.heap.size < q := fun q hq => by
            have := (World.ownsRow.lt ho3 q hq).1
            simp at this
            omega
          have hne : (Value.slice Af (fldsL x.1).length cf).ownBlock ≠ some W1.heap.size := fun e => by have := hlt3 _ e; omega
          refine ⟨W1.heap.size, Af, cf, rfl, ?_, ?_, (hq3.setCell (Nat.le_refl _) _).setCell (Nat.le_refl _) _⟩
          · rw [heap_setCell_same _ _ 1 _ _ _ (heap_setCell_same w3 _ 0 _ _ _ hg3), Hx2.out]
            rfl
          · exact ownsRow_setCell_other (ownsRow_setCell_other (own_base ho3 (by simp)) hne _) hne _
      case rest =>
        obtain ⟨g, Af, cf, rfl, hgx, hof, hbx⟩ := hcut
        obtain ⟨w4, rfl⟩ : ∃ w4 : World, w4 = wc := ⟨_, rfl⟩
        rw [Hx2.out] at hgx
        have hbr4 : Below wr.heap.size wr w4 := HB1.out.trans (hbx.mono HB1.out.size)
        have HW4 := Lib.hid (HW.out.trans (hbr4.mono HW.out.size))
        have HO4 := Lib.hid (HO.out.below hbr4)
        have hr0 : w4.cell? ⟨g, 0, none⟩ = some (.slice Af (fldsL x.1).length cf) := by rw [cell_of_row _ _ _ _ _ _ hgx]; rfl
        have hr1 : w4.cell? ⟨g, 1, none⟩ = some (.string x2) := by rw [cell_of_row _ _ _ _ _ _ hgx]; rfl
        have hgl : g < w4.heap.size := (Array.getElem?_eq_some_iff.1 hgx).1
        have hfl : (fldsL x.1).length ≤ 100000 := by have := fldsL_len x.1; have := Hz.out x Hxm.out; omega
        have hx2e : x2 = (rowF x).en := by have := Hx2.out; unfold encs at this; injection this with this; exact this.symm
        have hFa := fault_any acc (rowF x) A5 Af k c5 (fldsL x.1).length cf w4 HO4.out.sees (by omega) (OwnF.sees hof) hfl (Hp.out x Hxm.out) HO4.out.cap.1 HN.out
        rw [← hx2e] at hFa
        have HFa := Lib.hid hFa
        obtain ⟨v, hv⟩ : ∃ v, v = faultF acc (rowF x) := ⟨_, rfl⟩
        rw [← hv] at HFa
        have hF2 := HF2.out
        rw [← hv] at hF2
        have HOf := Lib.hid hof
        have Hv := Lib.hid hv
        have Hx2e := Lib.hid hx2e
        have Hgx := Lib.hid hgx
        have HW1l : Hid (wr.heap.size < W1.heap.size) := Lib.hid hl1
        have HbxS := Lib.hid hbx.size
        clear hFa hv hof hbr4 hbx hx2e HF hgx hq0
        by_cases h0 : v = 0
        · rw [if_neg (by simpa using h0)] at hF2
          have HF3 := Lib.hid hF2
          subst h0
          clear hF2
          go_wp2_with fail
          (with_reducible refine HFa.out.mono ?_)
          rintro e w5 ⟨rfl, hb5⟩
          have hr05 := (hb5.cell (p := ⟨g, 0, none⟩) hgl).trans hr0
          have hr15 := (hb5.cell (p := ⟨g, 1, none⟩) hgl).trans hr1
          have HW5 := Lib.hid (HW4.out.trans (hb5.mono HW4.out.size))
          have HO5 := Lib.hid (HO4.out.below hb5)
          have HOf5 := Lib.hid (OwnF.below HOf.out hb5)
          have hz45 := hb5.size
          have hk1 : k + 1 ≤ 1099511627776 := by omega
          have hw5 := HW5.out.size
          clear hb5 hr0 hr1
          go_wp2_with (at_builtin; refine wpList_append_row rfl (.tmp 31) (.tmp 33) _ _ rfl elem_row rfl rfl (HO5.out.own.alloc _) (src_row _ Af (fldsL x.1).length cf x2 _ rfl) hk1 (by simp; omega) ?_; intro A6 c6 w6 ho6 hg6 hat6)
          have hEa := HO5.out.below (w' := w5.alloc (Obj.cells #[Value.slice Af (fldsL x.1).length cf, Value.string x2] 75)) ((Below.refl _ _).alloc (Nat.le_refl _) _)
          have hnew : ∀ q, (Value.slice A5 k c5).ownBlock = some q → q < wr.heap.size := fun q hq => (HO.out.own.lt q hq).2
          have hrow : RwV (w5.alloc (Obj.cells #[Value.slice Af (fldsL x.1).length cf, Value.string x2] 75)) (fun b => w.heap.size ≤ b ∧ b < (w5.alloc (Obj.cells #[Value.slice Af (fldsL x.1).length cf, Value.string x2] 75)).heap.size ∧ some b ≠ (Value.slice A5 k c5).ownBlock) [.slice Af (fldsL x.1).length cf, .string x2] [rowF x] := by
            refine ⟨Hx2e.out, (ownF_cap HOf5.out).1, (ownF_cap HOf5.out).2, ?_, trivial⟩
            refine ((ownF_lp HOf5.out).keep (w' := w5.alloc (Obj.cells #[Value.slice Af (fldsL x.1).length cf, Value.string x2] 75)) (fun b o hb => World.cell?_alloc_lt _ _ _ hb.2)).more (fun b hb => ⟨?_, ?_, fun e => ?_⟩)
            · have := HW.out.size; have := HW1l.out; have := hb.1; omega
            · have := hb.2; simp; omega
            · have := hnew b e.symm; have := HW1l.out; have := hb.1; omega
          have HP := Lib.hid (hEa.push hrow ho6 hg6 (fun a ha => (hat6 a ha).imp (fun e => Nat.le_of_eq e.symm) id))
          have HW6 : Hid (Below w.heap.size w w6) := Lib.hid ((HW5.out.alloc hw5 _).grown hg6 (by simp; omega) (fun q hq => (HO5.out.own.lt q hq).1))
          have HN6 : Hid (∀ y ∈ acc ++ [rowF x], y.fs ≠ []) := Lib.hid (fun y hy => by
            rcases List.mem_append.1 hy with hy | hy
            · exact HN.out y hy
            · obtain rfl : y = rowF x := by simpa using hy
              exact fault_fs (by rw [← Hv.out]; simp))
          clear hEa hrow ho6 hg6 hat6 hnew
          go_wp2_with fail
          go_roundw
          case rel => exact ⟨k + 1, A6, c6, _, _, Hlt.out, by go_num, rfl, HP, HW6, HN6, HF3⟩
          case measure => have := Hlt.out; simp [intOf]; omega
        · rw [if_pos h0] at hF2
          have HF3 := Lib.hid hF2
          have hvb : (v != 0) = true := by simpa using h0
          clear h0 hF2
          go_wp2_with fail
          (with_reducible refine HFa.out.mono ?_)
          rintro e w5 ⟨rfl, hb5⟩
          have HW5 := Lib.hid (HW4.out.trans (hb5.mono HW4.out.size))
          clear hb5
          go_wp2_with fail
          refine bodyPost_ret (v := .tuple #[.slice none 0 0, .int .i64 ((k : Int) + 1), .int .i64 v]) (by simp [results, Tryz.results56, go_sem]) rfl ?_
          exact ⟨none, 0, [], by rw [HF3.out]; rfl, by rw [HF3.out]; exact OwnR.nil _ _, HW5.out⟩
    · obtain rfl : k = n := by omega
      have hF := HF.out
      rw [List.drop_of_length_le (by rw [← Hl.out]; exact Nat.le_refl _), rowsF] at hF
      have HF2 := Lib.hid hF
      clear hlt hF HF
      go_wp2_with fail
      refine bodyPost_ret (v := .tuple #[.slice A5 k c5, .int .i64 0, .int .i64 0]) (by simp [results, Tryz.results56, go_sem]) rfl ?_
      have hlen := HO.out.len
      refine ⟨A5, c5, vs, by rw [HF2.out, hlen]; rfl, ?_, HW.out⟩
      rw [HF2.out]
      have := HO.out
      rw [hlen] at this
      exact this
end Go.Proofs.YtkgpjohfkfbfhaaGreatDoor.Cv
namespace Go.Proofs.YtkgpjohfkfbfhaaGreatDoor.Cl
open Go.RowKit
set_option maxRecDepth 100000

/-- As Holds, in blocks of which P holds. -/
def HoldsP (w : World) (P : Nat → Prop) : Option Addr → Nat → Tr → Prop
  | _, n, .nil => n = 0
  | A, n, .cons s k r => ∃ b o, A = some ⟨b, o, none⟩ ∧ P b ∧ w.cell? ⟨b, o, none⟩ = some (.string s) ∧
      (∃ A' n' c', w.cell? ⟨b, o + 1, none⟩ = some (.slice A' n' c') ∧ n' ≤ c' ∧ c' ≤ maxLen ∧ HoldsP w P A' n' k) ∧ ∃ m, n = m + 1 ∧ HoldsP w P (some ⟨b, o + 2, none⟩) m r
section
variable {w w' : World} {P P' : Nat → Prop}
theorem HoldsP.keep (hk : ∀ b o, P b → w'.cell? ⟨b, o, none⟩ = w.cell? ⟨b, o, none⟩) : ∀ {A : Option Addr} {n : Nat} {t : Tr}, HoldsP w P A n t → HoldsP w' P A n t
  | _, _, .nil, h => h
  | _, _, .cons _ _ _, ⟨b, o, e, hb, hs, ⟨A', n', c', hc, hn, hm, hk1⟩, m, hm1, hr⟩ =>
    ⟨b, o, e, hb, (hk b o hb).trans hs, ⟨A', n', c', (hk b _ hb).trans hc, hn, hm, HoldsP.keep hk hk1⟩, m, hm1, HoldsP.keep hk hr⟩
theorem HoldsP.more (hP : ∀ b, P b → P' b) : ∀ {A : Option Addr} {n : Nat} {t : Tr}, HoldsP w P A n t → HoldsP w P' A n t
  | _, _, .nil, h => h
  | _, _, .cons _ _ _, ⟨b, o, e, hb, hs, ⟨A', n', c', hc, hn, hm, hk1⟩, m, hm1, hr⟩ =>
    ⟨b, o, e, hP b hb, hs, ⟨A', n', c', hc, hn, hm, HoldsP.more hP hk1⟩, m, hm1, HoldsP.more hP hr⟩
theorem HoldsP.of {B : Nat} : ∀ {A : Option Addr} {n : Nat} {t : Tr}, Holds w B A n t → HoldsP w (· < B) A n t
  | _, _, .nil, h => h
  | _, _, .cons _ _ _, ⟨b, o, e, hb, hs, ⟨A', n', c', hc, hn, hm, hk1⟩, m, hm1, hr⟩ => ⟨b, o, e, hb, hs, ⟨A', n', c', hc, hn, hm, HoldsP.of hk1⟩, m, hm1, HoldsP.of hr⟩
theorem HoldsP.to {B : Nat} (hP : ∀ b, P b → b < B) : ∀ {A : Option Addr} {n : Nat} {t : Tr}, HoldsP w P A n t → Holds w B A n t
  | _, _, .nil, h => h
  | _, _, .cons _ _ _, ⟨b, o, e, hb, hs, ⟨A', n', c', hc, hn, hm, hk1⟩, m, hm1, hr⟩ => ⟨b, o, e, hP b hb, hs, ⟨A', n', c', hc, hn, hm, HoldsP.to hP hk1⟩, m, hm1, HoldsP.to hP hr⟩
theorem HoldsP.len : ∀ {A : Option Addr} {n : Nat} {t : Tr}, HoldsP w P A n t → n = t.len
  | _, _, .nil, h => h
  | _, _, .cons _ _ _, ⟨_, _, _, _, _, _, m, hm1, hr⟩ => by rw [hm1, HoldsP.len hr]; rfl
/-- What a slice reads as is one tree. -/
theorem HoldsP.uniq : ∀ {t u : Tr} {A : Option Addr} {n : Nat}, HoldsP w P A n t → HoldsP w P' A n u → t = u
  | .nil, .nil, _, _, _, _ => rfl
  | .nil, .cons _ _ _, _, _, h, ⟨_, _, _, _, _, _, m, hm, _⟩ => by have h : _ = 0 := h; omega
  | .cons _ _ _, .nil, _, _, ⟨_, _, _, _, _, _, m, hm, _⟩, h => by have h : _ = 0 := h; omega
  | .cons s k r, .cons s' k' r', _, _, ⟨b, o, e, _, hs, ⟨A1, n1, c1, hc, _, _, hk⟩, m, hm, hr⟩, ⟨b', o', e', _, hs', ⟨A2, n2, c2, hc', _, _, hk'⟩, m', hm', hr'⟩ => by
    rw [e] at e'
    injection e' with e'
    injection e' with e1 e2
    subst e1; subst e2
    rw [hs] at hs'
    injection hs' with hs'
    injection hs' with hs'
    subst hs'
    rw [hc] at hc'
    injection hc' with hc'
    injection hc' with a1 a2 a3
    subst a1; subst a2
    obtain rfl : m = m' := by omega
    rw [HoldsP.uniq hk hk', HoldsP.uniq hr hr']
/-- One cell holds another slice that reads the same. -/
theorem HoldsP.repl {p q n1 c1 n2 c2 : Nat} {X Y : Option Addr} {u : Tr} {cur : Array Value} {E : TypeId} (hh : w.heap[p]? = some (.cells cur E (0, 0))) (hq : w.cell? ⟨p, q, none⟩ = some (.slice X n1 c1)) (_ : HoldsP w P X n1 u) (h2 : HoldsP w P Y n2 u) (hn : n2 ≤ c2) (hm : c2 ≤ maxLen) (h1 : HoldsP w P X n1 u) :
    ∀ {A : Option Addr} {n : Nat} {t : Tr}, HoldsP w P A n t → HoldsP (w.setCell ⟨p, q, none⟩ (.slice Y n2 c2)) P A n t := by
  have hat : (w.setCell ⟨p, q, none⟩ (.slice Y n2 c2)).cell? ⟨p, q, none⟩ = some (.slice Y n2 c2) := by
    rw [cell_of_row _ _ _ _ _ _ (heap_setCell_same w p q cur E _ hh)]
    have : q < cur.size := by
      rw [cell_of_row _ _ _ _ _ _ hh] at hq
      exact (Array.getElem?_eq_some_iff.1 hq).1
    simp [this]
  have hfar : ∀ b o, ¬ (b = p ∧ o = q) → (w.setCell ⟨p, q, none⟩ (.slice Y n2 c2)).cell? ⟨b, o, none⟩ = w.cell? ⟨b, o, none⟩ := fun b o hne =>
    World.cell?_setCell_other _ _ _ _ (fun e => hne ⟨(congrArg Addr.block e).symm, (congrArg Addr.off e).symm⟩)
  intro A n t
  induction t generalizing A n with
  | nil => exact fun h => h
  | cons s k r ihk ihr =>
    rintro ⟨b, o, e, hb, hs, ⟨A', n', c', hc, hn', hm', hk⟩, m, hm1, hr⟩
    refine ⟨b, o, e, hb, ?_, ?_, m, hm1, ihr hr⟩
    · rw [hfar b o (fun ⟨e1, e2⟩ => by subst e1; subst e2; rw [hs] at hq; cases hq)]
      exact hs
    · by_cases hpq : b = p ∧ o + 1 = q
      · obtain ⟨rfl, rfl⟩ := hpq
        rw [hc] at hq
        injection hq with hq
        injection hq with a1 a2 a3
        subst a1; subst a2; subst a3
        have e := hk.uniq h1
        subst e
        exact ⟨Y, n2, c2, hat, hn, hm, ihk h2⟩
      · exact ⟨A', n', c', by rw [hfar b (o + 1) hpq]; exact hc, hn', hm', ihk hk⟩
/-- Its cells laid elsewhere. -/
theorem HoldsP.copy (hk : ∀ b o, P b → w'.cell? ⟨b, o, none⟩ = w.cell? ⟨b, o, none⟩) (hP : ∀ b, P b → P' b) : ∀ {n : Nat} {t : Tr} {b o g q : Nat}, HoldsP w P (some ⟨b, o, none⟩) n t → P' g → (∀ j, j < n * 2 → w'.cell? ⟨g, q + j, none⟩ = w.cell? ⟨b, o + j, none⟩) → HoldsP w' P' (some ⟨g, q, none⟩) n t
  | _, .nil, _, _, _, _, h, _, _ => h
  | _, .cons _ _ _, b, o, g, q, ⟨b', o', e, hb, hs, ⟨A', n', c', hc, hn, hm, hk1⟩, m, hm1, hr⟩, hg, hcp => by
    injection e with e
    injection e with e1 e2
    subst e1; subst e2
    subst hm1
    refine ⟨g, q, rfl, hg, ?_, ⟨A', n', c', ?_, hn, hm, (HoldsP.keep hk hk1).more hP⟩, m, rfl, HoldsP.copy hk hP hr hg (fun j hj => ?_)⟩
    · have := hcp 0 (by omega)
      simp only [Nat.add_zero] at this
      rw [this]; exact hs
    · rw [hcp 1 (by omega)]; exact hc
    · have := hcp (j + 2) (by omega)
      rw [show q + 2 + j = q + (j + 2) by omega, show o + 2 + j = o + (j + 2) by omega]
      exact this
/-- Its cells in a row. -/
theorem HoldsP.row : ∀ {t : Tr} {A : Option Addr} {n : Nat}, HoldsP w P A n t → ∃ vs : List Value, vs.length = n * 2 ∧ (∀ u ∈ vs, u.oneCell' = true) ∧ (∀ b o, A = some ⟨b, o, none⟩ → ∀ j u, vs[j]? = some u → w.cell? ⟨b, o + j, none⟩ = some u) ∧ (0 < n → ∃ b o, A = some ⟨b, o, none⟩ ∧ P b)
  | .nil, _, n, h => by
    have h : n = 0 := h
    subst h
    exact ⟨[], rfl, fun u hu => (by cases hu), fun _ _ _ j u hu => (by simp at hu), fun h => (by omega)⟩
  | .cons s k r, _, _, ⟨b, o, e, hb, hs, ⟨A', n', c', hc, _, _, _⟩, m, hm1, hr⟩ => by
    obtain ⟨vs, h1, h2, h3, _⟩ := HoldsP.row hr
    subst hm1
    refine ⟨.string s :: .slice A' n' c' :: vs, by simp only [List.length_cons, h1]; omega, ?_, ?_, fun _ => ⟨b, o, e, hb⟩⟩
    · intro u hu
      simp only [List.mem_cons] at hu
      rcases hu with rfl | rfl | hu
      · rfl
      · rfl
      · exact h2 u hu
    · intro b' o' e' j u hu
      rw [e] at e'
      injection e' with e'
      injection e' with e1 e2
      subst e1; subst e2
      match j, hu with
      | 0, hu => simp at hu; subst hu; exact hs
      | 1, hu => simp at hu; subst hu; exact hc
      | j + 2, hu =>
        have := h3 b (o + 2) rfl j u (by simpa using hu)
        rw [show o + (j + 2) = o + 2 + j by omega]
        exact this
end
/-- The edges of a tree, one by one: the cell of the i-th one's slice, and what it reads as. -/
def subs : Tr → List Tr
  | .nil => []
  | .cons _ k r => k :: subs r
theorem subs_len : ∀ t : Tr, (subs t).length = t.len
  | .nil => rfl
  | .cons _ _ r => by simp only [subs, List.length_cons, Tr.len, subs_len r]
theorem HoldsP.sub {w : World} {P : Nat → Prop} : ∀ {t : Tr} {b o n i : Nat} {u : Tr}, HoldsP w P (some ⟨b, o, none⟩) n t → (subs t)[i]? = some u → ∃ A' n' c', w.cell? ⟨b, o + i * 2 + 1, none⟩ = some (.slice A' n' c') ∧ n' ≤ c' ∧ c' ≤ maxLen ∧ HoldsP w P A' n' u
  | .nil, _, _, _, i, _, _, h => by simp [subs] at h
  | .cons s k r, b, o, n, 0, u, ⟨b', o', e, _, _, ⟨A', n', c', hc, hn, hm, hk⟩, _⟩, h => by
    injection e with e
    injection e with e1 e2
    subst e1; subst e2
    simp only [subs, List.getElem?_cons_zero, Option.some.injEq] at h
    subst h
    exact ⟨A', n', c', by simpa using hc, hn, hm, hk⟩
  | .cons s k r, b, o, n, i + 1, u, ⟨b', o', e, _, _, _, m, _, hr⟩, h => by
    injection e with e
    injection e with e1 e2
    subst e1; subst e2
    simp only [subs, List.getElem?_cons_succ] at h
    obtain ⟨A', n', c', hc, h2⟩ := HoldsP.sub hr h
    exact ⟨A', n', c', by rw [show o + (i + 1) * 2 + 1 = o + 2 + i * 2 + 1 by omega]; exact hc, h2⟩
/-- What the trees on the stack still have to be gone through. -/
def load : List Tr → Nat
  | [] => 0
  | t :: r => t.size + 1 + load r
theorem load_append (a b : List Tr) : load (a ++ b) = load a + load b := by
  induction a with
  | nil => simp [load]
  | cons x r ih => simp only [List.cons_append, load, ih]; omega
theorem load_subs : ∀ t : Tr, load (subs t) = t.size
  | .nil => rfl
  | .cons _ k r => by simp only [subs, load, Tr.size, load_subs r]; omega
theorem load_len (l : List Tr) : l.length ≤ load l := by
  induction l with
  | nil => exact Nat.le_refl _
  | cons x r ih => simp only [List.length_cons, load]; omega
end Go.Proofs.YtkgpjohfkfbfhaaGreatDoor.Cl
namespace Go.Proofs.YtkgpjohfkfbfhaaGreatDoor.Jd
open Go.RowKit
set_option maxRecDepth 100000

/-- The name ahead of the k-th edge. -/
def nameAt : Tr → Nat → Option ByteArray
  | .nil, _ => none
  | .cons s _ _, 0 => some s
  | .cons _ _ r, k + 1 => nameAt r k
def prv (t : Tr) (k : Nat) : Option ByteArray := if k = 0 then none else nameAt t (k - 1)
theorem nameAt_drop : ∀ (t : Tr) (k : Nat) {s : ByteArray} {kt r : Tr}, t.dropT k = .cons s kt r → nameAt t k = some s
  | .nil, k, _, _, _, h => by cases k <;> simp [Tr.dropT] at h
  | .cons s0 k0 r0, 0, s, kt, r, h => by
    rw [dropT_zero] at h
    injection h with h _ _
    rw [← h]; rfl
  | .cons s0 k0 r0, k + 1, _, _, _, h => by
    simp only [Tr.dropT] at h
    exact nameAt_drop r0 k h

/-- The checker's box. -/
def Ckr (w : World) (g n e : Nat) : Prop := w.heap[g]? = some (.cells #[.int .i64 n, .int .i64 e] 97 (0, 0))
theorem Ckr.cells {w : World} {g n e : Nat} (h : Ckr w g n e) : w.cell? ⟨g, 0, none⟩ = some (.int .i64 n) ∧ w.cell? ⟨g, 1, none⟩ = some (.int .i64 e) ∧ (∀ o, w.frozen? ⟨g, o, none⟩ = false) ∧ g < w.heap.size := by
  unfold Ckr at h
  exact ⟨by rw [cell_of_row w g 0 _ _ _ h]; rfl, by rw [cell_of_row w g 1 _ _ _ h]; rfl, fun o => by simp [World.frozen?, h], (Array.getElem?_eq_some_iff.1 h).1⟩
theorem Ckr.set0 {w : World} {g n e : Nat} (h : Ckr w g n e) (n' : Nat) (v : Value) (hv : v = .int .i64 (n' : Int)) : Ckr (w.setCell ⟨g, 0, none⟩ v) g n' e := by
  unfold Ckr at h ⊢
  rw [heap_setCell_same w g 0 _ _ _ h, hv]; rfl
theorem Ckr.set1 {w : World} {g n e : Nat} (h : Ckr w g n e) (e' : Nat) (v : Value) (hv : v = .int .i64 (e' : Int)) : Ckr (w.setCell ⟨g, 1, none⟩ v) g n e' := by
  unfold Ckr at h ⊢
  rw [heap_setCell_same w g 1 _ _ _ h, hv]; rfl
theorem Ckr.drew {w : World} {g n e : Nat} (h : Ckr w g n e) : Ckr w.drew g n e := h
theorem Ckr.drewN {w : World} {g n e : Nat} (h : Ckr w g n e) (q : Nat) : Ckr (w.drewN q) g n e := h

/-- What walk's loop keeps: as if it began at the k-th edge; or a fault was found. -/
def WalkI (d : Nat) (t : Tr) (m0 : Nat) (k m e : Nat) : Prop :=
  (e = 0 → m ≤ 400 ∧ walkC d (t.dropT k) (prv t k) m = walkC d t none m0) ∧ (e ≠ 0 → walkC d t none m0 = (m, e))
theorem WalkI.start (d : Nat) (t : Tr) (m0 : Nat) (h : m0 ≤ 400) : WalkI d t m0 0 m0 0 := ⟨fun _ => ⟨h, by rw [dropT_zero]; rfl⟩, fun h => absurd rfl h⟩
theorem WalkI.fin {d m0 k m e : Nat} {t : Tr} (h : WalkI d t m0 k m e) (hk : t.len ≤ k) : walkC d t none m0 = (m, e) := by
  by_cases he : e = 0
  · subst he
    rw [← (h.1 rfl).2, drop_len t k hk]
    rfl
  · exact h.2 he
section
variable {d m0 k m : Nat} {t kt r : Tr} {s : ByteArray}
theorem WalkI.step (h : WalkI d t m0 k m 0) (hd : t.dropT k = .cons s kt r) (hd2 : t.dropT (k + 1) = r) :
    (400 < m + 1 → WalkI d t m0 (k + 1) (m + 1) 4) ∧
    (¬ 400 < m + 1 → 12 < d → WalkI d t m0 (k + 1) (m + 1) 11) ∧
    (¬ 400 < m + 1 → ¬ 12 < d → 80 < s.size → WalkI d t m0 (k + 1) (m + 1) 5) ∧
    (¬ 400 < m + 1 → ¬ 12 < d → ¬ 80 < s.size → notAfter (prv t k) s = true → WalkI d t m0 (k + 1) (m + 1) 12) ∧
    (¬ 400 < m + 1 → ¬ 12 < d → ¬ 80 < s.size → ¬ notAfter (prv t k) s = true → WalkI d t m0 (k + 1) (walkC (d + 1) kt none (m + 1)).1 (walkC (d + 1) kt none (m + 1)).2) := by
  obtain ⟨_, hw⟩ := h.1 rfl
  rw [hd] at hw
  simp only [walkC] at hw
  have hn : nameAt t k = some s := nameAt_drop t k hd
  refine ⟨fun h1 => ?_, fun h1 h2 => ?_, fun h1 h2 h3 => ?_, fun h1 h2 h3 h4 => ?_, fun h1 h2 h3 h4 => ?_⟩
  · rw [if_pos h1] at hw
    exact ⟨fun e => absurd e (by decide), fun _ => hw.symm⟩
  · rw [if_neg h1, if_pos h2] at hw
    exact ⟨fun e => absurd e (by decide), fun _ => hw.symm⟩
  · rw [if_neg h1, if_neg h2, if_pos h3] at hw
    exact ⟨fun e => absurd e (by decide), fun _ => hw.symm⟩
  · rw [if_neg h1, if_neg h2, if_neg h3, if_pos h4] at hw
    exact ⟨fun e => absurd e (by decide), fun _ => hw.symm⟩
  · rw [if_neg h1, if_neg h2, if_neg h3, if_neg h4] at hw
    constructor
    · intro hz
      rw [if_pos hz] at hw
      refine ⟨(walkC_le kt (d + 1) (m + 1) none (by omega)).2.2.1 hz, ?_⟩
      rw [hd2, ← hw, prv, if_neg (by omega), Nat.add_sub_cancel, hn]
    · intro hz
      rw [if_neg hz] at hw
      exact hw.symm
end

theorem nm_drop : ∀ (t : Tr) (k : Nat), Tr.Nm t → Tr.Nm (t.dropT k)
  | t, 0, h => by rw [dropT_zero]; exact h
  | .nil, _ + 1, _ => trivial
  | .cons _ _ r, k + 1, h => nm_drop r k h.2.2
theorem keep_of {w w' : World} {B g : Nat} (hg : w.grownBy w' (some g)) (hB : B ≤ g) (hl : g < w.heap.size) : ∀ p : Addr, p.block < B → w'.cell? p = w.cell? p :=
  fun p hp => World.cell?_of_block (hg.block p.block (by omega) (fun e => by injection e with e; omega))
theorem grown_trans {w w' w'' : World} {g : Nat} (h : w.grownBy w' (some g)) (k : w'.grownBy w'' (some g)) : w.grownBy w'' (some g) :=
  ⟨k.os.trans h.os, k.tape.trans h.tape, k.output.trans h.output, Nat.le_trans h.size k.size, fun i hi hn => (k.block i (Nat.lt_of_lt_of_le hi h.size) hn).trans (h.block i hi hn)⟩

theorem grown_drewN {w w' : World} {row : Option Nat} (h : w.grownBy w' row) (q : Nat) : w.grownBy (w'.drewN q) row := ⟨h.os, h.tape, h.output, h.size, h.block⟩

set_option maxHeartbeats 4000000 in
theorem rwalk_any (N : Nat) : ∀ (t : Tr) (A : Option Addr) (n c B d m g : Nat) (w : World), t.size ≤ N → Holds w B A n t → B ≤ g → Ckr w g m 0 → m ≤ 400 → n ≤ 140737488351232 → t.Low → Tr.Nm t → d ≤ 13 →
    Calls Tryz.prog 49 #[.pointer (some ⟨g, 0, none⟩), .slice A n c, .int .i64 d] w fun e w' => (∃ v, e = .returned v) ∧ Ckr w' g (walkC d t none m).1 (walkC d t none m).2 ∧ w.grownBy w' (some g) := by
  induction N with
  | zero =>
    intro t A n c B d m g w hN h hB hC hm hn hl hnm hd
    cases t with
    | nil =>
      obtain rfl : n = 0 := h
      have HC := Lib.hid hC
      obtain ⟨hc0, hc1, hf, hgl⟩ := hC.cells
      clear hC hf
      go_enter Tryz.func49, Tryz.ntmps49
      go_wp2_with fail
      go_loop [6] (fun i => i = .int .i64 0) (fun _ => 0)
      case atStart => exact rfl
      case round =>
        subst hrel
        go_wp2_with fail
        go_end0
        exact ⟨⟨_, rfl⟩, HC.out, World.grownBy.refl _ _⟩
    | cons s k r => simp [Tr.size] at hN
  | succ N ih =>
    intro t A n c B d m g w hN h hB hC hm hn hl hnm hd
    have Hn := Lib.hid h.len
    have HC0 := Lib.hid hC
    have HI0 := Lib.hid (WalkI.start d t m hm)
    have hgl := hC.cells.2.2.2
    clear hC
    go_enter Tryz.func49, Tryz.ntmps49
    go_wp2_with fail
    go_loopw [6] (fun i wr => ∃ k m' e' : Nat, k ≤ n ∧ i = .int .i64 k ∧ Hid (Ckr wr g m' e') ∧ w.grownBy wr (some g) ∧ Hid (WalkI d t m k m' e')) (fun i _ => n - (intOf i).toNat)
    case atStart => exact ⟨0, m, 0, Nat.zero_le _, rfl, HC0, World.grownBy.refl _ _, HI0⟩
    case round =>
      obtain ⟨k, m', e', hk, rfl, HC, hgr, HI⟩ := hrel
      obtain ⟨hc0, hc1, hf, hgl2⟩ := HC.out.cells
      by_cases hlt : k < n
      · by_cases he : e' = 0
        · subst he
          obtain ⟨b, o, s, kt, r, A', n', c', rfl, hb, hs, hcl, hn', hc', hk', hr, hd1, hd2⟩ := (h.keep (keep_of hgr hB hgl)).split k hlt
          have hbg : b ≠ g := by omega
          have hS := HI.out.step hd1 hd2
          have hm4 := (HI.out.1 rfl).1
          have HC1 := Lib.hid (HC.out.set0 (m' + 1) (.int .i64 ((m' : Int) + 1)) rfl)
          have hgr1 : w.grownBy (wr.setCell ⟨g, 0, none⟩ (.int .i64 ((m' : Int) + 1))) (some g) := grown_trans hgr (grown_set wr ⟨g, 0, none⟩ _)
          have hc10 : (wr.setCell ⟨g, 0, none⟩ (.int .i64 ((m' : Int) + 1))).cell? ⟨g, 0, none⟩ = some (.int .i64 ((m' : Int) + 1)) := HC1.out.cells.1
          have hf0 := hf 0
          have hf1 : (wr.setCell ⟨g, 0, none⟩ (.int .i64 ((m' : Int) + 1))).frozen? ⟨g, 1, none⟩ = false := HC1.out.cells.2.2.1 1
          have hc11 : (wr.setCell ⟨g, 0, none⟩ (.int .i64 ((m' : Int) + 1))).cell? ⟨g, 1, none⟩ = some (.int .i64 0) := HC1.out.cells.2.1
          have hs1 : (wr.setCell ⟨g, 0, none⟩ (.int .i64 ((m' : Int) + 1))).cell? ⟨b, o + k * 2, none⟩ = some (.string s) := (World.cell?_setCell_other _ _ _ _ (fun e => hbg (congrArg Addr.block e).symm)).trans hs
          have hcl1 : (wr.setCell ⟨g, 0, none⟩ (.int .i64 ((m' : Int) + 1))).cell? ⟨b, o + k * 2 + 1, none⟩ = some (.slice A' n' c') := (World.cell?_setCell_other _ _ _ _ (fun e => hbg (congrArg Addr.block e).symm)).trans hcl
          have hkn : (k : Int) < (n : Int) := by omega
          have hk0 : (0 : Int) ≤ (k : Int) := by omega
          have hnms : s.size ≤ 140737488351232 := by
            have := nm_drop t k hnm
            rw [hd1] at this
            exact this.1
          have Hlt := Lib.hid hlt
          obtain ⟨hS1, hS2, hS3, hS4, hS5⟩ := hS
          by_cases h1 : 400 < m' + 1
          · have h1' : (400 : Int) < (m' : Int) + 1 := by omega
            have HS := Lib.hid (hS1 h1)
            clear hd1 hd2 hS1 hS2 hS3 hS4 hS5 h1 hf hlt
            go_wp2_with fail
            go_roundw
            case rel => exact ⟨k + 1, _, _, Hlt.out, by go_num, Lib.hid (HC1.out.set1 4 _ rfl), grown_trans hgr1 (grown_set _ ⟨g, 1, none⟩ _), HS⟩
            case measure => simp [intOf]; omega
          have h1' : ¬ (400 : Int) < (m' : Int) + 1 := by omega
          by_cases h2 : 12 < d
          · have h2' : (12 : Int) < (d : Int) := by omega
            have HS := Lib.hid (hS2 h1 h2)
            clear hd1 hd2 hS1 hS2 hS3 hS4 hS5 h1 h2 hf hlt
            go_wp2_with fail
            go_roundw
            case rel => exact ⟨k + 1, _, _, Hlt.out, by go_num, Lib.hid (HC1.out.set1 11 _ rfl), grown_trans hgr1 (grown_set _ ⟨g, 1, none⟩ _), HS⟩
            case measure => simp [intOf]; omega
          have h2' : ¬ (12 : Int) < (d : Int) := by omega
          by_cases h3 : 80 < s.size
          · have h3' : (80 : Int) < (s.size : Int) := by omega
            have HS := Lib.hid (hS3 h1 h2 h3)
            clear hd1 hd2 hS1 hS2 hS3 hS4 hS5 h1 h2 h3 hf hlt
            go_wp2_with fail
            go_roundw
            case rel => exact ⟨k + 1, _, _, Hlt.out, by go_num, Lib.hid (HC1.out.set1 5 _ rfl), grown_trans hgr1 (grown_set _ ⟨g, 1, none⟩ _), HS⟩
            case measure => simp [intOf]; omega
          have h3' : ¬ (80 : Int) < (s.size : Int) := by omega
          have hbl : b < wr.heap.size := World.block_lt_of_cell? _ _ hs
          by_cases h4 : notAfter (prv t k) s = true
          · have HS := Lib.hid (hS4 h1 h2 h3 h4)
            have hk1 : 0 < k := by
              rcases Nat.eq_zero_or_pos k with e | e
              · subst e; simp [prv, notAfter] at h4
              · exact e
            obtain ⟨j, hj⟩ : ∃ j, k = j + 1 := ⟨k - 1, by omega⟩
            obtain ⟨b', o', p, kt', r', A3, n3, c3, e, _, hsp, _, _, _, _, _, hdp, _⟩ := (h.keep (keep_of hgr hB hgl)).split j (by omega)
            cases e
            have hp : prv t k = some p := by rw [prv, if_neg (by omega), hj, Nat.add_sub_cancel]; exact nameAt_drop t j hdp
            rw [hp] at h4
            have h4' : Op.bytesLess p.toList s.toList = false := by simpa [notAfter] using h4
            have hj1 : (k : Int) - 1 = (j : Int) := by omega
            have hj0 : (0 : Int) ≤ (j : Int) := by omega
            have hjn : (j : Int) < (n : Int) := by omega
            have hjb : j ≤ 140737488351232 := by omega
            have hkb : k ≤ 140737488351232 := by omega
            have hg : (0 : Int) < (k : Int) := by omega
            have hs3 : (wr.setCell ⟨g, 0, none⟩ (.int .i64 ((m' : Int) + 1))).cell? ⟨b, o + j * 2, none⟩ = some (.string p) := (World.cell?_setCell_other _ _ _ _ (fun e => hbg (congrArg Addr.block e).symm)).trans hsp
            clear hd1 hd2 hS1 hS2 hS3 hS4 hS5 h1 h2 h3 h4 hf hlt hj hp hdp hsp
            rcases not_lt h4' with h5 | ⟨h5, h6⟩
            all_goals
              clear h4'
              go_wp2_with fail
              go_quiet (fail)
              have HC2 := HC1.out.drewN nq
              have hf2 : ((wr.setCell ⟨g, 0, none⟩ (.int .i64 ((m' : Int) + 1))).drewN nq).frozen? ⟨g, 1, none⟩ = false := HC2.cells.2.2.1 1
              have hc21 : ((wr.setCell ⟨g, 0, none⟩ (.int .i64 ((m' : Int) + 1))).drewN nq).cell? ⟨g, 1, none⟩ = some (.int .i64 0) := HC2.cells.2.1
              go_wp2_with fail
              go_roundw
              case rel => exact ⟨k + 1, _, _, Hlt.out, by go_num, Lib.hid (HC2.set1 12 _ rfl), grown_trans (grown_drewN hgr1 _) (grown_set _ ⟨g, 1, none⟩ _), HS⟩
              case measure => simp [intOf]; omega
          · have HS := Lib.hid (hS5 h1 h2 h3 h4)
            have hld := hl.drop k
            rw [hd1] at hld
            obtain ⟨hl1, hll, _⟩ := hld
            have hnb : n' ≤ 140737488351232 := by rw [hk'.len]; exact hl1
            have hlnm : Tr.Nm kt := by
              have := nm_drop t k hnm
              rw [hd1] at this
              exact this.2.1
            have hszk := size_drop t k
            rw [hd1] at hszk
            simp only [Tr.size] at hszk
            have hktN : kt.size ≤ N := by omega
            have hm5 : m' + 1 ≤ 400 := by omega
            have hkp : ∀ p : Addr, p.block < B → (wr.setCell ⟨g, 0, none⟩ (.int .i64 ((m' : Int) + 1))).cell? p = wr.cell? p := fun p hp => World.cell?_setCell_other _ _ _ _ (fun e => by have := congrArg Addr.block e; simp only at this; omega)
            have hd12 : d ≤ 12 := by omega
            have Hkp := Lib.hid hkp
            clear hN hszk hl1 hkp
            rcases Nat.eq_zero_or_pos k with hk1 | hk1
            · have hg : ¬ ((0 : Int) < (k : Int)) := by omega
              have hg2 : ¬ (0 < k) := by omega
              clear hd1 hd2 hS1 hS2 hS3 hS4 hS5 h1 h2 h3 h4 hf hlt hk1
              go_wp2_with fail
              go_quiet (fail)
              have hcall := ih kt A' n' c' B (d + 1) (m' + 1) g ((wr.setCell ⟨g, 0, none⟩ (.int .i64 ((m' : Int) + 1))).drewN nq) (by omega) (hk'.keep (w' := (wr.setCell ⟨g, 0, none⟩ (.int .i64 ((m' : Int) + 1))).drewN nq) (fun p hp => Hkp.out p hp)) hB (HC1.out.drewN nq) (by omega) hnb hll hlnm (by omega)
              rw [show (((d + 1 : Nat)) : Int) = (d : Int) + 1 from rfl] at hcall
              have HCall := Lib.hid hcall
              clear hcall
              have hcl2 : ((wr.setCell ⟨g, 0, none⟩ (.int .i64 ((m' : Int) + 1))).drewN nq).cell? ⟨b, o + k * 2 + 1, none⟩ = some (.slice A' n' c') := hcl1
              go_wp2_with fail
              refine HCall.out.mono ?_
              rintro e w3 ⟨⟨v, rfl⟩, hC3, hg3⟩
              go_wp2_with fail
              go_roundw
              case rel => exact ⟨k + 1, _, _, Hlt.out, by go_num, Lib.hid hC3, grown_trans (grown_drewN hgr1 _) hg3, HS⟩
              case measure => simp [intOf]; omega
            · obtain ⟨j, hj⟩ : ∃ j, k = j + 1 := ⟨k - 1, by omega⟩
              obtain ⟨b', o', p, kt', r', A3, n3, c3, e, _, hsp, _, _, _, _, _, hdp, _⟩ := (h.keep (keep_of hgr hB hgl)).split j (by omega)
              cases e
              have hp : prv t k = some p := by rw [prv, if_neg (by omega), hj, Nat.add_sub_cancel]; exact nameAt_drop t j hdp
              rw [hp] at h4
              have h4' : Op.bytesLess p.toList s.toList = true := by simpa [notAfter] using h4
              have hj1 : (k : Int) - 1 = (j : Int) := by omega
              have hj0 : (0 : Int) ≤ (j : Int) := by omega
              have hjn : (j : Int) < (n : Int) := by omega
              have hjb : j ≤ 140737488351232 := by omega
              have hkb : k ≤ 140737488351232 := by omega
              have hg : (0 : Int) < (k : Int) := by omega
              have hk2 : 0 < k := hk1
              have hwj : IntKind.i64.wrap (j : Int) = (j : Int) := IntWalk.i64_in _ (by omega)
              have hs3 : (wr.setCell ⟨g, 0, none⟩ (.int .i64 ((m' : Int) + 1))).cell? ⟨b, o + j * 2, none⟩ = some (.string p) := (World.cell?_setCell_other _ _ _ _ (fun e => hbg (congrArg Addr.block e).symm)).trans hsp
              clear hd1 hd2 hS1 hS2 hS3 hS4 hS5 h1 h2 h3 h4 hf hlt hj hp hdp hsp
              obtain ⟨h5, h6⟩ := lt_not h4'
              clear h4'
              go_wp2_with fail
              go_quiet (fail)
              have hcall := ih kt A' n' c' B (d + 1) (m' + 1) g ((wr.setCell ⟨g, 0, none⟩ (.int .i64 ((m' : Int) + 1))).drewN nq) (by omega) (hk'.keep (w' := (wr.setCell ⟨g, 0, none⟩ (.int .i64 ((m' : Int) + 1))).drewN nq) (fun p hp => Hkp.out p hp)) hB (HC1.out.drewN nq) (by omega) hnb hll hlnm (by omega)
              rw [show (((d + 1 : Nat)) : Int) = (d : Int) + 1 from rfl] at hcall
              have HCall := Lib.hid hcall
              clear hcall
              have hcl2 : ((wr.setCell ⟨g, 0, none⟩ (.int .i64 ((m' : Int) + 1))).drewN nq).cell? ⟨b, o + k * 2 + 1, none⟩ = some (.slice A' n' c') := hcl1
              go_wp2_with fail
              refine HCall.out.mono ?_
              rintro e w3 ⟨⟨v, rfl⟩, hC3, hg3⟩
              go_wp2_with fail
              go_roundw
              case rel => exact ⟨k + 1, _, _, Hlt.out, by go_num, Lib.hid hC3, grown_trans (grown_drewN hgr1 _) hg3, HS⟩
              case measure => simp [intOf]; omega
        · have he2 : ((e' : Int) == 0) = false := by simpa using he
          have he3 : ¬ (e' : Int) = 0 := by omega
          have hfin : walkC d t none m = (m', e') := HI.out.2 he
          have Hfin := Lib.hid hfin
          have hkn : (k : Int) < (n : Int) := by omega
          clear hfin he hf hlt
          go_wp2_with fail
          go_end0
          exact ⟨⟨_, rfl⟩, by rw [Hfin.out]; exact HC.out, hgr⟩
      · obtain rfl : k = n := by omega
        have hfin : walkC d t none m = (m', e') := HI.out.fin (by rw [← Hn.out]; exact Nat.le_refl _)
        have Hfin := Lib.hid hfin
        clear hfin hf hlt
        go_wp2_with fail
        go_end0
        exact ⟨⟨_, rfl⟩, by rw [Hfin.out]; exact HC.out, hgr⟩

/-- Check of the reference: the same fault. -/
theorem rcheck_any (t : Tr) (A : Option Addr) (n c B : Nat) (w : World) (h : Holds w B A n t) (hB : B ≤ w.heap.size) (hn : n ≤ 140737488351232) (hl : t.Low) (hnm : Tr.Nm t) :
    Calls Tryz.prog 28 #[.slice A n c] w fun e w' => e = .returned (.int .i64 (t.fault : Nat)) ∧ Below w.heap.size w w' := by
  have hC : Ckr (w.alloc (.cells #[.int .i64 0, .int .i64 0] 97)) w.heap.size 0 0 := heap_alloc_new w _
  have hcall := rwalk_any t.size t A n c B 1 0 w.heap.size (w.alloc (.cells #[.int .i64 0, .int .i64 0] 97)) (Nat.le_refl _) (h.keep fun p hp => World.cell?_alloc_lt _ _ _ (Nat.lt_of_lt_of_le hp hB)) hB hC (by omega) hn hl hnm (by omega)
  obtain ⟨q, hq⟩ : ∃ q, q = t.fault := ⟨_, rfl⟩
  rw [← hq]
  have Hq := Lib.hid hq
  have HCall := Lib.hid hcall
  clear hcall hC hq
  go_enter Tryz.func28, Tryz.ntmps28
  go_wp2_with fail
  refine HCall.out.mono ?_
  rintro e w3 ⟨⟨v, rfl⟩, hC3, hg3⟩
  have hc3 := hC3.cells.2.1
  have he : (walkC 1 t none 0).2 = q := by rw [Hq.out]; rfl
  rw [he] at hc3
  clear he hC3
  go_wp2_with fail
  go_ret
  exact ⟨rfl, ((Below.refl _ w).alloc (Nat.le_refl _) _).grown hg3 (by simp) (fun k e => by injection e with e; omega)⟩
end Go.Proofs.YtkgpjohfkfbfhaaGreatDoor.Jd
