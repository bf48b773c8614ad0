/- csv: a row of rows of one's own, being grown: the rows' fields lie in other blocks. No conditions. · csv's rows of lines. Conditions: texts of ASCII bytes, of 4000 at most; MaxLen's cell. -/
import Derived.Test.YtlcbhooiinaalaaGreatDoorMwCvRows
import Derived.Test.YtlcbhooiinaalaaGreatDoorMwGrow
import Derived.Outline
import Derived.Test.YtlcbhooiinaalaaGreatDoorCvRec
import Derived.Deep.CutRange
namespace Go.Proofs.YtlcbhooiinaalaaGreatDoor.Cv
open Go.RowKit Go.Proofs.YtlcbhooiinaalaaGreatDoor.Jd Go.Proofs.YtlcbhooiinaalaaGreatDoor.Li
set_option maxRecDepth 100000

theorem own_cap' {w : World} {base n c size k : Nat} {e : TypeId} {A : Option Addr} {xs : List Value} (h : w.ownsRow base e size (.slice A n c) k xs) (hk : k = n) : n ≤ c ∧ c ≤ maxLen := by
  subst hk
  rcases h.2 with ⟨e, _⟩ | ⟨g, cap, cur, e, _, _, hn, hm, _⟩
  · injection e with _ h1 h2
    subst h1; subst h2
    exact ⟨Nat.le_refl _, Nat.zero_le _⟩
  · injection e with _ _ h2
    subst h2
    exact ⟨hn, hm⟩
/-- As SeesL, in blocks of which P holds. -/
structure SeesLP (w : World) (P : Nat → Prop) (A : Option Addr) (n : Nat) (ls : List Ln) : Prop where
  len : n = ls.length
  cell : ∀ (j : Nat) (u : Value), (lcells ls)[j]? = some u → ∃ b o, A = some ⟨b, o, none⟩ ∧ P b ∧ w.cell? ⟨b, o + j, none⟩ = some u
section
variable {w w' : World} {P P' : Nat → Prop} {n : Nat} {A : Option Addr} {ls : List Ln}
theorem SeesLP.keep (h : SeesLP w P A n ls) (hk : ∀ b o, P b → w'.cell? ⟨b, o, none⟩ = w.cell? ⟨b, o, none⟩) : SeesLP w' P A n ls :=
  ⟨h.len, fun j u hu => by
    obtain ⟨b, o, e, hb, hc⟩ := h.cell j u hu
    exact ⟨b, o, e, hb, (hk b _ hb).trans hc⟩⟩
theorem SeesLP.more (h : SeesLP w P A n ls) (hP : ∀ b, P b → P' b) : SeesLP w P' A n ls :=
  ⟨h.len, fun j u hu => by
    obtain ⟨b, o, e, hb, hc⟩ := h.cell j u hu
    exact ⟨b, o, e, hP b hb, hc⟩⟩
theorem SeesLP.sees {B : Nat} (h : SeesLP w P A n ls) (hP : ∀ b, P b → b < B) : SeesL w B A n ls :=
  ⟨h.len, fun j u hu => by
    obtain ⟨b, o, e, hb, hc⟩ := h.cell j u hu
    exact ⟨b, o, e, hP b hb, hc⟩⟩
end
/-- A row of fields of one's own lies in one block. -/
theorem ownF_lp {w : World} {base n c : Nat} {A : Option Addr} {ls : List Ln} (h : OwnF w base A n c ls) : SeesLP w (fun b => base ≤ b ∧ b < w.heap.size) A n ls := by
  rcases own_form h with ⟨rfl, rfl, hl⟩ | ⟨g, rfl, hg, hgl, _, _, hc⟩
  · have : ls = [] := List.eq_nil_of_length_eq_zero (by have := lcells_length ls; rw [hl] at this; simp at this; omega)
    subst this
    exact ⟨rfl, fun j u hu => by simp [lcells] at hu⟩
  · exact ⟨h.len, fun j u hu => ⟨g, 0, rfl, ⟨hg, hgl⟩, hc j u hu⟩⟩
theorem ownF_cap {w : World} {base n c : Nat} {A : Option Addr} {ls : List Ln} (h : OwnF w base A n c ls) : n ≤ c ∧ c ≤ maxLen := own_cap' h rfl
/-- Cells of rows; their fields lie in blocks that P picks. -/
def RwV (w : World) (P : Nat → Prop) : List Value → List Rw → Prop
  | [], [] => True
  | .slice A n c :: .string e :: vs, r :: rs => e = r.en ∧ n ≤ c ∧ c ≤ maxLen ∧ SeesLP w P A n r.fs ∧ RwV w P vs rs
  | _, _ => False
section
variable {w w' : World} {P P' : Nat → Prop}
theorem RwV.keep (hk : ∀ b o, P b → w'.cell? ⟨b, o, none⟩ = w.cell? ⟨b, o, none⟩) : ∀ {vs : List Value} {rs : List Rw}, RwV w P vs rs → RwV w' P vs rs
  | [], [], _ => trivial
  | .slice _ _ _ :: .string _ :: _, _ :: _, ⟨h1, h2, h3, h4, h5⟩ => ⟨h1, h2, h3, h4.keep hk, RwV.keep hk h5⟩
theorem RwV.more (hP : ∀ b, P b → P' b) : ∀ {vs : List Value} {rs : List Rw}, RwV w P vs rs → RwV w P' vs rs
  | [], [], _ => trivial
  | .slice _ _ _ :: .string _ :: _, _ :: _, ⟨h1, h2, h3, h4, h5⟩ => ⟨h1, h2, h3, h4.more hP, RwV.more hP h5⟩
theorem RwV.app : ∀ {vs us : List Value} {rs qs : List Rw}, RwV w P vs rs → RwV w P us qs → RwV w P (vs ++ us) (rs ++ qs)
  | [], _, [], _, _, h2 => h2
  | .slice _ _ _ :: .string _ :: _, _, _ :: _, _, ⟨h1, h2, h3, h4, h5⟩, h6 => ⟨h1, h2, h3, h4, RwV.app h5 h6⟩
theorem RwV.length : ∀ {vs : List Value} {rs : List Rw}, RwV w P vs rs → vs.length = rs.length * 2
  | [], [], _ => rfl
  | .slice _ _ _ :: .string _ :: _, _ :: _, ⟨_, _, _, _, h5⟩ => by
    have := RwV.length h5
    simp only [List.length_cons]
    omega
theorem RwV.at_ : ∀ {vs : List Value} {rs : List Rw} {k : Nat} {r : Rw}, RwV w P vs rs → rs[k]? = some r → ∃ A n c, vs[k * 2]? = some (.slice A n c) ∧ vs[k * 2 + 1]? = some (.string r.en) ∧ n ≤ c ∧ c ≤ maxLen ∧ SeesLP w P A n r.fs
  | [], [], _, _, _, h => by simp at h
  | .slice A n c :: .string e :: vs, r :: rs, 0, r', ⟨h1, h2, h3, h4, h5⟩, h => by
    simp only [List.getElem?_cons_zero, Option.some.injEq] at h
    subst h
    exact ⟨A, n, c, rfl, by rw [h1]; rfl, h2, h3, h4⟩
  | .slice A n c :: .string e :: vs, r :: rs, k + 1, r', ⟨h1, h2, h3, h4, h5⟩, h => by
    simp only [List.getElem?_cons_succ] at h
    rw [show (k + 1) * 2 = k * 2 + 1 + 1 by omega]
    exact RwV.at_ h5 h
end
/-- The slice is a row of rows of one's own. -/
structure OwnR (w : World) (base : Nat) (A : Option Addr) (n c : Nat) (rs : List Rw) (vs : List Value) : Prop where
  own : w.ownsRow base 62 2 (.slice A n c) n vs
  row : RwV w (fun b => base ≤ b ∧ b < w.heap.size ∧ some b ≠ (Value.slice A n c).ownBlock) vs rs
section
variable {w w' : World} {base n c : Nat} {A : Option Addr} {rs : List Rw} {vs : List Value}
theorem OwnR.nil (w : World) (base : Nat) : OwnR w base none 0 0 [] [] := ⟨World.ownsRow_nil w base _ _, trivial⟩
theorem OwnR.len (h : OwnR w base A n c rs vs) : n = rs.length := by
  have h1 := h.own.1
  have h2 := h.row.length
  omega
theorem OwnR.cap (h : OwnR w base A n c rs vs) : n ≤ c ∧ c ≤ maxLen := own_cap' h.own rfl
theorem OwnR.below (h : OwnR w base A n c rs vs) (hb : Below w.heap.size w w') : OwnR w' base A n c rs vs := by
  refine ⟨h.own.kept (row := none) ⟨hb.os, hb.tape, hb.output, hb.size, fun i hi _ => hb.block i hi⟩ (by cases hv : (Value.slice A n c).ownBlock <;> simp), ?_⟩
  exact (h.row.keep (w' := w') fun b o hb1 => hb.cell (p := ⟨b, o, none⟩) hb1.2.1).more fun b hb1 => ⟨hb1.1, Nat.lt_of_lt_of_le hb1.2.1 hb.size, hb1.2.2⟩
theorem OwnR.sees (h : OwnR w base A n c rs vs) : SeesR w w.heap.size A n rs := by
  refine ⟨h.len, fun k r hr => ?_⟩
  obtain ⟨Af, nf, cf, h1, h2, h3, h4, h5⟩ := h.row.at_ hr
  rcases own_form h.own with ⟨rfl, rfl, hl⟩ | ⟨g, rfl, hg, hgl, _, _, hc⟩
  · rw [hl] at h1; simp at h1
  · exact ⟨g, 0, Af, nf, cf, rfl, hgl, hc _ _ h1, hc _ _ h2, h5.sees (fun b hb => hb.2.1), h3, h4⟩
/-- Grown by rows whose fields lie elsewhere. -/
theorem OwnR.push {m c2 : Nat} {A2 : Option Addr} {qs : List Rw} {us : List Value} (h : OwnR w base A n c rs vs) (hu : RwV w (fun b => base ≤ b ∧ b < w.heap.size ∧ some b ≠ (Value.slice A n c).ownBlock) us qs)
    (ho : w'.ownsRow base 62 2 (.slice A2 m c2) m (vs ++ us)) (hg : w.grownBy w' (Value.slice A n c).ownBlock) (hat : ∀ a, A2 = some a → w.heap.size ≤ a.block ∨ some a.block = (Value.slice A n c).ownBlock) :
    OwnR w' base A2 m c2 (rs ++ qs) (vs ++ us) := by
  refine ⟨ho, ?_⟩
  refine ((h.row.app hu).keep (w' := w') fun b o hb => World.cell?_of_block (hg.block b hb.2.1 hb.2.2)).more fun b hb => ⟨hb.1, Nat.lt_of_lt_of_le hb.2.1 hg.size, fun e => ?_⟩
  cases A2 with
  | none => cases e
  | some a =>
    have e : b = a.block := by injection e
    rcases hat a rfl with h1 | h1
    · have := hb.2.1; omega
    · exact hb.2.2 (by rw [e]; exact h1)
end
theorem elem_row : Elem Tryz.prog 63 62 (.agg #[.slice none 0 0, .string ⟨#[]⟩]) 2 40 := ⟨Tryz.underlying63, by kernel_rfl, rfl, by omega⟩
/-- One row, laid beside it. -/
theorem src_row (W : World) (A : Option Addr) (n c : Nat) (e : ByteArray) (g : Nat) (hg : g = W.heap.size) : Src Tryz.prog 2 63 (.slice (some ⟨g, 0, none⟩) 1 1) 1 [.slice A n c, .string e] (W.alloc (Obj.cells #[Value.slice A n c, Value.string e] 62)) := by
  subst hg
  refine Src.ofSlice _ Tryz.underlying63 ⟨W.heap.size, 0, none⟩ 1 1 [.slice A n c, .string e] rfl (fun j u hu => ?_) (by intro u hu; simp at hu; rcases hu with rfl | rfl <;> rfl)
  rw [Addr.add_lit, cell_of_row _ _ _ _ _ _ (heap_alloc_new W _), ← hu, Nat.zero_add]
  simp
end Go.Proofs.YtlcbhooiinaalaaGreatDoor.Cv
namespace Go.Proofs.YtlcbhooiinaalaaGreatDoor.Cv
open Go.RowKit Go.Proofs.YtlcbhooiinaalaaGreatDoor.Jd Go.Proofs.YtlcbhooiinaalaaGreatDoor.Li
set_option maxRecDepth 100000

/-- The row of a line. -/
def rowF (x : Ln) : Rw := ⟨fldsL x.1, ⟨x.2.toArray⟩⟩
/-- The rows of lines behind these, or the line that has a fault, and the fault. -/
def rowsF : List Rw → Nat → List Ln → List Rw × Nat × Int
  | ahead, _, [] => (ahead, 0, 0)
  | ahead, i, x :: r => if faultF ahead (rowF x) ≠ 0 then ([], i + 1, faultF ahead (rowF x)) else rowsF (ahead ++ [rowF x]) (i + 1) r
theorem fault_any (ahead : List Rw) (r : Rw) (A Ar : Option Addr) (n c nr cr : Nat) (w : World) (hs : SeesR w w.heap.size A n ahead) (hn : n ≤ 100000) (hr : SeesL w w.heap.size Ar nr r.fs) (hnr : nr ≤ 100000) (hp : ∀ z ∈ mns r.fs, Pl z) (hnc : n ≤ c) (ht : ∀ x ∈ ahead, x.fs ≠ []) :
    Calls Tryz.prog 77 #[.slice A n c, .agg #[.slice Ar nr cr, .string r.en]] w fun e w' => e = .returned (.int .i64 (faultF ahead r)) ∧ Below w.heap.size w w' := by
  cases ahead with
  | nil =>
    obtain rfl : n = 0 := hs.len
    exact fault_head r A Ar c nr cr w hr hnr hp
  | cons h t =>
    obtain ⟨b, o, Af, nf, cf, rfl, _⟩ := hs.at_ 0 h rfl
    exact fault_rec h t r Ar b o n c nr cr w hs hn hr hnr hp hnc (fun x hx => ht x (List.mem_cons_of_mem _ hx))
theorem fault_fs {ahead : List Rw} {r : Rw} (h : ¬ faultF ahead r ≠ 0) : r.fs ≠ [] := fun e => h (by unfold faultF; rw [if_pos e]; decide)
theorem flds_len : ∀ (F : Nat) (l : Bs) (r : List Ln), flds F l = some r → r.length ≤ F
  | 0, _, _, h => by simp [flds] at h
  | F + 1, l, r, h => by
    rw [flds] at h
    split at h
    · cases h
    · split at h
      · injection h with h; subst h; simp
      · cases hf : flds F (l.drop (wid false l + 1)) with
        | none => rw [hf] at h; cases h
        | some q =>
          rw [hf] at h
          injection h with h
          subst h
          have := flds_len F _ q hf
          simp only [List.length_cons]
          omega
theorem fldsL_len (l : Bs) : (fldsL l).length ≤ l.length + 1 := by
  unfold fldsL
  cases h : flds (l.length + 1) l with
  | none => simp
  | some r => exact flds_len _ _ _ h
/-- What the region leaves: the row just read. -/
def RdRow (w : World) (base : Nat) (x : Ln) (p : Value) (w' : World) : Prop :=
  ∃ (g : Nat) (Af : Option Addr) (cf : Nat), p = .pointer (some ⟨g, 0, none⟩) ∧ w'.heap[g]? = some (.cells #[.slice Af (fldsL x.1).length cf, encs x.2] 62 (0, 0)) ∧ OwnF w' base Af (fldsL x.1).length cf (fldsL x.1) ∧ Below w.heap.size w w'
theorem own_base {w : World} {base base' n size : Nat} {e : TypeId} {v : Value} {xs : List Value} (h : w.ownsRow base' e size v n xs) (hb : base ≤ base') : w.ownsRow base e size v n xs :=
  ⟨h.1, by
    rcases h.2 with hn | ⟨g, cap, cur, e1, hg, rest⟩
    · exact .inl hn
    · exact .inr ⟨g, cap, cur, e1, Nat.le_trans hb hg, rest⟩⟩
/-- What is answered. -/
def RoP (w : World) (o : List Rw × Nat × Int) (en : Ending) (w' : World) : Prop :=
  ∃ (A : Option Addr) (c : Nat) (vs : List Value), en = .returned (.tuple #[.slice A o.1.length c, .int .i64 (o.2.1 : Nat), .int .i64 o.2.2]) ∧ OwnR w' w.heap.size A o.1.length c o.1 vs ∧ Below w.heap.size w w'

set_option maxHeartbeats 8000000 in
theorem rowsOf_any (ls : List Ln) (A : Option Addr) (n c B : Nat) (w : World) (h : SeesL w B A n ls) (hB : B ≤ w.heap.size) (hn : n ≤ 5000) (hz : ∀ x ∈ ls, x.1.length ≤ 4000) (hp : ∀ x ∈ ls, ∀ z ∈ mns (fldsL x.1), Pl z) (hG : Gl w) :
    Calls Tryz.prog 49 #[.slice A n c] w (RoP w (rowsF [] 0 ls)) := by
  obtain ⟨R, hR⟩ : ∃ R, R = rowsF [] 0 ls := ⟨_, rfl⟩
  rw [← hR]
  have HR := Lib.hid hR
  have Hl := Lib.hid h.len
  have HH := Lib.hid h
  have Hz := Lib.hid hz
  have Hp := Lib.hid hp
  have HG := Lib.hid hG
  clear h hz hp hG hR
  go_enter Tryz.func49, Tryz.ntmps49
  go_wp2_with fail
  go_loopw [5, 12] (fun a i wr => ∃ (k : Nat) (A5 : Option Addr) (c5 : Nat) (acc : List Rw) (vs : List Value), k ≤ n ∧ i = .int .i64 k ∧ a = .slice A5 k c5 ∧ Hid (OwnR wr w.heap.size A5 k c5 acc vs) ∧ Hid (Below w.heap.size w wr) ∧ Hid (∀ x ∈ acc, x.fs ≠ []) ∧ Hid (R = rowsF acc k (ls.drop k))) (fun _ i _ => n - (intOf i).toNat)
  case atStart => exact ⟨0, none, 0, [], [], Nat.zero_le _, rfl, rfl, Lib.hid (OwnR.nil _ _), Lib.hid (Below.refl _ _), Lib.hid (fun x hx => by cases hx), HR⟩
  case round =>
    obtain ⟨k, A5, c5, acc, vs, hk, rfl, rfl, HO, HW, HN, HF⟩ := hrel
    by_cases hlt : k < n
    · have hkl : k < ls.length := by have := Hl.out; omega
      obtain ⟨x, hx⟩ : ∃ x, ls[k]? = some x := ⟨_, List.getElem?_eq_getElem hkl⟩
      have hxe : ls[k] = x := (List.getElem?_eq_some_iff.1 hx).2
      have hxm := List.mem_of_getElem? hx
      obtain ⟨b, o, rfl, hbl, hc1, hc2⟩ := (HH.out.below (HW.out.mono hB)).at_ hx
      obtain ⟨x1, hx1⟩ : ∃ x1 : ByteArray, encs x.1 = .string x1 := ⟨_, rfl⟩
      obtain ⟨x2, hx2⟩ : ∃ x2 : ByteArray, encs x.2 = .string x2 := ⟨_, rfl⟩
      rw [hx1] at hc1
      rw [hx2] at hc2
      have hx1d : x1.data.toList = x.1 := by
        have e : (⟨x.1.toArray⟩ : ByteArray) = x1 := by unfold encs at hx1; injection hx1
        rw [← e]
      have hx1s : x1.size ≤ 4000 := by
        have e : x1.size = x1.data.toList.length := rfl
        rw [e, hx1d]
        exact Hz.out x hxm
      have hF := HF.out
      rw [List.drop_eq_getElem_cons hkl, hxe, rowsF] at hF
      have hkn : (k : Int) < (n : Int) := by omega
      have hk0 : (0 : Int) ≤ (k : Int) := by omega
      obtain ⟨W1, hW1⟩ : ∃ W, W = wr.alloc (Obj.cells #[.string x1, .string x2] 88) := ⟨_, rfl⟩
      have hb1 : Below wr.heap.size wr W1 := by rw [hW1]; exact (Below.refl _ _).alloc (Nat.le_refl _) _
      have hg1 : W1.heap[wr.heap.size]? = some (Obj.cells #[.string x1, .string x2] 88) := by rw [hW1]; exact heap_alloc_new wr _
      have hl1 : wr.heap.size < W1.heap.size := (Array.getElem?_eq_some_iff.1 hg1).1
      have hp0 : W1.cell? ⟨wr.heap.size, 0, none⟩ = some (.string x1) := by rw [cell_of_row _ _ _ _ _ _ hg1]; rfl
      have hp1 : W1.cell? ⟨wr.heap.size, 1, none⟩ = some (.string x2) := by rw [cell_of_row _ _ _ _ _ _ hg1]; rfl
      have HK := Lib.hid (fun (W : World) (hW : Below W1.heap.size W1 W) => (⟨(hW.cell (p := ⟨wr.heap.size, 0, none⟩) hl1).trans hp0, (hW.cell (p := ⟨wr.heap.size, 1, none⟩) hl1).trans hp1⟩ : W.cell? ⟨wr.heap.size, 0, none⟩ = some (.string x1) ∧ W.cell? ⟨wr.heap.size, 1, none⟩ = some (.string x2)))
      have hG1 : Gl W1 := (HG.out.below HW.out).below hb1
      have HFi := Lib.hid (fun (W : World) (hW : Below W1.heap.size W1 W) => by
        have := fields_any x1 W hx1s (hG1.below hW)
        rw [hx1d] at this
        exact this)
      have hq0 : Below W1.heap.size W1 W1.drew := (Below.refl _ _).drew
      have Hlt := Lib.hid hlt
      have HF2 := Lib.hid hF
      have HB1 := Lib.hid hb1
      have Hxm := Lib.hid hxm
      have Hx2 := Lib.hid hx2
      clear hkl hx hxe hxm hlt hx1 hx2 hx1d hx1s hF hb1 hg1 hp0 hp1 hG1
      go_upto_region 5 with (fail)
      rw [← hW1]
      clear hW1
      go_cut [8] from 13 to 35 (fun p wx => RdRow W1 W1.heap.size x p wx)
      case first =>
        have hqa : Below W1.heap.size W1 (W1.alloc (Obj.cells #[.slice none 0 0, .string ⟨#[]⟩] 62)).drew := ((Below.refl W1.heap.size W1).alloc (Nat.le_refl _) (Obj.cells #[.slice none 0 0, .string ⟨#[]⟩] 62)).drew
        have hga : (W1.alloc (Obj.cells #[.slice none 0 0, .string ⟨#[]⟩] 62)).drew.heap[W1.heap.size]? = some (Obj.cells #[.slice none 0 0, .string ⟨#[]⟩] 62) := heap_alloc_new W1 _
        have hgal : W1.heap.size < (W1.alloc (Obj.cells #[.slice none 0 0, .string ⟨#[]⟩] 62)).drew.heap.size := (Array.getElem?_eq_some_iff.1 hga).1
        go_region_held3 (fun W => Below W1.heap.size W1 W ∧ W.cell? ⟨wr.heap.size, 0, none⟩ = some (.string x1) ∧ W.cell? ⟨wr.heap.size, 1, none⟩ = some (.string x2))
          (first | exact ⟨hq0, HK.out _ hq0⟩ | exact ⟨hq2, HK.out _ hq2⟩ | exact ⟨hqa, HK.out _ hqa⟩ | exact ⟨hq2.alloc hq2.size _, HK.out _ (hq2.alloc hq2.size _)⟩ | exact ⟨hq3, HK.out _ hq3⟩ | exact ⟨(hq3.setCell (Nat.le_refl _) _).setCell (Nat.le_refl _) _, HK.out _ ((hq3.setCell (Nat.le_refl _) _).setCell (Nat.le_refl _) _)⟩)
          (first
          | (go_at_call 76; (with_reducible refine (HFi.out _ hq0).mono ?_); rintro e w2 ⟨Af, cf, rfl, ho2, hb2⟩; have hq2 := hq0.trans (hb2.mono hq0.size))
          | (go_at_call 76; (with_reducible refine (HFi.out _ hqa).mono ?_); rintro e w3 ⟨Af, cf, rfl, ho3, hb3⟩; have hq3 := hqa.trans (hb3.mono hqa.size); have hg3 := (hb3.block _ hgal).trans hga; have hc30 : w3.cell? ⟨W1.heap.size, 0, none⟩ = some (.slice none 0 0) := (by rw [cell_of_row _ _ _ _ _ _ hg3]; rfl); have hc31 : w3.cell? ⟨W1.heap.size, 1, none⟩ = some (.string ⟨#[]⟩) := (by rw [cell_of_row _ _ _ _ _ _ hg3]; rfl); have hf30 : w3.frozen? ⟨W1.heap.size, 0, none⟩ = false := (by simp [World.frozen?, hg3]); have hf31 : w3.frozen? ⟨W1.heap.size, 1, none⟩ = false := (by simp [World.frozen?, hg3])))
        · go_wp2_with fail
          go_meet
          exact ⟨w2.heap.size, Af, cf, rfl, by rw [Hx2.out]; exact heap_alloc_new w2 _, OwnF.below ho2 ((Below.refl _ _).alloc (Nat.le_refl _) _), hq2.alloc hq2.size _⟩
        · go_wp2_with fail
          go_meet
          have hlt3 : ∀ q, (Value.slice Af (fldsL x.1).length cf).ownBlock = some q → W1.heap.size < q := fun q hq => by
            have := (World.ownsRow.lt ho3 q hq).1
            simp at this
            omega
          have hne : (Value.slice Af (fldsL x.1).length cf).ownBlock ≠ some W1.heap.size := fun e => by have := hlt3 _ e; omega
          refine ⟨W1.heap.size, Af, cf, rfl, ?_, ?_, (hq3.setCell (Nat.le_refl _) _).setCell (Nat.le_refl _) _⟩
          · rw [heap_setCell_same _ _ 1 _ _ _ (heap_setCell_same w3 _ 0 _ _ _ hg3), Hx2.out]
            rfl
          · exact ownsRow_setCell_other (ownsRow_setCell_other (own_base ho3 (by simp)) hne _) hne _
      case rest =>
        obtain ⟨g, Af, cf, rfl, hgx, hof, hbx⟩ := hcut
        obtain ⟨w4, rfl⟩ : ∃ w4 : World, w4 = wc := ⟨_, rfl⟩
        rw [Hx2.out] at hgx
        have hbr4 : Below wr.heap.size wr w4 := HB1.out.trans (hbx.mono HB1.out.size)
        have HW4 := Lib.hid (HW.out.trans (hbr4.mono HW.out.size))
        have HO4 := Lib.hid (HO.out.below hbr4)
        have hr0 : w4.cell? ⟨g, 0, none⟩ = some (.slice Af (fldsL x.1).length cf) := by rw [cell_of_row _ _ _ _ _ _ hgx]; rfl
        have hr1 : w4.cell? ⟨g, 1, none⟩ = some (.string x2) := by rw [cell_of_row _ _ _ _ _ _ hgx]; rfl
        have hgl : g < w4.heap.size := (Array.getElem?_eq_some_iff.1 hgx).1
        have hfl : (fldsL x.1).length ≤ 100000 := by have := fldsL_len x.1; have := Hz.out x Hxm.out; omega
        have hx2e : x2 = (rowF x).en := by have := Hx2.out; unfold encs at this; injection this with this; exact this.symm
        have hFa := fault_any acc (rowF x) A5 Af k c5 (fldsL x.1).length cf w4 HO4.out.sees (by omega) (OwnF.sees hof) hfl (Hp.out x Hxm.out) HO4.out.cap.1 HN.out
        rw [← hx2e] at hFa
        have HFa := Lib.hid hFa
        obtain ⟨v, hv⟩ : ∃ v, v = faultF acc (rowF x) := ⟨_, rfl⟩
        rw [← hv] at HFa
        have hF2 := HF2.out
        rw [← hv] at hF2
        have HOf := Lib.hid hof
        have Hv := Lib.hid hv
        have Hx2e := Lib.hid hx2e
        have Hgx := Lib.hid hgx
        have HW1l : Hid (wr.heap.size < W1.heap.size) := Lib.hid hl1
        have HbxS := Lib.hid hbx.size
        clear hFa hv hof hbr4 hbx hx2e HF hgx hq0
        by_cases h0 : v = 0
        · rw [if_neg (by simpa using h0)] at hF2
          have HF3 := Lib.hid hF2
          subst h0
          clear hF2
          go_wp2_with fail
          (with_reducible refine HFa.out.mono ?_)
          rintro e w5 ⟨rfl, hb5⟩
          have hr05 := (hb5.cell (p := ⟨g, 0, none⟩) hgl).trans hr0
          have hr15 := (hb5.cell (p := ⟨g, 1, none⟩) hgl).trans hr1
          have HW5 := Lib.hid (HW4.out.trans (hb5.mono HW4.out.size))
          have HO5 := Lib.hid (HO4.out.below hb5)
          have HOf5 := Lib.hid (OwnF.below HOf.out hb5)
          have hz45 := hb5.size
          have hk1 : k + 1 ≤ 1099511627776 := by omega
          have hw5 := HW5.out.size
          clear hb5 hr0 hr1
          go_wp2_with (at_builtin; refine wpList_append_row rfl (.tmp 31) (.tmp 33) _ _ rfl elem_row rfl rfl (HO5.out.own.alloc _) (src_row _ Af (fldsL x.1).length cf x2 _ rfl) hk1 (by simp; omega) ?_; intro A6 c6 w6 ho6 hg6 hat6)
          have hEa := HO5.out.below (w' := w5.alloc (Obj.cells #[Value.slice Af (fldsL x.1).length cf, Value.string x2] 62)) ((Below.refl _ _).alloc (Nat.le_refl _) _)
          have hnew : ∀ q, (Value.slice A5 k c5).ownBlock = some q → q < wr.heap.size := fun q hq => (HO.out.own.lt q hq).2
          have hrow : RwV (w5.alloc (Obj.cells #[Value.slice Af (fldsL x.1).length cf, Value.string x2] 62)) (fun b => w.heap.size ≤ b ∧ b < (w5.alloc (Obj.cells #[Value.slice Af (fldsL x.1).length cf, Value.string x2] 62)).heap.size ∧ some b ≠ (Value.slice A5 k c5).ownBlock) [.slice Af (fldsL x.1).length cf, .string x2] [rowF x] := by
            refine ⟨Hx2e.out, (ownF_cap HOf5.out).1, (ownF_cap HOf5.out).2, ?_, trivial⟩
            refine ((ownF_lp HOf5.out).keep (w' := w5.alloc (Obj.cells #[Value.slice Af (fldsL x.1).length cf, Value.string x2] 62)) (fun b o hb => World.cell?_alloc_lt _ _ _ hb.2)).more (fun b hb => ⟨?_, ?_, fun e => ?_⟩)
            · have := HW.out.size; have := HW1l.out; have := hb.1; omega
            · have := hb.2; simp; omega
            · have := hnew b e.symm; have := HW1l.out; have := hb.1; omega
          have HP := Lib.hid (hEa.push hrow ho6 hg6 (fun a ha => (hat6 a ha).imp (fun e => Nat.le_of_eq e.symm) id))
          have HW6 : Hid (Below w.heap.size w w6) := Lib.hid ((HW5.out.alloc hw5 _).grown hg6 (by simp; omega) (fun q hq => (HO5.out.own.lt q hq).1))
          have HN6 : Hid (∀ y ∈ acc ++ [rowF x], y.fs ≠ []) := Lib.hid (fun y hy => by
            rcases List.mem_append.1 hy with hy | hy
            · exact HN.out y hy
            · obtain rfl : y = rowF x := by simpa using hy
              exact fault_fs (by rw [← Hv.out]; simp))
          clear hEa hrow ho6 hg6 hat6 hnew
          go_wp2_with fail
          go_roundw
          case rel => exact ⟨k + 1, A6, c6, _, _, Hlt.out, by go_num, rfl, HP, HW6, HN6, HF3⟩
          case measure => have := Hlt.out; simp [intOf]; omega
        · rw [if_pos h0] at hF2
          have HF3 := Lib.hid hF2
          have hvb : (v != 0) = true := by simpa using h0
          clear h0 hF2
          go_wp2_with fail
          (with_reducible refine HFa.out.mono ?_)
          rintro e w5 ⟨rfl, hb5⟩
          have HW5 := Lib.hid (HW4.out.trans (hb5.mono HW4.out.size))
          clear hb5
          go_wp2_with fail
          refine bodyPost_ret (v := .tuple #[.slice none 0 0, .int .i64 ((k : Int) + 1), .int .i64 v]) (by simp [results, Tryz.results49, go_sem]) rfl ?_
          exact ⟨none, 0, [], by rw [HF3.out]; rfl, by rw [HF3.out]; exact OwnR.nil _ _, HW5.out⟩
    · obtain rfl : k = n := by omega
      have hF := HF.out
      rw [List.drop_of_length_le (by rw [← Hl.out]; exact Nat.le_refl _), rowsF] at hF
      have HF2 := Lib.hid hF
      clear hlt hF HF
      go_wp2_with fail
      refine bodyPost_ret (v := .tuple #[.slice A5 k c5, .int .i64 0, .int .i64 0]) (by simp [results, Tryz.results49, go_sem]) rfl ?_
      have hlen := HO.out.len
      refine ⟨A5, c5, vs, by rw [HF2.out, hlen]; rfl, ?_, HW.out⟩
      rw [HF2.out]
      have := HO.out
      rw [hlen] at this
      exact this
end Go.Proofs.YtlcbhooiinaalaaGreatDoor.Cv
