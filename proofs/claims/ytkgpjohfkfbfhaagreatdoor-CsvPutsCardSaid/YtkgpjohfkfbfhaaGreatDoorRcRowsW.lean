/- The reference's rows of csv: all lines' fields, the tree, the line that does not fit. Conditions: at most 4000 bytes. -/
import Derived.Test.YtkgpjohfkfbfhaaGreatDoorMwRcOne
import Derived.Test.YtkgpjohfkfbfhaaGreatDoorMwOwnWith
import Derived.Deep.CutRange
namespace Go.Proofs.YtkgpjohfkfbfhaaGreatDoor.Cv
open Go.RowKit Go.Proofs.YtkgpjohfkfbfhaaGreatDoor.Jd Go.Proofs.YtkgpjohfkfbfhaaGreatDoor.Li Go.Proofs.YtkgpjohfkfbfhaaGreatDoor.Pt Go.Proofs.YtkgpjohfkfbfhaaGreatDoor.Cl
set_option maxRecDepth 100000

theorem qin_len : ∀ (r v : Bs) (n : Nat), qin r = some (v, n) → v.length ≤ n
  | [], _, _, h => by simp [qin] at h
  | [c], v, n, h => by
    rw [qin] at h
    split at h
    · injection h with h; injection h with h1 h2; subst h1; exact Nat.zero_le _
    · cases h
  | c :: d :: r, v, n, h => by
    rw [qin] at h
    split at h
    · split at h
      · cases hq : qin r with
        | none => rw [hq] at h; cases h
        | some p =>
          rw [hq] at h
          injection h with h
          injection h with h1 h2
          have := qin_len r p.1 p.2 hq
          subst h1; subst h2
          simp only [List.length_cons]
          omega
      · split at h
        · injection h with h; injection h with h1 h2; subst h1; exact Nat.zero_le _
        · cases h
    · cases hq : qin (d :: r) with
      | none => rw [hq] at h; cases h
      | some p =>
        rw [hq] at h
        injection h with h
        injection h with h1 h2
        have := qin_len (d :: r) p.1 p.2 hq
        subst h1; subst h2
        simp only [List.length_cons]
        omega
theorem one_len {l v : Bs} {n : Nat} (h : oneF l = some (v, n)) : v.length ≤ l.length := by
  have hw := (one_some h).1
  have hl := wid_le l false
  suffices v.length ≤ n by omega
  cases l with
  | nil => injection h with h; injection h with h1 h2; subst h1; exact Nat.zero_le _
  | cons c r =>
    rw [oneF] at h
    split at h
    · cases hq : qin r with
      | none => rw [hq] at h; cases h
      | some p =>
        rw [hq] at h
        injection h with h
        injection h with h1 h2
        have := qin_len r p.1 p.2 hq
        subst h1; subst h2
        omega
    · cases hq : pln (c :: r) with
      | none => rw [hq] at h; cases h
      | some p =>
        rw [hq] at h
        injection h with h
        injection h with h1 h2
        subst h1; subst h2
        rw [List.length_take]
        omega
theorem flds_vals : ∀ (F : Nat) (l : Bs) (fs : List Ln), fldsR F l = some fs → ∀ x ∈ fs, x.2.length ≤ l.length
  | 0, _, _, h, _, _ => by cases h
  | F + 1, l, fs, h, x, hx => by
    rw [fldsR] at h
    cases ho : oneF l with
    | none => rw [ho] at h; cases h
    | some p =>
      obtain ⟨v, n⟩ := p
      have hv := one_len ho
      rw [ho] at h
      dsimp only at h
      split at h
      · injection h with h
        subst h
        obtain rfl : x = _ := List.mem_singleton.1 hx
        exact hv
      · cases hq : fldsR F (l.drop (n + 1)) with
        | none => rw [hq] at h; cases h
        | some q =>
          rw [hq] at h
          injection h with h
          subst h
          rcases List.mem_cons.1 hx with rfl | hx
          · exact hv
          · have := flds_vals F _ q hq x hx
            rw [List.length_drop] at this
            omega
theorem fieldsO_vals {l : Bs} {f : List Ln} (h : fieldsO l = some f) : ∀ z ∈ mns f, z.size ≤ l.length := by
  unfold fieldsO at h
  split at h
  · cases h
  · intro z hz
    obtain ⟨x, hx, rfl⟩ := List.mem_map.1 hz
    exact flds_vals _ _ _ h x hx
theorem ownG_lp {w : World} {base n c : Nat} {A : Option Addr} {ls : List Ln} (h : OwnG w base A n c ls) : SeesLP w (fun b => base ≤ b ∧ b < w.heap.size) A n ls := by
  rcases own_form h with ⟨rfl, rfl, hl⟩ | ⟨g, rfl, hg, hgl, _, _, hc⟩
  · have : ls = [] := List.eq_nil_of_length_eq_zero (by have := lcells_length ls; rw [hl] at this; simp at this; omega)
    subst this
    exact ⟨rfl, fun j u hu => by simp [lcells] at hu⟩
  · exact ⟨h.len, fun j u hu => ⟨g, 0, rfl, ⟨hg, hgl⟩, hc j u hu⟩⟩
theorem ownG_cap {w : World} {base n c : Nat} {A : Option Addr} {ls : List Ln} (h : OwnG w base A n c ls) : n ≤ c ∧ c ≤ maxLen := own_cap' h rfl
/-- Slices of fields; they lie in blocks that P picks. -/
def FfV (w : World) (P : Nat → Prop) : List Value → List (List Ln) → Prop
  | [], [] => True
  | .slice A n c :: vs, r :: rs => n ≤ c ∧ c ≤ maxLen ∧ SeesLP w P A n r ∧ FfV w P vs rs
  | _, _ => False
section
variable {w w' : World} {P P' : Nat → Prop}
theorem FfV.keep (hk : ∀ b o, P b → w'.cell? ⟨b, o, none⟩ = w.cell? ⟨b, o, none⟩) : ∀ {vs : List Value} {rs : List (List Ln)}, FfV w P vs rs → FfV w' P vs rs
  | [], [], _ => trivial
  | .slice _ _ _ :: _, _ :: _, ⟨h2, h3, h4, h5⟩ => ⟨h2, h3, h4.keep hk, FfV.keep hk h5⟩
theorem FfV.more (hP : ∀ b, P b → P' b) : ∀ {vs : List Value} {rs : List (List Ln)}, FfV w P vs rs → FfV w P' vs rs
  | [], [], _ => trivial
  | .slice _ _ _ :: _, _ :: _, ⟨h2, h3, h4, h5⟩ => ⟨h2, h3, h4.more hP, FfV.more hP h5⟩
theorem FfV.app : ∀ {vs us : List Value} {rs qs : List (List Ln)}, FfV w P vs rs → FfV w P us qs → FfV w P (vs ++ us) (rs ++ qs)
  | [], _, [], _, _, h2 => h2
  | .slice _ _ _ :: _, _, _ :: _, _, ⟨h2, h3, h4, h5⟩, h6 => ⟨h2, h3, h4, FfV.app h5 h6⟩
theorem FfV.length : ∀ {vs : List Value} {rs : List (List Ln)}, FfV w P vs rs → vs.length = rs.length
  | [], [], _ => rfl
  | .slice _ _ _ :: _, _ :: _, ⟨_, _, _, h5⟩ => by
    have := FfV.length h5
    simp only [List.length_cons]
    omega
theorem FfV.at_ : ∀ {vs : List Value} {rs : List (List Ln)} {k : Nat} {r : List Ln}, FfV w P vs rs → rs[k]? = some r → ∃ A n c, vs[k]? = some (.slice A n c) ∧ n ≤ c ∧ c ≤ maxLen ∧ SeesLP w P A n r
  | [], [], _, _, _, h => by simp at h
  | .slice A n c :: vs, r :: rs, 0, r', ⟨h2, h3, h4, h5⟩, h => by
    simp only [List.getElem?_cons_zero, Option.some.injEq] at h
    subst h
    exact ⟨A, n, c, rfl, h2, h3, h4⟩
  | .slice A n c :: vs, r :: rs, k + 1, r', ⟨h2, h3, h4, h5⟩, h => by
    simp only [List.getElem?_cons_succ] at h ⊢
    exact FfV.at_ h5 h
end
/-- The slice is a row of slices of fields, of one's own. -/
structure OwnO (w : World) (base : Nat) (A : Option Addr) (n c : Nat) (rs : List (List Ln)) (vs : List Value) : Prop where
  own : w.ownsRow base 82 1 (.slice A n c) n vs
  row : FfV w (fun b => base ≤ b ∧ b < w.heap.size ∧ some b ≠ (Value.slice A n c).ownBlock) vs rs
section
variable {w w' : World} {base n c : Nat} {A : Option Addr} {rs : List (List Ln)} {vs : List Value}
theorem OwnO.nil (w : World) (base : Nat) : OwnO w base none 0 0 [] [] := ⟨World.ownsRow_nil w base _ _, trivial⟩
theorem OwnO.len (h : OwnO w base A n c rs vs) : n = rs.length := by
  have h1 := h.own.1
  have h2 := h.row.length
  omega
theorem OwnO.cap (h : OwnO w base A n c rs vs) : n ≤ c ∧ c ≤ maxLen := own_cap' h.own rfl
theorem OwnO.below (h : OwnO w base A n c rs vs) (hb : Below w.heap.size w w') : OwnO w' base A n c rs vs := by
  refine ⟨h.own.kept (row := none) ⟨hb.os, hb.tape, hb.output, hb.size, fun i hi _ => hb.block i hi⟩ (by cases hv : (Value.slice A n c).ownBlock <;> simp), ?_⟩
  exact (h.row.keep (w' := w') fun b o hb1 => hb.cell (p := ⟨b, o, none⟩) hb1.2.1).more fun b hb1 => ⟨hb1.1, Nat.lt_of_lt_of_le hb1.2.1 hb.size, hb1.2.2⟩
/-- A slice of it, and what it reads as. -/
theorem OwnO.at_ (h : OwnO w base A n c rs vs) {k : Nat} {r : List Ln} (hk : rs[k]? = some r) : ∃ g Af nf cf, A = some ⟨g, 0, none⟩ ∧ g < w.heap.size ∧ w.cell? ⟨g, k, none⟩ = some (.slice Af nf cf) ∧ SeesL w w.heap.size Af nf r ∧ nf ≤ cf ∧ cf ≤ maxLen := by
  obtain ⟨Af, nf, cf, h1, h2, h3, h4⟩ := h.row.at_ hk
  rcases own_form h.own with ⟨rfl, rfl, hl⟩ | ⟨g, rfl, hg, hgl, _, _, hc⟩
  · rw [hl] at h1; simp at h1
  · exact ⟨g, Af, nf, cf, rfl, hgl, by have := hc _ _ h1; rwa [Nat.zero_add] at this, h4.sees (fun b hb => hb.2.1), h2, h3⟩
theorem OwnO.push {m c2 : Nat} {A2 : Option Addr} {qs : List (List Ln)} {us : List Value} (h : OwnO w base A n c rs vs) (hu : FfV w (fun b => base ≤ b ∧ b < w.heap.size ∧ some b ≠ (Value.slice A n c).ownBlock) us qs)
    (ho : w'.ownsRow base 82 1 (.slice A2 m c2) m (vs ++ us)) (hg : w.grownBy w' (Value.slice A n c).ownBlock) (hat : ∀ a, A2 = some a → w.heap.size ≤ a.block ∨ some a.block = (Value.slice A n c).ownBlock) :
    OwnO w' base A2 m c2 (rs ++ qs) (vs ++ us) := by
  refine ⟨ho, ?_⟩
  refine ((h.row.app hu).keep (w' := w') fun b o hb => World.cell?_of_block (hg.block b hb.2.1 hb.2.2)).more fun b hb => ⟨hb.1, Nat.lt_of_lt_of_le hb.2.1 hg.size, fun e => ?_⟩
  cases A2 with
  | none => cases e
  | some a =>
    have e : b = a.block := by injection e
    rcases hat a rfl with h1 | h1
    · have := hb.2.1; omega
    · exact hb.2.2 (by rw [e]; exact h1)
end
theorem elem_out : Elem Tryz.prog 59 82 (.slice none 0 0) 1 24 := ⟨Tryz.underlying59, by kernel_rfl, rfl, by omega⟩
theorem src_out (W : World) (A : Option Addr) (n c g : Nat) (hg : g = W.heap.size) : Src Tryz.prog 1 59 (.slice (some ⟨g, 0, none⟩) 1 1) 1 [.slice A n c] (W.alloc (Obj.cells #[Value.slice A n c] 82)) := by
  subst hg
  refine Src.ofSlice _ Tryz.underlying59 ⟨W.heap.size, 0, none⟩ 1 1 [.slice A n c] rfl (fun j u hu => ?_) (by intro u hu; simp at hu; subst hu; rfl)
  rw [Addr.add_lit, cell_of_row _ _ _ _ _ _ (heap_alloc_new W _), ← hu, Nat.zero_add]
  simp
/-- Blocks there are, but one. -/
def TB (w : World) (o : Option Nat) (b : Nat) : Prop := b < w.heap.size ∧ some b ≠ o
theorem TB.keep {w w' : World} {o : Option Nat} {A : Option Addr} {n : Nat} {t : Tr} (h : HoldsP w (TB w o) A n t) (hb : Below w.heap.size w w') : HoldsP w' (TB w' o) A n t :=
  (HoldsP.keep (w' := w') (fun b q hm => hb.cell (p := ⟨b, q, none⟩) hm.1) h).more fun _ hm => ⟨Nat.lt_of_lt_of_le hm.1 hb.size, hm.2⟩
theorem TB.up {w w' : World} {o : Option Nat} {A : Option Addr} {n : Nat} {t : Tr} (h : HoldsP w' (fun b => TB w o b ∨ Mine w.heap.size w' b) A n t) (ho : ∀ q, o = some q → q < w.heap.size) (hs : w.heap.size ≤ w'.heap.size) : HoldsP w' (TB w' o) A n t :=
  h.more fun b hm => by
    rcases hm with h1 | h1
    · exact ⟨Nat.lt_of_lt_of_le h1.1 hs, h1.2⟩
    · exact ⟨h1.lt, fun e => by have := ho b e.symm; have := h1.1; omega⟩
theorem TB.grown {w w' : World} {A6 A7 : Option Addr} {k c6 m c7 n : Nat} {A : Option Addr} {t : Tr} (h : HoldsP w (TB w (Value.slice A6 k c6).ownBlock) A n t) (hg : w.grownBy w' (Value.slice A6 k c6).ownBlock)
    (hat : ∀ a, A7 = some a → w.heap.size ≤ a.block ∨ some a.block = (Value.slice A6 k c6).ownBlock) : HoldsP w' (TB w' (Value.slice A7 m c7).ownBlock) A n t :=
  (HoldsP.keep (w' := w') (fun b q hm => World.cell?_of_block (hg.block b hm.1 hm.2)) h).more fun b hm => ⟨Nat.lt_of_lt_of_le hm.1 hg.size, fun e => by
    cases A7 with
    | none => cases e
    | some a =>
      have e : b = a.block := by injection e
      rcases hat a rfl with h1 | h1
      · have := hm.1; omega
      · exact hm.2 (by rw [e]; exact h1)⟩
theorem TB.holds {w : World} {o : Option Nat} {A : Option Addr} {n : Nat} {t : Tr} (h : HoldsP w (TB w o) A n t) : Holds w w.heap.size A n t := h.to fun _ hm => hm.1
/-- What is answered. -/
def RoR (w : World) (o : List (List Ln) × Tr × Nat × Int) (en : Ending) (w' : World) : Prop :=
  ∃ (A At : Option Addr) (c nt ct : Nat) (vs : List Value), en = .returned (.tuple #[.slice A o.1.length c, .slice At nt ct, .int .i64 (o.2.2.1 : Nat), .int .i64 o.2.2.2]) ∧ OwnO w' w.heap.size A o.1.length c o.1 vs ∧ Holds w' w'.heap.size At nt o.2.1 ∧ nt ≤ ct ∧ ct ≤ maxLen ∧ Below w.heap.size w w'

/-- A line's fields more. -/
theorem row_more {wr w3 w8 w7 : World} {base k c6 c7 n cf : Nat} {A6 A7 Af : Option Addr} {acc : List (List Ln)} {vs : List Value} {f : List Ln} (hO : OwnO wr base A6 k c6 acc vs) (hO3 : OwnO w3 base A6 k c6 acc vs) (hof : OwnG w3 wr.heap.size Af n cf f)
    (hb8 : Below w3.heap.size w3 w8) (ho7 : w7.ownsRow base 82 1 (.slice A7 (k + 1) c7) (k + 1) (vs ++ [.slice Af n cf])) (hg7 : w8.grownBy w7 (Value.slice A6 k c6).ownBlock) (hat7 : ∀ a, A7 = some a → a.block = w8.heap.size ∨ some a.block = (Value.slice A6 k c6).ownBlock) (hbs : base ≤ wr.heap.size) : OwnO w7 base A7 (k + 1) c7 (acc ++ [f]) (vs ++ [.slice Af n cf]) := by
  have hnew : ∀ q, (Value.slice A6 k c6).ownBlock = some q → q < wr.heap.size := fun q hq => (hO.own.lt q hq).2
  refine (hO3.below hb8).push ⟨(ownG_cap hof).1, (ownG_cap hof).2, ?_, trivial⟩ ho7 hg7 (fun a ha => (hat7 a ha).imp (fun e => Nat.le_of_eq e.symm) id)
  refine ((ownG_lp hof).keep (w' := w8) (fun b o hb => hb8.cell (p := ⟨b, o, none⟩) hb.2)).more (fun b hb => ⟨Nat.le_trans hbs hb.1, Nat.lt_of_lt_of_le hb.2 hb8.size, fun e => ?_⟩)
  have := hnew b e.symm
  have := hb.1
  omega

theorem row_sees {wr w3 w8 w7 : World} {base k c6 n cf : Nat} {A6 Af : Option Addr} {acc : List (List Ln)} {vs : List Value} {f : List Ln} (hO : OwnO wr base A6 k c6 acc vs) (hof : OwnG w3 wr.heap.size Af n cf f)
    (hb8 : Below w3.heap.size w3 w8) (hg7 : w8.grownBy w7 (Value.slice A6 k c6).ownBlock) : SeesL w7 w7.heap.size Af n f := by
  have hnew : ∀ q, (Value.slice A6 k c6).ownBlock = some q → q < wr.heap.size := fun q hq => (hO.own.lt q hq).2
  have h8 := (ownG_lp hof).keep (w' := w8) (fun b o hb => hb8.cell (p := ⟨b, o, none⟩) hb.2)
  refine (h8.keep (w' := w7) (fun b o hb => World.cell?_of_block (hg7.block b (Nat.lt_of_lt_of_le hb.2 hb8.size) (fun e => ?_)))).sees (fun b hb => Nat.lt_of_lt_of_le hb.2 (Nat.le_trans hb8.size hg7.size))
  have := hnew b e.symm
  have := hb.1
  omega
/-- A value's tree, new. -/
theorem rvalue3_any (x : ByteArray) (w : World) : Calls Tryz.prog 29 #[.string x] w fun e w' => e = .returned (.slice (some ⟨w.heap.size, 0, none⟩) 1 1) ∧ HoldsP w' (fun b => b = w.heap.size) (some ⟨w.heap.size, 0, none⟩) 1 (.cons x .nil .nil) ∧ Below w.heap.size w w' ∧ w.heap.size < w'.heap.size := by
  go_enter Tryz.func29, Tryz.ntmps29
  go_wp2_with fail
  go_ret
  have hg := heap_alloc_new w (Obj.cells #[Value.string x, Value.slice none 0 0] 53)
  refine ⟨rfl, ⟨_, 0, rfl, rfl, by rw [cell_of_row _ _ _ _ _ _ hg]; rfl, ⟨none, 0, 0, by rw [cell_of_row _ _ _ _ _ _ hg]; rfl, Nat.le_refl _, Nat.zero_le _, rfl⟩, 0, rfl, rfl⟩, (Below.refl _ _).alloc (Nat.le_refl _) _, (Array.getElem?_eq_some_iff.1 hg).1⟩

set_option maxHeartbeats 8000000 in
theorem rrows_any (ls : List Ln) (A : Option Addr) (n c B : Nat) (w : World) (h : SeesL w B A n ls) (hB : B ≤ w.heap.size) (hn : n ≤ 5000) (hz : ∀ x ∈ ls, x.1.length ≤ 4000) :
    Calls Tryz.prog 26 #[.slice A n c] w (RoR w (rowsR [] .nil 0 ls)) := by
  obtain ⟨R, hR⟩ : ∃ R, R = rowsR [] .nil 0 ls := ⟨_, rfl⟩
  rw [← hR]
  have HR := Lib.hid hR
  have Hl := Lib.hid h.len
  have HH := Lib.hid h
  have Hz := Lib.hid hz
  clear h hz hR
  go_enter Tryz.func26, Tryz.ntmps26
  go_wp2_with fail
  go_loopw [6, 7, 8] (fun a t i wr => ∃ (k : Nat) (A6 At : Option Addr) (c6 nt ct : Nat) (acc : List (List Ln)) (T : Tr) (vs : List Value), k ≤ n ∧ i = .int .i64 k ∧ a = .slice A6 k c6 ∧ t = .slice At nt ct ∧ Hid (OwnO wr w.heap.size A6 k c6 acc vs) ∧ Hid (HoldsP wr (TB wr (Value.slice A6 k c6).ownBlock) At nt T ∧ nt ≤ ct ∧ ct ≤ maxLen) ∧ Hid (T.len ≤ k) ∧ Hid (Below w.heap.size w wr) ∧ Hid (R = rowsR acc T k (ls.drop k))) (fun _ _ i _ => n - (intOf i).toNat)
  case atStart => exact ⟨0, none, none, 0, 0, 0, [], .nil, [], Nat.zero_le _, rfl, rfl, rfl, Lib.hid (OwnO.nil _ _), Lib.hid ⟨rfl, Nat.le_refl _, Nat.zero_le _⟩, Lib.hid (Nat.le_refl _), Lib.hid (Below.refl _ _), HR⟩
  case round =>
    obtain ⟨k, A6, At, c6, nt, ct, acc, T, vs, hk, rfl, rfl, rfl, HO, HT, HTl, HW, HF⟩ := hrel
    have Hkacc := Lib.hid HO.out.len
    by_cases hlt : k < n
    · have hkl : k < ls.length := by have := Hl.out; omega
      obtain ⟨x, hx⟩ : ∃ x, ls[k]? = some x := ⟨_, List.getElem?_eq_getElem hkl⟩
      have hxe : ls[k] = x := (List.getElem?_eq_some_iff.1 hx).2
      have hxm := List.mem_of_getElem? hx
      obtain ⟨b, o, rfl, hbl, hc1, _⟩ := (HH.out.below (HW.out.mono hB)).at_ hx
      obtain ⟨x1, hx1⟩ : ∃ x1 : ByteArray, Li.encs x.1 = .string x1 := ⟨_, rfl⟩
      rw [hx1] at hc1
      have hx1d : x1.data.toList = x.1 := by
        have e : (⟨x.1.toArray⟩ : ByteArray) = x1 := by unfold Li.encs at hx1; injection hx1
        rw [← e]
      have hx1s : x1.size ≤ 4000 := by
        have e : x1.size = x1.data.toList.length := rfl
        rw [e, hx1d]
        exact Hz.out x hxm
      have hF := HF.out
      rw [List.drop_eq_getElem_cons hkl, hxe, rowsR] at hF
      have hkn : (k : Int) < (n : Int) := by omega
      have hk0 : (0 : Int) ≤ (k : Int) := by omega
      have hxl : x.1.length = x1.size := by rw [← hx1d]; rfl
      have hFi := rfields_any x1 wr hx1s
      rw [hx1d] at hFi
      have Hlt := Lib.hid hlt
      have HltO := Lib.hid hlt
      have Hkl := Lib.hid hkl
      clear hkl hx hxe hxm hlt hx1 hx1d
      cases hfo : fieldsO x.1 with
      | none =>
        rw [hfo] at hFi
        have hfl : faultR acc T x.1 = 6 := by unfold faultR; rw [hfo]
        rw [hfl, if_pos (by decide)] at hF
        have HF2 := Lib.hid hF
        have HFi := Lib.hid hFi
        clear hF hFi hfl hfo
        go_wp2_with fail
        (with_reducible refine HFi.out.mono ?_)
        rintro e w2 ⟨rfl, hb2⟩
        have HW2 := Lib.hid (HW.out.trans (hb2.mono HW.out.size))
        clear hb2
        go_wp2_with fail
        refine bodyPost_ret (v := .tuple #[.slice none 0 0, .slice none 0 0, .int .i64 ((k : Int) + 1), .int .i64 6]) (by simp [results, Tryz.results26, go_sem]) rfl ?_
        exact ⟨none, none, 0, 0, 0, [], by rw [HF2.out]; rfl, by rw [HF2.out]; exact OwnO.nil _ _, by rw [HF2.out]; exact rfl, Nat.le_refl _, Nat.zero_le _, HW2.out⟩
      | some f =>
        rw [hfo] at hFi
        obtain ⟨hff, hfne⟩ := fieldsO_some hfo
        have hvz := fieldsO_vals hfo
        obtain ⟨m, vals, hms⟩ : ∃ m vals, mns f = m :: vals := by
          cases f with
          | nil => exact absurd rfl hfne
          | cons y l => exact ⟨_, _, rfl⟩
        have hfn : f.length ≤ 4001 := by have := fldsL_len x.1; rw [hff] at this; omega
        have HFi := Lib.hid hFi
        have Hfo := Lib.hid hfo
        rw [hff] at hF
        have HF1 := Lib.hid hF
        have Hms := Lib.hid hms
        have Hvz : Hid (∀ z ∈ mns f, z.size ≤ 4000) := Lib.hid (fun z hz => by have := hvz z hz; omega)
        clear hF hFi hfo hff hvz hms hxl hfne
        by_cases h0 : k = 0
        · have hk0b : ((k : Int) == 0) = true := by simp; omega
          have hacc : acc = [] := List.eq_nil_of_length_eq_zero (by rw [← Hkacc.out]; exact h0)
          have hfr : faultR acc T x.1 = headF (m :: vals) := by unfold faultR; rw [Hfo.out, hacc]; exact congrArg headF Hms.out
          have had : addR acc T f = T := by rw [hacc]; rfl
          have hF := HF1.out
          rw [hfr, had] at hF
          have Hacc := Lib.hid hacc
          have H0 := Lib.hid h0
          clear h0
          obtain ⟨v, hv⟩ : ∃ v, v = headF (m :: vals) := ⟨_, rfl⟩
          rw [← hv] at hF
          have HF2 := Lib.hid hF
          have Hv := Lib.hid hv
          clear hF hacc hfr had hv
          go_wp2_with fail
          (with_reducible refine HFi.out.mono ?_)
          rintro e w2 ⟨Af, cf, rfl, hof, hb2⟩
          have HOf := Lib.hid hof
          have HB2 := Lib.hid hb2
          have HHd := Lib.hid (head_any m vals f Af f.length cf w2 (OwnG.sees hof) Hms.out (by omega) (fun z hz => by have := Hvz.out z hz; omega))
          rw [← Hv.out] at HHd
          clear hof hb2
          go_wp2_with fail
          (with_reducible refine HHd.out.mono ?_)
          rintro e w3 ⟨rfl, hb3⟩
          have HB3 := Lib.hid (HB2.out.trans (hb3.mono HB2.out.size))
          have HOf3 := Lib.hid (OwnG.below HOf.out hb3)
          have HW3 := Lib.hid (HW.out.trans (HB3.out.mono HW.out.size))
          clear hb3
          by_cases hv0 : v = 0
          · have HF3 : Hid (R = rowsR (acc ++ [f]) T (k + 1) (ls.drop (k + 1))) := Lib.hid (by rw [HF2.out, if_neg (by simpa using hv0)])
            subst hv0
            have HO3 := Lib.hid (HO.out.below HB3.out)
            have hz3 := HW3.out.size
            have hk1 : k + 1 ≤ 1099511627776 := by omega
            go_wp2_with (at_builtin; refine wpList_append_row rfl (.tmp 48) (.tmp 50) _ _ rfl elem_out rfl rfl (HO3.out.own.alloc _) (src_out _ Af f.length cf _ rfl) hk1 (by simp; omega) ?_; intro A7 c7 w7 ho7 hg7 hat7)
            have hb8 : Below w3.heap.size w3 (w3.alloc (Obj.cells #[Value.slice Af f.length cf] 82)) := (Below.refl _ _).alloc (Nat.le_refl _) _
            have hPush := row_more HO.out HO3.out HOf3.out hb8 ho7 hg7 hat7 HW.out.size
            have hT7 := TB.grown (A7 := A7) (m := k + 1) (c7 := c7) (TB.keep (TB.keep HT.out.1 HB3.out) hb8) hg7 (fun a ha => (hat7 a ha).imp (fun e => Nat.le_of_eq e.symm) id)
            have hW7 : Below w.heap.size w w7 := (HW3.out.alloc hz3 _).grown hg7 (by simp; omega) (fun q hq => (HO3.out.own.lt q hq).1)
            refine ⟨⟨k + 1, A7, At, c7, nt, ct, acc ++ [f], T, _, Hlt.out, by go_num, rfl, rfl, Lib.hid hPush, Lib.hid ⟨hT7, HT.out.2⟩, Lib.hid (Nat.le_succ_of_le HTl.out), Lib.hid hW7, HF3⟩, ?_⟩
            have := Hlt.out
            simp [intOf]
            omega
          · have HF3 : Hid (R = ([], .nil, k + 1, v)) := Lib.hid (by rw [HF2.out, if_pos hv0])
            have hvb : (v != 0) = true := bne_iff_ne.2 hv0
            clear hv0
            go_wp2_with fail
            refine bodyPost_ret (v := .tuple #[.slice none 0 0, .slice none 0 0, .int .i64 ((k : Int) + 1), .int .i64 v]) (by simp [results, Tryz.results26, go_sem]) rfl ?_
            exact ⟨none, none, 0, 0, 0, [], by rw [HF3.out]; rfl, by rw [HF3.out]; exact OwnO.nil _ _, by rw [HF3.out]; exact rfl, Nat.le_refl _, Nat.zero_le _, HW3.out⟩
        · have hk0b : ((k : Int) == 0) = false := by simp; omega
          have hk0p : (0 : Int) < (k : Int) := by omega
          have hk0n : 0 < k := by omega
          obtain ⟨hh, rest, hacc⟩ : ∃ hh rest, acc = hh :: rest := by
            have := Hkacc.out
            cases acc with
            | nil => exact absurd this h0
            | cons a l => exact ⟨a, l, rfl⟩
          have hfr : faultR acc T x.1 = recR hh T f := by unfold faultR; rw [Hfo.out, hacc]
          have hvt : mns f.tail = vals := by
            have := Hms.out
            cases f with
            | nil => cases this
            | cons y l => simp only [mns, List.map_cons] at this; injection this
          obtain ⟨XR, hXR⟩ : ∃ XR, XR = rowT (mns hh.tail) vals .nil := ⟨_, rfl⟩
          have had : addR acc T f = T.withT m XR := by rw [hacc, hXR, ← hvt]; show T.withT ((mns f).headD ⟨#[]⟩) _ = _; rw [Hms.out]; rfl
          have hF := HF1.out
          rw [hfr, had] at hF
          obtain ⟨v, hv⟩ : ∃ v, v = recR hh T f := ⟨_, rfl⟩
          rw [← hv] at hF
          have HF2 := Lib.hid hF
          have Hv := Lib.hid hv
          have HXR := Lib.hid hXR
          have Hacc0 : Hid (acc[0]? = some hh) := Lib.hid (by rw [hacc]; rfl)
          have Hfl : Hid (f.length = vals.length + 1) := Lib.hid (by rw [← mns_len, Hms.out]; rfl)
          clear hF hacc hfr had hv h0 hvt hXR
          go_wp2_with fail
          (with_reducible refine HFi.out.mono ?_)
          rintro e w2 ⟨Af, cf, rfl, hof, hb2⟩
          obtain ⟨g, Ah, nh, ch, rfl, hgl, hgc, hsh, hnh, hch⟩ := (HO.out.below hb2).at_ Hacc0.out
          have HOf := Lib.hid hof
          have HB2 := Lib.hid hb2
          have hT2 := TB.keep HT.out.1 hb2
          have hnt := hT2.len
          have hTl := HTl.out
          have HRc := Lib.hid (rrecord_any m vals f hh T Af Ah At f.length cf nh ch nt ct w2 (OwnG.sees hof) Hms.out (by omega) (fun z hz => by have := Hvz.out z hz; omega) hsh.len (TB.holds hT2) (by omega))
          rw [← Hv.out] at HRc
          clear hof hb2 hT2 hnt hTl hsh
          go_wp2_with fail
          (with_reducible refine HRc.out.mono ?_)
          rintro e w3 ⟨rfl, hb3⟩
          have HB3 := Lib.hid (HB2.out.trans (hb3.mono HB2.out.size))
          have HOf3 := Lib.hid (OwnG.below HOf.out hb3)
          have HW3 := Lib.hid (HW.out.trans (HB3.out.mono HW.out.size))
          clear hb3 hgc hgl
          by_cases hv0 : v = 0
          · have HF3 : Hid (R = rowsR (acc ++ [f]) (T.withT m XR) (k + 1) (ls.drop (k + 1))) := Lib.hid (by rw [HF2.out, if_neg (by simpa using hv0)])
            have Hlen : Hid (f.length = hh.length) := Lib.hid (Classical.byContradiction fun e => by
              have h1 := Hv.out
              rw [hv0, recR, if_pos e] at h1
              exact absurd h1 (by decide))
            subst hv0
            have HO3 := Lib.hid (HO.out.below HB3.out)
            have hz3 := HW3.out.size
            have hk1 : k + 1 ≤ 1099511627776 := by omega
            go_wp2_with (at_builtin; refine wpList_append_row rfl (.tmp 48) (.tmp 50) _ _ rfl elem_out rfl rfl (HO3.out.own.alloc _) (src_out _ Af f.length cf _ rfl) hk1 (by simp; omega) ?_; intro A7 c7 w7 ho7 hg7 hat7)
            have hb8 : Below w3.heap.size w3 (w3.alloc (Obj.cells #[Value.slice Af f.length cf] 82)) := (Below.refl _ _).alloc (Nat.le_refl _) _
            have hPush := row_more HO.out HO3.out HOf3.out hb8 ho7 hg7 hat7 HW.out.size
            have hsf := row_sees HO.out HOf3.out hb8 hg7
            have hT7 := TB.grown (A7 := A7) (m := k + 1) (c7 := c7) (TB.keep (TB.keep HT.out.1 HB3.out) hb8) hg7 (fun a ha => (hat7 a ha).imp (fun e => Nat.le_of_eq e.symm) id)
            have hW7 : Below w.heap.size w w7 := (HW3.out.alloc hz3 _).grown hg7 (by simp; omega) (fun q hq => (HO3.out.own.lt q hq).1)
            obtain ⟨g7, Ah7, nh7, ch7, rfl, hgl7, hgc7, hsh7, hnh7, hch7⟩ := hPush.at_ (k := 0) (r := hh) (by rw [List.getElem?_append_left (List.getElem?_eq_some_iff.1 Hacc0.out).1]; exact Hacc0.out)
            have hfn0 : 0 < f.length := by have := Hfl.out; omega
            have hhn : nh7 = f.length := by rw [hsh7.len, Hlen.out]
            subst hhn
            obtain ⟨bf, of_, mf, rfl, hblf, hmf, hcf0⟩ := val_at hsf hfn0
            obtain ⟨bh, oh, mh, rfl, hblh, _, _⟩ := val_at hsh7 hfn0
            obtain rfl : m = mf := by rw [Hms.out] at hmf; simpa using hmf
            have hcf0' : w7.cell? ⟨bf, of_ + 1, none⟩ = some (.string m) := by rw [← hcf0, Nat.zero_mul, Nat.add_zero]
            have hcl : (mns hh.tail).length = vals.length := by rw [mns_len, List.length_tail, ← Hlen.out, Hfl.out]; rfl
            have hho : ∀ q, (Value.slice (some ⟨g7, 0, none⟩) (k + 1) c7).ownBlock = some q → q < w7.heap.size := fun q hq => (hPush.own.lt q hq).2
            have HPush := Lib.hid hPush
            have HSf := Lib.hid hsf
            have HT7 := Lib.hid hT7
            have HW7 := Lib.hid hW7
            have HSh := Lib.hid hsh7
            have HKc := Lib.hid (fun (W : World) (hW : Below w7.heap.size w7 W) => (hW.cell (p := ⟨g7, 0, none⟩) hgl7).trans hgc7)
            have HKf := Lib.hid (fun (W : World) (hW : Below w7.heap.size w7 W) => (hW.cell (p := ⟨bf, of_ + 1, none⟩) hblf).trans hcf0')
            have Hcl := Lib.hid hcl
            have Hho := Lib.hid hho
            have hfi : (0 : Int) < (f.length : Int) := by omega
            clear hb8 hPush hsf hT7 hW7 hsh7 ho7 hg7 hat7 hgc7 hcf0 hcf0' hmf hcl hho HO3
            go_loopw [12, 13] (fun xv i wx => ∃ (j : Nat) (X : Tr) (Ax : Option Addr) (nx cx : Nat), j ≤ vals.length ∧ xv = .slice Ax nx cx ∧ i = .int .i64 ((j + 1 : Nat) : Int) ∧ Hid (HoldsP wx (TB wx (Value.slice (some ⟨g7, 0, none⟩) (k + 1) c7).ownBlock) Ax nx X ∧ nx ≤ cx ∧ cx ≤ maxLen) ∧ Hid (X.len ≤ j) ∧ Hid (XR = rowT ((mns hh.tail).drop j) (vals.drop j) X) ∧ Hid (Below w7.heap.size w7 wx)) (fun _ i _ => f.length - (intOf i).toNat)
            case atStart => exact ⟨0, .nil, none, 0, 0, Nat.zero_le _, rfl, rfl, Lib.hid ⟨rfl, Nat.le_refl _, Nat.zero_le _⟩, Lib.hid (Nat.le_refl _), Lib.hid (by rw [HXR.out]; rfl), Lib.hid (Below.refl _ _)⟩
            case round =>
              have HkS := Lib.hid hk
              obtain ⟨j, X, Ax, nx, cx, hj, rfl, rfl, HX, HXl, HXe, HWx⟩ := hrel
              have hxe := HXe.out
              by_cases hlt : j < vals.length
              · have hjn : ((j + 1 : Nat) : Int) < (f.length : Int) := by have := Hfl.out; omega
                have hjn2 : (j : Int) + 1 < (f.length : Int) := by omega
                have hj0 : (0 : Int) ≤ (j : Int) + 1 := by omega
                obtain ⟨y, hy, hcy⟩ := val_here (HSf.out.below HWx.out) (k := j + 1) (by have := Hfl.out; omega)
                obtain ⟨z, hz, hcz⟩ := val_here (HSh.out.below HWx.out) (k := j + 1) (by have := Hfl.out; omega)
                rw [Hms.out, List.getElem?_cons_succ] at hy
                have hz2 : (mns hh.tail)[j]? = some z := by
                  rw [← hz]
                  cases hh with
                  | nil => simp [mns] at hz
                  | cons a l => simp [mns]
                have hye := (List.getElem?_eq_some_iff.1 hy).2
                obtain ⟨hjc, hze⟩ := List.getElem?_eq_some_iff.1 hz2
                rw [List.drop_eq_getElem_cons hlt, List.drop_eq_getElem_cons hjc, hye, hze, rowT] at hxe
                have Hlt := Lib.hid hlt
                have hyb := empty_iff y
                clear hlt hy hz hz2 hye hjc hze
                by_cases hys : y.size = 0
                · rw [decide_eq_true hys] at hyb
                  rw [if_pos hys] at hxe
                  have HXe2 := Lib.hid hxe
                  clear hys hxe
                  go_wp2_with fail
                  go_roundw
                  case rel => exact ⟨j + 1, X, Ax, nx, cx, Hlt.out, rfl, by go_num, HX, Lib.hid (Nat.le_succ_of_le HXl.out), HXe2, HWx⟩
                  case measure => have := Hlt.out; have := Hfl.out; simp [intOf]; omega
                · rw [decide_eq_false hys] at hyb
                  rw [if_neg hys] at hxe
                  have HXe2 := Lib.hid hxe
                  clear hys hxe
                  have hcg : wr.cell? ⟨g7, 0, none⟩ = some (.slice (some ⟨bh, oh, none⟩) f.length ch7) := HKc.out wr HWx.out
                  have hlg : g7 < wr.heap.size := Nat.lt_of_lt_of_le hgl7 HWx.out.size
                  have hlf : bf < wr.heap.size := Nat.lt_of_lt_of_le hblf HWx.out.size
                  have hlh : bh < wr.heap.size := Nat.lt_of_lt_of_le hblh HWx.out.size
                  have HK := Lib.hid (fun (W : World) (hW : Below wr.heap.size wr W) => (⟨(hW.cell (p := ⟨g7, 0, none⟩) hlg).trans hcg, (hW.cell (p := ⟨bh, oh + (j + 1) * 2 + 1, none⟩) hlh).trans hcz, (hW.cell (p := ⟨bf, of_ + (j + 1) * 2 + 1, none⟩) hlf).trans hcy⟩ : W.cell? ⟨g7, 0, none⟩ = some (.slice (some ⟨bh, oh, none⟩) f.length ch7) ∧ W.cell? ⟨bh, oh + (j + 1) * 2 + 1, none⟩ = some (.string z) ∧ W.cell? ⟨bf, of_ + (j + 1) * 2 + 1, none⟩ = some (.string y)))
                  have hq0 : Below wr.heap.size wr wr.drew := (Below.refl _ _).drew
                  have hXl : X.len ≤ 4001 := by have := HXl.out; omega
                  have hnx := HX.out.1.len
                  have HVal := Lib.hid (fun W => rvalue3_any y W)
                  have HWith := Lib.hid (fun (W2 : World) (h2 : HoldsP W2 (fun b => b = wr.heap.size) (some ⟨wr.heap.size, 0, none⟩) 1 (.cons y .nil .nil)) (hb : Below wr.heap.size wr.drew W2) (hlt : wr.heap.size < W2.heap.size) =>
                    withP_any (P := TB W2 (Value.slice (some ⟨g7, 0, none⟩) (k + 1) c7).ownBlock) X (.cons y .nil .nil) Ax (some ⟨wr.heap.size, 0, none⟩) nx cx 1 1 z W2 (TB.keep (TB.keep HX.out.1 hq0) hb)
                      (h2.more fun b hb2 => ⟨by rw [hb2]; exact hlt, fun e => by have := Hho.out b e.symm; have := HWx.out.size; omega⟩) (fun b hb => hb.1) (by omega) HX.out.2.1 (Nat.le_refl _) (by decide))
                  clear hcg hcz hnx
                  go_wp2_with fail
                  clear hcy
                  go_region_held3 (fun W => Below wr.heap.size wr W ∧ W.cell? ⟨g7, 0, none⟩ = some (.slice (some ⟨bh, oh, none⟩) f.length ch7) ∧ W.cell? ⟨bh, oh + (j + 1) * 2 + 1, none⟩ = some (.string z) ∧ W.cell? ⟨bf, of_ + (j + 1) * 2 + 1, none⟩ = some (.string y))
                    (first | exact ⟨hq0, HK.out _ hq0⟩ | exact ⟨hq2, HK.out _ hq2⟩ | exact ⟨hq3, HK.out _ hq3⟩)
                    (first
                    | (go_at_call 29; (with_reducible refine (HVal.out _).mono ?_); rintro e w8 ⟨rfl, hv8, hb8, hl8⟩; have hq2 := hq0.trans (hb8.mono hq0.size))
                    | (go_at_call 31; have HWi := HWith.out w8 hv8 hb8 hl8; (with_reducible refine HWi.mono ?_); rintro e w9 ⟨A9, n9, c9, rfl, hh9, hn9, hc9, hb9⟩; have hq3 := hq2.trans (hb9.mono hq2.size)))
                  have hX9 := TB.up hh9 (fun q hq => Nat.lt_of_lt_of_le (Hho.out q hq) (Nat.le_trans HWx.out.size hq2.size)) hb9.size
                  have HX9 := Lib.hid (⟨hX9, hn9, hc9⟩ : HoldsP w9 (TB w9 (Value.slice (some ⟨g7, 0, none⟩) (k + 1) c7).ownBlock) A9 n9 (X.withT z (.cons y .nil .nil)) ∧ n9 ≤ c9 ∧ c9 ≤ maxLen)
                  have HW9 := Lib.hid (HWx.out.trans (hq3.mono HWx.out.size))
                  have HXl9 : Hid ((X.withT z (.cons y .nil .nil)).len ≤ j + 1) := Lib.hid (Nat.le_trans withT_len_le (Nat.succ_le_succ HXl.out))
                  clear hX9 hh9 hn9 hc9 hb9 hq3 hq2 hq0 hv8 hb8 hl8 hlg hlf hlh
                  go_wp2_with fail
                  go_roundw
                  case rel => exact ⟨j + 1, _, A9, n9, c9, Hlt.out, rfl, by go_num, HX9, HXl9, HXe2, HW9⟩
                  case measure => have := Hlt.out; have := Hfl.out; simp [intOf]; omega
              · obtain rfl : j = vals.length := by omega
                have hjn : ¬ ((vals.length + 1 : Nat) : Int) < (f.length : Int) := by have := Hfl.out; omega
                have HXe2 : Hid (XR = X) := Lib.hid (by
                  rw [hxe, List.drop_of_length_le (Nat.le_refl _), List.drop_of_length_le (by rw [Hcl.out]; exact Nat.le_refl _)]
                  rfl)
                clear hxe hlt hj
                have hT := TB.keep HT7.out HWx.out
                have hnt := hT.len
                have hTl := HTl.out
                have hXT := HX.out.1
                rw [← HXe2.out] at hXT
                have HWith := Lib.hid (withP_any T XR At Ax nt ct nx cx m wr hT hXT (fun b hb => hb.1) (by omega) HT.out.2.1 HX.out.2.1 HX.out.2.2)
                have hc0 := HKf.out wr HWx.out
                clear hT hnt hTl hXT
                go_wp2_with fail
                (with_reducible refine HWith.out.mono ?_)
                rintro e w9 ⟨A9, n9, c9, rfl, hh9, hn9, hc9, hb9⟩
                have hT9 := TB.up hh9 (fun q hq => Nat.lt_of_lt_of_le (Hho.out q hq) HWx.out.size) hb9.size
                have HT9 := Lib.hid (⟨hT9, hn9, hc9⟩ : HoldsP w9 (TB w9 (Value.slice (some ⟨g7, 0, none⟩) (k + 1) c7).ownBlock) A9 n9 (T.withT m XR) ∧ n9 ≤ c9 ∧ c9 ≤ maxLen)
                have HTl9 : Hid ((T.withT m XR).len ≤ k + 1) := Lib.hid (Nat.le_trans withT_len_le (Nat.succ_le_succ HTl.out))
                have hb79 := HWx.out.trans (hb9.mono HWx.out.size)
                have HO9 := Lib.hid (HPush.out.below hb79)
                have HW9 := Lib.hid (HW7.out.trans (hb79.mono HW7.out.size))
                clear hT9 hh9 hn9 hc9 hb9 hb79
                go_wp2_with fail
                go_roundw
                case rel => exact ⟨k + 1, some ⟨g7, 0, none⟩, A9, c7, n9, c9, acc ++ [f], T.withT m XR, _, HltO.out, by go_num, rfl, rfl, HO9, HT9, HTl9, HW9, HF3⟩
                case measure => have := HltO.out; simp [intOf]; omega
          · have HF3 : Hid (R = ([], .nil, k + 1, v)) := Lib.hid (by rw [HF2.out, if_pos hv0])
            have hvb : (v != 0) = true := bne_iff_ne.2 hv0
            clear hv0
            go_wp2_with fail
            refine bodyPost_ret (v := .tuple #[.slice none 0 0, .slice none 0 0, .int .i64 ((k : Int) + 1), .int .i64 v]) (by simp [results, Tryz.results26, go_sem]) rfl ?_
            exact ⟨none, none, 0, 0, 0, [], by rw [HF3.out]; rfl, by rw [HF3.out]; exact OwnO.nil _ _, by rw [HF3.out]; exact rfl, Nat.le_refl _, Nat.zero_le _, HW3.out⟩
    · obtain rfl : k = n := by omega
      have hF := HF.out
      rw [List.drop_of_length_le (by rw [← Hl.out]; exact Nat.le_refl _), rowsR] at hF
      have HF2 := Lib.hid hF
      have Hk := Hkacc
      clear hlt hF HF
      go_wp2_with fail
      refine bodyPost_ret (v := .tuple #[.slice A6 k c6, .slice At nt ct, .int .i64 0, .int .i64 0]) (by simp [results, Tryz.results26, go_sem]) rfl ?_
      have hO := HO.out
      rw [Hk.out] at hO
      exact ⟨A6, At, c6, nt, ct, vs, by rw [HF2.out, Hk.out]; rfl, by rw [HF2.out]; exact hO, by rw [HF2.out]; exact TB.holds HT.out.1, HT.out.2.1, HT.out.2.2, HW.out⟩
end Go.Proofs.YtkgpjohfkfbfhaaGreatDoor.Cv
