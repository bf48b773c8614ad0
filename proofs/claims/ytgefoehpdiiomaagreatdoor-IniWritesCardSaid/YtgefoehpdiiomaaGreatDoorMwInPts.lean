/- ini: rows and parts as they lie in memory. No conditions. · ini.fault: what is wrong with a line. Conditions: fewer than 100000 parts and rows. · ini: a row of parts of one's own, being grown. No conditions. -/
import Derived.Test.YtgefoehpdiiomaaGreatDoorMwInRow
import Derived.Test.YtgefoehpdiiomaaGreatDoorMwWords
import Derived.Test.YtgefoehpdiiomaaGreatDoorMwCvGrow
import Derived.Test.YtgefoehpdiiomaaGreatDoorMwNamesMath
import Derived.Outline
namespace Go.Proofs.YtgefoehpdiiomaaGreatDoor.In
open Go.RowKit Go.Proofs.YtgefoehpdiiomaaGreatDoor.Li Go.Proofs.YtgefoehpdiiomaaGreatDoor.Cv
set_option maxRecDepth 100000

/-- Cells that lie at an address, in a block that P picks. -/
def CellsP (w : World) (P : Nat → Prop) (A : Option Addr) (cs : List Value) : Prop := cs = [] ∨ ∃ b o, A = some ⟨b, o, none⟩ ∧ P b ∧ ∀ (j : Nat) (u : Value), cs[j]? = some u → w.cell? ⟨b, o + j, none⟩ = some u
section
variable {w w' : World} {P P' : Nat → Prop} {A : Option Addr} {cs : List Value}
theorem CellsP.keep (h : CellsP w P A cs) (hk : ∀ b o, P b → w'.cell? ⟨b, o, none⟩ = w.cell? ⟨b, o, none⟩) : CellsP w' P A cs :=
  h.imp id fun ⟨b, o, e, hb, hc⟩ => ⟨b, o, e, hb, fun j u hu => (hk b _ hb).trans (hc j u hu)⟩
theorem CellsP.more (h : CellsP w P A cs) (hP : ∀ b, P b → P' b) : CellsP w P' A cs := h.imp id fun ⟨b, o, e, hb, hc⟩ => ⟨b, o, e, hP b hb, hc⟩
theorem CellsP.get (h : CellsP w P A cs) (hn : cs ≠ []) : ∃ b o, A = some ⟨b, o, none⟩ ∧ P b ∧ ∀ (j : Nat) (u : Value), cs[j]? = some u → w.cell? ⟨b, o + j, none⟩ = some u := h.resolve_left hn
theorem CellsP.own {base n c size : Nat} {e : TypeId} (h : w.ownsRow base e size (.slice A n c) n cs) : CellsP w (fun b => base ≤ b ∧ b < w.heap.size ∧ (Value.slice A n c).ownBlock = some b) A cs := by
  rcases own_form h with ⟨rfl, rfl, hl⟩ | ⟨g, rfl, hg, hgl, _, _, hc⟩
  · exact .inl hl
  · exact .inr ⟨g, 0, rfl, ⟨hg, hgl, rfl⟩, hc⟩
theorem CellsP.drop {b o k : Nat} (h : CellsP w P (some ⟨b, o, none⟩) cs) : CellsP w P (some ⟨b, o + k, none⟩) (cs.drop k) := by
  rcases h with rfl | ⟨b', o', e, hb, hc⟩
  · exact .inl (by simp)
  · injection e with e
    injection e with e1 e2
    subst e1; subst e2
    exact .inr ⟨_, _, rfl, hb, fun j u hu => by rw [List.getElem?_drop] at hu; rw [Nat.add_assoc]; exact hc _ u hu⟩
end
def rcells : List Ro → List Value
  | [] => []
  | r :: rs => Li.encs r.ln.1 :: Li.encs r.ln.2 :: .int .i64 r.kind :: Li.encs r.name :: Li.encs r.val :: .int .i64 r.pos :: rcells rs
theorem rcells_append (a b : List Ro) : rcells (a ++ b) = rcells a ++ rcells b := by
  induction a with
  | nil => rfl
  | cons x r ih => simp [rcells, ih]
theorem rcells_length (l : List Ro) : (rcells l).length = l.length * 6 := by
  induction l with
  | nil => rfl
  | cons x r ih => simp only [rcells, List.length_cons, ih]; omega
theorem rcells_get : ∀ {l : List Ro} {j : Nat} {x : Ro}, l[j]? = some x → (rcells l)[j * 6]? = some (Li.encs x.ln.1) ∧ (rcells l)[j * 6 + 1]? = some (Li.encs x.ln.2) ∧ (rcells l)[j * 6 + 2]? = some (.int .i64 x.kind) ∧ (rcells l)[j * 6 + 3]? = some (Li.encs x.name) ∧ (rcells l)[j * 6 + 4]? = some (Li.encs x.val) ∧ (rcells l)[j * 6 + 5]? = some (.int .i64 x.pos)
  | [], j, x, h => by simp at h
  | y :: r, 0, x, h => by
    simp only [List.getElem?_cons_zero, Option.some.injEq] at h
    subst h
    exact ⟨rfl, rfl, rfl, rfl, rfl, rfl⟩
  | y :: r, j + 1, x, h => by
    simp only [List.getElem?_cons_succ] at h
    rw [show (j + 1) * 6 = j * 6 + 1 + 1 + 1 + 1 + 1 + 1 by omega]
    exact rcells_get h
/-- The slice holds these rows, in a block that P picks. -/
structure RowsP (w : World) (P : Nat → Prop) (A : Option Addr) (n : Nat) (rs : List Ro) : Prop where
  len : n = rs.length
  cells : CellsP w P A (rcells rs)
section
variable {w w' : World} {P P' : Nat → Prop} {A : Option Addr} {n : Nat} {rs : List Ro}
theorem RowsP.keep (h : RowsP w P A n rs) (hk : ∀ b o, P b → w'.cell? ⟨b, o, none⟩ = w.cell? ⟨b, o, none⟩) : RowsP w' P A n rs := ⟨h.len, h.cells.keep hk⟩
theorem RowsP.more (h : RowsP w P A n rs) (hP : ∀ b, P b → P' b) : RowsP w P' A n rs := ⟨h.len, h.cells.more hP⟩
theorem RowsP.at_ (h : RowsP w P A n rs) {k : Nat} {x : Ro} (hx : rs[k]? = some x) : ∃ b o, A = some ⟨b, o, none⟩ ∧ P b ∧ w.cell? ⟨b, o + k * 6, none⟩ = some (Li.encs x.ln.1) ∧ w.cell? ⟨b, o + k * 6 + 1, none⟩ = some (Li.encs x.ln.2) ∧ w.cell? ⟨b, o + k * 6 + 2, none⟩ = some (.int .i64 x.kind) ∧ w.cell? ⟨b, o + k * 6 + 3, none⟩ = some (Li.encs x.name) ∧ w.cell? ⟨b, o + k * 6 + 4, none⟩ = some (Li.encs x.val) ∧ w.cell? ⟨b, o + k * 6 + 5, none⟩ = some (.int .i64 x.pos) := by
  obtain ⟨h0, h1, h2, h3, h4, h5⟩ := rcells_get hx
  obtain ⟨b, o, e, hb, hc⟩ := h.cells.get (fun e => by rw [e] at h0; cases h0)
  exact ⟨b, o, e, hb, hc _ _ h0, hc _ _ h1, hc _ _ h2, hc _ _ h3, hc _ _ h4, hc _ _ h5⟩
end
/-- Cells of parts; their rows lie in blocks that P picks. -/
def PtV (w : World) (P : Nat → Prop) : List Value → List Pt → Prop
  | [], [] => True
  | .string s :: .slice A n c :: vs, p :: ps => s = ⟨p.name.toArray⟩ ∧ n ≤ c ∧ c ≤ maxLen ∧ RowsP w P A n p.rows ∧ PtV w P vs ps
  | _, _ => False
section
variable {w w' : World} {P P' : Nat → Prop}
theorem PtV.keep (hk : ∀ b o, P b → w'.cell? ⟨b, o, none⟩ = w.cell? ⟨b, o, none⟩) : ∀ {vs : List Value} {ps : List Pt}, PtV w P vs ps → PtV w' P vs ps
  | [], [], _ => trivial
  | .string _ :: .slice _ _ _ :: _, _ :: _, ⟨h1, h2, h3, h4, h5⟩ => ⟨h1, h2, h3, h4.keep hk, PtV.keep hk h5⟩
theorem PtV.more (hP : ∀ b, P b → P' b) : ∀ {vs : List Value} {ps : List Pt}, PtV w P vs ps → PtV w P' vs ps
  | [], [], _ => trivial
  | .string _ :: .slice _ _ _ :: _, _ :: _, ⟨h1, h2, h3, h4, h5⟩ => ⟨h1, h2, h3, h4.more hP, PtV.more hP h5⟩
theorem PtV.app : ∀ {vs us : List Value} {ps qs : List Pt}, PtV w P vs ps → PtV w P us qs → PtV w P (vs ++ us) (ps ++ qs)
  | [], _, [], _, _, h2 => h2
  | .string _ :: .slice _ _ _ :: _, _, _ :: _, _, ⟨h1, h2, h3, h4, h5⟩, h6 => ⟨h1, h2, h3, h4, PtV.app h5 h6⟩
theorem PtV.length : ∀ {vs : List Value} {ps : List Pt}, PtV w P vs ps → vs.length = ps.length * 2
  | [], [], _ => rfl
  | .string _ :: .slice _ _ _ :: _, _ :: _, ⟨_, _, _, _, h5⟩ => by
    have := PtV.length h5
    simp only [List.length_cons]
    omega
theorem PtV.at_ : ∀ {vs : List Value} {ps : List Pt} {k : Nat} {p : Pt}, PtV w P vs ps → ps[k]? = some p → ∃ A n c, vs[k * 2]? = some (.string ⟨p.name.toArray⟩) ∧ vs[k * 2 + 1]? = some (.slice A n c) ∧ n ≤ c ∧ c ≤ maxLen ∧ RowsP w P A n p.rows
  | [], [], _, _, _, h => by simp at h
  | .string s :: .slice A n c :: vs, p :: ps, 0, p', ⟨h1, h2, h3, h4, h5⟩, h => by
    simp only [List.getElem?_cons_zero, Option.some.injEq] at h
    subst h
    exact ⟨A, n, c, by rw [h1]; rfl, rfl, h2, h3, h4⟩
  | .string s :: .slice A n c :: vs, p :: ps, k + 1, p', ⟨h1, h2, h3, h4, h5⟩, h => by
    simp only [List.getElem?_cons_succ] at h
    rw [show (k + 1) * 2 = k * 2 + 1 + 1 by omega]
    exact PtV.at_ h5 h
theorem PtV.tail : ∀ {vs : List Value} {p : Pt} {ps : List Pt}, PtV w P vs (p :: ps) → PtV w P (vs.drop 2) ps
  | .string _ :: .slice _ _ _ :: _, _, _, ⟨_, _, _, _, h5⟩ => h5
end
/-- The slice holds these parts. -/
structure PartsP (w : World) (P : Nat → Prop) (A : Option Addr) (n : Nat) (ps : List Pt) : Prop where
  len : n = ps.length
  vals : ∃ vs, CellsP w P A vs ∧ PtV w P vs ps
section
variable {w w' : World} {P P' : Nat → Prop} {A : Option Addr} {n : Nat} {ps : List Pt}
theorem PartsP.keep (h : PartsP w P A n ps) (hk : ∀ b o, P b → w'.cell? ⟨b, o, none⟩ = w.cell? ⟨b, o, none⟩) : PartsP w' P A n ps :=
  ⟨h.len, h.vals.imp fun _ ⟨h1, h2⟩ => ⟨h1.keep hk, h2.keep hk⟩⟩
theorem PartsP.more (h : PartsP w P A n ps) (hP : ∀ b, P b → P' b) : PartsP w P' A n ps := ⟨h.len, h.vals.imp fun _ ⟨h1, h2⟩ => ⟨h1.more hP, h2.more hP⟩⟩
theorem PartsP.below {B : Nat} (h : PartsP w (· < B) A n ps) (hb : Below B w w') : PartsP w' (· < B) A n ps := h.keep fun b o hb1 => hb.cell (p := ⟨b, o, none⟩) hb1
theorem PartsP.at_ (h : PartsP w P A n ps) {k : Nat} {p : Pt} (hp : ps[k]? = some p) : ∃ b o Af nf cf, A = some ⟨b, o, none⟩ ∧ P b ∧ w.cell? ⟨b, o + k * 2, none⟩ = some (.string ⟨p.name.toArray⟩) ∧ w.cell? ⟨b, o + k * 2 + 1, none⟩ = some (.slice Af nf cf) ∧ RowsP w P Af nf p.rows ∧ nf ≤ cf ∧ cf ≤ maxLen := by
  obtain ⟨vs, h1, h2⟩ := h.vals
  obtain ⟨Af, nf, cf, e1, e2, h3, h4, h5⟩ := h2.at_ hp
  obtain ⟨b, o, e, hb, hc⟩ := h1.get (fun e => by rw [e] at e1; simp at e1)
  exact ⟨b, o, Af, nf, cf, e, hb, hc _ _ e1, hc _ _ e2, h5, h3, h4⟩
theorem PartsP.rest {b o : Nat} {p : Pt} (h : PartsP w P (some ⟨b, o, none⟩) n (p :: ps)) (c : Nat) (hc : n ≤ c) : PartsP w P (some (if c = 1 then ⟨b, o, none⟩ else ⟨b, o + 2, none⟩)) (n - 1) ps := by
  have hl := h.len
  simp only [List.length_cons] at hl
  obtain ⟨vs, h1, h2⟩ := h.vals
  refine ⟨by omega, vs.drop 2, ?_, h2.tail⟩
  by_cases h3 : c = 1
  · have hl2 := h2.length
    exact .inl (List.drop_of_length_le (by rw [hl2, List.length_cons]; omega))
  · rw [if_neg h3]
    exact h1.drop
end
theorem owns_belowI {w w' : World} {base size n c : Nat} {e : TypeId} {A : Option Addr} {vs : List Value} (h : w.ownsRow base e size (.slice A n c) n vs) (hb : Below w.heap.size w w') : w'.ownsRow base e size (.slice A n c) n vs :=
  World.ownsRow.kept h (row := none) ⟨hb.os, hb.tape, hb.output, hb.size, fun i hi _ => hb.block i hi⟩ (by cases hv : (Value.slice A n c).ownBlock <;> simp)
/-- A row of parts of one's own: the last one's rows are a row of one's own too. -/
structure OwnPs (w : World) (base : Nat) (A : Option Addr) (n c : Nat) (done : List Pt) (nm : Bs) (rows : List Ro) (vs : List Value) (L : Option Addr) (m d : Nat) : Prop where
  own : w.ownsRow base 112 2 (.slice A n c) n (vs ++ [.string ⟨nm.toArray⟩, .slice L m d])
  last : w.ownsRow base 118 6 (.slice L m d) m (rcells rows)
  old : PtV w (fun b => base ≤ b ∧ b < w.heap.size ∧ some b ≠ (Value.slice A n c).ownBlock ∧ some b ≠ (Value.slice L m d).ownBlock) vs done
  apart : ∀ g, (Value.slice L m d).ownBlock = some g → (Value.slice A n c).ownBlock ≠ some g
section
variable {w w' : World} {base n c m d : Nat} {A L : Option Addr} {done : List Pt} {nm : Bs} {rows : List Ro} {vs : List Value}
theorem OwnPs.below (h : OwnPs w base A n c done nm rows vs L m d) (hb : Below w.heap.size w w') : OwnPs w' base A n c done nm rows vs L m d :=
  ⟨owns_belowI h.own hb, owns_belowI h.last hb, (h.old.keep (w' := w') fun b o hb1 => hb.cell (p := ⟨b, o, none⟩) hb1.2.1).more fun _ hb1 => ⟨hb1.1, Nat.lt_of_lt_of_le hb1.2.1 hb.size, hb1.2.2⟩, h.apart⟩
theorem OwnPs.len (h : OwnPs w base A n c done nm rows vs L m d) : n = done.length + 1 ∧ m = rows.length := by
  have h1 := h.own.1
  have h2 := h.old.length
  have h3 := h.last.1
  rw [rcells_length] at h3
  simp only [List.length_append, List.length_cons, List.length_nil] at h1
  omega
theorem OwnPs.cap (h : OwnPs w base A n c done nm rows vs L m d) : n ≤ c ∧ c ≤ maxLen ∧ m ≤ d ∧ d ≤ maxLen := ⟨(own_cap' h.own rfl).1, (own_cap' h.own rfl).2, (own_cap' h.last rfl).1, (own_cap' h.last rfl).2⟩
/-- As parts that are read. -/
theorem OwnPs.parts (h : OwnPs w base A n c done nm rows vs L m d) : PartsP w (fun b => base ≤ b ∧ b < w.heap.size) A n (done ++ [⟨nm, rows⟩]) := by
  have hl := h.len
  refine ⟨by simp; omega, _, (CellsP.own h.own).more fun b hb => ⟨hb.1, hb.2.1⟩, (h.old.more fun _ hb => ⟨hb.1, hb.2.1⟩).app ?_⟩
  exact ⟨rfl, h.cap.2.2.1, h.cap.2.2.2, ⟨hl.2, (CellsP.own h.last).more fun b hb => ⟨hb.1, hb.2.1⟩⟩, trivial⟩
/-- Where the last part lies. -/
theorem OwnPs.at_ (h : OwnPs w base A n c done nm rows vs L m d) : ∃ g, A = some ⟨g, 0, none⟩ ∧ base ≤ g ∧ g < w.heap.size ∧ w.cell? ⟨g, (n - 1) * 2, none⟩ = some (.string ⟨nm.toArray⟩) ∧ w.cell? ⟨g, (n - 1) * 2 + 1, none⟩ = some (.slice L m d) ∧ w.frozen? ⟨g, (n - 1) * 2 + 1, none⟩ = false := by
  have hl := h.len
  have h2 := h.old.length
  rcases own_form h.own with ⟨_, _, hl⟩ | ⟨g, rfl, hg, hgl, _, _, hc⟩
  · simp at hl
  · have e1 := hc ((n - 1) * 2) (.string ⟨nm.toArray⟩) (by rw [List.getElem?_append_right (by omega), show (n - 1) * 2 - vs.length = 0 by omega]; rfl)
    have e2 := hc ((n - 1) * 2 + 1) (.slice L m d) (by rw [List.getElem?_append_right (by omega), show (n - 1) * 2 + 1 - vs.length = 1 by omega]; rfl)
    rw [Nat.zero_add] at e1 e2
    refine ⟨g, rfl, hg, hgl, e1, e2, ?_⟩
    rcases h.own.2 with ⟨e, _⟩ | ⟨g', cap, cur, e, _, hh, _⟩
    · cases e
    · injection e with e
      injection e with e
      injection e with e
      subst e
      simp [World.frozen?, hh]
end
end Go.Proofs.YtgefoehpdiiomaaGreatDoor.In
namespace Go.Proofs.YtgefoehpdiiomaaGreatDoor.In
open Go.RowKit Go.Proofs.YtgefoehpdiiomaaGreatDoor.Li Go.Proofs.YtgefoehpdiiomaaGreatDoor.Cv
set_option maxRecDepth 100000

set_option maxHeartbeats 1000000 in
theorem fP_any (s : ByteArray) (g : Nat) (w : World) (h0 : w.cell? ⟨g, 3, none⟩ = some (.string s)) (a : ByteArray) (A : Option Addr) (n c : Nat) :
    Calls Tryz.prog 97 #[.agg #[.string a, .slice A n c], .pointer (some ⟨g, 0, none⟩)] w fun e w' => e = .returned (.bool (a.data.toList == s.data.toList)) ∧ Below w.heap.size w w' := by
  have hg : g < w.heap.size := World.block_lt_of_cell? w ⟨g, 3, none⟩ h0
  have hb : Below w.heap.size w (w.alloc (Obj.cells #[.string a, .slice A n c] 112)) := (Below.refl _ _).alloc (Nat.le_refl _) _
  have h1 := (hb.cell (p := ⟨g, 3, none⟩) hg).trans h0
  have HB := Lib.hid hb
  obtain ⟨u, hu⟩ : ∃ u, u = (a.data.toList == s.data.toList) := ⟨_, rfl⟩
  rw [← hu]
  have hu2 : (a.toList == s.toList) = u := by rw [same_eq', hu]
  clear hu hb h0
  go_enter Tryz.func97, Tryz.ntmps97
  go_wp2_with fail
  go_ret
  exact ⟨rfl, HB.out⟩
set_option maxHeartbeats 1000000 in
theorem fR_any (s : ByteArray) (g : Nat) (w : World) (h0 : w.cell? ⟨g, 3, none⟩ = some (.string s)) (t e a v : ByteArray) (k p : Nat) :
    Calls Tryz.prog 98 #[.agg #[.string t, .string e, .int .i64 k, .string a, .string v, .int .i64 p], .pointer (some ⟨g, 0, none⟩)] w fun e w' => e = .returned (.bool (k == 3 && a.data.toList == s.data.toList)) ∧ Below w.heap.size w w' := by
  have hg : g < w.heap.size := World.block_lt_of_cell? w ⟨g, 3, none⟩ h0
  have hb : Below w.heap.size w (w.alloc (Obj.cells #[.string t, .string e, .int .i64 k, .string a, .string v, .int .i64 p] 118)) := (Below.refl _ _).alloc (Nat.le_refl _) _
  have h1 := (hb.cell (p := ⟨g, 3, none⟩) hg).trans h0
  have HB := Lib.hid hb
  obtain ⟨u, hu⟩ : ∃ u, u = (a.data.toList == s.data.toList) := ⟨_, rfl⟩
  rw [← hu]
  have hu2 : (a.toList == s.toList) = u := by rw [same_eq', hu]
  clear hu hb h0
  by_cases h3 : k = 3
  · have hk : ((k : Int) == 3) = true := by rw [h3]; rfl
    have HV : Hid ((k == 3 && u) = u) := Lib.hid (by rw [h3]; rfl)
    clear h3
    go_enter Tryz.func98, Tryz.ntmps98
    go_wp2_with fail
    go_ret
    exact ⟨by rw [HV.out]; rfl, HB.out⟩
  · have hk : ((k : Int) == 3) = false := by rw [beq_eq_false_iff_ne]; omega
    have HV : Hid ((k == 3 && u) = false) := Lib.hid (by rw [beq_eq_false_iff_ne.2 h3]; rfl)
    clear h3
    go_enter Tryz.func98, Tryz.ntmps98
    go_wp2_with fail
    go_ret
    exact ⟨by rw [HV.out]; rfl, HB.out⟩
set_option maxHeartbeats 4000000 in
theorem indexP_any (ps : List Pt) (s : ByteArray) (A : Option Addr) (n c g : Nat) (w : World) (h : PartsP w (· < w.heap.size) A n ps) (hn : n ≤ 100000) (h0 : w.cell? ⟨g, 3, none⟩ = some (.string s)) :
    Calls Tryz.prog 117 #[.slice A n c, .func (.func 97) #[] #[.pointer (some ⟨g, 0, none⟩)]] w fun e w' => ∃ i : Int, e = .returned (.int .i64 i) ∧ (decide (0 ≤ i) = ps.any (fun p => p.name == s.data.toList)) ∧ Below w.heap.size w w' := by
  have hg : g < w.heap.size := World.block_lt_of_cell? w ⟨g, 3, none⟩ h0
  have Hl := Lib.hid h.len
  have HH := Lib.hid h
  have HF := Lib.hid (fun (W : World) (hW : Below w.heap.size w W) => fP_any s g W ((hW.cell (p := ⟨g, 3, none⟩) hg).trans h0))
  clear h h0
  go_enter Tryz.func117, Tryz.ntmps117
  go_wp2_with fail
  go_loopw [8] (fun i wr => ∃ (k : Nat), k ≤ n ∧ i = .int .i64 k ∧ Hid (Below w.heap.size w wr) ∧ Hid (((ps.drop k).any (fun p => p.name == s.data.toList)) = ps.any (fun p => p.name == s.data.toList))) (fun i _ => n - (intOf i).toNat)
  case atStart => exact ⟨0, Nat.zero_le _, rfl, Lib.hid (Below.refl _ _), Lib.hid rfl⟩
  case round =>
    obtain ⟨k, hk, rfl, HW, HA⟩ := hrel
    by_cases hlt : k < n
    · have hkl : k < ps.length := by have := Hl.out; omega
      obtain ⟨x, hx⟩ : ∃ x, ps[k]? = some x := ⟨_, List.getElem?_eq_getElem hkl⟩
      have hxe : ps[k] = x := (List.getElem?_eq_some_iff.1 hx).2
      have hkn : (k : Int) < (n : Int) := by omega
      have hk0 : (0 : Int) ≤ (k : Int) := by omega
      obtain ⟨b, o, Af, nf, cf, rfl, hbl, hc1, hc2, _, _, _⟩ := (HH.out.below HW.out).at_ hx
      obtain ⟨s1, hs1⟩ : ∃ s1 : ByteArray, s1 = ⟨x.name.toArray⟩ := ⟨_, rfl⟩
      rw [← hs1] at hc1
      have HC := Lib.hid (HF.out wr HW.out s1 Af nf cf)
      obtain ⟨u, hu⟩ : ∃ u, u = (s1.data.toList == s.data.toList) := ⟨_, rfl⟩
      rw [← hu] at HC
      have hu2 : (x.name == s.data.toList) = u := by rw [hu, hs1]
      clear hs1 hu
      have HA2 : Hid ((ps.any (fun p => p.name == s.data.toList)) = (u || (ps.drop (k + 1)).any (fun p => p.name == s.data.toList))) := Lib.hid (by rw [← HA.out, List.drop_eq_getElem_cons hkl, List.any_cons, hxe, hu2])
      have Hlt := Lib.hid hlt
      clear hlt HA hx hkl hxe hu2
      cases u with
      | false =>
        go_wp2_with fail
        (with_reducible refine HC.out.mono ?_)
        rintro e w2 ⟨rfl, hb2⟩
        have HW2 := Lib.hid (HW.out.trans (hb2.mono HW.out.size))
        clear hb2
        go_wp2_with fail
        go_roundw
        case rel => exact ⟨k + 1, Hlt.out, by go_num, HW2, Lib.hid (by rw [HA2.out]; rfl)⟩
        case measure => have := Hlt.out; simp [intOf]; omega
      | true =>
        go_wp2_with fail
        (with_reducible refine HC.out.mono ?_)
        rintro e w2 ⟨rfl, hb2⟩
        have HW2 := Lib.hid (HW.out.trans (hb2.mono HW.out.size))
        clear hb2
        go_wp2_with fail
        go_ret
        exact ⟨(k : Int), rfl, by rw [HA2.out, Bool.true_or]; exact decide_eq_true hk0, HW2.out⟩
    · obtain rfl : k = n := by omega
      have HA2 : Hid ((ps.any (fun p => p.name == s.data.toList)) = false) := Lib.hid (by
        have := HA.out
        rw [List.drop_of_length_le (by rw [← Hl.out]; exact Nat.le_refl _)] at this
        exact this.symm)
      clear hlt HA
      go_wp2_with fail
      go_ret
      exact ⟨-1, rfl, by rw [HA2.out]; rfl, HW.out⟩
set_option maxHeartbeats 1000000 in
theorem containsP_any (ps : List Pt) (s : ByteArray) (A : Option Addr) (n c g : Nat) (w : World) (h : PartsP w (· < w.heap.size) A n ps) (hn : n ≤ 100000) (h0 : w.cell? ⟨g, 3, none⟩ = some (.string s)) :
    Calls Tryz.prog 99 #[.slice A n c, .func (.func 97) #[] #[.pointer (some ⟨g, 0, none⟩)]] w fun e w' => e = .returned (.bool (ps.any (fun p => p.name == s.data.toList))) ∧ Below w.heap.size w w' := by
  have HC := Lib.hid (indexP_any ps s A n c g w h hn h0)
  obtain ⟨v, hv⟩ : ∃ v, v = ps.any (fun p => p.name == s.data.toList) := ⟨_, rfl⟩
  rw [← hv] at HC
  rw [← hv]
  clear hv h h0
  go_enter Tryz.func99, Tryz.ntmps99
  go_wp2_with fail
  (with_reducible refine HC.out.mono ?_)
  rintro e w1 ⟨i, rfl, hi, hb1⟩
  have Hi := Lib.hid hi
  clear hi
  go_wp2_with fail
  go_ret
  exact ⟨by rw [← Hi.out]; rfl, hb1⟩
set_option maxHeartbeats 4000000 in
theorem indexR_any (ps : List Ro) (s : ByteArray) (A : Option Addr) (n c g : Nat) (w : World) (h : RowsP w (· < w.heap.size) A n ps) (hn : n ≤ 100000) (h0 : w.cell? ⟨g, 3, none⟩ = some (.string s)) :
    Calls Tryz.prog 118 #[.slice A n c, .func (.func 98) #[] #[.pointer (some ⟨g, 0, none⟩)]] w fun e w' => ∃ i : Int, e = .returned (.int .i64 i) ∧ (decide (0 ≤ i) = ps.any (fun x => x.kind == 3 && x.name == s.data.toList)) ∧ Below w.heap.size w w' := by
  have hg : g < w.heap.size := World.block_lt_of_cell? w ⟨g, 3, none⟩ h0
  have Hl := Lib.hid h.len
  have HH := Lib.hid h
  have HF := Lib.hid (fun (W : World) (hW : Below w.heap.size w W) => fR_any s g W ((hW.cell (p := ⟨g, 3, none⟩) hg).trans h0))
  clear h h0
  go_enter Tryz.func118, Tryz.ntmps118
  go_wp2_with fail
  go_loopw [8] (fun i wr => ∃ (k : Nat), k ≤ n ∧ i = .int .i64 k ∧ Hid (Below w.heap.size w wr) ∧ Hid (((ps.drop k).any (fun x => x.kind == 3 && x.name == s.data.toList)) = ps.any (fun x => x.kind == 3 && x.name == s.data.toList))) (fun i _ => n - (intOf i).toNat)
  case atStart => exact ⟨0, Nat.zero_le _, rfl, Lib.hid (Below.refl _ _), Lib.hid rfl⟩
  case round =>
    obtain ⟨k, hk, rfl, HW, HA⟩ := hrel
    by_cases hlt : k < n
    · have hkl : k < ps.length := by have := Hl.out; omega
      obtain ⟨x, hx⟩ : ∃ x, ps[k]? = some x := ⟨_, List.getElem?_eq_getElem hkl⟩
      have hxe : ps[k] = x := (List.getElem?_eq_some_iff.1 hx).2
      have hkn : (k : Int) < (n : Int) := by omega
      have hk0 : (0 : Int) ≤ (k : Int) := by omega
      obtain ⟨b, o, rfl, hbl, hc1, hc2, hc3, hc4, hc5, hc6⟩ := (RowsP.keep HH.out (w' := wr) (fun b o hb => HW.out.cell (p := ⟨b, o, none⟩) hb)).at_ hx
      obtain ⟨t1, ht1⟩ : ∃ s : ByteArray, Li.encs x.ln.1 = .string s := ⟨_, rfl⟩
      obtain ⟨t2, ht2⟩ : ∃ s : ByteArray, Li.encs x.ln.2 = .string s := ⟨_, rfl⟩
      obtain ⟨t4, ht4⟩ : ∃ s : ByteArray, Li.encs x.val = .string s := ⟨_, rfl⟩
      obtain ⟨s1, hs1⟩ : ∃ s1 : ByteArray, s1 = ⟨x.name.toArray⟩ := ⟨_, rfl⟩
      rw [show Li.encs x.name = .string s1 by rw [hs1]; rfl] at hc4
      rw [ht1] at hc1
      rw [ht2] at hc2
      rw [ht4] at hc5
      have HC := Lib.hid (HF.out wr HW.out t1 t2 s1 t4 x.kind x.pos)
      obtain ⟨q, hq⟩ : ∃ q, q = x.pos := ⟨_, rfl⟩
      obtain ⟨kd, hkd⟩ : ∃ q, q = x.kind := ⟨_, rfl⟩
      rw [← hq, ← hkd] at HC
      rw [← hq] at hc6
      rw [← hkd] at hc3
      obtain ⟨u, hu⟩ : ∃ u, u = (kd == 3 && s1.data.toList == s.data.toList) := ⟨_, rfl⟩
      rw [← hu] at HC
      have hu2 : (x.kind == 3 && x.name == s.data.toList) = u := by rw [hu, hs1, hkd]
      clear hs1 hu ht1 ht2 ht4 hq hkd
      have HA2 : Hid ((ps.any (fun x => x.kind == 3 && x.name == s.data.toList)) = (u || (ps.drop (k + 1)).any (fun x => x.kind == 3 && x.name == s.data.toList))) := Lib.hid (by rw [← HA.out, List.drop_eq_getElem_cons hkl, List.any_cons, hxe, hu2])
      have Hlt := Lib.hid hlt
      clear hlt HA hx hkl hxe hu2
      cases u with
      | false =>
        go_wp2_with fail
        (with_reducible refine HC.out.mono ?_)
        rintro e w2 ⟨rfl, hb2⟩
        have HW2 := Lib.hid (HW.out.trans (hb2.mono HW.out.size))
        clear hb2
        go_wp2_with fail
        go_roundw
        case rel => exact ⟨k + 1, Hlt.out, by go_num, HW2, Lib.hid (by rw [HA2.out]; rfl)⟩
        case measure => have := Hlt.out; simp [intOf]; omega
      | true =>
        go_wp2_with fail
        (with_reducible refine HC.out.mono ?_)
        rintro e w2 ⟨rfl, hb2⟩
        have HW2 := Lib.hid (HW.out.trans (hb2.mono HW.out.size))
        clear hb2
        go_wp2_with fail
        go_ret
        exact ⟨(k : Int), rfl, by rw [HA2.out, Bool.true_or]; exact decide_eq_true hk0, HW2.out⟩
    · obtain rfl : k = n := by omega
      have HA2 : Hid ((ps.any (fun x => x.kind == 3 && x.name == s.data.toList)) = false) := Lib.hid (by
        have := HA.out
        rw [List.drop_of_length_le (by rw [← Hl.out]; exact Nat.le_refl _)] at this
        exact this.symm)
      clear hlt HA
      go_wp2_with fail
      go_ret
      exact ⟨-1, rfl, by rw [HA2.out]; rfl, HW.out⟩
set_option maxHeartbeats 1000000 in
theorem containsR_any (ps : List Ro) (s : ByteArray) (A : Option Addr) (n c g : Nat) (w : World) (h : RowsP w (· < w.heap.size) A n ps) (hn : n ≤ 100000) (h0 : w.cell? ⟨g, 3, none⟩ = some (.string s)) :
    Calls Tryz.prog 100 #[.slice A n c, .func (.func 98) #[] #[.pointer (some ⟨g, 0, none⟩)]] w fun e w' => e = .returned (.bool (ps.any (fun x => x.kind == 3 && x.name == s.data.toList))) ∧ Below w.heap.size w w' := by
  have HC := Lib.hid (indexR_any ps s A n c g w h hn h0)
  obtain ⟨v, hv⟩ : ∃ v, v = ps.any (fun x => x.kind == 3 && x.name == s.data.toList) := ⟨_, rfl⟩
  rw [← hv] at HC
  rw [← hv]
  clear hv h h0
  go_enter Tryz.func100, Tryz.ntmps100
  go_wp2_with fail
  (with_reducible refine HC.out.mono ?_)
  rintro e w1 ⟨i, rfl, hi, hb1⟩
  have Hi := Lib.hid hi
  clear hi
  go_wp2_with fail
  go_ret
  exact ⟨by rw [← Hi.out]; rfl, hb1⟩

theorem last_at {ps : List Pt} {j : Nat} (hj : j + 1 = ps.length) : ps[j]? = some (lastP ps) := by
  have e : ps.getLast? = ps[j]? := by rw [List.getLast?_eq_getElem?, show ps.length - 1 = j by omega]
  have h : ps[j]? = some (ps[j]'(by omega)) := List.getElem?_eq_getElem _
  rw [lastP, e, h]
  rfl
set_option maxHeartbeats 8000000 in
theorem fault_any (ps : List Pt) (t e s v : ByteArray) (k p : Nat) (A : Option Addr) (n c : Nat) (w : World) (h : PartsP w (· < w.heap.size) A n ps) (hn : n ≤ 100000) (hr : (lastP ps).rows.length ≤ 100000) (h0 : ps ≠ []) :
    Calls Tryz.prog 75 #[.slice A n c, .agg #[.string t, .string e, .int .i64 k, .string s, .string v, .int .i64 p]] w fun en w' => en = .returned (.int .i64 (faultI ps ⟨(t.data.toList, e.data.toList), k, s.data.toList, v.data.toList, p⟩)) ∧ Below w.heap.size w w' := by
  have hl := h.len
  obtain ⟨j, hj⟩ : ∃ j, j + 1 = n := ⟨n - 1, by have := List.length_pos_iff.2 h0; omega⟩
  have hat := last_at (ps := ps) (j := j) (by omega)
  obtain ⟨x, hx⟩ : ∃ x, x = lastP ps := ⟨_, rfl⟩
  rw [← hx] at hat hr
  obtain ⟨b, o, Af, nf, cf, rfl, hbl, hc1, hc2, hrows, hncf, hcm⟩ := h.at_ hat
  obtain ⟨nm, hnm⟩ : ∃ nm : ByteArray, nm = ⟨x.name.toArray⟩ := ⟨_, rfl⟩
  rw [← hnm] at hc1
  obtain ⟨R, hR⟩ : ∃ R, R = faultI ps ⟨(t.data.toList, e.data.toList), k, s.data.toList, v.data.toList, p⟩ := ⟨_, rfl⟩
  rw [← hR]
  unfold faultI at hR
  dsimp only at hR
  rw [← hx, ← hl] at hR
  obtain ⟨W1, hW1⟩ : ∃ W, W = w.alloc (Obj.cells #[.string t, .string e, .int .i64 k, .string s, .string v, .int .i64 p] 118) := ⟨_, rfl⟩
  have hb1 : Below w.heap.size w W1 := by rw [hW1]; exact (Below.refl _ _).alloc (Nat.le_refl _) _
  have hg1 : W1.heap[w.heap.size]? = some (Obj.cells #[.string t, .string e, .int .i64 k, .string s, .string v, .int .i64 p] 118) := by rw [hW1]; exact heap_alloc_new w _
  have hl1 : w.heap.size < W1.heap.size := (Array.getElem?_eq_some_iff.1 hg1).1
  obtain ⟨W2, hW2⟩ : ∃ W, W = W1.alloc (Obj.cells #[.string nm, .slice Af nf cf] 112) := ⟨_, rfl⟩
  have hb2 : Below W1.heap.size W1 W2 := by rw [hW2]; exact (Below.refl _ _).alloc (Nat.le_refl _) _
  have hg2 : W2.heap[W1.heap.size]? = some (Obj.cells #[.string nm, .slice Af nf cf] 112) := by rw [hW2]; exact heap_alloc_new W1 _
  have hl2 : W1.heap.size < W2.heap.size := (Array.getElem?_eq_some_iff.1 hg2).1
  have hg12 := (hb2.block _ hl1).trans hg1
  have hb12 := hb1.trans (hb2.mono hb1.size)
  have HK := Lib.hid (fun (W : World) (hW : Below W2.heap.size W2 W) => (⟨(hW.cell (p := ⟨w.heap.size, 2, none⟩) (Nat.lt_trans hl1 hl2)).trans (by rw [cell_of_row _ _ _ _ _ _ hg12]; rfl), (hW.cell (p := ⟨w.heap.size, 3, none⟩) (Nat.lt_trans hl1 hl2)).trans (by rw [cell_of_row _ _ _ _ _ _ hg12]; rfl), (hW.cell (p := ⟨W1.heap.size, 1, none⟩) hl2).trans (by rw [cell_of_row _ _ _ _ _ _ hg2]; rfl)⟩ : W.cell? ⟨w.heap.size, 2, none⟩ = some (.int .i64 k) ∧ W.cell? ⟨w.heap.size, 3, none⟩ = some (.string s) ∧ W.cell? ⟨W1.heap.size, 1, none⟩ = some (.slice Af nf cf)))
  have hd1 := (hb1.cell (p := ⟨b, o + j * 2, none⟩) hbl).trans hc1
  have hd2 := (hb1.cell (p := ⟨b, o + j * 2 + 1, none⟩) hbl).trans hc2
  have hnf : nf ≤ 100000 := by have := hrows.len; omega
  have HP := Lib.hid (containsP_any ps s (some ⟨b, o, none⟩) n c w.heap.size W2 ((h.below hb12).more fun q hq => Nat.lt_of_lt_of_le hq hb12.size) hn (HK.out W2 (Below.refl _ _)).2.1)
  have HQ := Lib.hid (containsR_any x.rows s Af nf cf w.heap.size W2 ((hrows.keep (w' := W2) (fun b o hb => hb12.cell (p := ⟨b, o, none⟩) hb)).more fun q hq => Nat.lt_of_lt_of_le hq hb12.size) hnf (HK.out W2 (Below.refl _ _)).2.1)
  obtain ⟨u1, hu1⟩ : ∃ u, u = ps.any (fun p => p.name == s.data.toList) := ⟨_, rfl⟩
  obtain ⟨u2, hu2⟩ : ∃ u, u = x.rows.any (fun x => x.kind == 3 && x.name == s.data.toList) := ⟨_, rfl⟩
  rw [← hu1] at HP hR
  rw [← hu2] at HQ hR
  have HB := Lib.hid hb12
  have hw1 : IntKind.i64.wrap ((n : Int) - 1) = (j : Int) := by rw [IntKind.wrap_i64]; omega
  have hj0 : (0 : Int) ≤ (j : Int) := by omega
  have hjn : (j : Int) < (n : Int) := by omega
  have Hj := Lib.hid hj
  clear hu1 hu2 hb1 hg1 hb2 hg2 hg12 hb12 hc1 hc2 hrows h hat hx hnm hr h0 hl hj
  have HR := Lib.hid hR
  clear hR
  by_cases k0 : k = 0
  · have K0 : ((k : Int) == 0) = true := by rw [k0]; rfl
    have HR2 : Hid (R = 6) := Lib.hid (by rw [HR.out, if_pos (.inl k0)])
    clear k0
    go_enter Tryz.func75, Tryz.ntmps75
    go_upto_region 1 with (fail)
    rw [← hW1]
    clear hW1
    go_upto_region 2 with (fail)
    rw [← hW2]
    clear hW2
    obtain ⟨a2, a3, a4⟩ := HK.out W2 (Below.refl _ _)
    go_wp2_with fail
    go_ret
    exact ⟨by rw [HR2.out]; rfl, HB.out⟩
  · have K0 : ((k : Int) == 0) = false := by rw [beq_eq_false_iff_ne]; omega
    by_cases k3 : k = 3
    · have K3 : ((k : Int) == 3) = true := by rw [k3]; rfl
      have K2 : ((k : Int) == 2) = false := by rw [k3]; rfl
      by_cases n1 : n = 1
      · have N1 : ((n : Int) == 1) = true := by rw [n1]; rfl
        have HR2 : Hid (R = 6) := Lib.hid (by rw [HR.out, if_pos (.inr ⟨k3, n1⟩)])
        clear k0 k3 n1
        go_enter Tryz.func75, Tryz.ntmps75
        go_upto_region 1 with (fail)
        rw [← hW1]
        clear hW1
        go_upto_region 2 with (fail)
        rw [← hW2]
        clear hW2
        obtain ⟨a2, a3, a4⟩ := HK.out W2 (Below.refl _ _)
        go_wp2_with fail
        go_ret
        exact ⟨by rw [HR2.out]; rfl, HB.out⟩
      · have N1 : ((n : Int) == 1) = false := by rw [beq_eq_false_iff_ne]; omega
        have HR2 : Hid (R = if u2 = true then 7 else 0) := Lib.hid (by rw [HR.out, if_neg (fun h => h.elim k0 (fun h => n1 h.2)), if_neg (fun h => by have := h.1; omega)]; cases u2 <;> simp [k3])
        clear k0 k3 n1
        cases u2 with
        | true =>
          go_enter Tryz.func75, Tryz.ntmps75
          go_upto_region 1 with (fail)
          rw [← hW1]
          clear hW1
          go_upto_region 2 with (fail)
          rw [← hW2]
          clear hW2
          obtain ⟨a2, a3, a4⟩ := HK.out W2 (Below.refl _ _)
          go_wp2_with fail
          (with_reducible refine HQ.out.mono ?_)
          rintro e w3 ⟨rfl, hb3⟩
          go_wp2_with fail
          go_ret
          exact ⟨by rw [HR2.out]; rfl, HB.out.trans (hb3.mono HB.out.size)⟩
        | false =>
          go_enter Tryz.func75, Tryz.ntmps75
          go_upto_region 1 with (fail)
          rw [← hW1]
          clear hW1
          go_upto_region 2 with (fail)
          rw [← hW2]
          clear hW2
          obtain ⟨a2, a3, a4⟩ := HK.out W2 (Below.refl _ _)
          go_wp2_with fail
          (with_reducible refine HQ.out.mono ?_)
          rintro e w3 ⟨rfl, hb3⟩
          go_wp2_with fail
          go_ret
          exact ⟨by rw [HR2.out]; rfl, HB.out.trans (hb3.mono HB.out.size)⟩
    · have K3 : ((k : Int) == 3) = false := by rw [beq_eq_false_iff_ne]; omega
      by_cases k2 : k = 2
      · have K2 : ((k : Int) == 2) = true := by rw [k2]; rfl
        have HR2 : Hid (R = if u1 = true then 7 else 0) := Lib.hid (by rw [HR.out, if_neg (fun h => h.elim k0 (fun h => k3 h.1))]; cases u1 <;> simp [k2])
        clear k0 k3 k2
        cases u1 with
        | true =>
          go_enter Tryz.func75, Tryz.ntmps75
          go_upto_region 1 with (fail)
          rw [← hW1]
          clear hW1
          go_upto_region 2 with (fail)
          rw [← hW2]
          clear hW2
          obtain ⟨a2, a3, a4⟩ := HK.out W2 (Below.refl _ _)
          go_wp2_with fail
          (with_reducible refine HP.out.mono ?_)
          rintro e w3 ⟨rfl, hb3⟩
          go_wp2_with fail
          go_ret
          exact ⟨by rw [HR2.out]; rfl, HB.out.trans (hb3.mono HB.out.size)⟩
        | false =>
          go_enter Tryz.func75, Tryz.ntmps75
          go_upto_region 1 with (fail)
          rw [← hW1]
          clear hW1
          go_upto_region 2 with (fail)
          rw [← hW2]
          clear hW2
          obtain ⟨a2, a3, a4⟩ := HK.out W2 (Below.refl _ _)
          go_wp2_with fail
          (with_reducible refine HP.out.mono ?_)
          rintro e w3 ⟨rfl, hb3⟩
          obtain ⟨c2, c3, c4⟩ := HK.out w3 hb3
          go_wp2_with fail
          go_ret
          exact ⟨by rw [HR2.out]; rfl, HB.out.trans (hb3.mono HB.out.size)⟩
      · have K2 : ((k : Int) == 2) = false := by rw [beq_eq_false_iff_ne]; omega
        have HR2 : Hid (R = 0) := Lib.hid (by rw [HR.out, if_neg (fun h => h.elim k0 (fun h => k3 h.1)), if_neg (fun h => k2 h.1), if_neg (fun h => k3 h.1)])
        clear k0 k3 k2
        go_enter Tryz.func75, Tryz.ntmps75
        go_upto_region 1 with (fail)
        rw [← hW1]
        clear hW1
        go_upto_region 2 with (fail)
        rw [← hW2]
        clear hW2
        obtain ⟨a2, a3, a4⟩ := HK.out W2 (Below.refl _ _)
        go_wp2_with fail
        go_ret
        exact ⟨by rw [HR2.out]; rfl, HB.out⟩

end Go.Proofs.YtgefoehpdiiomaaGreatDoor.In
namespace Go.Proofs.YtgefoehpdiiomaaGreatDoor.In
open Go.RowKit Go.Proofs.YtgefoehpdiiomaaGreatDoor.Li Go.Proofs.YtgefoehpdiiomaaGreatDoor.Cv
set_option maxRecDepth 100000

theorem store_own {w : World} {base size n c g p : Nat} {e : TypeId} {xs : List Value} (h : w.ownsRow base e size (.slice (some ⟨g, 0, none⟩) n c) n xs) (u : Value) :
    (w.setCell ⟨g, p, none⟩ u).ownsRow base e size (.slice (some ⟨g, 0, none⟩) n c) n (xs.set p u) := by
  obtain ⟨h1, hr⟩ := h
  refine ⟨by rw [List.length_set]; exact h1, ?_⟩
  rcases hr with ⟨e1, _⟩ | ⟨g', cap, cur, e1, hg, hh, hcap, hmx, hsz, htk⟩
  · cases e1
  · injection e1 with e1 _ e3
    injection e1 with e1
    injection e1 with e1 _ _
    subst e1; subst e3
    refine .inr ⟨g, c, cur.setIfInBounds p u, rfl, hg, ?_, hcap, hmx, by simp [hsz], ?_⟩
    · rw [heap_setCell_same w g p _ _ _ hh]
    · rw [Array.toList_setIfInBounds, List.take_set, htk]
theorem elem_part : Elem Tryz.prog 61 112 (.agg #[.string ⟨#[]⟩, .slice none 0 0]) 2 40 := ⟨Tryz.underlying61, by kernel_rfl, rfl, by omega⟩
theorem elem_rowI : ElemB Tryz.prog 110 118 (.agg #[.string ⟨#[]⟩, .string ⟨#[]⟩, .int .i64 0, .string ⟨#[]⟩, .string ⟨#[]⟩, .int .i64 0]) 6 80 := ⟨Tryz.underlying110, by kernel_rfl, rfl, by omega⟩
/-- One part, laid beside it. -/
theorem src_part (W : World) (s : ByteArray) (g : Nat) (hg : g = W.heap.size) : Src Tryz.prog 2 61 (.slice (some ⟨g, 0, none⟩) 1 1) 1 [.string s, .slice none 0 0] (W.alloc (Obj.cells #[Value.string s, Value.slice none 0 0] 112)) := by
  subst hg
  refine Src.ofSlice _ Tryz.underlying61 ⟨W.heap.size, 0, none⟩ 1 1 [.string s, .slice none 0 0] rfl (fun j u hu => ?_) (by intro u hu; simp at hu; rcases hu with rfl | rfl <;> rfl)
  rw [Addr.add_lit, cell_of_row _ _ _ _ _ _ (heap_alloc_new W _), ← hu, Nat.zero_add]
  simp
/-- One row, laid beside it. -/
theorem src_rowI (V : World) (t e s v : ByteArray) (k p : Nat) (g : Nat) (hV : V.heap[g]? = some (Obj.cells #[Value.string t, Value.string e, Value.int .i64 k, Value.string s, Value.string v, Value.int .i64 p] 118)) : Src Tryz.prog 6 110 (.slice (some ⟨g, 0, none⟩) 1 1) 1 [.string t, .string e, .int .i64 k, .string s, .string v, .int .i64 p] V := by
  refine Src.ofSlice _ Tryz.underlying110 ⟨g, 0, none⟩ 1 1 [.string t, .string e, .int .i64 k, .string s, .string v, .int .i64 p] rfl (fun j u hu => ?_) (by intro u hu; simp at hu; rcases hu with rfl | rfl | rfl | rfl | rfl | rfl <;> rfl)
  rw [Addr.add_lit, cell_of_row _ _ _ _ _ _ hV, ← hu, Nat.zero_add]
  simp
section
variable {w w' : World} {base n c m d : Nat} {A L : Option Addr} {done : List Pt} {nm : Bs} {rows : List Ro} {vs : List Value}
theorem OwnPs.start (w : World) : OwnPs (w.alloc (Obj.cells #[Value.string ⟨#[]⟩, Value.slice none 0 0] 112)) w.heap.size (some ⟨w.heap.size, 0, none⟩) 1 1 [] [] [] [] none 0 0 :=
  ⟨⟨rfl, .inr ⟨w.heap.size, 1, #[.string ⟨#[]⟩, .slice none 0 0], rfl, Nat.le_refl _, heap_alloc_new w _, Nat.le_refl _, by simp [maxLen], rfl, rfl⟩⟩, World.ownsRow_nil _ _ _ _, trivial, fun g hg => by cases hg⟩
theorem OwnPs.push {A2 : Option Addr} {c2 : Nat} {nm2 : Bs} (h : OwnPs w base A n c done nm rows vs L m d) (ho : w'.ownsRow base 112 2 (.slice A2 (n + 1) c2) (n + 1) ((vs ++ [.string ⟨nm.toArray⟩, .slice L m d]) ++ [.string ⟨nm2.toArray⟩, .slice none 0 0]))
    (hg : w.grownBy w' (Value.slice A n c).ownBlock) (hat : ∀ a, A2 = some a → w.heap.size ≤ a.block ∨ some a.block = (Value.slice A n c).ownBlock) : OwnPs w' base A2 (n + 1) c2 (done ++ [⟨nm, rows⟩]) nm2 [] (vs ++ [.string ⟨nm.toArray⟩, .slice L m d]) none 0 0 := by
  refine ⟨ho, World.ownsRow_nil _ _ _ _, ?_, fun g hg => by cases hg⟩
  have hcap := h.cap
  have hlen := h.len
  have key : PtV w (fun b => base ≤ b ∧ b < w.heap.size ∧ some b ≠ (Value.slice A n c).ownBlock) (vs ++ [.string ⟨nm.toArray⟩, .slice L m d]) (done ++ [⟨nm, rows⟩]) := by
    refine (h.old.more fun b hb => ⟨hb.1, hb.2.1, hb.2.2.1⟩).app ⟨rfl, hcap.2.2.1, hcap.2.2.2, ⟨hlen.2, (CellsP.own h.last).more fun b hb => ⟨hb.1, hb.2.1, fun e => h.apart b hb.2.2 e.symm⟩⟩, trivial⟩
  refine (key.keep (w' := w') fun b o hb => World.cell?_of_block (hg.block b hb.2.1 hb.2.2)).more fun b hb => ⟨hb.1, Nat.lt_of_lt_of_le hb.2.1 hg.size, fun e => ?_, fun e => by cases e⟩
  cases A2 with
  | none => cases e
  | some a =>
    have e : b = a.block := by injection e
    rcases hat a rfl with h1 | h1
    · have := hb.2.1; omega
    · exact hb.2.2 (by rw [e]; exact h1)
theorem OwnPs.row {L2 : Option Addr} {d2 g : Nat} {r : Ro} (h : OwnPs w base (some ⟨g, 0, none⟩) n c done nm rows vs L m d) (ho : w'.ownsRow base 118 6 (.slice L2 (m + 1) d2) (m + 1) (rcells rows ++ rcells [r]))
    (hg : w.grownBy w' (Value.slice L m d).ownBlock) (hat : ∀ a, L2 = some a → w.heap.size ≤ a.block ∨ some a.block = (Value.slice L m d).ownBlock) : OwnPs (w'.setCell ⟨g, (n - 1) * 2 + 1, none⟩ (.slice L2 (m + 1) d2)) base (some ⟨g, 0, none⟩) n c done nm (rows ++ [r]) vs L2 (m + 1) d2 := by
  have hlen := h.len
  have hl2 := h.old.length
  have hgl : g < w.heap.size := by
    obtain ⟨g', e, _, hl, _⟩ := h.at_
    injection e with e
    injection e with e
    omega
  have hap : ∀ q, (Value.slice L2 (m + 1) d2).ownBlock = some q → w.heap.size ≤ q ∨ (Value.slice L m d).ownBlock = some q := fun q hq => by
    cases L2 with
    | none => cases hq
    | some a =>
      have e : a.block = q := by injection hq
      rcases hat a rfl with h1 | h1
      · exact .inl (by omega)
      · exact .inr (by rw [← h1, e])
  have hapart : ∀ q, (Value.slice L2 (m + 1) d2).ownBlock = some q → (Value.slice (some ⟨g, 0, none⟩) n c).ownBlock ≠ some q := fun q hq e => by
    have e2 : g = q := by injection e
    rcases hap q hq with h1 | h1
    · omega
    · exact h.apart q h1 e
  refine ⟨?_, ?_, ?_, hapart⟩
  · have h1 : w'.ownsRow base 112 2 (.slice (some ⟨g, 0, none⟩) n c) n (vs ++ [.string ⟨nm.toArray⟩, .slice L m d]) := World.ownsRow.kept h.own hg (.inr fun e => h.apart g e.symm rfl)
    have h2 := store_own (p := (n - 1) * 2 + 1) h1 (.slice L2 (m + 1) d2)
    rw [List.set_append_right _ _ (by omega), show (n - 1) * 2 + 1 - vs.length = 1 by omega] at h2
    exact h2
  · rw [rcells_append]
    exact ownsRow_setCell_other ho (fun e => hapart g e rfl) _
  · refine (h.old.keep (w' := w'.setCell ⟨g, (n - 1) * 2 + 1, none⟩ (.slice L2 (m + 1) d2)) fun b o hb => ?_).more fun b hb => ⟨hb.1, Nat.lt_of_lt_of_le hb.2.1 (by simp [World.setCell]; exact hg.size), hb.2.2.1, fun e => ?_⟩
    · have hbg : b ≠ g := fun e => hb.2.2.1 (by rw [e]; rfl)
      exact (World.cell?_setCell_other _ _ _ _ (by intro e; injection e with e; exact hbg e.symm)).trans (World.cell?_of_block (hg.block b hb.2.1 hb.2.2.2))
    · rcases hap b e.symm with h1 | h1
      · have := hb.2.1; omega
      · exact hb.2.2.2 h1.symm
end
end Go.Proofs.YtgefoehpdiiomaaGreatDoor.In
