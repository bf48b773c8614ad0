/- Schemas: what they are, how they lie in memory, what they ask of trees. No conditions. -/
import Derived.Test.YtagoeededpmdkaaNmHas
import Derived.Test.YtagoeededpmdkaaNmRef1
import Derived.Test.YtagoeededpmdkaaCount
namespace Go.Proofs.Ytagoeededpmdkaa.Sc
open Go.RowKit Go.Proofs.Ytagoeededpmdkaa.Nm
set_option maxRecDepth 100000

structure Fld where
  n : St
  to : Int
  need : Bool
structure Df where
  fs : List Fld
  one : Bool
  some : Bool

/-- A field: four cells. -/
def FldAt (w : World) (B b o : Nat) (f : Fld) : Prop :=
  ∃ (A : Option Addr) (n c : Nat), w.cell? ⟨b, o, none⟩ = .some (.bool f.n.all) ∧ w.cell? ⟨b, o + 1, none⟩ = .some (.slice A n c) ∧ w.cell? ⟨b, o + 2, none⟩ = .some (.int .i64 f.to) ∧ w.cell? ⟨b, o + 3, none⟩ = .some (.bool f.need) ∧ SeesV w B A n (f.n.l.map encs) ∧ n ≤ maxLen ∧ 0 ≤ c
/-- A slice of fields. -/
structure Fs (w : World) (B : Nat) (A : Option Addr) (n : Nat) (fs : List Fld) : Prop where
  len : n = fs.length
  cell : ∀ (j : Nat) (f : Fld), fs[j]? = .some f → ∃ b o, A = .some ⟨b, o, none⟩ ∧ b < B ∧ FldAt w B b (o + j * 4) f
/-- A definition: three cells. -/
def DfAt (w : World) (B b o : Nat) (d : Df) : Prop :=
  ∃ (A : Option Addr) (n c : Nat), w.cell? ⟨b, o, none⟩ = .some (.slice A n c) ∧ w.cell? ⟨b, o + 1, none⟩ = .some (.bool d.one) ∧ w.cell? ⟨b, o + 2, none⟩ = .some (.bool d.some) ∧ Fs w B A n d.fs ∧ n ≤ c ∧ c ≤ maxLen
/-- A slice of definitions. -/
structure Ds (w : World) (B : Nat) (A : Option Addr) (n : Nat) (s : List Df) : Prop where
  len : n = s.length
  cell : ∀ (j : Nat) (d : Df), s[j]? = .some d → ∃ b o, A = .some ⟨b, o, none⟩ ∧ b < B ∧ DfAt w B b (o + j * 3) d

section
variable {w w' : World} {B B' : Nat}
theorem FldAt.keep {b o : Nat} {f : Fld} (hk : ∀ p : Addr, p.block < B → w'.cell? p = w.cell? p) (hb : b < B) (h : FldAt w B b o f) : FldAt w' B b o f := by
  obtain ⟨A, n, c, h1, h2, h3, h4, h5, h6⟩ := h
  exact ⟨A, n, c, (hk _ hb).trans h1, (hk _ hb).trans h2, (hk _ hb).trans h3, (hk _ hb).trans h4, h5.keep hk, h6⟩
theorem Fs.keep {A : Option Addr} {n : Nat} {fs : List Fld} (hk : ∀ p : Addr, p.block < B → w'.cell? p = w.cell? p) (h : Fs w B A n fs) : Fs w' B A n fs :=
  ⟨h.len, fun j f hf => by
    obtain ⟨b, o, e, hb, hc⟩ := h.cell j f hf
    exact ⟨b, o, e, hb, hc.keep hk hb⟩⟩
theorem DfAt.keep {b o : Nat} {d : Df} (hk : ∀ p : Addr, p.block < B → w'.cell? p = w.cell? p) (hb : b < B) (h : DfAt w B b o d) : DfAt w' B b o d := by
  obtain ⟨A, n, c, h1, h2, h3, h4, h5⟩ := h
  exact ⟨A, n, c, (hk _ hb).trans h1, (hk _ hb).trans h2, (hk _ hb).trans h3, h4.keep hk, h5⟩
theorem Ds.keep {A : Option Addr} {n : Nat} {s : List Df} (hk : ∀ p : Addr, p.block < B → w'.cell? p = w.cell? p) (h : Ds w B A n s) : Ds w' B A n s :=
  ⟨h.len, fun j f hf => by
    obtain ⟨b, o, e, hb, hc⟩ := h.cell j f hf
    exact ⟨b, o, e, hb, hc.keep hk hb⟩⟩
theorem SeesV.more {A : Option Addr} {n : Nat} {vs : List Value} (hB : B ≤ B') (h : SeesV w B A n vs) : SeesV w B' A n vs :=
  ⟨h.len, fun j u hu => by
    obtain ⟨b, o, e, hb, hc⟩ := h.cell j u hu
    exact ⟨b, o, e, Nat.lt_of_lt_of_le hb hB, hc⟩⟩
theorem FldAt.more {b o : Nat} {f : Fld} (hB : B ≤ B') (h : FldAt w B b o f) : FldAt w B' b o f := by
  obtain ⟨A, n, c, h1, h2, h3, h4, h5, h6⟩ := h
  exact ⟨A, n, c, h1, h2, h3, h4, SeesV.more hB h5, h6⟩
theorem Fs.more {A : Option Addr} {n : Nat} {fs : List Fld} (hB : B ≤ B') (h : Fs w B A n fs) : Fs w B' A n fs :=
  ⟨h.len, fun j f hf => by
    obtain ⟨b, o, e, hb, hc⟩ := h.cell j f hf
    exact ⟨b, o, e, Nat.lt_of_lt_of_le hb hB, hc.more hB⟩⟩
theorem DfAt.more {b o : Nat} {d : Df} (hB : B ≤ B') (h : DfAt w B b o d) : DfAt w B' b o d := by
  obtain ⟨A, n, c, h1, h2, h3, h4, h5⟩ := h
  exact ⟨A, n, c, h1, h2, h3, h4.more hB, h5⟩
theorem Ds.more {A : Option Addr} {n : Nat} {s : List Df} (hB : B ≤ B') (h : Ds w B A n s) : Ds w B' A n s :=
  ⟨h.len, fun j f hf => by
    obtain ⟨b, o, e, hb, hc⟩ := h.cell j f hf
    exact ⟨b, o, e, Nat.lt_of_lt_of_le hb hB, hc.more hB⟩⟩
theorem Fs.below {A : Option Addr} {n : Nat} {fs : List Fld} (h : Fs w B A n fs) (hb : Below B w w') : Fs w' B A n fs := h.keep fun _ hp => hb.cell hp
theorem Ds.below {A : Option Addr} {n : Nat} {s : List Df} (h : Ds w B A n s) (hb : Below B w w') : Ds w' B A n s := h.keep fun _ hp => hb.cell hp
end

/-- Where a name leads, by a definition's fields; by a schema's definition. -/
def toF (x : List UInt8) : List Fld → Int
  | [] => -1
  | f :: r => if f.n.mem x = true then f.to else toF x r
def toS (s : List Df) (d : Int) (x : List UInt8) : Int :=
  if 0 ≤ d then (match s[d.toNat]? with
    | .some D => toF x D.fs
    | .none => -1) else -1
def tn : Tr → List (List UInt8)
  | .nil => []
  | .cons s _ r => s.data.toList :: tn r
theorem tn_length : ∀ t : Tr, (tn t).length = t.len
  | .nil => rfl
  | .cons _ _ r => by simp only [tn, List.length_cons, Tr.len, tn_length r]
/-- What one level asks. -/
def needs (ns : List (List UInt8)) (f : Fld) : Bool := !f.need || f.n.l.all fun x => decide (x ∈ ns)
def counts (d : Df) (n : Nat) : Bool := (!d.one || decide (n = 1)) && (!d.some || decide (1 ≤ n))
def lvl (s : List Df) (d : Int) (t : Tr) : Bool :=
  if 0 ≤ d then (match s[d.toNat]? with
    | .some D => counts D t.len && ((tn t).all fun x => decide (0 ≤ toF x D.fs)) && D.fs.all (needs (tn t))
    | .none => false) else false
/-- What is below each edge fits. -/
def fitsK (s : List Df) (d : Int) : Tr → Bool
  | .nil => true
  | .cons nm k r => (lvl s (toS s d nm.data.toList) k && fitsK s (toS s d nm.data.toList) k) && fitsK s d r
def fits (s : List Df) (d : Int) (t : Tr) : Bool := lvl s d t && fitsK s d t
theorem fitsK_cons (s : List Df) (d : Int) (nm : ByteArray) (k r : Tr) : fitsK s d (.cons nm k r) = (fits s (toS s d nm.data.toList) k && fitsK s d r) := rfl

theorem toS_in {s : List Df} {d : Nat} {D : Df} (h : s[d]? = .some D) (x : List UInt8) : toS s d x = toF x D.fs := by
  unfold toS
  rw [if_pos (by omega), Int.toNat_natCast, h]
theorem lvl_in {s : List Df} {d : Nat} {D : Df} (h : s[d]? = .some D) (t : Tr) : lvl s d t = (counts D t.len && ((tn t).all fun x => decide (0 ≤ toF x D.fs)) && D.fs.all (needs (tn t))) := by
  unfold lvl
  rw [if_pos (by omega), Int.toNat_natCast, h]
theorem out_of {s : List Df} {d : Int} (h : ¬ (0 ≤ d ∧ d < s.length)) : d < 0 ∨ s[d.toNat]? = .none := by
  by_cases h0 : 0 ≤ d
  · right
    rw [List.getElem?_eq_none]
    omega
  · left; omega
theorem toS_out {s : List Df} {d : Int} (h : ¬ (0 ≤ d ∧ d < s.length)) (x : List UInt8) : toS s d x = -1 := by
  unfold toS
  rcases out_of h with g | g
  · rw [if_neg (by omega)]
  · split
    · rw [g]
    · rfl
theorem lvl_out {s : List Df} {d : Int} (h : ¬ (0 ≤ d ∧ d < s.length)) (t : Tr) : lvl s d t = false := by
  unfold lvl
  rcases out_of h with g | g
  · rw [if_neg (by omega)]
  · split
    · rw [g]
    · rfl
end Go.Proofs.Ytagoeededpmdkaa.Sc
