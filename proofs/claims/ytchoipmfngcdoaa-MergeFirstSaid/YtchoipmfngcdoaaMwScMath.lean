/- Schemas: what they are, how they lie in memory, what they ask of trees. No conditions. · Two trees merged by a third: what comes of it. No conditions. · A row of edges of one's own, cell by cell: with an edge more, with one less. No conditions. · A place within a tree of one's own: what lies there, and the whole again, whatever is put there. No conditions. · tree.Put: the whole anew, with something put at a path. Conditions: edges in order at each level, fewer than 2^39 of them. · tree.Get: what is below a path, anew. Conditions: edges in order at each level, fewer than 2^38 of them. -/
import Derived.Test.YtchoipmfngcdoaaMwDfMend
import Derived.Test.YtchoipmfngcdoaaMwWords
import Derived.Test.YtchoipmfngcdoaaMwNamesMath
import Derived.Test.YtchoipmfngcdoaaMwClLev
namespace Go.Proofs.Ytchoipmfngcdoaa.Sc
open Go.RowKit Go.Proofs.Ytchoipmfngcdoaa.Nm
set_option maxRecDepth 100000

structure Fld where
  n : St
  to : Int
  need : Bool
structure Df where
  fs : List Fld
  one : Bool
  some : Bool

/-- A field: four cells. -/
def FldAt (w : World) (B b o : Nat) (f : Fld) : Prop :=
  ∃ (A : Option Addr) (n c : Nat), w.cell? ⟨b, o, none⟩ = .some (.bool f.n.all) ∧ w.cell? ⟨b, o + 1, none⟩ = .some (.slice A n c) ∧ w.cell? ⟨b, o + 2, none⟩ = .some (.int .i64 f.to) ∧ w.cell? ⟨b, o + 3, none⟩ = .some (.bool f.need) ∧ SeesV w B A n (f.n.l.map encs) ∧ n ≤ maxLen ∧ 0 ≤ c
/-- A slice of fields. -/
structure Fs (w : World) (B : Nat) (A : Option Addr) (n : Nat) (fs : List Fld) : Prop where
  len : n = fs.length
  cell : ∀ (j : Nat) (f : Fld), fs[j]? = .some f → ∃ b o, A = .some ⟨b, o, none⟩ ∧ b < B ∧ FldAt w B b (o + j * 4) f
/-- A definition: three cells. -/
def DfAt (w : World) (B b o : Nat) (d : Df) : Prop :=
  ∃ (A : Option Addr) (n c : Nat), w.cell? ⟨b, o, none⟩ = .some (.slice A n c) ∧ w.cell? ⟨b, o + 1, none⟩ = .some (.bool d.one) ∧ w.cell? ⟨b, o + 2, none⟩ = .some (.bool d.some) ∧ Fs w B A n d.fs ∧ n ≤ c ∧ c ≤ maxLen
/-- A slice of definitions. -/
structure Ds (w : World) (B : Nat) (A : Option Addr) (n : Nat) (s : List Df) : Prop where
  len : n = s.length
  cell : ∀ (j : Nat) (d : Df), s[j]? = .some d → ∃ b o, A = .some ⟨b, o, none⟩ ∧ b < B ∧ DfAt w B b (o + j * 3) d

section
variable {w w' : World} {B B' : Nat}
theorem FldAt.keep {b o : Nat} {f : Fld} (hk : ∀ p : Addr, p.block < B → w'.cell? p = w.cell? p) (hb : b < B) (h : FldAt w B b o f) : FldAt w' B b o f := by
  obtain ⟨A, n, c, h1, h2, h3, h4, h5, h6⟩ := h
  exact ⟨A, n, c, (hk _ hb).trans h1, (hk _ hb).trans h2, (hk _ hb).trans h3, (hk _ hb).trans h4, h5.keep hk, h6⟩
theorem Fs.keep {A : Option Addr} {n : Nat} {fs : List Fld} (hk : ∀ p : Addr, p.block < B → w'.cell? p = w.cell? p) (h : Fs w B A n fs) : Fs w' B A n fs :=
  ⟨h.len, fun j f hf => by
    obtain ⟨b, o, e, hb, hc⟩ := h.cell j f hf
    exact ⟨b, o, e, hb, hc.keep hk hb⟩⟩
theorem DfAt.keep {b o : Nat} {d : Df} (hk : ∀ p : Addr, p.block < B → w'.cell? p = w.cell? p) (hb : b < B) (h : DfAt w B b o d) : DfAt w' B b o d := by
  obtain ⟨A, n, c, h1, h2, h3, h4, h5⟩ := h
  exact ⟨A, n, c, (hk _ hb).trans h1, (hk _ hb).trans h2, (hk _ hb).trans h3, h4.keep hk, h5⟩
theorem Ds.keep {A : Option Addr} {n : Nat} {s : List Df} (hk : ∀ p : Addr, p.block < B → w'.cell? p = w.cell? p) (h : Ds w B A n s) : Ds w' B A n s :=
  ⟨h.len, fun j f hf => by
    obtain ⟨b, o, e, hb, hc⟩ := h.cell j f hf
    exact ⟨b, o, e, hb, hc.keep hk hb⟩⟩
theorem SeesV.more {A : Option Addr} {n : Nat} {vs : List Value} (hB : B ≤ B') (h : SeesV w B A n vs) : SeesV w B' A n vs :=
  ⟨h.len, fun j u hu => by
    obtain ⟨b, o, e, hb, hc⟩ := h.cell j u hu
    exact ⟨b, o, e, Nat.lt_of_lt_of_le hb hB, hc⟩⟩
theorem FldAt.more {b o : Nat} {f : Fld} (hB : B ≤ B') (h : FldAt w B b o f) : FldAt w B' b o f := by
  obtain ⟨A, n, c, h1, h2, h3, h4, h5, h6⟩ := h
  exact ⟨A, n, c, h1, h2, h3, h4, SeesV.more hB h5, h6⟩
theorem Fs.more {A : Option Addr} {n : Nat} {fs : List Fld} (hB : B ≤ B') (h : Fs w B A n fs) : Fs w B' A n fs :=
  ⟨h.len, fun j f hf => by
    obtain ⟨b, o, e, hb, hc⟩ := h.cell j f hf
    exact ⟨b, o, e, Nat.lt_of_lt_of_le hb hB, hc.more hB⟩⟩
theorem DfAt.more {b o : Nat} {d : Df} (hB : B ≤ B') (h : DfAt w B b o d) : DfAt w B' b o d := by
  obtain ⟨A, n, c, h1, h2, h3, h4, h5⟩ := h
  exact ⟨A, n, c, h1, h2, h3, h4.more hB, h5⟩
theorem Ds.more {A : Option Addr} {n : Nat} {s : List Df} (hB : B ≤ B') (h : Ds w B A n s) : Ds w B' A n s :=
  ⟨h.len, fun j f hf => by
    obtain ⟨b, o, e, hb, hc⟩ := h.cell j f hf
    exact ⟨b, o, e, Nat.lt_of_lt_of_le hb hB, hc.more hB⟩⟩
theorem Fs.below {A : Option Addr} {n : Nat} {fs : List Fld} (h : Fs w B A n fs) (hb : Below B w w') : Fs w' B A n fs := h.keep fun _ hp => hb.cell hp
theorem Ds.below {A : Option Addr} {n : Nat} {s : List Df} (h : Ds w B A n s) (hb : Below B w w') : Ds w' B A n s := h.keep fun _ hp => hb.cell hp
end

/-- Where a name leads, by a definition's fields; by a schema's definition. -/
def toF (x : List UInt8) : List Fld → Int
  | [] => -1
  | f :: r => if f.n.mem x = true then f.to else toF x r
def toS (s : List Df) (d : Int) (x : List UInt8) : Int :=
  if 0 ≤ d then (match s[d.toNat]? with
    | .some D => toF x D.fs
    | .none => -1) else -1
def tn : Tr → List (List UInt8)
  | .nil => []
  | .cons s _ r => s.data.toList :: tn r
theorem tn_length : ∀ t : Tr, (tn t).length = t.len
  | .nil => rfl
  | .cons _ _ r => by simp only [tn, List.length_cons, Tr.len, tn_length r]
/-- What one level asks. -/
def needs (ns : List (List UInt8)) (f : Fld) : Bool := !f.need || f.n.l.all fun x => decide (x ∈ ns)
def counts (d : Df) (n : Nat) : Bool := (!d.one || decide (n = 1)) && (!d.some || decide (1 ≤ n))
def lvl (s : List Df) (d : Int) (t : Tr) : Bool :=
  if 0 ≤ d then (match s[d.toNat]? with
    | .some D => counts D t.len && ((tn t).all fun x => decide (0 ≤ toF x D.fs)) && D.fs.all (needs (tn t))
    | .none => false) else false
/-- What is below each edge fits. -/
def fitsK (s : List Df) (d : Int) : Tr → Bool
  | .nil => true
  | .cons nm k r => (lvl s (toS s d nm.data.toList) k && fitsK s (toS s d nm.data.toList) k) && fitsK s d r
def fits (s : List Df) (d : Int) (t : Tr) : Bool := lvl s d t && fitsK s d t
theorem fitsK_cons (s : List Df) (d : Int) (nm : ByteArray) (k r : Tr) : fitsK s d (.cons nm k r) = (fits s (toS s d nm.data.toList) k && fitsK s d r) := rfl

theorem toS_in {s : List Df} {d : Nat} {D : Df} (h : s[d]? = .some D) (x : List UInt8) : toS s d x = toF x D.fs := by
  unfold toS
  rw [if_pos (by omega), Int.toNat_natCast, h]
theorem lvl_in {s : List Df} {d : Nat} {D : Df} (h : s[d]? = .some D) (t : Tr) : lvl s d t = (counts D t.len && ((tn t).all fun x => decide (0 ≤ toF x D.fs)) && D.fs.all (needs (tn t))) := by
  unfold lvl
  rw [if_pos (by omega), Int.toNat_natCast, h]
theorem out_of {s : List Df} {d : Int} (h : ¬ (0 ≤ d ∧ d < s.length)) : d < 0 ∨ s[d.toNat]? = .none := by
  by_cases h0 : 0 ≤ d
  · right
    rw [List.getElem?_eq_none]
    omega
  · left; omega
theorem toS_out {s : List Df} {d : Int} (h : ¬ (0 ≤ d ∧ d < s.length)) (x : List UInt8) : toS s d x = -1 := by
  unfold toS
  rcases out_of h with g | g
  · rw [if_neg (by omega)]
  · split
    · rw [g]
    · rfl
theorem lvl_out {s : List Df} {d : Int} (h : ¬ (0 ≤ d ∧ d < s.length)) (t : Tr) : lvl s d t = false := by
  unfold lvl
  rcases out_of h with g | g
  · rw [if_neg (by omega)]
  · split
    · rw [g]
    · rfl
end Go.Proofs.Ytchoipmfngcdoaa.Sc
namespace Go.Proofs.Ytchoipmfngcdoaa.Mg
open Go.RowKit Go.Proofs.Ytchoipmfngcdoaa.Pt Go.Proofs.Ytchoipmfngcdoaa.Df Go.Proofs.Ytchoipmfngcdoaa.Sc
set_option maxRecDepth 100000

/-- A tree, or nothing. -/
structure Op where
  is : Bool
  t : Tr
def Op.same (x y : Op) : Bool := (x.is == y.is) && x.t.same y.t
theorem op_same {x y : Op} (h : x.same y = true) : x = y := by
  obtain ⟨xi, xt⟩ := x
  obtain ⟨yi, yt⟩ := y
  simp only [Op.same, Bool.and_eq_true, beq_iff_eq] at h
  rw [h.1, same_eq h.2]
theorem op_refl (x : Op) : x.same x = true := by simp [Op.same, same_refl]
def Op.below (x : Op) (s : ByteArray) : Op := ⟨x.t.atIs s, kidT x.t s⟩
/-- What comes of a place. -/
structure Mo where
  o : Op
  a : Op
  b : Op
  l : List (List ByteArray × Int)
/-- The names of all three, in order. -/
def nsU (o a b : Tr) : List ByteArray := (namesOf (o.names ++ (a.names ++ b.names))).map nb
/-- The edges that come of names. -/
def edgesOf (f : ByteArray → Op) : List ByteArray → Tr
  | [] => .nil
  | s :: l => if (f s).is = true then .cons s (f s).t (edgesOf f l) else edgesOf f l
/-- KGone, KShape. -/
def kGone : Int := 1
def kShape : Int := 2
def mrg (S : List Df) : Nat → Int → List ByteArray → Op → Op → Op → Mo
  | 0, _, _, o, a, b => ⟨o, a, b, []⟩
  | N + 1, d, p, o, a, b =>
    if a.same b = true then ⟨a, a, a, []⟩
    else if a.same o = true then ⟨b, b, b, []⟩
    else if b.same o = true then ⟨a, a, a, []⟩
    else if (a.is && b.is) = false then ⟨o, a, b, [(p, kGone)]⟩
    else
      if (lvl S d (edgesOf (fun s => (mrg S N (toS S d s.data.toList) (p ++ [s]) (o.below s) (a.below s) (b.below s)).a) (nsU o.t a.t b.t)) &&
          lvl S d (edgesOf (fun s => (mrg S N (toS S d s.data.toList) (p ++ [s]) (o.below s) (a.below s) (b.below s)).b) (nsU o.t a.t b.t))) = true then
        ⟨⟨true, edgesOf (fun s => (mrg S N (toS S d s.data.toList) (p ++ [s]) (o.below s) (a.below s) (b.below s)).o) (nsU o.t a.t b.t)⟩,
         ⟨true, edgesOf (fun s => (mrg S N (toS S d s.data.toList) (p ++ [s]) (o.below s) (a.below s) (b.below s)).a) (nsU o.t a.t b.t)⟩,
         ⟨true, edgesOf (fun s => (mrg S N (toS S d s.data.toList) (p ++ [s]) (o.below s) (a.below s) (b.below s)).b) (nsU o.t a.t b.t)⟩,
         (nsU o.t a.t b.t).flatMap fun s => (mrg S N (toS S d s.data.toList) (p ++ [s]) (o.below s) (a.below s) (b.below s)).l⟩
      else ⟨o, a, b, [(p, kShape)]⟩
/-- What comes below a name. -/
def sub (S : List Df) (N : Nat) (d : Int) (p : List ByteArray) (o a b : Op) (s : ByteArray) : Mo := mrg S N (toS S d s.data.toList) (p ++ [s]) (o.below s) (a.below s) (b.below s)

theorem mem_nsU {o a b : Tr} {s : ByteArray} (ho : o.Asc) (ha : a.Asc) (hb : b.Asc) : s ∈ nsU o a b ↔ (o.atIs s = true ∨ a.atIs s = true ∨ b.atIs s = true) := by
  have h : s ∈ nsU o a b ↔ s ∈ o.names ++ (a.names ++ b.names) := by
    unfold nsU
    rw [List.mem_map]
    constructor
    · rintro ⟨l, hl, rfl⟩
      rw [namesOf_mem, List.mem_map] at hl
      obtain ⟨x, hx, rfl⟩ := hl
      rw [nb_data]
      exact hx
    · intro hs
      exact ⟨s.data.toList, (namesOf_mem _ _).2 (List.mem_map_of_mem hs), nb_data s⟩
  rw [h, List.mem_append, List.mem_append]
  exact ⟨fun h => h.imp (mem_is ho) (fun h => h.imp (mem_is ha) (mem_is hb)), fun h => h.imp is_mem (fun h => h.imp is_mem is_mem)⟩
theorem nsU_pair (o a b : Tr) : (nsU o a b).Pairwise fun x y => x.data.toList < y.data.toList := by
  unfold nsU
  rw [List.pairwise_map]
  exact (namesOf_pair _).imp fun h => by rw [data_nb, data_nb]; exact h

theorem edges_names (f : ByteArray → Op) : ∀ l : List ByteArray, ∀ s ∈ (edgesOf f l).names, s ∈ l ∧ (f s).is = true
  | [], s, h => by simp [edgesOf, Tr.names] at h
  | x :: l, s, h => by
    unfold edgesOf at h
    split at h
    · rename_i hx
      rw [Tr.names, List.mem_cons] at h
      rcases h with rfl | h
      · exact ⟨List.mem_cons_self, hx⟩
      · have := edges_names f l s h
        exact ⟨List.mem_cons_of_mem _ this.1, this.2⟩
    · have := edges_names f l s h
      exact ⟨List.mem_cons_of_mem _ this.1, this.2⟩
theorem edges_asc {f : ByteArray → Op} (hf : ∀ s, AscD (f s).t) : ∀ {l : List ByteArray}, (l.Pairwise fun x y => x.data.toList < y.data.toList) → AscD (edgesOf f l)
  | [], _ => trivial
  | x :: l, h => by
    rw [List.pairwise_cons] at h
    have ih := edges_asc hf h.2
    unfold edgesOf
    split
    · refine ⟨?_, hf x, ih⟩
      unfold Tr.Asc
      rw [bn_cons, List.pairwise_cons]
      refine ⟨fun y hy => ?_, ih.asc⟩
      obtain ⟨z, hz, rfl⟩ := List.mem_map.1 hy
      exact h.1 z (edges_names f l z hz).1
    · exact ih
/-- What an edge's name finds there. -/
theorem edges_at {f : ByteArray → Op} (hn : ∀ s, (f s).is = false → (f s).t = .nil) : ∀ {l : List ByteArray}, (l.Pairwise fun x y => x.data.toList < y.data.toList) → ∀ q, (q ∈ l → (edgesOf f l).atIs q = (f q).is ∧ kidT (edgesOf f l) q = (f q).t) ∧ (q ∉ l → (edgesOf f l).atIs q = false ∧ kidT (edgesOf f l) q = .nil)
  | [], _, q => ⟨fun h => by simp at h, fun _ => ⟨nil_is q, rfl⟩⟩
  | x :: l, h, q => by
    rw [List.pairwise_cons] at h
    obtain ⟨i1, i2⟩ := edges_at hn h.2 q
    have hxl : x ∉ l := fun e => List.lt_irrefl _ (h.1 x e)
    unfold edgesOf
    split
    · rename_i hx
      by_cases hqx : q = x
      · subst hqx
        refine ⟨fun _ => ?_, fun e => absurd List.mem_cons_self e⟩
        rw [(head_is q _ _).1, (head_is q _ _).2, hx]
        exact ⟨rfl, rfl⟩
      · -- behind the head
        have key : (Tr.cons x (f x).t (edgesOf f l)).atIs q = (edgesOf f l).atIs q ∧ kidT (.cons x (f x).t (edgesOf f l)) q = kidT (edgesOf f l) q := by
          rcases cases3 x q with c1 | ⟨_, c2⟩ | ⟨c1, c2, c3⟩
          · rw [Pt.atIs_lt c1, kidT_lt c1]; exact ⟨rfl, rfl⟩
          · exact absurd (names_of_eq c2).symm hqx
          · have hno : q ∉ l := fun e => List.lt_irrefl _ (List.lt_trans (h.1 q e) ((less_iff q x).1 c3))
            rw [atIs_ge c1, c2, kidT_gt c1 c2, (i2 hno).1, (i2 hno).2]
            exact ⟨rfl, rfl⟩
        rw [key.1, key.2, List.mem_cons]
        exact ⟨fun e => i1 (e.resolve_left hqx), fun e => i2 (fun e2 => e (.inr e2))⟩
    · rename_i hx
      have hx' : (f x).is = false := by simpa using hx
      by_cases hqx : q = x
      · subst hqx
        refine ⟨fun _ => ?_, fun e => absurd List.mem_cons_self e⟩
        rw [(i2 hxl).1, (i2 hxl).2, hx', hn q hx']
        exact ⟨rfl, rfl⟩
      · rw [List.mem_cons]
        exact ⟨fun e => i1 (e.resolve_left hqx), fun e => i2 (fun e2 => e (.inr e2))⟩
/-- A tree that is told name by name. -/
theorem edges_eq {f : ByteArray → Op} {l : List ByteArray} {t : Tr} (hn : ∀ s, (f s).is = false → (f s).t = .nil) (hf : ∀ s, AscD (f s).t) (hl : l.Pairwise fun x y => x.data.toList < y.data.toList) (ht : t.Asc)
    (h1 : ∀ s ∈ l, (f s).is = t.atIs s ∧ (f s).t = kidT t s) (h2 : ∀ s, t.atIs s = true → s ∈ l) : edgesOf f l = t := by
  refine ext_at (edges_asc hf hl).asc ht (fun s => ?_) (fun s hs => ?_)
  · by_cases hs : s ∈ l
    · rw [((edges_at hn hl s).1 hs).1, (h1 s hs).1]
    · rw [((edges_at hn hl s).2 hs).1]
      cases e : t.atIs s with
      | false => rfl
      | true => exact absurd (h2 s e) hs
  · by_cases hsl : s ∈ l
    · rw [((edges_at hn hl s).1 hsl).2, (h1 s hsl).2]
    · rw [((edges_at hn hl s).2 hsl).1] at hs
      cases hs
end Go.Proofs.Ytchoipmfngcdoaa.Mg
namespace Go.Proofs.Ytchoipmfngcdoaa.Pt
open Go.RowKit Go.Proofs.Ytchoipmfngcdoaa.Cl
set_option maxRecDepth 100000

def insAt : Tr → Nat → ByteArray → Tr
  | t, 0, name => .cons name .nil t
  | .nil, _ + 1, name => .cons name .nil .nil
  | .cons s k r, i + 1, name => .cons s k (insAt r i name)
def delAt : Tr → Nat → Tr
  | .nil, _ => .nil
  | .cons _ _ r, 0 => r
  | .cons s k r, i + 1 => .cons s k (delAt r i)
theorem insAt_zero (t : Tr) (name : ByteArray) : insAt t 0 name = .cons name .nil t := by cases t <;> rfl
theorem ins_with {name : ByteArray} {y : Tr} : ∀ {t : Tr}, t.atIs name = false → t.withT name y = setT (insAt t (t.atN name) name) (t.atN name) y ∧ (insAt t (t.atN name) name).dropT (t.atN name) = .cons name .nil (t.dropT (t.atN name)) ∧ kidT t name = .nil
  | .nil, _ => ⟨rfl, rfl, rfl⟩
  | .cons s k r, h => by
    rcases cases3 s name with c1 | ⟨c1, c2⟩ | ⟨c1, c2, _⟩
    · rw [atIs_lt c1] at h
      obtain ⟨h1, h2, h3⟩ := ins_with (y := y) h
      rw [withT_lt c1, atN_lt c1, h1, kidT_lt c1]
      exact ⟨rfl, h2, h3⟩
    · rw [atIs_ge c1, c2] at h; cases h
    · rw [withT_gt c1 c2, atN_ge c1, kidT_gt c1 c2, insAt_zero, dropT_zero, dropT_zero]
      exact ⟨rfl, rfl, rfl⟩
theorem set_with {name : ByteArray} {y : Tr} : ∀ {t : Tr}, t.atIs name = true → t.withT name y = setT t (t.atN name) y ∧ (∃ r, t.dropT (t.atN name) = .cons name (kidT t name) r) ∧ withoutT t name = delAt t (t.atN name)
  | .nil, h => by simp [Tr.atIs, Tr.atN, dropT_zero, Tr.headIs] at h
  | .cons s k r, h => by
    rcases cases3 s name with c1 | ⟨c1, c2⟩ | ⟨c1, c2, _⟩
    · rw [atIs_lt c1] at h
      obtain ⟨h1, ⟨r', h2⟩, h3⟩ := set_with (y := y) h
      rw [withT_lt c1, atN_lt c1, h1, kidT_lt c1, withoutT_lt c1, h3]
      exact ⟨rfl, ⟨r', h2⟩, rfl⟩
    · have e := names_of_eq c2
      subst e
      rw [withT_eq c1 c2, atN_ge c1, kidT_eq c1 c2, withoutT_eq c1 c2]
      exact ⟨rfl, ⟨r, by rw [dropT_zero]⟩, rfl⟩
    · rw [atIs_ge c1, c2] at h; cases h
theorem insAt_len : ∀ (t : Tr) (i : Nat) (name : ByteArray), (insAt t i name).len = t.len + 1
  | t, 0, name => by rw [insAt_zero]; rfl
  | .nil, i + 1, name => rfl
  | .cons s k r, i + 1, name => by simp only [insAt, Tr.len, insAt_len r i name]
theorem delAt_len : ∀ (t : Tr) (i : Nat), i < t.len → (delAt t i).len + 1 = t.len
  | .nil, _, h => by simp [Tr.len] at h
  | .cons _ _ r, 0, _ => rfl
  | .cons s k r, i + 1, h => by
    simp only [Tr.len] at h
    have := delAt_len r i (by omega)
    simp only [delAt, Tr.len]; omega

theorem RowC.less {w : World} {base base' d c : Nat} (h : RowC w base d c) (hb : base' ≤ base) : RowC w base' d c := ⟨Nat.le_trans hb h.1, h.2⟩
theorem OwnR.less {w : World} {base base' : Nat} (hb : base' ≤ base) : ∀ {t : Tr} {b o : Nat} {bs : List Nat}, OwnR w base b o t bs → OwnR w base' b o t bs
  | .nil, _, _, _, h => h
  | .cons s k r, b, o, _, ⟨A', n', c', b1, b2, e, hs, hc, hn, hm, hl, h1, h2⟩ => by
    refine ⟨A', n', c', b1, b2, e, hs, hc, hn, hm, hl, ?_, OwnR.less hb h2⟩
    rcases h1 with h1 | ⟨d', b3, e1, e, h3, h4⟩
    · exact .inl h1
    · exact .inr ⟨d', b3, e1, e, RowC.less h3 hb, OwnR.less hb h4⟩
theorem OwnL.less {w : World} {base base' n c : Nat} {A : Option Addr} {t : Tr} {bs : List Nat} (h : OwnL w base A n c t bs) (hb : base' ≤ base) : OwnL w base' A n c t bs := by
  refine ⟨h.1, ?_⟩
  rcases h.2 with h1 | ⟨d', b3, e1, e, h3, h4⟩
  · exact .inl h1
  · exact .inr ⟨d', b3, e1, e, RowC.less h3 hb, OwnR.less hb h4⟩
theorem OwnR.holdsP {w : World} {base : Nat} {P : Nat → Prop} : ∀ {t : Tr} {b o : Nat} {bs : List Nat}, OwnR w base b o t bs → P b → (∀ d ∈ bs, P d) → HoldsP w P (some ⟨b, o, none⟩) t.len t
  | .nil, _, _, _, _, _, _ => rfl
  | .cons s k r, b, o, _, ⟨A', n', c', b1, b2, e, hs, hc, hn, hm, hl, h1, h2⟩, hb, hB => by
    subst e
    refine ⟨b, o, rfl, hb, hs, ⟨A', n', c', hc, hn, hm, ?_⟩, r.len, rfl, OwnR.holdsP h2 hb (fun d hd => hB d (List.mem_append.2 (.inr hd)))⟩
    rcases h1 with ⟨_, _, _, e⟩ | ⟨d', b3, e1, e, h3, h4⟩
    · subst e
      exact hl
    · subst e; subst e1
      rw [hl]
      exact OwnR.holdsP h4 (hB d' (by simp)) (fun d hd => hB d (by simp [hd]))
theorem OwnL.holdsP {w : World} {base n c : Nat} {P : Nat → Prop} {A : Option Addr} {t : Tr} {bs : List Nat} (h : OwnL w base A n c t bs) (hB : ∀ d ∈ bs, P d) : HoldsP w P A n t := by
  obtain ⟨hl, h1⟩ := h
  rcases h1 with ⟨_, _, _, e⟩ | ⟨d', b3, e1, e, h3, h4⟩
  · subst e
    exact hl
  · subst e; subst e1
    rw [hl]
    exact OwnR.holdsP h4 (hB d' (by simp)) (fun d hd => hB d (by simp [hd]))

/-- The cells of such a row. -/
def OwnC (w : World) (base : Nat) : List Value → Tr → List Nat → Prop
  | [], .nil, bs => bs = []
  | .string s :: .slice A n c :: vs, .cons s' k r, bs => s = s' ∧ ∃ b1 b2, bs = b1 ++ b2 ∧ n ≤ c ∧ c ≤ maxLen ∧ OwnL w base A n c k b1 ∧ OwnC w base vs r b2
  | _, _, _ => False
section
variable {w w' : World} {base : Nat}
theorem OwnC.keep : ∀ {vs : List Value} {t : Tr} {bs : List Nat}, OwnC w base vs t bs → (∀ d ∈ bs, w'.heap[d]? = w.heap[d]?) → OwnC w' base vs t bs
  | [], .nil, _, h, _ => h
  | .string _ :: .slice _ _ _ :: _, .cons _ _ _, _, ⟨h1, b1, b2, e, h2, h3, h4, h5⟩, hk => by
    subst e
    exact ⟨h1, b1, b2, rfl, h2, h3, h4.keep (fun d hd => hk d (List.mem_append.2 (.inl hd))), OwnC.keep h5 (fun d hd => hk d (List.mem_append.2 (.inr hd)))⟩
theorem OwnC.length : ∀ {vs : List Value} {t : Tr} {bs : List Nat}, OwnC w base vs t bs → vs.length = t.len * 2
  | [], .nil, _, _ => rfl
  | .string _ :: .slice _ _ _ :: _, .cons _ _ _, _, ⟨_, _, _, _, _, _, _, h5⟩ => by
    have := OwnC.length h5
    simp only [List.length_cons, Tr.len]
    omega
theorem OwnC.one : ∀ {vs : List Value} {t : Tr} {bs : List Nat}, OwnC w base vs t bs → ∀ v ∈ vs, v.oneCell' = true
  | [], .nil, _, _, v, hv => by cases hv
  | .string _ :: .slice _ _ _ :: _, .cons _ _ _, _, ⟨_, _, _, _, _, _, _, h5⟩, v, hv => by
    simp only [List.mem_cons] at hv
    rcases hv with rfl | rfl | hv
    · rfl
    · rfl
    · exact OwnC.one h5 v hv
theorem OwnR.cells : ∀ {t : Tr} {b o : Nat} {bs : List Nat}, OwnR w base b o t bs → ∃ vs, (∀ j u, vs[j]? = some u → w.cell? ⟨b, o + j, none⟩ = some u) ∧ OwnC w base vs t bs
  | .nil, _, _, _, h => ⟨[], fun j u hu => by simp at hu, h⟩
  | .cons s k r, b, o, _, ⟨A', n', c', b1, b2, e, hs, hc, hn, hm, hl, h1, h2⟩ => by
    obtain ⟨vs, hv, ho⟩ := OwnR.cells h2
    refine ⟨.string s :: .slice A' n' c' :: vs, fun j u hu => ?_, rfl, b1, b2, e, hn, hm, ⟨hl, h1⟩, ho⟩
    match j, hu with
    | 0, hu => simp at hu; subst hu; exact hs
    | 1, hu => simp at hu; subst hu; exact hc
    | j + 2, hu =>
      have := hv j u (by simpa using hu)
      rw [show o + (j + 2) = o + 2 + j by omega]
      exact this
theorem OwnC.row : ∀ {vs : List Value} {t : Tr} {bs : List Nat} {b o : Nat}, OwnC w base vs t bs → (∀ j u, vs[j]? = some u → w.cell? ⟨b, o + j, none⟩ = some u) → OwnR w base b o t bs
  | [], .nil, _, _, _, h, _ => h
  | .string s :: .slice A n c :: vs, .cons s' k r, _, b, o, ⟨h1, b1, b2, e, h2, h3, h4, h5⟩, hc => by
    subst h1
    refine ⟨A, n, c, b1, b2, e, by have := hc 0 _ rfl; simpa using this, hc 1 _ rfl, h2, h3, h4.1, h4.2, OwnC.row h5 fun j u hu => ?_⟩
    have := hc (j + 2) u (by simpa using hu)
    rw [show o + 2 + j = o + (j + 2) by omega]
    exact this
theorem OwnC.ins {name : ByteArray} : ∀ {vs : List Value} {t : Tr} {bs : List Nat} (i : Nat), OwnC w base vs t bs → i ≤ t.len → OwnC w base (vs.take (i * 2) ++ ([.string name, .slice none 0 0] ++ vs.drop (i * 2))) (insAt t i name) bs
  | vs, t, bs, 0, h, _ => by
    rw [insAt_zero]
    simp only [Nat.zero_mul, List.take_zero, List.drop_zero, List.nil_append]
    exact ⟨rfl, [], bs, rfl, Nat.le_refl _, Nat.zero_le _, ⟨rfl, .inl ⟨rfl, rfl, rfl, rfl⟩⟩, h⟩
  | [], .nil, _, i + 1, _, hi => by simp [Tr.len] at hi
  | .string s :: .slice A n c :: vs, .cons s' k r, _, i + 1, ⟨h1, b1, b2, e, h2, h3, h4, h5⟩, hi => by
    have := OwnC.ins (name := name) i h5 (by simp only [Tr.len] at hi; omega)
    rw [show (i + 1) * 2 = i * 2 + 1 + 1 by omega]
    exact ⟨h1, b1, b2, e, h2, h3, h4, this⟩
theorem OwnC.del : ∀ {vs : List Value} {t : Tr} {bs : List Nat} (i : Nat), OwnC w base vs t bs → i < t.len → ∃ x b1 y, bs = x ++ (b1 ++ y) ∧ OwnC w base (vs.take (i * 2) ++ vs.drop ((i + 1) * 2)) (delAt t i) (x ++ y)
  | [], .nil, _, _, _, hi => by simp [Tr.len] at hi
  | .string s :: .slice A n c :: vs, .cons s' k r, _, 0, ⟨_, b1, b2, e, _, _, _, h5⟩, _ => ⟨[], b1, b2, by simpa using e, by simpa [delAt] using h5⟩
  | .string s :: .slice A n c :: vs, .cons s' k r, _, i + 1, ⟨h1, b1, b2, e, h2, h3, h4, h5⟩, hi => by
    obtain ⟨x, b3, y, e2, h6⟩ := OwnC.del i h5 (by simp only [Tr.len] at hi; omega)
    subst e2
    refine ⟨b1 ++ x, b3, y, by rw [e]; simp, ?_⟩
    rw [show (i + 1) * 2 = i * 2 + 1 + 1 by omega, show (i + 1 + 1) * 2 = (i + 1) * 2 + 1 + 1 by omega]
    exact ⟨h1, b1, x ++ y, by simp, h2, h3, h4, h6⟩
end
/-- As what Insert and Delete ask. -/
theorem OwnL.slice {w : World} {base n c : Nat} {A : Option Addr} {t : Tr} {bs : List Nat} (h : OwnL w base A n c t bs) (hn : n ≤ c) (hm : c ≤ maxLen) :
    ∃ vs rest, w.ownsRow base 51 2 (.slice A n c) n vs ∧ OwnC w base vs t rest ∧ ((A = none ∧ bs = [] ∧ rest = []) ∨ ∃ d, A = some ⟨d, 0, none⟩ ∧ bs = d :: rest) := by
  obtain ⟨hl, h1⟩ := h
  rcases h1 with ⟨e1, e2, e3, e4⟩ | ⟨d, b3, e1, e2, ⟨h0, cur, h3, h4⟩, h5⟩
  · subst e1; subst e2; subst e3; subst e4
    have e : n = 0 := hl
    subst e
    exact ⟨[], [], World.ownsRow_nil w base _ _, rfl, .inl ⟨rfl, rfl, rfl⟩⟩
  · subst e1; subst e2
    obtain ⟨vs, hc, ho⟩ := OwnR.cells h5
    have hvl := ho.length
    refine ⟨vs, b3, ⟨by rw [hvl, hl], .inr ⟨d, c, cur, rfl, h0, h3, hn, hm, h4, ?_⟩⟩, ho, .inr ⟨d, rfl, rfl⟩⟩
    have hle : n * 2 ≤ c * 2 := Nat.mul_le_mul_right _ hn
    apply List.ext_getElem?
    intro j
    by_cases hj : j < n * 2
    · rw [List.getElem?_take_of_lt hj, Array.getElem?_toList]
      have hj2 : j < vs.length := by rw [hvl, ← hl]; exact hj
      rw [List.getElem?_eq_getElem hj2]
      have := hc j _ (List.getElem?_eq_getElem hj2)
      rw [Nat.zero_add, cell_of_row w d j cur _ _ h3] at this
      exact this
    · rw [List.getElem?_eq_none (by rw [List.length_take]; omega), List.getElem?_eq_none (by rw [hvl, ← hl]; omega)]
/-- And back. -/
theorem OwnL.of_slice {w : World} {base n c : Nat} {A : Option Addr} {t : Tr} {vs : List Value} {rest : List Nat} (ho : w.ownsRow base 51 2 (.slice A n c) n vs) (hc : OwnC w base vs t rest) :
    ∃ bs, OwnL w base A n c t bs ∧ ((A = none ∧ bs = [] ∧ rest = []) ∨ ∃ d, A = some ⟨d, 0, none⟩ ∧ bs = d :: rest) := by
  have hvl := hc.length
  have h1 := ho.1
  have hn : n = t.len := by omega
  rcases ho.2 with ⟨e1, e2⟩ | ⟨g, cap, cur, e1, hg, hh, hcap, hmx, hsz, htk⟩
  · injection e1 with a1 a2 a3
    subst a1; subst a3
    cases t with
    | nil =>
      cases vs with
      | nil =>
        have e : rest = [] := hc
        exact ⟨[], ⟨hn, .inl ⟨rfl, rfl, rfl, rfl⟩⟩, .inl ⟨rfl, rfl, e⟩⟩
      | cons v vs => simp [Tr.len] at hvl
    | cons s k r => simp [Tr.len] at hn; omega
  · injection e1 with a1 a2 a3
    subst a1; subst a3
    refine ⟨g :: rest, ⟨hn, .inr ⟨g, rest, rfl, rfl, ⟨hg, cur, hh, hsz⟩, hc.row fun j u hu => ?_⟩⟩, .inr ⟨g, rfl, rfl⟩⟩
    have := rowCells ho j u hu
    rw [Addr.add_lit] at this
    exact this
end Go.Proofs.Ytchoipmfngcdoaa.Pt
namespace Go.Proofs.Ytchoipmfngcdoaa.Pt
open Go.RowKit Go.Proofs.Ytchoipmfngcdoaa.Cl
set_option maxRecDepth 100000

/-- Block pb lies as it lay but for its cell po. -/
def Same1 (W w' : World) (pb po : Nat) : Prop :=
  ∀ cur E, W.heap[pb]? = some (.cells cur E (0, 0)) → ∃ cur', w'.heap[pb]? = some (.cells cur' E (0, 0)) ∧ cur'.size = cur.size ∧ ∀ q, q ≠ po → cur'[q]? = cur[q]?
theorem Same1.of_eq {W w' : World} {pb po : Nat} (h : w'.heap[pb]? = W.heap[pb]?) : Same1 W w' pb po := fun cur _ hc => ⟨cur, h.trans hc, rfl, fun _ _ => rfl⟩
theorem Same1.trans {W w' w'' : World} {pb po : Nat} (h : Same1 W w' pb po) (k : Same1 w' w'' pb po) : Same1 W w'' pb po := fun cur E hc => by
  obtain ⟨c1, h1, h2, h3⟩ := h cur E hc
  obtain ⟨c2, k1, k2, k3⟩ := k c1 E h1
  exact ⟨c2, k1, k2.trans h2, fun q hq => (k3 q hq).trans (h3 q hq)⟩
theorem Same1.set (W : World) (pb po : Nat) (v : Value) : Same1 W (W.setCell ⟨pb, po, none⟩ v) pb po := fun cur E hc =>
  ⟨_, heap_setCell_same W pb po cur E v hc, by simp, fun q hq => Array.getElem?_setIfInBounds_ne (fun e => hq e.symm)⟩
theorem Same1.cell {W w' : World} {pb po : Nat} (h : Same1 W w' pb po) {cur : Array Value} {E : TypeId} (hc : W.heap[pb]? = some (.cells cur E (0, 0))) {q : Nat} (hq : q ≠ po) : w'.cell? ⟨pb, q, none⟩ = W.cell? ⟨pb, q, none⟩ := by
  obtain ⟨c1, h1, _, h3⟩ := h cur E hc
  rw [cell_of_row _ _ _ _ _ _ h1, cell_of_row _ _ _ _ _ _ hc, h3 q hq]

structure Hole (W : World) (base g pb po : Nat) (A : Option Addr) (n c : Nat) (u : Tr) (b1 S : List Nat) (whole : Tr → Tr) : Prop where
  blk : ∃ cur E, W.heap[pb]? = some (.cells cur E (0, 0))
  at_ : W.cell? ⟨pb, po, none⟩ = some (.slice A n c)
  cap : n ≤ c ∧ c ≤ maxLen
  own : OwnL W base A n c u b1
  nodup : (pb :: (b1 ++ S)).Nodup
  le : base ≤ pb ∧ (∀ d ∈ S, d < W.heap.size) ∧ base ≤ W.heap.size
  back : ∀ (w' : World) (A2 : Option Addr) (n2 c2 : Nat) (u2 : Tr) (b2 : List Nat), Same1 W w' pb po → w'.cell? ⟨pb, po, none⟩ = some (.slice A2 n2 c2) → n2 ≤ c2 → c2 ≤ maxLen → OwnL w' base A2 n2 c2 u2 b2 → (∀ d ∈ S, w'.heap[d]? = W.heap[d]?) →
    ∃ A3 n3 c3 b3, w'.cell? ⟨g, 0, none⟩ = some (.slice A3 n3 c3) ∧ n3 ≤ c3 ∧ c3 ≤ maxLen ∧ OwnL w' base A3 n3 c3 (whole u2) b3

section
variable {W w' w1 : World} {base g pb po n c : Nat} {A : Option Addr} {u : Tr} {b1 S : List Nat} {whole : Tr → Tr}
theorem Hole.lt (h : Hole W base g pb po A n c u b1 S whole) : pb < W.heap.size := by
  obtain ⟨cur, E, hc⟩ := h.blk
  exact (Array.getElem?_eq_some_iff.1 hc).1
theorem Hole.rows (h : Hole W base g pb po A n c u b1 S whole) : ∀ d ∈ b1, d < W.heap.size := fun d hd => (h.own.rows d hd).lt
theorem Hole.fro (h : Hole W base g pb po A n c u b1 S whole) : W.frozen? ⟨pb, po, none⟩ = false := by
  obtain ⟨cur, E, hc⟩ := h.blk
  simp [World.frozen?, hc]
theorem Hole.holds (h : Hole W base g pb po A n c u b1 S whole) : Holds W W.heap.size A n u := h.own.holds h.rows
theorem Hole.same (h : Hole W base g pb po A n c u b1 S whole) (hk : ∀ d, d < W.heap.size → w'.heap[d]? = W.heap[d]?) (hsz : W.heap.size ≤ w'.heap.size) : Hole w' base g pb po A n c u b1 S whole := by
  have hpb := hk pb h.lt
  obtain ⟨cur, E, hc⟩ := h.blk
  refine ⟨⟨cur, E, hpb.trans hc⟩, (World.cell?_of_block hpb).trans h.at_, h.cap, h.own.keep fun d hd => hk d (h.rows d hd), h.nodup, ⟨h.le.1, fun d hd => Nat.lt_of_lt_of_le (h.le.2.1 d hd) hsz, Nat.le_trans h.le.2.2 hsz⟩, ?_⟩
  intro w2 A2 n2 c2 u2 b2 h1 h2 h3 h4 h5 h6
  exact h.back w2 A2 n2 c2 u2 b2 ((Same1.of_eq hpb).trans h1) h2 h3 h4 h5 (fun d hd => (h6 d hd).trans (hk d (h.le.2.1 d hd)))
theorem Hole.below (h : Hole W base g pb po A n c u b1 S whole) (hb : Below W.heap.size W w') : Hole w' base g pb po A n c u b1 S whole := h.same (fun d hd => hb.block d hd) hb.size
theorem Hole.drewN (h : Hole W base g pb po A n c u b1 S whole) (q : Nat) : Hole (W.drewN q) base g pb po A n c u b1 S whole := h.same (fun _ _ => rfl) (Nat.le_refl _)

/-- The row that lies there gives way to another one. -/
theorem Hole.repl (h : Hole W base g pb po A n c u b1 S whole) {ws : List Value} {rest rest' : List Nat} {m c2 : Nat} {A2 : Option Addr} {u2 : Tr} (hb1 : (A = none ∧ b1 = [] ∧ rest = []) ∨ ∃ d, A = some ⟨d, 0, none⟩ ∧ b1 = d :: rest)
    (hsub : ∀ d ∈ rest', d ∈ rest) (hnd : rest'.Nodup) (ho : w1.ownsRow base 51 2 (.slice A2 m c2) m ws) (hc : OwnC W base ws u2 rest') (hg : W.grownBy w1 (Value.slice A n c).ownBlock)
    (hat : ∀ a, A2 = some a → W.heap.size ≤ a.block ∨ some a.block = (Value.slice A n c).ownBlock) :
    w1.cell? ⟨pb, po, none⟩ = some (.slice A n c) ∧ w1.frozen? ⟨pb, po, none⟩ = false ∧ ∃ b2, Hole (w1.setCell ⟨pb, po, none⟩ (.slice A2 m c2)) base g pb po A2 m c2 u2 b2 S whole := by
  obtain ⟨cur, E, hpb⟩ := h.blk
  have hnd0 := h.nodup
  rw [List.nodup_cons, List.nodup_append] at hnd0
  obtain ⟨hn1, hn2, hn3, hn4⟩ := hnd0
  have hpb1 : pb ∉ b1 := fun e => hn1 (List.mem_append.2 (.inl e))
  have hpbS : pb ∉ S := fun e => hn1 (List.mem_append.2 (.inr e))
  have hrest : ∀ d ∈ rest, d ∈ b1 ∧ some d ≠ (Value.slice A n c).ownBlock := by
    intro d hd
    rcases hb1 with ⟨_, _, e⟩ | ⟨d0, e1, e2⟩
    · rw [e] at hd; cases hd
    · subst e1
      rw [e2, List.nodup_cons] at hn2
      exact ⟨by rw [e2]; exact List.mem_cons_of_mem _ hd, fun e => by injection e with e; subst e; exact hn2.1 hd⟩
  have hownA : ∀ q, (Value.slice A n c).ownBlock = some q → q ∈ b1 := by
    intro q hq
    rcases hb1 with ⟨e1, _, _⟩ | ⟨d0, e1, e2⟩
    · rw [e1] at hq; cases hq
    · rw [e1] at hq
      injection hq with hq
      simp only at hq
      rw [e2, ← hq]
      exact List.mem_cons_self
  have hpbo : some pb ≠ (Value.slice A n c).ownBlock := fun e => hpb1 (hownA pb e.symm)
  have hpbw : w1.heap[pb]? = W.heap[pb]? := hg.block pb h.lt hpbo
  have hA2 : (Value.slice A2 m c2).ownBlock ≠ some pb := by
    intro e
    cases A2 with
    | none => cases e
    | some a =>
      have e : some a.block = some pb := e
      rcases hat a rfl with h1 | h1
      · injection e with e
        have := h.lt
        omega
      · rw [e] at h1
        exact hpbo h1
  have hkeep : ∀ d, d < W.heap.size → d ≠ pb → some d ≠ (Value.slice A n c).ownBlock → (w1.setCell ⟨pb, po, none⟩ (.slice A2 m c2)).heap[d]? = W.heap[d]? := fun d h1 h2 h3 =>
    (Below.heap_setCell w1 ⟨pb, po, none⟩ _ d h2).trans (hg.block d h1 h3)
  have hcw : OwnC (w1.setCell ⟨pb, po, none⟩ (.slice A2 m c2)) base ws u2 rest' := hc.keep fun d hd => hkeep d (h.rows d (hrest d (hsub d hd)).1) (fun e => hpb1 (e ▸ (hrest d (hsub d hd)).1)) (hrest d (hsub d hd)).2
  have how := ownsRow_setCell_other ho (a := ⟨pb, po, none⟩) hA2 (.slice A2 m c2)
  obtain ⟨b2, hown, hb2⟩ := OwnL.of_slice how hcw
  have hcap := own_cap how
  have hSk : ∀ d ∈ S, (w1.setCell ⟨pb, po, none⟩ (.slice A2 m c2)).heap[d]? = W.heap[d]? := fun d hd =>
    hkeep d (h.le.2.1 d hd) (fun e => hpbS (e ▸ hd)) (fun e => hn4 d (hownA d e.symm) d hd rfl)
  have hsz : W.heap.size ≤ (w1.setCell ⟨pb, po, none⟩ (.slice A2 m c2)).heap.size := by simp [World.setCell]; exact hg.size
  have hs1 : Same1 W (w1.setCell ⟨pb, po, none⟩ (.slice A2 m c2)) pb po := (Same1.of_eq hpbw).trans (Same1.set w1 pb po _)
  have hnew : ∀ d0, A2 = some ⟨d0, 0, none⟩ → d0 ∉ rest' ∧ d0 ∉ S ∧ d0 ≠ pb := by
    intro d0 e
    rcases hat _ e with h1 | h1
    · simp only at h1
      refine ⟨fun hd => ?_, fun hd => ?_, fun hd => ?_⟩
      · have := h.rows d0 (hrest d0 (hsub d0 hd)).1; omega
      · have := h.le.2.1 d0 hd; omega
      · have := h.lt; omega
    · simp only at h1
      exact ⟨fun hd => (hrest d0 (hsub d0 hd)).2 h1, fun hd => hn4 d0 (hownA d0 h1.symm) d0 hd rfl, fun hd => by subst hd; exact hpbo h1⟩
  refine ⟨(World.cell?_of_block hpbw).trans h.at_, by simp [World.frozen?, hpbw, hpb], b2, ⟨⟨_, E, heap_setCell_same w1 pb po cur E _ (hpbw.trans hpb)⟩, ?_, hcap, hown, ?_, ⟨h.le.1, fun d hd => Nat.lt_of_lt_of_le (h.le.2.1 d hd) hsz, Nat.le_trans h.le.2.2 hsz⟩, ?_⟩⟩
  · rw [cell_of_row _ _ _ _ _ _ (heap_setCell_same w1 pb po cur E _ (hpbw.trans hpb))]
    have := h.at_
    rw [cell_of_row _ _ _ _ _ _ hpb] at this
    have hl : po < cur.size := (Array.getElem?_eq_some_iff.1 this).1
    simp [hl]
  · rw [List.nodup_cons, List.nodup_append]
    have hr1 : ∀ d ∈ rest', d ≠ pb := fun d hd e => hpb1 (e ▸ (hrest d (hsub d hd)).1)
    have hr2 : ∀ d ∈ rest', d ∉ S := fun d hd e => hn4 d (hrest d (hsub d hd)).1 d e rfl
    rcases hb2 with ⟨_, e, e2⟩ | ⟨d0, e1, e2⟩
    · rw [e]
      exact ⟨fun hd => hpbS (by simpa using hd), List.nodup_nil, hn3, fun _ hd => by cases hd⟩
    · obtain ⟨x1, x2, x3⟩ := hnew d0 e1
      rw [e2]
      refine ⟨fun hd => ?_, List.nodup_cons.2 ⟨x1, hnd⟩, hn3, fun a ha b hb e => ?_⟩
      · rcases List.mem_append.1 hd with hd | hd
        · rcases List.mem_cons.1 hd with hd | hd
          · exact x3 hd.symm
          · exact hr1 pb hd rfl
        · exact hpbS hd
      · subst e
        rcases List.mem_cons.1 ha with hd | hd
        · subst hd; exact x2 hb
        · exact hr2 a hd hb
  · intro w2 A3 n3 c3 u3 b3 h1 h2 h3 h4 h5 h6
    exact h.back w2 A3 n3 c3 u3 b3 (hs1.trans h1) h2 h3 h4 h5 (fun d hd => (h6 d hd).trans (hSk d hd))

/-- One level down. -/
theorem Hole.down (h : Hole W base g pb po A n c u b1 S whole) {i : Nat} {s : ByteArray} {k r : Tr} (hd : u.dropT i = .cons s k r) :
    ∃ d A' n' c' b2 S', A = some ⟨d, 0, none⟩ ∧ Hole W base g d (i * 2 + 1) A' n' c' k b2 S' (fun k2 => whole (setT u i k2)) := by
  rcases h.own.2 with ⟨_, _, _, e⟩ | ⟨d, b3, e1, e2, hrc, hr⟩
  · subst e
    cases i <;> simp [Tr.dropT] at hd
  · subst e1; subst e2
    obtain ⟨A', n', c', x, b2, y, e, _, hc, hn, hm, ho, hrec⟩ := hr.at_ hd
    subst e
    rw [Nat.zero_add] at hc hrec
    have hrc0 := hrc
    obtain ⟨hbd, cur, hcur, hcs⟩ := hrc
    have hnd := h.nodup
    have hperm : (pb :: ((d :: (x ++ b2 ++ y)) ++ S)).Perm (d :: (b2 ++ (pb :: (x ++ y ++ S)))) := by
      apply List.perm_iff_count.2
      intro a
      simp only [List.count_cons, List.count_append]
      omega
    have hnd2 := hperm.nodup_iff.1 hnd
    have hlt : ∀ q ∈ x ++ y, q < W.heap.size := fun q hq => h.rows q (by
      rcases List.mem_append.1 hq with hq | hq
      · simp [hq]
      · simp [hq])
    refine ⟨d, A', n', c', b2, pb :: (x ++ y ++ S), rfl, ⟨⟨cur, _, hcur⟩, hc, ⟨hn, hm⟩, ho, hnd2, ⟨hbd, fun q hq => ?_, h.le.2.2⟩, ?_⟩⟩
    · rcases List.mem_cons.1 hq with rfl | hq
      · exact h.lt
      · rcases List.mem_append.1 hq with hq | hq
        · exact hlt q hq
        · exact h.le.2.1 q hq
    · intro w2 A3 n3 c3 u3 b3 h1 h2 h3 h4 h5 h6
      have hpbw := h6 pb (by simp)
      have hR : OwnR w2 base d 0 (setT u i u3) (x ++ b3 ++ y) := hrec w2 A3 n3 c3 u3 b3 h2 h3 h4 h5 (fun q hq => h1.cell hcur hq) (fun q hq => h6 q (by
        rcases List.mem_append.1 hq with hq | hq
        · simp [hq]
        · simp [hq]))
      obtain ⟨cur', hcur', hcs', _⟩ := h1 cur _ hcur
      have hL : OwnL w2 base (some ⟨d, 0, none⟩) n c (setT u i u3) (d :: (x ++ b3 ++ y)) := ⟨by rw [setT_len]; exact h.own.1, .inr ⟨d, _, rfl, rfl, ⟨hbd, cur', hcur', by rw [hcs', hcs]⟩, hR⟩⟩
      exact h.back w2 _ n c _ _ (Same1.of_eq hpbw) ((World.cell?_of_block hpbw).trans h.at_) h.cap.1 h.cap.2 hL (fun q hq => h6 q (by simp [hq]))

/-- Another tree, in rows of its own, put there. -/
theorem Hole.fin (h : Hole W base g pb po A n c u b1 S whole) {nx cx : Nat} {Ax : Option Addr} {x : Tr} {bx : List Nat} (hb : Below W.heap.size W w1) (hx : OwnL w1 W.heap.size Ax nx cx x bx) (hn : nx ≤ cx) (hm : cx ≤ maxLen) :
    ∃ A3 n3 c3 b3, (w1.setCell ⟨pb, po, none⟩ (.slice Ax nx cx)).cell? ⟨g, 0, none⟩ = some (.slice A3 n3 c3) ∧ n3 ≤ c3 ∧ c3 ≤ maxLen ∧ OwnL (w1.setCell ⟨pb, po, none⟩ (.slice Ax nx cx)) base A3 n3 c3 (whole x) b3 := by
  obtain ⟨cur, E, hpb⟩ := h.blk
  have hpbw : w1.heap[pb]? = W.heap[pb]? := hb.block pb h.lt
  have hpbS : pb ∉ S := fun e => (List.nodup_cons.1 h.nodup).1 (List.mem_append.2 (.inr e))
  refine h.back _ Ax nx cx x bx ((Same1.of_eq hpbw).trans (Same1.set w1 pb po _)) ?_ hn hm ?_ (fun d hd => ?_)
  · rw [cell_of_row _ _ _ _ _ _ (heap_setCell_same w1 pb po cur E _ (hpbw.trans hpb))]
    have := h.at_
    rw [cell_of_row _ _ _ _ _ _ hpb] at this
    have hl : po < cur.size := (Array.getElem?_eq_some_iff.1 this).1
    simp [hl]
  · refine Cl.OwnL.keep (OwnL.less hx h.le.2.2) fun d hd => Below.heap_setCell w1 ⟨pb, po, none⟩ _ d (fun e => ?_)
    have h1 : W.heap.size ≤ d := (hx.rows d hd).1
    have h2 := h.lt
    simp only at e
    omega
  · exact (Below.heap_setCell w1 ⟨pb, po, none⟩ _ d (fun e => hpbS (by simp only at e; exact e ▸ hd))).trans (hb.block d (h.le.2.1 d hd))
/-- The whole as it stands. -/
theorem Hole.all (h : Hole W base g pb po A n c u b1 S whole) : ∃ A3 n3 c3 b3, W.cell? ⟨g, 0, none⟩ = some (.slice A3 n3 c3) ∧ n3 ≤ c3 ∧ c3 ≤ maxLen ∧ OwnL W base A3 n3 c3 (whole u) b3 :=
  h.back W A n c u b1 (Same1.of_eq rfl) h.at_ h.cap.1 h.cap.2 h.own (fun _ _ => rfl)
end
/-- At its root. -/
theorem Hole.start {w : World} {base n c : Nat} {A : Option Addr} {t : Tr} {bs : List Nat} (h : OwnL w base A n c t bs) (hn : n ≤ c) (hm : c ≤ maxLen) (hnd : bs.Nodup) (hb : base ≤ w.heap.size) (E : TypeId) :
    Hole (w.alloc (.cells #[.slice A n c] E)) base w.heap.size w.heap.size 0 A n c t bs [] id := by
  have hlt : ∀ d ∈ bs, d < w.heap.size := fun d hd => (h.rows d hd).lt
  refine ⟨⟨_, _, heap_alloc_new w _⟩, by rw [cell_of_row _ _ _ _ _ _ (heap_alloc_new w _)]; rfl, ⟨hn, hm⟩, h.keep fun d hd => Below.heap_alloc w _ d (hlt d hd), ?_, ⟨hb, fun _ hd => (by cases hd), by simp; omega⟩, ?_⟩
  · rw [List.append_nil, List.nodup_cons]
    exact ⟨fun hd => by have := hlt _ hd; omega, hnd⟩
  · intro w' A2 n2 c2 u2 b2 _ h2 h3 h4 h5 _
    exact ⟨A2, n2, c2, b2, h2, h3, h4, h5⟩
end Go.Proofs.Ytchoipmfngcdoaa.Pt
namespace Go.Proofs.Ytchoipmfngcdoaa.Pt
open Go.RowKit Go.Proofs.Ytchoipmfngcdoaa.Cl
set_option maxRecDepth 100000

theorem below_undrew {w w' : World} {B : Nat} (h : Below B w.drew w') : Below B w w' := ⟨h.os, h.tape, h.output, h.size, h.block⟩

/-- A tree in memory that was not there before. -/
def NewP (w : World) (t : Tr) (e : Ending) (w' : World) : Prop :=
  ∃ A' n' c', e = .returned (.slice A' n' c') ∧ n' ≤ c' ∧ c' ≤ maxLen ∧ HoldsP w' (fun b => w.heap.size ≤ b ∧ b < w'.heap.size) A' n' t ∧ Below w.heap.size w w'
theorem own_new {w : World} {base n c : Nat} {A : Option Addr} {t : Tr} {bs : List Nat} (h : OwnL w base A n c t bs) : HoldsP w (fun b => base ≤ b ∧ b < w.heap.size) A n t :=
  OwnL.holdsP h fun d hd => ⟨(h.rows d hd).1, (h.rows d hd).lt⟩

structure PutI (w wr : World) (g pb po : Nat) (A : Option Addr) (n c : Nat) (t u x : Tr) (b1 S : List Nat) (whole : Tr → Tr) (ps rest : List ByteArray) : Prop where
  hole : Hole wr w.heap.size g pb po A n c u b1 S whole
  asc : AscD u
  size : u.size ≤ t.size
  eq : ∀ y, whole (putT u rest y) = putT t ps y
theorem PutI.len {w wr : World} {g pb po : Nat} {A : Option Addr} {n c : Nat} {t u x : Tr} {b1 S : List Nat} {whole : Tr → Tr} {ps rest : List ByteArray} (h : PutI w wr g pb po A n c t u x b1 S whole ps rest) : n ≤ t.size := by
  have := h.hole.own.1
  have := u.len_size
  have := h.size
  omega

theorem drop_lt {t : Tr} {i : Nat} {s : ByteArray} {k r : Tr} (h : t.dropT i = .cons s k r) : i < t.len := by
  rcases Nat.lt_or_ge i t.len with g | g
  · exact g
  · rw [drop_len t i g] at h; cases h
theorem PutI.down {w wr w2 : World} {g pb po : Nat} {A : Option Addr} {n c : Nat} {t u u2 x : Tr} {b1 S : List Nat} {whole : Tr → Tr} {ps : List ByteArray} {k i : Nat} {name : ByteArray} (h : PutI w wr g pb po A n c t u x b1 S whole ps (ps.drop k)) (hd : ps.drop k = name :: ps.drop (k + 1)) {A2 : Option Addr} {n2 c2 : Nat} {b2 : List Nat} (hH : Hole w2 w.heap.size g pb po A2 n2 c2 u2 b2 S whole)
    {r : Tr} (hu : u2.dropT i = .cons name (kidT u name) r) (hw : ∀ y, u.withT name y = setT u2 i y) :
    ∃ d A' n' c' b3 S', A2 = some ⟨d, 0, none⟩ ∧ PutI w w2 g d (i * 2 + 1) A' n' c' t (kidT u name) x b3 S' (fun k2 => whole (setT u2 i k2)) ps (ps.drop (k + 1)) := by
  obtain ⟨d, A', n', c', b3, S', e, h3⟩ := hH.down hu
  refine ⟨d, A', n', c', b3, S', e, h3, kidT_asc h.asc, Nat.le_trans (kidT_size u name) h.size, fun y => ?_⟩
  have := h.eq y
  rw [hd, putT, hw] at this
  exact this

end Go.Proofs.Ytchoipmfngcdoaa.Pt
namespace Go.Proofs.Ytchoipmfngcdoaa.Pt
open Go.RowKit Go.Proofs.Ytchoipmfngcdoaa.Cl
set_option maxRecDepth 100000

def GetP (w : World) (r : Tr × Bool) (e : Ending) (w' : World) : Prop :=
  ∃ A' n' c', e = .returned (.tuple #[.slice A' n' c', .bool r.2]) ∧ n' ≤ c' ∧ c' ≤ maxLen ∧ HoldsP w' (fun b => w.heap.size ≤ b ∧ b < w'.heap.size) A' n' r.1 ∧ Below w.heap.size w w'

set_option maxHeartbeats 2000000 in
theorem get_any (t : Tr) (ps : List ByteArray) (A Ap : Option Addr) (n c np cp : Nat) (w : World) (ht : Holds w w.heap.size A n t) (hp : SeesV w w.heap.size Ap np (ps.map Value.string)) (ha : AscD t) (hz : t.size ≤ 274877906944) (hps : ps.length ≤ 1000000) :
    Calls Try.prog 61 #[.slice A n c, .slice Ap np cp] w (GetP w (getT t ps)) := by
  have hnp : np ≤ 1000000 := by have := hp.len; rw [List.length_map] at this; omega
  have Hnp := Lib.hid (show np = ps.length by have := hp.len; rwa [List.length_map] at this)
  obtain ⟨T, hT⟩ : ∃ T, T = getT t ps := ⟨_, rfl⟩
  rw [← hT]
  have HI0 := Lib.hid (show Holds w w.heap.size A n t ∧ AscD t ∧ t.size ≤ 274877906944 ∧ getT t ps = T from ⟨ht, ha, hz, hT.symm⟩)
  clear ht hT ha hz
  go_enter Try.func61, Try.ntmps61
  go_wp2_with fail
  go_loopw [0, 12] (fun a i wr => ∃ (k : Nat) (Au : Option Addr) (nu cu : Nat) (u : Tr), k ≤ np ∧ a = .slice Au nu cu ∧ i = .int .i64 k ∧ Hid (Holds wr w.heap.size Au nu u ∧ AscD u ∧ u.size ≤ 274877906944 ∧ getT u (ps.drop k) = T) ∧ Below w.heap.size w wr) (fun _ i _ => np - (intOf i).toNat)
  case atStart => exact ⟨0, A, n, c, t, Nat.zero_le _, rfl, rfl, by rw [List.drop_zero]; exact HI0, Below.refl _ _⟩
  case round =>
    obtain ⟨k, Au, nu, cu, u, hk, rfl, rfl, HI, hbw⟩ := hrel
    have hsz := hbw.size
    by_cases hlt : k < np
    · obtain ⟨bp, op, rfl, hbp, hcp⟩ := hp.str hlt
      obtain ⟨name, hname⟩ : ∃ s, s = ps.getD k ⟨#[]⟩ := ⟨_, rfl⟩
      rw [← hname] at hcp
      have hdrop : ps.drop k = name :: ps.drop (k + 1) := by
        have hl : k < ps.length := by rw [← Hnp.out]; exact hlt
        rw [List.drop_eq_getElem_cons hl, hname, List.getD_eq_getElem?_getD, List.getElem?_eq_getElem hl]
        rfl
      have hcpw := (hbw.cell (p := ⟨bp, op + k, none⟩) hbp).trans hcp
      have hkn : (k : Int) < (np : Int) := by omega
      have hk0 : (0 : Int) ≤ (k : Int) := by omega
      have hul := HI.out.1.len
      have hus := u.len_size
      have hus2 := HI.out.2.2.1
      have hnu : nu ≤ 274877906944 := by omega
      have HF := Lib.hid (find_any u HI.out.2.1.asc Au nu cu w.heap.size name wr HI.out.1 hsz (by omega))
      have hle := atN_le name u
      obtain ⟨i, hi⟩ : ∃ i, i = u.atN name := ⟨_, rfl⟩
      obtain ⟨v, hv⟩ : ∃ v, v = u.atIs name := ⟨_, rfl⟩
      rw [← hi] at HF hle
      rw [← hv] at HF
      have hin : i ≤ nu := by omega
      have Hi := Lib.hid hi
      have Hdrop := Lib.hid hdrop
      have Hlt := Lib.hid hlt
      clear hname hdrop hcp hi hlt hle
      cases v with
      | true =>
        obtain ⟨_, ⟨r, hdr⟩, _⟩ := set_with (y := .nil) hv.symm
        rw [← Hi.out] at hdr
        have hilt := drop_lt hdr
        have hin2 : (i : Int) < (nu : Int) := by omega
        have hi0 : (0 : Int) ≤ (i : Int) := by omega
        have hin3 : i < nu := by omega
        have heq : getT (kidT u name) (ps.drop (k + 1)) = T := by
          have := HI.out.2.2.2
          rw [Hdrop.out, getT, if_pos hv.symm] at this
          exact this
        have Heq := Lib.hid heq
        have Hdr := Lib.hid hdr
        clear hv hdr hilt hul hus hus2 heq
        go_wp2_with fail
        refine HF.out.mono ?_
        rintro e w2 ⟨rfl, hb2⟩
        obtain ⟨b, o, s, kt, r', A', n', c', e, hb, hs, hcl, hn', hc', hk', hr, hd, hd2⟩ := (HI.out.1.below hb2).split i hin3
        subst e
        have hd := hd
        rw [Hdr.out] at hd
        injection hd with hd1 hd2 hd3
        subst hd1; subst hd2
        have hkid := Lib.hid (show Holds w2 w.heap.size A' n' (kidT u name) ∧ AscD (kidT u name) ∧ (kidT u name).size ≤ 274877906944 ∧ getT (kidT u name) (ps.drop (k + 1)) = T from ⟨hk', kidT_asc HI.out.2.1, Nat.le_trans (kidT_size u name) HI.out.2.2.1, Heq.out⟩)
        clear hk' hr hd3 hs
        go_wp2_with fail
        go_roundw
        case rel => exact ⟨k + 1, A', n', c', _, Hlt.out, rfl, by go_num, hkid, hbw.trans hb2⟩
        case measure => have := Hlt.out; simp [intOf]; omega
      | false =>
        have heq : (Tr.nil, false) = T := by
          have := HI.out.2.2.2
          rw [Hdrop.out, getT, if_neg (by rw [← hv]; simp)] at this
          exact this
        have Heq := Lib.hid heq
        clear hv hul hus hus2 heq
        go_wp2_with fail
        refine HF.out.mono ?_
        rintro e w2 ⟨rfl, hb2⟩
        go_wp2_with fail
        go_ret2
        exact ⟨none, 0, 0, by rw [← Heq.out]; rfl, Nat.le_refl _, Nat.zero_le _, by rw [← Heq.out]; rfl, hbw.trans hb2⟩
    · obtain rfl : k = np := by omega
      have hnil : ps.drop k = [] := List.drop_eq_nil_of_le (by rw [Hnp.out]; exact Nat.le_refl _)
      have heq : (u, true) = T := by
        have := HI.out.2.2.2
        rw [hnil, getT] at this
        exact this
      have HX := Lib.hid (clone_rows u Au nu cu wr (HI.out.1.more hsz) (by have := HI.out.2.2.1; omega))
      have Heq := Lib.hid heq
      clear hnil hlt hp heq
      go_wp2_with fail
      (with_reducible refine HX.out.mono ?_)
      rintro e w5 ⟨A5, c5, b5, rfl, hn5, hm5, ho5, hnd5, hb5⟩
      go_wp2_with fail
      go_ret2
      exact ⟨A5, nu, c5, by rw [← Heq.out]; rfl, hn5, hm5, by rw [← Heq.out]; exact (own_new ho5).more (fun b hb => ⟨Nat.le_trans hsz hb.1, hb.2⟩), hbw.trans (hb5.mono hsz)⟩
end Go.Proofs.Ytchoipmfngcdoaa.Pt
