/- Words of one's own for memory: a slice that reads as bytes, seen from below a block; what string() makes of it; append of it onto a row of the call's own. No conditions. · Trees: what they are, and how they lie in memory. No conditions. · The last step of each law of this seat: a call that returns true and leaves all that lay in memory as it was meets the law's specification. No conditions. · Arguments opened: a slice of bytes. · Count, Few: how many raw edges there are, no more than so many counted. Conditions: a slice is no longer than a slice can be. · At, Kid of the reference: where a name's edge stands, or would. Conditions: fewer edges than 2^47. · A row of bytes of the call's own, and append of bytes onto it: from a slice, from a text, from make; at an operation of the walk. No conditions but that lengths stay below 2^46. · append onto a row of the call's own, elements of any number of cells, whatever the source; at an operation of the walk, plain or inside a fence. Conditions: lengths below 2^40, elements of at most 64 bytes. -/
import Derived.Test.YtchoipmfngcdoaaRows
import Derived.WalkKit
import Derived.WalkSpells
import Derived.WalkLawsBesides
import Derived.Deep.AppendLies
import Derived.Deep.Draws
import Derived.Maps.AppendAt
import Derived.Lib.Hide
import Derived.Lib.SliceRun
import Derived.Lib.AppendZerosOnto
import Derived.ProofKit
import Derived.LoopTactic
import Derived.Deep.QuietTactic
import Derived.BigQuiet
import Derived.Deep.AppendSrc
import Derived.OwnWalkIn
namespace Go.Proofs.Ytchoipmfngcdoaa
open Go.RowKit

/-- A byte as a cell; bytes as cells. -/
def byt (u : UInt8) : Value := .int .u8 (u.toNat : Int)
def byts (l : List UInt8) : List Value := l.map byt

theorem byts_length (l : List UInt8) : (byts l).length = l.length := by simp [byts]
theorem byts_append (a b : List UInt8) : byts (a ++ b) = byts a ++ byts b := by simp [byts]
theorem byts_one (l : List UInt8) : ∀ u ∈ byts l, u.oneCell' = true := by
  intro u hu
  simp only [byts, List.mem_map] at hu
  obtain ⟨b, _, rfl⟩ := hu
  rfl
theorem byts_get {l : List UInt8} {j : Nat} {u : Value} (h : (byts l)[j]? = some u) : ∃ b, l[j]? = some b ∧ u = byt b := by
  simp only [byts, List.getElem?_map, Option.map_eq_some_iff] at h
  obtain ⟨b, hb, rfl⟩ := h
  exact ⟨b, hb, rfl⟩

theorem addr_block (a : Addr) (j : Nat) : (a.add j).block = a.block := by
  unfold Addr.add
  split <;> rfl
theorem addr_add (a : Addr) (i j : Nat) : (a.add i).add j = a.add (i + j) := by
  unfold Addr.add
  by_cases hi : i = 0
  · subst hi; simp
  · by_cases hj : j = 0
    · subst hj; simp
    · simp [hi, hj, Nat.add_assoc]

/-- The slice with address A and n elements reads the bytes l; where there are some they lie in a block below B. -/
structure Sees (w : World) (B : Nat) (A : Option Addr) (n : Nat) (l : List UInt8) : Prop where
  len : n = l.length
  cell : ∀ (j : Nat) (u : UInt8), l[j]? = some u → ∃ a : Addr, A = some a ∧ a.block < B ∧ w.cell? (a.add j) = some (byt u)

section
variable {w w' : World} {B B' n : Nat} {A : Option Addr} {l : List UInt8}

theorem Sees.none_ (w : World) (B : Nat) (A : Option Addr) : Sees w B A 0 [] := ⟨rfl, fun j u h => by simp at h⟩
theorem Sees.keep (h : Sees w B A n l) (hk : ∀ p : Addr, p.block < B → w'.cell? p = w.cell? p) : Sees w' B A n l :=
  ⟨h.len, fun j u hu => by
    obtain ⟨a, ha, hb, hc⟩ := h.cell j u hu
    exact ⟨a, ha, hb, (hk _ (by rw [addr_block]; exact hb)).trans hc⟩⟩
theorem Sees.more (h : Sees w B A n l) (hB : B ≤ B') : Sees w B' A n l :=
  ⟨h.len, fun j u hu => by
    obtain ⟨a, ha, hb, hc⟩ := h.cell j u hu
    exact ⟨a, ha, Nat.lt_of_lt_of_le hb hB, hc⟩⟩
theorem Sees.below (h : Sees w B A n l) (hb : Below B w w') : Sees w' B A n l := h.keep fun _ hp => hb.cell hp
theorem Sees.drew (h : Sees w B A n l) : Sees w.drew B A n l := h.keep fun _ _ => rfl
theorem Sees.drewN (h : Sees w B A n l) (k : Nat) : Sees (w.drewN k) B A n l := h.keep fun _ _ => rfl
theorem Sees.alloc (h : Sees w B A n l) (hB : B ≤ w.heap.size) (o : Obj) : Sees (w.alloc o) B A n l :=
  h.keep fun p hp => World.cell?_alloc_lt w o p (Nat.lt_of_lt_of_le hp hB)
theorem Sees.setCell (h : Sees w B A n l) {p : Addr} (hB : B ≤ p.block) (u : Value) : Sees (w.setCell p u) B A n l :=
  h.keep fun q hq => World.cell?_setCell_other w p q u (fun e => by subst e; omega)
theorem Sees.grown (h : Sees w B A n l) {row : Option Nat} (hg : w.grownBy w' row) (hB : B ≤ w.heap.size) (hr : ∀ g, row = some g → B ≤ g) : Sees w' B A n l :=
  h.keep fun p hp => World.cell?_of_block (hg.block p.block (Nat.lt_of_lt_of_le hp hB) (fun e => by have := hr _ e.symm; omega))

/-- All bytes at one address. -/
theorem Sees.cells {a : Addr} (h : Sees w B (some a) n l) : ∀ j u, (byts l)[j]? = some u → w.cell? (a.add j) = some u := by
  intro j u hu
  obtain ⟨b, hb, rfl⟩ := byts_get hu
  obtain ⟨a', ha, _, hc⟩ := h.cell j b hb
  cases ha
  exact hc
theorem Sees.empty (h : Sees w B none n l) : l = [] ∧ n = 0 := by
  have : l = [] := by
    cases l with
    | nil => rfl
    | cons x xs =>
      obtain ⟨a, ha, _⟩ := h.cell 0 x rfl
      cases ha
  subst this
  exact ⟨rfl, h.len⟩
theorem Sees.at_ (h : Sees w B A n l) {j : Nat} (hj : j < n) : ∃ a : Addr, A = some a ∧ a.block < B ∧ w.cell? (a.add j) = some (.int .u8 (((l.getD j 0).toNat : Nat) : Int)) := by
  have hl : j < l.length := by rw [← h.len]; exact hj
  obtain ⟨a, ha, hb, hc⟩ := h.cell j l[j] (List.getElem?_eq_getElem hl)
  refine ⟨a, ha, hb, ?_⟩
  rw [hc]
  simp [byt, List.getD, List.getElem?_eq_getElem hl]

/-- Cut at its front. -/
theorem Sees.drop (h : Sees w B A n l) {k c : Nat} (hk : k ≤ n) (hc : n ≤ c) : Sees w B (if c = k then A else A.map (·.add k)) (n - k) (l.drop k) := by
  refine ⟨by rw [h.len, List.length_drop], fun j u hu => ?_⟩
  rw [List.getElem?_drop] at hu
  have hlt : k + j < l.length := by
    rcases Nat.lt_or_ge (k + j) l.length with g | g
    · exact g
    · rw [List.getElem?_eq_none g] at hu; cases hu
  obtain ⟨a, rfl, hb, hcell⟩ := h.cell _ u hu
  have hn := h.len
  rw [if_neg (by omega)]
  exact ⟨a.add k, rfl, by rw [addr_block]; exact hb, by rw [addr_add]; exact hcell⟩
/-- Cut at its end. -/
theorem Sees.take (h : Sees w B A n l) {k : Nat} (hk : k ≤ n) : Sees w B A k (l.take k) := by
  have hn := h.len
  refine ⟨by rw [List.length_take]; omega, fun j u hu => ?_⟩
  have hj : j < k := by
    rcases Nat.lt_or_ge j k with g | g
    · exact g
    · rw [List.getElem?_eq_none (by rw [List.length_take]; omega)] at hu; cases hu
  rw [List.getElem?_take_of_lt hj] at hu
  exact h.cell j u hu
theorem Sees.of_own {base c : Nat} {e : TypeId} (h : w.ownsRow base e 1 (.slice A n c) n (byts l)) : Sees w w.heap.size A n l := by
  have hl := h.1
  rw [byts_length] at hl
  refine ⟨by omega, fun j u hu => ?_⟩
  have hj : j < l.length := by
    rcases Nat.lt_or_ge j l.length with g | g
    · exact g
    · rw [List.getElem?_eq_none g] at hu; cases hu
  obtain ⟨g, cap, hv, _, hlt⟩ := h.form (by omega)
  injection hv with hA
  subst hA
  refine ⟨⟨g, 0, none⟩, rfl, hlt, h.cells (g := g) rfl j (byt u) ?_⟩
  rw [byts, List.getElem?_map, hu]
  rfl
end

/-- string(b). -/
theorem run_text {P : Program} {w : World} {B n c : Nat} {A : Option Addr} {l : List UInt8} (src dst e : TypeId) (hs : P.underlying src = some (.slice e)) (he : P.underlying e = some (.int .u8)) (hd : P.underlying dst = some .string)
    (h : Sees w B A n l) : (convert src dst (.slice A n c)).run P w = .ok (.string ⟨l.toArray⟩) w := by
  cases A with
  | none =>
    obtain ⟨rfl, rfl⟩ := h.empty
    rw [run_convert_bytes_string w src dst e none 0 c hs he hd]
    rfl
  | some a =>
    obtain rfl := h.len
    refine run_convert_bytes_back (P := P) w src dst e a c l hs he hd (fun j hj => ?_)
    exact h.cells j _ (by rw [byts, List.getElem?_map, List.getElem?_eq_getElem hj]; rfl)

end Go.Proofs.Ytchoipmfngcdoaa
namespace Go.Proofs.Ytchoipmfngcdoaa
open Go.RowKit

/-- Edges beside one another: none; or one, with what is below it, and the others. -/
inductive Tr where
  | nil
  | cons (name : ByteArray) (sub rest : Tr)

/-- How many edges stand beside each other; how many in all. -/
def Tr.len : Tr → Nat
  | .nil => 0
  | .cons _ _ r => r.len + 1
def Tr.size : Tr → Nat
  | .nil => 0
  | .cons _ k r => k.size + r.size + 1
def Tr.depth : Tr → Nat
  | .nil => 0
  | .cons _ k r => max (k.depth + 1) r.depth
/-- How many bytes its names have. -/
def Tr.bulk : Tr → Nat
  | .nil => 0
  | .cons s k r => s.size + k.bulk + r.bulk
/-- Without its first edges. -/
def Tr.dropT : Tr → Nat → Tr
  | t, 0 => t
  | .nil, _ + 1 => .nil
  | .cons _ _ r, i + 1 => r.dropT i
theorem dropT_zero (t : Tr) : t.dropT 0 = t := by cases t <;> rfl
theorem Tr.len_size (t : Tr) : t.len ≤ t.size := by
  induction t with
  | nil => exact Nat.le_refl _
  | cons s k r _ ih => simp only [Tr.len, Tr.size]; omega

/-- The slice with address A and n elements (of two cells: a string, a slice) reads as t, below block B. -/
def Holds (w : World) (B : Nat) : Option Addr → Nat → Tr → Prop
  | _, n, .nil => n = 0
  | A, n, .cons s k r => ∃ b o, A = some ⟨b, o, none⟩ ∧ b < B ∧ w.cell? ⟨b, o, none⟩ = some (.string s) ∧
      (∃ A' n' c', w.cell? ⟨b, o + 1, none⟩ = some (.slice A' n' c') ∧ n' ≤ c' ∧ c' ≤ maxLen ∧ Holds w B A' n' k) ∧ ∃ m, n = m + 1 ∧ Holds w B (some ⟨b, o + 2, none⟩) m r

section
variable {w w' : World} {B B' : Nat}
theorem Holds.keep (hk : ∀ p : Addr, p.block < B → w'.cell? p = w.cell? p) : ∀ {A : Option Addr} {n : Nat} {t : Tr}, Holds w B A n t → Holds w' B A n t
  | _, _, .nil, h => h
  | _, _, .cons _ _ _, ⟨b, o, e, hb, hs, ⟨A', n', c', hc, hn, hm, hk1⟩, m, hm1, hr⟩ =>
    ⟨b, o, e, hb, (hk _ hb).trans hs, ⟨A', n', c', (hk _ hb).trans hc, hn, hm, Holds.keep hk hk1⟩, m, hm1, Holds.keep hk hr⟩
theorem Holds.more (hB : B ≤ B') : ∀ {A : Option Addr} {n : Nat} {t : Tr}, Holds w B A n t → Holds w B' A n t
  | _, _, .nil, h => h
  | _, _, .cons _ _ _, ⟨b, o, e, hb, hs, ⟨A', n', c', hc, hn, hm, hk1⟩, m, hm1, hr⟩ =>
    ⟨b, o, e, Nat.lt_of_lt_of_le hb hB, hs, ⟨A', n', c', hc, hn, hm, Holds.more hB hk1⟩, m, hm1, Holds.more hB hr⟩
theorem Holds.below {A : Option Addr} {n : Nat} {t : Tr} (h : Holds w B A n t) (hb : Below B w w') : Holds w' B A n t := h.keep fun _ hp => hb.cell hp
theorem Holds.len : ∀ {A : Option Addr} {n : Nat} {t : Tr}, Holds w B A n t → n = t.len
  | _, _, .nil, h => h
  | _, _, .cons _ _ _, ⟨_, _, _, _, _, _, m, hm1, hr⟩ => by rw [hm1, Holds.len hr]; rfl
theorem Holds.none_ (w : World) (B : Nat) (A : Option Addr) : Holds w B A 0 .nil := rfl
/-- Cut at its front. -/
theorem Holds.tail {b o n c : Nat} {s : ByteArray} {k r : Tr} (h : Holds w B (some ⟨b, o, none⟩) (n + 1) (.cons s k r)) (hc : n + 1 ≤ c) : Holds w B (some (if c = 1 then ⟨b, o, none⟩ else ⟨b, o + 2, none⟩)) n r := by
  obtain ⟨b', o', e, hb, hs, _, m, hm, hr⟩ := h
  cases e
  obtain rfl : n = m := by omega
  by_cases h1 : c = 1
  · obtain rfl : n = 0 := by omega
    have : r = .nil := by
      cases r with
      | nil => rfl
      | cons _ _ _ =>
        obtain ⟨_, _, _, _, _, _, m, hm, _⟩ := hr
        omega
    subst this
    rfl
  · rw [if_neg h1]
    exact hr
end

/-- An edge as it is handed out: how deep, its name, what is below it (as a slice). -/
structure Handed where
  deep : Nat
  name : ByteArray
  at_ : Option Addr
  n : Nat
  c : Nat
def Handed.args (x : Handed) : Array Value := #[.int .i64 x.deep, .agg #[.string x.name, .slice x.at_ x.n x.c]]
/-- What is told of it whatever the memory. -/
def Handed.word (x : Handed) : Nat × ByteArray × Nat := (x.deep, x.name, x.n)
/-- All edges, each ahead of what is below it, in order. -/
def Tr.flat : Nat → Tr → List (Nat × ByteArray × Nat)
  | _, .nil => []
  | d, .cons s k r => (d, s, k.len) :: (k.flat (d + 1) ++ r.flat d)
theorem Tr.flat_length (t : Tr) : ∀ d, (t.flat d).length = t.size := by
  induction t with
  | nil => intro d; rfl
  | cons s k r ih1 ih2 => intro d; simp only [Tr.flat, Tr.size, List.length_cons, List.length_append, ih1, ih2]

/-- The edges as they lie in memory. -/
def Walks (w : World) (B : Nat) : Option Addr → Nat → Nat → Tr → List Handed → Prop
  | _, n, _, .nil, xs => xs = [] ∧ n = 0
  | A, n, d, .cons s k r, xs => ∃ b o A' n' c' ys zs, A = some ⟨b, o, none⟩ ∧ b < B ∧ w.cell? ⟨b, o, none⟩ = some (.string s) ∧ w.cell? ⟨b, o + 1, none⟩ = some (.slice A' n' c') ∧ n' ≤ c' ∧ c' ≤ maxLen ∧
      Walks w B A' n' (d + 1) k ys ∧ n' = k.len ∧ n = r.len + 1 ∧ Walks w B (some ⟨b, o + 2, none⟩) r.len d r zs ∧ xs = ⟨d, s, A', n', c'⟩ :: (ys ++ zs)
theorem Holds.walks {w : World} {B : Nat} : ∀ {A : Option Addr} {n : Nat} {t : Tr} (d : Nat), Holds w B A n t → ∃ xs, Walks w B A n d t xs
  | _, _, .nil, _, h => ⟨[], rfl, h⟩
  | _, _, .cons s k r, d, ⟨b, o, e, hb, hs, ⟨A', n', c', hc, hn, hm, hk1⟩, m, hm1, hr⟩ => by
    obtain ⟨ys, hy⟩ := hk1.walks (d + 1)
    obtain ⟨zs, hz⟩ := hr.walks d
    have h1 := hr.len
    subst h1
    exact ⟨_, b, o, A', n', c', ys, zs, e, hb, hs, hc, hn, hm, hy, hk1.len, hm1, hz, rfl⟩
theorem Walks.words {w : World} {B : Nat} : ∀ {A : Option Addr} {n d : Nat} {t : Tr} {xs : List Handed}, Walks w B A n d t xs → xs.map Handed.word = t.flat d
  | _, _, _, .nil, _, h => by rw [show _ = [] from h.1]; rfl
  | _, _, _, .cons s k r, _, ⟨b, o, A', n', c', ys, zs, e, hb, hs, hc, hn, hm, hy, hl, hl2, hz, hx⟩ => by
    rw [hx]
    simp only [List.map_cons, List.map_append, Tr.flat, hy.words, hz.words, Handed.word, hl]
theorem Walks.len {w : World} {B : Nat} : ∀ {A : Option Addr} {n d : Nat} {t : Tr} {xs : List Handed}, Walks w B A n d t xs → n = t.len
  | _, _, _, .nil, _, h => h.2
  | _, _, _, .cons _ _ _, _, ⟨_, _, _, _, _, _, _, _, _, _, _, _, _, _, _, hl2, _, _⟩ => by rw [hl2]; rfl
theorem Walks.keep {w w' : World} {B : Nat} (hk : ∀ p : Addr, p.block < B → w'.cell? p = w.cell? p) : ∀ {A : Option Addr} {n d : Nat} {t : Tr} {xs : List Handed}, Walks w B A n d t xs → Walks w' B A n d t xs
  | _, _, _, .nil, _, h => h
  | _, _, _, .cons _ _ _, _, ⟨b, o, A', n', c', ys, zs, e, hb, hs, hc, hn, hm, hy, hl, hl2, hz, hx⟩ =>
    ⟨b, o, A', n', c', ys, zs, e, hb, (hk _ hb).trans hs, (hk _ hb).trans hc, hn, hm, Walks.keep hk hy, hl, hl2, Walks.keep hk hz, hx⟩
end Go.Proofs.Ytchoipmfngcdoaa
namespace Go.Proofs.Ytchoipmfngcdoaa
open Go.ChangeShapes Go.WideShapes Go.ChangeAt Go.RowKit

theorem own_ : ownKnob Try.prog.godebug = none := by kernel_rfl
theorem laidOut_ : laidOutB Try.prog = true := by kernel_rfl

section
variable {H : Type} {enc : TypeId × Value → H}

/-- Arguments read behind a call that wrote only new memory as they read ahead of it. -/
theorem trodAll_below {P : Program} (hl : laidOutB P = true) {W W' : World} (hb : Below W.heap.size W W') :
    ∀ (ts : List TypeId) (vs : List Value) (ds : List (DataW H)) (ps : List MemPlace), (∀ t ∈ ts, P.readableRec t = true ∧ t < P.types.size) → (∀ x ∈ ps, x.block < W.heap.size) →
      DataW.TrodAll enc P W 0 (fun _ => true) true ts vs ds ps → ∀ sp : Nat → Bool, (∀ p ∈ ps, sp p.block = true) → DataW.TrodAll enc P W' 0 sp true ts vs ds ps := by
  intro ts
  induction ts with
  | nil =>
    intro vs ds ps _ _ h sp _
    obtain ⟨rfl, rfl, rfl⟩ := trodAll_nil h
    exact trodAll_mk0
  | cons t ts ih =>
    intro vs ds ps ht hlt h sp hsp
    obtain ⟨v, vs1, d, ds1, p, q, rfl, rfl, rfl, h1, h2⟩ := trodAll_cons h
    have hp : ∀ x ∈ p, x.block < W.heap.size := fun x hx => hlt x (List.mem_append.2 (.inl hx))
    have hq : ∀ x ∈ q, x.block < W.heap.size := fun x hx => hlt x (List.mem_append.2 (.inr hx))
    exact ⟨p, q, WideElems.Trod_stays hl (ht t (by simp)).1 (ht t (by simp)).2 h1 (fun x hx => hb.same (hp x hx)) (fun x hx => hsp x (List.mem_append.2 (.inl hx))),
      ih vs1 ds1 q (fun t' ht' => ht t' (by simp [ht'])) hq h2 sp (fun x hx => hsp x (List.mem_append.2 (.inr hx))), rfl⟩

/-- A law's post: true, and nothing that lay in memory is another one. -/
theorem law_post {P : Program} {f : Func} {s : ChangeSpec} {W W' : World} {args : Array Value} {ds gs : List (DataW H)} {before : List MemPlace} {tb : TypeId} {again : Bool}
    (hl : laidOutB P = true) (hr : ∀ t ∈ f.params.toList, P.readableRec t = true ∧ t < P.types.size) (hrt : f.resultTypes = #[tb]) (htb : P.underlying tb = some .bool) (hv : s.vars = [])
    (hW : DataW.Whole enc P f.params.toList s.vars false W args.toList ds gs before) (hfn : s.fn H ds = { results := [.lit (.bool true)], args := ds }) (hb : Below W.heap.size W W') :
    s.post enc P f false true false again W args (.bool true) W' := by
  have hlt : ∀ p ∈ before, p.block < W.heap.size := fun p hp => hW.lt p hp
  have hW' := hW
  obtain ⟨p, q, hA, hV, rfl, hfz, hnd⟩ := hW
  rw [hv] at hV
  obtain ⟨rfl, rfl⟩ := trodVars_none hV
  have hargs := fun sp hsp => trodAll_below hl hb f.params.toList args.toList ds p hr (fun x hx => hlt x (List.mem_append.2 (.inl hx))) hA sp hsp
  have hres : ∀ (b : Nat) (sp : Nat → Bool) (hd : Bool), DataW.TrodAll enc P W' b sp hd f.resultTypes.toList ((Value.bool true).resultList f.resultTypes.size) (s.fn H (ds ++ [])).results [] := by
    intro b sp hd
    rw [List.append_nil, hfn, hrt]
    exact trodAll_mk1 (shut_bool htb true)
  have hs : (s.fn H (ds ++ [])).args = ds := by rw [List.append_nil, hfn]
  have hs2 : (s.fn H (ds ++ [])).vars = [] := by rw [List.append_nil, hfn]
  have hold : ∀ x ∈ p, (fun b => decide (b < W.heap.size)) x.block = true := fun x hx => by simpa using hlt x (List.mem_append.2 (.inl hx))
  have hvs : ∀ sp : Nat → Bool, DataW.TrodVars enc P W' sp s.vars (s.fn H (ds ++ [])).vars [] := fun sp => by rw [hv, hs2]; rfl
  refine ⟨ds, [], p ++ [], [], p, [], hW', hres _ _ _, by rw [hs]; exact hargs _ hold, hvs _, World.keptBut_mono (fun x hx => ⟨hx, ?_⟩) (hb.frame (· ∈ p ++ [])), fun _ => ⟨ok_one hrt rfl (okWide_bool_mk htb true), (s.fn H (ds ++ [])).results ++ ds, [], p ++ [], ⟨p, [], trodAll_append (by simpa using hargs _ (fun _ _ => rfl)) (hres _ _ _), ?_, rfl, ?_, fun h => (by cases h)⟩, fun x hx _ => hx⟩⟩
  · simp only [List.append_nil] at hx
    exact Or.inr (Or.inl hx)
  · rw [hv]; rfl
  · intro b off hp
    rw [hb.frozen (hlt _ hp)]
    exact hfz b off hp
end
end Go.Proofs.Ytchoipmfngcdoaa
namespace Go.Proofs.Ytchoipmfngcdoaa
set_option maxRecDepth 100000
open Go.ChangeShapes Go.WideShapes Go.ChangeAt Go.RowKit

theorem cells_u8 : Try.prog.cellsOf 5 = 1 := by kernel_rfl

theorem block_lt {w : World} {a : Addr} {v : Value} (h : w.cell? a = some v) : a.block < w.heap.size := by
  rcases Nat.lt_or_ge a.block w.heap.size with g | g
  · exact g
  · rw [World.cell?, Array.getElem?_eq_none g] at h
    cases h

section
variable {H : Type} {enc : TypeId × Value → H}
theorem open_bytes {W : World} {base : Nat} {v : Value} {d : DataW H} {p : List MemPlace} (hval : Value.okWide Try.prog W .any base 77 v) (h : DataW.Trod enc Try.prog W 0 (fun _ => true) true 77 v d p) :
    ∃ A n c l, v = .slice A n c ∧ Sees W W.heap.size A n l ∧ n ≤ c ∧ c ≤ maxLen := by
  obtain ⟨a1, len, cap, rfl⟩ := okWide_slice Try.underlying77 hval
  obtain ⟨fuel, hf⟩ := h
  rcases open_ints Try.underlying77 Try.underlying5 cells_u8 hf with ⟨hcs, _⟩ | ⟨a, len', cap', zs, hcs, _, hl, hm, hz, _, hcell, hwz⟩
  · simp [Value.cells] at hcs
    obtain ⟨rfl, rfl, rfl⟩ := hcs
    exact ⟨none, 0, 0, [], rfl, Sees.none_ _ _ _, Nat.le_refl _, Nat.zero_le _⟩
  · simp [Value.cells] at hcs
    obtain ⟨rfl, rfl, rfl⟩ := hcs
    simp only [if_true] at hz
    refine ⟨some a, len, cap, (zs.take len).map fun n => UInt8.ofNat n.toNat, rfl, ⟨by simp; omega, fun j u hu => ⟨a, rfl, ?_, ?_⟩⟩, hl, hm⟩
    all_goals
      have hj : j < len := by
        rcases Nat.lt_or_ge j len with g | g
        · exact g
        · rw [List.getElem?_eq_none (by simp; omega)] at hu; cases hu
      have hcj := hcell j (by omega)
    · have := block_lt hcj
      rwa [addr_block] at this
    · rw [hcj]
      have hjz : j < zs.length := by omega
      have e : zs.getD j 0 = zs[j] := by simp [List.getD, List.getElem?_eq_getElem hjz]
      have hw := hwz zs[j] (List.getElem_mem hjz)
      have hr : 0 ≤ zs[j] ∧ zs[j] ≤ 255 := by simpa [Lit.wf, IntKind.min, IntKind.max, IntKind.signed, IntKind.bits] using hw
      rw [List.getElem?_map, List.getElem?_take_of_lt hj, List.getElem?_eq_getElem hjz] at hu
      simp only [Option.map_some, Option.some.injEq] at hu
      subst hu
      rw [e]
      simp only [byt, UInt8.toNat_ofNat']
      congr 2
      omega
end
end Go.Proofs.Ytchoipmfngcdoaa
namespace Go.Proofs.Ytchoipmfngcdoaa
open Go.RowKit
set_option maxRecDepth 100000

/-- Count, round by round: what is still to be looked at, what has been counted. -/
def Tr.count : Tr → Int → Int → Int
  | .nil, n, _ => n
  | .cons _ k r, n, most => if n < most then r.count (n + k.count k.len (most - n)) most else n
theorem count_ge (t : Tr) : ∀ n most, n ≤ t.count n most := by
  induction t with
  | nil => intro n most; exact Int.le_refl _
  | cons s k r ihk ihr =>
    intro n most
    simp only [Tr.count]
    split
    · have h1 := ihk k.len (most - n)
      have h2 := ihr (n + k.count k.len (most - n)) most
      omega
    · exact Int.le_refl _
/-- Where it stays below, all were counted. -/
theorem count_all (t : Tr) : ∀ n most, t.count n most < most → t.count n most + t.len = n + t.size := by
  induction t with
  | nil => intro n most _; simp [Tr.count, Tr.len, Tr.size]
  | cons s k r ihk ihr =>
    intro n most h
    have hg := count_ge (.cons s k r) n most
    simp only [Tr.count] at h hg ⊢
    by_cases hc : n < most
    case neg => rw [if_neg hc] at h; omega
    rw [if_pos hc] at h hg ⊢
    have h0 := count_ge r (n + k.count k.len (most - n)) most
    have h1 := ihk k.len (most - n) (by omega)
    have h2 := ihr _ _ h
    simp only [Tr.len, Tr.size]
    omega
/-- An edge among others. -/
theorem Holds.split {w : World} {B : Nat} : ∀ {t : Tr} {A : Option Addr} {n : Nat} (i : Nat), Holds w B A n t → i < n →
    ∃ (b o : Nat) (s : ByteArray) (k r : Tr) (A' : Option Addr) (n' c' : Nat), A = some ⟨b, o, none⟩ ∧ b < B ∧ w.cell? ⟨b, o + i * 2, none⟩ = some (.string s) ∧ w.cell? ⟨b, o + i * 2 + 1, none⟩ = some (.slice A' n' c') ∧ n' ≤ c' ∧ c' ≤ maxLen ∧
      Holds w B A' n' k ∧ Holds w B (some ⟨b, o + i * 2 + 2, none⟩) (n - i - 1) r ∧ t.dropT i = .cons s k r ∧ t.dropT (i + 1) = r
  | .nil, _, _, i, h, hi => by rw [show _ = 0 from h] at hi; omega
  | .cons s k r, _, n, 0, ⟨b, o, e, hb, hs, ⟨A', n', c', hc, hn, hm, hk⟩, m, hm1, hr⟩, _ => by
    subst hm1
    exact ⟨b, o, s, k, r, A', n', c', e, hb, by simpa using hs, by simpa using hc, hn, hm, hk, by simpa using hr, rfl, by simp [Tr.dropT]⟩
  | .cons s k r, _, n, i + 1, ⟨b, o, e, hb, hs, ⟨A', n', c', hc, hn, hm, hk⟩, m, hm1, hr⟩, hi => by
    subst hm1
    obtain ⟨b', o', s', k', r', A2, n2, c2, e2, hb2, h1, h2, h3, h4, h5, h6, h7, h8⟩ := Holds.split i hr (by omega)
    cases e2
    refine ⟨b, o, s', k', r', A2, n2, c2, e, hb, ?_, ?_, h3, h4, h5, ?_, h7, h8⟩
    · rw [show o + (i + 1) * 2 = o + 2 + i * 2 by omega]; exact h1
    · rw [show o + (i + 1) * 2 + 1 = o + 2 + i * 2 + 1 by omega]; exact h2
    · rw [show o + (i + 1) * 2 + 2 = o + 2 + i * 2 + 2 by omega, show m + 1 - (i + 1) - 1 = m - i - 1 by omega]; exact h6

/-- How long a slice is, at each level. -/
def Tr.Low : Tr → Prop
  | .nil => True
  | .cons _ k r => k.len ≤ 140737488351232 ∧ k.Low ∧ r.Low
theorem count_bd (t : Tr) : ∀ n most : Int, t.Low → t.count n most ≤ max n (most + 140737488351232) := by
  induction t with
  | nil => intro n most _; simp only [Tr.count]; omega
  | cons s k r ihk ihr =>
    intro n most h
    obtain ⟨h1, h2, h3⟩ := h
    simp only [Tr.count]
    split
    · have hk := ihk k.len (most - n) h2
      have hr := ihr (n + k.count k.len (most - n)) most h3
      omega
    · omega
theorem Tr.Low.drop : ∀ {t : Tr} (i : Nat), t.Low → (t.dropT i).Low
  | t, 0, h => by rw [dropT_zero]; exact h
  | .nil, _ + 1, _ => trivial
  | .cons _ _ _, i + 1, h => Tr.Low.drop i h.2.2
theorem size_drop : ∀ (t : Tr) (i : Nat), (t.dropT i).size ≤ t.size
  | t, 0 => by rw [dropT_zero]; exact Nat.le_refl _
  | .nil, _ + 1 => Nat.le_refl _
  | .cons _ _ r, i + 1 => by simp only [Tr.dropT, Tr.size]; have := size_drop r i; omega
theorem drop_len : ∀ (t : Tr) (i : Nat), t.len ≤ i → t.dropT i = .nil
  | .nil, 0, _ => rfl
  | .nil, _ + 1, _ => rfl
  | .cons _ _ _, 0, h => by simp [Tr.len] at h
  | .cons _ _ r, i + 1, h => by simp only [Tr.dropT]; exact drop_len r i (by simp only [Tr.len] at h; omega)

set_option maxHeartbeats 1000000 in
theorem cnt_any (N : Nat) : ∀ (t : Tr) (A : Option Addr) (n c B : Nat) (most : Int) (w : World), t.size ≤ N → Holds w B A n t → B ≤ w.heap.size → n ≤ 140737488351232 → t.Low → 0 ≤ most → most ≤ 200 →
    Calls Try.prog 27 #[.slice A n c, .int .i64 most] w fun e w' => e = .returned (.int .i64 (t.count n most)) ∧ w = w' := by
  induction N with
  | zero =>
    intro t A n c B most w hN h hB hn hl h0 h2
    cases t with
    | nil =>
      obtain rfl : n = 0 := h
      go_enter Try.func27, Try.ntmps27
      go_wp2_with fail
      go_loop [5, 6] (fun v i => v = .int .i64 0 ∧ i = .int .i64 0) (fun _ _ => 0)
      case atStart => exact ⟨rfl, rfl⟩
      case round =>
        obtain ⟨rfl, rfl⟩ := hrel
        go_wp2_with fail
        go_ret
        exact ⟨rfl, rfl⟩
    | cons s k r => simp [Tr.size] at hN
  | succ N ih =>
    intro t A n c B most w hN h hB hn hl h0 h2
    have Hn := Lib.hid h.len
    go_enter Try.func27, Try.ntmps27
    go_wp2_with fail
    go_loop [5, 6] (fun v i => ∃ (k : Nat) (m : Int), k ≤ n ∧ i = .int .i64 k ∧ v = .int .i64 m ∧ 0 ≤ m ∧ m ≤ 140737488351432 ∧ Hid ((t.dropT k).count m most = t.count n most)) (fun _ i => n - (intOf i).toNat)
    case atStart => exact ⟨0, n, by omega, rfl, rfl, by omega, by omega, by rw [dropT_zero]; exact Lib.hid rfl⟩
    case round =>
      obtain ⟨k, m, hk, rfl, rfl, hm0, hm1, He⟩ := hrel
      by_cases hlt : k < n
      · by_cases hmm : m < most
        · obtain ⟨b, o, s, kt, r, A', n', c', rfl, hb, hs, hc, hn', hc', hk', hr, hd, hd2⟩ := h.split k hlt
          have hld := hl.drop k
          rw [hd] at hld
          obtain ⟨hl1, hl2, hl3⟩ := hld
          have hsz := size_drop t k
          rw [hd] at hsz
          simp only [Tr.size] at hsz
          have hkl := hk'.len
          have hbd := count_bd kt n' (most - m) hl2
          have hge := count_ge kt n' (most - m)
          have hn'2 : n' ≤ 140737488351232 := by omega
          have HC := Lib.hid (ih kt A' n' c' B (most - m) w (by omega) hk' hB hn'2 hl2 (by omega) (by omega))
          obtain ⟨C, hC⟩ : ∃ C, C = kt.count n' (most - m) := ⟨_, rfl⟩
          have He2 : Hid (r.count (m + C) most = t.count n most) := by
            have := He.out
            rw [hd] at this
            simp only [Tr.count] at this
            rw [if_pos hmm, ← hkl, ← hC] at this
            exact this
          rw [← hC] at hbd hge HC
          have Hd2 := Lib.hid hd2
          have hnl : ((n : Int) : Int) ≤ 140737488351232 := by omega
          clear hC hd hd2 hkl He hN hsz
          go_wp2_with fail
          refine HC.out.mono ?_
          rintro e w' ⟨rfl, rfl⟩
          go_wp2_with fail
          go_round
          case rel => exact ⟨k + 1, m + C, by omega, by go_num, rfl, by omega, by omega, by rw [Hd2.out]; exact He2⟩
          case measure => simp [intOf]; omega
        · have hmm2 : most ≤ m := by omega
          have He2 : Hid (m = t.count n most) := by
            have := He.out
            obtain ⟨b, o, s, kt, r, A', n', c', _, hb, hs, hc, hn', hc', hk', hr, hd, hd2⟩ := h.split k hlt
            rw [hd] at this
            simp only [Tr.count] at this
            rw [if_neg hmm] at this
            exact this
          clear hmm He
          go_wp2_with fail
          go_ret
          exact ⟨by rw [← He2.out]; rfl, rfl⟩
      · obtain rfl : k = n := by omega
        have He2 : Hid (m = t.count k most) := by
          have := He.out
          rw [drop_len t k (by rw [← Hn.out]; exact Nat.le_refl _)] at this
          exact this
        clear He hlt
        go_wp2_with fail
        go_ret
        exact ⟨by rw [← He2.out]; rfl, rfl⟩

/-- Few: its answer; where it is yes, there are fewer than 200. -/
theorem few_any (t : Tr) (A : Option Addr) (n c B : Nat) (w : World) (h : Holds w B A n t) (hB : B ≤ w.heap.size) (hn : n ≤ 140737488351232) (hl : t.Low) :
    Calls Try.prog 13 #[.slice A n c] w fun e w' => e = .returned (.bool (decide (t.count n 200 < 200))) ∧ w = w' := by
  have HC := Lib.hid (cnt_any t.size t A n c B 200 w (Nat.le_refl _) h hB hn hl (by omega) (by omega))
  go_enter Try.func13, Try.ntmps13
  go_wp2_with fail
  refine HC.out.mono ?_
  rintro e w' ⟨rfl, rfl⟩
  go_wp2_with fail
  go_ret
  exact ⟨rfl, rfl⟩
theorem few_yes {t : Tr} {n : Nat} (hn : n = t.len) (h : t.count n 200 < 200) : t.size < 200 := by
  subst hn
  have := count_all t t.len 200 h
  omega
end Go.Proofs.Ytchoipmfngcdoaa
namespace Go.Proofs.Ytchoipmfngcdoaa
open Go.RowKit
set_option maxRecDepth 100000

/-- How many edges stand ahead of a name; whether the next one is its own. -/
def Tr.atN (name : ByteArray) : Tr → Nat
  | .nil => 0
  | .cons s _ r => if Op.bytesLess s.toList name.toList = true then r.atN name + 1 else 0
def Tr.headIs (name : ByteArray) : Tr → Bool
  | .nil => false
  | .cons s _ _ => s.toList == name.toList
def Tr.atIs (name : ByteArray) (t : Tr) : Bool := (t.dropT (t.atN name)).headIs name
theorem atN_le (name : ByteArray) (t : Tr) : t.atN name ≤ t.len := by
  induction t with
  | nil => exact Nat.le_refl _
  | cons s k r _ ih => simp only [Tr.atN, Tr.len]; split <;> omega

set_option maxHeartbeats 1000000 in
theorem at_any (t : Tr) (A : Option Addr) (n c B : Nat) (name : ByteArray) (w : World) (h : Holds w B A n t) (hB : B ≤ w.heap.size) (hn : n ≤ 140737488351232) :
    Calls Try.prog 29 #[.slice A n c, .string name] w fun e w' => e = .returned (.tuple #[.int .i64 (t.atN name : Nat), .bool (t.atIs name)]) ∧ ∃ q, w' = w.drewN q := by
  have Hn := Lib.hid h.len
  go_enter Try.func29, Try.ntmps29
  go_wp2_with fail
  go_loop [6] (fun i => ∃ k : Nat, k ≤ n ∧ i = .int .i64 k ∧ Hid (k + (t.dropT k).atN name = t.atN name)) (fun i => n - (intOf i).toNat)
  case atStart => exact ⟨0, by omega, rfl, by rw [dropT_zero]; exact Lib.hid (Nat.zero_add _)⟩
  case round =>
    obtain ⟨k, hk, rfl, He⟩ := hrel
    by_cases hlt : k < n
    · obtain ⟨b, o, s, kt, r, A', n', c', rfl, hb, hs, hc, hn', hc', hk', hr, hd, hd2⟩ := h.split k hlt
      have hbl : b < w.heap.size := by omega
      by_cases hls : Op.bytesLess s.toList name.toList = true
      · have He2 : Hid (k + 1 + (t.dropT (k + 1)).atN name = t.atN name) := by
          have := He.out
          rw [hd] at this
          simp only [Tr.atN] at this
          rw [if_pos hls] at this
          rw [hd2]
          exact Lib.hid (by omega)
        clear hd hd2 He
        go_wp2_with fail
        go_round
        case rel => exact ⟨k + 1, by omega, by go_num, He2⟩
        case measure => simp [intOf]; omega
      · have He2 : Hid (k = t.atN name ∧ t.atIs name = (s.toList == name.toList)) := by
          have := He.out
          rw [hd] at this
          simp only [Tr.atN] at this
          rw [if_neg hls] at this
          refine Lib.hid ⟨by omega, ?_⟩
          unfold Tr.atIs
          rw [← this, Nat.add_zero, hd]
          rfl
        have hls2 : Op.bytesLess s.toList name.toList = false := by simpa using hls
        have hkn : (k : Int) < (n : Int) := by omega
        have hk0 : (0 : Int) ≤ (k : Int) := by omega
        clear hd hd2 He hls
        go_wp2_with fail
        go_quiet (fail)
        go_wp2_with fail
        go_ret2
        exact ⟨by rw [← He2.out.1, He2.out.2]; rfl, _, rfl⟩
    · obtain rfl : k = n := by omega
      have He2 : Hid (k = t.atN name ∧ t.atIs name = false) := by
        have := He.out
        rw [drop_len t k (by rw [← Hn.out]; exact Nat.le_refl _)] at this
        simp only [Tr.atN] at this
        refine Lib.hid ⟨by omega, ?_⟩
        unfold Tr.atIs
        rw [← this, Nat.add_zero, drop_len t k (by rw [← Hn.out]; exact Nat.le_refl _)]
        rfl
      clear He hlt
      go_wp2_with fail
      go_quiet (fail)
      go_wp2_with fail
      go_ret2
      exact ⟨by rw [← He2.out.1, He2.out.2]; rfl, _, rfl⟩
end Go.Proofs.Ytchoipmfngcdoaa
namespace Go.Proofs.Ytchoipmfngcdoaa
open Go.RowKit

theorem info_u8 : (Try.prog.info? 5).map (fun i => (i.zero, i.size, i.bytes)) = some (some (.int .u8 0), 1, 1) := by kernel_rfl

/-- The slice with address A, n elements, capacity c is a row of the call's own (in a block from base on, not frozen), and reads as the bytes l. -/
structure Own (w : World) (base : Nat) (A : Option Addr) (n c : Nat) (l : List UInt8) : Prop where
  row : w.ownsRow base 5 1 (.slice A n c) n (byts l)

section
variable {w w' : World} {base n c : Nat} {A : Option Addr} {l : List UInt8}
theorem Own.nil (w : World) (base : Nat) : Own w base none 0 0 [] := ⟨by simp [byts], .inl ⟨rfl, rfl⟩⟩
theorem Own.len (h : Own w base A n c l) : n = l.length := by have := h.row.1; rw [byts_length] at this; omega
theorem Own.sees (h : Own w base A n c l) : Sees w w.heap.size A n l := Sees.of_own h.row
theorem Own.lt (h : Own w base A n c l) : ∀ k, (Value.slice A n c).ownBlock = some k → base ≤ k ∧ k < w.heap.size := h.row.lt
theorem Own.cap (h : Own w base A n c l) : n ≤ c ∧ c ≤ maxLen := by
  rcases h.row.2 with ⟨e, _⟩ | ⟨g, cap, cur, e, _, _, hn, hm, _⟩
  · injection e with _ h1 h2
    subst h1; subst h2
    exact ⟨Nat.le_refl _, Nat.zero_le _⟩
  · injection e with _ _ h2
    subst h2
    exact ⟨hn, hm⟩
theorem Own.keep (h : Own w base A n c l) (hb : Below w.heap.size w w') : Own w' base A n c l :=
  ⟨h.row.kept (row := none) ⟨hb.os, hb.tape, hb.output, hb.size, fun i hi _ => hb.block i hi⟩ (by cases hv : (Value.slice A n c).ownBlock <;> simp)⟩
theorem Own.alloc (h : Own w base A n c l) (o : Obj) : Own (w.alloc o) base A n c l := ⟨h.row.alloc o⟩
theorem Own.drew (h : Own w base A n c l) : Own w.drew base A n c l := ⟨h.row.drew⟩
theorem Own.less {base' : Nat} (h : Own w base A n c l) (hb : base' ≤ base) : Own w base' A n c l := by
  refine ⟨⟨h.row.1, ?_⟩⟩
  rcases h.row.2 with e | ⟨g, cap, cur, e, hg, rest⟩
  · exact .inl e
  · exact .inr ⟨g, cap, cur, e, Nat.le_trans hb hg, rest⟩
theorem Own.below (h : Own w base A n c l) (hg : w.grownBy w' (Value.slice A n c).ownBlock) (hbase : base ≤ w.heap.size) : Below base w w' :=
  (Below.refl base w).grown hg hbase (fun k hk => (h.lt k hk).1)
/-- Seen from a block below which the row lies. -/
theorem Own.sees_below {B : Nat} (h : Own w base A n c l) (hb : ∀ a, A = some a → a.block < B) : Sees w B A n l :=
  ⟨h.len, fun j u hu => by
    obtain ⟨a, ha, _, hc⟩ := h.sees.cell j u hu
    exact ⟨a, ha, hb a ha, hc⟩⟩
/-- A row just laid whole. -/
theorem Own.lit (w : World) (l : List UInt8) (n : Nat) (hb : base ≤ w.heap.size) (hm : n ≤ maxLen) (hn : l.length = n) : Own (w.alloc (.cells (byts l).toArray 5)) base (some ⟨w.heap.size, 0, none⟩) n n l := by
  have h := World.ownsRow_lit (base := base) (e := 5) (size := 1) w (byts l).toArray n hb hm (by simp [byts_length, hn])
  exact ⟨by simpa using h⟩
end

/-- A source of bytes: what append takes behind its first argument. -/
structure From (P : Program) (w : World) (tx : TypeId) (x : Value) (m : Nat) (l : List UInt8) : Prop where
  len : m = l.length
  src : Src P 1 tx x m (byts l) w

theorem From.sees {w : World} {B m c : Nat} {A : Option Addr} {l : List UInt8} (h : Sees w B A m l) : From Try.prog w 77 (.slice A m c) m l := by
  refine ⟨h.len, ?_⟩
  cases A with
  | none =>
    obtain ⟨rfl, rfl⟩ := h.empty
    exact Src.ofNil w Try.underlying77 c
  | some a => exact Src.ofSlice w Try.underlying77 a m c (byts l) (by rw [byts_length, h.len, Nat.mul_one]) h.cells (byts_one l)
theorem From.text (w : World) (s : ByteArray) : From Try.prog w 9 (.string s) s.size s.data.toList :=
  ⟨rfl, Src.ofString w Try.underlying9 s⟩

theorem heap_cells (g : Nat) : ∀ (vs : List Value) (o : Nat) (w : World) (cur : Array Value) (e : TypeId), w.heap[g]? = some (.cells cur e (0, 0)) → o + vs.length ≤ cur.size →
    (w.setCells g o vs).heap[g]? = some (.cells (cur.toList.take o ++ vs ++ cur.toList.drop (o + vs.length)).toArray e (0, 0))
  | [], o, w, cur, e, h, hl => by
    simp only [World.setCells, List.append_nil, List.length_nil, Nat.add_zero, List.take_append_drop]
    rw [h]
  | v :: r, o, w, cur, e, h, hl => by
    simp only [List.length_cons] at hl
    rw [World.setCells, heap_cells g r (o + 1) _ (cur.setIfInBounds o v) e (heap_setCell_same w g o cur e v h) (by simp; omega)]
    congr 3
    have ho : o < cur.toList.length := by simp; omega
    rw [Array.toList_setIfInBounds, List.take_succ_eq_append_getElem (by simpa using ho)]
    rw [List.take_set_of_le (Nat.le_refl o), List.getElem_set_self, List.drop_set_of_lt (by omega)]
    simp only [List.append_assoc, List.singleton_append, List.length_cons]
    rw [show o + 1 + r.length = o + (r.length + 1) by omega]
theorem heap_cells_far (g k : Nat) (hk : k ≠ g) : ∀ (vs : List Value) (o : Nat) (w : World), (w.setCells g o vs).heap[k]? = w.heap[k]?
  | [], _, _ => rfl
  | v :: r, o, w => by rw [World.setCells, heap_cells_far g k hk r (o + 1), heap_setCell_other _ _ _ _ hk]
theorem setCells_os (g : Nat) : ∀ (vs : List Value) (o : Nat) (w : World), (w.setCells g o vs).os = w.os ∧ (w.setCells g o vs).tape = w.tape ∧ (w.setCells g o vs).output = w.output ∧ (w.setCells g o vs).heap.size = w.heap.size
  | [], _, _ => ⟨rfl, rfl, rfl, rfl⟩
  | v :: r, o, w => by
    obtain ⟨a, b, c, d⟩ := setCells_os g r (o + 1) (w.setCell ⟨g, o, none⟩ v)
    rw [World.setCells]
    exact ⟨a, b, c, by rw [d]; simp [World.setCell]⟩

set_option maxRecDepth 100000 in
/-- append onto a row of the call's own, whatever the source. -/
theorem run_append_from {w : World} {base n c m : Nat} {A : Option Addr} {l l2 : List UInt8} {tx : TypeId} {x : Value} (ty : TypeId) (ho : Own w base A n c l) (hx : From Try.prog w tx x m l2) (h46 : n + m ≤ 70368744177664) (hbase : base ≤ w.heap.size) :
    ∃ A' N c' w', (Builtin.append_ #[77, tx] ty #[.slice A n c, x]).run Try.prog w = .ok (.slice A' N c') w' ∧ Own w' base A' N c' (l ++ l2) ∧ w.grownBy w' (Value.slice A n c).ownBlock ∧
      (∀ a, A' = some a → a.block = w.heap.size ∨ some a.block = (Value.slice A n c).ownBlock) := by
  obtain ⟨i, hi, hz, hs, hb⟩ := info_parts info_u8
  have hzs : (Value.int IntKind.u8 0).cells.size = 1 := rfl
  have hsrc := hx.src
  rw [← hs] at hsrc
  have hlen := ho.len
  have hlen2 := hx.len
  -- there is none
  have grows : ∀ (hg : c < n + m), ∃ A' N c' w', (Builtin.append_ #[77, tx] ty #[.slice A n c, x]).run Try.prog w = .ok (.slice A' N c') w' ∧ Own w' base A' N c' (l ++ l2) ∧ w.grownBy w' (Value.slice A n c).ownBlock ∧
      (∀ a, A' = some a → a.block = w.heap.size ∨ some a.block = (Value.slice A n c).ownBlock) := by
    intro hg
    have hold : (Builtin.firstCells i.size n (.slice A n c)).run Try.prog w.drew = .ok (byts l).toArray w.drew := by
      rcases A with _ | a
      · obtain ⟨rfl, rfl⟩ := ho.sees.empty
        exact run_firstCells_none w.drew i.size 0 0 c
      · exact run_firstCells_some w.drew i.size n a n c (byts l) (by rw [byts_length, hs]; omega) (by simpa using ho.sees.cells)
    have hr := run_append_grow_src (P := Try.prog) w 77 tx ty 5 i (.int .u8 0) Try.underlying77 hi hz A n c (byts l) hold x m (byts l2) hsrc hg (by omega) (growslice_fits hg (by rw [hb]; omega))
    have hge := grownCap_ge w (n + m) c 5
    have hcm := grownCap_le_maxLen w (n + m) c 5 (by simp only [maxLen]; omega)
    refine ⟨_, _, _, _, hr, ⟨⟨by rw [byts_length, List.length_append]; omega, .inr ⟨w.heap.size, _, _, rfl, hbase, heap_alloc_new w.drew _, hge, hcm, ?_, ?_⟩⟩⟩, ⟨rfl, rfl, rfl, by simp, fun k hk _ => heap_alloc_old w.drew _ hk⟩, fun a ha => .inl (by injection ha with ha; rw [← ha])⟩
    · simp only [Array.size_append, List.size_toArray, size_zeroCells, hzs, List.length_append, byts_length]
      omega
    · simp only [Array.toList_append, byts_append]
      rw [List.take_append_of_le_length (by simp [byts_length]; omega), List.take_of_length_le (by simp [byts_length]; omega)]
  rcases ho.row.2 with ⟨e, hn0⟩ | ⟨g, cap, cur, e, hbg, hg, hnc, hcm, hcs, htake⟩
  · injection e with e1 e2 e3
    subst e1; subst e2; subst e3
    obtain ⟨rfl, _⟩ := ho.sees.empty
    by_cases hm : m = 0
    · subst hm
      have h2 : l2 = [] := List.eq_nil_of_length_eq_zero hlen2.symm
      subst h2
      refine ⟨none, 0, 0, w, ?_, Own.nil w base, World.grownBy.refl w _, fun a ha => by cases ha⟩
      rcases hsrc.kind with ⟨e', hk⟩ | hk <;> simp [Builtin.append_, run_underlying Try.underlying77, run_underlying hk, sizeOf, typeInfo, hi, hsrc.len, hsrc.cells, byts]
    · exact grows (by omega)
  · injection e with e1 e2 e3
    subst e1; subst e3
    by_cases hroom : n + m ≤ c
    · have hl : (byts l2).length = m := by rw [byts_length]; omega
      have hr := run_append_room_src (P := Try.prog) w 77 tx ty 5 i Try.underlying77 hi g 0 n c x m (byts l2) hsrc hroom
        (fun j hj => by rw [cell_of_row w g _ cur _ _ hg, hs, Array.getElem?_eq_getElem (by omega)]; rfl) (fun j hj => by simp [World.frozen?, hg])
      rw [hs] at hr
      have hh := heap_cells g (byts l2) (0 + n * 1) w cur 5 hg (by omega)
      obtain ⟨o1, o2, o3, o4⟩ := setCells_os g (byts l2) (0 + n * 1) w
      have htl : (cur.toList.take (0 + n * 1)) = byts l := by rw [Nat.zero_add]; exact htake
      rw [htl] at hh
      refine ⟨_, _, _, _, hr, ⟨⟨by rw [byts_length, List.length_append]; omega, .inr ⟨g, c, _, rfl, hbg, hh, hroom, hcm, ?_, ?_⟩⟩⟩, ⟨o1, o2, o3, by rw [o4]; exact Nat.le_refl _, fun k _ hk => heap_cells_far g k (fun e => hk (by simp [Value.ownBlock, e])) _ _ _⟩, fun a ha => .inr (by injection ha with ha; rw [← ha]; rfl)⟩
      · simp only [List.size_toArray, List.length_append, List.length_drop, Array.length_toList, byts_length]
        omega
      · simp only [byts_append]
        rw [List.take_append_of_le_length (by simp [byts_length]; omega), List.take_of_length_le (by simp [byts_length]; omega)]
    · exact grows (by omega)

set_option maxRecDepth 100000 in
/-- The same at the walk's operation: behind it 'intro A' N c' w' ho' hg' hat''. -/
theorem wpList_append_from {w : World} {ops : Array Oper} {rest : List Oper} {o : Oper} {a : Act} {Q : Exit → Act → World → Prop} (hgd : o.guard = none) (s x : Operand) (tx : TypeId)
    (hop : o.op = .call { callee := .builtin .append, args := #[s, x], argTypes := #[77, tx] })
    {base n c m : Nat} {A : Option Addr} {l l2 : List UInt8} {vx : Value} (hs : a.eval s = .slice A n c) (hxv : a.eval x = vx) (ho : Own w base A n c l) (hx : From Try.prog w tx vx m l2) (h46 : n + m ≤ 70368744177664) (hbase : base ≤ w.heap.size)
    (h : ∀ A' N c' w', Own w' base A' N c' (l ++ l2) → w.grownBy w' (Value.slice A n c).ownBlock → (∀ a, A' = some a → a.block = w.heap.size ∨ some a.block = (Value.slice A n c).ownBlock) → wpList Try.prog ops Q rest (a.put o.dst (.slice A' N c')) w') :
    wpList Try.prog ops Q (o :: rest) a w := by
  obtain ⟨A', N, c', w', hr, h1, h2, h3⟩ := run_append_from o.type ho hx h46 hbase
  exact Lib.wpList_append_run w hgd s x _ _ hop _ _ hs hxv _ _ hr (h A' N c' w' h1 h2 h3)
end Go.Proofs.Ytchoipmfngcdoaa
namespace Go.Proofs.Ytchoipmfngcdoaa
open Go.RowKit
set_option maxRecDepth 100000

/-- The element type's row of the table: its zero value, cells, bytes. -/
structure Elem (P : Program) (t e : TypeId) (z : Value) (size bytes : Nat) : Prop where
  slice : P.underlying t = some (.slice e)
  info : (P.info? e).map (fun i => (i.zero, i.size, i.bytes)) = some (some z, size, bytes)
  cells : z.cells.size = size
  small : bytes ≤ 64

theorem rowCells {w : World} {base n c size : Nat} {e : TypeId} {a : Addr} {xs : List Value} (h : w.ownsRow base e size (.slice (some a) n c) n xs) : ∀ j u, xs[j]? = some u → w.cell? (a.add j) = some u := by
  intro j u hu
  rcases h.2 with ⟨e1, _⟩ | ⟨g, cap, cur, e1, _, hh, _, _, _, htk⟩
  · cases e1
  · injection e1 with e1
    cases e1
    rw [Addr.add_lit, Nat.zero_add, cell_of_row w g j cur _ _ hh]
    rw [← htk, List.getElem?_take] at hu
    split at hu
    · simpa using hu
    · cases hu

theorem run_append_row {P : Program} {w : World} {base n c m size bytes : Nat} {A : Option Addr} {xs ys : List Value} {t tx e : TypeId} {z x : Value} (ty : TypeId) (he : Elem P t e z size bytes)
    (ho : w.ownsRow base e size (.slice A n c) n xs) (hx : Src P size tx x m ys w) (h46 : n + m ≤ 1099511627776) (hbase : base ≤ w.heap.size) :
    ∃ A' c' w', (Builtin.append_ #[t, tx] ty #[.slice A n c, x]).run P w = .ok (.slice A' (n + m) c') w' ∧ w'.ownsRow base e size (.slice A' (n + m) c') (n + m) (xs ++ ys) ∧ w.grownBy w' (Value.slice A n c).ownBlock ∧
      (∀ a, A' = some a → a.block = w.heap.size ∨ some a.block = (Value.slice A n c).ownBlock) := by
  obtain ⟨i, hi, hz, hs, hb⟩ := info_parts he.info
  have hzs := he.cells
  have hsrc := hx
  rw [← hs] at hsrc
  have hlen := ho.1
  have hlen2 := hx.newsLen
  have hbb : (n + m) * bytes ≤ 1099511627776 * 64 := Nat.mul_le_mul h46 he.small
  have grows : ∀ (hg : c < n + m), ∃ A' c' w', (Builtin.append_ #[t, tx] ty #[.slice A n c, x]).run P w = .ok (.slice A' (n + m) c') w' ∧ w'.ownsRow base e size (.slice A' (n + m) c') (n + m) (xs ++ ys) ∧ w.grownBy w' (Value.slice A n c).ownBlock ∧
      (∀ a, A' = some a → a.block = w.heap.size ∨ some a.block = (Value.slice A n c).ownBlock) := by
    intro hg
    have hold : (Builtin.firstCells i.size n (.slice A n c)).run P w.drew = .ok xs.toArray w.drew := by
      rcases A with _ | a
      · rcases ho.2 with ⟨e1, e2⟩ | ⟨g, cap, cur, e1, _⟩
        · subst e2
          obtain rfl : xs = [] := List.eq_nil_of_length_eq_zero (by omega)
          injection e1 with _ _ e3
          exact run_firstCells_none w.drew i.size 0 0 c
        · cases e1
      · exact run_firstCells_some w.drew i.size n a n c xs (by rw [hlen, hs]) (by simpa using rowCells ho)
    have hr := run_append_grow_src (P := P) w t tx ty e i z he.slice hi hz A n c xs hold x m ys hsrc hg (by omega) (growslice_fits hg (by rw [hb]; omega))
    have hge := grownCap_ge w (n + m) c e
    have hcm := grownCap_le_maxLen w (n + m) c e (by simp only [maxLen]; omega)
    refine ⟨_, _, _, hr, ⟨by rw [List.length_append, hlen, hlen2, Nat.add_mul], .inr ⟨w.heap.size, _, _, rfl, hbase, heap_alloc_new w.drew _, hge, hcm, ?_, ?_⟩⟩, ⟨rfl, rfl, rfl, by simp, fun k hk _ => heap_alloc_old w.drew _ hk⟩, fun a ha => .inl (by injection ha with ha; rw [← ha])⟩
    · simp only [Array.size_append, List.size_toArray, size_zeroCells, hzs, List.length_append, hlen, hlen2]
      rw [← Nat.add_mul, ← Nat.add_mul]
      congr 1
      omega
    · simp only [Array.toList_append]
      have : (n + m) * size = (xs ++ ys).length := by rw [List.length_append, hlen, hlen2, Nat.add_mul]
      rw [this, List.take_append_of_le_length (Nat.le_refl _), List.take_of_length_le (Nat.le_refl _)]
  rcases ho.2 with ⟨e1, hn0⟩ | ⟨g, cap, cur, e1, hbg, hg, hnc, hcm, hcs, htake⟩
  · injection e1 with e1 e2 e3
    subst e1; subst e2; subst e3
    obtain rfl : xs = [] := List.eq_nil_of_length_eq_zero (by omega)
    by_cases hm : m = 0
    · subst hm
      have h2 : ys = [] := List.eq_nil_of_length_eq_zero (by omega)
      subst h2
      refine ⟨none, 0, w, ?_, ⟨by simp, .inl ⟨rfl, rfl⟩⟩, World.grownBy.refl w _, fun a ha => by cases ha⟩
      rcases hsrc.kind with ⟨e', hk⟩ | hk <;> simp [Builtin.append_, run_underlying he.slice, run_underlying hk, sizeOf, typeInfo, hi, hsrc.len, hsrc.cells]
    · exact grows (by omega)
  · injection e1 with e1 e2 e3
    subst e1; subst e3
    by_cases hroom : n + m ≤ c
    · have hmul : (n + m) * size ≤ c * size := Nat.mul_le_mul_right _ hroom
      rw [Nat.add_mul] at hmul
      have hr := run_append_room_src (P := P) w t tx ty e i he.slice hi g 0 n c x m ys hsrc hroom
        (fun j hj => by rw [cell_of_row w g _ cur _ _ hg, hs, Array.getElem?_eq_getElem (by omega)]; rfl) (fun j hj => by simp [World.frozen?, hg])
      rw [hs] at hr
      have hh := heap_cells g ys (0 + n * size) w cur e hg (by omega)
      obtain ⟨o1, o2, o3, o4⟩ := setCells_os g ys (0 + n * size) w
      have htl : (cur.toList.take (0 + n * size)) = xs := by rw [Nat.zero_add]; exact htake
      rw [htl] at hh
      refine ⟨_, _, _, hr, ⟨by rw [List.length_append, hlen, hlen2, Nat.add_mul], .inr ⟨g, c, _, rfl, hbg, hh, hroom, hcm, ?_, ?_⟩⟩, ⟨o1, o2, o3, by rw [o4]; exact Nat.le_refl _, fun k _ hk => heap_cells_far g k (fun e => hk (by simp [Value.ownBlock, e])) _ _ _⟩, fun a ha => .inr (by injection ha with ha; rw [← ha]; rfl)⟩
      · simp only [List.size_toArray, List.length_append, List.length_drop, Array.length_toList]
        omega
      · have : (n + m) * size = (xs ++ ys).length := by rw [List.length_append, hlen, hlen2, Nat.add_mul]
        rw [this]
        rw [List.take_append_of_le_length (Nat.le_refl _), List.take_of_length_le (Nat.le_refl _)]
    · exact grows (by omega)

section
variable {P : Program} {w : World} {ops : Array Oper} {rest : List Oper} {o : Oper} {a : Act} {Q : Exit → Act → World → Prop}
/-- At the walk's operation: behind it 'intro A' c' w' ho' hg' hat''. -/
theorem wpList_append_row (hgd : o.guard = none) (s x : Operand) (t tx : TypeId) (hop : o.op = .call { callee := .builtin .append, args := #[s, x], argTypes := #[t, tx] })
    {base n c m size bytes : Nat} {A : Option Addr} {xs ys : List Value} {e : TypeId} {z vx : Value} (he : Elem P t e z size bytes)
    (hs : a.eval s = .slice A n c) (hxv : a.eval x = vx) (ho : w.ownsRow base e size (.slice A n c) n xs) (hx : Src P size tx vx m ys w) (h46 : n + m ≤ 1099511627776) (hbase : base ≤ w.heap.size)
    (h : ∀ A' c' w', w'.ownsRow base e size (.slice A' (n + m) c') (n + m) (xs ++ ys) → w.grownBy w' (Value.slice A n c).ownBlock → (∀ a, A' = some a → a.block = w.heap.size ∨ some a.block = (Value.slice A n c).ownBlock) →
      wpList P ops Q rest (a.put o.dst (.slice A' (n + m) c')) w') : wpList P ops Q (o :: rest) a w := by
  obtain ⟨A', c', w', hr, h1, h2, h3⟩ := run_append_row o.type he ho hx h46 hbase
  exact Lib.wpList_append_run w hgd s x _ _ hop _ _ hs hxv _ _ hr (h A' c' w' h1 h2 h3)

/-- An append by its run, inside a fence. -/
theorem wpListIn_append_run {F : Fence} {n : Nat} (hgd : o.guard = none) (s x : Operand) (t tn : TypeId)
    (hop : o.op = .call { callee := .builtin .append, args := #[s, x], argTypes := #[t, tn] }) (vs vx : Value) (hs : a.eval s = vs) (hx : a.eval x = vx)
    (v' : Value) (w' : World) (hr : (Builtin.append_ #[t, tn] o.type #[vs, vx]).run P w = .ok v' w') (h : wpListIn F n P ops Q rest (a.put o.dst v') w') : wpListIn F n P ops Q (o :: rest) a w := by
  refine wpListIn_plain hgd fun K hK' => ?_
  unfold Oper.wpIn
  refine ⟨?_, ?_⟩
  · simp [Oper.about, hop, resolve, Target.leads, Sem.run_pure]
  · rw [Oper.semAt_plain F _ _ (by rw [hop]; intro c hc'; cases hc')]
    simp [execOp, hop, resolve, invoke, builtin, hs, hx, hr, Result.andThen]
    exact hK' _ _ h
end
section
variable {w : World} {ops : Array Oper} {rest : List Oper} {o : Oper} {a : Act} {Q : Exit → Act → World → Prop}
theorem wpListIn_append_from {F : Fence} {k : Nat} (hgd : o.guard = none) (s x : Operand) (tx : TypeId)
    (hop : o.op = .call { callee := .builtin .append, args := #[s, x], argTypes := #[77, tx] })
    {base n c m : Nat} {A : Option Addr} {l l2 : List UInt8} {vx : Value} (hs : a.eval s = .slice A n c) (hxv : a.eval x = vx) (ho : Own w base A n c l) (hx : From Try.prog w tx vx m l2) (h46 : n + m ≤ 70368744177664) (hbase : base ≤ w.heap.size)
    (h : ∀ A' N c' w', Own w' base A' N c' (l ++ l2) → w.grownBy w' (Value.slice A n c).ownBlock → (∀ a, A' = some a → a.block = w.heap.size ∨ some a.block = (Value.slice A n c).ownBlock) → wpListIn F k Try.prog ops Q rest (a.put o.dst (.slice A' N c')) w') :
    wpListIn F k Try.prog ops Q (o :: rest) a w := by
  obtain ⟨A', N, c', w', hr, h1, h2, h3⟩ := run_append_from o.type ho hx h46 hbase
  exact wpListIn_append_run hgd s x _ _ hop _ _ hs hxv _ _ hr (h A' N c' w' h1 h2 h3)
/-- The same in a region that draws its order. -/
theorem step_append_from {K : Act → World → Prop} {E : Prop} (hgd : o.guard = none) (s x : Operand) (tx : TypeId)
    (hop : o.op = .call { callee := .builtin .append, args := #[s, x], argTypes := #[77, tx] })
    {base n c m : Nat} {A : Option Addr} {l l2 : List UInt8} {vx : Value} (hs : a.eval s = .slice A n c) (hxv : a.eval x = vx) (ho : Own w base A n c l) (hx : From Try.prog w tx vx m l2) (h46 : n + m ≤ 70368744177664) (hbase : base ≤ w.heap.size)
    (h : ∀ A' N c' w', Own w' base A' N c' (l ++ l2) → w.grownBy w' (Value.slice A n c).ownBlock → (∀ a, A' = some a → a.block = w.heap.size ∨ some a.block = (Value.slice A n c).ownBlock) → K (a.put o.dst (.slice A' N c')) w') :
    if Region.wanted o (yielded ops a.tmps) = true then Oper.wp Try.prog o a w K Q else E := by
  have hw : Region.wanted o (yielded ops a.tmps) = true := by simp [Region.wanted, hgd]
  rw [if_pos hw]
  obtain ⟨A', N, c', w', hr, h1, h2, h3⟩ := run_append_from o.type ho hx h46 hbase
  unfold Oper.wp
  simp [execOp, hop, resolve, invoke, builtin, hs, hxv, hr, Result.andThen]
  exact h A' N c' w' h1 h2 h3
theorem step_append_row {P : Program} {K : Act → World → Prop} {E : Prop} (hgd : o.guard = none) (s x : Operand) (t tx : TypeId) (hop : o.op = .call { callee := .builtin .append, args := #[s, x], argTypes := #[t, tx] })
    {base n c m size bytes : Nat} {A : Option Addr} {xs ys : List Value} {e : TypeId} {z vx : Value} (he : Elem P t e z size bytes)
    (hs : a.eval s = .slice A n c) (hxv : a.eval x = vx) (ho : w.ownsRow base e size (.slice A n c) n xs) (hx : Src P size tx vx m ys w) (h46 : n + m ≤ 1099511627776) (hbase : base ≤ w.heap.size)
    (h : ∀ A' c' w', w'.ownsRow base e size (.slice A' (n + m) c') (n + m) (xs ++ ys) → w.grownBy w' (Value.slice A n c).ownBlock → (∀ a, A' = some a → a.block = w.heap.size ∨ some a.block = (Value.slice A n c).ownBlock) →
      K (a.put o.dst (.slice A' (n + m) c')) w') :
    if Region.wanted o (yielded ops a.tmps) = true then Oper.wp P o a w K Q else E := by
  have hw : Region.wanted o (yielded ops a.tmps) = true := by simp [Region.wanted, hgd]
  rw [if_pos hw]
  obtain ⟨A', c', w', hr, h1, h2, h3⟩ := run_append_row o.type he ho hx h46 hbase
  unfold Oper.wp
  simp [execOp, hop, resolve, invoke, builtin, hs, hxv, hr, Result.andThen]
  exact h A' c' w' h1 h2 h3
end
end Go.Proofs.Ytchoipmfngcdoaa
