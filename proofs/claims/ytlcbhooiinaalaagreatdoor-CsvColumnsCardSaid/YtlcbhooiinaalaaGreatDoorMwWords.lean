/- Words of one's own for memory: a slice that reads as bytes, seen from below a block; what string() makes of it; append of it onto a row of the call's own. No conditions. · Trees: what they are, and how they lie in memory. No conditions. · The last step of each law of this seat: a call that returns true and leaves all that lay in memory as it was meets the law's specification. No conditions. · Arguments opened: a slice of bytes. -/
import Derived.Test.YtlcbhooiinaalaaGreatDoorRows
import Derived.WalkKit
import Derived.WalkSpells
import Derived.WalkLawsBesides
import Derived.Deep.AppendLies
import Derived.Deep.Draws
import Derived.Maps.AppendAt
import Derived.Lib.Hide
import Derived.Lib.SliceRun
import Derived.Lib.AppendZerosOnto
import Derived.ProofKit
namespace Go.Proofs.YtlcbhooiinaalaaGreatDoor
open Go.RowKit

/-- A byte as a cell; bytes as cells. -/
def byt (u : UInt8) : Value := .int .u8 (u.toNat : Int)
def byts (l : List UInt8) : List Value := l.map byt

theorem byts_length (l : List UInt8) : (byts l).length = l.length := by simp [byts]
theorem byts_append (a b : List UInt8) : byts (a ++ b) = byts a ++ byts b := by simp [byts]
theorem byts_one (l : List UInt8) : ∀ u ∈ byts l, u.oneCell' = true := by
  intro u hu
  simp only [byts, List.mem_map] at hu
  obtain ⟨b, _, rfl⟩ := hu
  rfl
theorem byts_get {l : List UInt8} {j : Nat} {u : Value} (h : (byts l)[j]? = some u) : ∃ b, l[j]? = some b ∧ u = byt b := by
  simp only [byts, List.getElem?_map, Option.map_eq_some_iff] at h
  obtain ⟨b, hb, rfl⟩ := h
  exact ⟨b, hb, rfl⟩

theorem addr_block (a : Addr) (j : Nat) : (a.add j).block = a.block := by
  unfold Addr.add
  split <;> rfl
theorem addr_add (a : Addr) (i j : Nat) : (a.add i).add j = a.add (i + j) := by
  unfold Addr.add
  by_cases hi : i = 0
  · subst hi; simp
  · by_cases hj : j = 0
    · subst hj; simp
    · simp [hi, hj, Nat.add_assoc]

/-- The slice with address A and n elements reads the bytes l; where there are some they lie in a block below B. -/
structure Sees (w : World) (B : Nat) (A : Option Addr) (n : Nat) (l : List UInt8) : Prop where
  len : n = l.length
  cell : ∀ (j : Nat) (u : UInt8), l[j]? = some u → ∃ a : Addr, A = some a ∧ a.block < B ∧ w.cell? (a.add j) = some (byt u)

section
variable {w w' : World} {B B' n : Nat} {A : Option Addr} {l : List UInt8}

theorem Sees.none_ (w : World) (B : Nat) (A : Option Addr) : Sees w B A 0 [] := ⟨rfl, fun j u h => by simp at h⟩
theorem Sees.keep (h : Sees w B A n l) (hk : ∀ p : Addr, p.block < B → w'.cell? p = w.cell? p) : Sees w' B A n l :=
  ⟨h.len, fun j u hu => by
    obtain ⟨a, ha, hb, hc⟩ := h.cell j u hu
    exact ⟨a, ha, hb, (hk _ (by rw [addr_block]; exact hb)).trans hc⟩⟩
theorem Sees.more (h : Sees w B A n l) (hB : B ≤ B') : Sees w B' A n l :=
  ⟨h.len, fun j u hu => by
    obtain ⟨a, ha, hb, hc⟩ := h.cell j u hu
    exact ⟨a, ha, Nat.lt_of_lt_of_le hb hB, hc⟩⟩
theorem Sees.below (h : Sees w B A n l) (hb : Below B w w') : Sees w' B A n l := h.keep fun _ hp => hb.cell hp
theorem Sees.drew (h : Sees w B A n l) : Sees w.drew B A n l := h.keep fun _ _ => rfl
theorem Sees.drewN (h : Sees w B A n l) (k : Nat) : Sees (w.drewN k) B A n l := h.keep fun _ _ => rfl
theorem Sees.alloc (h : Sees w B A n l) (hB : B ≤ w.heap.size) (o : Obj) : Sees (w.alloc o) B A n l :=
  h.keep fun p hp => World.cell?_alloc_lt w o p (Nat.lt_of_lt_of_le hp hB)
theorem Sees.setCell (h : Sees w B A n l) {p : Addr} (hB : B ≤ p.block) (u : Value) : Sees (w.setCell p u) B A n l :=
  h.keep fun q hq => World.cell?_setCell_other w p q u (fun e => by subst e; omega)
theorem Sees.grown (h : Sees w B A n l) {row : Option Nat} (hg : w.grownBy w' row) (hB : B ≤ w.heap.size) (hr : ∀ g, row = some g → B ≤ g) : Sees w' B A n l :=
  h.keep fun p hp => World.cell?_of_block (hg.block p.block (Nat.lt_of_lt_of_le hp hB) (fun e => by have := hr _ e.symm; omega))

/-- All bytes at one address. -/
theorem Sees.cells {a : Addr} (h : Sees w B (some a) n l) : ∀ j u, (byts l)[j]? = some u → w.cell? (a.add j) = some u := by
  intro j u hu
  obtain ⟨b, hb, rfl⟩ := byts_get hu
  obtain ⟨a', ha, _, hc⟩ := h.cell j b hb
  cases ha
  exact hc
theorem Sees.empty (h : Sees w B none n l) : l = [] ∧ n = 0 := by
  have : l = [] := by
    cases l with
    | nil => rfl
    | cons x xs =>
      obtain ⟨a, ha, _⟩ := h.cell 0 x rfl
      cases ha
  subst this
  exact ⟨rfl, h.len⟩
theorem Sees.at_ (h : Sees w B A n l) {j : Nat} (hj : j < n) : ∃ a : Addr, A = some a ∧ a.block < B ∧ w.cell? (a.add j) = some (.int .u8 (((l.getD j 0).toNat : Nat) : Int)) := by
  have hl : j < l.length := by rw [← h.len]; exact hj
  obtain ⟨a, ha, hb, hc⟩ := h.cell j l[j] (List.getElem?_eq_getElem hl)
  refine ⟨a, ha, hb, ?_⟩
  rw [hc]
  simp [byt, List.getD, List.getElem?_eq_getElem hl]

/-- Cut at its front. -/
theorem Sees.drop (h : Sees w B A n l) {k c : Nat} (hk : k ≤ n) (hc : n ≤ c) : Sees w B (if c = k then A else A.map (·.add k)) (n - k) (l.drop k) := by
  refine ⟨by rw [h.len, List.length_drop], fun j u hu => ?_⟩
  rw [List.getElem?_drop] at hu
  have hlt : k + j < l.length := by
    rcases Nat.lt_or_ge (k + j) l.length with g | g
    · exact g
    · rw [List.getElem?_eq_none g] at hu; cases hu
  obtain ⟨a, rfl, hb, hcell⟩ := h.cell _ u hu
  have hn := h.len
  rw [if_neg (by omega)]
  exact ⟨a.add k, rfl, by rw [addr_block]; exact hb, by rw [addr_add]; exact hcell⟩
/-- Cut at its end. -/
theorem Sees.take (h : Sees w B A n l) {k : Nat} (hk : k ≤ n) : Sees w B A k (l.take k) := by
  have hn := h.len
  refine ⟨by rw [List.length_take]; omega, fun j u hu => ?_⟩
  have hj : j < k := by
    rcases Nat.lt_or_ge j k with g | g
    · exact g
    · rw [List.getElem?_eq_none (by rw [List.length_take]; omega)] at hu; cases hu
  rw [List.getElem?_take_of_lt hj] at hu
  exact h.cell j u hu
theorem Sees.of_own {base c : Nat} {e : TypeId} (h : w.ownsRow base e 1 (.slice A n c) n (byts l)) : Sees w w.heap.size A n l := by
  have hl := h.1
  rw [byts_length] at hl
  refine ⟨by omega, fun j u hu => ?_⟩
  have hj : j < l.length := by
    rcases Nat.lt_or_ge j l.length with g | g
    · exact g
    · rw [List.getElem?_eq_none g] at hu; cases hu
  obtain ⟨g, cap, hv, _, hlt⟩ := h.form (by omega)
  injection hv with hA
  subst hA
  refine ⟨⟨g, 0, none⟩, rfl, hlt, h.cells (g := g) rfl j (byt u) ?_⟩
  rw [byts, List.getElem?_map, hu]
  rfl
end

/-- string(b). -/
theorem run_text {P : Program} {w : World} {B n c : Nat} {A : Option Addr} {l : List UInt8} (src dst e : TypeId) (hs : P.underlying src = some (.slice e)) (he : P.underlying e = some (.int .u8)) (hd : P.underlying dst = some .string)
    (h : Sees w B A n l) : (convert src dst (.slice A n c)).run P w = .ok (.string ⟨l.toArray⟩) w := by
  cases A with
  | none =>
    obtain ⟨rfl, rfl⟩ := h.empty
    rw [run_convert_bytes_string w src dst e none 0 c hs he hd]
    rfl
  | some a =>
    obtain rfl := h.len
    refine run_convert_bytes_back (P := P) w src dst e a c l hs he hd (fun j hj => ?_)
    exact h.cells j _ (by rw [byts, List.getElem?_map, List.getElem?_eq_getElem hj]; rfl)

end Go.Proofs.YtlcbhooiinaalaaGreatDoor
namespace Go.Proofs.YtlcbhooiinaalaaGreatDoor
open Go.RowKit

/-- Edges beside one another: none; or one, with what is below it, and the others. -/
inductive Tr where
  | nil
  | cons (name : ByteArray) (sub rest : Tr)

/-- How many edges stand beside each other; how many in all. -/
def Tr.len : Tr → Nat
  | .nil => 0
  | .cons _ _ r => r.len + 1
def Tr.size : Tr → Nat
  | .nil => 0
  | .cons _ k r => k.size + r.size + 1
def Tr.depth : Tr → Nat
  | .nil => 0
  | .cons _ k r => max (k.depth + 1) r.depth
/-- How many bytes its names have. -/
def Tr.bulk : Tr → Nat
  | .nil => 0
  | .cons s k r => s.size + k.bulk + r.bulk
/-- Without its first edges. -/
def Tr.dropT : Tr → Nat → Tr
  | t, 0 => t
  | .nil, _ + 1 => .nil
  | .cons _ _ r, i + 1 => r.dropT i
theorem dropT_zero (t : Tr) : t.dropT 0 = t := by cases t <;> rfl
theorem Tr.len_size (t : Tr) : t.len ≤ t.size := by
  induction t with
  | nil => exact Nat.le_refl _
  | cons s k r _ ih => simp only [Tr.len, Tr.size]; omega

/-- The slice with address A and n elements (of two cells: a string, a slice) reads as t, below block B. -/
def Holds (w : World) (B : Nat) : Option Addr → Nat → Tr → Prop
  | _, n, .nil => n = 0
  | A, n, .cons s k r => ∃ b o, A = some ⟨b, o, none⟩ ∧ b < B ∧ w.cell? ⟨b, o, none⟩ = some (.string s) ∧
      (∃ A' n' c', w.cell? ⟨b, o + 1, none⟩ = some (.slice A' n' c') ∧ n' ≤ c' ∧ c' ≤ maxLen ∧ Holds w B A' n' k) ∧ ∃ m, n = m + 1 ∧ Holds w B (some ⟨b, o + 2, none⟩) m r

section
variable {w w' : World} {B B' : Nat}
theorem Holds.keep (hk : ∀ p : Addr, p.block < B → w'.cell? p = w.cell? p) : ∀ {A : Option Addr} {n : Nat} {t : Tr}, Holds w B A n t → Holds w' B A n t
  | _, _, .nil, h => h
  | _, _, .cons _ _ _, ⟨b, o, e, hb, hs, ⟨A', n', c', hc, hn, hm, hk1⟩, m, hm1, hr⟩ =>
    ⟨b, o, e, hb, (hk _ hb).trans hs, ⟨A', n', c', (hk _ hb).trans hc, hn, hm, Holds.keep hk hk1⟩, m, hm1, Holds.keep hk hr⟩
theorem Holds.more (hB : B ≤ B') : ∀ {A : Option Addr} {n : Nat} {t : Tr}, Holds w B A n t → Holds w B' A n t
  | _, _, .nil, h => h
  | _, _, .cons _ _ _, ⟨b, o, e, hb, hs, ⟨A', n', c', hc, hn, hm, hk1⟩, m, hm1, hr⟩ =>
    ⟨b, o, e, Nat.lt_of_lt_of_le hb hB, hs, ⟨A', n', c', hc, hn, hm, Holds.more hB hk1⟩, m, hm1, Holds.more hB hr⟩
theorem Holds.below {A : Option Addr} {n : Nat} {t : Tr} (h : Holds w B A n t) (hb : Below B w w') : Holds w' B A n t := h.keep fun _ hp => hb.cell hp
theorem Holds.len : ∀ {A : Option Addr} {n : Nat} {t : Tr}, Holds w B A n t → n = t.len
  | _, _, .nil, h => h
  | _, _, .cons _ _ _, ⟨_, _, _, _, _, _, m, hm1, hr⟩ => by rw [hm1, Holds.len hr]; rfl
theorem Holds.none_ (w : World) (B : Nat) (A : Option Addr) : Holds w B A 0 .nil := rfl
/-- Cut at its front. -/
theorem Holds.tail {b o n c : Nat} {s : ByteArray} {k r : Tr} (h : Holds w B (some ⟨b, o, none⟩) (n + 1) (.cons s k r)) (hc : n + 1 ≤ c) : Holds w B (some (if c = 1 then ⟨b, o, none⟩ else ⟨b, o + 2, none⟩)) n r := by
  obtain ⟨b', o', e, hb, hs, _, m, hm, hr⟩ := h
  cases e
  obtain rfl : n = m := by omega
  by_cases h1 : c = 1
  · obtain rfl : n = 0 := by omega
    have : r = .nil := by
      cases r with
      | nil => rfl
      | cons _ _ _ =>
        obtain ⟨_, _, _, _, _, _, m, hm, _⟩ := hr
        omega
    subst this
    rfl
  · rw [if_neg h1]
    exact hr
end

/-- An edge as it is handed out: how deep, its name, what is below it (as a slice). -/
structure Handed where
  deep : Nat
  name : ByteArray
  at_ : Option Addr
  n : Nat
  c : Nat
def Handed.args (x : Handed) : Array Value := #[.int .i64 x.deep, .agg #[.string x.name, .slice x.at_ x.n x.c]]
/-- What is told of it whatever the memory. -/
def Handed.word (x : Handed) : Nat × ByteArray × Nat := (x.deep, x.name, x.n)
/-- All edges, each ahead of what is below it, in order. -/
def Tr.flat : Nat → Tr → List (Nat × ByteArray × Nat)
  | _, .nil => []
  | d, .cons s k r => (d, s, k.len) :: (k.flat (d + 1) ++ r.flat d)
theorem Tr.flat_length (t : Tr) : ∀ d, (t.flat d).length = t.size := by
  induction t with
  | nil => intro d; rfl
  | cons s k r ih1 ih2 => intro d; simp only [Tr.flat, Tr.size, List.length_cons, List.length_append, ih1, ih2]

/-- The edges as they lie in memory. -/
def Walks (w : World) (B : Nat) : Option Addr → Nat → Nat → Tr → List Handed → Prop
  | _, n, _, .nil, xs => xs = [] ∧ n = 0
  | A, n, d, .cons s k r, xs => ∃ b o A' n' c' ys zs, A = some ⟨b, o, none⟩ ∧ b < B ∧ w.cell? ⟨b, o, none⟩ = some (.string s) ∧ w.cell? ⟨b, o + 1, none⟩ = some (.slice A' n' c') ∧ n' ≤ c' ∧ c' ≤ maxLen ∧
      Walks w B A' n' (d + 1) k ys ∧ n' = k.len ∧ n = r.len + 1 ∧ Walks w B (some ⟨b, o + 2, none⟩) r.len d r zs ∧ xs = ⟨d, s, A', n', c'⟩ :: (ys ++ zs)
theorem Holds.walks {w : World} {B : Nat} : ∀ {A : Option Addr} {n : Nat} {t : Tr} (d : Nat), Holds w B A n t → ∃ xs, Walks w B A n d t xs
  | _, _, .nil, _, h => ⟨[], rfl, h⟩
  | _, _, .cons s k r, d, ⟨b, o, e, hb, hs, ⟨A', n', c', hc, hn, hm, hk1⟩, m, hm1, hr⟩ => by
    obtain ⟨ys, hy⟩ := hk1.walks (d + 1)
    obtain ⟨zs, hz⟩ := hr.walks d
    have h1 := hr.len
    subst h1
    exact ⟨_, b, o, A', n', c', ys, zs, e, hb, hs, hc, hn, hm, hy, hk1.len, hm1, hz, rfl⟩
theorem Walks.words {w : World} {B : Nat} : ∀ {A : Option Addr} {n d : Nat} {t : Tr} {xs : List Handed}, Walks w B A n d t xs → xs.map Handed.word = t.flat d
  | _, _, _, .nil, _, h => by rw [show _ = [] from h.1]; rfl
  | _, _, _, .cons s k r, _, ⟨b, o, A', n', c', ys, zs, e, hb, hs, hc, hn, hm, hy, hl, hl2, hz, hx⟩ => by
    rw [hx]
    simp only [List.map_cons, List.map_append, Tr.flat, hy.words, hz.words, Handed.word, hl]
theorem Walks.len {w : World} {B : Nat} : ∀ {A : Option Addr} {n d : Nat} {t : Tr} {xs : List Handed}, Walks w B A n d t xs → n = t.len
  | _, _, _, .nil, _, h => h.2
  | _, _, _, .cons _ _ _, _, ⟨_, _, _, _, _, _, _, _, _, _, _, _, _, _, _, hl2, _, _⟩ => by rw [hl2]; rfl
theorem Walks.keep {w w' : World} {B : Nat} (hk : ∀ p : Addr, p.block < B → w'.cell? p = w.cell? p) : ∀ {A : Option Addr} {n d : Nat} {t : Tr} {xs : List Handed}, Walks w B A n d t xs → Walks w' B A n d t xs
  | _, _, _, .nil, _, h => h
  | _, _, _, .cons _ _ _, _, ⟨b, o, A', n', c', ys, zs, e, hb, hs, hc, hn, hm, hy, hl, hl2, hz, hx⟩ =>
    ⟨b, o, A', n', c', ys, zs, e, hb, (hk _ hb).trans hs, (hk _ hb).trans hc, hn, hm, Walks.keep hk hy, hl, hl2, Walks.keep hk hz, hx⟩
end Go.Proofs.YtlcbhooiinaalaaGreatDoor
namespace Go.Proofs.YtlcbhooiinaalaaGreatDoor
open Go.ChangeShapes Go.WideShapes Go.ChangeAt Go.RowKit

theorem own_ : ownKnob Tryz.prog.godebug = none := by kernel_rfl
theorem laidOut_ : laidOutB Tryz.prog = true := by kernel_rfl

section
variable {H : Type} {enc : TypeId × Value → H}

/-- Arguments read behind a call that wrote only new memory as they read ahead of it. -/
theorem trodAll_below {P : Program} (hl : laidOutB P = true) {W W' : World} (hb : Below W.heap.size W W') :
    ∀ (ts : List TypeId) (vs : List Value) (ds : List (DataW H)) (ps : List MemPlace), (∀ t ∈ ts, P.readableRec t = true ∧ t < P.types.size) → (∀ x ∈ ps, x.block < W.heap.size) →
      DataW.TrodAll enc P W 0 (fun _ => true) true ts vs ds ps → ∀ sp : Nat → Bool, (∀ p ∈ ps, sp p.block = true) → DataW.TrodAll enc P W' 0 sp true ts vs ds ps := by
  intro ts
  induction ts with
  | nil =>
    intro vs ds ps _ _ h sp _
    obtain ⟨rfl, rfl, rfl⟩ := trodAll_nil h
    exact trodAll_mk0
  | cons t ts ih =>
    intro vs ds ps ht hlt h sp hsp
    obtain ⟨v, vs1, d, ds1, p, q, rfl, rfl, rfl, h1, h2⟩ := trodAll_cons h
    have hp : ∀ x ∈ p, x.block < W.heap.size := fun x hx => hlt x (List.mem_append.2 (.inl hx))
    have hq : ∀ x ∈ q, x.block < W.heap.size := fun x hx => hlt x (List.mem_append.2 (.inr hx))
    exact ⟨p, q, WideElems.Trod_stays hl (ht t (by simp)).1 (ht t (by simp)).2 h1 (fun x hx => hb.same (hp x hx)) (fun x hx => hsp x (List.mem_append.2 (.inl hx))),
      ih vs1 ds1 q (fun t' ht' => ht t' (by simp [ht'])) hq h2 sp (fun x hx => hsp x (List.mem_append.2 (.inr hx))), rfl⟩

/-- A law's post: true, and nothing that lay in memory is another one. -/
theorem law_post {P : Program} {f : Func} {s : ChangeSpec} {W W' : World} {args : Array Value} {ds gs : List (DataW H)} {before : List MemPlace} {tb : TypeId} {again : Bool}
    (hl : laidOutB P = true) (hr : ∀ t ∈ f.params.toList, P.readableRec t = true ∧ t < P.types.size) (hrt : f.resultTypes = #[tb]) (htb : P.underlying tb = some .bool) (hv : s.vars = [])
    (hW : DataW.Whole enc P f.params.toList s.vars false W args.toList ds gs before) (hfn : s.fn H ds = { results := [.lit (.bool true)], args := ds }) (hb : Below W.heap.size W W') :
    s.post enc P f false true false again W args (.bool true) W' := by
  have hlt : ∀ p ∈ before, p.block < W.heap.size := fun p hp => hW.lt p hp
  have hW' := hW
  obtain ⟨p, q, hA, hV, rfl, hfz, hnd⟩ := hW
  rw [hv] at hV
  obtain ⟨rfl, rfl⟩ := trodVars_none hV
  have hargs := fun sp hsp => trodAll_below hl hb f.params.toList args.toList ds p hr (fun x hx => hlt x (List.mem_append.2 (.inl hx))) hA sp hsp
  have hres : ∀ (b : Nat) (sp : Nat → Bool) (hd : Bool), DataW.TrodAll enc P W' b sp hd f.resultTypes.toList ((Value.bool true).resultList f.resultTypes.size) (s.fn H (ds ++ [])).results [] := by
    intro b sp hd
    rw [List.append_nil, hfn, hrt]
    exact trodAll_mk1 (shut_bool htb true)
  have hs : (s.fn H (ds ++ [])).args = ds := by rw [List.append_nil, hfn]
  have hs2 : (s.fn H (ds ++ [])).vars = [] := by rw [List.append_nil, hfn]
  have hold : ∀ x ∈ p, (fun b => decide (b < W.heap.size)) x.block = true := fun x hx => by simpa using hlt x (List.mem_append.2 (.inl hx))
  have hvs : ∀ sp : Nat → Bool, DataW.TrodVars enc P W' sp s.vars (s.fn H (ds ++ [])).vars [] := fun sp => by rw [hv, hs2]; rfl
  refine ⟨ds, [], p ++ [], [], p, [], hW', hres _ _ _, by rw [hs]; exact hargs _ hold, hvs _, World.keptBut_mono (fun x hx => ⟨hx, ?_⟩) (hb.frame (· ∈ p ++ [])), fun _ => ⟨ok_one hrt rfl (okWide_bool_mk htb true), (s.fn H (ds ++ [])).results ++ ds, [], p ++ [], ⟨p, [], trodAll_append (by simpa using hargs _ (fun _ _ => rfl)) (hres _ _ _), ?_, rfl, ?_, fun h => (by cases h)⟩, fun x hx _ => hx⟩⟩
  · simp only [List.append_nil] at hx
    exact Or.inr (Or.inl hx)
  · rw [hv]; rfl
  · intro b off hp
    rw [hb.frozen (hlt _ hp)]
    exact hfz b off hp
end
end Go.Proofs.YtlcbhooiinaalaaGreatDoor
namespace Go.Proofs.YtlcbhooiinaalaaGreatDoor
set_option maxRecDepth 100000
open Go.ChangeShapes Go.WideShapes Go.ChangeAt Go.RowKit

theorem cells_u8 : Tryz.prog.cellsOf 5 = 1 := by kernel_rfl

theorem block_lt {w : World} {a : Addr} {v : Value} (h : w.cell? a = some v) : a.block < w.heap.size := by
  rcases Nat.lt_or_ge a.block w.heap.size with g | g
  · exact g
  · rw [World.cell?, Array.getElem?_eq_none g] at h
    cases h

section
variable {H : Type} {enc : TypeId × Value → H}
theorem open_bytes {W : World} {base : Nat} {v : Value} {d : DataW H} {p : List MemPlace} (hval : Value.okWide Tryz.prog W .any base 26 v) (h : DataW.Trod enc Tryz.prog W 0 (fun _ => true) true 26 v d p) :
    ∃ A n c l, v = .slice A n c ∧ Sees W W.heap.size A n l ∧ n ≤ c ∧ c ≤ maxLen := by
  obtain ⟨a1, len, cap, rfl⟩ := okWide_slice Tryz.underlying26 hval
  obtain ⟨fuel, hf⟩ := h
  rcases open_ints Tryz.underlying26 Tryz.underlying5 cells_u8 hf with ⟨hcs, _⟩ | ⟨a, len', cap', zs, hcs, _, hl, hm, hz, _, hcell, hwz⟩
  · simp [Value.cells] at hcs
    obtain ⟨rfl, rfl, rfl⟩ := hcs
    exact ⟨none, 0, 0, [], rfl, Sees.none_ _ _ _, Nat.le_refl _, Nat.zero_le _⟩
  · simp [Value.cells] at hcs
    obtain ⟨rfl, rfl, rfl⟩ := hcs
    simp only [if_true] at hz
    refine ⟨some a, len, cap, (zs.take len).map fun n => UInt8.ofNat n.toNat, rfl, ⟨by simp; omega, fun j u hu => ⟨a, rfl, ?_, ?_⟩⟩, hl, hm⟩
    all_goals
      have hj : j < len := by
        rcases Nat.lt_or_ge j len with g | g
        · exact g
        · rw [List.getElem?_eq_none (by simp; omega)] at hu; cases hu
      have hcj := hcell j (by omega)
    · have := block_lt hcj
      rwa [addr_block] at this
    · rw [hcj]
      have hjz : j < zs.length := by omega
      have e : zs.getD j 0 = zs[j] := by simp [List.getD, List.getElem?_eq_getElem hjz]
      have hw := hwz zs[j] (List.getElem_mem hjz)
      have hr : 0 ≤ zs[j] ∧ zs[j] ≤ 255 := by simpa [Lit.wf, IntKind.min, IntKind.max, IntKind.signed, IntKind.bits] using hw
      rw [List.getElem?_map, List.getElem?_take_of_lt hj, List.getElem?_eq_getElem hjz] at hu
      simp only [Option.map_some, Option.some.injEq] at hu
      subst hu
      rw [e]
      simp only [byt, UInt8.toNat_ofNat']
      congr 2
      omega
end
end Go.Proofs.YtlcbhooiinaalaaGreatDoor
