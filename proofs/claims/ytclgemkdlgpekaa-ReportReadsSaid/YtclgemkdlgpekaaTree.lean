/- Trees: what they are, and how they lie in memory. No conditions. -/
import Derived.Test.YtclgemkdlgpekaaWords
namespace Go.Proofs.Ytclgemkdlgpekaa
open Go.RowKit

/-- Edges beside one another: none; or one, with what is below it, and the others. -/
inductive Tr where
  | nil
  | cons (name : ByteArray) (sub rest : Tr)

/-- How many edges stand beside each other; how many in all. -/
def Tr.len : Tr → Nat
  | .nil => 0
  | .cons _ _ r => r.len + 1
def Tr.size : Tr → Nat
  | .nil => 0
  | .cons _ k r => k.size + r.size + 1
def Tr.depth : Tr → Nat
  | .nil => 0
  | .cons _ k r => max (k.depth + 1) r.depth
/-- How many bytes its names have. -/
def Tr.bulk : Tr → Nat
  | .nil => 0
  | .cons s k r => s.size + k.bulk + r.bulk
/-- Without its first edges. -/
def Tr.dropT : Tr → Nat → Tr
  | t, 0 => t
  | .nil, _ + 1 => .nil
  | .cons _ _ r, i + 1 => r.dropT i
theorem dropT_zero (t : Tr) : t.dropT 0 = t := by cases t <;> rfl
theorem Tr.len_size (t : Tr) : t.len ≤ t.size := by
  induction t with
  | nil => exact Nat.le_refl _
  | cons s k r _ ih => simp only [Tr.len, Tr.size]; omega

/-- The slice with address A and n elements (of two cells: a string, a slice) reads as t, below block B. -/
def Holds (w : World) (B : Nat) : Option Addr → Nat → Tr → Prop
  | _, n, .nil => n = 0
  | A, n, .cons s k r => ∃ b o, A = some ⟨b, o, none⟩ ∧ b < B ∧ w.cell? ⟨b, o, none⟩ = some (.string s) ∧
      (∃ A' n' c', w.cell? ⟨b, o + 1, none⟩ = some (.slice A' n' c') ∧ n' ≤ c' ∧ c' ≤ maxLen ∧ Holds w B A' n' k) ∧ ∃ m, n = m + 1 ∧ Holds w B (some ⟨b, o + 2, none⟩) m r

section
variable {w w' : World} {B B' : Nat}
theorem Holds.keep (hk : ∀ p : Addr, p.block < B → w'.cell? p = w.cell? p) : ∀ {A : Option Addr} {n : Nat} {t : Tr}, Holds w B A n t → Holds w' B A n t
  | _, _, .nil, h => h
  | _, _, .cons _ _ _, ⟨b, o, e, hb, hs, ⟨A', n', c', hc, hn, hm, hk1⟩, m, hm1, hr⟩ =>
    ⟨b, o, e, hb, (hk _ hb).trans hs, ⟨A', n', c', (hk _ hb).trans hc, hn, hm, Holds.keep hk hk1⟩, m, hm1, Holds.keep hk hr⟩
theorem Holds.more (hB : B ≤ B') : ∀ {A : Option Addr} {n : Nat} {t : Tr}, Holds w B A n t → Holds w B' A n t
  | _, _, .nil, h => h
  | _, _, .cons _ _ _, ⟨b, o, e, hb, hs, ⟨A', n', c', hc, hn, hm, hk1⟩, m, hm1, hr⟩ =>
    ⟨b, o, e, Nat.lt_of_lt_of_le hb hB, hs, ⟨A', n', c', hc, hn, hm, Holds.more hB hk1⟩, m, hm1, Holds.more hB hr⟩
theorem Holds.below {A : Option Addr} {n : Nat} {t : Tr} (h : Holds w B A n t) (hb : Below B w w') : Holds w' B A n t := h.keep fun _ hp => hb.cell hp
theorem Holds.len : ∀ {A : Option Addr} {n : Nat} {t : Tr}, Holds w B A n t → n = t.len
  | _, _, .nil, h => h
  | _, _, .cons _ _ _, ⟨_, _, _, _, _, _, m, hm1, hr⟩ => by rw [hm1, Holds.len hr]; rfl
theorem Holds.none_ (w : World) (B : Nat) (A : Option Addr) : Holds w B A 0 .nil := rfl
/-- Cut at its front. -/
theorem Holds.tail {b o n c : Nat} {s : ByteArray} {k r : Tr} (h : Holds w B (some ⟨b, o, none⟩) (n + 1) (.cons s k r)) (hc : n + 1 ≤ c) : Holds w B (some (if c = 1 then ⟨b, o, none⟩ else ⟨b, o + 2, none⟩)) n r := by
  obtain ⟨b', o', e, hb, hs, _, m, hm, hr⟩ := h
  cases e
  obtain rfl : n = m := by omega
  by_cases h1 : c = 1
  · obtain rfl : n = 0 := by omega
    have : r = .nil := by
      cases r with
      | nil => rfl
      | cons _ _ _ =>
        obtain ⟨_, _, _, _, _, _, m, hm, _⟩ := hr
        omega
    subst this
    rfl
  · rw [if_neg h1]
    exact hr
end

/-- An edge as it is handed out: how deep, its name, what is below it (as a slice). -/
structure Handed where
  deep : Nat
  name : ByteArray
  at_ : Option Addr
  n : Nat
  c : Nat
def Handed.args (x : Handed) : Array Value := #[.int .i64 x.deep, .agg #[.string x.name, .slice x.at_ x.n x.c]]
/-- What is told of it whatever the memory. -/
def Handed.word (x : Handed) : Nat × ByteArray × Nat := (x.deep, x.name, x.n)
/-- All edges, each ahead of what is below it, in order. -/
def Tr.flat : Nat → Tr → List (Nat × ByteArray × Nat)
  | _, .nil => []
  | d, .cons s k r => (d, s, k.len) :: (k.flat (d + 1) ++ r.flat d)
theorem Tr.flat_length (t : Tr) : ∀ d, (t.flat d).length = t.size := by
  induction t with
  | nil => intro d; rfl
  | cons s k r ih1 ih2 => intro d; simp only [Tr.flat, Tr.size, List.length_cons, List.length_append, ih1, ih2]

/-- The edges as they lie in memory. -/
def Walks (w : World) (B : Nat) : Option Addr → Nat → Nat → Tr → List Handed → Prop
  | _, n, _, .nil, xs => xs = [] ∧ n = 0
  | A, n, d, .cons s k r, xs => ∃ b o A' n' c' ys zs, A = some ⟨b, o, none⟩ ∧ b < B ∧ w.cell? ⟨b, o, none⟩ = some (.string s) ∧ w.cell? ⟨b, o + 1, none⟩ = some (.slice A' n' c') ∧ n' ≤ c' ∧ c' ≤ maxLen ∧
      Walks w B A' n' (d + 1) k ys ∧ n' = k.len ∧ n = r.len + 1 ∧ Walks w B (some ⟨b, o + 2, none⟩) r.len d r zs ∧ xs = ⟨d, s, A', n', c'⟩ :: (ys ++ zs)
theorem Holds.walks {w : World} {B : Nat} : ∀ {A : Option Addr} {n : Nat} {t : Tr} (d : Nat), Holds w B A n t → ∃ xs, Walks w B A n d t xs
  | _, _, .nil, _, h => ⟨[], rfl, h⟩
  | _, _, .cons s k r, d, ⟨b, o, e, hb, hs, ⟨A', n', c', hc, hn, hm, hk1⟩, m, hm1, hr⟩ => by
    obtain ⟨ys, hy⟩ := hk1.walks (d + 1)
    obtain ⟨zs, hz⟩ := hr.walks d
    have h1 := hr.len
    subst h1
    exact ⟨_, b, o, A', n', c', ys, zs, e, hb, hs, hc, hn, hm, hy, hk1.len, hm1, hz, rfl⟩
theorem Walks.words {w : World} {B : Nat} : ∀ {A : Option Addr} {n d : Nat} {t : Tr} {xs : List Handed}, Walks w B A n d t xs → xs.map Handed.word = t.flat d
  | _, _, _, .nil, _, h => by rw [show _ = [] from h.1]; rfl
  | _, _, _, .cons s k r, _, ⟨b, o, A', n', c', ys, zs, e, hb, hs, hc, hn, hm, hy, hl, hl2, hz, hx⟩ => by
    rw [hx]
    simp only [List.map_cons, List.map_append, Tr.flat, hy.words, hz.words, Handed.word, hl]
theorem Walks.len {w : World} {B : Nat} : ∀ {A : Option Addr} {n d : Nat} {t : Tr} {xs : List Handed}, Walks w B A n d t xs → n = t.len
  | _, _, _, .nil, _, h => h.2
  | _, _, _, .cons _ _ _, _, ⟨_, _, _, _, _, _, _, _, _, _, _, _, _, _, _, hl2, _, _⟩ => by rw [hl2]; rfl
theorem Walks.keep {w w' : World} {B : Nat} (hk : ∀ p : Addr, p.block < B → w'.cell? p = w.cell? p) : ∀ {A : Option Addr} {n d : Nat} {t : Tr} {xs : List Handed}, Walks w B A n d t xs → Walks w' B A n d t xs
  | _, _, _, .nil, _, h => h
  | _, _, _, .cons _ _ _, _, ⟨b, o, A', n', c', ys, zs, e, hb, hs, hc, hn, hm, hy, hl, hl2, hz, hx⟩ =>
    ⟨b, o, A', n', c', ys, zs, e, hb, (hk _ hb).trans hs, (hk _ hb).trans hc, hn, hm, Walks.keep hk hy, hl, hl2, Walks.keep hk hz, hx⟩
end Go.Proofs.Ytclgemkdlgpekaa
