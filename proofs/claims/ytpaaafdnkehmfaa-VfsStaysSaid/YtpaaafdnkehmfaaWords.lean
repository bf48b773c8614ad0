/- Words of one's own for memory: a slice that reads as bytes, seen from below a block; what string() makes of it; append of it onto a row of the call's own. No conditions. -/
import Derived.Test.YtpaaafdnkehmfaaRows
import Derived.WalkKit
import Derived.WalkSpells
import Derived.WalkLawsBesides
import Derived.Deep.AppendLies
import Derived.Deep.Draws
import Derived.Maps.AppendAt
import Derived.Lib.Hide
import Derived.Lib.SliceRun
import Derived.Lib.AppendZerosOnto
namespace Go.Proofs.Ytpaaafdnkehmfaa
open Go.RowKit

/-- A byte as a cell; bytes as cells. -/
def byt (u : UInt8) : Value := .int .u8 (u.toNat : Int)
def byts (l : List UInt8) : List Value := l.map byt

theorem byts_length (l : List UInt8) : (byts l).length = l.length := by simp [byts]
theorem byts_append (a b : List UInt8) : byts (a ++ b) = byts a ++ byts b := by simp [byts]
theorem byts_one (l : List UInt8) : ∀ u ∈ byts l, u.oneCell' = true := by
  intro u hu
  simp only [byts, List.mem_map] at hu
  obtain ⟨b, _, rfl⟩ := hu
  rfl
theorem byts_get {l : List UInt8} {j : Nat} {u : Value} (h : (byts l)[j]? = some u) : ∃ b, l[j]? = some b ∧ u = byt b := by
  simp only [byts, List.getElem?_map, Option.map_eq_some_iff] at h
  obtain ⟨b, hb, rfl⟩ := h
  exact ⟨b, hb, rfl⟩

theorem addr_block (a : Addr) (j : Nat) : (a.add j).block = a.block := by
  unfold Addr.add
  split <;> rfl
theorem addr_add (a : Addr) (i j : Nat) : (a.add i).add j = a.add (i + j) := by
  unfold Addr.add
  by_cases hi : i = 0
  · subst hi; simp
  · by_cases hj : j = 0
    · subst hj; simp
    · simp [hi, hj, Nat.add_assoc]

/-- The slice with address A and n elements reads the bytes l; where there are some they lie in a block below B. -/
structure Sees (w : World) (B : Nat) (A : Option Addr) (n : Nat) (l : List UInt8) : Prop where
  len : n = l.length
  cell : ∀ (j : Nat) (u : UInt8), l[j]? = some u → ∃ a : Addr, A = some a ∧ a.block < B ∧ w.cell? (a.add j) = some (byt u)

section
variable {w w' : World} {B B' n : Nat} {A : Option Addr} {l : List UInt8}

theorem Sees.none_ (w : World) (B : Nat) (A : Option Addr) : Sees w B A 0 [] := ⟨rfl, fun j u h => by simp at h⟩
theorem Sees.keep (h : Sees w B A n l) (hk : ∀ p : Addr, p.block < B → w'.cell? p = w.cell? p) : Sees w' B A n l :=
  ⟨h.len, fun j u hu => by
    obtain ⟨a, ha, hb, hc⟩ := h.cell j u hu
    exact ⟨a, ha, hb, (hk _ (by rw [addr_block]; exact hb)).trans hc⟩⟩
theorem Sees.more (h : Sees w B A n l) (hB : B ≤ B') : Sees w B' A n l :=
  ⟨h.len, fun j u hu => by
    obtain ⟨a, ha, hb, hc⟩ := h.cell j u hu
    exact ⟨a, ha, Nat.lt_of_lt_of_le hb hB, hc⟩⟩
theorem Sees.below (h : Sees w B A n l) (hb : Below B w w') : Sees w' B A n l := h.keep fun _ hp => hb.cell hp
theorem Sees.drew (h : Sees w B A n l) : Sees w.drew B A n l := h.keep fun _ _ => rfl
theorem Sees.drewN (h : Sees w B A n l) (k : Nat) : Sees (w.drewN k) B A n l := h.keep fun _ _ => rfl
theorem Sees.alloc (h : Sees w B A n l) (hB : B ≤ w.heap.size) (o : Obj) : Sees (w.alloc o) B A n l :=
  h.keep fun p hp => World.cell?_alloc_lt w o p (Nat.lt_of_lt_of_le hp hB)
theorem Sees.setCell (h : Sees w B A n l) {p : Addr} (hB : B ≤ p.block) (u : Value) : Sees (w.setCell p u) B A n l :=
  h.keep fun q hq => World.cell?_setCell_other w p q u (fun e => by subst e; omega)
theorem Sees.grown (h : Sees w B A n l) {row : Option Nat} (hg : w.grownBy w' row) (hB : B ≤ w.heap.size) (hr : ∀ g, row = some g → B ≤ g) : Sees w' B A n l :=
  h.keep fun p hp => World.cell?_of_block (hg.block p.block (Nat.lt_of_lt_of_le hp hB) (fun e => by have := hr _ e.symm; omega))

/-- All bytes at one address. -/
theorem Sees.cells {a : Addr} (h : Sees w B (some a) n l) : ∀ j u, (byts l)[j]? = some u → w.cell? (a.add j) = some u := by
  intro j u hu
  obtain ⟨b, hb, rfl⟩ := byts_get hu
  obtain ⟨a', ha, _, hc⟩ := h.cell j b hb
  cases ha
  exact hc
theorem Sees.empty (h : Sees w B none n l) : l = [] ∧ n = 0 := by
  have : l = [] := by
    cases l with
    | nil => rfl
    | cons x xs =>
      obtain ⟨a, ha, _⟩ := h.cell 0 x rfl
      cases ha
  subst this
  exact ⟨rfl, h.len⟩
theorem Sees.at_ (h : Sees w B A n l) {j : Nat} (hj : j < n) : ∃ a : Addr, A = some a ∧ a.block < B ∧ w.cell? (a.add j) = some (.int .u8 (((l.getD j 0).toNat : Nat) : Int)) := by
  have hl : j < l.length := by rw [← h.len]; exact hj
  obtain ⟨a, ha, hb, hc⟩ := h.cell j l[j] (List.getElem?_eq_getElem hl)
  refine ⟨a, ha, hb, ?_⟩
  rw [hc]
  simp [byt, List.getD, List.getElem?_eq_getElem hl]

/-- Cut at its front. -/
theorem Sees.drop (h : Sees w B A n l) {k c : Nat} (hk : k ≤ n) (hc : n ≤ c) : Sees w B (if c = k then A else A.map (·.add k)) (n - k) (l.drop k) := by
  refine ⟨by rw [h.len, List.length_drop], fun j u hu => ?_⟩
  rw [List.getElem?_drop] at hu
  have hlt : k + j < l.length := by
    rcases Nat.lt_or_ge (k + j) l.length with g | g
    · exact g
    · rw [List.getElem?_eq_none g] at hu; cases hu
  obtain ⟨a, rfl, hb, hcell⟩ := h.cell _ u hu
  have hn := h.len
  rw [if_neg (by omega)]
  exact ⟨a.add k, rfl, by rw [addr_block]; exact hb, by rw [addr_add]; exact hcell⟩
/-- Cut at its end. -/
theorem Sees.take (h : Sees w B A n l) {k : Nat} (hk : k ≤ n) : Sees w B A k (l.take k) := by
  have hn := h.len
  refine ⟨by rw [List.length_take]; omega, fun j u hu => ?_⟩
  have hj : j < k := by
    rcases Nat.lt_or_ge j k with g | g
    · exact g
    · rw [List.getElem?_eq_none (by rw [List.length_take]; omega)] at hu; cases hu
  rw [List.getElem?_take_of_lt hj] at hu
  exact h.cell j u hu
theorem Sees.of_own {base c : Nat} {e : TypeId} (h : w.ownsRow base e 1 (.slice A n c) n (byts l)) : Sees w w.heap.size A n l := by
  have hl := h.1
  rw [byts_length] at hl
  refine ⟨by omega, fun j u hu => ?_⟩
  have hj : j < l.length := by
    rcases Nat.lt_or_ge j l.length with g | g
    · exact g
    · rw [List.getElem?_eq_none g] at hu; cases hu
  obtain ⟨g, cap, hv, _, hlt⟩ := h.form (by omega)
  injection hv with hA
  subst hA
  refine ⟨⟨g, 0, none⟩, rfl, hlt, h.cells (g := g) rfl j (byt u) ?_⟩
  rw [byts, List.getElem?_map, hu]
  rfl
end

/-- string(b). -/
theorem run_text {P : Program} {w : World} {B n c : Nat} {A : Option Addr} {l : List UInt8} (src dst e : TypeId) (hs : P.underlying src = some (.slice e)) (he : P.underlying e = some (.int .u8)) (hd : P.underlying dst = some .string)
    (h : Sees w B A n l) : (convert src dst (.slice A n c)).run P w = .ok (.string ⟨l.toArray⟩) w := by
  cases A with
  | none =>
    obtain ⟨rfl, rfl⟩ := h.empty
    rw [run_convert_bytes_string w src dst e none 0 c hs he hd]
    rfl
  | some a =>
    obtain rfl := h.len
    refine run_convert_bytes_back (P := P) w src dst e a c l hs he hd (fun j hj => ?_)
    exact h.cells j _ (by rw [byts, List.getElem?_map, List.getElem?_eq_getElem hj]; rfl)

end Go.Proofs.Ytpaaafdnkehmfaa
