/- tree.Names: the names of some trees' first edges, in order, each once. Conditions: fewer than 2^40 of them. -/
import Derived.Test.YtapgaglkkgbgkaaGreatDoorMake
import Derived.Test.YtapgaglkkgbgkaaGreatDoorSorted
namespace Go.Proofs.YtapgaglkkgbgkaaGreatDoor
open Go.RowKit
set_option maxRecDepth 100000

def Tr.names : Tr → List ByteArray
  | .nil => []
  | .cons s _ r => s :: r.names
theorem names_drop : ∀ (t : Tr) (k : Nat), (t.dropT k).names = t.names.drop k
  | t, 0 => by rw [dropT_zero]; rfl
  | .nil, k + 1 => by simp [Tr.dropT, Tr.names]
  | .cons s k0 r, k + 1 => by simp only [Tr.dropT, Tr.names, List.drop_succ_cons]; exact names_drop r k

structure Slc where
  at_ : Option Addr
  n : Nat
  c : Nat
  t : Tr
def Forest (w : World) (B : Nat) (A : Option Addr) (xs : List Slc) : Prop :=
  ∀ j x, xs[j]? = some x → ∃ b o, A = some ⟨b, o, none⟩ ∧ b < B ∧ w.cell? ⟨b, o + j, none⟩ = some (.slice x.at_ x.n x.c) ∧ Holds w B x.at_ x.n x.t
theorem Forest.keep {w w' : World} {B : Nat} {A : Option Addr} {xs : List Slc} (h : Forest w B A xs) (hk : ∀ p : Addr, p.block < B → w'.cell? p = w.cell? p) : Forest w' B A xs := by
  intro j x hx
  obtain ⟨b, o, e, hb, hc, hh⟩ := h j x hx
  exact ⟨b, o, e, hb, (hk _ hb).trans hc, hh.keep hk⟩
def strs (l : List ByteArray) : List Value := l.map Value.string
theorem elem_str : Elem Tryz.prog 28 9 (.string ⟨#[]⟩) 1 16 := ⟨Tryz.underlying28, by kernel_rfl, rfl, by omega⟩
theorem strs_one (l : List ByteArray) : ∀ u ∈ strs l, u.oneCell' = true := by
  intro u hu
  simp only [strs, List.mem_map] at hu
  obtain ⟨x, _, rfl⟩ := hu
  rfl

def namesOf (L : List ByteArray) : List (List UInt8) := once (sorted (L.map (·.data.toList)))

end Go.Proofs.YtapgaglkkgbgkaaGreatDoor
