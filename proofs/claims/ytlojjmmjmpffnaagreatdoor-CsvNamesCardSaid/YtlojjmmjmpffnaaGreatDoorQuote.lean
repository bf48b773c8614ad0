/- quote: a name, quoted, behind bytes of the call's own. Conditions: lengths below 2^40. -/
import Derived.Test.YtlojjmmjmpffnaaGreatDoorGrow
import Derived.Deep.RegionLaw
import Derived.Outline
namespace Go.Proofs.YtlojjmmjmpffnaaGreatDoor
open Go.RowKit
set_option maxRecDepth 100000

/-- A digit, a byte, a text as quote writes them. -/
def dig16 (n : Nat) : UInt8 := (UInt8.ofNat (if n < 10 then 48 + n else 87 + n))
def quoB (c : UInt8) : List UInt8 :=
  if c.toNat = 34 ∨ c.toNat = 92 then [92, c] else if c.toNat < 32 ∨ 126 < c.toNat then [92, 120, dig16 (c.toNat / 16), dig16 (c.toNat % 16)] else [c]
def quoL (l : List UInt8) : List UInt8 := l.flatMap quoB
def quo (l : List UInt8) : List UInt8 := [34] ++ quoL l ++ [34]
theorem quoB_le (c : UInt8) : (quoB c).length ≤ 4 := by
  unfold quoB
  split
  · simp
  · split <;> simp
theorem quoL_le (l : List UInt8) : (quoL l).length ≤ 4 * l.length := by
  induction l with
  | nil => exact Nat.le_refl _
  | cons c l ih =>
    have := quoB_le c
    simp only [quoL, List.flatMap_cons, List.length_append, List.length_cons] at ih ⊢
    omega

/-- From w0 to w a row (at A now) was grown: nothing else that lay has turned. -/
structure Grew (w0 w : World) (row : Option Nat) (A : Option Addr) : Prop where
  by_ : w0.grownBy w row
  at_ : ∀ a, A = some a → w0.heap.size ≤ a.block ∨ some a.block = row
theorem Grew.refl (w : World) (A : Option Addr) (n c : Nat) : Grew w w (Value.slice A n c).ownBlock A :=
  ⟨World.grownBy.refl w _, fun a ha => .inr (by subst ha; rfl)⟩
theorem Grew.alloc {w0 w : World} {row : Option Nat} {A : Option Addr} (h : Grew w0 w row A) (o : Obj) : Grew w0 (w.alloc o) row A :=
  ⟨⟨h.by_.os, h.by_.tape, h.by_.output, by simp; exact Nat.le_succ_of_le h.by_.size, fun k hk hn => (Below.heap_alloc w o k (by have := h.by_.size; omega)).trans (h.by_.block k hk hn)⟩, h.at_⟩
theorem Grew.drew {w0 w : World} {row : Option Nat} {A : Option Addr} (h : Grew w0 w row A) : Grew w0 w.drew row A := ⟨⟨h.by_.os, h.by_.tape, h.by_.output, h.by_.size, h.by_.block⟩, h.at_⟩
theorem Grew.step {w0 w w' : World} {row : Option Nat} {A A' : Option Addr} {n c : Nat} (h : Grew w0 w row A) (hg : w.grownBy w' (Value.slice A n c).ownBlock) (hat : ∀ a, A' = some a → a.block = w.heap.size ∨ some a.block = (Value.slice A n c).ownBlock) : Grew w0 w' row A' := by
  have hs := h.by_.size
  refine ⟨⟨hg.os.trans h.by_.os, hg.tape.trans h.by_.tape, hg.output.trans h.by_.output, Nat.le_trans hs hg.size, fun k hk hn => (hg.block k (by omega) (fun e => ?_)).trans (h.by_.block k hk hn)⟩, fun a ha => ?_⟩
  · cases A with
    | none => simp [Value.ownBlock] at e
    | some a =>
      simp only [Value.ownBlock, Option.some.injEq] at e
      rcases h.at_ a rfl with h1 | h1
      · omega
      · exact hn (by rw [e]; exact h1)
  · rcases hat a ha with e | e
    · exact .inl (by omega)
    · cases A with
      | none => simp [Value.ownBlock] at e
      | some a1 =>
        simp only [Value.ownBlock, Option.some.injEq] at e
        rcases h.at_ a1 rfl with h1 | h1
        · exact .inl (by omega)
        · exact .inr (by rw [e]; exact h1)

theorem take_snoc_ (s : ByteArray) (k : Nat) (h : k < s.size) : s.data.toList.take (k + 1) = s.data.toList.take k ++ [s[k]] := by
  rw [List.take_succ_eq_append_getElem (by simpa using h)]; rfl
theorem quoL_snoc (l : List UInt8) (c : UInt8) : quoL (l ++ [c]) = quoL l ++ quoB c := by simp [quoL]

/-- The digits. -/
theorem digits_at (d : Nat) (hd : d < 16) (h : d < (ByteArray.mk #[48, 49, 50, 51, 52, 53, 54, 55, 56, 57, 97, 98, 99, 100, 101, 102]).size) : (ByteArray.mk #[48, 49, 50, 51, 52, 53, 54, 55, 56, 57, 97, 98, 99, 100, 101, 102])[d] = dig16 d := by
  have : d = 0 ∨ d = 1 ∨ d = 2 ∨ d = 3 ∨ d = 4 ∨ d = 5 ∨ d = 6 ∨ d = 7 ∨ d = 8 ∨ d = 9 ∨ d = 10 ∨ d = 11 ∨ d = 12 ∨ d = 13 ∨ d = 14 ∨ d = 15 := by omega
  rcases this with rfl | rfl | rfl | rfl | rfl | rfl | rfl | rfl | rfl | rfl | rfl | rfl | rfl | rfl | rfl | rfl <;> rfl
theorem and_15 (c : Nat) (hc : c < 256) : bits .and .u8 (c : Int) 15 = (c : Int) % 16 := by
  show IntKind.u8.wrap (((BitVec.ofInt 8 c &&& BitVec.ofInt 8 15).toNat : Nat) : Int) = _
  have e : (BitVec.ofInt 8 15).toNat = 2 ^ 4 - 1 := by decide
  have h : ((BitVec.ofInt 8 (c : Int)).toNat : Int) = c := by
    rw [BitVec.toNat_ofInt]
    omega
  rw [BitVec.toNat_and, e, Nat.and_two_pow_sub_one_eq_mod, IntKind.wrap_u8]
  omega

set_option maxHeartbeats 1000000 in
/-- A slice that is full: what is put behind it goes to a new row. -/
theorem run_append_full {w : World} {base n m : Nat} {A : Option Addr} {l l2 : List UInt8} {tx : TypeId} {x : Value} (ty : TypeId) (hs : Sees w w.heap.size A n l) (hx : From Tryz.prog w tx x m l2) (h46 : n + m ≤ 70368744177664) (hm : 0 < m) (hbase : base ≤ w.heap.size) :
    ∃ c' w', (Builtin.append_ #[26, tx] ty #[.slice A n n, x]).run Tryz.prog w = .ok (.slice (some ⟨w.heap.size, 0, none⟩) (n + m) c') w' ∧ Own w' base (some ⟨w.heap.size, 0, none⟩) (n + m) c' (l ++ l2) ∧ w.grownBy w' none := by
  obtain ⟨i, hi, hz, hsz, hb⟩ := info_parts info_u8
  have hzs : (Value.int IntKind.u8 0).cells.size = 1 := rfl
  have hsrc := hx.src
  rw [← hsz] at hsrc
  have hlen := hs.len
  have hlen2 := hx.len
  have hold : (Builtin.firstCells i.size n (.slice A n n)).run Tryz.prog w.drew = .ok (byts l).toArray w.drew := by
    rcases A with _ | a
    · obtain ⟨rfl, rfl⟩ := hs.empty
      exact run_firstCells_none w.drew i.size 0 0 0
    · exact run_firstCells_some w.drew i.size n a n n (byts l) (by rw [byts_length, hsz]; omega) (by simpa using hs.cells)
  have hg : n < n + m := by omega
  have hr := run_append_grow_src (P := Tryz.prog) w 26 tx ty 5 i (.int .u8 0) Tryz.underlying26 hi hz A n n (byts l) hold x m (byts l2) hsrc hg (by omega) (growslice_fits hg (by rw [hb]; omega))
  have hge := grownCap_ge w (n + m) n 5
  have hcm := grownCap_le_maxLen w (n + m) n 5 (by simp only [maxLen]; omega)
  refine ⟨_, _, hr, ⟨⟨by rw [byts_length, List.length_append]; omega, .inr ⟨w.heap.size, _, _, rfl, hbase, heap_alloc_new w.drew _, hge, hcm, ?_, ?_⟩⟩⟩, ⟨rfl, rfl, rfl, by simp, fun k hk _ => heap_alloc_old w.drew _ hk⟩⟩
  · simp only [Array.size_append, List.size_toArray, size_zeroCells, hzs, List.length_append, byts_length]
    omega
  · simp only [Array.toList_append, byts_append]
    rw [List.take_append_of_le_length (by simp [byts_length]; omega), List.take_of_length_le (by simp [byts_length]; omega)]
end Go.Proofs.YtlojjmmjmpffnaaGreatDoor
