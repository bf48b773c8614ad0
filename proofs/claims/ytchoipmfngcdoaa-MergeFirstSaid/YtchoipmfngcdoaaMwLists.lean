/- Slices of one-cell elements (ints, strings) that came in, seen as lists; opened as arguments. · A range over a function whose iterator keeps state of its own in cells: whose cells they are is told by their element types. No conditions. -/
import Derived.Test.YtchoipmfngcdoaaMwWords
import Derived.RangeFuncNested
import Derived.RangeFuncBound
import Derived.RangeFuncCalls
import Derived.RangeFuncLeaves
import Derived.Test.YtchoipmfngcdoaaRows
import Derived.WalkKit
import Derived.Deep.Draws
namespace Go.Proofs.Ytchoipmfngcdoaa
set_option maxRecDepth 100000
open Go.ChangeShapes Go.WideShapes Go.ChangeAt Go.RowKit

/-- The slice with address A and n elements of one cell holds the values vs, below block B. -/
structure SeesV (w : World) (B : Nat) (A : Option Addr) (n : Nat) (vs : List Value) : Prop where
  len : n = vs.length
  cell : ∀ (j : Nat) (u : Value), vs[j]? = some u → ∃ b o, A = some ⟨b, o, none⟩ ∧ b < B ∧ w.cell? ⟨b, o + j, none⟩ = some u
theorem SeesV.keep {w w' : World} {B n : Nat} {A : Option Addr} {vs : List Value} (h : SeesV w B A n vs) (hk : ∀ p : Addr, p.block < B → w'.cell? p = w.cell? p) : SeesV w' B A n vs :=
  ⟨h.len, fun j u hu => by
    obtain ⟨b, o, ha, hb, hc⟩ := h.cell j u hu
    exact ⟨b, o, ha, hb, (hk _ hb).trans hc⟩⟩
theorem SeesV.below {w w' : World} {B n : Nat} {A : Option Addr} {vs : List Value} (h : SeesV w B A n vs) (hb : Below B w w') : SeesV w' B A n vs := h.keep fun _ hp => hb.cell hp
theorem SeesV.int {w : World} {B n j : Nat} {A : Option Addr} {l : List Int} (h : SeesV w B A n (l.map (Value.int .i64))) (hj : j < n) : ∃ b o, A = some ⟨b, o, none⟩ ∧ b < B ∧ w.cell? ⟨b, o + j, none⟩ = some (.int .i64 (l.getD j 0)) := by
  have hl : j < l.length := by rw [h.len, List.length_map] at hj; exact hj
  refine h.cell j _ ?_
  simp [List.getD, List.getElem?_eq_getElem hl]
theorem SeesV.str {w : World} {B n j : Nat} {A : Option Addr} {l : List ByteArray} (h : SeesV w B A n (l.map Value.string)) (hj : j < n) : ∃ b o, A = some ⟨b, o, none⟩ ∧ b < B ∧ w.cell? ⟨b, o + j, none⟩ = some (.string (l.getD j ⟨#[]⟩)) := by
  have hl : j < l.length := by rw [h.len, List.length_map] at hj; exact hj
  refine h.cell j _ ?_
  simp [List.getD, List.getElem?_eq_getElem hl]

theorem cells_i64 : Try.prog.cellsOf 3 = 1 := by kernel_rfl
theorem plain_addr {w : World} {a : Addr} {v : Value} (h : w.cell? (a.add 0) = some v) : a.spot = none := by simpa [Addr.add] using World.cell?_spot h

section
variable {H : Type} {enc : TypeId × Value → H}
theorem open_ints_ {W : World} {base : Nat} {v : Value} {d : DataW H} {p : List MemPlace} (hval : Value.okWide Try.prog W .any base 41 v) (h : DataW.Trod enc Try.prog W 0 (fun _ => true) true 41 v d p) :
    ∃ (A : Option Addr) (n c : Nat) (l : List Int), v = .slice A n c ∧ (SeesV W W.heap.size A n (l.map (Value.int .i64)) ∧ ∀ x ∈ l, -9223372036854775808 ≤ x ∧ x ≤ 9223372036854775807) ∧ n ≤ c ∧ c ≤ maxLen := by
  obtain ⟨a1, len, cap, rfl⟩ := okWide_slice Try.underlying41 hval
  obtain ⟨fuel, hf⟩ := h
  rcases open_ints Try.underlying41 Try.underlying3 cells_i64 hf with ⟨hcs, _⟩ | ⟨a, len', cap', zs, hcs, _, hl, hm, hz, _, hcell, hwz⟩
  · simp [Value.cells] at hcs
    obtain ⟨rfl, rfl, rfl⟩ := hcs
    exact ⟨none, 0, 0, [], rfl, ⟨⟨rfl, fun j u h => by simp at h⟩, fun x hx => by cases hx⟩, Nat.le_refl _, Nat.zero_le _⟩
  · simp [Value.cells] at hcs
    obtain ⟨rfl, rfl, rfl⟩ := hcs
    simp only [if_true] at hz
    refine ⟨some a, len, cap, zs.take len, rfl, ⟨⟨by simp; omega, fun j u hu => ?_⟩, fun x hx => ?_⟩, hl, hm⟩
    · have hj : j < len := by
        rcases Nat.lt_or_ge j len with g | g
        · exact g
        · rw [List.getElem?_eq_none (by simp; omega)] at hu; cases hu
      have hcj := hcell j (by omega)
      have hsp := plain_addr (hcell 0 (by omega))
      obtain ⟨ab, ao, sp⟩ := a
      simp only at hsp
      subst hsp
      have hjz : j < zs.length := by omega
      have e : zs.getD j 0 = zs[j] := by simp [List.getD, List.getElem?_eq_getElem hjz]
      rw [List.getElem?_map, List.getElem?_take_of_lt hj, List.getElem?_eq_getElem hjz] at hu
      simp only [Option.map_some, Option.some.injEq] at hu
      subst hu
      rw [Addr.add_lit, e] at hcj
      exact ⟨ab, ao, rfl, block_lt hcj, hcj⟩
    · have hw := hwz x (List.mem_of_mem_take hx)
      simpa [Lit.wf, IntKind.min, IntKind.max, IntKind.signed, IntKind.bits] using hw
theorem cells_str : Try.prog.cellsOf 9 = 1 := by kernel_rfl
theorem open_strs_ {W : World} {base : Nat} {v : Value} {d : DataW H} {p : List MemPlace} (hval : Value.okWide Try.prog W .any base 35 v) (h : DataW.Trod enc Try.prog W 0 (fun _ => true) true 35 v d p) :
    ∃ (A : Option Addr) (n c : Nat) (l : List ByteArray), v = .slice A n c ∧ (SeesV W W.heap.size A n (l.map Value.string) ∧ ∀ x ∈ l, x.size ≤ maxLen) ∧ n ≤ c ∧ c ≤ maxLen := by
  obtain ⟨a1, len, cap, rfl⟩ := okWide_slice Try.underlying35 hval
  obtain ⟨fuel, hf⟩ := h
  rcases open_strings Try.underlying35 Try.underlying9 cells_str hf with ⟨hcs, _⟩ | ⟨a, len', cap', zs, hcs, _, hl, hm, hz, _, hcell, hwz⟩
  · simp [Value.cells] at hcs
    obtain ⟨rfl, rfl, rfl⟩ := hcs
    exact ⟨none, 0, 0, [], rfl, ⟨⟨rfl, fun j u h => by simp at h⟩, fun x hx => by cases hx⟩, Nat.le_refl _, Nat.zero_le _⟩
  · simp [Value.cells] at hcs
    obtain ⟨rfl, rfl, rfl⟩ := hcs
    simp only [if_true] at hz
    refine ⟨some a, len, cap, zs.take len, rfl, ⟨⟨by simp; omega, fun j u hu => ?_⟩, fun x hx => hwz x (List.mem_of_mem_take hx)⟩, hl, hm⟩
    have hj : j < len := by
      rcases Nat.lt_or_ge j len with g | g
      · exact g
      · rw [List.getElem?_eq_none (by simp; omega)] at hu; cases hu
    have hcj := hcell j (by omega)
    have hsp := plain_addr (hcell 0 (by omega))
    obtain ⟨ab, ao, sp⟩ := a
    simp only at hsp
    subst hsp
    have hjz : j < zs.length := by omega
    have e : zs.getD j ByteArray.empty = zs[j] := by simp [List.getD, List.getElem?_eq_getElem hjz]
    rw [List.getElem?_map, List.getElem?_take_of_lt hj, List.getElem?_eq_getElem hjz] at hu
    simp only [Option.map_some, Option.some.injEq] at hu
    subst hu
    rw [Addr.add_lit, e] at hcj
    exact ⟨ab, ao, rfl, block_lt hcj, hcj⟩
end
end Go.Proofs.Ytchoipmfngcdoaa
namespace Go.Proofs.Ytchoipmfngcdoaa
open Go.RowKit

/-- What p picks, and all that lies below block B, lies as it lay. -/
structure Keeps (p : Obj → Bool) (B : Nat) (W W' : World) : Prop where
  os : W'.os = W.os
  tape : W'.tape = W.tape
  output : W'.output = W.output
  size : W.heap.size ≤ W'.heap.size
  low : ∀ k : Nat, k < B → W'.heap[k]? = W.heap[k]?
  same : ∀ (k : Nat) (o : Obj), W.heap[k]? = some o → p o = true → W'.heap[k]? = some o

/-- Cells; cells of an element type that T picks; cells of another one; all but those that T picks. -/
def pC : Obj → Bool
  | .cells _ _ _ => true
  | _ => false
def pT (T : TypeId → Bool) : Obj → Bool
  | .cells _ e _ => T e
  | _ => false
def pI (T : TypeId → Bool) : Obj → Bool
  | .cells _ e _ => !T e
  | _ => false
/-- What an iterator must keep: all but its own cells. -/
def pA (T : TypeId → Bool) : Obj → Bool
  | .cells _ e _ => !T e
  | _ => true
/-- What a round must keep: the iterator's cells, and what is no cells. -/
def pB (T : TypeId → Bool) : Obj → Bool
  | .cells _ e _ => T e
  | _ => true

section
variable {p q : Obj → Bool} {B B' : Nat} {W W' W'' : World} {T : TypeId → Bool}
theorem Keeps.refl (p : Obj → Bool) (B : Nat) (W : World) : Keeps p B W W := ⟨rfl, rfl, rfl, Nat.le_refl _, fun _ _ => rfl, fun _ _ h _ => h⟩
theorem Keeps.trans (h : Keeps p B W W') (k : Keeps p B W' W'') : Keeps p B W W'' :=
  ⟨k.os.trans h.os, k.tape.trans h.tape, k.output.trans h.output, Nat.le_trans h.size k.size, fun i hi => (k.low i hi).trans (h.low i hi), fun i o ho hp => k.same i o (h.same i o ho hp) hp⟩
theorem Keeps.of (h : Keeps p B W W') (hq : ∀ o, q o = true → p o = true) : Keeps q B W W' :=
  ⟨h.os, h.tape, h.output, h.size, h.low, fun i o ho hp => h.same i o ho (hq o hp)⟩
theorem Keeps.less (h : Keeps p B W W') (hB : B' ≤ B) : Keeps p B' W W' :=
  ⟨h.os, h.tape, h.output, h.size, fun i hi => h.low i (Nat.lt_of_lt_of_le hi hB), h.same⟩
theorem Keeps.below (h : Keeps p B W W') : Below B W W' := ⟨h.os, h.tape, h.output, h.size, h.low⟩
theorem pT_pB {o : Obj} (h : pT T o = true) : pB T o = true := by cases o <;> simp_all [pT, pB]
theorem pT_pC {o : Obj} (h : pT T o = true) : pC o = true := by cases o <;> simp_all [pT, pC]
theorem pI_pA {o : Obj} (h : pI T o = true) : pA T o = true := by cases o <;> simp_all [pI, pA]
theorem pI_pC {o : Obj} (h : pI T o = true) : pC o = true := by cases o <;> simp_all [pI, pC]
/-- Only new blocks, and what lay at one block whose object p does not pick. -/
theorem Keeps.grown {row : Option Nat} (hg : W.grownBy W' row) (hB : B ≤ W.heap.size) (hr : ∀ g, row = some g → B ≤ g ∧ ∀ o, W.heap[g]? = some o → p o = false) : Keeps p B W W' :=
  ⟨hg.os, hg.tape, hg.output, hg.size, fun k hk => hg.block k (by omega) (fun e => by have := (hr k e.symm).1; omega), fun k o ho hp => by
    refine (hg.block k (Array.getElem?_eq_some_iff.1 ho).1 (fun e => ?_)).trans ho
    rw [(hr k e.symm).2 o ho] at hp
    cases hp⟩
theorem Keeps.new (h : Below W.heap.size W W') (hB : B ≤ W.heap.size) : Keeps p B W W' :=
  ⟨h.os, h.tape, h.output, h.size, fun k hk => h.block k (by omega), fun k o ho _ => (h.block k (Array.getElem?_eq_some_iff.1 ho).1).trans ho⟩
theorem Keeps.alloc (p : Obj → Bool) (W : World) (o : Obj) (hB : B ≤ W.heap.size) : Keeps p B W (W.alloc o) := Keeps.new ((Below.refl _ _).alloc (Nat.le_refl _) _) hB
theorem Keeps.drew (h : Keeps p B W W') : Keeps p B W W'.drew := ⟨h.os, h.tape, h.output, h.size, h.low, h.same⟩
theorem Keeps.drewN (h : Keeps p B W W') (n : Nat) : Keeps p B W (W'.drewN n) := ⟨h.os, h.tape, h.output, h.size, h.low, h.same⟩
theorem Keeps.putObj (W : World) {l : Nat} {o : Obj} (o' : Obj) (hl : W.heap[l]? = some o) (ho : p o = false) (hB : B ≤ l) : Keeps p B W (W.putObj l o') :=
  ⟨rfl, rfl, rfl, by simp, fun k hk => World.putObj_heap_other (by omega), fun k o'' hk hp => by
    by_cases e : k = l
    · subst e; rw [hl] at hk; cases hk; rw [ho] at hp; cases hp
    · exact (World.putObj_heap_other e).trans hk⟩
/-- A block that p picks keeps its cells. -/
theorem Keeps.cell (h : Keeps p B W W') {g : Nat} {o : Obj} (hg : W.heap[g]? = some o) (hp : p o = true) (i : Nat) : W'.cell? ⟨g, i, none⟩ = W.cell? ⟨g, i, none⟩ :=
  World.cell?_of_block ((h.same g o hg hp).trans hg.symm)
theorem Keeps.setCell (W : World) {a : Addr} {o : Obj} (v : Value) (ha : W.heap[a.block]? = some o) (ho : p o = false) (hB : B ≤ a.block) : Keeps p B W (W.setCell a v) :=
  ⟨rfl, rfl, rfl, by simp [World.setCell], fun k hk => Below.heap_setCell W a v k (by omega), fun k o'' hk hp => by
    refine (Below.heap_setCell W a v k (fun e => ?_)).trans hk
    subst e; rw [ha] at hk; cases hk; rw [ho] at hp; cases hp⟩
end

/-- The contract of an iterator that hands out xs, one by one, and keeps all but its own cells (those that T picks). -/
def SeqT {α : Type} (T : TypeId → Bool) (B : Nat) (F : Fence) (n : Nat) (P : Program) (g : Nat) (lb : Array Value) (encs : α → Array Value) (xs : List α) (w : World) : Prop :=
  ∀ (l : Nat) (J Jx : List α → World → Prop) (W : World), Below w.heap.size w W →
    (∀ s A C, J s A → Keeps (pA T) B A C → J s C) → (∀ s A C, Jx s A → Keeps (pA T) B A C → Jx s C) →
    (∀ pre x W1, J pre W1 → (pre ++ [x]) <+: xs → YieldAt F (n - 1) P l (encs x) W1 fun e W' =>
      (e = .returned (.bool true) ∧ J (pre ++ [x]) W' ∧ Keeps (pT T) B W1 W') ∨ (e = .returned (.bool false) ∧ Jx (pre ++ [x]) W')) →
    J [] W →
    CallsIn F n P g (#[.func (.yield l) #[] #[]] ++ lb) W fun e W' => (∃ v, e = .returned v) ∧ (J xs W' ∨ (∃ pre, pre <+: xs ∧ Jx pre W'))

/-- How the body of a round may be left. -/
def roundP {α : Type} (T : TypeId → Bool) (B : Nat) (I : List α → World → Prop) (Ix : Code → List α → World → Prop) (xs : List α) (W : World) : Exit → Act → World → Prop
  | .normal, _, W' => Keeps (pB T) B W W' ∧ I xs W'
  | .ret, _, W' => Keeps (pB T) B W W' ∧ Ix .ret xs W'
  | .exit id, _, W' => Keeps (pB T) B W W' ∧ Ix (.exit id) xs W'
  | .goto t, _, W' => Keeps (pB T) B W W' ∧ Ix (.goto t) xs W'
  | .panic _, _, _ => False
  | .outgrown, _, _ => False

/-- What a caller's invariant must bear: whatever keeps the cells that are not the iterator's. -/
def Bears {β : Type} (T : TypeId → Bool) (B : Nat) (I : β → World → Prop) : Prop := ∀ s A C, I s A → Keeps (pI T) B A C → I s C

theorem wpIn_rangeFunc_T {α : Type} {F : Fence} {n : Nat} {P : Program} {g : Operand} {ps : Array Tmp} {assign body : Code} {Q : Exit → Act → World → Prop} {a : Act} {w : World}
    {T : TypeId → Bool} {B : Nat} (hro : F.round = none) (h1 : 1 ≤ n) {gf : Nat} {lb : Array Value} (hg : a.eval g = .func (.func gf) #[] lb) (hFg : F.fn gf) (eg : ∀ args w, (callFunc gf args).run P w = .ok (.enter gf args) w)
    {encs : α → Array Value} {xs : List α} {w0 : World} (hseq : SeqT T B F (n - 1) P gf lb encs xs w0) (hb0 : Below w0.heap.size w0 w) (hB : B ≤ w.heap.size) (hps : ∀ x, (encs x).size = ps.size)
    (I : List α → World → Prop) (Ix : Code → List α → World → Prop) (hI : Bears T B I) (hIx : ∀ c, Bears T B (Ix c)) (h0 : I [] w)
    (hround : ∀ (l : Nat) (pre : List α) (x : α) (W : World), I pre W → (pre ++ [x]) <+: xs → w.heap.size ≤ W.heap.size →
      assign.wpIn (F.inRound l) (n - 1 - 1) P (Exit.then (fun a₁ W₁ => Keeps (pB T) B W W₁ ∧ ∀ W₂, Keeps pC B W₁ W₂ → W₂.heap.size = W₁.heap.size → body.wpIn (F.inRound l) (n - 1 - 1) P (roundP T B I Ix (pre ++ [x]) W₂) a₁ W₂) (fun _ _ _ => False))
        { tmps := (ps.zip (encs x)).foldl (fun t (p, v) => t.setIfInBounds p v) a.tmps, defers := [] } W)
    (hdone : ∀ (D : Nat) (W : World), w.heap.size ≤ D → I xs W → W.heap[D]? = some (.deferred (some [])) → Q .normal { a with defers := { target := .collected D, args := #[] } :: a.defers } W)
    (hstop : ∀ (D : Nat) (c : Code) (pre : List α) (W : World), w.heap.size ≤ D → pre <+: xs → Ix c pre W → W.heap[D]? = some (.deferred (some [])) → c.wpIn F n P Q { a with defers := { target := .collected D, args := #[] } :: a.defers } W) :
    (Code.rangeFunc g ps assign body).wpIn F n P Q a w := by
  refine wpIn_rangeFunc ?_
  intro fn hfn
  rw [hro]
  obtain ⟨rec, hrec⟩ : ∃ rec : LoopState → Option Code → Loop, rec = fun st pe => { state := st, pending := pe, fn, tmps := a.tmps, params := ps, assign, body, defers := w.heap.size } := ⟨_, rfl⟩
  obtain ⟨W1, hW1⟩ : ∃ W1, (w.alloc (.deferred (some []))).alloc (.loop (rec .ready none)) = W1 := ⟨_, rfl⟩
  have hL1 : W1.heap[w.heap.size + 1]? = some (.loop (rec .ready none)) := by
    rw [← hW1]; have := World.alloc_heap_new (w.alloc (.deferred (some []))) (.loop (rec .ready none)); rwa [World.size_alloc] at this
  have hK1 : W1.heap[w.heap.size]? = some (.deferred (some [])) := by
    rw [← hW1]; exact (Below.heap_alloc _ _ _ (by simp)).trans (World.alloc_heap_new w _)
  have hkw : Keeps (pI T) B w W1 := by
    rw [← hW1]; exact (Keeps.alloc _ w _ hB).trans (Keeps.alloc _ _ _ (by simp; omega))
  have hI1 : I [] W1 := hI _ _ _ h0 hkw
  have hb1 : Below w0.heap.size w0 W1 := by
    rw [← hW1]; exact hb0.trans ((((Below.refl _ w).alloc (Nat.le_refl _) _).alloc (by simp) _).mono hb0.size)
  refine ⟨w.heap.size + 1, [{ target := .collected w.heap.size, args := #[] }], W1, { target := .fn (.func gf) lb, args := #[.func (.yield (w.heap.size + 1)) #[] #[]] }, W1, gf,
    #[.func (.yield (w.heap.size + 1)) #[] #[]] ++ lb, W1, ?_, ?_, ?_, ?_, fun _ => h1, ?_⟩
  · rw [← hW1, hrec]; exact run_enterLoop_outer _ _ _ _ _
  · simp only [resolve, hg]
    simp [go_sem]
  · intro f' hf'; simp [Target.leads] at hf'; subst hf'; exact hFg
  · simp [invoke, go_sem, eg]
  · refine (hseq (w.heap.size + 1)
      (fun pre W => I pre W ∧ W.heap[w.heap.size + 1]? = some (.loop (rec .ready none)) ∧ W.heap[w.heap.size]? = some (.deferred (some [])))
      (fun pre W => ∃ c, Ix c pre W ∧ W.heap[w.heap.size + 1]? = some (.loop (rec .done (some c))) ∧ W.heap[w.heap.size]? = some (.deferred (some [])))
      W1 hb1
      (fun s A C hs hk => ⟨hI s A C hs.1 (hk.of fun _ => pI_pA), hk.same _ _ hs.2.1 rfl, hk.same _ _ hs.2.2 rfl⟩)
      (fun s A C hs hk => by
        obtain ⟨c, hc, hl, hd⟩ := hs
        exact ⟨c, hIx c s A C hc (hk.of fun _ => pI_pA), hk.same _ _ hl rfl, hk.same _ _ hd rfl⟩)
      ?_ ⟨hI1, hL1, hK1⟩).mono ?_
    · -- one round
      rintro pre x W ⟨hi, hl, hk⟩ hlen
      have hy := run_yield (P := P) (args := encs x) hl (by rw [hrec]; exact hps x)
      rw [hrec] at hy
      refine ⟨fn, _, assign, body, hy, roundIn_of_wpIn hfn (wpIn_mono (hround _ pre x W hi hlen (by have := (Array.getElem?_eq_some_iff.1 hl).1; omega)) ?_)⟩
      clear hy
      rintro e a' Wa hx
      cases e with
      | normal =>
        obtain ⟨hka, hbody⟩ := hx
        replace hl := hka.same _ _ hl rfl
        replace hk := hka.same _ _ hk rfl
        have hlt : w.heap.size + 1 < Wa.heap.size := (Array.getElem?_eq_some_iff.1 hl).1
        refine ⟨_, run_beginRound hl (by rw [hrec]), ?_⟩
        have hl2 : (Wa.putObj (w.heap.size + 1) (.loop { rec .ready none with state := .busy })).heap[w.heap.size + 1]? = some (.loop { rec .ready none with state := .busy }) := World.putObj_heap_same hlt
        have hk2 : (Wa.putObj (w.heap.size + 1) (.loop { rec .ready none with state := .busy })).heap[w.heap.size]? = some (.deferred (some [])) := (World.putObj_heap_other (by omega)).trans hk
        have hc2 : Keeps pC B Wa (Wa.putObj (w.heap.size + 1) (.loop { rec .ready none with state := .busy })) := Keeps.putObj _ _ hl rfl (by omega)
        refine wpIn_mono (hbody _ hc2 (by simp)) ?_
        have fin : ∀ (jump : Option Code) (W3 : World), Keeps (pB T) B (Wa.putObj (w.heap.size + 1) (.loop { rec .ready none with state := .busy })) W3 →
            (Instr.endRound (w.heap.size + 1) jump).run P W3 = .ok (.bool jump.isNone) (W3.putObj (w.heap.size + 1) (.loop (rec (if jump.isNone then .ready else .done) jump))) ∧
            Keeps pC B W3 (W3.putObj (w.heap.size + 1) (.loop (rec (if jump.isNone then .ready else .done) jump))) ∧
            (W3.putObj (w.heap.size + 1) (.loop (rec (if jump.isNone then .ready else .done) jump))).heap[w.heap.size + 1]? = some (.loop (rec (if jump.isNone then .ready else .done) jump)) ∧
            (W3.putObj (w.heap.size + 1) (.loop (rec (if jump.isNone then .ready else .done) jump))).heap[w.heap.size]? = some (.deferred (some [])) := fun jump W3 hk3 => by
          have hl3 := hk3.same _ _ hl2 rfl
          have := run_endRound (P := P) jump hl3
          rw [hrec] at this ⊢
          rw [hrec] at hl3
          exact ⟨this, Keeps.putObj _ _ hl3 rfl (by omega), World.putObj_heap_same (Array.getElem?_eq_some_iff.1 hl3).1, (World.putObj_heap_other (by omega)).trans (hk3.same _ _ hk2 rfl)⟩
        rintro e a3 W3 hp
        cases e with
        | normal =>
          obtain ⟨hk3, hi3⟩ := hp
          obtain ⟨hr, hc4, hl4, hk4⟩ := fin none W3 hk3
          exact ⟨_, _, hr, .inl ⟨rfl, ⟨hI _ _ _ hi3 (hc4.of fun _ => pI_pC), hl4, hk4⟩, ((hka.of fun _ => pT_pB).trans (hc2.of fun _ => pT_pC)).trans ((hk3.of fun _ => pT_pB).trans (hc4.of fun _ => pT_pC))⟩⟩
        | ret =>
          obtain ⟨hk3, hi3⟩ := hp
          obtain ⟨hr, hc4, hl4, hk4⟩ := fin (some .ret) W3 hk3
          exact ⟨_, _, hr, .inr ⟨rfl, .ret, hIx _ _ _ _ hi3 (hc4.of fun _ => pI_pC), hl4, hk4⟩⟩
        | exit id =>
          obtain ⟨hk3, hi3⟩ := hp
          obtain ⟨hr, hc4, hl4, hk4⟩ := fin (some (.exit id)) W3 hk3
          exact ⟨_, _, hr, .inr ⟨rfl, .exit id, hIx _ _ _ _ hi3 (hc4.of fun _ => pI_pC), hl4, hk4⟩⟩
        | goto t =>
          obtain ⟨hk3, hi3⟩ := hp
          obtain ⟨hr, hc4, hl4, hk4⟩ := fin (some (.goto t)) W3 hk3
          exact ⟨_, _, hr, .inr ⟨rfl, .goto t, hIx _ _ _ _ hi3 (hc4.of fun _ => pI_pC), hl4, hk4⟩⟩
        | panic ch => exact hp.elim
        | outgrown => exact hp.elim
      | ret => exact hx.elim
      | exit id => exact hx.elim
      | goto t => exact hx.elim
      | panic ch => exact hx.elim
      | outgrown => exact hx.elim
    · -- behind the iterator
      rintro e W2 ⟨⟨v, rfl⟩, (⟨hi, hl, hk⟩ | ⟨pre, hSp, c, hi, hl, hk⟩)⟩
      · exact ⟨none, _, by have := run_endLoop (P := P) hl (by rw [hrec]; simp); rw [hrec] at this; exact this, hdone _ _ (Nat.le_refl _) (hI _ _ _ hi (Keeps.putObj _ _ hl rfl (by omega))) ((World.putObj_heap_other (by omega)).trans hk)⟩
      · exact ⟨some c, _, by have := run_endLoop (P := P) hl (by rw [hrec]; simp); rw [hrec] at this; exact this, hstop _ c pre _ (Nat.le_refl _) hSp ((hIx c) _ _ _ hi (Keeps.putObj _ _ hl rfl (by omega))) ((World.putObj_heap_other (by omega)).trans hk)⟩

/-- Code that ends by its end alone: what is asked elsewhere is not asked. -/
theorem wp_shut {P : Program} {c : Code} {K : Act → World → Prop} {Q : Exit → Act → World → Prop} {a : Act} {w : World} (h : c.wp P (Exit.then K fun _ _ _ => False) a w) : c.wp P (Exit.then K Q) a w :=
  wp_mono h fun e _ _ hh => by cases e <;> first | exact hh | exact hh.elim
theorem wpIn_shut {F : Fence} {n : Nat} {P : Program} {c : Code} {K : Act → World → Prop} {Q : Exit → Act → World → Prop} {a : Act} {w : World} (h : c.wpIn F n P (Exit.then K fun _ _ _ => False) a w) : c.wpIn F n P (Exit.then K Q) a w :=
  wpIn_mono h fun e _ _ hh => by cases e <;> first | exact hh | exact hh.elim
end Go.Proofs.Ytchoipmfngcdoaa
