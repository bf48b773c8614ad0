/- TreeChecks, walked. Conditions: fewer than 200 raw edges; numbers within their kind. -/
import Derived.Test.YtebiinjcegdmpaaPlain
import Derived.Test.YtebiinjcegdmpaaLaw2
import Derived.Test.YtebiinjcegdmpaaMake
import Derived.Test.YtebiinjcegdmpaaRaws
import Derived.Test.YtebiinjcegdmpaaInj
import Derived.Test.YtebiinjcegdmpaaMgNm
import Derived.Deep.OwnRows
import Derived.Laws.OwnMore
namespace Go.Proofs.Ytebiinjcegdmpaa.Jd
open Go.RowKit Go.Proofs.Ytebiinjcegdmpaa.Cl
set_option maxRecDepth 100000

/-- A tree that memory holds, neither too great nor with too long names. -/
structure Okay (w : World) (A : Option Addr) (n c : Nat) (t : Tr) : Prop where
  holds : Holds w w.heap.size A n t
  cap : n ≤ c ∧ c ≤ maxLen
  size : t.size ≤ 4000
  nm : Tr.Nm t
theorem Okay.below {w w' : World} {A : Option Addr} {n c : Nat} {t : Tr} (h : Okay w A n c t) (hb : Below w.heap.size w w') : Okay w' A n c t :=
  ⟨(h.holds.below hb).more hb.size, h.cap, h.size, h.nm⟩
theorem fit_nm : ∀ {t : Tr}, t.Fit → Tr.Nm t
  | .nil, _ => trivial
  | .cons _ _ _, ⟨h1, _, h3, h4⟩ => ⟨h1, fit_nm h3, fit_nm h4⟩
theorem fit_low : ∀ {t : Tr}, t.Fit → t.Low
  | .nil, _ => trivial
  | .cons _ _ _, ⟨_, h2, h3, h4⟩ => ⟨h2, fit_low h3, fit_low h4⟩
theorem okay_check {w : World} {A : Option Addr} {n c : Nat} {t : Tr} (h : Okay w A n c t) : Calls Try.prog 18 #[.slice A n c] w fun e w' => e = .returned (.int .i64 (t.fault : Nat)) ∧ Below w.heap.size w w' := by
  have hl := h.holds.len
  have := check_any A c t w (by rw [← hl]; exact h.holds) (by rw [← hl]; exact h.cap.1) h.cap.2 (by have := h.size; omega) h.nm
  rw [← hl] at this
  exact this
theorem conv_two (a b : Nat) (ha : a < 256) (hb : b < 256) (W : World) : (convert 24 9 (.slice (some ⟨W.heap.size, 0, none⟩) 2 2)).run Try.prog (W.alloc (Obj.cells #[Value.int .u8 (a : Int), Value.int .u8 (b : Int)] 5)) = .ok (.string ⟨#[UInt8.ofNat a, UInt8.ofNat b]⟩) (W.alloc (Obj.cells #[Value.int .u8 (a : Int), Value.int .u8 (b : Int)] 5)) := by
  have h1 : ∀ k : Nat, k < 256 → byt (UInt8.ofNat k) = Value.int .u8 (k : Int) := by
    intro k hk
    simp only [byt, UInt8.toNat_ofNat']
    congr 1
    omega
  have hs : Sees (W.alloc (Obj.cells #[Value.int .u8 (a : Int), Value.int .u8 (b : Int)] 5)) (W.heap.size + 1) (some ⟨W.heap.size, 0, none⟩) 2 [UInt8.ofNat a, UInt8.ofNat b] := by
    refine ⟨rfl, fun q u hu => ⟨_, rfl, Nat.lt_succ_self _, ?_⟩⟩
    rw [Addr.add_lit, cell_of_row _ _ _ _ _ _ (heap_alloc_new W _), Nat.zero_add]
    match q, hu with
    | 0, hu => simp at hu; subst hu; rw [h1 a ha]; rfl
    | 1, hu => simp at hu; subst hu; rw [h1 b hb]; rfl
    | q + 2, hu => simp at hu
  exact run_text _ _ _ Try.underlying24 Try.underlying5 Try.underlying9 hs

/-- A tree's edges as what append takes. -/
theorem src_holds {w : World} {B n c : Nat} {A : Option Addr} {t : Tr} (h : Holds w B A n t) : ∃ ys, Src Try.prog 2 28 (.slice A n c) n ys w ∧ RowP w (fun b => b < B) ys t := by
  have key : ∀ (t : Tr) (A : Option Addr) (n : Nat), Holds w B A n t → ∃ ys, ys.length = n * 2 ∧ (∀ u ∈ ys, u.oneCell' = true) ∧ (∀ b o, A = some ⟨b, o, none⟩ → ∀ j u, ys[j]? = some u → w.cell? ⟨b, o + j, none⟩ = some u) ∧ RowP w (fun b => b < B) ys t ∧ (0 < n → ∃ b o, A = some ⟨b, o, none⟩) := by
    intro t
    induction t with
    | nil =>
      intro A n h
      have h : n = 0 := h
      subst h
      exact ⟨[], rfl, fun u hu => (by cases hu), fun _ _ _ j u hu => (by simp at hu), trivial, fun h => absurd h (by omega)⟩
    | cons s k r _ ih =>
      rintro A n ⟨b, o, rfl, hb, hs, ⟨A', n', c', hc, h1, h2, hk⟩, m, rfl, hr⟩
      obtain ⟨ys, e1, e2, e3, e4, _⟩ := ih _ _ hr
      refine ⟨.string s :: .slice A' n' c' :: ys, by simp only [List.length_cons, e1]; omega, ?_, ?_, ⟨rfl, h1, h2, HoldsP.of hk, e4⟩, fun _ => ⟨b, o, rfl⟩⟩
      · intro u hu
        simp only [List.mem_cons] at hu
        rcases hu with rfl | rfl | hu
        · rfl
        · rfl
        · exact e2 u hu
      · intro b' o' e j u hu
        cases e
        match j, hu with
        | 0, hu => simp at hu; subst hu; exact hs
        | 1, hu => simp at hu; subst hu; exact hc
        | j + 2, hu =>
          have := e3 b (o + 2) rfl j u (by simpa using hu)
          rw [show o + (j + 2) = o + 2 + j by omega]
          exact this
  obtain ⟨ys, e1, e2, e3, e4, e5⟩ := key t A n h
  refine ⟨ys, ?_, e4⟩
  rcases Nat.eq_zero_or_pos n with g | g
  · subst g
    have : ys = [] := List.eq_nil_of_length_eq_zero (by omega)
    subst this
    exact src_none w A c
  · obtain ⟨b, o, rfl⟩ := e5 g
    exact src_edges e1 (e3 b o rfl) e2
/-- Trees in a row. -/
theorem forest_all {W : World} {g : Nat} {xs : List Slc} (hx : ∀ x ∈ xs, Okay W x.at_ x.n x.c x.t) (hg : W.heap[g]? = some (.cells (xs.map fun x => Value.slice x.at_ x.n x.c).toArray 28 (0, 0))) :
    ∀ j, j < xs.length → ∃ x : Slc, W.cell? ⟨g, j, none⟩ = some (.slice x.at_ x.n x.c) ∧ Okay W x.at_ x.n x.c x.t := by
  intro j hj
  refine ⟨xs[j], ?_, hx _ (List.getElem_mem hj)⟩
  rw [cell_of_row _ _ _ _ _ _ hg]
  simp [hj]
theorem withT_nm {s : ByteArray} {x : Tr} (hs : s.size ≤ 140737488351232) (hx : Tr.Nm x) : ∀ {t : Tr}, Tr.Nm t → Tr.Nm (t.withT s x)
  | .nil, _ => ⟨hs, hx, trivial⟩
  | .cons s0 k r, ⟨h1, h2, h3⟩ => by
    unfold Tr.withT
    split
    · exact ⟨h1, h2, withT_nm hs hx h3⟩
    · split
      · exact ⟨hs, hx, h3⟩
      · exact ⟨hs, hx, h1, h2, h3⟩
theorem cut30_size (s : ByteArray) : (cut30 s).size ≤ 140737488351232 := by
  unfold cut30
  rw [ByteArray.size_extract]
  omega
theorem makeT_nm (W : Nat) : ∀ (t : Tr) (l d : Nat) (acc : Tr), Tr.Nm acc → Tr.Nm (t.makeT W l d acc)
  | .nil, _, _, _, h => by simpa [Tr.makeT] using h
  | .cons s k r, l, d, acc, h => by
    unfold Tr.makeT
    split
    · exact h
    · exact makeT_nm W r _ _ _ (withT_nm (cut30_size s) (makeT_nm W k _ _ .nil trivial) h)
theorem okay_of {w w' : World} {B n c : Nat} {A : Option Addr} {t : Tr} (h : Holds w B A n t) (hB : B ≤ w.heap.size) (hb : Below w.heap.size w w') (hc : n ≤ c ∧ c ≤ maxLen) (hs : t.size ≤ 4000) (hn : Tr.Nm t) : Okay w' A n c t :=
  ⟨((h.more hB).below hb).more hb.size, hc, hs, hn⟩

/-- make([]byte, n), and the text of it. -/
theorem conv_zeros (n : Nat) (hn : n ≤ 1000) : ∃ (arr : Array Value) (z : ByteArray), z.size = n ∧
    (∀ W : World, (Instr.makeSlice 24 (.int .i64 (n : Int)) (.int .i64 (n : Int))).run Try.prog W = .ok (.slice (some ⟨W.heap.size, 0, none⟩) n n) (W.alloc (.cells arr 5))) ∧
    ∀ W : World, (convert 24 9 (.slice (some ⟨W.heap.size, 0, none⟩) n n)).run Try.prog (W.alloc (.cells arr 5)) = .ok (.string z) (W.alloc (.cells arr 5)) := by
  refine ⟨madeCells #[.int .u8 0] n, ⟨(List.replicate n 0).toArray⟩, by simp [ByteArray.size], fun W => run_make_row' 24 5 (.int .u8 0) 1 Try.underlying24 info_u8 rfl .i64 .i64 n (by omega) (by omega) W, fun W => ?_⟩
  have hs : Sees (W.alloc (.cells (madeCells #[.int .u8 0] n) 5)) (W.heap.size + 1) (some ⟨W.heap.size, 0, none⟩) n (List.replicate n 0) := by
    refine ⟨by simp, fun q u hu => ⟨_, rfl, Nat.lt_succ_self _, ?_⟩⟩
    rw [Addr.add_lit, cell_of_row _ _ _ _ _ _ (heap_alloc_new W _), Nat.zero_add, ← Array.getElem?_toList, toList_madeCells_one]
    rw [List.getElem?_replicate] at hu ⊢
    split at hu
    · rename_i hq
      cases hu
      rw [if_pos hq]; rfl
    · cases hu
  exact run_text _ _ _ Try.underlying24 Try.underlying5 Try.underlying9 hs

end Go.Proofs.Ytebiinjcegdmpaa.Jd
