/- The iterator over a tree's edges: each ahead of what is below it, in order. Conditions: fewer than 2^39 edges. -/
import Derived.Test.YtclgemkdlgpekaaStack
import Derived.LoopNIn
import Derived.Sort.LoopGhostIn
import Derived.Stop.RegionWithIn
import Derived.Sort.CutIn
import Derived.LoopIn
import Derived.TacticsInMore
import Derived.Shelf.RegionOpen
import Derived.StillTailTactics
import Derived.Outline
namespace Go.Proofs.Ytclgemkdlgpekaa
open Go.RowKit Go.Shelf
set_option maxRecDepth 100000
attribute [local go_sem] Oper.semAt_some

/-- The jobs L (the top at the end) lie in memory, and hand out xs: the top's first; none deeper than D. -/
inductive Todo (w : World) (B D : Nat) : List Job → Nat → List Handed → Prop where
  | nil : Todo w B D [] 0 []
  | cons {L : List Job} {x : Job} {t : Tr} {ys zs : List Handed} {m : Nat} (hw : Walks w B x.at_ x.n x.deep t ys) (hc : x.n ≤ x.c) (hm : x.c ≤ maxLen) (hd : x.deep + t.size ≤ D) (hl : Todo w B D L m zs) : Todo w B D (L ++ [x]) (m + 2 * t.size + 1) (ys ++ zs)
theorem Todo.keep {w w' : World} {B D : Nat} (hk : ∀ p : Addr, p.block < B → w'.cell? p = w.cell? p) {L : List Job} {m : Nat} {xs : List Handed} (h : Todo w B D L m xs) : Todo w' B D L m xs := by
  induction h with
  | nil => exact .nil
  | cons hw hc hm hd _ ih => exact .cons (hw.keep hk) hc hm hd ih
theorem Todo.len {w : World} {B D : Nat} {L : List Job} {m : Nat} {xs : List Handed} (h : Todo w B D L m xs) : L.length ≤ m := by
  induction h with
  | nil => exact Nat.le_refl _
  | cons hw hc hm _ _ ih => simp; omega

theorem edges_any (A : Option Addr) (n c : Nat) (w : World) : Calls Try.prog 34 #[.slice A n c] w fun e w' =>
    e = .returned (.func (.func 41) #[] #[.pointer (some ⟨w.heap.size, 0, none⟩)]) ∧ w' = w.alloc (.cells #[.slice A n c] 63) := by
  go_enter Try.func34, Try.ntmps34
  go_wp2
  go_ret
  exact ⟨rfl, rfl⟩

set_option maxHeartbeats 2000000 in
theorem edges_in (n l gb B c0 : Nat) (A0 : Option Addr) (t0 : Tr) (xs : List Handed) (J Jx : List Handed → World → Prop) (W0 : World)
    (hJ : ∀ s A C, J s A → Keeps (pA kinds) B A C → J s C) 
    (hY : ∀ pre x W1, J pre W1 → (pre ++ [x]) <+: xs → YieldAt Fence.wide (n - 1) Try.prog l x.args W1 fun e W' =>
      (e = .returned (.bool true) ∧ J (pre ++ [x]) W' ∧ Keeps (pT kinds) B W1 W') ∨ (e = .returned (.bool false) ∧ Jx (pre ++ [x]) W'))
    (hB : B ≤ W0.heap.size) (hbox : W0.cell? ⟨gb, 0, none⟩ = some (.slice A0 t0.len c0)) (hw : Walks W0 B A0 t0.len 1 t0 xs) (hc0 : t0.len ≤ c0) (hm0 : c0 ≤ maxLen) (hsz : t0.size ≤ 549755813888) (h0 : J [] W0) :
    CallsIn Fence.wide n Try.prog 41 #[.func (.yield l) #[] #[], .pointer (some ⟨gb, 0, none⟩)] W0 fun e W' => (∃ v, e = .returned v) ∧ (J xs W' ∨ (∃ pre, pre <+: xs ∧ Jx pre W')) := by
  refine callsIn_of_wp Try.func41 rfl trivial ?_ rfl
  simp only [Try.ntmps41, List.size_toArray, List.length_cons, List.length_nil, Nat.reduceAdd, Nat.reduceSub, Array.replicate_succ, Array.replicate_zero, List.push_toArray, List.append_toArray, List.nil_append, List.cons_append]
  have hgl : gb < W0.heap.size := World.block_lt_of_cell? _ _ hbox
  gi_wp2
  gi_loopg [] (2 * t0.size + 1) (fun k wr => ∃ L pre zs, k ≤ 2 * t0.size + 1 ∧ Todo wr B (t0.size + 1) L k zs ∧ Stk wr W0.heap.size (W0.heap.size + 1) L ∧ J pre wr ∧ xs = pre ++ zs ∧ W0.heap.size ≤ wr.heap.size)
  case atStart =>
    refine ⟨[⟨A0, t0.len, c0, 1⟩], [], xs, Nat.le_refl _, ?_, ⟨by omega, some ⟨W0.heap.size, 0, none⟩, 1, ?_, ?_⟩, ?_, by simp, by simp; omega⟩
    · have := Todo.cons (L := []) (x := ⟨A0, t0.len, c0, 1⟩) hw hc0 hm0 (D := t0.size + 1) (by simp; omega) .nil
      have := this.keep (w' := (W0.alloc (Obj.cells #[Value.slice A0 t0.len c0, Value.int IntKind.i64 1] 82)).alloc (Obj.cells #[Value.slice (some { block := W0.heap.size, off := 0 }) 1 1] 84)) (fun p hp => by
        rw [World.cell?_alloc_lt _ _ _ (by simp; omega), World.cell?_alloc_lt _ _ _ (by omega)])
      simpa using this
    · have := heap_alloc_new (W0.alloc (Obj.cells #[Value.slice A0 t0.len c0, Value.int IntKind.i64 1] 82)) (Obj.cells #[Value.slice (some { block := W0.heap.size, off := 0 }) 1 1] 84)
      simpa using this
    · exact (World.ownsRow_lit (base := W0.heap.size) (e := 82) (size := 2) W0 #[Value.slice A0 t0.len c0, Value.int IntKind.i64 1] 1 (Nat.le_refl _) (by simp [maxLen]) rfl).alloc _
    · exact hJ _ _ _ h0 ((Keeps.alloc _ W0 _ hB).trans (Keeps.alloc _ _ _ (by simp; omega)))
  case round =>
    obtain ⟨L, pre, zs, hk, hT, hS, hJr, hx, hle⟩ := hrel
    cases hT with
    | nil =>
      obtain ⟨A, c, hb, _⟩ := hS.row
      have hbx : wr.cell? ⟨W0.heap.size + 1, 0, none⟩ = some (.slice A 0 c) := by rw [cell_of_row wr _ 0 _ _ _ hb]; rfl
      have Hx := Lib.hid hx
      clear hx hb
      gi_wp2
      go_end0
      exact ⟨⟨_, rfl⟩, .inl (by rw [Hx.out, List.append_nil]; exact hJr)⟩
    | @cons L x t ys zs m hw1 hc1 hm1 hd1 hT =>
      obtain ⟨A, c, hb, _⟩ := hS.row
      have hbx : wr.cell? ⟨W0.heap.size + 1, 0, none⟩ = some (.slice A (L.length + 1) c) := by rw [cell_of_row wr _ 0 _ _ _ hb]; simp
      have hgw : W0.heap.size + 1 < wr.heap.size := (Array.getElem?_eq_some_iff.1 hb).1
      have hLl : L.length ≤ 1099511627776 := by have := hT.len; omega
      have Hx := Lib.hid hx
      have Hb := Lib.hid hb
      clear hx hb
      cases t with
      | nil =>
        obtain ⟨hys, hn⟩ := hw1
        obtain ⟨xa, xn, xc, xd⟩ := x
        simp only at hn hc1 hm1
        subst hn
        have Hys := Lib.hid hys
        clear hys
        gi_wp2_with (refine ⟨trivial, fun h => (by cases h), ?_⟩; gi_at_call 42; refine (callsIn_wide.2 (pop_any _ _ L _ _ hS hLl)).mono ?_; rintro e w1 ⟨rfl, hS1, hg1⟩; have hle1 := hg1.size)
        have hb1 : Below B wr w1 := (Below.refl _ _).grown hg1 (by omega) (fun q hq => by injection hq with hq; omega)
        go_roundg m
        case measure => omega
        case rel =>
          refine ⟨L, pre, zs, by omega, (hT.keep fun p hp => (hb1.cell hp).trans rfl).keep fun p hp => World.cell?_alloc_lt _ _ _ (by omega), ?_, ?_, by rw [Hx.out, Hys.out, List.nil_append], by simp; omega⟩
          · exact hS1.keep (Keeps.alloc _ _ _ (Nat.le_trans hB (Nat.le_trans hle hle1)))
          · refine hJ _ _ _ hJr ((Keeps.grown hg1 (by omega) (fun q hq => ?_)).trans (Keeps.alloc _ _ _ (by omega)))
            injection hq with hq
            subst hq
            exact ⟨by omega, fun o ho => by rw [Hb.out] at ho; cases ho; rfl⟩
      | cons s k r =>
        obtain ⟨b, o, A', n', c', ys1, zs1, e, hbB, hs, hc2, hn2, hm2, hyw, hl2, hn3, hz, hys⟩ := hw1
        obtain ⟨xa, xn, xc, xd⟩ := x
        simp only at e hn3 hc1 hm1 hd1 hyw hz
        subst e; subst hn3
        have Hys := Lib.hid hys
        have Hl2 := Lib.hid hl2
        clear hys hl2
        have hpre : (pre ++ [⟨xd, s, A', n', c'⟩]) <+: xs := ⟨ys1 ++ zs1 ++ zs, by rw [Hx.out, Hys.out]; simp⟩
        gi_wp2_with (refine ⟨trivial, fun h => (by cases h), ?_⟩; gi_at_call 42; refine (callsIn_wide.2 (pop_any _ _ L _ _ hS hLl)).mono ?_; rintro e w1 ⟨rfl, hS1, hg1⟩; have hle1 := hg1.size; have hb1 : Below B wr w1 := (Below.refl _ _).grown hg1 (by omega) (fun q hq => by injection hq with hq; omega); have hs1 := (hb1.cell (p := ⟨b, o, none⟩) hbB).trans hs; have hc1' := (hb1.cell (p := ⟨b, o + 1, none⟩) hbB).trans hc2; have hbl : b < w1.heap.size := (by omega); have hJ1 := hJ _ _ _ hJr (((Keeps.grown hg1 (by omega) (fun q hq => (by injection hq with hq; subst hq; exact ⟨by omega, fun o' ho => by rw [Hb.out] at ho; cases ho; rfl⟩))).trans (Keeps.alloc _ w1 (Obj.cells #[Value.slice (some ⟨b, o, none⟩) (r.len + 1) xc, Value.int IntKind.i64 xd] 82) (by omega))).trans (Keeps.alloc _ _ (Obj.cells #[Value.string s, Value.slice A' n' c'] 65) (by simp; omega))); obtain ⟨fn, tmps, assign, body, hy, hR⟩ := hY pre ⟨xd, s, A', n', c'⟩ _ hJ1 hpre; simp only [Handed.args] at hy)
        refine ⟨fun h => (by cases h), hR.mono ?_⟩
        obtain ⟨W1, hW1⟩ : ∃ W, W = (w1.alloc (Obj.cells #[Value.slice (some ⟨b, o, none⟩) (r.len + 1) xc, Value.int IntKind.i64 xd] 82)).alloc (Obj.cells #[Value.string s, Value.slice A' n' c'] 65) := ⟨_, rfl⟩
        have hg4 : W1.heap[w1.heap.size]? = some (Obj.cells #[Value.slice (some ⟨b, o, none⟩) (r.len + 1) xc, Value.int IntKind.i64 xd] 82 (0, 0)) := by rw [hW1]; exact heap_keep (heap_alloc_new w1 _) _
        have hg5 : W1.heap[w1.heap.size + 1]? = some (Obj.cells #[Value.string s, Value.slice A' n' c'] 65 (0, 0)) := by
          rw [hW1]
          have := heap_alloc_new (w1.alloc (Obj.cells #[Value.slice (some ⟨b, o, none⟩) (r.len + 1) xc, Value.int IntKind.i64 xd] 82)) (Obj.cells #[Value.string s, Value.slice A' n' c'] 65)
          simpa using this
        have hSy : Stk W1 W0.heap.size (W0.heap.size + 1) L := by
          rw [hW1]
          exact hS1.keep ((Keeps.alloc _ w1 _ (by omega)).trans (Keeps.alloc (B := B) _ _ _ (by simp; omega)))
        have hbW : Below B wr W1 := by rw [hW1]; exact (hb1.alloc (by omega) _).alloc (by simp; omega) _
        have hsz1 : W1.heap.size = w1.heap.size + 2 := by rw [hW1]; simp
        rw [← hW1]
        clear hW1 hJ1 hy hR
        have Hsz1 := Lib.hid hsz1
        clear hsz1
        rintro e W3 (⟨rfl, hJ3, hk3⟩ | ⟨rfl, hJx3⟩)
        · have hS3 := hSy.keep hk3
          have hle3 : w1.heap.size + 1 < W3.heap.size := by have := Hsz1.out; have := hk3.size; omega
          have h40 : W3.cell? ⟨w1.heap.size, 0, none⟩ = some (Value.slice (some ⟨b, o, none⟩) (r.len + 1) xc) := by rw [cell_of_row W3 _ 0 _ _ _ (hk3.same _ _ hg4 rfl)]; rfl
          have h41 : W3.cell? ⟨w1.heap.size, 1, none⟩ = some (Value.int IntKind.i64 xd) := by rw [cell_of_row W3 _ 1 _ _ _ (hk3.same _ _ hg4 rfl)]; rfl
          have h51 : W3.cell? ⟨w1.heap.size + 1, 1, none⟩ = some (Value.slice A' n' c') := by rw [cell_of_row W3 _ 1 _ _ _ (hk3.same _ _ hg5 rfl)]; rfl
          have hT3 := (hT.keep fun p hp => hbW.cell hp).keep fun p hp => hk3.below.cell hp
          have hy3 := (hyw.keep fun p hp => hbW.cell hp).keep fun p hp => hk3.below.cell hp
          have hz3 := (hz.keep fun p hp => hbW.cell hp).keep fun p hp => hk3.below.cell hp
          clear hg4 hg5 hSy hbW hS1 hg1 hb1 hs1 hc1' hbl hs hc2 hT hyw hz hS hbx hJr
          have hxd : xd ≤ 549755813889 := by simp only [Tr.size] at hd1; omega
          have h1r : (1 : Int) ≤ (r.len : Int) + 1 := by omega
          have hzx : Walks W3 B (if xc = 1 then some ⟨b, o, none⟩ else some ⟨b, o + 2, none⟩) r.len xd r zs1 := by
            by_cases h1 : xc = 1
            · have h0 : r.len = 0 := by omega
              cases r with
              | nil => exact hz3
              | cons _ _ _ => simp [Tr.len] at h0
            · rw [if_neg h1]; exact hz3
          clear hz3
          gi_wp2
          refine wpIn_wide.2 ?_
          go_still_tail 12, (by kernel_rfl)
          change wpList _ _ _ _ _ W3.drew
          generalize (if xc = 1 then some (⟨b, o, none⟩ : Addr) else some ⟨b, o + 2, none⟩) = Ax at hzx ⊢
          go_wp2_with fail
          have hLm : L.length ≤ m := hT3.len
          have hn3 : r.len ≤ xc - 1 := by omega
          have hsize : (Tr.cons s k r).size = k.size + r.size + 1 := rfl
          have hL2 : L.length + 2 ≤ 1099511627776 := by omega
          have Hsize := Lib.hid hsize
          clear hsize
          refine (push_any W0.heap.size (W0.heap.size + 1) W3.heap.size 0 2 2 L [⟨Ax, r.len, xc - 1, xd⟩, ⟨A', n', c', xd + 1⟩] _ (hS3.keep (B := B) ((Keeps.alloc _ W3 _ (by omega)).drew)) rfl ?_ (by omega) (by simp; omega)).mono ?_
          · intro j u hu
            rw [World.cell?_drew, cell_of_row _ _ _ _ _ _ (heap_alloc_new W3 _)]
            rw [← hu]
            simp [jobs, Job.cells]
          rintro e W4 ⟨⟨v, rfl⟩, hS4, hk4⟩
          have hk34 : Keeps (pA kinds) B W3 W4 := ((Keeps.alloc _ W3 _ (by omega)).drew).trans (hk4.less hB)
          have hle4 : W3.heap.size ≤ W4.heap.size := hk34.size
          go_wp2_with fail
          go_roundg (m + 2 * r.size + 1 + 2 * k.size + 1)
          case measure => rw [Hsize.out]; omega
          case rel =>
            refine ⟨_, _, ys1 ++ (zs1 ++ zs), by rw [Hsize.out] at hk; omega, ?_, hS4, hJ _ _ _ hJ3 hk34, by rw [Hx.out, Hys.out]; simp, by omega⟩
            rw [Hsize.out] at hd1
            have hlow : ∀ p : Addr, p.block < B → W4.cell? p = W3.cell? p := fun p hp => hk34.below.cell hp
            have h1 := Todo.cons (x := ⟨Ax, r.len, xc - 1, xd⟩) (hzx.keep hlow) hn3 (by simp only; omega) (by simp only; omega) (hT3.keep hlow)
            have h2 := Todo.cons (x := ⟨A', n', c', xd + 1⟩) (hy3.keep hlow) hn2 hm2 (by simp only; omega) h1
            simpa using h2
        · gi_wp2
          refine bodyPost_ret (results_none rfl _ _ _) rfl ?_
          exact ⟨⟨_, rfl⟩, .inr ⟨_, hpre, hJx3⟩⟩

/-- The value that edges hands out, as a caller takes it. -/
theorem edges_seq (n : Nat) (A : Option Addr) (c : Nat) (t : Tr) (w : World) (h : Holds w w.heap.size A t.len t) (hc : t.len ≤ c) (hm : c ≤ maxLen) (hsz : t.size ≤ 549755813888) :
    ∃ xs : List Handed, xs.map Handed.word = t.flat 1 ∧ ∀ w1, Below w.heap.size w w1 → ∀ gb, w1.cell? ⟨gb, 0, none⟩ = some (.slice A t.len c) → 
      SeqT kinds w.heap.size Fence.wide n Try.prog 41 #[.pointer (some ⟨gb, 0, none⟩)] Handed.args xs w1 := by
  obtain ⟨xs, hx⟩ := h.walks 1
  refine ⟨xs, hx.words, fun w1 hb gb hg l J Jx W hW hJ _ hY h0 => ?_⟩
  have hgl := World.block_lt_of_cell? _ _ hg
  have hbW : Below w.heap.size w W := hb.trans (hW.mono hb.size)
  exact edges_in n l gb w.heap.size c A t xs J Jx W hJ hY hbW.size ((hW.cell (p := ⟨gb, 0, none⟩) hgl).trans hg) (hx.keep fun p hp => hbW.cell hp) hc hm hsz h0
end Go.Proofs.Ytclgemkdlgpekaa
