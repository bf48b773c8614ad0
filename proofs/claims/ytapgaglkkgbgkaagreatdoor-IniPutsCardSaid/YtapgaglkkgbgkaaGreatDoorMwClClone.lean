/- tree.clone: the answer reads as what was handed in; what lay there before lies as it did. Conditions: fewer than 2^39 edges. · tree.clone, walked. Conditions: fewer than 2^39 edges. · csv's row: the line that now means these. Conditions: as textOf's. · slices.Grow of nil, slices.Concat of rows of lines. Conditions: what is joined is fewer than 2^40 lines. · lines.each, at the two function values of Insert. Conditions: fewer than 2^38 lines. · lines.Insert: what it makes of any lines. Conditions: fewer than 2^36 lines, texts. -/
import Derived.Test.YtapgaglkkgbgkaaGreatDoorMwRcMath
import Derived.Deep.LoopGhost
import Derived.Deep.RegionWith
import Derived.Deep.DeepFit
import Derived.Test.YtapgaglkkgbgkaaGreatDoorMwLiSplit
import Derived.Lib.AppendZerosOnto
import Derived.OwnWalk
namespace Go.Proofs.YtapgaglkkgbgkaaGreatDoor.Cl
open Go.RowKit
set_option maxRecDepth 100000

def Pw (w : World) (base : Nat) (b : Nat) : Prop := b < base ∨ (base ≤ b ∧ ∃ cur, w.heap[b]? = some (.cells cur 56 (0, 0)))
theorem Pw.keep {w w' : World} {base b : Nat} (hk : Pw w base b → w'.heap[b]? = w.heap[b]?) (h : Pw w base b) : Pw w' base b := by
  have e := hk h
  rcases h with h | ⟨h, cur, hc⟩
  · exact .inl h
  · exact .inr ⟨h, cur, e.trans hc⟩
theorem Pw.lt {w : World} {base b : Nat} (hb : base ≤ w.heap.size) (h : Pw w base b) : b < w.heap.size := by
  rcases h with h | ⟨_, cur, hc⟩
  · omega
  · exact (Array.getElem?_eq_some_iff.1 hc).1
theorem HoldsP.step {w w' : World} {base : Nat} (hk : ∀ b, Pw w base b → w'.heap[b]? = w.heap[b]?) {A : Option Addr} {n : Nat} {t : Tr} (h : HoldsP w (Pw w base) A n t) : HoldsP w' (Pw w' base) A n t :=
  (h.keep fun b _ hb => World.cell?_of_block (hk b hb)).more fun b hb => hb.keep (hk b)

def Row (w : World) (base : Nat) (A : Option Addr) : Prop := ∀ a, A = some a → ∃ d, a = ⟨d, 0, none⟩ ∧ base ≤ d ∧ ∃ cur, w.heap[d]? = some (.cells cur 56 (0, 0))
theorem Row.step {w w' : World} {base : Nat} (hk : ∀ b, Pw w base b → w'.heap[b]? = w.heap[b]?) {A : Option Addr} (h : Row w base A) : Row w' base A := fun a ha => by
  obtain ⟨d, e, hd, cur, hc⟩ := h a ha
  exact ⟨d, e, hd, cur, (hk d (.inr ⟨hd, cur, hc⟩)).trans hc⟩
structure JobOK (w : World) (base : Nat) (p : CJob × Tr) : Prop where
  holds : HoldsP w (Pw w base) p.1.a1 p.1.n1 p.2
  row : Row w base p.1.a1
theorem JobOK.step {w w' : World} {base : Nat} (hk : ∀ b, Pw w base b → w'.heap[b]? = w.heap[b]?) {p : CJob × Tr} (h : JobOK w base p) : JobOK w' base p := ⟨h.holds.step hk, h.row.step hk⟩

theorem level_ok {w w' : World} {base n c' : Nat} {A' : Option Addr} {t : Tr} (hb : base ≤ w.heap.size) (hg : w.grownBy w' none) (h : HoldsP w' (fun b => Pw w base b ∨ b = w.heap.size) A' n t)
    (ha : ∀ a, A' = some a → a = ⟨w.heap.size, 0, none⟩ ∧ ∃ cur, w'.heap[w.heap.size]? = some (.cells cur 56 (0, 0))) : JobOK w' base (⟨A', n, c'⟩, t) := by
  have hk : ∀ b, Pw w base b → Pw w' base b := fun b h => h.keep fun h => hg.block b (h.lt hb) (fun e => by cases e)
  refine ⟨?_, fun a e => ?_⟩
  · cases t with
    | nil => exact h
    | cons s k r =>
      cases A' with
      | none => obtain ⟨b, o, e, _⟩ := h; cases e
      | some a =>
        obtain ⟨_, cur, hc⟩ := ha a rfl
        exact h.more fun b h => h.elim (hk b) (fun e => by rw [e]; exact .inr ⟨hb, cur, hc⟩)
  · obtain ⟨e1, cur, hc⟩ := ha a e
    exact ⟨_, e1, hb, cur, hc⟩

theorem Pw.set {w : World} {base p q : Nat} {cur : Array Value} {v : Value} (hh : w.heap[p]? = some (.cells cur 56 (0, 0))) {b : Nat} (h : Pw w base b) : Pw (w.setCell ⟨p, q, none⟩ v) base b := by
  rcases h with h | ⟨h, c2, hc⟩
  · exact .inl h
  · by_cases e : b = p
    · subst e
      exact .inr ⟨h, _, heap_setCell_same w b q cur _ _ hh⟩
    · exact .inr ⟨h, c2, (Below.heap_setCell w _ _ b e).trans hc⟩
theorem JobOK.set {w : World} {base p q n1 c1 n2 c2 : Nat} {X Y : Option Addr} {u : Tr} {cur : Array Value} (hh : w.heap[p]? = some (.cells cur 56 (0, 0))) (hq : w.cell? ⟨p, q, none⟩ = some (.slice X n1 c1)) (h1 : HoldsP w (Pw w base) X n1 u) (h2 : HoldsP w (Pw w base) Y n2 u) (hn : n2 ≤ c2) (hm : c2 ≤ maxLen)
    {A : Option Addr} {n : Nat} {t : Tr} (h : HoldsP w (Pw w base) A n t) : HoldsP (w.setCell ⟨p, q, none⟩ (.slice Y n2 c2)) (Pw (w.setCell ⟨p, q, none⟩ (.slice Y n2 c2)) base) A n t :=
  (HoldsP.repl hh hq h1 h2 hn hm h1 h).more fun _ hb => hb.set hh
theorem Row.set {w : World} {base p q : Nat} {cur : Array Value} {v : Value} (hh : w.heap[p]? = some (.cells cur 56 (0, 0))) {A : Option Addr} (h : Row w base A) : Row (w.setCell ⟨p, q, none⟩ v) base A := fun a ha => by
  obtain ⟨d, e, hd, c2, hc⟩ := h a ha
  rcases Pw.set (base := base) (q := q) (v := v) hh (.inr ⟨hd, c2, hc⟩) with h | ⟨_, h⟩
  · omega
  · exact ⟨d, e, hd, h⟩

structure ClSt (w : World) (base g : Nat) (A : Option Addr) (n : Nat) (t : Tr) (X : List (CJob × Tr)) : Prop where
  stk : CStk w base g (X.map Prod.fst)
  whole : HoldsP w (Pw w base) A n t
  jobs : ∀ p ∈ X, JobOK w base p
  size : base ≤ w.heap.size

section
variable {w w' : World} {base g n : Nat} {A : Option Addr} {t : Tr} {X : List (CJob × Tr)}
theorem ClSt.grow (h : ClSt w base g A n t X) (hg : w.grownBy w' none) : ClSt w' base g A n t X :=
  have hk : ∀ b, Pw w base b → w'.heap[b]? = w.heap[b]? := fun b hb => hg.block b (hb.lt h.size) (fun e => by cases e)
  ⟨h.stk.grownNone hg, h.whole.step hk, fun p hp => (h.jobs p hp).step hk, Nat.le_trans h.size hg.size⟩
theorem ClSt.alloc (h : ClSt w base g A n t X) (o : Obj) : ClSt (w.alloc o) base g A n t X :=
  have hk : ∀ b, Pw w base b → (w.alloc o).heap[b]? = w.heap[b]? := fun b hb => Below.heap_alloc w o b (hb.lt h.size)
  ⟨h.stk.alloc o, h.whole.step hk, fun p hp => (h.jobs p hp).step hk, by simp; exact Nat.le_succ_of_le h.size⟩
theorem ClSt.pop {x : CJob × Tr} (h : ClSt w base g A n t (X ++ [x])) (hs : CStk w' base g (X.map Prod.fst)) (hg : w.grownBy w' (some g)) : ClSt w' base g A n t X ∧ JobOK w' base x := by
  have hk : ∀ b, Pw w base b → w'.heap[b]? = w.heap[b]? := fun b hb => hg.block b (hb.lt h.size) (fun e => by
    injection e with e
    subst e
    rcases hb with hb | ⟨_, cur, hc⟩
    · have := h.stk.le; omega
    · exact (h.stk.kind hc).1 rfl)
  exact ⟨⟨hs, h.whole.step hk, fun p hp => (h.jobs p (List.mem_append.2 (.inl hp))).step hk, Nat.le_trans h.size hg.size⟩, (h.jobs x (by simp)).step hk⟩
theorem ClSt.push {x y : CJob × Tr} (h : ClSt w base g A n t X) (hx : JobOK w base x) (hy : JobOK w base y) (hs : CStk w' base g (X.map Prod.fst ++ [x.1])) (hb : Below base w w') (hg : ∀ k, k < w.heap.size → CFar w g k → w'.heap[k]? = w.heap[k]?) : ClSt w' base g A n t (X ++ [x]) ∧ JobOK w' base y := by
  have hk : ∀ b, Pw w base b → w'.heap[b]? = w.heap[b]? := fun b h1 => by
    rcases h1 with h1 | ⟨h0, cur, hc⟩
    · exact hb.block b h1
    · exact hg b (Array.getElem?_eq_some_iff.1 hc).1 (h.stk.kind hc)
  refine ⟨⟨by simpa using hs, h.whole.step hk, fun p hp => ?_, Nat.le_trans h.size hb.size⟩, hy.step hk⟩
  rcases List.mem_append.1 hp with hp | hp
  · exact (h.jobs p hp).step hk
  · simp only [List.mem_cons, List.not_mem_nil, or_false] at hp
    subst hp
    exact hx.step hk
theorem ClSt.set {p q n1 c1 n2 c2 : Nat} {Z Y : Option Addr} {u : Tr} {cur : Array Value} (h : ClSt w base g A n t X) (hh : w.heap[p]? = some (.cells cur 56 (0, 0))) (hq : w.cell? ⟨p, q, none⟩ = some (.slice Z n1 c1)) (h1 : HoldsP w (Pw w base) Z n1 u) (h2 : HoldsP w (Pw w base) Y n2 u) (hn : n2 ≤ c2) (hm : c2 ≤ maxLen) :
    ClSt (w.setCell ⟨p, q, none⟩ (.slice Y n2 c2)) base g A n t X :=
  ⟨h.stk.set (h.stk.kind hh) _, JobOK.set hh hq h1 h2 hn hm h.whole, fun x hx => ⟨JobOK.set hh hq h1 h2 hn hm (h.jobs x hx).holds, (h.jobs x hx).row.set hh⟩, by simp [World.setCell]; exact h.size⟩
end
end Go.Proofs.YtapgaglkkgbgkaaGreatDoor.Cl
namespace Go.Proofs.YtapgaglkkgbgkaaGreatDoor.Cl
open Go.RowKit
set_option maxRecDepth 100000

set_option maxHeartbeats 4000000 in
theorem clone_any (t : Tr) (A : Option Addr) (n c : Nat) (w : World) (h : Holds w w.heap.size A n t) (hsz : t.size ≤ 549755813888) :
    Calls Tryz.prog 101 #[.slice A n c] w fun e w' => ∃ A' c', e = .returned (.slice A' n c') ∧ n ≤ c' ∧ c' ≤ maxLen ∧ Holds w' w'.heap.size A' n t ∧ Below w.heap.size w w' := by
  have hnl : n ≤ 549755813888 := by have := h.len; have := t.len_size; omega
  have hP : HoldsP w (Pw w w.heap.size) A n t := (HoldsP.of h).more fun b hb => .inl hb
  have HL := Lib.hid (level_hp t A n c (Pw w w.heap.size) w hP (fun b hb => hb.lt (Nat.le_refl _)) (by omega))
  clear h
  go_enter Tryz.func101, Tryz.ntmps101
  go_wp2_with fail
  (with_reducible refine HL.out.mono ?_)
  rintro e w1 ⟨A1, c1, rfl, hg1, hn1, hm1, hh1, ha1⟩
  have J0 : JobOK w1 w.heap.size (⟨A1, n, c1⟩, t) := level_ok (Nat.le_refl _) hg1 hh1 ha1
  have HJ := Lib.hid J0
  have HG := Lib.hid hg1
  clear hh1 ha1 J0 hg1
  go_wp2_with fail
  obtain ⟨b0, hb0⟩ : ∃ b0, b0 = w.heap.size := ⟨_, rfl⟩
  obtain ⟨g, hg⟩ : ∃ g, g = w1.heap.size + 1 := ⟨_, rfl⟩
  have Hb0 := Lib.hid hb0
  have Hg := Lib.hid hg
  rw [← hb0] at HJ
  rw [← hg]
  go_loopg [] (t.size + 1) (fun k wr => ∃ X : List (CJob × Tr), Hid (k = load (X.map Prod.snd)) ∧ ClSt wr b0 g A1 n t X ∧ k ≤ t.size + 1 ∧ Below b0 w wr)
  case atStart =>
    have hsz1 := HG.out.size
    have St : ClSt ((w1.alloc (Obj.cells #[Value.slice A1 n c1] 30)).alloc (Obj.cells #[Value.slice (some ⟨w1.heap.size, 0, none⟩) 1 1] 175)) b0 g A1 n t [(⟨A1, n, c1⟩, t)] := by
      have hk : ∀ b, Pw w1 b0 b → ((w1.alloc (Obj.cells #[Value.slice A1 n c1] 30)).alloc (Obj.cells #[Value.slice (some ⟨w1.heap.size, 0, none⟩) 1 1] 175)).heap[b]? = w1.heap[b]? := fun b hb => by
        have hlt := hb.lt (by omega)
        rw [Below.heap_alloc _ _ _ (by simp; omega), Below.heap_alloc _ _ _ hlt]
      refine ⟨⟨by omega, some ⟨w1.heap.size, 0, none⟩, 1, ?_, ?_⟩, HJ.out.holds.step hk, fun p hp => ?_, by simp; omega⟩
      · rw [hg]
        exact (by rw [show w1.heap.size + 1 = (w1.alloc (Obj.cells #[Value.slice A1 n c1] 30)).heap.size by simp]; exact heap_alloc_new _ _)
      · exact (World.ownsRow_lit (base := b0) (e := 30) (size := 1) w1 #[Value.slice A1 n c1] 1 (by omega) (by simp [maxLen]) rfl).alloc _
      · simp only [List.mem_cons, List.not_mem_nil, or_false] at hp
        subst hp
        exact HJ.out.step hk
    refine ⟨[(⟨A1, n, c1⟩, t)], Lib.hid (by simp [load]), St, Nat.le_refl _, ?_⟩
    exact (((Below.refl b0 w).grown HG.out (by omega) (fun k hk => by cases hk)).alloc (by omega) _).alloc (by simp; omega) _
  case round =>
    clear hg hb0
    obtain ⟨X, Hk, hst, hk, hbw⟩ := hrel
    rcases List.eq_nil_or_concat X with rfl | ⟨X, x, rfl⟩
    · obtain ⟨A2, c2, hbx, _⟩ := hst.stk.row
      have hbox : wr.cell? ⟨g, 0, none⟩ = some (.slice A2 0 c2) := by rw [cell_of_row wr g 0 _ _ _ hbx]; rfl
      clear hbx
      go_wp2_with fail
      go_ret
      exact ⟨A1, c1, rfl, hn1, hm1, HoldsP.to (fun b hb => hb.lt hst.size) hst.whole, by rw [← Hb0.out]; exact hbw⟩
    · obtain ⟨⟨a1, nx, cx⟩, u⟩ := x
      obtain ⟨A2, c2, hbx, _⟩ := hst.stk.row
      have hlen : (List.map Prod.fst (X.concat (⟨a1, nx, cx⟩, u))).length = X.length + 1 := by simp
      rw [hlen] at hbx
      have hload : gk = load (X.map Prod.snd) + (u.size + 1) := by rw [Hk.out, List.concat_eq_append, List.map_append, load_append]; simp [load]
      have hll := load_len (X.map Prod.snd)
      rw [List.length_map] at hll
      have hXl : (X.map Prod.fst).length ≤ 1099511627776 := by rw [List.length_map]; omega
      have HP := Lib.hid (cpop_any b0 g (X.map Prod.fst) ⟨a1, nx, cx⟩ wr (by simpa using hst.stk) hXl)
      obtain ⟨N, hN⟩ : ∃ N, N = X.length := ⟨_, rfl⟩
      rw [← hN] at hbx
      have hN2 : N ≤ 1099511627776 := by rw [hN]; omega
      have hN3 : (0 : Int) < (N : Int) + 1 := by omega
      have hbox : wr.cell? ⟨g, 0, none⟩ = some (.slice A2 (N + 1) c2) := by rw [cell_of_row wr g 0 _ _ _ hbx]; rfl
      have Hld := Lib.hid hload
      clear hbx hlen hN hXl hload hll
      go_wp2_with fail
      (with_reducible refine HP.out.mono ?_)
      rintro e w2 ⟨rfl, hs2, hg2⟩
      obtain ⟨hst2, hj2⟩ := ClSt.pop (by simpa using hst) hs2 hg2
      have hbw2 : Below b0 wr w2 := (Below.refl b0 wr).grown hg2 hst.size (fun k hk => by injection hk with hk; have := hst.stk.le; omega)
      have hnx := hj2.holds.len
      simp only at hnx
      have hux := u.len_size
      have hld := Hld.out
      have hnb : nx ≤ 549755813889 := by omega
      have Hnx := Lib.hid hnx
      have Hux := Lib.hid hux
      have hbz := hbw.trans hbw2
      clear hnx hux hld HP hst hs2 hg2 hbox hN2 hN3 hbw hbw2
      go_wp2_with fail
      go_loopw [17] (fun i wl => ∃ (j : Nat) (X2 : List (CJob × Tr)), j ≤ nx ∧ i = .int .i64 j ∧ ClSt wl b0 g A1 n t X2 ∧ JobOK wl b0 (⟨a1, nx, cx⟩, u) ∧ Hid (load (X2.map Prod.snd) + load ((subs u).drop j) + 1 = gk) ∧ Below b0 w wl) (fun i _ => nx - (intOf i).toNat)
      case atStart => exact ⟨0, X, Nat.zero_le _, rfl, hst2, hj2, by have := Hld.out; rw [List.drop_zero, load_subs]; exact Lib.hid (by omega), hbz⟩
      case round =>
        clear hst2 hj2 hbz
        obtain ⟨j, X2, hj, rfl, hst, hjb, Hl, hbl⟩ := hrel
        by_cases hlt : j < nx
        · have hjl : j < (subs u).length := by rw [subs_len, ← Hnx.out]; exact hlt
          have hdr := List.drop_eq_getElem_cons hjl
          have hv := List.getElem?_eq_getElem hjl
          obtain ⟨v, hve⟩ : ∃ v, v = (subs u)[j] := ⟨_, rfl⟩
          rw [← hve] at hdr hv
          have hl := Hl.out
          rw [hdr] at hl
          simp only [load] at hl
          have hvl := v.len_size
          obtain ⟨vs, _, _, _, hA⟩ := hjb.holds.row
          obtain ⟨b', o', e', _⟩ := hA (by simp only; omega)
          simp only at e'
          subst e'
          obtain ⟨d, e', hd, cur, hh⟩ := hjb.row _ rfl
          injection e' with e1 e2
          subst e1; subst e2
          obtain ⟨A', n', c', hc, hn', hm', hh'⟩ := hjb.holds.sub hv
          rw [Nat.zero_add] at hc
          have hnv := hh'.len
          have hn40 : n' ≤ 1099511627776 := by omega
          have hfr : ∀ q, wr.frozen? ⟨b', q, none⟩ = false := fun q => by simp [World.frozen?, hh]
          have hjn : (j : Int) < (nx : Int) := by omega
          have hj0 : (0 : Int) ≤ (j : Int) := by omega
          have HL := Lib.hid (level_hp v A' n' c' (Pw wr b0) wr hh' (fun b hb => hb.lt hst.size) hn40)
          have He : Hid (load (X2.map Prod.snd) + (v.size + 1) + load ((subs u).drop (j + 1)) + 1 = gk) := Lib.hid (by omega)
          have hX2 := load_len (X2.map Prod.snd)
          rw [List.length_map] at hX2
          have hX3 : X2.length ≤ 549755813889 := by omega
          have HX := Lib.hid hX3
          have Hst := Lib.hid hst
          have Hjb := Lib.hid hjb
          have Hh := Lib.hid hh
          have Hc := Lib.hid hc
          have Hh' := Lib.hid hh'
          clear hv hve hdr hl hvl hnv hX2 hX3 hh' hst hjb hA Hl hh
          go_wp2_with fail
          (with_reducible refine HL.out.mono ?_)
          rintro e w3 ⟨A3, c3, rfl, hg3, hn3, hm3, hh3, ha3⟩
          have hsz3 := hg3.size
          have hst := Hst.out
          have hk3 : ∀ b, Pw wr b0 b → w3.heap[b]? = wr.heap[b]? := fun b hb => hg3.block b (hb.lt hst.size) (fun e => by cases e)
          have St3 := hst.grow hg3
          have J3 := Hjb.out.step hk3
          have JN3 : JobOK w3 b0 (⟨A3, n', c3⟩, v) := level_ok hst.size hg3 hh3 ha3
          have hdr : w3.heap[b']? = some (.cells cur 56 (0, 0)) := (hk3 b' (.inr ⟨hd, cur, Hh.out⟩)).trans Hh.out
          have hq3 : w3.cell? ⟨b', j * 2 + 1, none⟩ = some (.slice A' n' c') := (World.cell?_of_block (hk3 b' (.inr ⟨hd, cur, Hh.out⟩))).trans Hc.out
          have hz3 := Hh'.out.step hk3
          have St4 := St3.set hdr hq3 hz3 JN3.holds hn3 hm3
          have J4 : JobOK (w3.setCell ⟨b', j * 2 + 1, none⟩ (.slice A3 n' c3)) b0 (⟨some ⟨b', 0, none⟩, nx, cx⟩, u) := ⟨JobOK.set hdr hq3 hz3 JN3.holds hn3 hm3 J3.holds, J3.row.set hdr⟩
          have JN4 : JobOK (w3.setCell ⟨b', j * 2 + 1, none⟩ (.slice A3 n' c3)) b0 (⟨A3, n', c3⟩, v) := ⟨JobOK.set hdr hq3 hz3 JN3.holds hn3 hm3 JN3.holds, JN3.row.set hdr⟩
          have hb3 : Below b0 wr w3 := (Below.refl b0 wr).grown hg3 hst.size (fun k hk => by cases hk)
          have hb4 : Below b0 wr (w3.setCell ⟨b', j * 2 + 1, none⟩ (.slice A3 n' c3)) := hb3.setCell hd _
          have hfr3 : w3.frozen? ⟨b', j * 2 + 1, none⟩ = false := by simp [World.frozen?, hdr]
          have hat4 : (w3.setCell ⟨b', j * 2 + 1, none⟩ (.slice A3 n' c3)).cell? ⟨b', j * 2 + 1, none⟩ = some (.slice A3 n' c3) := by
            rw [cell_of_row _ _ _ _ _ _ (heap_setCell_same w3 b' (j * 2 + 1) cur _ _ hdr)]
            have : j * 2 + 1 < cur.size := by
              rw [cell_of_row _ _ _ _ _ _ hdr] at hq3
              exact (Array.getElem?_eq_some_iff.1 hq3).1
            simp [this]
          obtain ⟨w4, hw4⟩ : ∃ W, W = w3.setCell ⟨b', j * 2 + 1, none⟩ (.slice A3 n' c3) := ⟨_, rfl⟩
          rw [← hw4] at St4 J4 JN4 hb4 hat4
          have hS4 := Lib.hid St4
          have hJ4 := Lib.hid J4
          have hJN4 := Lib.hid JN4
          have HB4 := Lib.hid hb4
          clear St4 J4 JN4 hb4 hb3 hz3 JN3 J3 St3 hk3 hst hh3 ha3 hdr hc hfr hg3
          go_wp2_with fail
          rw [← hw4]
          have hz4 : w4.heap.size = w3.heap.size := by rw [hw4]; simp [World.setCell]
          have hsb := hS4.out.size
          have hka : ∀ b, Pw w4 b0 b → (w4.alloc (Obj.cells #[Value.slice A3 n' c3] 30)).heap[b]? = w4.heap[b]? := fun b hb => Below.heap_alloc _ _ b (hb.lt hsb)
          have St5 := hS4.out.alloc (Obj.cells #[Value.slice A3 n' c3] 30)
          have HC := cpush_any b0 g w3.heap.size 0 1 1 (X2.map Prod.fst) [⟨A3, n', c3⟩] (w4.alloc (Obj.cells #[Value.slice A3 n' c3] 30)) St5.stk rfl
            (fun q v hv => by
              match q, hv with
              | 0, hv => rw [cell_of_row _ _ _ _ _ _ (by rw [← hz4]; exact heap_alloc_new _ _)]; simpa [cjobs, CJob.cells] using hv
              | q + 1, hv => simp [cjobs, CJob.cells] at hv)
            (by rw [List.length_map]; have := HX.out; omega) (by simp; omega)
          (with_reducible refine HC.mono ?_)
          rintro e w5 ⟨⟨vv, rfl⟩, hs5, hb5, hg5⟩
          obtain ⟨St6, J6⟩ := St5.push (hJN4.out.step hka) (hJ4.out.step hka) hs5 hb5 (fun k hk hf => (hg5 k hk hf).1)
          have hb6 : Below b0 wr w5 := (HB4.out.alloc (by omega) _).trans hb5
          clear hka St5 HC hs5 hb5 hg5 hw4 hat4 hfr3 hq3
          go_wp2_with fail
          go_roundw
          case rel => exact ⟨j + 1, X2 ++ [(⟨A3, n', c3⟩, v)], by omega, by go_num, St6, J6, by have := He.out; rw [List.map_append, load_append]; simp only [List.map_cons, List.map_nil, load]; exact Lib.hid (by omega), hbl.trans hb6⟩
          case measure => simp [intOf]; omega
        · obtain rfl : j = nx := by omega
          have hnil : (subs u).drop j = [] := List.drop_eq_nil_of_le (by rw [subs_len, ← Hnx.out]; exact Nat.le_refl _)
          have hl := Hl.out
          rw [hnil] at hl
          simp only [load, Nat.add_zero] at hl
          clear hnil hlt
          go_wp2_with fail
          go_roundg (load (X2.map Prod.snd))
          case measure => omega
          case rel => exact ⟨X2, Lib.hid rfl, hst, by omega, hbl⟩
end Go.Proofs.YtapgaglkkgbgkaaGreatDoor.Cl
namespace Go.Proofs.YtapgaglkkgbgkaaGreatDoor.Cv
open Go.RowKit Go.Proofs.YtapgaglkkgbgkaaGreatDoor.Jd Go.Proofs.YtapgaglkkgbgkaaGreatDoor.Li
set_option maxRecDepth 100000

def sayF (ms : List ByteArray) (r : Rw) : Ln := (Lib.join (fieldF ms r.fs) [44], r.en.data.toList)

end Go.Proofs.YtapgaglkkgbgkaaGreatDoor.Cv
namespace Go.Proofs.YtapgaglkkgbgkaaGreatDoor.Li
open Go.RowKit
set_option maxRecDepth 100000

def Grown (w : World) (e : Ending) (w' : World) : Prop := ∃ A c, e = .returned (.slice A 0 c) ∧ w'.ownsRow w.heap.size 85 2 (.slice A 0 c) 0 [] ∧ Below w.heap.size w w'

set_option maxHeartbeats 400000 in
structure Parts (w : World) (g : Nat) (vs : List Value) (ls : List (List Ln)) : Prop where
  len : vs.length = ls.length
  cell : ∀ (i : Nat) v, vs[i]? = some v → w.cell? ⟨g, i, none⟩ = some v
  sees : ∀ (i : Nat) l, ls[i]? = some l → ∃ A n c, vs[i]? = some (.slice A n c) ∧ SeesL w w.heap.size A n l

theorem Parts.three {w : World} {g : Nat} {A B C : Option Addr} {n m o c d f : Nat} {l k q : List Ln} (hg : w.heap[g]? = some (.cells #[.slice A n c, .slice B m d, .slice C o f] 65 (0, 0))) (h1 : SeesL w w.heap.size A n l) (h2 : SeesL w w.heap.size B m k) (h3 : SeesL w w.heap.size C o q) :
    Parts w g [.slice A n c, .slice B m d, .slice C o f] [l, k, q] := by
  refine ⟨rfl, fun i v hv => ?_, fun i l' hl => ?_⟩
  · rw [cell_of_row w g i _ _ _ hg]
    simpa using hv
  · match i, hl with
    | 0, hl => simp at hl; subst hl; exact ⟨A, n, c, rfl, h1⟩
    | 1, hl => simp at hl; subst hl; exact ⟨B, m, d, rfl, h2⟩
    | 2, hl => simp at hl; subst hl; exact ⟨C, o, f, rfl, h3⟩

theorem flat_succ {ls : List (List Ln)} {k : Nat} {l : List Ln} (h : ls[k]? = some l) : (ls.take (k + 1)).flatten = (ls.take k).flatten ++ l := by
  rw [List.take_add_one, h]
  simp
theorem flat_le (ls : List (List Ln)) (k : Nat) : (ls.take k).flatten.length ≤ ls.flatten.length := by
  conv => rhs; rw [← List.take_append_drop k ls, List.flatten_append, List.length_append]
  exact Nat.le_add_right _ _

def Joined (l : List Ln) (w : World) (e : Ending) (w' : World) : Prop := ∃ A c, e = .returned (.slice A l.length c) ∧ OwnL w' w.heap.size A l.length c l ∧ Below w.heap.size w w'

end Go.Proofs.YtapgaglkkgbgkaaGreatDoor.Li
namespace Go.Proofs.YtapgaglkkgbgkaaGreatDoor.Li
open Go.RowKit
set_option maxRecDepth 100000
attribute [local go_sem ↓] Go.wp_at_zero Go.wp_at_succ

def Row (base : Nat) (w : World) (ls : List Ln) (e : Ending) (w' : World) : Prop :=
  ∃ A c, e = .returned (.slice A ls.length c) ∧ OwnL w' base A ls.length c ls ∧ Below base w w'
end Go.Proofs.YtapgaglkkgbgkaaGreatDoor.Li
namespace Go.Proofs.YtapgaglkkgbgkaaGreatDoor.Li
open Go.RowKit
set_option maxRecDepth 100000
attribute [local go_sem ↓] Go.wp_at_zero Go.wp_at_succ

theorem ended_eq (e : Bs) : ∀ l : List Ln, ended e l = (l.take (l.length - 1)).map (fun x => (x.1, or2 x.2 e)) ++ l.drop (l.length - 1)
  | [] => rfl
  | [x] => rfl
  | x :: y :: r => by
    have := ended_eq e (y :: r)
    rw [ended, this]
    rfl

theorem SeesL.cut {w : World} {B n : Nat} {A : Option Addr} {ls : List Ln} (h : SeesL w B A n ls) {k : Nat} (hk : k ≤ n) : SeesL w B (Option.map (fun x => x.add (k * 2)) A) (n - k) (ls.drop k) := by
  have hl := h.len
  refine ⟨by rw [List.length_drop]; omega, fun j u hu => ?_⟩
  rw [lcells_drop, List.getElem?_drop] at hu
  obtain ⟨b, o, rfl, hb, hc⟩ := h.cell _ u hu
  exact ⟨b, o + k * 2, by rw [Option.map_some, Addr.add_lit], hb, by rw [Nat.add_assoc]; exact hc⟩
theorem SeesL.over {w : World} {B n : Nat} {A : Option Addr} {ls : List Ln} (h : SeesL w B A n ls) {k : Nat} (hk : n ≤ k) : SeesL w B A 0 (ls.drop k) := by
  have hl := h.len
  rw [List.drop_of_length_le (by omega)]
  exact SeesL.nil _ _ _
theorem OwnL.less {w : World} {base base' n c : Nat} {A : Option Addr} {cs : List Value} (h : w.ownsRow base 85 2 (.slice A n c) n cs) (hb : base' ≤ base) : w.ownsRow base' 85 2 (.slice A n c) n cs := by
  refine ⟨h.1, ?_⟩
  rcases h.2 with e | ⟨g, cap, cur, e, hg, rest⟩
  · exact .inl e
  · exact .inr ⟨g, cap, cur, e, Nat.le_trans hb hg, rest⟩
end Go.Proofs.YtapgaglkkgbgkaaGreatDoor.Li
