/- cadenceref3's Not: what is not in a set. Conditions: fewer than 2^38 names. -/
import Derived.Test.YtagoeededpmdkaaNmPut
import Derived.Deep.RegionWith
namespace Go.Proofs.Ytagoeededpmdkaa.Nm
open Go.RowKit
set_option maxRecDepth 100000

/-- Within a loop that puts names into a set's row: the box, the row seen, all that lay there ahead. -/
structure Rst (G W5 : Nat) (w5 : World) (c0 : Bool) (R : Option Addr) (N cR : Nat) (ys : List (List UInt8)) (wr : World) : Prop where
  keep : ∀ k, k < W5 → k ≠ G → wr.heap[k]? = w5.heap[k]?
  size : W5 ≤ wr.heap.size
  os : wr.os = w5.os
  tape : wr.tape = w5.tape
  output : wr.output = w5.output
  boxc : wr.heap[G]? = some (.cells #[.bool c0, .slice R N cR] 60 (0, 0))
  seen : SeesV wr wr.heap.size R N (ys.map encs)
  cap : N ≤ cR
  form : R = none ∧ cR = 0 ∨ ∃ b o, R = some ⟨b, o, none⟩
  pair : ys.Pairwise (· < ·)
theorem seesV_far {w : World} {B n : Nat} {A : Option Addr} {ss : List (List UInt8)} {g i : Nat} {u v v' : Value} {T : TypeId} (hbox : w.heap[g]? = some (.cells #[u, v] T (0, 0))) (hu : ∀ x, u ≠ .string x) (hv : ∀ x, v ≠ .string x) (hs : SeesV w B A n (ss.map encs)) :
    SeesV (w.setCell ⟨g, i, none⟩ v') B A n (ss.map encs) := by
  refine ⟨hs.len, fun j q hq => ?_⟩
  obtain ⟨b, o, e, hb', hc⟩ := hs.cell j q hq
  have hbg : b ≠ g := by
    rintro rfl
    rw [List.getElem?_map, Option.map_eq_some_iff] at hq
    obtain ⟨y, _, rfl⟩ := hq
    exact box2_str hbox hu hv _ hc
  refine ⟨b, o, e, hb', ?_⟩
  rw [World.cell?_setCell_other _ _ _ _ (fun e => hbg (congrArg Addr.block e).symm)]
  exact hc
theorem Rst.below {G W5 : Nat} {w5 wr wr' : World} {c0 : Bool} {R : Option Addr} {N cR : Nat} {ys : List (List UInt8)} (h : Rst G W5 w5 c0 R N cR ys wr) (hb : Below wr.heap.size wr wr') : Rst G W5 w5 c0 R N cR ys wr' where
  keep := fun k hk hg => (hb.block k (Nat.lt_of_lt_of_le hk h.size)).trans (h.keep k hk hg)
  size := Nat.le_trans h.size hb.size
  os := hb.os.trans h.os
  tape := hb.tape.trans h.tape
  output := hb.output.trans h.output
  boxc := Below.box hb h.boxc
  seen := ⟨h.seen.len, fun j u hu => by
    obtain ⟨b, o, e, hb', hc⟩ := h.seen.cell j u hu
    exact ⟨b, o, e, Nat.lt_of_lt_of_le hb' hb.size, (hb.cell (p := ⟨b, o + j, none⟩) hb').trans hc⟩⟩
  cap := h.cap
  form := h.form
  pair := h.pair
theorem Rst.put {G W5 : Nat} {w5 w w4 : World} {c0 : Bool} {R A4 : Option Addr} {N cR N4 c4 : Nat} {ys zs : List (List UInt8)} (h : Rst G W5 w5 c0 R N cR ys w) (hb : Below w.heap.size w w4)
    (hs : SeesV w4 w4.heap.size A4 N4 (zs.map encs)) (hc : N4 ≤ c4) (hf : A4 = none ∧ c4 = 0 ∨ ∃ b o, A4 = some ⟨b, o, none⟩) (hp : zs.Pairwise (· < ·)) :
    w4.heap[G]? = some (.cells #[.bool c0, .slice R N cR] 60 (0, 0)) ∧ Rst G W5 w5 c0 A4 N4 c4 zs (w4.setCell ⟨G, 1, none⟩ (.slice A4 N4 c4)) := by
  have h4 := h.below hb
  refine ⟨h4.boxc, ⟨fun k hk hk2 => ?_, ?_, h4.os, h4.tape, h4.output, set_box2 h4.boxc, ?_, hc, hf, hp⟩⟩
  · rw [Below.heap_setCell w4 ⟨G, 1, none⟩ _ k hk2, h4.keep k hk hk2]
  · have := h4.size
    simpa [World.setCell] using this
  · have := seesV_far (v' := .slice A4 N4 c4) (i := 1) h4.boxc (fun x e => by cases e) (fun x e => by cases e) hs
    simpa [World.setCell] using this
theorem Rst.less {G W5 B : Nat} {w5 w : World} {c0 : Bool} {R : Option Addr} {N cR : Nat} {ys : List (List UInt8)} (h : Rst G W5 w5 c0 R N cR ys w) (h1 : B ≤ W5) (h2 : B ≤ G) (h3 : w5.heap.size = W5) : Below B w5 w :=
  ⟨h.os, h.tape, h.output, by rw [h3]; exact h.size, fun k hk => h.keep k (by omega) (by omega)⟩

theorem ord_eq {ys zs : List (List UInt8)} (hp : ys.Pairwise (· < ·)) (hm : ∀ y, y ∈ ys ↔ y ∈ zs) : ys = ord zs :=
  asc_eq hp (ord_pair _) (fun y => (hm y).trans (ord_mem _ _).symm)

set_option maxHeartbeats 2000000 in
theorem rnot_any (a : St) (A : Option Addr) (n c : Nat) (w : World) (h : In w a A n) (hn : n ≤ 274877906944) :
    Calls Try.prog 96 #[.agg #[.bool a.all, .slice A n c]] w (Told (nott a) w) := by
  obtain ⟨W1, hW1, g0, g1, g2, gs, gb⟩ := three w (Obj.cells #[Value.bool a.all, Value.slice A n c] 60) (Obj.cells #[Value.bool false, Value.slice none 0 0] 60) (Obj.cells #[Value.bool !a.all, Value.slice none 0 0] 60)
  have HH := Lib.hid h
  have Hl := Lib.hid h.len
  obtain ⟨x0, hx0⟩ : ∃ x, x = a.all := ⟨_, rfl⟩
  have Hx0 := Lib.hid hx0
  rw [← hx0] at g0 g2 hW1 ⊢
  clear hx0 h
  obtain ⟨y0, hy0⟩ : ∃ y, y = !x0 := ⟨_, rfl⟩
  have Hy0 := Lib.hid hy0
  rw [← hy0] at g2
  have hW1' := hW1
  rw [← hy0] at hW1'
  go_enter Try.func96, Try.ntmps96
  clear hy0
  go_wp2_with fail
  rw [← hW1]
  clear hW1 hW1'
  go_loopw [4] (fun i wr => ∃ (k : Nat) (R : Option Addr) (N cR : Nat) (ys : List (List UInt8)), k ≤ n ∧ N ≤ k ∧ N = ys.length ∧ i = .int .i64 k ∧ Rst (w.heap.size + 1 + 1) W1.heap.size W1 y0 R N cR ys wr ∧ Hid (∀ y, y ∈ ys ↔ y ∈ a.l.take k)) (fun i _ => n - (intOf i).toNat)
  case atStart => exact ⟨0, none, 0, 0, [], Nat.zero_le _, Nat.le_refl _, rfl, rfl, ⟨fun k hk _ => rfl, Nat.le_refl _, rfl, rfl, rfl, g2, ⟨rfl, fun j u h => by simp at h⟩, Nat.le_refl _, .inl ⟨rfl, rfl⟩, List.Pairwise.nil⟩, Lib.hid (by simp)⟩
  case round =>
    obtain ⟨k, R, N, cR, ys, hk, hNk, hN, rfl, hC, H⟩ := hrel
    obtain ⟨q0, q1, _, _⟩ := box2 ((hC.keep w.heap.size (by omega) (by omega)).trans g0)
    obtain ⟨q2, q3, q4, q5⟩ := box2 ((hC.keep (w.heap.size + 1) (by omega) (by omega)).trans g1)
    obtain ⟨q6, q7, q8, q9⟩ := box2 hC.boxc
    have HN := Lib.hid hN
    have hsz := hC.size
    clear hN
    by_cases hlt : k < n
    · obtain ⟨b3, o3, x, rfl, hb3, hc3, hx3⟩ := nth HH.out.sees hlt
      have hcx : wr.cell? ⟨b3, o3 + k, none⟩ = some (.string x) := by
        rw [World.cell?_of_block (a := ⟨b3, o3 + k, none⟩) (hC.keep b3 (by omega) (by omega)), gb.cell (p := ⟨b3, o3 + k, none⟩) hb3, hc3]
      have HP := Lib.hid (fun W (hb : Below wr.heap.size wr W) => put_any ys hC.pair R N cR x W (hC.below hb).seen hC.cap hC.form (by omega))
      have HC := Lib.hid hC
      have Hx3 := Lib.hid hx3
      have hkn : (k : Int) < (n : Int) := by omega
      have hk0 : (0 : Int) ≤ (k : Int) := by omega
      have hb0 : Below wr.heap.size wr wr.drew := (Below.refl _ _).drew
      clear hx3 hc3 hC
      go_wp2_with fail
      go_region_with (first
        | (go_at_call 141; (with_reducible refine (HP.out _ hb0).mono ?_); rintro e w4 ⟨A4, c4, zs, rfl, hf4, hs4, hc4, hp4, hm4, hl4, hb4⟩; have hP := HC.out.put (hb0.trans hb4) hs4 hc4 hf4 hp4; obtain ⟨s6, s7, s8, s9⟩ := box2 hP.1; have HPP := Lib.hid hP.2; have Hm4 := Lib.hid hm4; clear hP hm4))
      all_goals
        go_wp2_with fail
        go_roundw
        case rel => exact ⟨k + 1, A4, _, c4, zs, by omega, by have := HN.out; omega, rfl, by go_num, HPP.out, Lib.hid (fun y => by rw [Hm4.out, H.out, mem_take Hx3.out]; exact Or.comm)⟩
        case measure => simp [intOf]; omega
    · have hkn : ¬ (k : Int) < (n : Int) := by omega
      have hkn2 : (n : Int) ≤ (k : Int) := by omega
      have HC := Lib.hid hC
      have HW := Lib.hid (gb.trans (hC.less (B := w.heap.size) (by omega) (by omega) rfl))
      have hbx := (hC.keep (w.heap.size + 1) (by omega) (by omega)).trans g1
      have hys : ys = (nott a).l := ord_eq hC.pair (fun y => by rw [H.out y, List.take_of_length_le (by rw [← Hl.out]; omega)])
      have Hys := Lib.hid hys
      have hsee := hC.seen
      clear hC hys
      go_wp2_with fail
      refine bodyPost_ret (v := .agg #[.bool y0, .slice R N cR]) (by simp [results, Try.results96, go_sem, q2, q3]) rfl ?_
      exact told_put (s := nott a) hbx (by rw [← Hys.out]; exact hsee) (by rw [← Hys.out]; exact HN.out) HW.out (by omega) (by rw [Hy0.out, Hx0.out]; rfl)
end Go.Proofs.Ytagoeededpmdkaa.Nm
