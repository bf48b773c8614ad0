/- schema.Level: its closures, every of edges, of fields, the whole. Conditions: slices no longer than slices can be. -/
import Derived.Test.YtagoeededpmdkaaScTo
namespace Go.Proofs.Ytagoeededpmdkaa.Sc
open Go.RowKit Go.Proofs.Ytagoeededpmdkaa.Nm
set_option maxRecDepth 100000

theorem level1_any (s : List Df) (A : Option Addr) (n c B gs gd : Nat) (d : Int) (x : ByteArray) (A2 : Option Addr) (n2 c2 : Nat) (w : World) (h : Ds w B A n s) (hB : B ≤ w.heap.size) (hn : n ≤ 9223372036854775807)
    (hs : w.cell? ⟨gs, 0, none⟩ = some (.slice A n c)) (hd : w.cell? ⟨gd, 0, none⟩ = some (.int .i64 d)) :
    Calls Try.prog 105 #[.agg #[.string x, .slice A2 n2 c2], .pointer (some ⟨gs, 0, none⟩), .pointer (some ⟨gd, 0, none⟩)] w fun e w' => e = .returned (.bool (decide (0 ≤ toS s d x.data.toList))) ∧ Below w.heap.size w w' := by
  have hgs := block_lt hs
  have hgd := block_lt hd
  simp only at hgs hgd
  obtain ⟨W1, hW1⟩ : ∃ W, W = w.alloc (Obj.cells #[Value.string x, Value.slice A2 n2 c2] 32) := ⟨_, rfl⟩
  have g0 : W1.heap[w.heap.size]? = some (Obj.cells #[Value.string x, Value.slice A2 n2 c2] 32) := by rw [hW1, heap_alloc_new]
  have hb1 : Below w.heap.size w W1 := by rw [hW1]; exact (Below.refl _ _).alloc (Nat.le_refl _) _
  have HC := Lib.hid (to_any s A n c B d x W1 (h.below (hb1.mono hB)) (Nat.le_trans hB hb1.size) hn)
  obtain ⟨v, hv⟩ : ∃ v, v = toS s d x.data.toList := ⟨_, rfl⟩
  rw [← hv] at HC ⊢
  obtain ⟨q0, q1, _, _⟩ := box2 g0
  have hs1 := (hb1.cell (p := ⟨gs, 0, none⟩) hgs).trans hs
  have hd1 := (hb1.cell (p := ⟨gd, 0, none⟩) hgd).trans hd
  have HB1 := Lib.hid hb1
  clear hv h hb1
  by_cases h0 : 0 ≤ v
  · have H : Hid (decide (0 ≤ v) = true) := Lib.hid (decide_eq_true h0)
    rw [H.out]
    go_enter Try.func105, Try.ntmps105
    go_wp2_with fail
    rw [← hW1]
    go_wp2_with fail
    (with_reducible refine HC.out.mono ?_)
    rintro e w1 ⟨rfl, hb2⟩
    go_wp2_with fail
    go_ret
    exact ⟨rfl, HB1.out.trans (hb2.mono HB1.out.size)⟩
  · have H : Hid (decide (0 ≤ v) = false) := Lib.hid (decide_eq_false h0)
    rw [H.out]
    go_enter Try.func105, Try.ntmps105
    go_wp2_with fail
    rw [← hW1]
    go_wp2_with fail
    (with_reducible refine HC.out.mono ?_)
    rintro e w1 ⟨rfl, hb2⟩
    go_wp2_with fail
    go_ret
    exact ⟨by simp [h0], HB1.out.trans (hb2.mono HB1.out.size)⟩

set_option maxHeartbeats 2000000 in
theorem every_edge (s : List Df) (t : Tr) (A : Option Addr) (n c B gs gd : Nat) (d : Int) (A2 : Option Addr) (n2 c2 : Nat) (w : World) (h : Ds w B A n s) (hB : B ≤ w.heap.size) (hn : n ≤ 9223372036854775807)
    (hs : w.cell? ⟨gs, 0, none⟩ = some (.slice A n c)) (hd : w.cell? ⟨gd, 0, none⟩ = some (.int .i64 d)) (ht : Holds w B A2 n2 t) (hn2 : n2 ≤ 140737488351232) :
    Calls Try.prog 104 #[.slice A2 n2 c2, .func (.func 105) #[] #[.pointer (some ⟨gs, 0, none⟩), .pointer (some ⟨gd, 0, none⟩)]] w fun e w' => e = .returned (.bool ((tn t).all fun x => decide (0 ≤ toS s d x))) ∧ Below w.heap.size w w' := by
  have hgs := block_lt hs
  have hgd := block_lt hd
  simp only at hgs hgd
  have Hl : Hid (n2 = (tn t).length) := Lib.hid (by rw [tn_length]; exact ht.len)
  obtain ⟨p, hp⟩ : ∃ p : List UInt8 → Bool, p = fun x => decide (0 ≤ toS s d x) := ⟨_, rfl⟩
  have Hp := Lib.hid hp
  rw [← hp]
  obtain ⟨r, hr⟩ : ∃ r, r = (tn t).all p := ⟨_, rfl⟩
  have Hr := Lib.hid hr
  rw [← hr]
  clear hr hp
  go_enter Try.func104, Try.ntmps104
  go_wp2_with fail
  go_loopw [9] (fun i wr => ∃ k : Nat, k ≤ n2 ∧ i = .int .i64 k ∧ Hid (((tn t).take k).all p = true) ∧ Below w.heap.size w wr) (fun i _ => n2 - (intOf i).toNat)
  case atStart => exact ⟨0, Nat.zero_le _, rfl, Lib.hid (by simp), Below.refl _ _⟩
  case round =>
    obtain ⟨k, hk, rfl, H, hbw⟩ := hrel
    by_cases hlt : k < n2
    · obtain ⟨b, o, x, kt, tr, A', n', c', rfl, hb, hsx, hcx, hn', hc', hk', htr, hdr, hd2⟩ := (ht.below (hbw.mono hB)).split k hlt
      have Hs := Lib.hid (tn_drop hdr)
      have hkn : (k : Int) < (n2 : Int) := by omega
      have hk0 : (0 : Int) ≤ (k : Int) := by omega
      have hsz := hbw.size
      obtain ⟨W1, hW1⟩ : ∃ W, W = wr.alloc (Obj.cells #[Value.string x, Value.slice A' n' c'] 32) := ⟨_, rfl⟩
      have g0 : W1.heap[wr.heap.size]? = some (Obj.cells #[Value.string x, Value.slice A' n' c'] 32) := by rw [hW1, heap_alloc_new]
      have hb1 : Below wr.heap.size wr W1 := by rw [hW1]; exact (Below.refl _ _).alloc (Nat.le_refl _) _
      have hbW := hbw.trans (hb1.mono hsz)
      have HC := Lib.hid (level1_any s A n c B gs gd d x A' n' c' W1 (h.below (hbW.mono hB)) (Nat.le_trans hB hbW.size) hn ((hbW.cell (p := ⟨gs, 0, none⟩) hgs).trans hs) ((hbW.cell (p := ⟨gd, 0, none⟩) hgd).trans hd))
      obtain ⟨q0, q1, _, _⟩ := box2 g0
      have HBW := Lib.hid hbW
      obtain ⟨q, hq⟩ : ∃ q, q = decide (0 ≤ toS s d x.data.toList) := ⟨_, rfl⟩
      have Hq : Hid (p x.data.toList = q) := Lib.hid (by rw [hq, Hp.out])
      rw [← hq] at HC
      clear hq hdr hd2 hk' htr hbW hb1 g0
      cases q with
      | false =>
        have Hd2 : r = false := by rw [Hr.out]; exact all_false Hs.out Hq.out
        subst Hd2
        go_wp2_with fail
        rw [← hW1]
        go_wp2_with fail
        (with_reducible refine HC.out.mono ?_)
        rintro e w1 ⟨rfl, hb2⟩
        go_wp2_with fail
        go_ret
        exact ⟨rfl, HBW.out.trans (hb2.mono HBW.out.size)⟩
      | true =>
        have H2 : Hid (((tn t).take (k + 1)).all p = true) := Lib.hid (by rw [all_take Hs.out, H.out, Hq.out]; rfl)
        go_wp2_with fail
        rw [← hW1]
        go_wp2_with fail
        (with_reducible refine HC.out.mono ?_)
        rintro e w1 ⟨rfl, hb2⟩
        go_wp2_with fail
        go_roundw
        case rel => exact ⟨k + 1, by omega, by go_num, H2, HBW.out.trans (hb2.mono HBW.out.size)⟩
        case measure => simp [intOf]; omega
    · obtain rfl : k = n2 := by omega
      have Hd2 : r = true := by
        have := H.out
        rw [List.take_of_length_le (by rw [← Hl.out]; exact Nat.le_refl _)] at this
        rw [Hr.out, this]
      subst Hd2
      go_wp2_with fail
      go_ret
      exact ⟨rfl, hbw⟩

set_option maxHeartbeats 1000000 in
theorem level2_any (f : Fld) (t : Tr) (A3 : Option Addr) (n3 c3 : Nat) (A : Option Addr) (n c B g : Nat) (w : World) (hS : SeesV w B A3 n3 (f.n.l.map encs)) (hn3 : n3 ≤ 4611686018427387904) (h : Holds w B A n t) (hB : B ≤ w.heap.size) (hg : w.cell? ⟨g, 0, none⟩ = some (.slice A n c)) (hn : n ≤ 140737488351232) :
    Calls Try.prog 107 #[.agg #[.bool f.n.all, .slice A3 n3 c3, .int .i64 f.to, .bool f.need], .pointer (some ⟨g, 0, none⟩)] w fun e w' => e = .returned (.bool (needs (tn t) f)) ∧ Below w.heap.size w w' := by
  have hgl := block_lt hg
  simp only at hgl
  obtain ⟨W1, hW1⟩ : ∃ W, W = w.alloc (Obj.cells #[Value.bool f.n.all, Value.slice A3 n3 c3, Value.int .i64 f.to, Value.bool f.need] 83) := ⟨_, rfl⟩
  have g0 : W1.heap[w.heap.size]? = some (Obj.cells #[Value.bool f.n.all, Value.slice A3 n3 c3, Value.int .i64 f.to, Value.bool f.need] 83) := by rw [hW1, heap_alloc_new]
  have hb1 : Below w.heap.size w W1 := by rw [hW1]; exact (Below.refl _ _).alloc (Nat.le_refl _) _
  obtain ⟨W2, hW2⟩ : ∃ W, W = W1.drew.alloc (Obj.cells #[Value.slice A n c] 27) := ⟨_, rfl⟩
  have hb2 : Below W1.heap.size W1 W2 := by rw [hW2]; exact ((Below.refl _ _).drew).alloc (by simp) _
  have hbW := hb1.trans (hb2.mono hb1.size)
  have g2 : W2.heap[W1.heap.size]? = some (Obj.cells #[Value.slice A n c] 27) := by rw [hW2]; exact heap_alloc_new W1.drew _
  have HE : Hid (Calls Try.prog 109 #[.slice A n c] W1.drew fun e w' => e = .returned (.func (.func 146) #[] #[.pointer (some ⟨W1.heap.size, 0, none⟩)]) ∧ w' = W2) := by rw [hW2]; exact Lib.hid (edgeOf_any A n c W1.drew)
  have HV := Lib.hid (every_has f.n.l t A3 A n3 c3 n c B W1.heap.size W2 (hS.below (hbW.mono hB)) (h.below (hbW.mono hB)) (Nat.le_trans hB hbW.size) (box1 g2) hn hn3)
  obtain ⟨r, hr⟩ : ∃ r, r = f.n.l.all fun x => decide (x ∈ tn t) := ⟨_, rfl⟩
  have HR : Hid (needs (tn t) f = (!f.need || r)) := Lib.hid (by rw [hr]; rfl)
  rw [← hr] at HV
  rw [HR.out]
  obtain ⟨q0, q1, q2, q3⟩ := box4 g0
  have hg1 := (hb1.cell (p := ⟨g, 0, none⟩) hgl).trans hg
  have HB1 := Lib.hid hb1
  have HB2 := Lib.hid hb2
  obtain ⟨b, hb⟩ : ∃ b, b = f.need := ⟨_, rfl⟩
  rw [← hb] at q3 hW1 ⊢
  clear hr hb h hS g0 g2 hb1 hb2 hbW HR hW2
  cases b with
  | false =>
    go_enter Try.func107, Try.ntmps107
    go_wp2_with fail
    rw [← hW1]
    clear hW1
    go_quiet (fail)
    all_goals
      go_wp2_with fail
      go_ret
      exact ⟨rfl, ⟨HB1.out.os, HB1.out.tape, HB1.out.output, HB1.out.size, HB1.out.block⟩⟩
  | true =>
    have HK := Lib.hid (fun W (hb : Below W1.heap.size W1 W) => (⟨hb, (hb.cell (p := ⟨w.heap.size, 1, none⟩) (block_lt q1)).trans q1, (hb.cell (p := ⟨w.heap.size, 3, none⟩) (block_lt q3)).trans q3, (hb.cell (p := ⟨g, 0, none⟩) (block_lt hg1)).trans hg1⟩ : Below W1.heap.size W1 W ∧ W.cell? ⟨w.heap.size, 1, none⟩ = some (.slice A3 n3 c3) ∧ W.cell? ⟨w.heap.size, 3, none⟩ = some (.bool true) ∧ W.cell? ⟨g, 0, none⟩ = some (.slice A n c)))
    have hb0 : Below W1.heap.size W1 W1.drew := (Below.refl _ _).drew
    go_enter Try.func107, Try.ntmps107
    go_wp2_with fail
    rw [← hW1]
    clear hW1
    go_region_held3 (fun w' => Below W1.heap.size W1 w' ∧ w'.cell? ⟨w.heap.size, 1, none⟩ = some (.slice A3 n3 c3) ∧ w'.cell? ⟨w.heap.size, 3, none⟩ = some (.bool true) ∧ w'.cell? ⟨g, 0, none⟩ = some (.slice A n c))
      (first | exact HK.out _ hb0 | exact HK.out _ hb3 | exact HK.out _ hb4)
      (first
      | (go_at_call 109; (with_reducible refine HE.out.mono ?_); rintro e w1 ⟨rfl, rfl⟩; have hb3 := HB2.out)
      | (go_at_call 108; (with_reducible refine HV.out.mono ?_); rintro e w2 ⟨rfl, hb5⟩; have hb4 := HB2.out.trans (hb5.mono HB2.out.size)))
    all_goals
      go_wp2_with fail
      go_ret
      exact ⟨rfl, HB1.out.trans (hb4.mono HB1.out.size)⟩
end Go.Proofs.Ytagoeededpmdkaa.Sc
