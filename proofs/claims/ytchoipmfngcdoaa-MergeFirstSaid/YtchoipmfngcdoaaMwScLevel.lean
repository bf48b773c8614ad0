/- schema.Level: its closures, every of edges, of fields, the whole. Conditions: slices no longer than slices can be. · schema.every of fields, schema.Level. Conditions: fewer than 4,096 fields, names in each. · merge: whether edges may stand there; whole trees. Conditions: fewer than 2^38 edges; names of a field at most 4096. · merge: edges and conflicts as their rows' values. No conditions. · merge: what the loop over the names keeps. No conditions. · merge: how many conflicts, how many names; what is below is less. No conditions. -/
import Derived.Test.YtchoipmfngcdoaaMwMgEach
import Derived.Test.YtchoipmfngcdoaaMwMgPlace
namespace Go.Proofs.Ytchoipmfngcdoaa.Sc
open Go.RowKit Go.Proofs.Ytchoipmfngcdoaa.Nm
set_option maxRecDepth 100000

theorem level1_any (s : List Df) (A : Option Addr) (n c B gs gd : Nat) (d : Int) (x : ByteArray) (A2 : Option Addr) (n2 c2 : Nat) (w : World) (h : Ds w B A n s) (hB : B ≤ w.heap.size) (hn : n ≤ 9223372036854775807)
    (hs : w.cell? ⟨gs, 0, none⟩ = some (.slice A n c)) (hd : w.cell? ⟨gd, 0, none⟩ = some (.int .i64 d)) :
    Calls Try.prog 71 #[.agg #[.string x, .slice A2 n2 c2], .pointer (some ⟨gs, 0, none⟩), .pointer (some ⟨gd, 0, none⟩)] w fun e w' => e = .returned (.bool (decide (0 ≤ toS s d x.data.toList))) ∧ Below w.heap.size w w' := by
  have hgs := block_lt hs
  have hgd := block_lt hd
  simp only at hgs hgd
  obtain ⟨W1, hW1⟩ : ∃ W, W = w.alloc (Obj.cells #[Value.string x, Value.slice A2 n2 c2] 51) := ⟨_, rfl⟩
  have g0 : W1.heap[w.heap.size]? = some (Obj.cells #[Value.string x, Value.slice A2 n2 c2] 51) := by rw [hW1, heap_alloc_new]
  have hb1 : Below w.heap.size w W1 := by rw [hW1]; exact (Below.refl _ _).alloc (Nat.le_refl _) _
  have HC := Lib.hid (to_any s A n c B d x W1 (h.below (hb1.mono hB)) (Nat.le_trans hB hb1.size) hn)
  obtain ⟨v, hv⟩ : ∃ v, v = toS s d x.data.toList := ⟨_, rfl⟩
  rw [← hv] at HC ⊢
  obtain ⟨q0, q1, _, _⟩ := box2 g0
  have hs1 := (hb1.cell (p := ⟨gs, 0, none⟩) hgs).trans hs
  have hd1 := (hb1.cell (p := ⟨gd, 0, none⟩) hgd).trans hd
  have HB1 := Lib.hid hb1
  clear hv h hb1
  by_cases h0 : 0 ≤ v
  · have H : Hid (decide (0 ≤ v) = true) := Lib.hid (decide_eq_true h0)
    rw [H.out]
    go_enter Try.func71, Try.ntmps71
    go_wp2_with fail
    rw [← hW1]
    go_wp2_with fail
    (with_reducible refine HC.out.mono ?_)
    rintro e w1 ⟨rfl, hb2⟩
    go_wp2_with fail
    go_ret
    exact ⟨rfl, HB1.out.trans (hb2.mono HB1.out.size)⟩
  · have H : Hid (decide (0 ≤ v) = false) := Lib.hid (decide_eq_false h0)
    rw [H.out]
    go_enter Try.func71, Try.ntmps71
    go_wp2_with fail
    rw [← hW1]
    go_wp2_with fail
    (with_reducible refine HC.out.mono ?_)
    rintro e w1 ⟨rfl, hb2⟩
    go_wp2_with fail
    go_ret
    exact ⟨by simp [h0], HB1.out.trans (hb2.mono HB1.out.size)⟩

set_option maxHeartbeats 2000000 in
theorem every_edge (s : List Df) (t : Tr) (A : Option Addr) (n c B gs gd : Nat) (d : Int) (A2 : Option Addr) (n2 c2 : Nat) (w : World) (h : Ds w B A n s) (hB : B ≤ w.heap.size) (hn : n ≤ 9223372036854775807)
    (hs : w.cell? ⟨gs, 0, none⟩ = some (.slice A n c)) (hd : w.cell? ⟨gd, 0, none⟩ = some (.int .i64 d)) (ht : Holds w B A2 n2 t) (hn2 : n2 ≤ 140737488351232) :
    Calls Try.prog 70 #[.slice A2 n2 c2, .func (.func 71) #[] #[.pointer (some ⟨gs, 0, none⟩), .pointer (some ⟨gd, 0, none⟩)]] w fun e w' => e = .returned (.bool ((tn t).all fun x => decide (0 ≤ toS s d x))) ∧ Below w.heap.size w w' := by
  have hgs := block_lt hs
  have hgd := block_lt hd
  simp only at hgs hgd
  have Hl : Hid (n2 = (tn t).length) := Lib.hid (by rw [tn_length]; exact ht.len)
  obtain ⟨p, hp⟩ : ∃ p : List UInt8 → Bool, p = fun x => decide (0 ≤ toS s d x) := ⟨_, rfl⟩
  have Hp := Lib.hid hp
  rw [← hp]
  obtain ⟨r, hr⟩ : ∃ r, r = (tn t).all p := ⟨_, rfl⟩
  have Hr := Lib.hid hr
  rw [← hr]
  clear hr hp
  go_enter Try.func70, Try.ntmps70
  go_wp2_with fail
  go_loopw [9] (fun i wr => ∃ k : Nat, k ≤ n2 ∧ i = .int .i64 k ∧ Hid (((tn t).take k).all p = true) ∧ Below w.heap.size w wr) (fun i _ => n2 - (intOf i).toNat)
  case atStart => exact ⟨0, Nat.zero_le _, rfl, Lib.hid (by simp), Below.refl _ _⟩
  case round =>
    obtain ⟨k, hk, rfl, H, hbw⟩ := hrel
    by_cases hlt : k < n2
    · obtain ⟨b, o, x, kt, tr, A', n', c', rfl, hb, hsx, hcx, hn', hc', hk', htr, hdr, hd2⟩ := (ht.below (hbw.mono hB)).split k hlt
      have Hs := Lib.hid (tn_drop hdr)
      have hkn : (k : Int) < (n2 : Int) := by omega
      have hk0 : (0 : Int) ≤ (k : Int) := by omega
      have hsz := hbw.size
      obtain ⟨W1, hW1⟩ : ∃ W, W = wr.alloc (Obj.cells #[Value.string x, Value.slice A' n' c'] 51) := ⟨_, rfl⟩
      have g0 : W1.heap[wr.heap.size]? = some (Obj.cells #[Value.string x, Value.slice A' n' c'] 51) := by rw [hW1, heap_alloc_new]
      have hb1 : Below wr.heap.size wr W1 := by rw [hW1]; exact (Below.refl _ _).alloc (Nat.le_refl _) _
      have hbW := hbw.trans (hb1.mono hsz)
      have HC := Lib.hid (level1_any s A n c B gs gd d x A' n' c' W1 (h.below (hbW.mono hB)) (Nat.le_trans hB hbW.size) hn ((hbW.cell (p := ⟨gs, 0, none⟩) hgs).trans hs) ((hbW.cell (p := ⟨gd, 0, none⟩) hgd).trans hd))
      obtain ⟨q0, q1, _, _⟩ := box2 g0
      have HBW := Lib.hid hbW
      obtain ⟨q, hq⟩ : ∃ q, q = decide (0 ≤ toS s d x.data.toList) := ⟨_, rfl⟩
      have Hq : Hid (p x.data.toList = q) := Lib.hid (by rw [hq, Hp.out])
      rw [← hq] at HC
      clear hq hdr hd2 hk' htr hbW hb1 g0
      cases q with
      | false =>
        have Hd2 : r = false := by rw [Hr.out]; exact all_false Hs.out Hq.out
        subst Hd2
        go_wp2_with fail
        rw [← hW1]
        go_wp2_with fail
        (with_reducible refine HC.out.mono ?_)
        rintro e w1 ⟨rfl, hb2⟩
        go_wp2_with fail
        go_ret
        exact ⟨rfl, HBW.out.trans (hb2.mono HBW.out.size)⟩
      | true =>
        have H2 : Hid (((tn t).take (k + 1)).all p = true) := Lib.hid (by rw [all_take Hs.out, H.out, Hq.out]; rfl)
        go_wp2_with fail
        rw [← hW1]
        go_wp2_with fail
        (with_reducible refine HC.out.mono ?_)
        rintro e w1 ⟨rfl, hb2⟩
        go_wp2_with fail
        go_roundw
        case rel => exact ⟨k + 1, by omega, by go_num, H2, HBW.out.trans (hb2.mono HBW.out.size)⟩
        case measure => simp [intOf]; omega
    · obtain rfl : k = n2 := by omega
      have Hd2 : r = true := by
        have := H.out
        rw [List.take_of_length_le (by rw [← Hl.out]; exact Nat.le_refl _)] at this
        rw [Hr.out, this]
      subst Hd2
      go_wp2_with fail
      go_ret
      exact ⟨rfl, hbw⟩

set_option maxHeartbeats 1000000 in
theorem level2_any (f : Fld) (t : Tr) (A3 : Option Addr) (n3 c3 : Nat) (A : Option Addr) (n c B g : Nat) (w : World) (hS : SeesV w B A3 n3 (f.n.l.map encs)) (hn3 : n3 ≤ 4611686018427387904) (h : Holds w B A n t) (hB : B ≤ w.heap.size) (hg : w.cell? ⟨g, 0, none⟩ = some (.slice A n c)) (hn : n ≤ 140737488351232) :
    Calls Try.prog 73 #[.agg #[.bool f.n.all, .slice A3 n3 c3, .int .i64 f.to, .bool f.need], .pointer (some ⟨g, 0, none⟩)] w fun e w' => e = .returned (.bool (needs (tn t) f)) ∧ Below w.heap.size w w' := by
  have hgl := block_lt hg
  simp only at hgl
  obtain ⟨W1, hW1⟩ : ∃ W, W = w.alloc (Obj.cells #[Value.bool f.n.all, Value.slice A3 n3 c3, Value.int .i64 f.to, Value.bool f.need] 56) := ⟨_, rfl⟩
  have g0 : W1.heap[w.heap.size]? = some (Obj.cells #[Value.bool f.n.all, Value.slice A3 n3 c3, Value.int .i64 f.to, Value.bool f.need] 56) := by rw [hW1, heap_alloc_new]
  have hb1 : Below w.heap.size w W1 := by rw [hW1]; exact (Below.refl _ _).alloc (Nat.le_refl _) _
  obtain ⟨W2, hW2⟩ : ∃ W, W = W1.drew.alloc (Obj.cells #[Value.slice A n c] 24) := ⟨_, rfl⟩
  have hb2 : Below W1.heap.size W1 W2 := by rw [hW2]; exact ((Below.refl _ _).drew).alloc (by simp) _
  have hbW := hb1.trans (hb2.mono hb1.size)
  have g2 : W2.heap[W1.heap.size]? = some (Obj.cells #[Value.slice A n c] 24) := by rw [hW2]; exact heap_alloc_new W1.drew _
  have HE : Hid (Calls Try.prog 75 #[.slice A n c] W1.drew fun e w' => e = .returned (.func (.func 90) #[] #[.pointer (some ⟨W1.heap.size, 0, none⟩)]) ∧ w' = W2) := by rw [hW2]; exact Lib.hid (edgeOf_any A n c W1.drew)
  have HV := Lib.hid (every_has f.n.l t A3 A n3 c3 n c B W1.heap.size W2 (hS.below (hbW.mono hB)) (h.below (hbW.mono hB)) (Nat.le_trans hB hbW.size) (box1 g2) hn hn3)
  obtain ⟨r, hr⟩ : ∃ r, r = f.n.l.all fun x => decide (x ∈ tn t) := ⟨_, rfl⟩
  have HR : Hid (needs (tn t) f = (!f.need || r)) := Lib.hid (by rw [hr]; rfl)
  rw [← hr] at HV
  rw [HR.out]
  obtain ⟨q0, q1, q2, q3⟩ := box4 g0
  have hg1 := (hb1.cell (p := ⟨g, 0, none⟩) hgl).trans hg
  have HB1 := Lib.hid hb1
  have HB2 := Lib.hid hb2
  obtain ⟨b, hb⟩ : ∃ b, b = f.need := ⟨_, rfl⟩
  rw [← hb] at q3 hW1 ⊢
  clear hr hb h hS g0 g2 hb1 hb2 hbW HR hW2
  cases b with
  | false =>
    go_enter Try.func73, Try.ntmps73
    go_wp2_with fail
    rw [← hW1]
    clear hW1
    go_quiet (fail)
    all_goals
      go_wp2_with fail
      go_ret
      exact ⟨rfl, ⟨HB1.out.os, HB1.out.tape, HB1.out.output, HB1.out.size, HB1.out.block⟩⟩
  | true =>
    have HK := Lib.hid (fun W (hb : Below W1.heap.size W1 W) => (⟨hb, (hb.cell (p := ⟨w.heap.size, 1, none⟩) (block_lt q1)).trans q1, (hb.cell (p := ⟨w.heap.size, 3, none⟩) (block_lt q3)).trans q3, (hb.cell (p := ⟨g, 0, none⟩) (block_lt hg1)).trans hg1⟩ : Below W1.heap.size W1 W ∧ W.cell? ⟨w.heap.size, 1, none⟩ = some (.slice A3 n3 c3) ∧ W.cell? ⟨w.heap.size, 3, none⟩ = some (.bool true) ∧ W.cell? ⟨g, 0, none⟩ = some (.slice A n c)))
    have hb0 : Below W1.heap.size W1 W1.drew := (Below.refl _ _).drew
    go_enter Try.func73, Try.ntmps73
    go_wp2_with fail
    rw [← hW1]
    clear hW1
    go_region_held3 (fun w' => Below W1.heap.size W1 w' ∧ w'.cell? ⟨w.heap.size, 1, none⟩ = some (.slice A3 n3 c3) ∧ w'.cell? ⟨w.heap.size, 3, none⟩ = some (.bool true) ∧ w'.cell? ⟨g, 0, none⟩ = some (.slice A n c))
      (first | exact HK.out _ hb0 | exact HK.out _ hb3 | exact HK.out _ hb4)
      (first
      | (go_at_call 75; (with_reducible refine HE.out.mono ?_); rintro e w1 ⟨rfl, rfl⟩; have hb3 := HB2.out)
      | (go_at_call 74; (with_reducible refine HV.out.mono ?_); rintro e w2 ⟨rfl, hb5⟩; have hb4 := HB2.out.trans (hb5.mono HB2.out.size)))
    all_goals
      go_wp2_with fail
      go_ret
      exact ⟨rfl, HB1.out.trans (hb4.mono HB1.out.size)⟩
end Go.Proofs.Ytchoipmfngcdoaa.Sc
namespace Go.Proofs.Ytchoipmfngcdoaa.Sc
open Go.RowKit Go.Proofs.Ytchoipmfngcdoaa.Nm
set_option maxRecDepth 100000

/-- Small lists of names. -/
def Fit (fs : List Fld) : Prop := ∀ f ∈ fs, f.n.l.length ≤ 4096

set_option maxHeartbeats 2000000 in
theorem every_field (fs : List Fld) (t : Tr) (A2 : Option Addr) (n2 c2 : Nat) (A : Option Addr) (n c B g : Nat) (w : World) (hF : Fs w B A2 n2 fs) (hfit : Fit fs) (hn2 : n2 ≤ 9223372036854775807) (h : Holds w B A n t) (hB : B ≤ w.heap.size) (hg : w.cell? ⟨g, 0, none⟩ = some (.slice A n c)) (hn : n ≤ 140737488351232) :
    Calls Try.prog 72 #[.slice A2 n2 c2, .func (.func 73) #[] #[.pointer (some ⟨g, 0, none⟩)]] w fun e w' => e = .returned (.bool (fs.all (needs (tn t)))) ∧ Below w.heap.size w w' := by
  have hgl := block_lt hg
  simp only at hgl
  have Hl := Lib.hid hF.len
  obtain ⟨p, hp⟩ : ∃ p : Fld → Bool, p = needs (tn t) := ⟨_, rfl⟩
  have Hp := Lib.hid hp
  rw [← hp]
  obtain ⟨r, hr⟩ : ∃ r, r = fs.all p := ⟨_, rfl⟩
  have Hr := Lib.hid hr
  rw [← hr]
  have HX := Lib.hid hfit
  clear hr hp hfit
  go_enter Try.func72, Try.ntmps72
  go_wp2_with fail
  go_loopw [9] (fun i wr => ∃ k : Nat, k ≤ n2 ∧ i = .int .i64 k ∧ Hid ((fs.take k).all p = true) ∧ Below w.heap.size w wr) (fun i _ => n2 - (intOf i).toNat)
  case atStart => exact ⟨0, Nat.zero_le _, rfl, Lib.hid (by simp), Below.refl _ _⟩
  case round =>
    obtain ⟨k, hk, rfl, H, hbw⟩ := hrel
    by_cases hlt : k < n2
    · obtain ⟨b, o, f, A3, n3, c3, rfl, hb, hf, f1, f2, f3, f4, hS, f5, f6⟩ := (hF.below (hbw.mono hB)).at hlt
      have Hs := Lib.hid hf
      have hn3 : n3 ≤ 4611686018427387904 := by
        have h1 := hS.len
        rw [List.length_map] at h1
        have := HX.out f (List.mem_of_getElem? hf)
        omega
      have hkn : (k : Int) < (n2 : Int) := by omega
      have hk0 : (0 : Int) ≤ (k : Int) := by omega
      have hsz := hbw.size
      obtain ⟨W1, hW1⟩ : ∃ W, W = wr.alloc (Obj.cells #[Value.bool f.n.all, Value.slice A3 n3 c3, Value.int .i64 f.to, Value.bool f.need] 56) := ⟨_, rfl⟩
      have g0 : W1.heap[wr.heap.size]? = some (Obj.cells #[Value.bool f.n.all, Value.slice A3 n3 c3, Value.int .i64 f.to, Value.bool f.need] 56) := by rw [hW1, heap_alloc_new]
      have hb1 : Below wr.heap.size wr W1 := by rw [hW1]; exact (Below.refl _ _).alloc (Nat.le_refl _) _
      have hbW := hbw.trans (hb1.mono hsz)
      have HC := Lib.hid (level2_any f t A3 n3 c3 A n c B g W1 (hS.below (hb1.mono (Nat.le_trans hB hsz))) hn3 (h.below (hbW.mono hB)) (Nat.le_trans hB hbW.size) ((hbW.cell (p := ⟨g, 0, none⟩) hgl).trans hg) hn)
      obtain ⟨q0, q1, q2, q3⟩ := box4 g0
      have HBW := Lib.hid hbW
      obtain ⟨q, hq⟩ : ∃ q, q = needs (tn t) f := ⟨_, rfl⟩
      have Hq : Hid (p f = q) := Lib.hid (by rw [hq, Hp.out])
      rw [← hq] at HC
      clear hq hf hS hbW hb1 g0 f5 f6
      cases q with
      | false =>
        have Hd2 : r = false := by rw [Hr.out]; exact all_false Hs.out Hq.out
        subst Hd2
        go_wp2_with fail
        rw [← hW1]
        go_wp2_with fail
        (with_reducible refine HC.out.mono ?_)
        rintro e w1 ⟨rfl, hb2⟩
        go_wp2_with fail
        go_ret
        exact ⟨rfl, HBW.out.trans (hb2.mono HBW.out.size)⟩
      | true =>
        have H2 : Hid ((fs.take (k + 1)).all p = true) := Lib.hid (by rw [all_take Hs.out, H.out, Hq.out]; rfl)
        go_wp2_with fail
        rw [← hW1]
        go_wp2_with fail
        (with_reducible refine HC.out.mono ?_)
        rintro e w1 ⟨rfl, hb2⟩
        go_wp2_with fail
        go_roundw
        case rel => exact ⟨k + 1, by omega, by go_num, H2, HBW.out.trans (hb2.mono HBW.out.size)⟩
        case measure => simp [intOf]; omega
    · obtain rfl : k = n2 := by omega
      have Hd2 : r = true := by
        have := H.out
        rw [List.take_of_length_le (by rw [← Hl.out]; exact Nat.le_refl _)] at this
        rw [Hr.out, this]
      subst Hd2
      go_wp2_with fail
      go_ret
      exact ⟨rfl, hbw⟩

theorem four' (w : World) (o0 o1 o2 o3 : Obj) : ∃ W, W = (((w.alloc o0).alloc o1).alloc o2).alloc o3 ∧ W.heap[w.heap.size]? = some o0 ∧ W.heap[w.heap.size + 1]? = some o1 ∧ W.heap[w.heap.size + 1 + 1]? = some o2 ∧ W.heap[w.heap.size + 1 + 1 + 1]? = some o3 ∧ W.heap.size = w.heap.size + 4 ∧ Below w.heap.size w W := by
  obtain ⟨W, hW, g0, g1, g2, gs, gb⟩ := three w o0 o1 o2
  refine ⟨_, rfl, ?_, ?_, ?_, ?_, by simp, ((((Below.refl _ _).alloc (Nat.le_refl _) _).alloc (by simp) _).alloc (by simp; omega) _).alloc (by simp; omega) _⟩
  · rw [← hW, Below.heap_alloc _ _ _ (by omega), g0]
  · rw [← hW, Below.heap_alloc _ _ _ (by omega), g1]
  · rw [← hW, Below.heap_alloc _ _ _ (by omega), g2]
  · rw [← hW, show w.heap.size + 1 + 1 + 1 = W.heap.size by omega, heap_alloc_new]

/-- Small schemas. -/
def FitS (s : List Df) : Prop := ∀ d ∈ s, d.fs.length ≤ 4096 ∧ Fit d.fs

set_option maxHeartbeats 2000000 in
theorem level_any (s : List Df) (t : Tr) (A : Option Addr) (n c B : Nat) (d : Int) (A2 : Option Addr) (n2 c2 : Nat) (w : World) (h : Ds w B A n s) (hfit : FitS s) (hB : B ≤ w.heap.size) (hn : n ≤ 9223372036854775807) (ht : Holds w B A2 n2 t) (hn2 : n2 ≤ 140737488351232) :
    Calls Try.prog 60 #[.slice A n c, .int .i64 d, .slice A2 n2 c2] w fun e w' => e = .returned (.bool (lvl s d t)) ∧ Below w.heap.size w w' := by
  have hlen := h.len
  have htl := ht.len
  obtain ⟨W1, hW1, g0, g1, g2, gs, gb⟩ := three w (Obj.cells #[Value.slice A n c] 31) (Obj.cells #[Value.int .i64 d] 3) (Obj.cells #[Value.slice A2 n2 c2] 24)
  have HN := Lib.hid (fun W => numbered_any A n c d W)
  have Gb := Lib.hid gb
  by_cases hin : 0 ≤ d ∧ d < (n : Int)
  · rw [decide_eq_true hin] at HN
    obtain ⟨k, rfl⟩ : ∃ k : Nat, d = k := ⟨d.toNat, by omega⟩
    have hk : k < n := by omega
    obtain ⟨b, o, D, A3, n3, c3, rfl, hb, hD, h1, h2, h3, hF, h5, h6⟩ := h.at hk
    have hDm := hfit D (List.mem_of_getElem? hD)
    have hn3 : n3 ≤ 4096 := by rw [hF.len]; exact hDm.1
    have HT : Hid (lvl s k t = (counts D n2 && ((tn t).all fun x => decide (0 ≤ toS s k x)) && D.fs.all (needs (tn t)))) := Lib.hid (by rw [lvl_in hD, htl]; simp only [toS_in hD])
    obtain ⟨W2, hW2⟩ : ∃ W, W = W1.alloc (Obj.cells #[Value.slice A3 n3 c3, Value.bool D.one, Value.bool D.some] 59) := ⟨_, rfl⟩
    have g3 : W2.heap[W1.heap.size]? = some (Obj.cells #[Value.slice A3 n3 c3, Value.bool D.one, Value.bool D.some] 59) := by rw [hW2, heap_alloc_new]
    have hb2 : Below W1.heap.size W1 W2 := by rw [hW2]; exact (Below.refl _ _).alloc (Nat.le_refl _) _
    have hbW := gb.trans (hb2.mono gb.size)
    have HC := Lib.hid (counted_any D A3 n3 c3 n2 W2)
    have HE := Lib.hid (fun W (hbx : Below W2.heap.size W2 W) => have hbz := hbW.trans (hbx.mono hbW.size); every_edge s t (some ⟨b, o, none⟩) n c B w.heap.size (w.heap.size + 1) k A2 n2 c2 W (h.below (hbz.mono hB)) (Nat.le_trans hB hbz.size) hn (box1 (Below.box hbx (Below.box hb2 g0))) (box1 (Below.box hbx (Below.box hb2 g1))) (ht.below (hbz.mono hB)) hn2)
    have HF := Lib.hid (fun W (hbx : Below W2.heap.size W2 W) => have hbz := hbW.trans (hbx.mono hbW.size); every_field D.fs t A3 n3 c3 A2 n2 c2 B (w.heap.size + 1 + 1) W (hF.below (hbz.mono hB)) hDm.2 (by omega) (ht.below (hbz.mono hB)) (Nat.le_trans hB hbz.size) (box1 (Below.box hbx (Below.box hb2 g2))) hn2)
    have HK := Lib.hid (fun W (hbx : Below W2.heap.size W2 W) => (⟨(box3 (Below.box hbx g3)).1, box1 (Below.box hbx (Below.box hb2 g2))⟩ : W.cell? ⟨W1.heap.size, 0, none⟩ = some (.slice A3 n3 c3) ∧ W.cell? ⟨w.heap.size + 1 + 1, 0, none⟩ = some (.slice A2 n2 c2)))
    obtain ⟨x1, hx1⟩ : ∃ x, x = counts D n2 := ⟨_, rfl⟩
    obtain ⟨x2, hx2⟩ : ∃ x, x = (tn t).all fun x => decide (0 ≤ toS s k x) := ⟨_, rfl⟩
    obtain ⟨x3, hx3⟩ : ∃ x, x = D.fs.all (needs (tn t)) := ⟨_, rfl⟩
    rw [← hx1, ← hx2, ← hx3] at HT
    rw [← hx1] at HC
    rw [← hx2] at HE
    rw [← hx3] at HF
    rw [HT.out]
    obtain ⟨y1, hy1⟩ : ∃ y, y = D.one := ⟨_, rfl⟩
    obtain ⟨y2, hy2⟩ : ∃ y, y = D.some := ⟨_, rfl⟩
    rw [← hy1] at h2 HC hW2 g3
    rw [← hy2] at h3 HC hW2 g3
    have HW2 := Lib.hid hW2
    have h1' := (gb.cell (p := ⟨b, o + k * 3, none⟩) (Nat.lt_of_lt_of_le hb hB)).trans h1
    have h2' := (gb.cell (p := ⟨b, o + k * 3 + 1, none⟩) (Nat.lt_of_lt_of_le hb hB)).trans h2
    have h3' := (gb.cell (p := ⟨b, o + k * 3 + 2, none⟩) (Nat.lt_of_lt_of_le hb hB)).trans h3
    have u0 := box1 g0
    have u1 := box1 g1
    have u2 := box1 g2
    have v0 := box1 (Below.box hb2 g0)
    have v1 := box1 (Below.box hb2 g1)
    have v2 := box1 (Below.box hb2 g2)
    obtain ⟨v3, v4, v5⟩ := box3 g3
    have HBW := Lib.hid hbW
    have hl2 : w.heap.size + 1 + 1 < W1.heap.size := by omega
    have hl1 : w.heap.size + 1 < W1.heap.size := by omega
    have hl0 : w.heap.size < W1.heap.size := by omega
    have hkn : (k : Int) < (n : Int) := by omega
    have hk0 : (0 : Int) ≤ (k : Int) := by omega
    clear hW2 hx1 hx2 hx3 hy1 hy2 h1 h2 h3 h ht hF hD hfit hDm hin hlen htl g0 g1 g2 g3 hb2 hbW gb gs h5 h6 HT
    go_enter Try.func60, Try.ntmps60
    go_wp2_with fail
    rw [← hW1]
    clear hW1
    go_wp2_with fail
    (with_reducible refine (HN.out _).mono ?_)
    rintro e w' ⟨rfl, rfl⟩
    go_wp2_with fail
    rw [← HW2.out]
    go_wp2_with fail
    (with_reducible refine HC.out.mono ?_)
    rintro e w1 ⟨rfl, hb1⟩
    obtain ⟨t1, t2⟩ := HK.out _ hb1
    cases x1 with
    | false =>
      go_wp2_with fail
      go_ret
      exact ⟨rfl, HBW.out.trans (hb1.mono HBW.out.size)⟩
    | true =>
      go_wp2_with fail
      (with_reducible refine (HE.out _ hb1).mono ?_)
      rintro e w2 ⟨rfl, hb2⟩
      have hb3 := hb1.trans (hb2.mono hb1.size)
      obtain ⟨t3, t4⟩ := HK.out _ hb3
      clear t1 t2
      cases x2 with
      | false =>
        go_wp2_with fail
        go_ret
        exact ⟨rfl, HBW.out.trans (hb3.mono HBW.out.size)⟩
      | true =>
        go_wp2_with fail
        (with_reducible refine (HF.out _ hb3).mono ?_)
        rintro e w3 ⟨rfl, hb4⟩
        have hb5 := hb3.trans (hb4.mono hb3.size)
        go_wp2_with fail
        go_ret
        exact ⟨rfl, HBW.out.trans (hb5.mono HBW.out.size)⟩
  · rw [decide_eq_false hin] at HN
    have HT : Hid (lvl s d t = false) := Lib.hid (lvl_out (by rw [← hlen]; exact hin) _)
    rw [HT.out]
    have u0 := box1 g0
    have u1 := box1 g1
    clear h hin g0 g1 g2 gs gb ht hfit hlen htl
    go_enter Try.func60, Try.ntmps60
    go_wp2_with fail
    rw [← hW1]
    clear hW1
    go_wp2_with fail
    (with_reducible refine (HN.out _).mono ?_)
    rintro e w' ⟨rfl, rfl⟩
    go_wp2_with fail
    go_ret
    exact ⟨rfl, Gb.out⟩
end Go.Proofs.Ytchoipmfngcdoaa.Sc
namespace Go.Proofs.Ytchoipmfngcdoaa.Mg
open Go.RowKit Go.Proofs.Ytchoipmfngcdoaa.Pt Go.Proofs.Ytchoipmfngcdoaa.Df Go.Proofs.Ytchoipmfngcdoaa.Sc Go.Proofs.Ytchoipmfngcdoaa.Cl
set_option maxRecDepth 100000

set_option maxHeartbeats 1000000 in
theorem pfits_any (sc : List Df) (S P : Sl) (d : Int) (o a b : Op) (so sa sb : Sl) (t : Tr) (A : Option Addr) (n c : Nat) (w : World) (hS : Ds w w.heap.size S.A S.n sc) (hfit : FitS sc) (hSn : S.n ≤ 1000000) (ht : Holds w w.heap.size A n t) (hn : n ≤ 140737488351232) :
    Calls Try.prog 46 #[plv S P d o a b so sa sb, .slice A n c] w fun e w' => e = .returned (.bool (lvl sc d t)) ∧ Below w.heap.size w w' := by
  obtain ⟨W2, hW2, hb, hz, g1⟩ := box1 w (plc S P d o a b so sa sb) 75
  obtain ⟨l0, l1, l2, l3, l4, l5, l6, l7, l8⟩ := g1.c9
  have HC := Lib.hid (level_any sc t S.A S.n S.c W2.heap.size d A n c W2 ((hS.keep fun q hq => hb.cell hq).more hb.size) hfit (Nat.le_refl _) (by omega) ((ht.below hb).more hb.size) hn)
  obtain ⟨v, hv⟩ : ∃ v, v = lvl sc d t := ⟨_, rfl⟩
  rw [← hv] at HC ⊢
  have HB := Lib.hid hb
  clear hb g1 hS ht hv hn hSn
  obtain ⟨oi, ot⟩ := o
  obtain ⟨ai, at_⟩ := a
  obtain ⟨bi, bt⟩ := b
  obtain ⟨SA, Sn, Sc⟩ := S
  obtain ⟨PA, Pn, Pc⟩ := P
  obtain ⟨oA, on, oc⟩ := so
  obtain ⟨aA, an, ac⟩ := sa
  obtain ⟨bA, bn, bc⟩ := sb
  simp only at HC l0 l1 l2 l3 l4 l5 l6 l7 l8
  go_enter Try.func46, Try.ntmps46
  go_wp2_with fail
  rw [← hW2]
  go_wp2_with fail
  refine HC.out.mono ?_
  rintro e w5 ⟨rfl, h5⟩
  have H5 := Lib.hid (HB.out.trans (h5.mono HB.out.size))
  clear h5
  go_wp2_with fail
  go_ret
  exact ⟨rfl, H5.out⟩

set_option maxHeartbeats 1000000 in
theorem whole_any (A : Option Addr) (n c : Nat) (w : World) :
    Calls Try.prog 48 #[.slice A n c] w fun e w' => e = .returned (.agg #[.bool true, .slice A n c]) ∧ Below w.heap.size w w' := by
  obtain ⟨W2, hW2, hb, hz, g1⟩ := box1 w [.bool true, .slice A n c] 61
  obtain ⟨e0, e1⟩ := g1.c2
  have HB := Lib.hid hb
  clear hb g1
  go_enter Try.func48, Try.ntmps48
  go_wp2_with fail
  rw [← hW2]
  refine bodyPost_ret (v := .agg #[.bool true, .slice A n c]) (by simp [results, Try.results48, go_sem, e0, e1]) rfl ?_
  exact ⟨rfl, HB.out⟩

set_option maxHeartbeats 4000000 in
theorem eachw_any (T1 T2 T3 : Sl) (w : World) :
    Calls Try.prog 47 #[.agg #[.slice T1.A T1.n T1.c, .slice T2.A T2.n T2.c, .slice T3.A T3.n T3.c], .func (.func 48) #[] #[]] w fun e w' => e = .returned (.agg #[.bool true, .slice T1.A T1.n T1.c, .bool true, .slice T2.A T2.n T2.c, .bool true, .slice T3.A T3.n T3.c]) ∧ Below w.heap.size w w' := by
  obtain ⟨W2, hW2, hb, hz, g1, g2⟩ := boxes2 w [.slice T1.A T1.n T1.c, .slice T2.A T2.n T2.c, .slice T3.A T3.n T3.c] zs6 96 63
  have HL := Lib.hid (fun (W : World) (hW : Below W2.heap.size W2 W) => Bx.c3 (g1.below hW (by omega)))
  have HB := Lib.hid hb
  have Hz := Lib.hid hz
  have HG := Lib.hid g2
  have HW := Lib.hid whole_any
  clear hb hz g1 g2
  obtain ⟨T1A, T1n, T1c⟩ := T1
  obtain ⟨T2A, T2n, T2c⟩ := T2
  obtain ⟨T3A, T3n, T3c⟩ := T3
  simp only at HL
  have HP2 := Lib.hid (fun (W V : World) (hW : Below W2.heap.size W2 W) (hv : ∀ b o, b ≠ w.heap.size + 1 → V.cell? ⟨b, o, none⟩ = W.cell? ⟨b, o, none⟩) => (show V.cell? ⟨w.heap.size, 0, none⟩ = some (.slice T1A T1n T1c) ∧ V.cell? ⟨w.heap.size, 1, none⟩ = some (.slice T2A T2n T2c) ∧ V.cell? ⟨w.heap.size, 2, none⟩ = some (.slice T3A T3n T3c) from by
    obtain ⟨l0, l1, l2⟩ := HL.out W hW
    have h0 : w.heap.size ≠ w.heap.size + 1 := by omega
    exact ⟨(hv _ _ h0).trans l0, (hv _ _ h0).trans l1, (hv _ _ h0).trans l2⟩))
  have HP := Lib.hid (fun (W : World) (hW : Below W2.heap.size W2 W) => HP2.out W W hW (fun _ _ _ => rfl))
  have HBc := Lib.hid (Below.refl W2.heap.size W2).drew
  have hgl := HG.out.lt
  clear HL
  go_enter Try.func47, Try.ntmps47
  go_wp2_with fail
  rw [← hW2]
  clear hW2
  go_upto_region 1 with (fail)
  go_region_held3 (fun W => W.cell? ⟨w.heap.size, 0, none⟩ = some (.slice T1A T1n T1c) ∧ W.cell? ⟨w.heap.size, 1, none⟩ = some (.slice T2A T2n T2c) ∧ W.cell? ⟨w.heap.size, 2, none⟩ = some (.slice T3A T3n T3c))
    (first | with_reducible exact HP.out _ HBc.out | with_reducible exact HP2.out _ _ HBc.out (fun b o hb => keep_s6 _ _ _ _ _ _ _ b o hb))
    ((go_at_call 48; (with_reducible refine (HW.out _ _ _ _).mono ?_); rintro e w3 ⟨rfl, hb3⟩; have HBc := Lib.hid (show Below W2.heap.size W2 w3 from HBc.out.trans (hb3.mono HBc.out.size)); have g3 := HG.out.below HBc.out HG.out.lt; obtain ⟨d0, d1, d2, d3, d4, d5⟩ := g3.c6; obtain ⟨z0, z1, z2, z3, z4, z5⟩ := g3.f6; have HG3 := Lib.hid g3; clear hb3 g3))
  all_goals
    go_wp2_with fail
    obtain ⟨e0, e1, e2, e3, e4, e5⟩ := (HG3.out.s6 (.bool true) (.slice T1A T1n T1c) (.bool true) (.slice T2A T2n T2c) (.bool true) (.slice T3A T3n T3c)).c6
    refine bodyPost_ret (v := .agg #[.bool true, .slice T1A T1n T1c, .bool true, .slice T2A T2n T2c, .bool true, .slice T3A T3n T3c]) (by simp [results, Try.results47, go_sem, e0, e1, e2, e3, e4, e5]) rfl ?_
    have hz := Hz.out
    exact ⟨rfl, below_s6 (HB.out.trans (HBc.out.mono HB.out.size)) (by omega) ..⟩
end Go.Proofs.Ytchoipmfngcdoaa.Mg
namespace Go.Proofs.Ytchoipmfngcdoaa.Mg
open Go.RowKit Go.Proofs.Ytchoipmfngcdoaa.Pt Go.Proofs.Ytchoipmfngcdoaa.Df Go.Proofs.Ytchoipmfngcdoaa.Sc Go.Proofs.Ytchoipmfngcdoaa.Cl
set_option maxRecDepth 100000

/-- Values of a row: edges, what is below them in blocks of Q. -/
def KidsL (w : World) (Q : Nat → Prop) : List Value → List (ByteArray × Tr) → Prop
  | vs, [] => vs = []
  | vs, (s, k) :: es => ∃ A n c vs', vs = .string s :: .slice A n c :: vs' ∧ HoldsP w Q A n k ∧ n ≤ c ∧ c ≤ maxLen ∧ KidsL w Q vs' es
theorem KidsL.keep {w w' : World} {Q Q' : Nat → Prop} (hk : ∀ b o, Q b → w'.cell? ⟨b, o, none⟩ = w.cell? ⟨b, o, none⟩) (hq : ∀ b, Q b → Q' b) : ∀ {es : List (ByteArray × Tr)} {vs : List Value}, KidsL w Q vs es → KidsL w' Q' vs es
  | [], _, h => h
  | _ :: _, _, ⟨A, n, c, vs', h1, h2, h3, h4, h5⟩ => ⟨A, n, c, vs', h1, (h2.keep hk).more hq, h3, h4, KidsL.keep hk hq h5⟩
theorem KidsL.snoc {w : World} {Q : Nat → Prop} {s : ByteArray} {k : Tr} {A : Option Addr} {n c : Nat} (h2 : HoldsP w Q A n k) (h3 : n ≤ c) (h4 : c ≤ maxLen) : ∀ {es : List (ByteArray × Tr)} {vs : List Value}, KidsL w Q vs es → KidsL w Q (vs ++ [.string s, .slice A n c]) (es ++ [(s, k)])
  | [], _, h => by
    have : _ = [] := h
    subst this
    exact ⟨A, n, c, [], rfl, h2, h3, h4, rfl⟩
  | _ :: _, _, ⟨A', n', c', vs', h1, g2, g3, g4, g5⟩ => by
    subst h1
    exact ⟨A', n', c', vs' ++ [.string s, .slice A n c], rfl, g2, g3, g4, KidsL.snoc h2 h3 h4 g5⟩
def ofL : List (ByteArray × Tr) → Tr
  | [] => .nil
  | (s, k) :: es => .cons s k (ofL es)
def esOf (f : ByteArray → Op) (l : List ByteArray) : List (ByteArray × Tr) := l.flatMap fun s => if (f s).is = true then [(s, (f s).t)] else []
theorem edges_ofL (f : ByteArray → Op) : ∀ l : List ByteArray, edgesOf f l = ofL (esOf f l)
  | [] => rfl
  | s :: l => by
    unfold edgesOf esOf
    rw [List.flatMap_cons]
    have ih := edges_ofL f l
    unfold esOf at ih
    split
    · rw [ih]; rfl
    · rw [ih]; rfl
theorem esOf_snoc (f : ByteArray → Op) (l : List ByteArray) (s : ByteArray) : esOf f (l ++ [s]) = esOf f l ++ (if (f s).is = true then [(s, (f s).t)] else []) := by simp [esOf]
theorem KidsL.step {w : World} {Q : Nat → Prop} {f : ByteArray → Op} {l : List ByteArray} {s : ByteArray} {x : Op} {X : Sl} {vs : List Value} (hx : f s = x) (h : KidsL w Q vs (esOf f l)) (hX : OpP w Q X.A X.n X.c x) : KidsL w Q (more vs s x X) (esOf f (l ++ [s])) := by
  rw [esOf_snoc, hx]
  unfold more
  split
  · exact KidsL.snoc hX.holds hX.cap.1 hX.cap.2 h
  · rw [List.append_nil]; exact h
theorem KidsL.len {w : World} {Q : Nat → Prop} : ∀ {es : List (ByteArray × Tr)} {vs : List Value}, KidsL w Q vs es → vs.length = es.length * 2
  | [], _, h => by have : _ = [] := h; subst this; rfl
  | _ :: _, _, ⟨_, _, _, _, h1, _, _, _, h5⟩ => by subst h1; simp [KidsL.len h5]; omega
/-- They lie there as a tree. -/
theorem KidsL.holds {w : World} {Q P : Nat → Prop} {b : Nat} (hb : P b) (hq : ∀ b, Q b → P b) : ∀ {es : List (ByteArray × Tr)} {vs : List Value} {o : Nat}, KidsL w Q vs es → (∀ j u, vs[j]? = some u → w.cell? ⟨b, o + j, none⟩ = some u) → HoldsP w P (some ⟨b, o, none⟩) es.length (ofL es)
  | [], _, _, _, _ => rfl
  | (s, k) :: es, _, o, ⟨A, n, c, vs', h1, h2, h3, h4, h5⟩, hc => by
    subst h1
    have ih := KidsL.holds hb hq (o := o + 2) h5 fun j u hu => by
      have := hc (j + 2) u (by simpa using hu)
      rw [show o + 2 + j = o + (j + 2) by omega]
      exact this
    exact ⟨b, o, rfl, hb, hc 0 _ rfl, ⟨A, n, c, hc 1 _ rfl, h3, h4, h2.more hq⟩, es.length, rfl, ih⟩

/-- A row of one's own: its cells. -/
theorem own_cells {w : World} {base n c : Nat} {e : TypeId} {A : Option Addr} {vs : List Value} (h : w.ownsRow base e 2 (.slice A n c) n vs) : vs.length = n * 2 ∧ n ≤ c ∧ c ≤ maxLen ∧ ((A = none ∧ n = 0) ∨ ∃ g, A = some ⟨g, 0, none⟩ ∧ ∀ (j : Nat) u, vs[j]? = some u → w.cell? ⟨g, j, none⟩ = some u) := by
  obtain ⟨h1, h2⟩ := h
  rcases h2 with ⟨e1, h2⟩ | ⟨g, cap, cur, e1, hg, hh, hcap, hmx, hsz, htk⟩
  · injection e1 with e1 e2 e3
    exact ⟨h1, by omega, by omega, .inl ⟨e1, e2⟩⟩
  · injection e1 with e1 _ e3
    subst e3
    refine ⟨h1, hcap, hmx, .inr ⟨g, e1, fun j u hu => ?_⟩⟩
    rw [cell_of_row _ _ _ _ _ _ hh, ← hu, ← htk, List.getElem?_take_of_lt]
    · simp
    · have := (List.getElem?_eq_some_iff.1 hu).1
      omega
theorem row_holds {w : World} {base : Nat} {T : Sl} {vs : List Value} {Q P : Nat → Prop} {es : List (ByteArray × Tr)} (h : w.ownsRow base 51 2 (.slice T.A T.n T.c) T.n vs) (hk : KidsL w Q vs es) (hP : ∀ k, T.own = some k → P k) (hq : ∀ b, Q b → P b) : HoldsP w P T.A T.n (ofL es) ∧ T.n ≤ T.c ∧ T.c ≤ maxLen := by
  obtain ⟨h1, h2, h3, h4⟩ := own_cells h
  have hl := hk.len
  have hn : T.n = es.length := by omega
  refine ⟨?_, h2, h3⟩
  rcases h4 with ⟨h4, h5⟩ | ⟨g, h4, h5⟩
  · rw [h5] at hn
    have : es = [] := List.eq_nil_of_length_eq_zero hn.symm
    subst this
    exact h5
  · rw [hn, h4]
    refine KidsL.holds (hP g (by rw [Sl.own, h4]; rfl)) hq hk fun j u hu => ?_
    rw [Nat.zero_add]
    exact h5 j u hu

/-- Values of a row: conflicts, their paths in blocks of Q. -/
def CfL (w : World) (Q : Nat → Prop) : List Value → List (List ByteArray × Int) → Prop
  | vs, [] => vs = []
  | vs, q :: l => ∃ (P : Sl) (vs' : List Value), vs = .slice P.A P.n P.c :: .int .i64 q.2 :: vs' ∧ PathP w Q P q.1 ∧ CfL w Q vs' l
theorem CfL.keep {w w' : World} {Q Q' : Nat → Prop} (hk : ∀ b o, Q b → w'.cell? ⟨b, o, none⟩ = w.cell? ⟨b, o, none⟩) (hq : ∀ b, Q b → Q' b) : ∀ {l : List (List ByteArray × Int)} {vs : List Value}, CfL w Q vs l → CfL w' Q' vs l
  | [], _, h => h
  | _ :: _, _, ⟨P, vs', h1, h2, h5⟩ => ⟨P, vs', h1, (h2.keep hk).more hq, CfL.keep hk hq h5⟩
theorem CfL.append {w : World} {Q : Nat → Prop} {l2 : List (List ByteArray × Int)} {vs2 : List Value} (h2 : CfL w Q vs2 l2) : ∀ {l : List (List ByteArray × Int)} {vs : List Value}, CfL w Q vs l → CfL w Q (vs ++ vs2) (l ++ l2)
  | [], _, h => by
    have : _ = [] := h
    subst this
    exact h2
  | _ :: _, _, ⟨P, vs', h1, g2, g5⟩ => by
    subst h1
    exact ⟨P, vs' ++ vs2, rfl, g2, CfL.append h2 g5⟩
theorem CfL.len {w : World} {Q : Nat → Prop} : ∀ {l : List (List ByteArray × Int)} {vs : List Value}, CfL w Q vs l → vs.length = l.length * 2
  | [], _, h => by have : _ = [] := h; subst this; rfl
  | _ :: _, _, ⟨_, _, h1, _, h5⟩ => by subst h1; simp [CfL.len h5]; omega
theorem CfL.one {w : World} {Q : Nat → Prop} : ∀ {l : List (List ByteArray × Int)} {vs : List Value}, CfL w Q vs l → ∀ u ∈ vs, u.oneCell' = true
  | [], _, h, u, hu => by have : _ = [] := h; subst this; simp at hu
  | _ :: _, _, ⟨_, _, h1, _, h5⟩, u, hu => by
    subst h1
    simp only [List.mem_cons] at hu
    rcases hu with rfl | rfl | hu
    · rfl
    · rfl
    · exact CfL.one h5 u hu
theorem CfL.at_ {w : World} {Q : Nat → Prop} : ∀ {l : List (List ByteArray × Int)} {vs : List Value}, CfL w Q vs l → ∀ (j : Nat) q, l[j]? = some q → ∃ P : Sl, vs[j * 2]? = some (.slice P.A P.n P.c) ∧ vs[j * 2 + 1]? = some (.int .i64 q.2) ∧ PathP w Q P q.1
  | [], _, _, j, q, hq => by simp at hq
  | _ :: _, _, ⟨P, _, h1, h2, h5⟩, j, q, hq => by
    subst h1
    match j, hq with
    | 0, hq =>
      simp only [List.getElem?_cons_zero, Option.some.injEq] at hq
      subst hq
      exact ⟨P, rfl, rfl, h2⟩
    | j + 1, hq =>
      obtain ⟨P', g1, g2, g3⟩ := CfL.at_ h5 j q (by simpa using hq)
      refine ⟨P', ?_, ?_, g3⟩
      · rw [show (j + 1) * 2 = j * 2 + 2 by omega]; simpa using g1
      · rw [show (j + 1) * 2 + 1 = j * 2 + 1 + 2 by omega]; simpa using g2
/-- The row as conflicts. -/
theorem row_cf {w : World} {base : Nat} {T : Sl} {vs : List Value} {Q P : Nat → Prop} {l : List (List ByteArray × Int)} {e : TypeId} (h : w.ownsRow base e 2 (.slice T.A T.n T.c) T.n vs) (hk : CfL w Q vs l) (hP : ∀ k, T.own = some k → P k) (hq : ∀ b, Q b → P b) : CfP w P T l ∧ T.n ≤ T.c := by
  obtain ⟨h1, h2, h3, h4⟩ := own_cells h
  have hl := hk.len
  refine ⟨⟨by omega, fun j q hjq => ?_⟩, h2⟩
  rcases h4 with ⟨h4, h5⟩ | ⟨g, h4, h5⟩
  · have := (List.getElem?_eq_some_iff.1 hjq).1
    omega
  · obtain ⟨P', g1, g2, g3⟩ := hk.at_ j q hjq
    exact ⟨g, 0, P', h4, hP g (by rw [Sl.own, h4]; rfl), by rw [Nat.zero_add]; exact h5 _ _ g1, by rw [Nat.zero_add]; exact h5 _ _ g2, g3.more hq⟩
/-- Conflicts as values. -/
theorem cf_vals {w : World} {P : Nat → Prop} {A : Option Addr} : ∀ (l : List (List ByteArray × Int)) (k : Nat), (∀ (j : Nat) q, l[j]? = some q → ∃ b o Q, A = some ⟨b, o, none⟩ ∧ P b ∧ w.cell? ⟨b, o + (k + j) * 2, none⟩ = some (.slice (Sl.A Q) Q.n Q.c) ∧ w.cell? ⟨b, o + (k + j) * 2 + 1, none⟩ = some (.int .i64 q.2) ∧ PathP w P Q q.1) →
    ∃ ys, CfL w P ys l ∧ ∀ (j : Nat) u, ys[j]? = some u → ∃ b o, A = some ⟨b, o, none⟩ ∧ P b ∧ w.cell? ⟨b, o + k * 2 + j, none⟩ = some u
  | [], _, _ => ⟨[], rfl, fun j u hu => by simp at hu⟩
  | q :: l, k, h => by
    obtain ⟨ys, h1, h2⟩ := cf_vals l (k + 1) fun j q hq => by
      obtain ⟨b, o, Q, g1, g2, g3, g4, g5⟩ := h (j + 1) q (by simpa using hq)
      exact ⟨b, o, Q, g1, g2, by rw [show k + 1 + j = k + (j + 1) by omega]; exact g3, by rw [show k + 1 + j = k + (j + 1) by omega]; exact g4, g5⟩
    obtain ⟨b, o, Q, g1, g2, g3, g4, g5⟩ := h 0 q rfl
    refine ⟨.slice Q.A Q.n Q.c :: .int .i64 q.2 :: ys, ⟨Q, ys, rfl, g5, h1⟩, fun j u hu => ?_⟩
    match j, hu with
    | 0, hu =>
      simp only [List.getElem?_cons_zero, Option.some.injEq] at hu
      subst hu
      exact ⟨b, o, g1, g2, g3⟩
    | 1, hu =>
      simp only [List.getElem?_cons_succ, List.getElem?_cons_zero, Option.some.injEq] at hu
      subst hu
      exact ⟨b, o, g1, g2, g4⟩
    | j + 2, hu =>
      obtain ⟨b', o', e1, e2, e3⟩ := h2 j u (by simpa using hu)
      exact ⟨b', o', e1, e2, by rw [show o' + k * 2 + (j + 2) = o' + (k + 1) * 2 + j by omega]; exact e3⟩
theorem elem_cf : Elem Try.prog 27 38 (.agg #[.slice none 0 0, .int .i64 0]) 2 32 := ⟨Try.underlying27, by kernel_rfl, rfl, by omega⟩
theorem CfP.src {w : World} {P : Nat → Prop} {s : Sl} {l : List (List ByteArray × Int)} (h : CfP w P s l) : ∃ ys, CfL w P ys l ∧ Src Try.prog 2 27 (.slice s.A s.n s.c) s.n ys w := by
  obtain ⟨ys, h1, h2⟩ := cf_vals l 0 fun j q hq => by
    obtain ⟨b, o, Q, g1, g2, g3, g4, g5⟩ := h.cell j q hq
    exact ⟨b, o, Q, g1, g2, by rw [Nat.zero_add]; exact g3, by rw [Nat.zero_add]; exact g4, g5⟩
  have hl := h1.len
  have hn := h.len
  refine ⟨ys, h1, ?_⟩
  obtain ⟨A, n, c⟩ := s
  simp only at h2 hn ⊢
  cases A with
  | none =>
    have : l = [] := by
      cases l with
      | nil => rfl
      | cons q l =>
        obtain ⟨b, o, Q, g1, _⟩ := h.cell 0 q rfl
        cases g1
    subst this
    have : ys = [] := h1
    subst this
    subst hn
    exact Src.ofNil w Try.underlying27 c
  | some a =>
    by_cases hl0 : l = []
    · subst hl0
      have : ys = [] := h1
      subst this
      subst hn
      exact Src.ofSlice w Try.underlying27 a 0 c [] rfl (fun j u hu => by simp at hu) (fun u hu => by cases hu)
    · have hpos : 0 < ys.length := by
        have := List.length_pos_iff.2 hl0
        omega
      obtain ⟨b, o, e1, _, _⟩ := h2 0 _ (List.getElem?_eq_getElem hpos)
      injection e1 with e1
      subst e1
      exact Src.ofSlice w Try.underlying27 ⟨b, o, none⟩ n c ys (by omega) (fun j u hu => by
        rw [Addr.add_lit]
        obtain ⟨b', o', e1, _, e3⟩ := h2 j u hu
        injection e1 with e1
        injection e1 with e1 e2
        subst e1; subst e2
        simpa using e3) h1.one
end Go.Proofs.Ytchoipmfngcdoaa.Mg
namespace Go.Proofs.Ytchoipmfngcdoaa.Mg
open Go.RowKit Go.Proofs.Ytchoipmfngcdoaa.Pt Go.Proofs.Ytchoipmfngcdoaa.Df Go.Proofs.Ytchoipmfngcdoaa.Sc Go.Proofs.Ytchoipmfngcdoaa.Cl
set_option maxRecDepth 100000

structure ByI (w1 wr : World) (ge : Nat) (f : ByteArray → Mo) (l : List ByteArray) (T1 T2 T3 L : Sl) (v1 v2 v3 vl : List Value) (Q : Nat → Prop) : Prop where
  rows : Rows3 wr w1.heap.size T1 T2 T3 v1 v2 v3
  lrow : wr.ownsRow w1.heap.size 38 2 (.slice L.A L.n L.c) L.n vl
  loff : ∀ k, L.own = some k → ¬ Own3 T1 T2 T3 k
  k1 : KidsL wr Q v1 (esOf (fun s => (f s).o) l)
  k2 : KidsL wr Q v2 (esOf (fun s => (f s).a) l)
  k3 : KidsL wr Q v3 (esOf (fun s => (f s).b) l)
  cf : CfL wr Q vl (l.flatMap fun s => (f s).l)
  q : ∀ b, Q b → w1.heap.size ≤ b ∧ b < wr.heap.size ∧ ¬ Own3 T1 T2 T3 b ∧ L.own ≠ some b
  box : Bx wr ge [.slice T1.A T1.n T1.c, .slice T2.A T2.n T2.c, .slice T3.A T3.n T3.c] 96
  mv : Mv w1 wr (fun k => k = ge)
  n1 : T1.n ≤ l.length ∧ T2.n ≤ l.length ∧ T3.n ≤ l.length
theorem ByI.start {w1 : World} {ge : Nat} {f : ByteArray → Mo} (hg : Bx w1 ge zs3 96) : ByI w1 w1 ge f [] nil4 nil4 nil4 nil4 [] [] [] [] (fun _ => False) :=
  have hn : ∀ k, nil4.own ≠ some k := fun _ e => by cases e
  ⟨⟨World.ownsRow_nil _ _ _ _, World.ownsRow_nil _ _ _ _, World.ownsRow_nil _ _ _ _, fun k e => absurd e (hn k), fun k e => absurd e (hn k), fun k e => absurd e (hn k)⟩, World.ownsRow_nil _ _ _ _, fun k e => absurd e (hn k), rfl, rfl, rfl, rfl, fun _ e => e.elim, hg, Mv.of (Below.refl _ _) _, Nat.le_refl _, Nat.le_refl _, Nat.le_refl _⟩
theorem ByI.step {w1 wr wa wb wc wd : World} {ge : Nat} {f : ByteArray → Mo} {l : List ByteArray} {s : ByteArray} {m : Mo} {T1 T2 T3 L U1 U2 U3 X Y Z M : Sl} {v1 v2 v3 vl ys : List Value} {Q : Nat → Prop} (h : ByI w1 wr ge f l T1 T2 T3 L v1 v2 v3 vl Q) (hm : f s = m)
    (hge : ge < w1.heap.size) (ha : Below wr.heap.size wr wa) (hx : OpN wr wa X.A X.n X.c m.o) (hy : OpN wr wa Y.A Y.n Y.c m.a) (hz : OpN wr wa Z.A Z.n Z.c m.b) (hcf : CfL wa (fun b => wr.heap.size ≤ b ∧ b < wa.heap.size) ys m.l)
    (hr : Rows3 wb w1.heap.size U1 U2 U3 (more v1 s m.o X) (more v2 s m.a Y) (more v3 s m.b Z)) (hb : Mv wa wb (Own3 T1 T2 T3)) (hat : ∀ k, Own3 U1 U2 U3 k → wa.heap.size ≤ k ∨ Own3 T1 T2 T3 k) (hn1 : U1.n ≤ T1.n + 1) (hn2 : U2.n ≤ T2.n + 1) (hn3 : U3.n ≤ T3.n + 1)
    (hc : wc = st3 wb ge (.slice U1.A U1.n U1.c) (.slice U2.A U2.n U2.c) (.slice U3.A U3.n U3.c))
    (hd : wd.ownsRow w1.heap.size 38 2 (.slice M.A M.n M.c) M.n (vl ++ ys)) (hdm : Mv wc wd (fun k => L.own = some k)) (hdat : ∀ k, M.own = some k → wc.heap.size ≤ k ∨ L.own = some k) :
    ByI w1 wd ge f (l ++ [s]) U1 U2 U3 M (more v1 s m.o X) (more v2 s m.a Y) (more v3 s m.b Z) (vl ++ ys) (fun b => Q b ∨ (wr.heap.size ≤ b ∧ b < wa.heap.size)) := by
  have hlt := h.rows.lt
  have hllt : ∀ k, L.own = some k → w1.heap.size ≤ k ∧ k < wr.heap.size := fun k e => h.lrow.lt k e
  have hws := h.mv.size
  have has := ha.size
  have hbs := hb.size
  have hcm : Mv wb wc (fun k => k = ge) := by rw [hc]; exact Mv.s3 wb _ _ _
  have hcs : wc.heap.size = wb.heap.size := by rw [hc]; simp
  have hds := hdm.size
  have hge3 : ¬ Own3 T1 T2 T3 ge := fun e => by have := hlt ge e; omega
  have hgeL : L.own ≠ some ge := fun e => by have := hllt ge e; omega
  have hgeU : ¬ Own3 U1 U2 U3 ge := fun e => (hat ge e).elim (fun h => by omega) hge3
  -- from where a row of wr or of the round lies to the end
  have hUL : ∀ k, Own3 U1 U2 U3 k → L.own ≠ some k := fun k e e2 => by
    rcases hat k e with h1 | h1
    · have := hllt k e2; omega
    · exact h.loff k e2 h1
  have keep : ∀ b o, b < wa.heap.size → ¬ Own3 T1 T2 T3 b → b ≠ ge → L.own ≠ some b → wd.cell? ⟨b, o, none⟩ = wa.cell? ⟨b, o, none⟩ := fun b o h1 h2 h3 h4 => by
    rw [hdm.cell o (by omega) h4, hcm.cell o (by omega) h3, hb.cell o h1 h2]
  have hQ : ∀ b, Q b → b < wr.heap.size ∧ ¬ Own3 T1 T2 T3 b ∧ b ≠ ge ∧ L.own ≠ some b := fun b hb => by
    obtain ⟨q1, q2, q3, q4⟩ := h.q b hb
    exact ⟨q2, q3, by omega, q4⟩
  have keepQ : ∀ b o, Q b → wd.cell? ⟨b, o, none⟩ = wr.cell? ⟨b, o, none⟩ := fun b o hb => by
    obtain ⟨q1, q2, q3, q4⟩ := hQ b hb
    rw [keep b o (by omega) q2 q3 q4]
    exact ha.cell (p := ⟨b, o, none⟩) q1
  have hN : ∀ b, (wr.heap.size ≤ b ∧ b < wa.heap.size) → ¬ Own3 T1 T2 T3 b ∧ b ≠ ge ∧ L.own ≠ some b := fun b hb =>
    ⟨fun e => by have := hlt b e; omega, by omega, fun e => by have := hllt b e; omega⟩
  have keepN : ∀ b o, (wr.heap.size ≤ b ∧ b < wa.heap.size) → wd.cell? ⟨b, o, none⟩ = wa.cell? ⟨b, o, none⟩ := fun b o hb => by
    obtain ⟨q2, q3, q4⟩ := hN b hb
    exact keep b o hb.2 q2 q3 q4
  have toN : ∀ {x : Op} {X : Sl}, OpN wr wa X.A X.n X.c x → OpP wd (fun b => Q b ∨ (wr.heap.size ≤ b ∧ b < wa.heap.size)) X.A X.n X.c x := fun hx => (hx.keep keepN).more fun _ => .inr
  have kid : ∀ {vs : List Value} {es : List (ByteArray × Tr)}, KidsL wr Q vs es → KidsL wd (fun b => Q b ∨ (wr.heap.size ≤ b ∧ b < wa.heap.size)) vs es := fun hk => hk.keep keepQ fun _ => .inl
  refine ⟨(hr.mv hcm fun k e e2 => hgeU (e2 ▸ e)).mv hdm hUL, hd, fun k e e2 => ?_, KidsL.step (by rw [hm]) (kid h.k1) (toN hx), KidsL.step (by rw [hm]) (kid h.k2) (toN hy), KidsL.step (by rw [hm]) (kid h.k3) (toN hz), ?_, fun b hb => ?_, ?_, ?_, ?_⟩
  · have hl2 := (hr.lt k e2).2
    rcases hdat k e with h1 | h1
    · omega
    · exact hUL k e2 h1
  · rw [List.flatMap_append]
    have e1 : ([s].flatMap fun s => (f s).l) = m.l := by simp [hm]
    rw [e1]
    exact CfL.append (hcf.keep keepN fun _ => .inr) (h.cf.keep keepQ fun _ => .inl)
  · rcases hb with hb | hb
    · obtain ⟨q1, q2, q3, q4⟩ := h.q b hb
      refine ⟨q1, by omega, fun e => ?_, fun e => ?_⟩
      · rcases hat b e with h1 | h1
        · omega
        · exact q3 h1
      · rcases hdat b e with h1 | h1
        · omega
        · exact q4 h1
    · obtain ⟨q2, q3, q4⟩ := hN b hb
      refine ⟨by omega, by omega, fun e => ?_, fun e => ?_⟩
      · rcases hat b e with h1 | h1
        · omega
        · exact q2 h1
      · rcases hdat b e with h1 | h1
        · omega
        · exact q4 h1
  · refine hdm.bx ?_ hgeL
    rw [hc]
    exact (hb.bx (h.box.below ha (by have := h.box.lt; omega)) hge3).s3 _ _ _
  · refine ((((h.mv.trans (Mv.of ha (fun _ => False))).trans hb).trans hcm).trans hdm).weak fun k hk e => ?_
    rcases e with (((e | e) | e) | e) | e
    · exact e
    · exact e.elim
    · have := hlt k e; omega
    · exact e
    · have := hllt k e; omega
  · have := h.n1
    rw [List.length_append]
    simp only [List.length_cons, List.length_nil]
    omega
end Go.Proofs.Ytchoipmfngcdoaa.Mg
namespace Go.Proofs.Ytchoipmfngcdoaa.Mg
open Go.RowKit Go.Proofs.Ytchoipmfngcdoaa.Pt Go.Proofs.Ytchoipmfngcdoaa.Df Go.Proofs.Ytchoipmfngcdoaa.Sc Go.Proofs.Ytchoipmfngcdoaa.Cl
set_option maxRecDepth 100000

def sz3 (o a b : Op) : Nat := o.t.size + a.t.size + b.t.size
theorem kid_wt (t : Tr) (s : ByteArray) : (kidT t s).size ≤ wt t s ∧ (t.atIs s = true → (kidT t s).size + 1 = wt t s) := by
  unfold wt
  split
  · exact ⟨by omega, fun _ => rfl⟩
  · rename_i h
    have h' : t.atIs s = false := by simpa using h
    rw [kidT_not h']
    exact ⟨Nat.zero_le _, fun e => absurd e h⟩
theorem nsU_nodup (o a b : Tr) : (nsU o a b).Nodup := (nsU_pair o a b).imp fun h e => by subst e; exact List.lt_irrefl _ h
theorem flat_len {α : Type} {f : ByteArray → List α} {g : ByteArray → Nat} : ∀ {l : List ByteArray}, (∀ s ∈ l, (f s).length ≤ g s) → (l.flatMap f).length ≤ (l.map g).sum
  | [], _ => by simp
  | x :: l, h => by
    have h1 := h x List.mem_cons_self
    have h2 := flat_len (l := l) fun s hs => h s (List.mem_cons_of_mem _ hs)
    rw [List.flatMap_cons, List.length_append, List.map_cons, List.sum_cons]
    omega
theorem sum3 (o a b : Tr) : ∀ l : List ByteArray, (l.map fun s => wt o s + wt a s + wt b s).sum = (l.map (wt o)).sum + (l.map (wt a)).sum + (l.map (wt b)).sum
  | [] => rfl
  | x :: l => by
    have := sum3 o a b l
    simp only [List.map_cons, List.sum_cons]
    omega
theorem sub_len {S : List Df} {N : Nat} {d : Int} {p : List ByteArray} {o a b : Op} (hk : K3 o a b) (ih : ∀ (d : Int) (p : List ByteArray) (o a b : Op), K3 o a b → (mrg S N d p o a b).l.length ≤ sz3 o a b + 1) (l : List ByteArray) (hl : l.Nodup) (hm : ∀ s ∈ l, s ∈ nsU o.t a.t b.t) :
    (l.flatMap fun s => (sub S N d p o a b s).l).length ≤ sz3 o a b := by
  refine Nat.le_trans (flat_len (g := fun s => wt o.t s + wt a.t s + wt b.t s) fun s hs => ?_) ?_
  · refine Nat.le_trans (ih _ _ _ _ _ ⟨hk.o.below s, hk.a.below s, hk.b.below s⟩) ?_
    have h1 := kid_wt o.t s
    have h2 := kid_wt a.t s
    have h3 := kid_wt b.t s
    have hx := (mem_nsU hk.o.asc.asc hk.a.asc.asc hk.b.asc.asc).1 (hm s hs)
    show (kidT o.t s).size + (kidT a.t s).size + (kidT b.t s).size + 1 ≤ _
    rcases hx with hx | hx | hx
    · have := h1.2 hx; omega
    · have := h2.2 hx; omega
    · have := h3.2 hx; omega
  · rw [sum3]
    have h1 := wt_sum o.t hl
    have h2 := wt_sum a.t hl
    have h3 := wt_sum b.t hl
    unfold sz3
    omega
theorem mrg_len (S : List Df) : ∀ (N : Nat) (d : Int) (p : List ByteArray) (o a b : Op), K3 o a b → (mrg S N d p o a b).l.length ≤ sz3 o a b + 1
  | 0, _, _, _, _, _, _ => Nat.zero_le _
  | N + 1, d, p, o, a, b, hk => by
    have hs := sub_len (d := d) (p := p) hk (mrg_len S N) (nsU o.t a.t b.t) (nsU_nodup _ _ _) fun _ h => h
    unfold mrg
    split
    · exact Nat.zero_le _
    · split
      · exact Nat.zero_le _
      · split
        · exact Nat.zero_le _
        · split
          · simp
          · split
            · exact Nat.le_succ_of_le hs
            · simp
theorem take_len {S : List Df} {N : Nat} {d : Int} {p : List ByteArray} {o a b : Op} (hk : K3 o a b) (k : Nat) : (((nsU o.t a.t b.t).take k).flatMap fun s => (sub S N d p o a b s).l).length ≤ sz3 o a b :=
  sub_len hk (mrg_len S N) _ ((List.take_sublist k _).nodup (nsU_nodup _ _ _)) fun _ h => List.mem_of_mem_take h
theorem nsU_len (o a b : Op) : (nsU o.t a.t b.t).length ≤ sz3 o a b := by
  unfold nsU
  rw [List.length_map]
  have h1 := once_le (sorted ((o.t.names ++ (a.t.names ++ b.t.names)).map (·.data.toList)))
  rw [sorted_length, List.length_map, List.length_append, List.length_append, names_length, names_length, names_length] at h1
  have := o.t.len_size
  have := a.t.len_size
  have := b.t.len_size
  unfold sz3
  exact Nat.le_trans h1 (by omega)
theorem below_sz {o a b : Op} (hk : K3 o a b) {s : ByteArray} (hs : s ∈ nsU o.t a.t b.t) : sz3 (o.below s) (a.below s) (b.below s) < sz3 o a b := by
  have h1 := kidT_size o.t s
  have h2 := kidT_size a.t s
  have h3 := kidT_size b.t s
  have hx := (mem_nsU hk.o.asc.asc hk.a.asc.asc hk.b.asc.asc).1 hs
  show (kidT o.t s).size + (kidT a.t s).size + (kidT b.t s).size < o.t.size + a.t.size + b.t.size
  rcases hx with hx | hx | hx
  · have := kid_lt hx; omega
  · have := kid_lt hx; omega
  · have := kid_lt hx; omega
theorem ns_encs3 (o a b : Tr) : (namesOf (o.names ++ (a.names ++ b.names))).map encs = (nsU o a b).map Value.string := by
  rw [nsU, List.map_map]
  rfl
theorem ns_len3 (o a b : Tr) : (namesOf (o.names ++ (a.names ++ b.names))).length = (nsU o a b).length := by rw [nsU, List.length_map]
end Go.Proofs.Ytchoipmfngcdoaa.Mg
