/- schema.every of fields, schema.Level. Conditions: fewer than 4,096 fields, names in each. -/
import Derived.Test.YtagoeededpmdkaaScLevel
namespace Go.Proofs.Ytagoeededpmdkaa.Sc
open Go.RowKit Go.Proofs.Ytagoeededpmdkaa.Nm
set_option maxRecDepth 100000

/-- Small lists of names. -/
def Fit (fs : List Fld) : Prop := ∀ f ∈ fs, f.n.l.length ≤ 4096

set_option maxHeartbeats 2000000 in
theorem every_field (fs : List Fld) (t : Tr) (A2 : Option Addr) (n2 c2 : Nat) (A : Option Addr) (n c B g : Nat) (w : World) (hF : Fs w B A2 n2 fs) (hfit : Fit fs) (hn2 : n2 ≤ 9223372036854775807) (h : Holds w B A n t) (hB : B ≤ w.heap.size) (hg : w.cell? ⟨g, 0, none⟩ = some (.slice A n c)) (hn : n ≤ 140737488351232) :
    Calls Try.prog 106 #[.slice A2 n2 c2, .func (.func 107) #[] #[.pointer (some ⟨g, 0, none⟩)]] w fun e w' => e = .returned (.bool (fs.all (needs (tn t)))) ∧ Below w.heap.size w w' := by
  have hgl := block_lt hg
  simp only at hgl
  have Hl := Lib.hid hF.len
  obtain ⟨p, hp⟩ : ∃ p : Fld → Bool, p = needs (tn t) := ⟨_, rfl⟩
  have Hp := Lib.hid hp
  rw [← hp]
  obtain ⟨r, hr⟩ : ∃ r, r = fs.all p := ⟨_, rfl⟩
  have Hr := Lib.hid hr
  rw [← hr]
  have HX := Lib.hid hfit
  clear hr hp hfit
  go_enter Try.func106, Try.ntmps106
  go_wp2_with fail
  go_loopw [9] (fun i wr => ∃ k : Nat, k ≤ n2 ∧ i = .int .i64 k ∧ Hid ((fs.take k).all p = true) ∧ Below w.heap.size w wr) (fun i _ => n2 - (intOf i).toNat)
  case atStart => exact ⟨0, Nat.zero_le _, rfl, Lib.hid (by simp), Below.refl _ _⟩
  case round =>
    obtain ⟨k, hk, rfl, H, hbw⟩ := hrel
    by_cases hlt : k < n2
    · obtain ⟨b, o, f, A3, n3, c3, rfl, hb, hf, f1, f2, f3, f4, hS, f5, f6⟩ := (hF.below (hbw.mono hB)).at hlt
      have Hs := Lib.hid hf
      have hn3 : n3 ≤ 4611686018427387904 := by
        have h1 := hS.len
        rw [List.length_map] at h1
        have := HX.out f (List.mem_of_getElem? hf)
        omega
      have hkn : (k : Int) < (n2 : Int) := by omega
      have hk0 : (0 : Int) ≤ (k : Int) := by omega
      have hsz := hbw.size
      obtain ⟨W1, hW1⟩ : ∃ W, W = wr.alloc (Obj.cells #[Value.bool f.n.all, Value.slice A3 n3 c3, Value.int .i64 f.to, Value.bool f.need] 83) := ⟨_, rfl⟩
      have g0 : W1.heap[wr.heap.size]? = some (Obj.cells #[Value.bool f.n.all, Value.slice A3 n3 c3, Value.int .i64 f.to, Value.bool f.need] 83) := by rw [hW1, heap_alloc_new]
      have hb1 : Below wr.heap.size wr W1 := by rw [hW1]; exact (Below.refl _ _).alloc (Nat.le_refl _) _
      have hbW := hbw.trans (hb1.mono hsz)
      have HC := Lib.hid (level2_any f t A3 n3 c3 A n c B g W1 (hS.below (hb1.mono (Nat.le_trans hB hsz))) hn3 (h.below (hbW.mono hB)) (Nat.le_trans hB hbW.size) ((hbW.cell (p := ⟨g, 0, none⟩) hgl).trans hg) hn)
      obtain ⟨q0, q1, q2, q3⟩ := box4 g0
      have HBW := Lib.hid hbW
      obtain ⟨q, hq⟩ : ∃ q, q = needs (tn t) f := ⟨_, rfl⟩
      have Hq : Hid (p f = q) := Lib.hid (by rw [hq, Hp.out])
      rw [← hq] at HC
      clear hq hf hS hbW hb1 g0 f5 f6
      cases q with
      | false =>
        have Hd2 : r = false := by rw [Hr.out]; exact all_false Hs.out Hq.out
        subst Hd2
        go_wp2_with fail
        rw [← hW1]
        go_wp2_with fail
        (with_reducible refine HC.out.mono ?_)
        rintro e w1 ⟨rfl, hb2⟩
        go_wp2_with fail
        go_ret
        exact ⟨rfl, HBW.out.trans (hb2.mono HBW.out.size)⟩
      | true =>
        have H2 : Hid ((fs.take (k + 1)).all p = true) := Lib.hid (by rw [all_take Hs.out, H.out, Hq.out]; rfl)
        go_wp2_with fail
        rw [← hW1]
        go_wp2_with fail
        (with_reducible refine HC.out.mono ?_)
        rintro e w1 ⟨rfl, hb2⟩
        go_wp2_with fail
        go_roundw
        case rel => exact ⟨k + 1, by omega, by go_num, H2, HBW.out.trans (hb2.mono HBW.out.size)⟩
        case measure => simp [intOf]; omega
    · obtain rfl : k = n2 := by omega
      have Hd2 : r = true := by
        have := H.out
        rw [List.take_of_length_le (by rw [← Hl.out]; exact Nat.le_refl _)] at this
        rw [Hr.out, this]
      subst Hd2
      go_wp2_with fail
      go_ret
      exact ⟨rfl, hbw⟩

theorem four' (w : World) (o0 o1 o2 o3 : Obj) : ∃ W, W = (((w.alloc o0).alloc o1).alloc o2).alloc o3 ∧ W.heap[w.heap.size]? = some o0 ∧ W.heap[w.heap.size + 1]? = some o1 ∧ W.heap[w.heap.size + 1 + 1]? = some o2 ∧ W.heap[w.heap.size + 1 + 1 + 1]? = some o3 ∧ W.heap.size = w.heap.size + 4 ∧ Below w.heap.size w W := by
  obtain ⟨W, hW, g0, g1, g2, gs, gb⟩ := three w o0 o1 o2
  refine ⟨_, rfl, ?_, ?_, ?_, ?_, by simp, ((((Below.refl _ _).alloc (Nat.le_refl _) _).alloc (by simp) _).alloc (by simp; omega) _).alloc (by simp; omega) _⟩
  · rw [← hW, Below.heap_alloc _ _ _ (by omega), g0]
  · rw [← hW, Below.heap_alloc _ _ _ (by omega), g1]
  · rw [← hW, Below.heap_alloc _ _ _ (by omega), g2]
  · rw [← hW, show w.heap.size + 1 + 1 + 1 = W.heap.size by omega, heap_alloc_new]

/-- Small schemas. -/
def FitS (s : List Df) : Prop := ∀ d ∈ s, d.fs.length ≤ 4096 ∧ Fit d.fs

set_option maxHeartbeats 2000000 in
theorem level_any (s : List Df) (t : Tr) (A : Option Addr) (n c B : Nat) (d : Int) (A2 : Option Addr) (n2 c2 : Nat) (w : World) (h : Ds w B A n s) (hfit : FitS s) (hB : B ≤ w.heap.size) (hn : n ≤ 9223372036854775807) (ht : Holds w B A2 n2 t) (hn2 : n2 ≤ 140737488351232) :
    Calls Try.prog 53 #[.slice A n c, .int .i64 d, .slice A2 n2 c2] w fun e w' => e = .returned (.bool (lvl s d t)) ∧ Below w.heap.size w w' := by
  have hlen := h.len
  have htl := ht.len
  obtain ⟨W1, hW1, g0, g1, g2, gs, gb⟩ := three w (Obj.cells #[Value.slice A n c] 72) (Obj.cells #[Value.int .i64 d] 3) (Obj.cells #[Value.slice A2 n2 c2] 27)
  have HN := Lib.hid (fun W => numbered_any A n c d W)
  have Gb := Lib.hid gb
  by_cases hin : 0 ≤ d ∧ d < (n : Int)
  · rw [decide_eq_true hin] at HN
    obtain ⟨k, rfl⟩ : ∃ k : Nat, d = k := ⟨d.toNat, by omega⟩
    have hk : k < n := by omega
    obtain ⟨b, o, D, A3, n3, c3, rfl, hb, hD, h1, h2, h3, hF, h5, h6⟩ := h.at hk
    have hDm := hfit D (List.mem_of_getElem? hD)
    have hn3 : n3 ≤ 4096 := by rw [hF.len]; exact hDm.1
    have HT : Hid (lvl s k t = (counts D n2 && ((tn t).all fun x => decide (0 ≤ toS s k x)) && D.fs.all (needs (tn t)))) := Lib.hid (by rw [lvl_in hD, htl]; simp only [toS_in hD])
    obtain ⟨W2, hW2⟩ : ∃ W, W = W1.alloc (Obj.cells #[Value.slice A3 n3 c3, Value.bool D.one, Value.bool D.some] 80) := ⟨_, rfl⟩
    have g3 : W2.heap[W1.heap.size]? = some (Obj.cells #[Value.slice A3 n3 c3, Value.bool D.one, Value.bool D.some] 80) := by rw [hW2, heap_alloc_new]
    have hb2 : Below W1.heap.size W1 W2 := by rw [hW2]; exact (Below.refl _ _).alloc (Nat.le_refl _) _
    have hbW := gb.trans (hb2.mono gb.size)
    have HC := Lib.hid (counted_any D A3 n3 c3 n2 W2)
    have HE := Lib.hid (fun W (hbx : Below W2.heap.size W2 W) => have hbz := hbW.trans (hbx.mono hbW.size); every_edge s t (some ⟨b, o, none⟩) n c B w.heap.size (w.heap.size + 1) k A2 n2 c2 W (h.below (hbz.mono hB)) (Nat.le_trans hB hbz.size) hn (box1 (Below.box hbx (Below.box hb2 g0))) (box1 (Below.box hbx (Below.box hb2 g1))) (ht.below (hbz.mono hB)) hn2)
    have HF := Lib.hid (fun W (hbx : Below W2.heap.size W2 W) => have hbz := hbW.trans (hbx.mono hbW.size); every_field D.fs t A3 n3 c3 A2 n2 c2 B (w.heap.size + 1 + 1) W (hF.below (hbz.mono hB)) hDm.2 (by omega) (ht.below (hbz.mono hB)) (Nat.le_trans hB hbz.size) (box1 (Below.box hbx (Below.box hb2 g2))) hn2)
    have HK := Lib.hid (fun W (hbx : Below W2.heap.size W2 W) => (⟨(box3 (Below.box hbx g3)).1, box1 (Below.box hbx (Below.box hb2 g2))⟩ : W.cell? ⟨W1.heap.size, 0, none⟩ = some (.slice A3 n3 c3) ∧ W.cell? ⟨w.heap.size + 1 + 1, 0, none⟩ = some (.slice A2 n2 c2)))
    obtain ⟨x1, hx1⟩ : ∃ x, x = counts D n2 := ⟨_, rfl⟩
    obtain ⟨x2, hx2⟩ : ∃ x, x = (tn t).all fun x => decide (0 ≤ toS s k x) := ⟨_, rfl⟩
    obtain ⟨x3, hx3⟩ : ∃ x, x = D.fs.all (needs (tn t)) := ⟨_, rfl⟩
    rw [← hx1, ← hx2, ← hx3] at HT
    rw [← hx1] at HC
    rw [← hx2] at HE
    rw [← hx3] at HF
    rw [HT.out]
    obtain ⟨y1, hy1⟩ : ∃ y, y = D.one := ⟨_, rfl⟩
    obtain ⟨y2, hy2⟩ : ∃ y, y = D.some := ⟨_, rfl⟩
    rw [← hy1] at h2 HC hW2 g3
    rw [← hy2] at h3 HC hW2 g3
    have HW2 := Lib.hid hW2
    have h1' := (gb.cell (p := ⟨b, o + k * 3, none⟩) (Nat.lt_of_lt_of_le hb hB)).trans h1
    have h2' := (gb.cell (p := ⟨b, o + k * 3 + 1, none⟩) (Nat.lt_of_lt_of_le hb hB)).trans h2
    have h3' := (gb.cell (p := ⟨b, o + k * 3 + 2, none⟩) (Nat.lt_of_lt_of_le hb hB)).trans h3
    have u0 := box1 g0
    have u1 := box1 g1
    have u2 := box1 g2
    have v0 := box1 (Below.box hb2 g0)
    have v1 := box1 (Below.box hb2 g1)
    have v2 := box1 (Below.box hb2 g2)
    obtain ⟨v3, v4, v5⟩ := box3 g3
    have HBW := Lib.hid hbW
    have hl2 : w.heap.size + 1 + 1 < W1.heap.size := by omega
    have hl1 : w.heap.size + 1 < W1.heap.size := by omega
    have hl0 : w.heap.size < W1.heap.size := by omega
    have hkn : (k : Int) < (n : Int) := by omega
    have hk0 : (0 : Int) ≤ (k : Int) := by omega
    clear hW2 hx1 hx2 hx3 hy1 hy2 h1 h2 h3 h ht hF hD hfit hDm hin hlen htl g0 g1 g2 g3 hb2 hbW gb gs h5 h6 HT
    go_enter Try.func53, Try.ntmps53
    go_wp2_with fail
    rw [← hW1]
    clear hW1
    go_wp2_with fail
    (with_reducible refine (HN.out _).mono ?_)
    rintro e w' ⟨rfl, rfl⟩
    go_wp2_with fail
    rw [← HW2.out]
    go_wp2_with fail
    (with_reducible refine HC.out.mono ?_)
    rintro e w1 ⟨rfl, hb1⟩
    obtain ⟨t1, t2⟩ := HK.out _ hb1
    cases x1 with
    | false =>
      go_wp2_with fail
      go_ret
      exact ⟨rfl, HBW.out.trans (hb1.mono HBW.out.size)⟩
    | true =>
      go_wp2_with fail
      (with_reducible refine (HE.out _ hb1).mono ?_)
      rintro e w2 ⟨rfl, hb2⟩
      have hb3 := hb1.trans (hb2.mono hb1.size)
      obtain ⟨t3, t4⟩ := HK.out _ hb3
      clear t1 t2
      cases x2 with
      | false =>
        go_wp2_with fail
        go_ret
        exact ⟨rfl, HBW.out.trans (hb3.mono HBW.out.size)⟩
      | true =>
        go_wp2_with fail
        (with_reducible refine (HF.out _ hb3).mono ?_)
        rintro e w3 ⟨rfl, hb4⟩
        have hb5 := hb3.trans (hb4.mono hb3.size)
        go_wp2_with fail
        go_ret
        exact ⟨rfl, HBW.out.trans (hb5.mono HBW.out.size)⟩
  · rw [decide_eq_false hin] at HN
    have HT : Hid (lvl s d t = false) := Lib.hid (lvl_out (by rw [← hlen]; exact hin) _)
    rw [HT.out]
    have u0 := box1 g0
    have u1 := box1 g1
    clear h hin g0 g1 g2 gs gb ht hfit hlen htl
    go_enter Try.func53, Try.ntmps53
    go_wp2_with fail
    rw [← hW1]
    clear hW1
    go_wp2_with fail
    (with_reducible refine (HN.out _).mono ?_)
    rintro e w' ⟨rfl, rfl⟩
    go_wp2_with fail
    go_ret
    exact ⟨rfl, Gb.out⟩
end Go.Proofs.Ytagoeededpmdkaa.Sc
