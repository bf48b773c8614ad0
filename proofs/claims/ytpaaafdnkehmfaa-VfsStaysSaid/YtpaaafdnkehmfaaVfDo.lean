/- vfs: a change done; Write, Remove. No conditions but that there is no more than 2^40 of anything. -/
import Derived.Test.YtpaaafdnkehmfaaVfBox
namespace Go.Proofs.Ytpaaafdnkehmfaa.Vf
open Go.RowKit
set_option maxRecDepth 100000

theorem Lim.wrote {V : Vm} {N : Nat} (h : Lim V N) (k : BS) (o : Option BS) : Lim ({ V with since := V.since ++ [(k, o)] } : Vm) (N + (k.length + olen o + 1)) := by
  refine ⟨?_, ?_, h.room, h.stop, h.asc⟩
  · have := h.tot
    simp only [ws_app, ws]; omega
  · have := h.num; show V.ops ≤ _; omega
section
variable {V : Vm} {w : World} {B p N : Nat} {s : ByteArray} {ob : Option BS}
/-- Behind what was done is written down, ahead of the count. -/
theorem did_now (V : Vm) (k : BS) (o : Option BS) : ({ V with since := V.since ++ [(k, o)] } : Vm).now = wth k o V.now := by
  simp only [Vm.now, ops_app]; rfl
set_option maxHeartbeats 2000000 in
theorem change_any (h : Vp w B p V) (hl : Lim V N) (hN : N + (s.data.toList.length + olen ob + 1) ≤ 1099511627776) {v : Value} (hv : Bz w B v (ob.getD [])) :
    Calls Try.prog 51 #[.pointer (some ⟨p, 0, none⟩), .agg #[.string s, v, .bool ob.isNone]] w (Did (.int .i64 (V.does s.data.toList ob).says) (V.does s.data.toList ob) B p w) := by
  obtain ⟨m1, m2, A, n, c, vs, h⟩ := h
  have h := h.parts
  obtain ⟨A', n', c', rfl, -⟩ := hv.ex
  have hnow := hl.now
  have hs : s.size ≤ maxLen := by have : s.data.toList.length = s.size := Array.length_toList; unfold maxLen; omega
  obtain ⟨W1, hW1⟩ : ∃ W, W = w.alloc (Obj.cells #[.string s, .slice A' n' c', .bool ob.isNone] 84) := ⟨_, rfl⟩
  have hb1 : Below w.heap.size w W1 := by rw [hW1]; exact (Below.refl _ _).alloc (Nat.le_refl _) _
  have hx1 : Bx W1 w.heap.size [.string s, .slice A' n' c', .bool ob.isNone] 84 := by rw [hW1]; exact Bx.new w _ _
  have h1 := h.below hb1
  have hset := set_any (o := 0) (s := s) (ob := ob) h1.drew.box rfl rfl h1.drew.f1 hl.ascNow hs ((hv.keep (Ks.of hb1)).keep fun _ _ => rfl) rfl (by omega) (by omega) h.lt h1.drew.le
  have x0 : W1.cell? ⟨w.heap.size, 0, none⟩ = some (.string s) := hx1.cells 0
  have x1 : W1.cell? ⟨w.heap.size, 1, none⟩ = some (.slice A' n' c') := hx1.cells 1
  have x2 : W1.cell? ⟨w.heap.size, 2, none⟩ = some (.bool ob.isNone) := hx1.cells 2
  have hnc : n + 1 ≤ 1099511627776 := by have := h.len; have := hl.since; omega
  have HSET := Lib.hid hset
  have H1 := Lib.hid h1
  have HX := Lib.hid hx1
  have HB1 := Lib.hid hb1
  have HV := Lib.hid (hv.keep (Ks.of hb1))
  have HLim := Lib.hid hl
  have HN := Lib.hid hN
  have HPW := Lib.hid h.box.lt
  clear hset h1 hx1 hb1 hv hl h hnow hs hN
  obtain ⟨g, hg⟩ : ∃ g, g = ob.isNone := ⟨_, rfl⟩
  rw [← hg] at HSET HX x2 hW1 ⊢
  have HG := Lib.hid hg
  clear hg
  subst hW1
  go_enter Try.func51, Try.ntmps51
  go_wp2_with fail
  go_region_with (go_at_call 49; (with_reducible refine HSET.out.mono ?_); intro e W2 he; obtain ⟨rfl, hmo2, ⟨mv2, hP2⟩, hst2⟩ := H1.out.drew.set1 he)
  have hx2 : Bx W2 w.heap.size [.string s, .slice A' n' c', .bool g] 84 := hst2 _ _ _ HX.out (by have := HPW.out; omega)
  have hv2 := HV.out.keep (hmo2.ks H1.out.drew.notKd)
  have y0 : W2.cell? ⟨w.heap.size, 0, none⟩ = some (.string s) := hx2.cells 0
  have y1 : W2.cell? ⟨w.heap.size, 1, none⟩ = some (.slice A' n' c') := hx2.cells 1
  have y2 : W2.cell? ⟨w.heap.size, 2, none⟩ = some (.bool g) := hx2.cells 2
  have z4 : W2.cell? ⟨p, 4, none⟩ = some (.slice A n c) := hP2.box.cells 4
  have fz4 := hP2.box.free 4
  have HP2 := Lib.hid hP2
  have HM2 := Lib.hid hmo2
  have HV2 := Lib.hid hv2
  have HX2 := Lib.hid hx2
  clear hP2 hmo2 hv2 hx2 x0 x1 x2 he hst2
  have hlt2 : w.heap.size < W2.heap.size := HX2.out.lt
  have hpl := HPW.out
  obtain ⟨X, hX⟩ : ∃ X, X = Obj.cells #[.string s, .slice A' n' c', .bool g] 84 := ⟨_, rfl⟩
  have a0 : (W2.alloc X).cell? ⟨w.heap.size, 0, none⟩ = some (.string s) := (World.cell?_alloc_lt W2 X _ hlt2).trans y0
  have a1 : (W2.alloc X).cell? ⟨w.heap.size, 1, none⟩ = some (.slice A' n' c') := (World.cell?_alloc_lt W2 X _ hlt2).trans y1
  have a2 : (W2.alloc X).cell? ⟨w.heap.size, 2, none⟩ = some (.bool g) := (World.cell?_alloc_lt W2 X _ hlt2).trans y2
  have b4 : (W2.alloc X).cell? ⟨p, 4, none⟩ = some (.slice A n c) := (World.cell?_alloc_lt W2 X _ (by show p < W2.heap.size; omega)).trans z4
  have fb4 := (HP2.out.box.alloc X).free 4
  have hbase : B ≤ (W2.alloc X).drew.heap.size := by have := HP2.out.le; simp; omega
  have hsrc := src_file (V := (W2.alloc X).drew) (g := W2.heap.size) (a := .string s) (b := .slice A' n' c') (c := .bool g) (by rw [hX]; exact heap_alloc_new W2 _) rfl rfl rfl
  have hown := (HP2.out.own.alloc X).drew
  obtain ⟨A5, c5, w5, hr5, ho5, hg5, hat5⟩ := run_append_row 70 elem_file hown hsrc hnc hbase
  have far5 : ∀ k, k < W2.heap.size → (Value.slice A n c).ownBlock ≠ some k → w5.heap[k]? = W2.heap[k]? := fun k hk e => (hg5.block k (by simp; omega) (fun q => e q.symm)).trans (heap_alloc_old W2 X hk)
  have hnp : (Value.slice A n c).ownBlock ≠ some p := fun e => by have := HP2.out.rowFar p e; have := HP2.out.lt; omega
  have hnx : (Value.slice A n c).ownBlock ≠ some w.heap.size := fun e => by have := (h.own.lt _ e).2; omega
  have bx5 : Bx w5 p _ _ := HP2.out.box.eq (far5 p HP2.out.box.lt hnp)
  have xx5 : Bx w5 w.heap.size _ _ := HX2.out.eq (far5 _ hlt2 hnx)
  have d0 : w5.cell? ⟨w.heap.size, 0, none⟩ = some (.string s) := xx5.cells 0
  have d1 : w5.cell? ⟨w.heap.size, 1, none⟩ = some (.slice A' n' c') := xx5.cells 1
  have d2 : w5.cell? ⟨w.heap.size, 2, none⟩ = some (.bool g) := xx5.cells 2
  have d4 : w5.cell? ⟨p, 4, none⟩ = some (.slice A n c) := bx5.cells 4
  have fd4 := bx5.free 4
  have HO5 := Lib.hid ho5
  have HG5 := Lib.hid hg5
  have HAT5 := Lib.hid hat5
  have HBX5 := Lib.hid bx5
  have HLT2 := Lib.hid hlt2
  have HPL := Lib.hid hpl
  clear ho5 hg5 hat5 bx5 xx5 far5 hnp hnx hown hsrc hbase hlt2 hpl
  obtain ⟨W6, hW6⟩ : ∃ W, W = w5.setCell ⟨p, 4, none⟩ (.slice A5 (n + 1) c5) := ⟨_, rfl⟩
  have hm6 : Mv W2 W6 (fun k => k = p ∨ (Value.slice A n c).ownBlock = some k) := by
    rw [hW6]
    exact (((Mv.of ((Below.refl W2.heap.size W2).alloc (Nat.le_refl _) X) (fun _ => False)).trans (Mv.grown HG5.out).undrew).trans (Mv.setCell _ _ _)).weak fun k _ e => by
      rcases e with (e | e) | e
      · exact e.elim
      · exact .inr e
      · exact .inl e
  have hb6 : Bx W6 p (bxG (wth s.data.toList ob V.now) V.fl V.r4 mv2 m2 A5 (n + 1) c5) 72 := by rw [hW6]; exact HBX5.out.set 4 _
  have ho6 : W6.ownsRow B 84 3 (.slice A5 (n + 1) c5) (n + 1) (vs ++ [.string s, .slice A' n' c', .bool g]) := by
    rw [hW6]
    exact (Mv.setCell w5 ⟨p, 4, none⟩ (.slice A5 (n + 1) c5)).row HO5.out fun k e q => by
      have q' : k = p := q
      have h1 := (HO5.out.lt k e).1
      have := HP2.out.lt
      omega
  have hk6 : Ks W2 W6 := (HP2.out.mo hm6).ks HP2.out.notKd
  have ht6 := HP2.out.turn (s' := V.since ++ [(s.data.toList, ob)]) (R' := V.r4) hm6 hb6 ho6 ((HP2.out.row.keep hk6).app (us := [.string s, .slice A' n' c', .bool g]) (t := [(s.data.toList, ob)]) ⟨rfl, HG.out, HV2.out.keep hk6, trivial⟩)
  obtain ⟨hp6, hmo6⟩ := ht6
  rw [← did_now] at hp6
  have hst := stops_any (V := ({ V with since := V.since ++ [(s.data.toList, ob)] } : Vm)) (VpB.whole (V := ({ V with since := V.since ++ [(s.data.toList, ob)] } : Vm)) hp6) (HLim.out.wrote s.data.toList ob) HN.out
  have HST := Lib.hid hst
  have HMO6 := Lib.hid hmo6
  have HW6 := Lib.hid hW6
  have hms : Mo B p w W6 := ((Mo.of HB1.out).trans HM2.out.undrew).trans hmo6
  have HMS := Lib.hid hms
  clear hm6 hb6 ho6 hk6 hp6 hmo6 hst hms hW6
  obtain ⟨d, hd⟩ : ∃ d, d = ({ V with since := V.since ++ [(s.data.toList, ob)] } : Vm).tick.dead := ⟨_, rfl⟩
  have hsay : (V.does s.data.toList ob).says = if d = true then 15 else 0 := by rw [hd]; rfl
  have HSay := Lib.hid hsay
  rw [← hd] at HST
  clear hd hsay
  subst hX
  go_wp2_with fail
  go_region_law (refine step_append_run rfl (.tmp 14) (.tmp 16) _ _ rfl rfl rfl hr5 ?_)
  all_goals
    rw [← HW6.out]
    cases d with
    | true =>
      go_wp2_with (go_at_call 48; (with_reducible refine HST.out.mono ?_); rintro e W7 ⟨rfl, hv7, hm7⟩)
      go_ret
      exact ⟨by rw [HSay.out]; rfl, hv7, HMS.out.trans hm7⟩
    | false =>
      go_wp2_with (go_at_call 48; (with_reducible refine HST.out.mono ?_); rintro e W7 ⟨rfl, hv7, hm7⟩)
      go_ret
      exact ⟨by rw [HSay.out]; rfl, hv7, HMS.out.trans hm7⟩
end
end Go.Proofs.Ytpaaafdnkehmfaa.Vf
