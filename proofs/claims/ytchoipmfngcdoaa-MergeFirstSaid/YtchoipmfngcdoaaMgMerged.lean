/- merge: the document's rules in their order. Conditions: places as PIn says. -/
import Derived.Test.YtchoipmfngcdoaaMgName
namespace Go.Proofs.Ytchoipmfngcdoaa.Mg
open Go.RowKit Go.Proofs.Ytchoipmfngcdoaa.Pt Go.Proofs.Ytchoipmfngcdoaa.Df Go.Proofs.Ytchoipmfngcdoaa.Sc Go.Proofs.Ytchoipmfngcdoaa.Cl
set_option maxRecDepth 100000

abbrev rfn (k : Nat) (v : Value) : Value := .func (.func k) #[v] #[]
theorem OutP.more {w w1 w2 : World} {Pp : Nat → Prop} {x y z : Op} {l : List (List ByteArray × Int)} {e : Ending} (h : OutP w Pp x y z l e w1) (hpp : ∀ b, Pp b → b < w.heap.size) (hb : Below w1.heap.size w1 w2) : OutP w Pp x y z l e w2 := by
  obtain ⟨s1, s2, s3, s4, he, h1, h2, h3, h4⟩ := h
  have h4s := h4.size
  refine ⟨s1, s2, s3, s4, he, OpN3.grow (w1 := w) h1 (Nat.le_refl _) hb, (h2.keep fun b o hp => hb.cell (p := ⟨b, o, none⟩) ?_).more fun b hp => hp.imp id fun hp => ⟨hp.1, Nat.lt_of_lt_of_le hp.2 hb.size⟩, h3, h4.trans (hb.mono h4s)⟩
  rcases hp with hp | hp
  · have := hpp b hp
    simp only
    omega
  · exact hp.2
/-- A rule's answer is the place's. -/
theorem rule_fin {w wz w5 : World} {Pp : Nat → Prop} {m : Mo} {x y z : Op} {s1 s2 s3 s4 : Sl} {gr : Nat} {o : Obj} (hw : Below w.heap.size w wz) (hgr : gr < wz.heap.size) (hgw : w.heap.size ≤ gr) (hpp : ∀ b, Pp b → b < w.heap.size)
    (h : x = m.o ∧ y = m.a ∧ z = m.b ∧ OpN3 wz w5 m.o m.a m.b s1 s2 s3 ∧ CfP w5 (fun b => Pp b ∨ (wz.heap.size ≤ b ∧ b < w5.heap.size)) s4 m.l ∧ s4.n ≤ s4.c) (h4 : Below wz.heap.size wz w5) (b0 b1 b2 b3 b4 b5 b6 : Value) :
    OutP w Pp m.o m.a m.b m.l (.returned (outv x y z s1 s2 s3 s4)) ((st7 w5 gr b0 b1 b2 b3 b4 b5 b6).alloc o) := by
  obtain ⟨rfl, rfl, rfl, h1, h2, h3⟩ := h
  exact (kept_fin hw hgr hgw hpp h1 h2 h3 h4 ..).more hpp ((Below.refl _ _).alloc (Nat.le_refl _) _)

set_option maxHeartbeats 16000000 in
theorem merged1_any (sc : List Df) (N : Nat) (hN : N ≤ 900000) (IH : MergedOK sc N) (S P : Sl) (d : Int) (p : List ByteArray) (Pp : Nat → Prop) (o a b : Op) (so sa sb : Sl) (w : World) (h : PIn sc w S P p Pp o a b so sa sb (N + 1)) :
    Calls Try.prog 25 #[plv S P d o a b so sa sb] w (OutP w Pp (mrg sc (N + 1) d p o a b).o (mrg sc (N + 1) d p o a b).a (mrg sc (N + 1) d p o a b).b (mrg sc (N + 1) d p o a b).l) := by
  obtain ⟨W2, hW2, hb2, hz2, g1, g2⟩ := boxes2 w (plc S P d o a b so sa sb) zs7 75 73
  obtain ⟨W3, hW3, hb3, hz3, g3⟩ := box1 W2 [rfn 31 (plv S P d o a b so sa sb), rfn 32 (plv S P d o a b so sa sb), rfn 33 (plv S P d o a b so sa sb), rfn 34 (plv S P d o a b so sa sb)] 87
  have hb23 := hb2.trans (hb3.mono hb2.size)
  have HIn := Lib.hid h
  have HB3 := Lib.hid hb23
  have HGp := Lib.hid (g1.below hb3 (by omega))
  have HGr := Lib.hid (g2.below hb3 (by omega))
  have HG3 := Lib.hid g3
  have Hz := Lib.hid (show W3.heap.size = w.heap.size + 3 by omega)
  have hz2' : W2.heap.size = w.heap.size + 2 := hz2
  rw [hz2'] at HG3
  obtain ⟨R, hR⟩ : ∃ R, R = mrg sc (N + 1) d p o a b := ⟨_, rfl⟩
  rw [← hR]
  rw [mrg_eq] at hR
  have HR := Lib.hid hR
  have HIH := Lib.hid IH
  obtain ⟨p0, p1, p2, p3, p4, p5, p6, p7, p8⟩ := g1.c9
  clear hb2 hb3 hb23 g1 g2 g3 hR h IH hz2 hz3
  go_enter Try.func25, Try.ntmps25
  go_wp2_with fail
  rw [← hW2, ← hW3]
  clear hW2 hW3 p0 p1 p2 p3 p4 p5 p6 p7 p8 hz2'
  go_loopw [17] (fun i wr => ∃ k : Nat, k ≤ 4 ∧ i = .int .i64 k ∧ Hid (Below W3.heap.size W3 wr) ∧ Hid ((1 ≤ k → a.same b = false) ∧ (2 ≤ k → a.same o = false) ∧ (3 ≤ k → b.same o = false) ∧ (4 ≤ k → (!(a.is && b.is)) = false))) (fun i _ => 4 - (intOf i).toNat)
  case atStart => exact ⟨0, Nat.zero_le _, rfl, Lib.hid (Below.refl _ _), Lib.hid ⟨fun h => by omega, fun h => by omega, fun h => by omega, fun h => by omega⟩⟩
  case round =>
    obtain ⟨k, hk, rfl, HBr, HF⟩ := hrel
    have hzz := Hz.out
    have hwr := HBr.out.size
    have hbw := HB3.out.trans (HBr.out.mono HB3.out.size)
    have hIr := HIn.out.below hbw
    have hgfs : w.heap.size + 2 < wr.heap.size := by omega
    have Hbw := Lib.hid hbw
    have HGf := Lib.hid (HG3.out.below HBr.out HG3.out.lt)
    have HGr2 := Lib.hid (HGr.out.below HBr.out HGr.out.lt)
    have HGp2 := Lib.hid (HGp.out.below HBr.out HGp.out.lt)
    have H0 := Lib.hid ((equal_any S P d o a b so sa sb wr hIr.pl hIr.k).mono fun _ _ h => TakenP.rule (Pp := Pp) h)
    have H1 := Lib.hid ((aun_any S P d o a b so sa sb wr hIr.pl hIr.k).mono fun _ _ h => TakenP.rule (Pp := Pp) h)
    have H2 := Lib.hid ((bun_any S P d o a b so sa sb wr hIr.pl hIr.k).mono fun _ _ h => TakenP.rule (Pp := Pp) h)
    have H3 := Lib.hid (gone_any S P d p Pp o a b so sa sb wr hIr.pl hIr.k hIr.path hIr.pp)
    have HIr := Lib.hid hIr
    clear hbw hIr
    rcases Nat.lt_or_ge k 4 with hlt | hge
    · have hcs : k = 0 ∨ k = 1 ∨ k = 2 ∨ k = 3 := by omega
      rcases hcs with rfl | rfl | rfl | rfl
      · have hc0 := HGf.out.cells 0
        obtain ⟨v, hv⟩ : ∃ v, v = a.same b := ⟨_, rfl⟩
        rw [← hv] at H0
        have Hv := Lib.hid hv
        clear hv
        cases v with
        | false =>
          go_wp2_with fail
          (with_reducible refine H0.out.mono ?_)
          rintro e w5 ⟨x, y, z, s1, s2, s3, s4, rfl, _, hb5⟩
          have H5 := Lib.hid hb5
          clear hb5
          go_wp2_with fail
          go_roundw
          case rel => exact ⟨1, by omega, by go_num, Lib.hid (HBr.out.trans ((H5.out.trans ((Below.refl _ _).alloc (Nat.le_refl _) _ |>.mono H5.out.size)).mono hwr)), Lib.hid ⟨(fun _ => Hv.out.symm), (fun h => by omega), (fun h => by omega), (fun h => by omega)⟩⟩
          case measure => simp [intOf]
        | true =>
          have HRk := Lib.hid (show R = ⟨a, a, a, []⟩ from by rw [HR.out, if_pos Hv.out.symm])
          go_wp2_with fail
          (with_reducible refine H0.out.mono ?_)
          rintro e w5 ⟨x, y, z, s1, s2, s3, s4, rfl, hx, hb5⟩
          have hg5 := HGr2.out.below hb5 HGr2.out.lt
          obtain ⟨d0, d1, d2, d3, d4, d5, d6⟩ := hg5.c7
          obtain ⟨z0, z1, z2, z3, z4, z5, z6⟩ := hg5.f7
          have hgl := hg5.lt
          have HG5 := Lib.hid hg5
          have Hx := Lib.hid (hx rfl)
          have H5 := Lib.hid hb5
          clear hx hb5 hg5
          go_wp2_with fail
          obtain ⟨e0, e1, e2, e3, e4, e5, e6⟩ := ((HG5.out.s7 (.bool x.is) (.slice s1.A s1.n s1.c) (.bool y.is) (.slice s2.A s2.n s2.c) (.bool z.is) (.slice s3.A s3.n s3.c) (.slice s4.A s4.n s4.c)).alloc (Obj.cells #[.bool x.is, .slice s1.A s1.n s1.c, .bool y.is, .slice s2.A s2.n s2.c, .bool z.is, .slice s3.A s3.n s3.c, .slice s4.A s4.n s4.c] 73)).c7
          refine bodyPost_ret (v := outv x y z s1 s2 s3 s4) (by simp [results, Try.results25, go_sem, e0, e1, e2, e3, e4, e5, e6]) rfl ?_
          rw [HRk.out]
          exact rule_fin Hbw.out HGr2.out.lt (Nat.le_succ _) HIn.out.pp Hx.out H5.out ..
      · have hc1 := HGf.out.cells 1
        obtain ⟨v, hv⟩ : ∃ v, v = a.same o := ⟨_, rfl⟩
        rw [← hv] at H1
        have Hv := Lib.hid hv
        clear hv
        cases v with
        | false =>
          go_wp2_with fail
          (with_reducible refine H1.out.mono ?_)
          rintro e w5 ⟨x, y, z, s1, s2, s3, s4, rfl, _, hb5⟩
          have H5 := Lib.hid hb5
          clear hb5
          go_wp2_with fail
          go_roundw
          case rel => exact ⟨2, by omega, by go_num, Lib.hid (HBr.out.trans ((H5.out.trans ((Below.refl _ _).alloc (Nat.le_refl _) _ |>.mono H5.out.size)).mono hwr)), Lib.hid ⟨(fun _ => HF.out.1 (by omega)), (fun _ => Hv.out.symm), (fun h => by omega), (fun h => by omega)⟩⟩
          case measure => simp [intOf]
        | true =>
          have HRk := Lib.hid (show R = ⟨b, b, b, []⟩ from by rw [HR.out, if_neg (by rw [HF.out.1 (by omega)]; decide), if_pos Hv.out.symm])
          go_wp2_with fail
          (with_reducible refine H1.out.mono ?_)
          rintro e w5 ⟨x, y, z, s1, s2, s3, s4, rfl, hx, hb5⟩
          have hg5 := HGr2.out.below hb5 HGr2.out.lt
          obtain ⟨d0, d1, d2, d3, d4, d5, d6⟩ := hg5.c7
          obtain ⟨z0, z1, z2, z3, z4, z5, z6⟩ := hg5.f7
          have hgl := hg5.lt
          have HG5 := Lib.hid hg5
          have Hx := Lib.hid (hx rfl)
          have H5 := Lib.hid hb5
          clear hx hb5 hg5
          go_wp2_with fail
          obtain ⟨e0, e1, e2, e3, e4, e5, e6⟩ := ((HG5.out.s7 (.bool x.is) (.slice s1.A s1.n s1.c) (.bool y.is) (.slice s2.A s2.n s2.c) (.bool z.is) (.slice s3.A s3.n s3.c) (.slice s4.A s4.n s4.c)).alloc (Obj.cells #[.bool x.is, .slice s1.A s1.n s1.c, .bool y.is, .slice s2.A s2.n s2.c, .bool z.is, .slice s3.A s3.n s3.c, .slice s4.A s4.n s4.c] 73)).c7
          refine bodyPost_ret (v := outv x y z s1 s2 s3 s4) (by simp [results, Try.results25, go_sem, e0, e1, e2, e3, e4, e5, e6]) rfl ?_
          rw [HRk.out]
          exact rule_fin Hbw.out HGr2.out.lt (Nat.le_succ _) HIn.out.pp Hx.out H5.out ..
      · have hc2 := HGf.out.cells 2
        obtain ⟨v, hv⟩ : ∃ v, v = b.same o := ⟨_, rfl⟩
        rw [← hv] at H2
        have Hv := Lib.hid hv
        clear hv
        cases v with
        | false =>
          go_wp2_with fail
          (with_reducible refine H2.out.mono ?_)
          rintro e w5 ⟨x, y, z, s1, s2, s3, s4, rfl, _, hb5⟩
          have H5 := Lib.hid hb5
          clear hb5
          go_wp2_with fail
          go_roundw
          case rel => exact ⟨3, by omega, by go_num, Lib.hid (HBr.out.trans ((H5.out.trans ((Below.refl _ _).alloc (Nat.le_refl _) _ |>.mono H5.out.size)).mono hwr)), Lib.hid ⟨(fun _ => HF.out.1 (by omega)), (fun _ => HF.out.2.1 (by omega)), (fun _ => Hv.out.symm), (fun h => by omega)⟩⟩
          case measure => simp [intOf]
        | true =>
          have HRk := Lib.hid (show R = ⟨a, a, a, []⟩ from by rw [HR.out, if_neg (by rw [HF.out.1 (by omega)]; decide), if_neg (by rw [HF.out.2.1 (by omega)]; decide), if_pos Hv.out.symm])
          go_wp2_with fail
          (with_reducible refine H2.out.mono ?_)
          rintro e w5 ⟨x, y, z, s1, s2, s3, s4, rfl, hx, hb5⟩
          have hg5 := HGr2.out.below hb5 HGr2.out.lt
          obtain ⟨d0, d1, d2, d3, d4, d5, d6⟩ := hg5.c7
          obtain ⟨z0, z1, z2, z3, z4, z5, z6⟩ := hg5.f7
          have hgl := hg5.lt
          have HG5 := Lib.hid hg5
          have Hx := Lib.hid (hx rfl)
          have H5 := Lib.hid hb5
          clear hx hb5 hg5
          go_wp2_with fail
          obtain ⟨e0, e1, e2, e3, e4, e5, e6⟩ := ((HG5.out.s7 (.bool x.is) (.slice s1.A s1.n s1.c) (.bool y.is) (.slice s2.A s2.n s2.c) (.bool z.is) (.slice s3.A s3.n s3.c) (.slice s4.A s4.n s4.c)).alloc (Obj.cells #[.bool x.is, .slice s1.A s1.n s1.c, .bool y.is, .slice s2.A s2.n s2.c, .bool z.is, .slice s3.A s3.n s3.c, .slice s4.A s4.n s4.c] 73)).c7
          refine bodyPost_ret (v := outv x y z s1 s2 s3 s4) (by simp [results, Try.results25, go_sem, e0, e1, e2, e3, e4, e5, e6]) rfl ?_
          rw [HRk.out]
          exact rule_fin Hbw.out HGr2.out.lt (Nat.le_succ _) HIn.out.pp Hx.out H5.out ..
      · have hc3 := HGf.out.cells 3
        obtain ⟨v, hv⟩ : ∃ v, v = (!(a.is && b.is)) := ⟨_, rfl⟩
        rw [← hv] at H3
        have Hv := Lib.hid hv
        clear hv
        cases v with
        | false =>
          go_wp2_with fail
          (with_reducible refine H3.out.mono ?_)
          rintro e w5 ⟨x, y, z, s1, s2, s3, s4, rfl, _, hb5⟩
          have H5 := Lib.hid hb5
          clear hb5
          go_wp2_with fail
          go_roundw
          case rel => exact ⟨4, by omega, by go_num, Lib.hid (HBr.out.trans ((H5.out.trans ((Below.refl _ _).alloc (Nat.le_refl _) _ |>.mono H5.out.size)).mono hwr)), Lib.hid ⟨(fun _ => HF.out.1 (by omega)), (fun _ => HF.out.2.1 (by omega)), (fun _ => HF.out.2.2.1 (by omega)), (fun _ => Hv.out.symm)⟩⟩
          case measure => simp [intOf]
        | true =>
          have HRk := Lib.hid (show R = ⟨o, a, b, [(p, kGone)]⟩ from by rw [HR.out, if_neg (by rw [HF.out.1 (by omega)]; decide), if_neg (by rw [HF.out.2.1 (by omega)]; decide), if_neg (by rw [HF.out.2.2.1 (by omega)]; decide), if_pos (by have := Hv.out; cases ha : a.is <;> cases hb : b.is <;> simp [ha, hb] at this ⊢)])
          go_wp2_with fail
          (with_reducible refine H3.out.mono ?_)
          rintro e w5 ⟨x, y, z, s1, s2, s3, s4, rfl, hx, hb5⟩
          have hg5 := HGr2.out.below hb5 HGr2.out.lt
          obtain ⟨d0, d1, d2, d3, d4, d5, d6⟩ := hg5.c7
          obtain ⟨z0, z1, z2, z3, z4, z5, z6⟩ := hg5.f7
          have hgl := hg5.lt
          have HG5 := Lib.hid hg5
          have Hx := Lib.hid (hx rfl)
          have H5 := Lib.hid hb5
          clear hx hb5 hg5
          go_wp2_with fail
          obtain ⟨e0, e1, e2, e3, e4, e5, e6⟩ := ((HG5.out.s7 (.bool x.is) (.slice s1.A s1.n s1.c) (.bool y.is) (.slice s2.A s2.n s2.c) (.bool z.is) (.slice s3.A s3.n s3.c) (.slice s4.A s4.n s4.c)).alloc (Obj.cells #[.bool x.is, .slice s1.A s1.n s1.c, .bool y.is, .slice s2.A s2.n s2.c, .bool z.is, .slice s3.A s3.n s3.c, .slice s4.A s4.n s4.c] 73)).c7
          refine bodyPost_ret (v := outv x y z s1 s2 s3 s4) (by simp [results, Try.results25, go_sem, e0, e1, e2, e3, e4, e5, e6]) rfl ?_
          rw [HRk.out]
          exact rule_fin Hbw.out HGr2.out.lt (Nat.le_succ _) HIn.out.pp Hx.out H5.out ..
    · obtain rfl : k = 4 := by omega
      have HRk := Lib.hid (show R = byN sc N d p o a b from by
        have h4 : (a.is && b.is) ≠ false := by
          have := HF.out.2.2.2 (by omega)
          simpa using this
        rw [HR.out, if_neg (by rw [HF.out.1 (by omega)]; decide), if_neg (by rw [HF.out.2.1 (by omega)]; decide), if_neg (by rw [HF.out.2.2.1 (by omega)]; decide), if_neg h4])
      obtain ⟨l0, l1, l2, l3, l4, l5, l6, l7, l8⟩ := HGp2.out.c9
      have HBy := Lib.hid (byname_any sc N hN HIH.out S P d p Pp o a b so sa sb wr HIr.out)
      rw [← HRk.out] at HBy
      go_wp2_with fail
      (with_reducible refine HBy.out.mono ?_)
      rintro e w5 ⟨s1, s2, s3, s4, rfl, h1, h2, h3, hb5⟩
      have hg5 := HGr2.out.below hb5 HGr2.out.lt
      obtain ⟨d0, d1, d2, d3, d4, d5, d6⟩ := hg5.c7
      obtain ⟨z0, z1, z2, z3, z4, z5, z6⟩ := hg5.f7
      have HG5 := Lib.hid hg5
      have G1 := Lib.hid h1
      have G2 := Lib.hid h2
      have G3 := Lib.hid h3
      have H5 := Lib.hid hb5
      clear h1 h2 h3 hb5 hg5
      go_wp2_with fail
      obtain ⟨e0, e1, e2, e3, e4, e5, e6⟩ := (HG5.out.s7 (.bool R.o.is) (.slice s1.A s1.n s1.c) (.bool R.a.is) (.slice s2.A s2.n s2.c) (.bool R.b.is) (.slice s3.A s3.n s3.c) (.slice s4.A s4.n s4.c)).c7
      refine bodyPost_ret (v := outv R.o R.a R.b s1 s2 s3 s4) (by simp [results, Try.results25, go_sem, e0, e1, e2, e3, e4, e5, e6]) rfl ?_
      exact kept_fin Hbw.out HGr2.out.lt (Nat.le_succ _) HIn.out.pp G1.out G2.out G3.out H5.out ..

theorem merged_any (sc : List Df) : ∀ N : Nat, N ≤ 900001 → MergedOK sc N
  | 0, _ => fun _ _ _ _ _ _ _ _ _ _ _ _ h => absurd h.sz (Nat.not_lt_zero _)
  | N + 1, hN => fun S P d p Pp o a b so sa sb w h => merged1_any sc N (by omega) (merged_any sc N (by omega)) S P d p Pp o a b so sa sb w h
end Go.Proofs.Ytchoipmfngcdoaa.Mg
