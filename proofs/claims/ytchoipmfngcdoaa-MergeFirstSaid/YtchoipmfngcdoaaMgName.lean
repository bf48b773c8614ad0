/- merge: what comes of the edges, name by name. Conditions: places as PIn says. -/
import Derived.Test.YtchoipmfngcdoaaMwScLevel
import Derived.Test.YtchoipmfngcdoaaNames
import Derived.Outline
namespace Go.Proofs.Ytchoipmfngcdoaa.Mg
open Go.RowKit Go.Proofs.Ytchoipmfngcdoaa.Pt Go.Proofs.Ytchoipmfngcdoaa.Df Go.Proofs.Ytchoipmfngcdoaa.Sc Go.Proofs.Ytchoipmfngcdoaa.Cl
set_option maxRecDepth 100000

/-- What a place needs. -/
structure PIn (sc : List Df) (w : World) (S P : Sl) (p : List ByteArray) (Pp : Nat → Prop) (o a b : Op) (so sa sb : Sl) (N : Nat) : Prop where
  pl : Pl3 w w.heap.size o a b so sa sb
  k : K3 o a b
  ds : Ds w w.heap.size S.A S.n sc
  sn : S.n ≤ 1000000
  fit : FitS sc
  path : PathP w Pp P p
  pp : ∀ b, Pp b → b < w.heap.size
  plen : p.length + N ≤ 1000000
  sz : sz3 o a b < N
theorem PIn.below {sc : List Df} {w w' : World} {S P : Sl} {p : List ByteArray} {Pp : Nat → Prop} {o a b : Op} {so sa sb : Sl} {N : Nat} (h : PIn sc w S P p Pp o a b so sa sb N) (hb : Below w.heap.size w w') : PIn sc w' S P p Pp o a b so sa sb N :=
  ⟨(h.pl.below hb).more hb.size, h.k, (h.ds.below hb).more hb.size, h.sn, h.fit, h.path.keep fun b o hp => hb.cell (p := ⟨b, o, none⟩) (h.pp b hp), fun b hp => Nat.lt_of_lt_of_le (h.pp b hp) hb.size, h.plen, h.sz⟩
def MergedOK (sc : List Df) (N : Nat) : Prop := ∀ (S P : Sl) (d : Int) (p : List ByteArray) (Pp : Nat → Prop) (o a b : Op) (so sa sb : Sl) (w : World), PIn sc w S P p Pp o a b so sa sb N →
  Calls Try.prog 25 #[plv S P d o a b so sa sb] w (OutP w Pp (mrg sc N d p o a b).o (mrg sc N d p o a b).a (mrg sc N d p o a b).b (mrg sc N d p o a b).l)
/-- What comes of the edges. -/
def byN (sc : List Df) (N : Nat) (d : Int) (p : List ByteArray) (o a b : Op) : Mo :=
  if (lvl sc d (edgesOf (fun s => (sub sc N d p o a b s).a) (nsU o.t a.t b.t)) && lvl sc d (edgesOf (fun s => (sub sc N d p o a b s).b) (nsU o.t a.t b.t))) = true then
    ⟨⟨true, edgesOf (fun s => (sub sc N d p o a b s).o) (nsU o.t a.t b.t)⟩, ⟨true, edgesOf (fun s => (sub sc N d p o a b s).a) (nsU o.t a.t b.t)⟩, ⟨true, edgesOf (fun s => (sub sc N d p o a b s).b) (nsU o.t a.t b.t)⟩, (nsU o.t a.t b.t).flatMap fun s => (sub sc N d p o a b s).l⟩
  else ⟨o, a, b, [(p, kShape)]⟩
theorem mrg_eq (sc : List Df) (N : Nat) (d : Int) (p : List ByteArray) (o a b : Op) : mrg sc (N + 1) d p o a b =
    if a.same b = true then ⟨a, a, a, []⟩ else if a.same o = true then ⟨b, b, b, []⟩ else if b.same o = true then ⟨a, a, a, []⟩ else if (a.is && b.is) = false then ⟨o, a, b, [(p, kGone)]⟩ else byN sc N d p o a b := rfl
theorem by_fin {w w1 wr wz : World} {ge gr : Nat} {f : ByteArray → Mo} {l : List ByteArray} {T1 T2 T3 L : Sl} {v1 v2 v3 vl : List Value} {Q : Nat → Prop} {Pp : Nat → Prop} (h : ByI w1 wr ge f l T1 T2 T3 L v1 v2 v3 vl Q) (hw : Below w.heap.size w w1) (hgew : w.heap.size ≤ ge) (hz : Below wr.heap.size wr wz) (hgr : gr < w1.heap.size) (hgw : w.heap.size ≤ gr) (b0 b1 b2 b3 b4 b5 b6 : Value) :
    OutP w Pp ⟨true, edgesOf (fun s => (f s).o) l⟩ ⟨true, edgesOf (fun s => (f s).a) l⟩ ⟨true, edgesOf (fun s => (f s).b) l⟩ (l.flatMap fun s => (f s).l) (.returned (outv ⟨true, edgesOf (fun s => (f s).o) l⟩ ⟨true, edgesOf (fun s => (f s).a) l⟩ ⟨true, edgesOf (fun s => (f s).b) l⟩ T1 T2 T3 L)) (st7 wz gr b0 b1 b2 b3 b4 b5 b6) := by
  have hws := hw.size
  have hms := h.mv.size
  have hzs := hz.size
  have hlt := h.rows.lt
  have hq : ∀ b, Q b → w1.heap.size ≤ b ∧ b < wr.heap.size := fun b hb => ⟨(h.q b hb).1, (h.q b hb).2.1⟩
  have one : ∀ {T : Sl} {vs : List Value} {g : ByteArray → Op}, wr.ownsRow w1.heap.size 51 2 (.slice T.A T.n T.c) T.n vs → KidsL wr Q vs (esOf g l) → OpN w (st7 wz gr b0 b1 b2 b3 b4 b5 b6) T.A T.n T.c ⟨true, edgesOf g l⟩ := fun {T vs g} hr hk => by
    obtain ⟨r1, r2, r3⟩ := row_holds (P := fun b => w1.heap.size ≤ b ∧ b < wr.heap.size) hr hk (fun k e => hr.lt k e) hq
    rw [← edges_ofL] at r1
    exact ⟨((r1.keep fun b o hb => hz.cell (p := ⟨b, o, none⟩) hb.2).keep fun b o hb => keep_s7 wz _ _ _ _ _ _ _ b o (by omega)).more fun b hb => ⟨by omega, by simp; omega⟩, r2, r3⟩
  obtain ⟨c1, c2⟩ := row_cf (P := fun b => w1.heap.size ≤ b ∧ b < wr.heap.size) h.lrow h.cf (fun k e => h.lrow.lt k e) hq
  refine ⟨T1, T2, T3, L, rfl, ⟨one h.rows.r1 h.k1, one h.rows.r2 h.k2, one h.rows.r3 h.k3⟩, ((c1.keep fun b o hb => hz.cell (p := ⟨b, o, none⟩) hb.2).keep fun b o hb => keep_s7 wz _ _ _ _ _ _ _ b o (by omega)).more fun b hb => .inr ⟨by omega, by simp; omega⟩, c2, ?_⟩
  exact below_s7 ((hw.trans (h.mv.toB hws fun k e => by omega)).trans (hz.mono (by omega))) hgw ..
/-- An edge row as a tree. -/
theorem by_holds {w1 wr : World} {ge : Nat} {f : ByteArray → Mo} {l : List ByteArray} {T1 T2 T3 L : Sl} {v1 v2 v3 vl : List Value} {Q : Nat → Prop} (h : ByI w1 wr ge f l T1 T2 T3 L v1 v2 v3 vl Q) : Holds wr wr.heap.size T2.A T2.n (edgesOf (fun s => (f s).a) l) ∧ Holds wr wr.heap.size T3.A T3.n (edgesOf (fun s => (f s).b) l) := by
  have hq : ∀ b, Q b → b < wr.heap.size := fun b hb => (h.q b hb).2.1
  have r2 := (row_holds (P := fun b => b < wr.heap.size) h.rows.r2 h.k2 (fun k e => (h.rows.r2.lt k e).2) hq).1
  have r3 := (row_holds (P := fun b => b < wr.heap.size) h.rows.r3 h.k3 (fun k e => (h.rows.r3.lt k e).2) hq).1
  rw [← edges_ofL] at r2 r3
  exact ⟨r2.to fun _ h => h, r3.to fun _ h => h⟩
/-- What is kept is what comes of the place. -/
theorem kept_fin {w wz w5 : World} {Pp : Nat → Prop} {o a b : Op} {l : List (List ByteArray × Int)} {s1 s2 s3 s4 : Sl} {gr : Nat} (hw : Below w.heap.size w wz) (hgr : gr < wz.heap.size) (hgw : w.heap.size ≤ gr) (hpp : ∀ b, Pp b → b < w.heap.size) (h1 : OpN3 wz w5 o a b s1 s2 s3) (h2 : CfP w5 (fun b => Pp b ∨ (wz.heap.size ≤ b ∧ b < w5.heap.size)) s4 l) (h3 : s4.n ≤ s4.c) (h4 : Below wz.heap.size wz w5) (b0 b1 b2 b3 b4 b5 b6 : Value) :
    OutP w Pp o a b l (.returned (outv o a b s1 s2 s3 s4)) (st7 w5 gr b0 b1 b2 b3 b4 b5 b6) := by
  have hs := hw.size
  refine ⟨s1, s2, s3, s4, rfl, OpN.s7s hs hgr h1 .., ?_, h3, below_s7 (hw.trans (h4.mono hs)) hgw ..⟩
  refine (h2.keep fun b o hp => keep_s7 w5 _ _ _ _ _ _ _ b o ?_).more fun b hp => hp.imp id fun hp => ⟨by omega, by simpa using hp.2⟩
  rcases hp with hp | hp
  · have := hpp b hp; omega
  · omega

set_option maxHeartbeats 16000000 in
theorem byname_any (sc : List Df) (N : Nat) (hN : N ≤ 900000) (IH : MergedOK sc N) (S P : Sl) (d : Int) (p : List ByteArray) (Pp : Nat → Prop) (o a b : Op) (so sa sb : Sl) (w : World) (h : PIn sc w S P p Pp o a b so sa sb (N + 1)) :
    Calls Try.prog 35 #[plv S P d o a b so sa sb] w (OutP w Pp (byN sc N d p o a b).o (byN sc N d p o a b).a (byN sc N d p o a b).b (byN sc N d p o a b).l) := by
  obtain ⟨W1, hW1, hb1, hz1, g1⟩ := box1 w (plc S P d o a b so sa sb) 75
  obtain ⟨W2, hW2, hb2, hz2, g2, g3⟩ := boxes2 W1 zs7 zs3 73 96
  obtain ⟨W3, hW3, hb3, hz3, g4⟩ := box1 W2 [.slice so.A so.n so.c, .slice sa.A sa.n sa.c, .slice sb.A sb.n sb.c] 24
  rw [hz1] at g2 g3
  have hb12 := hb1.trans (hb2.mono hb1.size)
  have hb13 := hb12.trans (hb3.mono hb12.size)
  have hz : W3.heap.size = w.heap.size + 4 := by omega
  have g1 := (g1.below hb2 (by omega)).below hb3 (by omega)
  have g2 := g2.below hb3 (by omega)
  have g3 := g3.below hb3 (by omega)
  have hsz3 := h.sz
  have hplen := h.plen
  have hF : Forest W3 W3.heap.size (some ⟨W2.heap.size, 0, none⟩) [⟨so.A, so.n, so.c, o.t⟩, ⟨sa.A, sa.n, sa.c, a.t⟩, ⟨sb.A, sb.n, sb.c, b.t⟩] := by
    have hpl := (h.pl.below hb13).more hb13.size
    intro j x hx
    match j, hx with
    | 0, hx => simp at hx; subst hx; exact ⟨_, _, rfl, by omega, g4.cells 0, hpl.ho.hold⟩
    | 1, hx => simp at hx; subst hx; exact ⟨_, _, rfl, by omega, g4.cells 1, hpl.ha.hold⟩
    | 2, hx => simp at hx; subst hx; exact ⟨_, _, rfl, by omega, g4.cells 2, hpl.hb.hold⟩
    | j + 3, hx => simp at hx
  have hNm := names_any _ (some ⟨W2.heap.size, 0, none⟩) 3 3 W3.heap.size W3 hF rfl (Nat.le_refl _) (by
    have e1 := o.t.len_size
    have e2 := a.t.len_size
    have e3 := b.t.len_size
    have := names_length o.t
    have := names_length a.t
    have := names_length b.t
    unfold sz3 at hsz3
    simp [allNames]
    omega) (by simp)
  have hall : allNames [(⟨so.A, so.n, so.c, o.t⟩ : Slc), ⟨sa.A, sa.n, sa.c, a.t⟩, ⟨sb.A, sb.n, sb.c, b.t⟩] = o.t.names ++ (a.t.names ++ b.t.names) := by simp [allNames]
  rw [hall, ns_encs3, ns_len3] at hNm
  have hW2s : W2.heap.size = w.heap.size + 3 := by omega
  rw [hW2s] at hNm
  have HNm := Lib.hid hNm
  have Hnl := Lib.hid (nsU_len o a b)
  obtain ⟨ns, hns⟩ : ∃ ns, ns = nsU o.t a.t b.t := ⟨_, rfl⟩
  rw [← hns] at HNm Hnl
  have Hns := Lib.hid hns
  have HIn := Lib.hid h
  have HB3 := Lib.hid hb13
  have Hz := Lib.hid hz
  have HG1 := Lib.hid g1
  have HG2 := Lib.hid g2
  have HG3 := Lib.hid g3
  have Hsz3 := Lib.hid hsz3
  obtain ⟨R, hR⟩ : ∃ R, R = byN sc N d p o a b := ⟨_, rfl⟩
  rw [← hR]
  have HR := Lib.hid hR
  have HIH := Lib.hid IH
  have l0 := g1.c9
  clear hNm hF hall hns hR h hb1 hb2 hb3 hb12 hb13 hz1 hz2 hz3 hz g1 g2 g3 g4 hsz3 IH hplen hW2s
  obtain ⟨p0, p1, p2, p3, p4, p5, p6, p7, p8⟩ := l0
  go_enter Try.func35, Try.ntmps35
  go_wp2_with fail
  rw [← hW1, ← hW2, ← hW3]
  (with_reducible refine HNm.out.mono ?_)
  rintro e w1 ⟨A1, c1, rfl, hs1, hb1⟩
  have HS1 := Lib.hid hs1
  have HB1 := Lib.hid hb1
  obtain ⟨nn, hnn⟩ : ∃ nn, nn = ns.length := ⟨_, rfl⟩
  rw [← hnn] at HS1
  rw [← hnn]
  have Hnn := Lib.hid hnn
  have hnb : nn ≤ 1000000 := by have := Hnl.out; have := Hsz3.out; omega
  have HGe := Lib.hid (HG3.out.below hb1 HG3.out.lt)
  have HGr := Lib.hid (HG2.out.below hb1 HG2.out.lt)
  have HGp := Lib.hid (HG1.out.below hb1 HG1.out.lt)
  clear hs1 hb1 hnn p0 p1 p2 p3 p4 p5 p6 p7 p8 hW1 hW2 hW3 HNm HG1 HG2 HG3
  go_wp2_with fail
  go_loopw [4, 23] (fun lv i wr => ∃ (k : Nat) (T1 T2 T3 L : Sl) (v1 v2 v3 vl : List Value) (Q : Nat → Prop), k ≤ nn ∧ i = .int .i64 k ∧ lv = .slice L.A L.n L.c ∧ Hid (ByI w1 wr (w.heap.size + 1 + 1) (sub sc N d p o a b) (ns.take k) T1 T2 T3 L v1 v2 v3 vl Q)) (fun _ i _ => nn - (intOf i).toNat)
  case atStart => exact ⟨0, nil4, nil4, nil4, nil4, [], [], [], [], fun _ => False, Nat.zero_le _, rfl, rfl, Lib.hid (ByI.start HGe.out)⟩
  case round =>
    obtain ⟨k, T1, T2, T3, L, v1, v2, v3, vl, Q, hk, rfl, rfl, HI⟩ := hrel
    have hw1 := HB1.out.size
    have hzz := Hz.out
    have hwr := HI.out.mv.size
    by_cases hlt : k < nn
    · obtain ⟨bs, os, rfl, hbs, hcs⟩ := HS1.out.str hlt
      have hkl : k < ns.length := by have := Hnn.out; omega
      obtain ⟨s, hs⟩ : ∃ s, s = ns.getD k ⟨#[]⟩ := ⟨_, rfl⟩
      rw [← hs] at hcs
      have hsk : ns[k]? = some s := by rw [hs, List.getD, List.getElem?_eq_getElem hkl]; rfl
      have hmem : s ∈ nsU o.t a.t b.t := by rw [← Hns.out]; exact List.mem_of_getElem? hsk
      have hbne : bs ≠ w.heap.size + 1 + 1 := fun e => by
        subst e
        have h1 := (HGe.out.cells (os + k)).symm.trans hcs
        have h2 := List.mem_of_getElem? h1
        simp [zs3] at h2
      have hcw := (HI.out.mv.cell (os + k) hbs hbne).trans hcs
      have hgl : w.heap.size + 1 + 1 < w1.heap.size := by omega
      have htk : ns.take (k + 1) = ns.take k ++ [s] := by rw [List.take_add_one, hsk]; rfl
      obtain ⟨p0, p1, p2, p3, p4, p5, p6, p7, p8⟩ := (HI.out.mv.bx HGp.out (by omega)).c9
      have hbwr : Below w.heap.size w wr := (HB3.out.trans (HB1.out.mono HB3.out.size)).trans (HI.out.mv.toB (Nat.le_trans HB3.out.size hw1) fun k e => by omega)
      obtain ⟨W5, hW5, hb5, hz5, g5⟩ := box1 wr [.string s] 9
      have hIn5 := HIn.out.below (hbwr.trans (hb5.mono hbwr.size))
      have HPB := Lib.hid (pbelow_any sc S P d p o a b s so sa sb W5 hIn5.pl hIn5.k hIn5.ds (hIn5.path.sees hIn5.pp) (by have := hIn5.plen; omega) hIn5.sn)
      have hkn : (k : Int) < (nn : Int) := by omega
      have hk0 : (0 : Int) ≤ (k : Int) := by omega
      have hbsr : bs < wr.heap.size := Nat.lt_of_lt_of_le hbs hwr
      have hgpr : w.heap.size < wr.heap.size := by omega
      have Hsk := Lib.hid hsk
      have Hmem := Lib.hid hmem
      have Htk := Lib.hid htk
      have Hlt := Lib.hid hlt
      have HIn5 := Lib.hid hIn5
      have Hb5 := Lib.hid hb5
      have Hg5 := Lib.hid g5
      have Hz5 := Lib.hid hz5
      have Hgl := Lib.hid hgl
      clear hs hcs hsk hmem hbne hgl htk hbwr hIn5 hb5 g5 hz5 hlt hkl
      go_wp2_with fail
      rw [← hW5]
      (with_reducible refine HPB.out.mono ?_)
      rintro e w6 ⟨P', s1, s2, s3, rfl, hpath, hn3, hb6⟩
      have HM := Lib.hid (HIH.out S P' (toS sc d s.data.toList) (p ++ [s]) (fun b => W5.heap.size ≤ b ∧ b < w6.heap.size) (o.below s) (a.below s) (b.below s) s1 s2 s3 w6
        ⟨⟨hn3.1.toB fun _ h => h.2, hn3.2.1.toB fun _ h => h.2, hn3.2.2.toB fun _ h => h.2⟩, ⟨HIn.out.k.o.below s, HIn.out.k.a.below s, HIn.out.k.b.below s⟩, (HIn5.out.ds.below hb6).more hb6.size, HIn.out.sn, HIn.out.fit, hpath, fun _ h => h.2, by have := HIn.out.plen; simp; omega, by have := below_sz HIn.out.k Hmem.out; have := Hsz3.out; omega⟩)
      obtain ⟨m, hm⟩ : ∃ m, m = sub sc N d p o a b s := ⟨_, rfl⟩
      have hm2 : mrg sc N (toS sc d s.data.toList) (p ++ [s]) (o.below s) (a.below s) (b.below s) = m := by rw [hm]; rfl
      rw [hm2] at HM
      have Hm := Lib.hid hm
      have Hb6 := Lib.hid hb6
      clear hpath hn3 hb6 hm hm2
      go_wp2_with fail
      (with_reducible refine HM.out.mono ?_)
      rintro e w7 ⟨t1, t2, t3, t4, rfl, hn7, hcf7, hcap7, hb7⟩
      obtain ⟨W8, hW8, hb8, hz8, g8⟩ := box1 w7 [.bool m.o.is, .slice t1.A t1.n t1.c, .bool m.a.is, .slice t2.A t2.n t2.c, .bool m.b.is, .slice t3.A t3.n t3.c, .slice t4.A t4.n t4.c] 73
      have hb56 : Below wr.heap.size wr w6 := Hb5.out.trans (Hb6.out.mono Hb5.out.size)
      have hb57 : Below wr.heap.size wr w7 := hb56.trans (hb7.mono hb56.size)
      have hb58 : Below wr.heap.size wr W8 := hb57.trans (hb8.mono hb57.size)
      have h5s := Hb5.out.size
      have h6s := Hb6.out.size
      have h7s := hb7.size
      have h8s := hb8.size
      have hlt3 := HI.out.rows.lt
      have hltL := fun k e => (HI.out.lrow.lt k e)
      have hg5r : Bx W8 wr.heap.size [.string s] 9 := ((Hg5.out.below Hb6.out (by have := Hz5.out; omega)).below hb7 (by have := Hz5.out; omega)).below hb8 (by have := Hz5.out; omega)
      have hn8 : OpN3 wr W8 m.o m.a m.b t1 t2 t3 := OpN3.grow (w1 := w6) hn7 (by omega) hb8
      have hcf8 : CfP W8 (fun b => wr.heap.size ≤ b ∧ b < W8.heap.size) t4 m.l := (hcf7.more (P' := fun b => wr.heap.size ≤ b ∧ b < w7.heap.size) fun b hb => by rcases hb with hb | hb <;> omega).keep (fun b o hb => hb8.cell (p := ⟨b, o, none⟩) hb.2) |>.more fun b hb => by omega
      have HJ := Lib.hid (joined_any T1 T2 T3 t1 t2 t3 v1 v2 v3 s m.o m.a m.b w1.heap.size wr.heap.size W8 (HI.out.rows.mv (Mv.of hb58 (fun _ => False)) fun _ _ => id) (by omega) (by have := HI.out.n1; have := List.length_take_le k ns; omega) (by have := HI.out.n1; have := List.length_take_le k ns; omega) (by have := HI.out.n1; have := List.length_take_le k ns; omega) (hg5r.cells 0) (fun e => by have := hlt3 _ e; omega))
      have b7 := (HI.out.box.below hb57 (by have := Hgl.out; omega))
      obtain ⟨q0, q1, q2⟩ := b7.c3
      have hgl7 : w.heap.size + 1 + 1 < w7.heap.size := by have := Hgl.out; omega
      have Hb58 := Lib.hid hb58
      have Hn8 := Lib.hid hn8
      have Hcf8 := Lib.hid hcf8
      have Hg8 := Lib.hid g8
      have HB7 := Lib.hid b7
      have Hb8 := Lib.hid hb8
      have Hz8 := Lib.hid hz8
      have Hcl := Lib.hid (show L.n + t4.n ≤ 1099511627776 from by
        have h1 := (own_cells HI.out.lrow).1
        have h2 := HI.out.cf.len
        have h3 := hcf7.len
        have h4 := take_len (S := sc) (N := N) (d := d) (p := p) HIn.out.k (k + 1)
        rw [← Hns.out, Htk.out, List.flatMap_append, List.length_append] at h4
        have h5 : ([s].flatMap fun s => (sub sc N d p o a b s).l) = m.l := by simp [Hm.out]
        rw [h5] at h4
        have := Hsz3.out
        omega)
      clear hb56 hb57 hb58 hn7 hcf7 hcap7 hb7 hn8 hcf8 hg5r b7 hlt3 hltL g8 hb8 hz8 h8s p0 p1 p2 p3 p4 p5 p6 p7 p8
      go_wp2_with fail
      rw [← hW8]
      (with_reducible refine HJ.out.mono ?_)
      rintro e w9 ⟨U1, U2, U3, rfl, hr9, hm9, hat9, hu1, hu2, hu3⟩
      obtain ⟨wc, hwc⟩ : ∃ wc, wc = st3 w9 (w.heap.size + 1 + 1) (.slice U1.A U1.n U1.c) (.slice U2.A U2.n U2.c) (.slice U3.A U3.n U3.c) := ⟨_, rfl⟩
      have h9s := hm9.size
      have h8s := Hb8.out.size
      have hlt3 := HI.out.rows.lt
      have hltL := fun k e => (HI.out.lrow.lt k e)
      have hgl := Hgl.out
      have h58s := Hb58.out.size
      have hne3 : ¬ Own3 T1 T2 T3 (w.heap.size + 1 + 1) := fun e => by have := hlt3 _ e; omega
      have hb9 := hm9.bx (HB7.out.below Hb8.out hgl7) hne3
      obtain ⟨d0, d1, d2⟩ := hb9.c3
      obtain ⟨z0, z1, z2⟩ := hb9.f3
      have hgx : w7.heap.size ≠ w.heap.size + 1 + 1 := by omega
      have hg9 := hm9.bx Hg8.out (fun e => by have := hlt3 _ e; omega)
      have hc6 : (st3 w9 (w.heap.size + 1 + 1) (.slice U1.A U1.n U1.c) (.slice U2.A U2.n U2.c) (.slice U3.A U3.n U3.c)).cell? ⟨w7.heap.size, 6, none⟩ = some (.slice t4.A t4.n t4.c) := (keep_s3 w9 _ _ _ _ _ hgx).trans (hg9.cells 6)
      have hc6' : w9.cell? ⟨w7.heap.size, 6, none⟩ = some (.slice t4.A t4.n t4.c) := hg9.cells 6
      have hgx' : ¬ w.heap.size + 1 + 1 = w7.heap.size := fun e => hgx e.symm
      have hmc : Mv w9 wc (fun k => k = w.heap.size + 1 + 1) := by rw [hwc]; exact Mv.s3 w9 _ _ _
      have hcs9 : wc.heap.size = w9.heap.size := by rw [hwc]; simp
      have keepc : ∀ b o, (wr.heap.size ≤ b ∧ b < W8.heap.size) → wc.cell? ⟨b, o, none⟩ = W8.cell? ⟨b, o, none⟩ := fun b o hb => by
        rw [hmc.cell o (by omega) (by omega), hm9.cell o hb.2 (fun e => by have := hlt3 _ e; omega)]
      obtain ⟨ys, hy1, hy2⟩ := (Hcf8.out.keep keepc).src
      have hcf : CfL W8 (fun b => wr.heap.size ≤ b ∧ b < W8.heap.size) ys m.l := hy1.keep (fun b o hb => (keepc b o hb).symm) fun _ => id
      have hLo : wc.ownsRow w1.heap.size 38 2 (.slice L.A L.n L.c) L.n vl := hmc.row (hm9.row ((Mv.of Hb58.out (fun _ => False)).row HI.out.lrow fun _ _ => id) HI.out.loff) fun k e e2 => by have := hltL k e; omega
      have hbc : w1.heap.size ≤ wc.heap.size := by omega
      have Hr9 := Lib.hid hr9
      have Hm9 := Lib.hid hm9
      have Hat9 := Lib.hid hat9
      have Hu := Lib.hid (show U1.n ≤ T1.n + 1 ∧ U2.n ≤ T2.n + 1 ∧ U3.n ≤ T3.n + 1 from ⟨hu1, hu2, hu3⟩)
      have Hcf := Lib.hid hcf
      clear hr9 hm9 hat9 hu1 hu2 hu3 h9s h8s hlt3 hltL h58s hne3 hb9 hg9 hmc hcs9 keepc hy1 hcf q0 q1 q2
      subst hwc
      have hLo' := hLo
      have hy2' := hy2
      go_wp2_with (at_builtin; refine wpList_append_row rfl (.tmp 36) (.tmp 38) _ _ rfl elem_cf rfl rfl hLo hy2 Hcl.out hbc ?_; intro A6 c6 w10 ho10 hg10 hat10)
      have HI2 := Lib.hid (ByI.step (M := ⟨A6, L.n + t4.n, c6⟩) HI.out Hm.out.symm Hgl.out Hb58.out Hn8.out.1 Hn8.out.2.1 Hn8.out.2.2 Hcf.out Hr9.out Hm9.out Hat9.out Hu.out.1 Hu.out.2.1 Hu.out.2.2 rfl ho10 (Mv.grown hg10) (own_hat hat10))
      rw [← Htk.out] at HI2
      clear ho10 hg10 hat10
      go_wp2_with fail
      go_roundw
      case rel => exact ⟨k + 1, U1, U2, U3, ⟨A6, L.n + t4.n, c6⟩, _, _, _, _, _, Hlt.out, by go_num, rfl, HI2⟩
      case measure => have := Hlt.out; simp [intOf]; omega
    · obtain rfl : k = nn := by omega
      have hfull : ns.take k = ns := List.take_of_length_le (by rw [Hnn.out]; exact Nat.le_refl _)
      rw [hfull, Hns.out] at HI
      have hww : Below w.heap.size w wr := (HB3.out.trans (HB1.out.mono HB3.out.size)).trans (HI.out.mv.toB (Nat.le_trans HB3.out.size hw1) fun k e => by omega)
      obtain ⟨ea, hea⟩ : ∃ t, t = edgesOf (fun s => (sub sc N d p o a b s).a) (nsU o.t a.t b.t) := ⟨_, rfl⟩
      obtain ⟨eb, heb⟩ : ∃ t, t = edgesOf (fun s => (sub sc N d p o a b s).b) (nsU o.t a.t b.t) := ⟨_, rfl⟩
      obtain ⟨hh2, hh3⟩ := by_holds HI.out
      rw [← hea] at hh2
      rw [← heb] at hh3
      have hInr := HIn.out.below hww
      have hn1 := HI.out.n1
      have hnl := Hnl.out
      have hszz := Hsz3.out
      rw [Hns.out] at hnl
      have HF1 := Lib.hid (pfits_any sc S P d o a b so sa sb ea T2.A T2.n T2.c wr hInr.ds hInr.fit hInr.sn hh2 (by omega))
      have HF2 := Lib.hid (fun (W : World) (hW : Below wr.heap.size wr W) => pfits_any sc S P d o a b so sa sb eb T3.A T3.n T3.c W ((hInr.ds.below hW).more hW.size) hInr.fit hInr.sn ((hh3.below hW).more hW.size) (by omega))
      have HKp := Lib.hid (fun (W : World) (hW : Below wr.heap.size wr W) => kept_any S P d 2 p Pp o a b so sa sb W ((hInr.pl.below hW).more hW.size) hInr.k (hInr.path.keep fun b o hp => hW.cell (p := ⟨b, o, none⟩) (hInr.pp b hp)) fun b hp => Nat.lt_of_lt_of_le (hInr.pp b hp) hW.size)
      have HGP := Lib.hid (fun (W : World) (hW : Below wr.heap.size wr W) => (HI.out.mv.bx HGp.out (by omega)).below hW (HI.out.mv.bx HGp.out (by omega)).lt)
      have HGR := Lib.hid (fun (W : World) (hW : Below wr.heap.size wr W) => (HI.out.mv.bx HGr.out (by omega)).below hW (HI.out.mv.bx HGr.out (by omega)).lt)
      have HGE := Lib.hid (fun (W : World) (hW : Below wr.heap.size wr W) => HI.out.box.below hW HI.out.box.lt)
      have HRR := Lib.hid (show R = if (lvl sc d ea && lvl sc d eb) = true then (⟨⟨true, edgesOf (fun s => (sub sc N d p o a b s).o) (nsU o.t a.t b.t)⟩, ⟨true, ea⟩, ⟨true, eb⟩, (nsU o.t a.t b.t).flatMap fun s => (sub sc N d p o a b s).l⟩ : Mo) else ⟨o, a, b, [(p, kShape)]⟩ from by rw [HR.out, hea, heb]; rfl)
      obtain ⟨va, hva⟩ : ∃ v, v = lvl sc d ea := ⟨_, rfl⟩
      obtain ⟨vb, hvb⟩ : ∃ v, v = lvl sc d eb := ⟨_, rfl⟩
      rw [← hva, ← hvb] at HRR
      rw [← hva] at HF1
      rw [← hvb] at HF2
      have Hww := Lib.hid hww
      have Hea := Lib.hid hea
      have Heb := Lib.hid heb
      obtain ⟨p0, p1, p2, p3, p4, p5, p6, p7, p8⟩ := (HGP.out wr (Below.refl _ _)).c9
      obtain ⟨q0, q1, q2⟩ := (HGE.out wr (Below.refl _ _)).c3
      have hgl : w.heap.size + 1 < w1.heap.size := by omega
      have Hgl := Lib.hid hgl
      clear hfull hww hea heb hh2 hh3 hInr hn1 hnl hszz hva hvb hlt hgl
      cases va with
      | false =>
        have HRf := Lib.hid (show R = ⟨o, a, b, [(p, kShape)]⟩ from by rw [HRR.out]; rfl)
        clear HRR HF2
        go_wp2_with fail
        (with_reducible refine HF1.out.mono ?_)
        rintro e WW ⟨rfl, hWW⟩
        have HWW := Lib.hid hWW
        clear hWW p0 p1 p2 p3 p4 p5 p6 p7 p8 q0 q1 q2
        obtain ⟨l0, l1, l2, l3, l4, l5, l6, l7, l8⟩ := (HGP.out WW HWW.out).c9
        have HK := Lib.hid (HKp.out WW HWW.out)
        go_wp2_with fail
        (with_reducible refine HK.out.mono ?_)
        rintro e wz ⟨s1, s2, s3, s4, rfl, h1, h2, h3, hbz⟩
        have hgz := (HGR.out WW HWW.out).below hbz (HGR.out WW HWW.out).lt
        obtain ⟨d0, d1, d2, d3, d4, d5, d6⟩ := hgz.c7
        obtain ⟨z0, z1, z2, z3, z4, z5, z6⟩ := hgz.f7
        have HGz := Lib.hid hgz
        have H1 := Lib.hid h1
        have H2 := Lib.hid h2
        have H3 := Lib.hid h3
        have HBz := Lib.hid hbz
        clear h1 h2 h3 hbz hgz HK
        go_wp2_with fail
        obtain ⟨e0, e1, e2, e3, e4, e5, e6⟩ := (HGz.out.s7 (.bool o.is) (.slice s1.A s1.n s1.c) (.bool a.is) (.slice s2.A s2.n s2.c) (.bool b.is) (.slice s3.A s3.n s3.c) (.slice s4.A s4.n s4.c)).c7
        refine bodyPost_ret (v := outv o a b s1 s2 s3 s4) (by simp [results, Try.results35, go_sem, e0, e1, e2, e3, e4, e5, e6]) rfl ?_
        rw [HRf.out]
        exact kept_fin (Hww.out.trans (HWW.out.mono Hww.out.size)) (HGR.out WW HWW.out).lt (Nat.le_succ _) HIn.out.pp H1.out H2.out H3.out HBz.out ..
      | true =>
        go_wp2_with fail
        (with_reducible refine HF1.out.mono ?_)
        rintro e WV ⟨rfl, hWV⟩
        have HWV := Lib.hid hWV
        clear hWV p0 p1 p2 p3 p4 p5 p6 p7 p8 q0 q1 q2
        obtain ⟨p0, p1, p2, p3, p4, p5, p6, p7, p8⟩ := (HGP.out WV HWV.out).c9
        obtain ⟨q0, q1, q2⟩ := (HGE.out WV HWV.out).c3
        have HF3 := Lib.hid (HF2.out WV HWV.out)
        go_wp2_with fail
        (with_reducible refine HF3.out.mono ?_)
        rintro e WW ⟨rfl, hWW⟩
        have HWW := Lib.hid (show Below wr.heap.size wr WW from HWV.out.trans (hWW.mono HWV.out.size))
        clear hWW p0 p1 p2 p3 p4 p5 p6 p7 p8 q0 q1 q2 HF3 HF2
        cases vb with
        | false =>
          have HRf := Lib.hid (show R = ⟨o, a, b, [(p, kShape)]⟩ from by rw [HRR.out]; rfl)
          clear HRR
          obtain ⟨l0, l1, l2, l3, l4, l5, l6, l7, l8⟩ := (HGP.out WW HWW.out).c9
          have HK := Lib.hid (HKp.out WW HWW.out)
          go_wp2_with fail
          (with_reducible refine HK.out.mono ?_)
          rintro e wz ⟨s1, s2, s3, s4, rfl, h1, h2, h3, hbz⟩
          have hgz := (HGR.out WW HWW.out).below hbz (HGR.out WW HWW.out).lt
          obtain ⟨d0, d1, d2, d3, d4, d5, d6⟩ := hgz.c7
          obtain ⟨z0, z1, z2, z3, z4, z5, z6⟩ := hgz.f7
          have HGz := Lib.hid hgz
          have H1 := Lib.hid h1
          have H2 := Lib.hid h2
          have H3 := Lib.hid h3
          have HBz := Lib.hid hbz
          clear h1 h2 h3 hbz hgz HK
          go_wp2_with fail
          obtain ⟨e0, e1, e2, e3, e4, e5, e6⟩ := (HGz.out.s7 (.bool o.is) (.slice s1.A s1.n s1.c) (.bool a.is) (.slice s2.A s2.n s2.c) (.bool b.is) (.slice s3.A s3.n s3.c) (.slice s4.A s4.n s4.c)).c7
          refine bodyPost_ret (v := outv o a b s1 s2 s3 s4) (by simp [results, Try.results35, go_sem, e0, e1, e2, e3, e4, e5, e6]) rfl ?_
          rw [HRf.out]
          exact kept_fin (Hww.out.trans (HWW.out.mono Hww.out.size)) (HGR.out WW HWW.out).lt (Nat.le_succ _) HIn.out.pp H1.out H2.out H3.out HBz.out ..
        | true =>
          have HRt := Lib.hid (show R = (⟨⟨true, edgesOf (fun s => (sub sc N d p o a b s).o) (nsU o.t a.t b.t)⟩, ⟨true, ea⟩, ⟨true, eb⟩, (nsU o.t a.t b.t).flatMap fun s => (sub sc N d p o a b s).l⟩ : Mo) from by rw [HRR.out]; rfl)
          clear HRR HKp
          obtain ⟨q0, q1, q2⟩ := (HGE.out WW HWW.out).c3
          have HE := Lib.hid (eachw_any T1 T2 T3 WW)
          go_wp2_with fail
          (with_reducible refine HE.out.mono ?_)
          rintro e wz ⟨rfl, hbz⟩
          have hgz := (HGR.out WW HWW.out).below hbz (HGR.out WW HWW.out).lt
          obtain ⟨d0, d1, d2, d3, d4, d5, d6⟩ := hgz.c7
          obtain ⟨z0, z1, z2, z3, z4, z5, z6⟩ := hgz.f7
          have HGz := Lib.hid hgz
          have HBz := Lib.hid (show Below wr.heap.size wr wz from HWW.out.trans (hbz.mono HWW.out.size))
          clear hbz hgz HE q0 q1 q2
          go_wp2_with fail
          obtain ⟨e0, e1, e2, e3, e4, e5, e6⟩ := (HGz.out.s7 (.bool true) (.slice T1.A T1.n T1.c) (.bool true) (.slice T2.A T2.n T2.c) (.bool true) (.slice T3.A T3.n T3.c) (.slice L.A L.n L.c)).c7
          refine bodyPost_ret (v := outv ⟨true, .nil⟩ ⟨true, .nil⟩ ⟨true, .nil⟩ T1 T2 T3 L) (by simp [results, Try.results35, go_sem, e0, e1, e2, e3, e4, e5, e6]) rfl ?_
          have hF := by_fin (gr := w.heap.size + 1) (Pp := Pp) HI.out (HB3.out.trans (HB1.out.mono HB3.out.size)) (by omega) HBz.out Hgl.out (Nat.le_succ _) (.bool true) (.slice T1.A T1.n T1.c) (.bool true) (.slice T2.A T2.n T2.c) (.bool true) (.slice T3.A T3.n T3.c) (.slice L.A L.n L.c)
          rw [← Hea.out, ← Heb.out] at hF
          rw [HRt.out]
          exact hF
end Go.Proofs.Ytchoipmfngcdoaa.Mg
