/- merge: what is made of each of three; what is kept. Conditions: fewer than 2^38 edges, in order. · merge: what is below a name. Conditions: fewer than 2^38 edges, in order. · Rows joined: the answer is a row of its own. Conditions: fewer than 2^40 of them. · schema.edgeOf and what it hands out: whether a name is that of one of a tree's edges; schema.every of strings with it. Conditions: slices no longer than slices can be. · schema.numbered, counted, To; Level's closures; every of edges, of fields. Conditions: slices no longer than slices can be. -/
import Derived.Test.YtchoipmfngcdoaaMwMgBox
import Derived.Test.YtchoipmfngcdoaaMwDfMend
import Derived.Test.YtchoipmfngcdoaaMwScMath
import Derived.Outline
import Derived.Deep.RegionHeld3
namespace Go.Proofs.Ytchoipmfngcdoaa.Mg
open Go.RowKit Go.Proofs.Ytchoipmfngcdoaa.Pt Go.Proofs.Ytchoipmfngcdoaa.Df Go.Proofs.Ytchoipmfngcdoaa.Sc Go.Proofs.Ytchoipmfngcdoaa.Cl
set_option maxRecDepth 100000

abbrev zs6 : List Value := [.bool false, .slice none 0 0, .bool false, .slice none 0 0, .bool false, .slice none 0 0]
/-- Three answers, one behind the other. -/
theorem fin3 {w w0 w1 w2 w3 : World} {x y z : Op} {s1 s2 s3 : Sl} (hb : Below w.heap.size w w0) (hb1 : Below w0.heap.size w0 w1) (hb2 : Below w1.heap.size w1 w2) (hb3 : Below w2.heap.size w2 w3) (h1 : OpN w0 w1 s1.A s1.n s1.c x) (h2 : OpN w1 w2 s2.A s2.n s2.c y) (h3 : OpN w2 w3 s3.A s3.n s3.c z) :
    (OpN w0 w3 s1.A s1.n s1.c x ∧ OpN w0 w3 s2.A s2.n s2.c y ∧ OpN w0 w3 s3.A s3.n s3.c z) ∧ Below w.heap.size w w3 :=
  ⟨⟨OpN.grow h1 (Nat.le_refl _) (hb2.trans (hb3.mono hb2.size)), OpN.grow h2 hb1.size hb3, OpN.grow h3 (Nat.le_trans hb1.size hb2.size) (Below.refl _ _)⟩, hb.trans ((hb1.trans ((hb2.trans (hb3.mono hb2.size)).mono hb1.size)).mono hb.size)⟩
theorem OpN.s6s {w w0 w3 : World} {x y z : Op} {s1 s2 s3 : Sl} {g : Nat} (hb : w.heap.size ≤ w0.heap.size) (hg : g < w0.heap.size) (h : OpN w0 w3 s1.A s1.n s1.c x ∧ OpN w0 w3 s2.A s2.n s2.c y ∧ OpN w0 w3 s3.A s3.n s3.c z) (b0 b1 b2 b3 b4 b5 : Value) : OpN3 w (st6 w3 g b0 b1 b2 b3 b4 b5) x y z s1 s2 s3 :=
  ⟨h.1.s6 hb hg .., h.2.1.s6 hb hg .., h.2.2.s6 hb hg ..⟩
theorem each_fin {w W2 w0 w3 : World} {x y z : Op} {s1 s2 s3 : Sl} {g : Nat} {b0 b1 b2 b3 b4 b5 : Value} (hb : Below w.heap.size w W2) (hgw : w.heap.size ≤ g) (hg : g < w0.heap.size) (h : (OpN w0 w3 s1.A s1.n s1.c x ∧ OpN w0 w3 s2.A s2.n s2.c y ∧ OpN w0 w3 s3.A s3.n s3.c z) ∧ Below W2.heap.size W2 w3) : ThreeP w x y z (.returned (o3v x y z s1 s2 s3)) (st6 w3 g b0 b1 b2 b3 b4 b5) :=
  ⟨s1, s2, s3, rfl, OpN.s6s (Nat.le_trans hgw (Nat.le_of_lt hg)) hg h.1 .., below_s6 (hb.trans (h.2.mono hb.size)) hgw ..⟩
theorem keep6 {w W W' : World} {a0 a1 a2 a3 a4 a5 : Value} (hl : W.cell? ⟨w.heap.size, 0, none⟩ = some a0 ∧ W.cell? ⟨w.heap.size, 1, none⟩ = some a1 ∧ W.cell? ⟨w.heap.size, 2, none⟩ = some a2 ∧ W.cell? ⟨w.heap.size, 3, none⟩ = some a3 ∧ W.cell? ⟨w.heap.size, 4, none⟩ = some a4 ∧ W.cell? ⟨w.heap.size, 5, none⟩ = some a5) (hw : ∀ j, W'.cell? ⟨w.heap.size, j, none⟩ = W.cell? ⟨w.heap.size, j, none⟩) : W'.cell? ⟨w.heap.size, 0, none⟩ = some a0 ∧ W'.cell? ⟨w.heap.size, 1, none⟩ = some a1 ∧ W'.cell? ⟨w.heap.size, 2, none⟩ = some a2 ∧ W'.cell? ⟨w.heap.size, 3, none⟩ = some a3 ∧ W'.cell? ⟨w.heap.size, 4, none⟩ = some a4 ∧ W'.cell? ⟨w.heap.size, 5, none⟩ = some a5 :=
  ⟨(hw 0).trans hl.1, (hw 1).trans hl.2.1, (hw 2).trans hl.2.2.1, (hw 3).trans hl.2.2.2.1, (hw 4).trans hl.2.2.2.2.1, (hw 5).trans hl.2.2.2.2.2⟩

set_option maxHeartbeats 4000000 in
theorem eachf_any (o a b : Op) (so sa sb : Sl) (w : World) (h : Pl3 w w.heap.size o a b so sa sb) (hk : K3 o a b) :
    Calls Try.prog 53 #[o3v o a b so sa sb, .func (.func 51) #[] #[]] w (ThreeP w o a b) := by
  obtain ⟨W2, hW2, hb, hz, g1, g2⟩ := boxes2 w [.bool o.is, .slice so.A so.n so.c, .bool a.is, .slice sa.A sa.n sa.c, .bool b.is, .slice sb.A sb.n sb.c] zs6 63 63
  have HL := Lib.hid (fun (W : World) (hW : Below W2.heap.size W2 W) => Bx.c6 (g1.below hW (by omega)))
  have Ho := Lib.hid (fun (W : World) (hW : Below W2.heap.size W2 W) => fresh_any o so.A so.n so.c W (((h.ho.below hb).below (hW.mono hb.size)).toB fun _ hp => Nat.lt_of_lt_of_le hp (Nat.le_trans hb.size hW.size)) hk.o)
  have Ha := Lib.hid (fun (W : World) (hW : Below W2.heap.size W2 W) => fresh_any a sa.A sa.n sa.c W (((h.ha.below hb).below (hW.mono hb.size)).toB fun _ hp => Nat.lt_of_lt_of_le hp (Nat.le_trans hb.size hW.size)) hk.a)
  have Hb := Lib.hid (fun (W : World) (hW : Below W2.heap.size W2 W) => fresh_any b sb.A sb.n sb.c W (((h.hb.below hb).below (hW.mono hb.size)).toB fun _ hp => Nat.lt_of_lt_of_le hp (Nat.le_trans hb.size hW.size)) hk.b)
  have HB := Lib.hid hb
  have Hz := Lib.hid hz
  have HG2 := Lib.hid g2
  have HBc := Lib.hid (Below.refl W2.heap.size W2).drew
  have hl0 := HL.out W2.drew (Below.refl _ _).drew
  clear h hb g1 hz g2 hk
  obtain ⟨oi, ot⟩ := o
  obtain ⟨ai, at_⟩ := a
  obtain ⟨bi, bt⟩ := b
  obtain ⟨oA, on, oc⟩ := so
  obtain ⟨aA, an, ac⟩ := sa
  obtain ⟨bA, bn, bc⟩ := sb
  unfold opv at Ho Ha Hb
  simp only at hl0 Ho Ha Hb HL
  go_enter Try.func53, Try.ntmps53
  go_wp2_with fail
  rw [← hW2]
  clear hW2
  go_upto_region 1 with (fail)
  go_region_held3 (fun W => W.cell? ⟨w.heap.size, 0, none⟩ = some (.bool oi) ∧ W.cell? ⟨w.heap.size, 1, none⟩ = some (.slice oA on oc) ∧ W.cell? ⟨w.heap.size, 2, none⟩ = some (.bool ai) ∧ W.cell? ⟨w.heap.size, 3, none⟩ = some (.slice aA an ac) ∧ W.cell? ⟨w.heap.size, 4, none⟩ = some (.bool bi) ∧ W.cell? ⟨w.heap.size, 5, none⟩ = some (.slice bA bn bc))
    (first | with_reducible exact hl0 | with_reducible exact hlc | exact keep6 hlc (fun j => keep_s6 _ _ _ _ _ _ _ _ j (Nat.ne_of_lt (Nat.lt_succ_self _))))
    (first
    | (go_at_call 51; (with_reducible refine (Ho.out _ HBc.out).mono ?_); rintro e wo ⟨Ao, no, co, rfl, hno, hbo⟩; have HNo := Lib.hid hno; have HRo := Lib.hid hbo; have HBc := Lib.hid (show Below W2.heap.size W2 wo from HBc.out.trans (hbo.mono HBc.out.size)); have hlc := HL.out wo HBc.out; have g4 := HG2.out.below HBc.out HG2.out.lt; obtain ⟨d0, d1, d2, d3, d4, d5⟩ := g4.c6; obtain ⟨z0, z1, z2, z3, z4, z5⟩ := g4.f6; have HGc := Lib.hid g4; clear hbo g4 hno; (try unfold opv))
    | (go_at_call 51; (with_reducible refine (Ha.out _ HBc.out).mono ?_); rintro e wa ⟨Aa, na, ca, rfl, hna, hba⟩; have HNa := Lib.hid hna; have HRa := Lib.hid hba; have HBc := Lib.hid (show Below W2.heap.size W2 wa from HBc.out.trans (hba.mono HBc.out.size)); have hlc := HL.out wa HBc.out; have g4 := HG2.out.below HBc.out HG2.out.lt; obtain ⟨d0, d1, d2, d3, d4, d5⟩ := g4.c6; obtain ⟨z0, z1, z2, z3, z4, z5⟩ := g4.f6; have HGc := Lib.hid g4; clear hba g4 hna; (try unfold opv))
    | (go_at_call 51; (with_reducible refine (Hb.out _ HBc.out).mono ?_); rintro e wb ⟨Ab, nb, cb, rfl, hnb, hbb⟩; have HNb := Lib.hid hnb; have HRb := Lib.hid hbb; have HBc := Lib.hid (show Below W2.heap.size W2 wb from HBc.out.trans (hbb.mono HBc.out.size)); have hlc := HL.out wb HBc.out; have g4 := HG2.out.below HBc.out HG2.out.lt; obtain ⟨d0, d1, d2, d3, d4, d5⟩ := g4.c6; obtain ⟨z0, z1, z2, z3, z4, z5⟩ := g4.f6; have HGc := Lib.hid g4; clear hbb g4 hnb; (try unfold opv)))
  all_goals
    go_wp2_with fail
    obtain ⟨e0, e1, e2, e3, e4, e5⟩ := (HGc.out.s6 (.bool oi) (.slice Ao no co) (.bool ai) (.slice Aa na ca) (.bool bi) (.slice Ab nb cb)).c6
    refine bodyPost_ret (v := .agg #[.bool oi, .slice Ao no co, .bool ai, .slice Aa na ca, .bool bi, .slice Ab nb cb]) (by simp [results, Try.results53, go_sem, e0, e1, e2, e3, e4, e5]) rfl ?_
    have hz := Hz.out
    have hgw : w.heap.size ≤ w.heap.size + 1 := Nat.le_succ _
    have hg2 : w.heap.size + 1 < W2.drew.heap.size := by simp only [World.drew]; omega
    first
      | (have h := fin3 (s1 := ⟨Ao, no, co⟩) (s2 := ⟨Aa, na, ca⟩) (s3 := ⟨Ab, nb, cb⟩) (Below.refl W2.heap.size W2).drew HRo.out HRa.out HRb.out HNo.out HNa.out HNb.out; exact each_fin HB.out hgw hg2 ⟨⟨h.1.1, h.1.2.1, h.1.2.2⟩, h.2⟩)
      | (have h := fin3 (s1 := ⟨Ao, no, co⟩) (s2 := ⟨Ab, nb, cb⟩) (s3 := ⟨Aa, na, ca⟩) (Below.refl W2.heap.size W2).drew HRo.out HRb.out HRa.out HNo.out HNb.out HNa.out; exact each_fin HB.out hgw hg2 ⟨⟨h.1.1, h.1.2.2, h.1.2.1⟩, h.2⟩)
      | (have h := fin3 (s1 := ⟨Aa, na, ca⟩) (s2 := ⟨Ao, no, co⟩) (s3 := ⟨Ab, nb, cb⟩) (Below.refl W2.heap.size W2).drew HRa.out HRo.out HRb.out HNa.out HNo.out HNb.out; exact each_fin HB.out hgw hg2 ⟨⟨h.1.2.1, h.1.1, h.1.2.2⟩, h.2⟩)
      | (have h := fin3 (s1 := ⟨Aa, na, ca⟩) (s2 := ⟨Ab, nb, cb⟩) (s3 := ⟨Ao, no, co⟩) (Below.refl W2.heap.size W2).drew HRa.out HRb.out HRo.out HNa.out HNb.out HNo.out; exact each_fin HB.out hgw hg2 ⟨⟨h.1.2.2, h.1.1, h.1.2.1⟩, h.2⟩)
      | (have h := fin3 (s1 := ⟨Ab, nb, cb⟩) (s2 := ⟨Ao, no, co⟩) (s3 := ⟨Aa, na, ca⟩) (Below.refl W2.heap.size W2).drew HRb.out HRo.out HRa.out HNb.out HNo.out HNa.out; exact each_fin HB.out hgw hg2 ⟨⟨h.1.2.1, h.1.2.2, h.1.1⟩, h.2⟩)
      | (have h := fin3 (s1 := ⟨Ab, nb, cb⟩) (s2 := ⟨Aa, na, ca⟩) (s3 := ⟨Ao, no, co⟩) (Below.refl W2.heap.size W2).drew HRb.out HRa.out HRo.out HNb.out HNa.out HNo.out; exact each_fin HB.out hgw hg2 ⟨⟨h.1.2.2, h.1.2.1, h.1.1⟩, h.2⟩)
end Go.Proofs.Ytchoipmfngcdoaa.Mg
namespace Go.Proofs.Ytchoipmfngcdoaa.Mg
open Go.RowKit Go.Proofs.Ytchoipmfngcdoaa.Pt Go.Proofs.Ytchoipmfngcdoaa.Df Go.Proofs.Ytchoipmfngcdoaa.Sc Go.Proofs.Ytchoipmfngcdoaa.Cl
set_option maxRecDepth 100000

theorem getT_one (t : Tr) (s : ByteArray) : getT t [s] = (kidT t s, t.atIs s) := by
  rw [getT]
  by_cases h : t.atIs s = true
  · rw [if_pos h, getT, h]
  · rw [if_neg h]
    have h' : t.atIs s = false := by simpa using h
    rw [h', kidT_not h']
theorem sees_one {W : World} {g B : Nat} {s : ByteArray} {T : TypeId} (h : Bx W g [.string s] T) (hB : g < B) : SeesV W B (some ⟨g, 0, none⟩) 1 ([s].map Value.string) :=
  ⟨rfl, fun j u hu => by
    match j, hu with
    | 0, hu =>
      have : u = .string s := by simpa using hu.symm
      subst this
      exact ⟨g, 0, rfl, hB, h.cells 0⟩
    | j + 1, hu => simp at hu⟩

set_option maxHeartbeats 1000000 in
theorem obelow_any (x : Op) (s : ByteArray) (A : Option Addr) (n c : Nat) (w : World) (h : OpB w w.heap.size A n c x) (hx : OpK x) :
    Calls Try.prog 59 #[opv x A n c, .string s] w (FreshP w (x.below s)) := by
  obtain ⟨W2, hW2, hb, hz, g1, g2⟩ := boxes2 w [.bool x.is, .slice A n c] [.bool false, .slice none 0 0] 61 61
  obtain ⟨W3, hW3, hb3, hz3, g3⟩ := box1 W2 [.string s] 9
  have hb23 := hb.trans (hb3.mono hb.size)
  have g1 := g1.below hb3 (by omega)
  have g2 := g2.below hb3 (by omega)
  obtain ⟨c1, c2⟩ := g1.c2
  have c1' : W2.cell? ⟨w.heap.size, 0, none⟩ = some (.bool x.is) := by
    rw [← hb3.cell (p := ⟨w.heap.size, 0, none⟩) (by simp only; omega)]; exact c1
  have c2' : W2.cell? ⟨w.heap.size, 1, none⟩ = some (.slice A n c) := by
    rw [← hb3.cell (p := ⟨w.heap.size, 1, none⟩) (by simp only; omega)]; exact c2
  have HB := Lib.hid hb23
  have HG := get_any x.t [s] A (some ⟨w.heap.size + 1 + 1, 0, none⟩) n c 1 1 W3 (((h.below hb23).toB fun _ hp => Nat.lt_of_lt_of_le hp hb23.size).hold) (sees_one (hz ▸ g3) (by omega)) hx.asc (by have := hx.size; omega) (by simp)
  rw [getT_one] at HG
  have HG := Lib.hid HG
  have Hz := Lib.hid hz
  have Hz3 := Lib.hid hz3
  have HG2 := Lib.hid g2
  have hWs : W2.heap.size = w.heap.size + 2 := hz
  obtain ⟨k, hk⟩ : ∃ k, k = x.below s := ⟨_, rfl⟩
  have hki : x.t.atIs s = k.is := by rw [hk]; rfl
  have hkt : kidT x.t s = k.t := by rw [hk]; rfl
  rw [hki, hkt] at HG
  rw [← hk]
  have HW2 := Lib.hid hW2
  have HW3 := Lib.hid hW3
  clear h hb hb3 hb23 g1 g2 g3 hz hz3 hk hki hkt hW2 hW3
  unfold opv
  go_enter Try.func59, Try.ntmps59
  go_wp2_with fail
  rw [← HW2.out]
  go_wp2_with fail
  rw [← HW3.out]
  refine HG.out.mono ?_
  rintro e w5 ⟨A', n', c', rfl, hn', hc', hh, hb5⟩
  have g3 := HG2.out.below hb5 HG2.out.lt
  obtain ⟨d0, d1⟩ := g3.c2
  obtain ⟨z0, z1⟩ := g3.f2
  have HG3 := Lib.hid g3
  have HH := Lib.hid hh
  have H5 := Lib.hid hb5
  have Hnc := Lib.hid (show n' ≤ c' ∧ c' ≤ maxLen from ⟨hn', hc'⟩)
  clear hh hb5 hn' hc' c1 c2 g3 c1' c2'
  go_wp2_with fail
  obtain ⟨e0, e1⟩ := (HG3.out.s2 (.bool k.is) (.slice A' n' c')).c2
  refine bodyPost_ret (v := .agg #[.bool k.is, .slice A' n' c']) (by simp [results, Try.results59, go_sem, e0, e1]) rfl ?_
  have hz := Hz.out
  have hz3 := Hz3.out
  refine ⟨A', n', c', rfl, ⟨?_, Hnc.out⟩, below_s2 (HB.out.trans (H5.out.mono HB.out.size)) (by omega) _ _⟩
  exact (HH.out.keep fun b o hp => keep_s2 w5 _ _ b o (by omega)).more fun b hp => ⟨by omega, by simpa using hp.2⟩

set_option maxHeartbeats 1000000 in
theorem bel1_any (x : Op) (s : ByteArray) (A : Option Addr) (n c g : Nat) (w : World) (h : OpB w w.heap.size A n c x) (hx : OpK x) (hg : w.cell? ⟨g, 0, none⟩ = some (.string s)) :
    Calls Try.prog 58 #[opv x A n c, .pointer (some ⟨g, 0, none⟩)] w (FreshP w (x.below s)) := by
  obtain ⟨W2, hW2, hb, hz, g1, g2⟩ := boxes2 w [.bool x.is, .slice A n c] [.bool false, .slice none 0 0] 61 61
  obtain ⟨c1, c2⟩ := g1.c2
  have c3 := (hb.cell (p := ⟨g, 0, none⟩) (World.block_lt_of_cell? w ⟨g, 0, none⟩ hg)).trans hg
  have HB := Lib.hid hb
  have HG := Lib.hid (obelow_any x s A n c W2 ((h.below hb).toB fun _ hp => Nat.lt_of_lt_of_le hp hb.size) hx)
  have Hz := Lib.hid hz
  have HG2 := Lib.hid g2
  obtain ⟨k, hk⟩ : ∃ k, k = x.below s := ⟨_, rfl⟩
  rw [← hk] at HG ⊢
  have hgl : g < w.heap.size := World.block_lt_of_cell? w ⟨g, 0, none⟩ hg
  clear h hb g1 g2 hz hk
  unfold opv at HG ⊢
  go_enter Try.func58, Try.ntmps58
  go_wp2_with fail
  rw [← hW2]
  go_wp2_with fail
  refine HG.out.mono ?_
  rintro e w5 ⟨A', n', c', rfl, hh, hb5⟩
  have g3 := HG2.out.below hb5 HG2.out.lt
  obtain ⟨d0, d1⟩ := g3.c2
  obtain ⟨z0, z1⟩ := g3.f2
  have HG3 := Lib.hid g3
  have HH := Lib.hid hh
  have H5 := Lib.hid hb5
  clear hh hb5 c1 c2 g3
  unfold opv
  go_wp2_with fail
  obtain ⟨e0, e1⟩ := (HG3.out.s2 (.bool k.is) (.slice A' n' c')).c2
  refine bodyPost_ret (v := .agg #[.bool k.is, .slice A' n' c']) (by simp [results, Try.results58, go_sem, e0, e1]) rfl ?_
  have hz := Hz.out
  refine ⟨A', n', c', rfl, ?_, below_s2 (HB.out.trans (H5.out.mono HB.out.size)) (by omega) _ _⟩
  exact (HH.out.keep fun b o hp => keep_s2 w5 _ _ b o (by omega)).more fun b hp => ⟨by omega, by simpa using hp.2⟩

/- each, below -/
set_option maxHeartbeats 4000000 in
theorem eachb_any (o a b : Op) (s : ByteArray) (so sa sb : Sl) (g : Nat) (w : World) (h : Pl3 w w.heap.size o a b so sa sb) (hk : K3 o a b) (hg : w.cell? ⟨g, 0, none⟩ = some (.string s)) :
    Calls Try.prog 53 #[o3v o a b so sa sb, .func (.func 58) #[] #[.pointer (some ⟨g, 0, none⟩)]] w (ThreeP w (o.below s) (a.below s) (b.below s)) := by
  obtain ⟨W2, hW2, hb, hz, g1, g2⟩ := boxes2 w [.bool o.is, .slice so.A so.n so.c, .bool a.is, .slice sa.A sa.n sa.c, .bool b.is, .slice sb.A sb.n sb.c] zs6 63 63
  have HL := Lib.hid (fun (W : World) (hW : Below W2.heap.size W2 W) => Bx.c6 (g1.below hW (by omega)))
  have hgl : g < w.heap.size := World.block_lt_of_cell? w ⟨g, 0, none⟩ hg
  have Ho := Lib.hid (fun (W : World) (hW : Below W2.heap.size W2 W) => bel1_any o s so.A so.n so.c g W (((h.ho.below hb).below (hW.mono hb.size)).toB fun _ hp => Nat.lt_of_lt_of_le hp (Nat.le_trans hb.size hW.size)) hk.o ((hW.cell (p := ⟨g, 0, none⟩) (Nat.lt_of_lt_of_le hgl hb.size)).trans ((hb.cell (p := ⟨g, 0, none⟩) hgl).trans hg)))
  have Ha := Lib.hid (fun (W : World) (hW : Below W2.heap.size W2 W) => bel1_any a s sa.A sa.n sa.c g W (((h.ha.below hb).below (hW.mono hb.size)).toB fun _ hp => Nat.lt_of_lt_of_le hp (Nat.le_trans hb.size hW.size)) hk.a ((hW.cell (p := ⟨g, 0, none⟩) (Nat.lt_of_lt_of_le hgl hb.size)).trans ((hb.cell (p := ⟨g, 0, none⟩) hgl).trans hg)))
  have Hb := Lib.hid (fun (W : World) (hW : Below W2.heap.size W2 W) => bel1_any b s sb.A sb.n sb.c g W (((h.hb.below hb).below (hW.mono hb.size)).toB fun _ hp => Nat.lt_of_lt_of_le hp (Nat.le_trans hb.size hW.size)) hk.b ((hW.cell (p := ⟨g, 0, none⟩) (Nat.lt_of_lt_of_le hgl hb.size)).trans ((hb.cell (p := ⟨g, 0, none⟩) hgl).trans hg)))
  obtain ⟨xo, hxo⟩ : ∃ x, x = o.below s := ⟨_, rfl⟩
  obtain ⟨xa, hxa⟩ : ∃ x, x = a.below s := ⟨_, rfl⟩
  obtain ⟨xb, hxb⟩ : ∃ x, x = b.below s := ⟨_, rfl⟩
  rw [← hxo] at Ho ⊢
  rw [← hxa] at Ha ⊢
  rw [← hxb] at Hb ⊢
  have HB := Lib.hid hb
  have Hz := Lib.hid hz
  have HG2 := Lib.hid g2
  have HBc := Lib.hid (Below.refl W2.heap.size W2).drew
  have hl0 := HL.out W2.drew (Below.refl _ _).drew
  clear hxo hxa hxb h hb g1 hz g2 hk hg hgl
  obtain ⟨oi, ot⟩ := o
  obtain ⟨ai, at_⟩ := a
  obtain ⟨bi, bt⟩ := b
  obtain ⟨oA, on, oc⟩ := so
  obtain ⟨aA, an, ac⟩ := sa
  obtain ⟨bA, bn, bc⟩ := sb
  unfold opv at Ho Ha Hb
  simp only at hl0 Ho Ha Hb HL
  go_enter Try.func53, Try.ntmps53
  go_wp2_with fail
  rw [← hW2]
  clear hW2
  go_upto_region 1 with (fail)
  go_region_held3 (fun W => W.cell? ⟨w.heap.size, 0, none⟩ = some (.bool oi) ∧ W.cell? ⟨w.heap.size, 1, none⟩ = some (.slice oA on oc) ∧ W.cell? ⟨w.heap.size, 2, none⟩ = some (.bool ai) ∧ W.cell? ⟨w.heap.size, 3, none⟩ = some (.slice aA an ac) ∧ W.cell? ⟨w.heap.size, 4, none⟩ = some (.bool bi) ∧ W.cell? ⟨w.heap.size, 5, none⟩ = some (.slice bA bn bc))
    (first | with_reducible exact hl0 | with_reducible exact hlc | exact keep6 hlc (fun j => keep_s6 _ _ _ _ _ _ _ _ j (Nat.ne_of_lt (Nat.lt_succ_self _))))
    (first
    | (go_at_call 58; (with_reducible refine (Ho.out _ HBc.out).mono ?_); rintro e wo ⟨Ao, no, co, rfl, hno, hbo⟩; have HNo := Lib.hid hno; have HRo := Lib.hid hbo; have HBc := Lib.hid (show Below W2.heap.size W2 wo from HBc.out.trans (hbo.mono HBc.out.size)); have hlc := HL.out wo HBc.out; have g4 := HG2.out.below HBc.out HG2.out.lt; obtain ⟨d0, d1, d2, d3, d4, d5⟩ := g4.c6; obtain ⟨z0, z1, z2, z3, z4, z5⟩ := g4.f6; have HGc := Lib.hid g4; clear hbo g4 hno; (try unfold opv))
    | (go_at_call 58; (with_reducible refine (Ha.out _ HBc.out).mono ?_); rintro e wa ⟨Aa, na, ca, rfl, hna, hba⟩; have HNa := Lib.hid hna; have HRa := Lib.hid hba; have HBc := Lib.hid (show Below W2.heap.size W2 wa from HBc.out.trans (hba.mono HBc.out.size)); have hlc := HL.out wa HBc.out; have g4 := HG2.out.below HBc.out HG2.out.lt; obtain ⟨d0, d1, d2, d3, d4, d5⟩ := g4.c6; obtain ⟨z0, z1, z2, z3, z4, z5⟩ := g4.f6; have HGc := Lib.hid g4; clear hba g4 hna; (try unfold opv))
    | (go_at_call 58; (with_reducible refine (Hb.out _ HBc.out).mono ?_); rintro e wb ⟨Ab, nb, cb, rfl, hnb, hbb⟩; have HNb := Lib.hid hnb; have HRb := Lib.hid hbb; have HBc := Lib.hid (show Below W2.heap.size W2 wb from HBc.out.trans (hbb.mono HBc.out.size)); have hlc := HL.out wb HBc.out; have g4 := HG2.out.below HBc.out HG2.out.lt; obtain ⟨d0, d1, d2, d3, d4, d5⟩ := g4.c6; obtain ⟨z0, z1, z2, z3, z4, z5⟩ := g4.f6; have HGc := Lib.hid g4; clear hbb g4 hnb; (try unfold opv)))
  all_goals
    go_wp2_with fail
    obtain ⟨e0, e1, e2, e3, e4, e5⟩ := (HGc.out.s6 (.bool xo.is) (.slice Ao no co) (.bool xa.is) (.slice Aa na ca) (.bool xb.is) (.slice Ab nb cb)).c6
    refine bodyPost_ret (v := .agg #[.bool xo.is, .slice Ao no co, .bool xa.is, .slice Aa na ca, .bool xb.is, .slice Ab nb cb]) (by simp [results, Try.results53, go_sem, e0, e1, e2, e3, e4, e5]) rfl ?_
    have hz := Hz.out
    have hgw : w.heap.size ≤ w.heap.size + 1 := Nat.le_succ _
    have hg2 : w.heap.size + 1 < W2.drew.heap.size := by simp only [World.drew]; omega
    first
      | (have h := fin3 (s1 := ⟨Ao, no, co⟩) (s2 := ⟨Aa, na, ca⟩) (s3 := ⟨Ab, nb, cb⟩) (Below.refl W2.heap.size W2).drew HRo.out HRa.out HRb.out HNo.out HNa.out HNb.out; exact each_fin HB.out hgw hg2 ⟨⟨h.1.1, h.1.2.1, h.1.2.2⟩, h.2⟩)
      | (have h := fin3 (s1 := ⟨Ao, no, co⟩) (s2 := ⟨Ab, nb, cb⟩) (s3 := ⟨Aa, na, ca⟩) (Below.refl W2.heap.size W2).drew HRo.out HRb.out HRa.out HNo.out HNb.out HNa.out; exact each_fin HB.out hgw hg2 ⟨⟨h.1.1, h.1.2.2, h.1.2.1⟩, h.2⟩)
      | (have h := fin3 (s1 := ⟨Aa, na, ca⟩) (s2 := ⟨Ao, no, co⟩) (s3 := ⟨Ab, nb, cb⟩) (Below.refl W2.heap.size W2).drew HRa.out HRo.out HRb.out HNa.out HNo.out HNb.out; exact each_fin HB.out hgw hg2 ⟨⟨h.1.2.1, h.1.1, h.1.2.2⟩, h.2⟩)
      | (have h := fin3 (s1 := ⟨Aa, na, ca⟩) (s2 := ⟨Ab, nb, cb⟩) (s3 := ⟨Ao, no, co⟩) (Below.refl W2.heap.size W2).drew HRa.out HRb.out HRo.out HNa.out HNb.out HNo.out; exact each_fin HB.out hgw hg2 ⟨⟨h.1.2.2, h.1.1, h.1.2.1⟩, h.2⟩)
      | (have h := fin3 (s1 := ⟨Ab, nb, cb⟩) (s2 := ⟨Ao, no, co⟩) (s3 := ⟨Aa, na, ca⟩) (Below.refl W2.heap.size W2).drew HRb.out HRo.out HRa.out HNb.out HNo.out HNa.out; exact each_fin HB.out hgw hg2 ⟨⟨h.1.2.1, h.1.2.2, h.1.1⟩, h.2⟩)
      | (have h := fin3 (s1 := ⟨Ab, nb, cb⟩) (s2 := ⟨Aa, na, ca⟩) (s3 := ⟨Ao, no, co⟩) (Below.refl W2.heap.size W2).drew HRb.out HRa.out HRo.out HNb.out HNa.out HNo.out; exact each_fin HB.out hgw hg2 ⟨⟨h.1.2.2, h.1.2.1, h.1.1⟩, h.2⟩)
end Go.Proofs.Ytchoipmfngcdoaa.Mg
namespace Go.Proofs.Ytchoipmfngcdoaa.Nm
open Go.RowKit
set_option maxRecDepth 100000

/-- The rows joined, in a row of its own. -/
def JoinedN (l : List (List UInt8)) (w : World) (e : Ending) (w' : World) : Prop := ∃ A c, e = .returned (.slice A l.length c) ∧ SeesV w' w'.heap.size A l.length (l.map encs) ∧ (∀ a, A = some a → w.heap.size ≤ a.block) ∧ Below w.heap.size w w'

set_option maxHeartbeats 1000000 in
theorem concatN_any (g K : Nat) (vs : List Value) (ls : List (List (List UInt8))) (w : World) (hp : Parts w g vs ls) (hK : K = ls.length) (hK2 : K ≤ 65536) (hT : ls.flatten.length ≤ 1099511627776) (hg : g < w.heap.size) :
    Calls Try.prog 56 #[.slice (some ⟨g, 0, none⟩) K K] w (JoinedN ls.flatten w) := by
  have HK := Lib.hid hK
  clear hK
  obtain ⟨T, hTd⟩ : ∃ T : Nat → Nat, T = fun k => (ls.take k).flatten.length := ⟨_, rfl⟩
  have HT : Hid (∀ k, T k = (ls.take k).flatten.length) := by intro k; rw [hTd]
  have HTb : Hid (∀ k, T k ≤ 1099511627776) := by
    intro k
    rw [hTd]
    exact Nat.le_trans (flat_le ls k) hT
  have HT0 : Hid (T 0 = 0) := by rw [HT.out]; rfl
  clear hTd
  go_enter Try.func56, Try.ntmps56
  go_wp2
  go_loop [3, 11] (fun v i => ∃ k : Nat, k ≤ K ∧ i = .int .i64 k ∧ v = .int .i64 (T k)) (fun _ i => K - (intOf i).toNat)
  case atStart => exact ⟨0, Nat.zero_le _, rfl, by rw [HT0.out]; rfl⟩
  case round =>
    obtain ⟨k, hk, rfl, rfl⟩ := hrel
    have hTk := HTb.out k
    by_cases hlt : k < K
    · obtain ⟨l, hl⟩ : ∃ l, ls[k]? = some l := ⟨ls[k]'(by rw [← HK.out]; exact hlt), List.getElem?_eq_getElem _⟩
      obtain ⟨A, n, c, hv, hs⟩ := hp.sees k l hl
      have hc := hp.cell k _ hv
      have hnl := hs.len
      rw [List.length_map] at hnl
      have HT1 := Lib.hid (show T (k + 1) = T k + n by rw [HT.out, HT.out, flat_succ hl, List.length_append, hnl])
      have hb1 : T k + n ≤ 1099511627776 := by have := HTb.out (k + 1); rw [HT1.out] at this; exact this
      clear hl hv hnl
      go_wp2
      go_round
      case rel => exact ⟨k + 1, by omega, by go_num, by rw [HT1.out]; go_num⟩
      case measure => simp [intOf]; omega
    · obtain rfl : k = K := by omega
      go_wp2_with (go_at_call 66; refine (grow_any _ hTk _).mono ?_; rintro e w1 ⟨A1, c1, rfl, ho1, hb1⟩)
      go_loopw [6, 27] (fun v i wr => ∃ (j : Nat) (A : Option Addr) (n c : Nat), j ≤ k ∧ i = .int .i64 j ∧ v = .slice A n c ∧ wr.ownsRow w.heap.size 9 1 (.slice A n c) n ((ls.take j).flatten.map encs) ∧ Below w.heap.size w wr) (fun _ i _ => k - (intOf i).toNat)
      case atStart => exact ⟨0, A1, 0, c1, Nat.zero_le _, rfl, rfl, ho1, hb1⟩
      case round =>
        obtain ⟨j, A, n, c, hj, rfl, rfl, ho, hb⟩ := hrel
        have hn := ho.1
        rw [List.length_map] at hn
        by_cases hlt2 : j < k
        · obtain ⟨l, hl⟩ : ∃ l, ls[j]? = some l := ⟨ls[j]'(by rw [← HK.out]; exact hlt2), List.getElem?_eq_getElem _⟩
          obtain ⟨A2, m, c2, hv, hs⟩ := hp.sees j l hl
          have hc := (hb.cell (p := ⟨g, j, none⟩) hg).trans (hp.cell j _ hv)
          have hnl := hs.len
          rw [List.length_map] at hnl
          have hlen : n + m ≤ 1099511627776 := by
            have h1 := HTb.out (j + 1)
            rw [HT.out, flat_succ hl, List.length_append, ← hnl] at h1
            omega
          have hs2 := src_strs (hs.below hb) (c := c2)
          have Hfl := Lib.hid (flat_succ hl)
          clear hl hv hnl hn
          go_wp2_with (at_builtin; refine wpList_append_row rfl _ _ _ _ rfl elem_s rfl rfl ho hs2 hlen hb.size ?_; intro A' c' w' ho' hg' hat')
          go_roundw
          case rel => exact ⟨j + 1, A', n + m, c', by omega, by go_num, rfl, by rw [Hfl.out, List.map_append]; exact ho', hb.grown hg' hb.size (fun q hq => (ho.lt q hq).1)⟩
          case measure => simp [intOf]; omega
        · obtain rfl : j = k := by omega
          have hall : ls.take j = ls := List.take_of_length_le (by rw [HK.out]; exact Nat.le_refl _)
          rw [hall] at ho hn
          obtain rfl : n = ls.flatten.length := by omega
          have Ho := Lib.hid ho
          clear ho hn hall
          go_wp2
          go_ret
          exact ⟨A, c, rfl, sees_own Ho.out, fun a ha => by subst ha; exact (Ho.out.lt a.block rfl).1, hb⟩


theorem concatW_any (l k : List ByteArray) (A B : Option Addr) (n m c d g : Nat) (W : World) (hg : W.heap[g]? = some (Obj.cells #[.slice A n c, .slice B m d] 35)) (h1 : SeesV W W.heap.size A n (l.map Value.string)) (h2 : SeesV W W.heap.size B m (k.map Value.string)) (hl : n + m ≤ 1000000) :
    Calls Try.prog 56 #[.slice (some ⟨g, 0, none⟩) 2 2] W fun e w' => ∃ A' c', e = .returned (.slice A' (l ++ k).length c') ∧ SeesV w' w'.heap.size A' (l ++ k).length ((l ++ k).map Value.string) ∧ (∀ a, A' = some a → W.heap.size ≤ a.block) ∧ Below W.heap.size W w' := by
  have e1 := h1.len
  have e2 := h2.len
  rw [List.length_map] at e1 e2
  have hl1 : l.map Value.string = (l.map fun x => x.data.toList).map encs := by rw [List.map_map]; rfl
  have hl2 : k.map Value.string = (k.map fun x => x.data.toList).map encs := by rw [List.map_map]; rfl
  rw [hl1] at h1
  rw [hl2] at h2
  have hc := concatN_any g 2 _ [l.map fun x => x.data.toList, k.map fun x => x.data.toList] _ (Parts.two hg h1 h2) rfl (by decide) (by simp; omega) (Array.getElem?_eq_some_iff.1 hg).1
  refine hc.mono ?_
  rintro e w' ⟨A', c', rfl, hs, hn, hb2⟩
  have ef : [l.map fun x => x.data.toList, k.map fun x => x.data.toList].flatten = (l ++ k).map fun x => x.data.toList := by simp
  rw [ef] at hs ⊢
  rw [List.length_map] at hs ⊢
  refine ⟨A', c', rfl, ?_, hn, hb2⟩
  rw [List.map_map] at hs
  exact hs
end Go.Proofs.Ytchoipmfngcdoaa.Nm
namespace Go.Proofs.Ytchoipmfngcdoaa.Sc
open Go.RowKit Go.Proofs.Ytchoipmfngcdoaa.Nm
set_option maxRecDepth 100000

theorem tl_is {s t : ByteArray} (h : s.data.toList = t.data.toList) : (s.toList == t.toList) = true := by
  rw [beq_iff_eq, ByteArray.toList_eq, ByteArray.toList_eq]
  exact h
theorem tl_ne {s t : ByteArray} (h : s.data.toList ≠ t.data.toList) : (s.toList == t.toList) = false := by
  rw [beq_eq_false_iff_ne, ByteArray.toList_eq, ByteArray.toList_eq]
  exact h
theorem box1 {w : World} {g : Nat} {u : Value} {T : TypeId} (h : w.heap[g]? = some (.cells #[u] T (0, 0))) : w.cell? ⟨g, 0, none⟩ = some u := by
  rw [cell_of_row w g 0 _ _ _ h]; rfl
theorem tn_drop {s : ByteArray} {k r : Tr} : ∀ {t : Tr} {i : Nat}, t.dropT i = .cons s k r → (tn t)[i]? = some s.data.toList
  | .nil, 0, h => by cases h
  | .nil, _ + 1, h => by cases h
  | .cons _ _ _, 0, h => by rw [dropT_zero] at h; injection h with h1 _ _; subst h1; rfl
  | .cons _ _ r', i + 1, h => by simp only [tn, List.getElem?_cons_succ]; exact tn_drop (t := r') h
theorem mem_take' {ss : List (List UInt8)} {k : Nat} {x y : List UInt8} (h : ss[k]? = some y) : x ∈ ss.take (k + 1) ↔ x ∈ ss.take k ∨ x = y := by
  rw [List.take_add_one, h]
  simp

theorem same_edge (s x : ByteArray) (A : Option Addr) (n c g : Nat) (w : World) (hg : w.cell? ⟨g, 0, none⟩ = some (.string x)) :
    Calls Try.prog 91 #[.agg #[.string s, .slice A n c], .pointer (some ⟨g, 0, none⟩)] w fun e w' => e = .returned (.bool (decide (s.data.toList = x.data.toList))) ∧ Below w.heap.size w w' := by
  have hl : g < w.heap.size := block_lt hg
  by_cases he : s.data.toList = x.data.toList
  · have hq := tl_is he
    rw [decide_eq_true he]
    clear he
    go_enter Try.func91, Try.ntmps91
    go_wp2_with fail
    go_ret
    exact ⟨rfl, (Below.refl _ _).alloc (Nat.le_refl _) _⟩
  · have hq := tl_ne he
    rw [decide_eq_false he]
    clear he
    go_enter Try.func91, Try.ntmps91
    go_wp2_with fail
    go_ret
    exact ⟨rfl, (Below.refl _ _).alloc (Nat.le_refl _) _⟩

def Found (b : Bool) (w : World) (e : Ending) (w' : World) : Prop := ∃ i : Int, -1 ≤ i ∧ i ≤ 4611686018427387904 ∧ e = .returned (.int .i64 i) ∧ decide (0 ≤ i) = b ∧ Below w.heap.size w w'

set_option maxHeartbeats 1000000 in
theorem index_edge (t : Tr) (A : Option Addr) (n c B g : Nat) (x : ByteArray) (w : World) (h : Holds w B A n t) (hB : B ≤ w.heap.size) (hg : w.cell? ⟨g, 0, none⟩ = some (.string x)) (hn : n ≤ 140737488351232) :
    Calls Try.prog 49 #[.slice A n c, .func (.func 91) #[] #[.pointer (some ⟨g, 0, none⟩)]] w (Found (decide (x.data.toList ∈ tn t)) w) := by
  have hgl : g < w.heap.size := block_lt hg
  have Hn := Lib.hid h.len
  obtain ⟨d, hd⟩ : ∃ d, d = decide (x.data.toList ∈ tn t) := ⟨_, rfl⟩
  have Hd := Lib.hid hd
  rw [← hd]
  clear hd
  go_enter Try.func49, Try.ntmps49
  go_wp2_with fail
  go_loopw [8] (fun i wr => ∃ k : Nat, k ≤ n ∧ i = .int .i64 k ∧ Hid (x.data.toList ∉ (tn t).take k) ∧ Below w.heap.size w wr) (fun i _ => n - (intOf i).toNat)
  case atStart => exact ⟨0, Nat.zero_le _, rfl, Lib.hid (by simp), Below.refl _ _⟩
  case round =>
    obtain ⟨k, hk, rfl, H, hbw⟩ := hrel
    by_cases hlt : k < n
    · obtain ⟨b, o, s, kt, r, A', n', c', rfl, hb, hs, hc, hn', hc', hk', hr, hdr, hd2⟩ := (h.below (hbw.mono hB)).split k hlt
      have Hs := Lib.hid (tn_drop hdr)
      have hkn : (k : Int) < (n : Int) := by omega
      have hk0 : (0 : Int) ≤ (k : Int) := by omega
      have hgw := (hbw.cell (p := ⟨g, 0, none⟩) hgl).trans hg
      have HC := Lib.hid (same_edge s x A' n' c' g wr hgw)
      have hsz := hbw.size
      clear hk' hr hdr hd2 hgw
      by_cases he : s.data.toList = x.data.toList
      · rw [decide_eq_true he] at HC
        have Hd2 : d = true := by
          rw [Hd.out, decide_eq_true_iff, ← he]
          exact List.mem_of_getElem? Hs.out
        subst Hd2
        clear he
        go_wp2_with fail
        (with_reducible refine HC.out.mono ?_)
        rintro e w1 ⟨rfl, hb1⟩
        go_wp2_with fail
        go_ret
        exact ⟨k, by omega, by omega, rfl, by simp, hbw.trans (hb1.mono hsz)⟩
      · rw [decide_eq_false he] at HC
        have H2 : Hid (x.data.toList ∉ (tn t).take (k + 1)) := Lib.hid (by rw [mem_take' Hs.out]; exact fun g => g.elim H.out (fun g => he g.symm))
        clear he
        go_wp2_with fail
        (with_reducible refine HC.out.mono ?_)
        rintro e w1 ⟨rfl, hb1⟩
        go_wp2_with fail
        go_roundw
        case rel => exact ⟨k + 1, by omega, by go_num, H2, hbw.trans (hb1.mono hsz)⟩
        case measure => simp [intOf]; omega
    · obtain rfl : k = n := by omega
      have Hd2 : d = false := by
        rw [Hd.out, decide_eq_false_iff_not]
        have := H.out
        rwa [List.take_of_length_le (by rw [tn_length, ← Hn.out]; exact Nat.le_refl _)] at this
      subst Hd2
      go_wp2_with fail
      go_ret
      exact ⟨-1, by omega, by omega, rfl, rfl, hbw⟩

theorem contains_edge (t : Tr) (A : Option Addr) (n c B g : Nat) (x : ByteArray) (w : World) (h : Holds w B A n t) (hB : B ≤ w.heap.size) (hg : w.cell? ⟨g, 0, none⟩ = some (.string x)) (hn : n ≤ 140737488351232) :
    Calls Try.prog 36 #[.slice A n c, .func (.func 91) #[] #[.pointer (some ⟨g, 0, none⟩)]] w fun e w' => e = .returned (.bool (decide (x.data.toList ∈ tn t))) ∧ Below w.heap.size w w' := by
  have HC := Lib.hid (index_edge t A n c B g x w h hB hg hn)
  obtain ⟨d, hd⟩ : ∃ d, d = decide (x.data.toList ∈ tn t) := ⟨_, rfl⟩
  rw [← hd] at HC ⊢
  clear hd h hg
  go_enter Try.func36, Try.ntmps36
  go_wp2_with fail
  (with_reducible refine HC.out.mono ?_)
  rintro e w1 ⟨i, hi1, hi2, rfl, hi, hb1⟩
  have Hi := Lib.hid hi
  clear hi
  go_wp2_with fail
  go_ret
  exact ⟨by rw [← Hi.out]; rfl, hb1⟩

theorem has_edge (t : Tr) (A : Option Addr) (n c B g : Nat) (x : ByteArray) (w : World) (h : Holds w B A n t) (hB : B ≤ w.heap.size) (hg : w.cell? ⟨g, 0, none⟩ = some (.slice A n c)) (hn : n ≤ 140737488351232) :
    Calls Try.prog 90 #[.string x, .pointer (some ⟨g, 0, none⟩)] w fun e w' => e = .returned (.bool (decide (x.data.toList ∈ tn t))) ∧ Below w.heap.size w w' := by
  have hgl : g < w.heap.size := block_lt hg
  obtain ⟨W1, hW1⟩ : ∃ W, W = w.alloc (Obj.cells #[Value.string x] 9) := ⟨_, rfl⟩
  have g0 : W1.heap[w.heap.size]? = some (Obj.cells #[Value.string x] 9) := by rw [hW1, heap_alloc_new]
  have hb1 : Below w.heap.size w W1 := by rw [hW1]; exact (Below.refl _ _).alloc (Nat.le_refl _) _
  have HC := Lib.hid (contains_edge t A n c B w.heap.size x W1 (h.below (hb1.mono hB)) (Nat.le_trans hB hb1.size) (box1 g0) hn)
  have hg1 := (hb1.cell (p := ⟨g, 0, none⟩) hgl).trans hg
  have hsz := hb1.size
  have HB := Lib.hid hb1
  clear hb1 h
  obtain ⟨d, hd⟩ : ∃ d, d = decide (x.data.toList ∈ tn t) := ⟨_, rfl⟩
  rw [← hd] at HC ⊢
  clear hd
  go_enter Try.func90, Try.ntmps90
  go_wp2_with fail
  rw [← hW1]
  clear hW1
  (with_reducible refine HC.out.mono ?_)
  rintro e w1 ⟨rfl, hb2⟩
  go_wp2_with fail
  go_ret
  exact ⟨rfl, HB.out.trans (hb2.mono hsz)⟩

theorem edgeOf_any (A : Option Addr) (n c : Nat) (w : World) :
    Calls Try.prog 75 #[.slice A n c] w fun e w' => e = .returned (.func (.func 90) #[] #[.pointer (some ⟨w.heap.size, 0, none⟩)]) ∧ w' = w.alloc (Obj.cells #[Value.slice A n c] 24) := by
  go_enter Try.func75, Try.ntmps75
  go_wp2_with fail
  go_ret
  exact ⟨rfl, rfl⟩

theorem all_take {α : Type} {l : List α} {p : α → Bool} {k : Nat} {y : α} (h : l[k]? = some y) : (l.take (k + 1)).all p = ((l.take k).all p && p y) := by
  rw [List.take_add_one, h]
  simp
theorem all_false {α : Type} {l : List α} {p : α → Bool} {k : Nat} {y : α} (h : l[k]? = some y) (hp : p y = false) : l.all p = false := by
  rw [List.all_eq_false]
  exact ⟨y, List.mem_of_getElem? h, by simp [hp]⟩

set_option maxHeartbeats 1000000 in
theorem every_has (ss : List (List UInt8)) (t : Tr) (A2 A : Option Addr) (m cm n c B g : Nat) (w : World) (hs : SeesV w B A2 m (ss.map encs)) (h : Holds w B A n t) (hB : B ≤ w.heap.size) (hg : w.cell? ⟨g, 0, none⟩ = some (.slice A n c)) (hn : n ≤ 140737488351232) (hm : m ≤ 4611686018427387904) :
    Calls Try.prog 74 #[.slice A2 m cm, .func (.func 90) #[] #[.pointer (some ⟨g, 0, none⟩)]] w fun e w' => e = .returned (.bool (ss.all fun x => decide (x ∈ tn t))) ∧ Below w.heap.size w w' := by
  have hgl : g < w.heap.size := block_lt hg
  have hl := hs.len
  rw [List.length_map] at hl
  have Hl := Lib.hid hl
  obtain ⟨p, hp⟩ : ∃ p : List UInt8 → Bool, p = fun x => decide (x ∈ tn t) := ⟨_, rfl⟩
  have Hp := Lib.hid hp
  rw [← hp]
  obtain ⟨d, hd⟩ : ∃ d, d = ss.all p := ⟨_, rfl⟩
  have Hd := Lib.hid hd
  rw [← hd]
  clear hd hp hl
  go_enter Try.func74, Try.ntmps74
  go_wp2_with fail
  go_loopw [9] (fun i wr => ∃ k : Nat, k ≤ m ∧ i = .int .i64 k ∧ Hid ((ss.take k).all p = true) ∧ Below w.heap.size w wr) (fun i _ => m - (intOf i).toNat)
  case atStart => exact ⟨0, Nat.zero_le _, rfl, Lib.hid (by simp), Below.refl _ _⟩
  case round =>
    obtain ⟨k, hk, rfl, H, hbw⟩ := hrel
    by_cases hlt : k < m
    · obtain ⟨b, o, s, rfl, hb, hc, hsk⟩ := nth (hs.below (hbw.mono hB)) hlt
      have Hs := Lib.hid hsk
      have hkn : (k : Int) < (m : Int) := by omega
      have hk0 : (0 : Int) ≤ (k : Int) := by omega
      have hgw := (hbw.cell (p := ⟨g, 0, none⟩) hgl).trans hg
      have HC := Lib.hid (has_edge t A n c B g s wr (h.below (hbw.mono hB)) (Nat.le_trans hB hbw.size) hgw hn)
      have hsz := hbw.size
      obtain ⟨q, hq⟩ : ∃ q, q = decide (s.data.toList ∈ tn t) := ⟨_, rfl⟩
      have Hq : Hid (p s.data.toList = q) := Lib.hid (by rw [hq, Hp.out])
      rw [← hq] at HC
      clear hsk hgw hq
      cases q with
      | false =>
        have Hd2 : d = false := by rw [Hd.out]; exact all_false Hs.out Hq.out
        subst Hd2
        go_wp2_with fail
        (with_reducible refine HC.out.mono ?_)
        rintro e w1 ⟨rfl, hb1⟩
        go_wp2_with fail
        go_ret
        exact ⟨rfl, hbw.trans (hb1.mono hsz)⟩
      | true =>
        have H2 : Hid ((ss.take (k + 1)).all p = true) := Lib.hid (by rw [all_take Hs.out, H.out, Hq.out]; rfl)
        go_wp2_with fail
        (with_reducible refine HC.out.mono ?_)
        rintro e w1 ⟨rfl, hb1⟩
        go_wp2_with fail
        go_roundw
        case rel => exact ⟨k + 1, by omega, by go_num, H2, hbw.trans (hb1.mono hsz)⟩
        case measure => simp [intOf]; omega
    · obtain rfl : k = m := by omega
      have Hd2 : d = true := by
        have := H.out
        rw [List.take_of_length_le (by rw [← Hl.out]; exact Nat.le_refl _)] at this
        rw [Hd.out, this]
      subst Hd2
      go_wp2_with fail
      go_ret
      exact ⟨rfl, hbw⟩
end Go.Proofs.Ytchoipmfngcdoaa.Sc
namespace Go.Proofs.Ytchoipmfngcdoaa.Sc
open Go.RowKit Go.Proofs.Ytchoipmfngcdoaa.Nm
set_option maxRecDepth 100000

theorem numbered_any (A : Option Addr) (n c : Nat) (d : Int) (w : World) :
    Calls Try.prog 67 #[.slice A n c, .int .i64 d] w fun e w' => e = .returned (.bool (decide (0 ≤ d ∧ d < (n : Int)))) ∧ w = w' := by
  by_cases h0 : 0 ≤ d
  · by_cases h1 : d < (n : Int)
    · have H : Hid (decide (0 ≤ d ∧ d < (n : Int)) = true) := Lib.hid (decide_eq_true ⟨h0, h1⟩)
      rw [H.out]
      go_enter Try.func67, Try.ntmps67
      go_wp2
      go_ret
      exact ⟨rfl, rfl⟩
    · have H : Hid (decide (0 ≤ d ∧ d < (n : Int)) = false) := Lib.hid (decide_eq_false (fun h => h1 h.2))
      rw [H.out]
      go_enter Try.func67, Try.ntmps67
      go_wp2
      go_ret
      exact ⟨rfl, rfl⟩
  · have H : Hid (decide (0 ≤ d ∧ d < (n : Int)) = false) := Lib.hid (decide_eq_false (fun h => h0 h.1))
    rw [H.out]
    go_enter Try.func67, Try.ntmps67
    go_wp2
    go_ret
    exact ⟨rfl, rfl⟩

theorem counted_any (d : Df) (A : Option Addr) (n c k : Nat) (w : World) :
    Calls Try.prog 69 #[.agg #[.slice A n c, .bool d.one, .bool d.some], .int .i64 k] w fun e w' => e = .returned (.bool (counts d k)) ∧ Below w.heap.size w w' := by
  have hb : ∀ o : Obj, Below w.heap.size w (w.alloc o) := fun o => (Below.refl _ _).alloc (Nat.le_refl _) o
  have HB := Lib.hid hb
  clear hb
  obtain ⟨p, q, hp⟩ : ∃ p q : Bool, p = d.one ∧ q = d.some := ⟨_, _, rfl, rfl⟩
  have H : Hid (counts d k = ((!p || decide (k = 1)) && (!q || decide (1 ≤ k)))) := Lib.hid (by rw [hp.1, hp.2]; rfl)
  rw [H.out, ← hp.1, ← hp.2]
  clear H hp
  obtain ⟨r, hr⟩ : ∃ r, r = ((!p || decide (k = 1)) && (!q || decide (1 ≤ k))) := ⟨_, rfl⟩
  have Hr := Lib.hid hr
  rw [← hr]
  clear hr
  by_cases h1 : k = 1
  · have hq1 : ((k : Int) == 1) = true := by rw [h1]; rfl
    have hq2 : (1 : Int) ≤ (k : Int) := by omega
    have hr2 : r = true := by rw [Hr.out, h1]; cases p <;> cases q <;> rfl
    subst hr2
    clear h1
    cases p <;> cases q <;> (go_enter Try.func69, Try.ntmps69; go_wp2; go_ret; exact ⟨rfl, HB.out _⟩)
  · have hq1 : ((k : Int) == 1) = false := by rw [beq_eq_false_iff_ne]; omega
    by_cases h2 : 1 ≤ k
    · have hq2 : (1 : Int) ≤ (k : Int) := by omega
      have hr2 : r = !p := by rw [Hr.out, decide_eq_false h1, decide_eq_true h2]; cases p <;> cases q <;> rfl
      subst hr2
      clear h1
      cases p <;> cases q <;> (go_enter Try.func69, Try.ntmps69; go_wp2; go_ret; exact ⟨rfl, HB.out _⟩)
    · have hq2 : ¬ (1 : Int) ≤ (k : Int) := by omega
      have hq3 : (k : Int) < 1 := by omega
      have hr2 : r = (!p && !q) := by rw [Hr.out, decide_eq_false h1, decide_eq_false h2]; cases p <;> cases q <;> rfl
      subst hr2
      clear h1
      cases p <;> cases q <;> (go_enter Try.func69, Try.ntmps69; go_wp2; go_ret; exact ⟨rfl, HB.out _⟩)

theorem box3 {w : World} {g : Nat} {u v x : Value} {T : TypeId} (h : w.heap[g]? = some (.cells #[u, v, x] T (0, 0))) : w.cell? ⟨g, 0, none⟩ = some u ∧ w.cell? ⟨g, 1, none⟩ = some v ∧ w.cell? ⟨g, 2, none⟩ = some x :=
  ⟨by rw [cell_of_row w g 0 _ _ _ h]; rfl, by rw [cell_of_row w g 1 _ _ _ h]; rfl, by rw [cell_of_row w g 2 _ _ _ h]; rfl⟩
theorem box4 {w : World} {g : Nat} {u v x y : Value} {T : TypeId} (h : w.heap[g]? = some (.cells #[u, v, x, y] T (0, 0))) : w.cell? ⟨g, 0, none⟩ = some u ∧ w.cell? ⟨g, 1, none⟩ = some v ∧ w.cell? ⟨g, 2, none⟩ = some x ∧ w.cell? ⟨g, 3, none⟩ = some y :=
  ⟨by rw [cell_of_row w g 0 _ _ _ h]; rfl, by rw [cell_of_row w g 1 _ _ _ h]; rfl, by rw [cell_of_row w g 2 _ _ _ h]; rfl, by rw [cell_of_row w g 3 _ _ _ h]; rfl⟩
theorem toF_drop {x : List UInt8} {fs : List Fld} {k : Nat} {f : Fld} (h : fs[k]? = some f) : toF x (fs.drop k) = if f.n.mem x = true then f.to else toF x (fs.drop (k + 1)) := by
  have hk : k < fs.length := (List.getElem?_eq_some_iff.1 h).1
  rw [List.drop_eq_getElem_cons hk]
  have : fs[k] = f := by rw [List.getElem?_eq_getElem hk] at h; exact Option.some.inj h
  rw [this]
  rfl

/-- A definition's fields: how a schema's cell leads there. -/
theorem Ds.at {w : World} {B n : Nat} {A : Option Addr} {s : List Df} (h : Ds w B A n s) {k : Nat} (hk : k < n) : ∃ b o D A2 n2 c2, A = some ⟨b, o, none⟩ ∧ b < B ∧ s[k]? = some D ∧ w.cell? ⟨b, o + k * 3, none⟩ = some (.slice A2 n2 c2) ∧ w.cell? ⟨b, o + k * 3 + 1, none⟩ = some (.bool D.one) ∧ w.cell? ⟨b, o + k * 3 + 2, none⟩ = some (.bool D.some) ∧ Fs w B A2 n2 D.fs ∧ n2 ≤ c2 ∧ c2 ≤ maxLen := by
  have hl : k < s.length := by rw [← h.len]; exact hk
  obtain ⟨b, o, e, hb, A2, n2, c2, h1, h2, h3, h4, h5, h6⟩ := h.cell k s[k] (List.getElem?_eq_getElem hl)
  exact ⟨b, o, s[k], A2, n2, c2, e, hb, List.getElem?_eq_getElem hl, h1, h2, h3, h4, h5, h6⟩
theorem Fs.at {w : World} {B n : Nat} {A : Option Addr} {fs : List Fld} (h : Fs w B A n fs) {k : Nat} (hk : k < n) : ∃ b o f A2 n2 c2, A = some ⟨b, o, none⟩ ∧ b < B ∧ fs[k]? = some f ∧ w.cell? ⟨b, o + k * 4, none⟩ = some (.bool f.n.all) ∧ w.cell? ⟨b, o + k * 4 + 1, none⟩ = some (.slice A2 n2 c2) ∧ w.cell? ⟨b, o + k * 4 + 2, none⟩ = some (.int .i64 f.to) ∧ w.cell? ⟨b, o + k * 4 + 3, none⟩ = some (.bool f.need) ∧ SeesV w B A2 n2 (f.n.l.map encs) ∧ n2 ≤ maxLen ∧ 0 ≤ c2 := by
  have hl : k < fs.length := by rw [← h.len]; exact hk
  obtain ⟨b, o, e, hb, A2, n2, c2, h1, h2, h3, h4, h5, h6, h7⟩ := h.cell k fs[k] (List.getElem?_eq_getElem hl)
  exact ⟨b, o, fs[k], A2, n2, c2, e, hb, List.getElem?_eq_getElem hl, h1, h2, h3, h4, h5, h6, h7⟩

set_option maxHeartbeats 2000000 in
theorem to_any (s : List Df) (A : Option Addr) (n c B : Nat) (d : Int) (x : ByteArray) (w : World) (h : Ds w B A n s) (hB : B ≤ w.heap.size) (_ : n ≤ 9223372036854775807) :
    Calls Try.prog 57 #[.slice A n c, .int .i64 d, .string x] w fun e w' => e = .returned (.int .i64 (toS s d x.data.toList)) ∧ Below w.heap.size w w' := by
  have Hn := Lib.hid h.len
  have HN := Lib.hid (fun W => numbered_any A n c d W)
  by_cases hin : 0 ≤ d ∧ d < (n : Int)
  · rw [decide_eq_true hin] at HN
    obtain ⟨k, rfl⟩ : ∃ k : Nat, d = k := ⟨d.toNat, by omega⟩
    have hk : k < n := by omega
    obtain ⟨b, o, D, A2, n2, c2, rfl, hb, hD, h1, h2, h3, hF, h5, h6⟩ := h.at hk
    have HT : Hid (toS s k x.data.toList = toF x.data.toList D.fs) := Lib.hid (toS_in hD _)
    rw [HT.out]
    have Hn2 := Lib.hid hF.len
    unfold maxLen at h6
    have hkn : (k : Int) < (n : Int) := by omega
    have hk0 : (0 : Int) ≤ (k : Int) := by omega
    obtain ⟨r, hr⟩ : ∃ r, r = toF x.data.toList D.fs := ⟨_, rfl⟩
    have Hr := Lib.hid hr
    rw [← hr]
    clear hr HT hin h2 h3 h hD
    go_enter Try.func57, Try.ntmps57
    go_wp2_with fail
    (with_reducible refine (HN.out _).mono ?_)
    rintro e w' ⟨rfl, rfl⟩
    go_wp2_with fail
    go_loopw [19] (fun i wr => ∃ j : Nat, j ≤ n2 ∧ i = .int .i64 j ∧ Hid (toF x.data.toList (D.fs.drop j) = r) ∧ Below w.heap.size w wr) (fun i _ => n2 - (intOf i).toNat)
    case atStart => exact ⟨0, Nat.zero_le _, rfl, Lib.hid (by rw [List.drop_zero, Hr.out]), Below.refl _ _⟩
    case round =>
      obtain ⟨j, hj, rfl, H, hbw⟩ := hrel
      by_cases hlt : j < n2
      · obtain ⟨b2, o2, f, A3, n3, c3, rfl, hb2, hf, f1, f2, f3, f4, hS, f5, f6⟩ := (hF.below (hbw.mono hB)).at hlt
        unfold maxLen at f5
        have hjn : (j : Int) < (n2 : Int) := by omega
        have hj0 : (0 : Int) ≤ (j : Int) := by omega
        have hsz := hbw.size
        obtain ⟨W1, hW1⟩ : ∃ W, W = wr.alloc (Obj.cells #[Value.bool f.n.all, Value.slice A3 n3 c3, Value.int .i64 f.to, Value.bool f.need] 56) := ⟨_, rfl⟩
        have g0 : W1.heap[wr.heap.size]? = some (Obj.cells #[Value.bool f.n.all, Value.slice A3 n3 c3, Value.int .i64 f.to, Value.bool f.need] 56) := by rw [hW1, heap_alloc_new]
        have hb1 : Below wr.heap.size wr W1 := by rw [hW1]; exact (Below.refl _ _).alloc (Nat.le_refl _) _
        have hIn : In W1 f.n A3 n3 := ⟨SeesV.more (Nat.le_trans (Nat.le_trans hB hsz) hb1.size) (hS.below (hb1.mono (Nat.le_trans hB hsz)))⟩
        have HC := Lib.hid (has_name f.n A3 n3 c3 x W1 hIn (by omega))
        have HD := Lib.hid (toF_drop (x := x.data.toList) hf)
        have HB1 := Lib.hid hb1
        have HG := Lib.hid g0
        obtain ⟨q0, q1, q2, q3⟩ := box4 g0
        obtain ⟨m, hm⟩ : ∃ m, m = f.n.mem x.data.toList := ⟨_, rfl⟩
        rw [← hm] at HC HD
        clear hm hb1 g0 hf hS hIn
        cases m with
        | true =>
          have hr2 : r = f.to := by rw [← H.out, HD.out, if_pos rfl]
          subst hr2
          go_wp2_with fail
          rw [← hW1]
          go_wp2_with fail
          (with_reducible refine HC.out.mono ?_)
          rintro e w1 ⟨rfl, hb3⟩
          obtain ⟨p0, p1, p2, p3⟩ := box4 (Below.box hb3 HG.out)
          go_wp2_with fail
          go_ret
          exact ⟨rfl, hbw.trans ((HB1.out.trans (hb3.mono HB1.out.size)).mono hsz)⟩
        | false =>
          have H2 : Hid (toF x.data.toList (D.fs.drop (j + 1)) = r) := Lib.hid (by rw [← H.out, HD.out]; rfl)
          go_wp2_with fail
          rw [← hW1]
          go_wp2_with fail
          (with_reducible refine HC.out.mono ?_)
          rintro e w1 ⟨rfl, hb3⟩
          go_wp2_with fail
          go_roundw
          case rel => exact ⟨j + 1, by omega, by go_num, H2, hbw.trans ((HB1.out.trans (hb3.mono HB1.out.size)).mono hsz)⟩
          case measure => simp [intOf]; omega
      · obtain rfl : j = n2 := by omega
        have hr2 : r = -1 := by
          rw [← H.out, List.drop_of_length_le (by rw [← Hn2.out]; exact Nat.le_refl _)]
          rfl
        subst hr2
        go_wp2_with fail
        go_ret
        exact ⟨rfl, hbw⟩
  · rw [decide_eq_false hin] at HN
    have HT : Hid (toS s d x.data.toList = -1) := Lib.hid (toS_out (by rw [← Hn.out]; exact hin) _)
    rw [HT.out]
    clear h hin
    go_enter Try.func57, Try.ntmps57
    go_wp2_with fail
    (with_reducible refine (HN.out _).mono ?_)
    rintro e w' ⟨rfl, rfl⟩
    go_wp2_with fail
    go_ret
    exact ⟨rfl, Below.refl _ _⟩
end Go.Proofs.Ytchoipmfngcdoaa.Sc
