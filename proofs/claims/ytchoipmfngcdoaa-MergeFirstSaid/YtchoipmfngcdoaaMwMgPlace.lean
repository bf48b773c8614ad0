/- merge: the place below a name. Conditions: fewer than 2^38 edges, in order; a path of at most a million names. · merge: all stay, with a conflict. Conditions: fewer than 2^38 edges, in order. · merge: the four rules, told alike. Conditions: fewer than 2^38 edges, in order. · merge: one more edge, if it is one; three rows grown. Conditions: fewer than 2^40 edges. · merge: three rows grown. Conditions: fewer than 2^40 edges. · merge: three rows grown by one function. Conditions: fewer than 2^40 edges. -/
import Derived.Test.YtchoipmfngcdoaaMwMgEach
namespace Go.Proofs.Ytchoipmfngcdoaa.Mg
open Go.RowKit Go.Proofs.Ytchoipmfngcdoaa.Pt Go.Proofs.Ytchoipmfngcdoaa.Df Go.Proofs.Ytchoipmfngcdoaa.Sc Go.Proofs.Ytchoipmfngcdoaa.Cl
set_option maxRecDepth 100000

/-- A path as it lies, in blocks that P picks. -/
structure PathP (w : World) (P : Nat → Prop) (s : Sl) (p : List ByteArray) : Prop where
  len : s.n = p.length
  cell : ∀ (j : Nat) (u : Value), (p.map Value.string)[j]? = some u → ∃ b o, s.A = some ⟨b, o, none⟩ ∧ P b ∧ w.cell? ⟨b, o + j, none⟩ = some u
theorem PathP.keep {w w' : World} {P : Nat → Prop} {s : Sl} {p : List ByteArray} (h : PathP w P s p) (hk : ∀ b o, P b → w'.cell? ⟨b, o, none⟩ = w.cell? ⟨b, o, none⟩) : PathP w' P s p :=
  ⟨h.len, fun j u hu => by
    obtain ⟨b, o, h1, h2, h3⟩ := h.cell j u hu
    exact ⟨b, o, h1, h2, (hk b _ h2).trans h3⟩⟩
theorem PathP.more {w : World} {P P' : Nat → Prop} {s : Sl} {p : List ByteArray} (h : PathP w P s p) (hP : ∀ b, P b → P' b) : PathP w P' s p :=
  ⟨h.len, fun j u hu => by
    obtain ⟨b, o, h1, h2, h3⟩ := h.cell j u hu
    exact ⟨b, o, h1, hP b h2, h3⟩⟩
theorem PathP.sees {w : World} {P : Nat → Prop} {B : Nat} {s : Sl} {p : List ByteArray} (h : PathP w P s p) (hP : ∀ b, P b → b < B) : SeesV w B s.A s.n (p.map Value.string) :=
  ⟨by rw [List.length_map]; exact h.len, fun j u hu => by
    obtain ⟨b, o, h1, h2, h3⟩ := h.cell j u hu
    exact ⟨b, o, h1, hP b h2, h3⟩⟩
theorem PathP.of {w : World} {B : Nat} {A : Option Addr} {n c b0 : Nat} {p : List ByteArray} (h : SeesV w B A n (p.map Value.string)) (h0 : ∀ a, A = some a → b0 ≤ a.block) : PathP w (fun b => b0 ≤ b ∧ b < B) ⟨A, n, c⟩ p :=
  ⟨by have := h.len; rwa [List.length_map] at this, fun j u hu => by
    obtain ⟨b, o, h1, h2, h3⟩ := h.cell j u hu
    exact ⟨b, o, h1, ⟨h0 _ h1, h2⟩, h3⟩⟩

abbrev zs9 : List Value := [.slice none 0 0, .slice none 0 0, .int .i64 0, .bool false, .slice none 0 0, .bool false, .slice none 0 0, .bool false, .slice none 0 0]
/-- The place below. -/
def PlaceP (w : World) (S : Sl) (d : Int) (p : List ByteArray) (o a b : Op) (e : Ending) (w' : World) : Prop :=
  ∃ P s1 s2 s3, e = .returned (plv S P d o a b s1 s2 s3) ∧ PathP w' (fun b => w.heap.size ≤ b ∧ b < w'.heap.size) P p ∧ OpN3 w w' o a b s1 s2 s3 ∧ Below w.heap.size w w'

/-- A path and a name as they are laid ahead of the call. -/
abbrev litW (W : World) (s : ByteArray) (P : Sl) : World := ((W.alloc (Obj.cells #[.string s] 9)).alloc (Obj.cells #[.slice P.A P.n P.c, .slice (some ⟨W.heap.size, 0, none⟩) 1 1] 35)).drew
def JoinP (W : World) (l : List ByteArray) (e : Ending) (w' : World) : Prop := ∃ P : Sl, e = .returned (.slice P.A P.n P.c) ∧ PathP w' (fun b => W.heap.size ≤ b ∧ b < w'.heap.size) P l ∧ Below W.heap.size W w'
theorem lits (s : ByteArray) (P : Sl) (p : List ByteArray) (W : World) (hp : SeesV W W.heap.size P.A P.n (p.map Value.string)) (hp2 : p.length + 1 ≤ 1000000) :
    Calls Try.prog 56 #[.slice (some ⟨W.heap.size + 1, 0, none⟩) 2 2] (litW W s P) (JoinP W (p ++ [s])) := by
  have hb4 : Below W.heap.size W (litW W s P) := (((Below.refl _ _).alloc (Nat.le_refl _) _).alloc (by simp) _).drew
  have hg5 : (litW W s P).heap[W.heap.size + 1]? = some (Obj.cells #[.slice P.A P.n P.c, .slice (some ⟨W.heap.size, 0, none⟩) 1 1] 35) := by
    have e : (W.alloc (Obj.cells #[.string s] 9)).heap.size = W.heap.size + 1 := by simp
    rw [← e]
    exact heap_alloc_new _ _
  have hg6 : Bx (litW W s P) W.heap.size [.string s] 9 := (Bx.new W [.string s] 9).alloc _
  have hpl : P.n = p.length := by have := hp.len; rwa [List.length_map] at this
  refine (Nm.concatW_any p [s] P.A (some ⟨W.heap.size, 0, none⟩) P.n 1 P.c 1 (W.heap.size + 1) (litW W s P) hg5 (seesV_more (hp.below hb4) hb4.size) (sees_one hg6 hg6.lt) (by omega)).mono ?_
  rintro e w' ⟨A', c', rfl, hs, hn, hb⟩
  exact ⟨⟨A', (p ++ [s]).length, c'⟩, rfl, (PathP.of hs hn).more fun b hb => ⟨Nat.le_trans hb4.size hb.1, hb.2⟩, hb4.trans (hb.mono hb4.size)⟩

set_option maxHeartbeats 8000000 in
theorem pbelow_any (sc : List Df) (S P : Sl) (d : Int) (p : List ByteArray) (o a b : Op) (s : ByteArray) (so sa sb : Sl) (w : World) (h : Pl3 w w.heap.size o a b so sa sb) (hk : K3 o a b) (hS : Ds w w.heap.size S.A S.n sc) (hp : SeesV w w.heap.size P.A P.n (p.map Value.string)) (hp2 : p.length + 1 ≤ 1000000) (hSn : S.n ≤ 1000000) :
    Calls Try.prog 42 #[plv S P d o a b so sa sb, .string s] w (PlaceP w S (toS sc d s.data.toList) (p ++ [s]) (o.below s) (a.below s) (b.below s)) := by
  -- three boxes: the place, the name, the answer
  obtain ⟨W1, hW1, hb1, hz1, g1⟩ := box1 w (plc S P d o a b so sa sb) 75
  obtain ⟨W2, hW2, hb2, hz2, g2, g3⟩ := boxes2 W1 [.string s] zs9 9 75
  have hb := hb1.trans (hb2.mono hb1.size)
  have g1 := g1.below hb2 (by omega)
  rw [hz1] at g2 g3
  have hz : W2.heap.size = w.heap.size + 3 := by omega
  have HL := Lib.hid (fun (W : World) (hW : Below W2.heap.size W2 W) => Bx.c9 (g1.below hW (by omega)))
  have HM := Lib.hid (fun (W : World) (hW : Below W2.heap.size W2 W) => (g2.below hW (by omega)).cells 0)
  have HB := Lib.hid hb
  have Hz := Lib.hid hz
  have HG := Lib.hid g3
  have HC := Lib.hid (fun (W : World) (hW : Below W2.heap.size W2 W) => lits s P p W (seesV_more ((hp.below hb).below (hW.mono hb.size)) (Nat.le_trans hb.size hW.size)) hp2)
  have HT := Lib.hid (fun (W : World) (hW : Below W2.heap.size W2 W) => to_any sc S.A S.n S.c w.heap.size d s W ((hS.keep fun q hq => hb.cell hq).keep fun q hq => hW.cell (Nat.lt_of_lt_of_le hq hb.size)) (Nat.le_trans hb.size hW.size) (by omega))
  have HE := Lib.hid (fun (W : World) (hW : Below W2.heap.size W2 W) => eachb_any o a b s so sa sb (w.heap.size + 1) W (((h.below hb).below (hW.mono hb.size)).more (Nat.le_trans hb.size hW.size)) hk ((g2.below hW (by omega)).cells 0))
  obtain ⟨xo, hxo⟩ : ∃ x, x = o.below s := ⟨_, rfl⟩
  obtain ⟨xa, hxa⟩ : ∃ x, x = a.below s := ⟨_, rfl⟩
  obtain ⟨xb, hxb⟩ : ∃ x, x = b.below s := ⟨_, rfl⟩
  obtain ⟨d2, hd2⟩ : ∃ x, x = toS sc d s.data.toList := ⟨_, rfl⟩
  obtain ⟨q, hq⟩ : ∃ x, x = p ++ [s] := ⟨_, rfl⟩
  rw [← hxo, ← hxa, ← hxb] at HE ⊢
  rw [← hd2] at HT ⊢
  rw [← hq] at HC ⊢
  clear h hk hS hp hp2 hSn hb1 hb2 hz1 hz2 g1 g2 g3 hb hz hxo hxa hxb hd2 hq
  obtain ⟨oi, ot⟩ := o
  obtain ⟨ai, at_⟩ := a
  obtain ⟨bi, bt⟩ := b
  obtain ⟨SA, Sn, Sc⟩ := S
  obtain ⟨PA, Pn, Pc⟩ := P
  obtain ⟨oA, on, oc⟩ := so
  obtain ⟨aA, an, ac⟩ := sa
  obtain ⟨bA, bn, bc⟩ := sb
  simp only at HE HT HL HC
  have HP2 := Lib.hid (fun (W V : World) (hW : Below W2.heap.size W2 W) (hv : ∀ b o, b ≠ w.heap.size + 1 + 1 → V.cell? ⟨b, o, none⟩ = W.cell? ⟨b, o, none⟩) => (show V.cell? ⟨w.heap.size, 0, none⟩ = some (.slice SA Sn Sc) ∧ V.cell? ⟨w.heap.size, 1, none⟩ = some (.slice PA Pn Pc) ∧ V.cell? ⟨w.heap.size, 2, none⟩ = some (.int .i64 d) ∧ V.cell? ⟨w.heap.size, 3, none⟩ = some (.bool oi) ∧ V.cell? ⟨w.heap.size, 4, none⟩ = some (.slice oA on oc) ∧ V.cell? ⟨w.heap.size, 5, none⟩ = some (.bool ai) ∧ V.cell? ⟨w.heap.size, 6, none⟩ = some (.slice aA an ac) ∧ V.cell? ⟨w.heap.size, 7, none⟩ = some (.bool bi) ∧ V.cell? ⟨w.heap.size, 8, none⟩ = some (.slice bA bn bc) ∧ V.cell? ⟨w.heap.size + 1, 0, none⟩ = some (.string s) from by
    obtain ⟨l0, l1, l2, l3, l4, l5, l6, l7, l8⟩ := HL.out W hW
    have h0 : w.heap.size ≠ w.heap.size + 1 + 1 := by omega
    have h1 : w.heap.size + 1 ≠ w.heap.size + 1 + 1 := by omega
    exact ⟨(hv _ _ h0).trans l0, (hv _ _ h0).trans l1, (hv _ _ h0).trans l2, (hv _ _ h0).trans l3, (hv _ _ h0).trans l4, (hv _ _ h0).trans l5, (hv _ _ h0).trans l6, (hv _ _ h0).trans l7, (hv _ _ h0).trans l8, (hv _ _ h1).trans (HM.out W hW)⟩))
  have HP := Lib.hid (fun (W : World) (hW : Below W2.heap.size W2 W) => HP2.out W W hW (fun _ _ _ => rfl))
  clear HL HM
  go_enter Try.func42, Try.ntmps42
  go_wp2_with fail
  rw [← hW1, ← hW2]
  clear hW1 hW2
  have HBc := Lib.hid (Below.refl W2.heap.size W2).drew
  go_upto_region 1 with (fail)
  go_region_held3 (fun W => W.cell? ⟨w.heap.size, 0, none⟩ = some (.slice SA Sn Sc) ∧ W.cell? ⟨w.heap.size, 1, none⟩ = some (.slice PA Pn Pc) ∧ W.cell? ⟨w.heap.size, 2, none⟩ = some (.int .i64 d) ∧ W.cell? ⟨w.heap.size, 3, none⟩ = some (.bool oi) ∧ W.cell? ⟨w.heap.size, 4, none⟩ = some (.slice oA on oc) ∧ W.cell? ⟨w.heap.size, 5, none⟩ = some (.bool ai) ∧ W.cell? ⟨w.heap.size, 6, none⟩ = some (.slice aA an ac) ∧ W.cell? ⟨w.heap.size, 7, none⟩ = some (.bool bi) ∧ W.cell? ⟨w.heap.size, 8, none⟩ = some (.slice bA bn bc) ∧ W.cell? ⟨w.heap.size + 1, 0, none⟩ = some (.string s))
    (first | with_reducible exact HP.out _ HBc.out | with_reducible exact HP.out _ (((Below.refl W2.heap.size W2).alloc (Nat.le_refl _) _).drew) | with_reducible exact HP.out _ ((((Below.refl W2.heap.size W2).alloc (Nat.le_refl _) _).alloc (by simp) _).drew) | exact HP2.out _ _ HBc.out (fun b o hb => keep_s9 _ _ _ _ _ _ _ _ _ _ b o hb))
    (first
    | (go_at_call 56; (with_reducible refine (HC.out W2 (Below.refl _ _)).mono ?_); rintro e w3 ⟨Q, rfl, hq3, hb3⟩; have HQ3 := Lib.hid hq3; have HB3 := Lib.hid hb3; have HBc := Lib.hid hb3; clear hq3 hb3)
    | (go_at_call 57; (with_reducible refine (HT.out _ HBc.out).mono ?_); rintro e w4 ⟨rfl, hb4⟩; have HB4 := Lib.hid hb4; have HBc := Lib.hid (show Below W2.heap.size W2 w4 from HBc.out.trans (hb4.mono HBc.out.size)); clear hb4)
    | (go_at_call 53; (with_reducible refine (HE.out _ HBc.out).mono ?_); rintro e w5 ⟨s1, s2, s3, rfl, hn5, hb5⟩; have HB5 := Lib.hid hb5; have HN5 := Lib.hid hn5; have HBc := Lib.hid (show Below W2.heap.size W2 w5 from HBc.out.trans (hb5.mono HBc.out.size)); have g5 := HG.out.below HBc.out HG.out.lt; obtain ⟨d0, d1, d2_, d3, d4, d5, d6, d7, d8⟩ := g5.c9; obtain ⟨z0, z1, z2, z3, z4, z5, z6, z7, z8⟩ := g5.f9; have HG5 := Lib.hid g5; obtain ⟨QA, Qn, Qc⟩ := Q; obtain ⟨A1, n1, m1⟩ := s1; obtain ⟨A2, n2, m2⟩ := s2; obtain ⟨A3, n3, m3⟩ := s3; clear hb5 hn5 g5))
  all_goals
    go_wp2_with fail
    obtain ⟨e0, e1, e2, e3, e4, e5, e6, e7, e8⟩ := (HG5.out.s9 (.slice SA Sn Sc) (.slice QA Qn Qc) (.int .i64 d2) (.bool xo.is) (.slice A1 n1 m1) (.bool xa.is) (.slice A2 n2 m2) (.bool xb.is) (.slice A3 n3 m3)).c9
    refine bodyPost_ret (v := plv ⟨SA, Sn, Sc⟩ ⟨QA, Qn, Qc⟩ d2 xo xa xb ⟨A1, n1, m1⟩ ⟨A2, n2, m2⟩ ⟨A3, n3, m3⟩) (by simp [results, Try.results42, go_sem, e0, e1, e2, e3, e4, e5, e6, e7, e8]) rfl ?_
    have hz := Hz.out
    have hbs := HB.out.size
    have h3s := HB3.out.size
    have h4s := HB4.out.size
    have h5s := HB5.out.size
    refine ⟨⟨QA, Qn, Qc⟩, ⟨A1, n1, m1⟩, ⟨A2, n2, m2⟩, ⟨A3, n3, m3⟩, rfl, ?_, ?_, below_s9 (HB.out.trans (HBc.out.mono hbs)) (by omega) ..⟩
    · refine ((((HQ3.out.keep fun b o hp => HB4.out.cell (p := ⟨b, o, none⟩) hp.2).keep fun b o hp => HB5.out.cell (p := ⟨b, o, none⟩) (Nat.lt_of_lt_of_le hp.2 h4s)).keep fun b o hp => keep_s9 _ _ _ _ _ _ _ _ _ _ b o (by omega))).more fun b hp => ⟨by omega, by simp; omega⟩
    · have hs9 : ∀ {A n c x}, OpN w4 w5 A n c x → OpN w (st9 w5 (w.heap.size + 1 + 1) (.slice SA Sn Sc) (.slice QA Qn Qc) (.int .i64 d2) (.bool xo.is) (.slice A1 n1 m1) (.bool xa.is) (.slice A2 n2 m2) (.bool xb.is) (.slice A3 n3 m3)) A n c x := fun hn => (hn.keep fun b o hp => keep_s9 w5 _ _ _ _ _ _ _ _ _ b o (by omega)).more fun b hp => ⟨by omega, by simp; omega⟩
      exact ⟨hs9 HN5.out.1, hs9 HN5.out.2.1, hs9 HN5.out.2.2⟩
end Go.Proofs.Ytchoipmfngcdoaa.Mg
namespace Go.Proofs.Ytchoipmfngcdoaa.Mg
open Go.RowKit Go.Proofs.Ytchoipmfngcdoaa.Pt Go.Proofs.Ytchoipmfngcdoaa.Df Go.Proofs.Ytchoipmfngcdoaa.Sc Go.Proofs.Ytchoipmfngcdoaa.Cl
set_option maxRecDepth 100000

/-- Conflicts as they lie, in blocks that P picks. -/
structure CfP (w : World) (P : Nat → Prop) (s : Sl) (l : List (List ByteArray × Int)) : Prop where
  len : s.n = l.length
  cell : ∀ (j : Nat) (q : List ByteArray × Int), l[j]? = some q → ∃ b o Q, s.A = some ⟨b, o, none⟩ ∧ P b ∧ w.cell? ⟨b, o + j * 2, none⟩ = some (.slice Q.A Q.n Q.c) ∧ w.cell? ⟨b, o + j * 2 + 1, none⟩ = some (.int .i64 q.2) ∧ PathP w P Q q.1
theorem CfP.keep {w w' : World} {P : Nat → Prop} {s : Sl} {l : List (List ByteArray × Int)} (h : CfP w P s l) (hk : ∀ b o, P b → w'.cell? ⟨b, o, none⟩ = w.cell? ⟨b, o, none⟩) : CfP w' P s l :=
  ⟨h.len, fun j q hq => by
    obtain ⟨b, o, Q, h1, h2, h3, h4, h5⟩ := h.cell j q hq
    exact ⟨b, o, Q, h1, h2, (hk b _ h2).trans h3, (hk b _ h2).trans h4, h5.keep hk⟩⟩
theorem CfP.more {w : World} {P P' : Nat → Prop} {s : Sl} {l : List (List ByteArray × Int)} (h : CfP w P s l) (hP : ∀ b, P b → P' b) : CfP w P' s l :=
  ⟨h.len, fun j q hq => by
    obtain ⟨b, o, Q, h1, h2, h3, h4, h5⟩ := h.cell j q hq
    exact ⟨b, o, Q, h1, hP b h2, h3, h4, h5.more hP⟩⟩
theorem CfP.nil (w : World) (P : Nat → Prop) : CfP w P nil4 [] := ⟨rfl, fun j q hq => by simp at hq⟩
theorem CfP.one {w : World} {P : Nat → Prop} {g : Nat} {Q : Sl} {p : List ByteArray} {k : Int} {T : TypeId} (h : Bx w g [.slice Q.A Q.n Q.c, .int .i64 k] T) (hg : P g) (hq : PathP w P Q p) : CfP w P ⟨some ⟨g, 0, none⟩, 1, 1⟩ [(p, k)] :=
  ⟨rfl, fun j q hq' => by
    match j, hq' with
    | 0, hq' =>
      have : q = (p, k) := by simpa using hq'.symm
      subst this
      exact ⟨g, 0, Q, rfl, hg, h.cells 0, h.cells 1, hq⟩
    | j + 1, hq' => simp at hq'⟩
/-- What comes of a place: three trees in new memory; conflicts whose paths lie there, or where Pp says. -/
def OutP (w : World) (Pp : Nat → Prop) (x y z : Op) (l : List (List ByteArray × Int)) (e : Ending) (w' : World) : Prop :=
  ∃ s1 s2 s3 s4, e = .returned (outv x y z s1 s2 s3 s4) ∧ OpN3 w w' x y z s1 s2 s3 ∧ CfP w' (fun b => Pp b ∨ (w.heap.size ≤ b ∧ b < w'.heap.size)) s4 l ∧ s4.n ≤ s4.c ∧ Below w.heap.size w w'
theorem OpN.s7s {w w0 w3 : World} {x y z : Op} {s1 s2 s3 : Sl} {g : Nat} (hb : w.heap.size ≤ w0.heap.size) (hg : g < w0.heap.size) (h : OpN3 w0 w3 x y z s1 s2 s3) (b0 b1 b2 b3 b4 b5 b6 : Value) : OpN3 w (st7 w3 g b0 b1 b2 b3 b4 b5 b6) x y z s1 s2 s3 :=
  ⟨h.1.s7 hb hg .., h.2.1.s7 hb hg .., h.2.2.s7 hb hg ..⟩
theorem OpN3.grow {w w1 w2 w3 : World} {x y z : Op} {s1 s2 s3 : Sl} (h : OpN3 w1 w2 x y z s1 s2 s3) (h1 : w.heap.size ≤ w1.heap.size) (hb : Below w2.heap.size w2 w3) : OpN3 w w3 x y z s1 s2 s3 :=
  ⟨OpN.grow h.1 h1 hb, OpN.grow h.2.1 h1 hb, OpN.grow h.2.2 h1 hb⟩

theorem keep_s7a (w : World) (x : Obj) {g : Nat} (b0 b1 b2 b3 b4 b5 b6 : Value) (b o : Nat) (h : b ≠ g) (hl : b < w.heap.size) : ((st7 w g b0 b1 b2 b3 b4 b5 b6).alloc x).cell? ⟨b, o, none⟩ = w.cell? ⟨b, o, none⟩ :=
  (((Below.refl (st7 w g b0 b1 b2 b3 b4 b5 b6).heap.size _).alloc (Nat.le_refl _) x).cell (p := ⟨b, o, none⟩) (by simpa using hl)).trans (keep_s7 w b0 b1 b2 b3 b4 b5 b6 b o h)

set_option maxHeartbeats 8000000 in
theorem kept_any (S P : Sl) (d k : Int) (p : List ByteArray) (Pp : Nat → Prop) (o a b : Op) (so sa sb : Sl) (w : World) (h : Pl3 w w.heap.size o a b so sa sb) (hk : K3 o a b) (hp : PathP w Pp P p) (hpp : ∀ b, Pp b → b < w.heap.size) :
    Calls Try.prog 40 #[plv S P d o a b so sa sb, .int .i64 k] w (OutP w Pp o a b [(p, k)]) := by
  obtain ⟨W2, hW2, hb, hz, g1, g2⟩ := boxes2 w (plc S P d o a b so sa sb) zs7 75 73
  have HL := Lib.hid (fun (W : World) (hW : Below W2.heap.size W2 W) => Bx.c9 (g1.below hW (by omega)))
  have HE := Lib.hid (fun (W : World) (hW : Below W2.heap.size W2 W) => eachf_any o a b so sa sb W (((h.below hb).below (hW.mono hb.size)).more (Nat.le_trans hb.size hW.size)) hk)
  have HB := Lib.hid hb
  have Hz := Lib.hid hz
  have HG := Lib.hid g2
  have HPa := Lib.hid (hp.keep (w' := W2) fun b o hp => hb.cell (p := ⟨b, o, none⟩) (hpp b hp))
  have HPp := Lib.hid hpp
  clear h hb g1 hz g2 hk hp hpp
  obtain ⟨oi, ot⟩ := o
  obtain ⟨ai, at_⟩ := a
  obtain ⟨bi, bt⟩ := b
  obtain ⟨SA, Sn, Sc⟩ := S
  obtain ⟨PA, Pn, Pc⟩ := P
  obtain ⟨oA, on, oc⟩ := so
  obtain ⟨aA, an, ac⟩ := sa
  obtain ⟨bA, bn, bc⟩ := sb
  simp only at HE HL
  have HP2 := Lib.hid (fun (W V : World) (hW : Below W2.heap.size W2 W) (hv : ∀ b o, b ≠ w.heap.size + 1 → b < W.heap.size → V.cell? ⟨b, o, none⟩ = W.cell? ⟨b, o, none⟩) => (show V.cell? ⟨w.heap.size, 1, none⟩ = some (.slice PA Pn Pc) ∧ V.cell? ⟨w.heap.size, 3, none⟩ = some (.bool oi) ∧ V.cell? ⟨w.heap.size, 4, none⟩ = some (.slice oA on oc) ∧ V.cell? ⟨w.heap.size, 5, none⟩ = some (.bool ai) ∧ V.cell? ⟨w.heap.size, 6, none⟩ = some (.slice aA an ac) ∧ V.cell? ⟨w.heap.size, 7, none⟩ = some (.bool bi) ∧ V.cell? ⟨w.heap.size, 8, none⟩ = some (.slice bA bn bc) from by
    obtain ⟨l0, l1, l2, l3, l4, l5, l6, l7, l8⟩ := HL.out W hW
    have h0 : w.heap.size ≠ w.heap.size + 1 := by omega
    have h1 : w.heap.size < W.heap.size := by have := hW.size; have := Hz.out; omega
    exact ⟨(hv _ _ h0 h1).trans l1, (hv _ _ h0 h1).trans l3, (hv _ _ h0 h1).trans l4, (hv _ _ h0 h1).trans l5, (hv _ _ h0 h1).trans l6, (hv _ _ h0 h1).trans l7, (hv _ _ h0 h1).trans l8⟩))
  have HP := Lib.hid (fun (W : World) (hW : Below W2.heap.size W2 W) => HP2.out W W hW (fun _ _ _ _ => rfl))
  have HBc := Lib.hid (Below.refl W2.heap.size W2).drew
  clear HL
  go_enter Try.func40, Try.ntmps40
  go_wp2_with fail
  rw [← hW2]
  clear hW2
  go_upto_region 1 with (fail)
  go_region_held3 (fun W => W.cell? ⟨w.heap.size, 1, none⟩ = some (.slice PA Pn Pc) ∧ W.cell? ⟨w.heap.size, 3, none⟩ = some (.bool oi) ∧ W.cell? ⟨w.heap.size, 4, none⟩ = some (.slice oA on oc) ∧ W.cell? ⟨w.heap.size, 5, none⟩ = some (.bool ai) ∧ W.cell? ⟨w.heap.size, 6, none⟩ = some (.slice aA an ac) ∧ W.cell? ⟨w.heap.size, 7, none⟩ = some (.bool bi) ∧ W.cell? ⟨w.heap.size, 8, none⟩ = some (.slice bA bn bc))
    (first | with_reducible exact HP.out _ HBc.out | with_reducible exact HP.out _ (((Below.refl W2.heap.size W2).alloc (Nat.le_refl _) _).drew) | with_reducible exact HP.out _ (HBc.out.alloc HBc.out.size _) | with_reducible exact HP2.out _ _ HBc.out (fun b o hb _ => keep_s7 _ _ _ _ _ _ _ _ b o hb) | with_reducible exact HP2.out _ _ HBc.out (fun b o hb hl => keep_s7a _ _ _ _ _ _ _ _ _ b o hb hl))
    (first
    | (go_at_call 53; (with_reducible refine (HE.out _ HBc.out).mono ?_); rintro e w3 ⟨s1, s2, s3, rfl, hn3, hb3⟩; have HB3 := Lib.hid (show Below W2.drew.heap.size W2.drew w3 from hb3); have HN3 := Lib.hid (show OpN3 W2.drew w3 _ _ _ s1 s2 s3 from hn3); have HBc := Lib.hid (show Below W2.heap.size W2 w3 from HBc.out.trans (hb3.mono HBc.out.size)); obtain ⟨A1, n1, m1⟩ := s1; obtain ⟨A2, n2, m2⟩ := s2; obtain ⟨A3, n3, m3⟩ := s3; have g3 := HG.out.below HBc.out HG.out.lt; have hgl := g3.lt; obtain ⟨d0, d1, d2, d3, d4, d5, d6⟩ := g3.c7; obtain ⟨z0, z1, z2, z3, z4, z5, z6⟩ := g3.f7; obtain ⟨d0', d1', d2', d3', d4', d5', d6'⟩ := (g3.alloc (Obj.cells #[Value.slice PA Pn Pc, .int .i64 k] 38)).c7; obtain ⟨z0', z1', z2', z3', z4', z5', z6'⟩ := (g3.alloc (Obj.cells #[Value.slice PA Pn Pc, .int .i64 k] 38)).f7; have HG3 := Lib.hid g3; clear hb3 hn3 g3)
    | (go_at_call 53; (with_reducible refine (HE.out _ (((Below.refl W2.heap.size W2).alloc (Nat.le_refl _) _).drew)).mono ?_); rintro e w3 ⟨s1, s2, s3, rfl, hn3, hb3⟩; have HB4 := Lib.hid (show Below (W2.alloc (Obj.cells #[Value.slice PA Pn Pc, .int .i64 k] 38)).drew.heap.size (W2.alloc (Obj.cells #[Value.slice PA Pn Pc, .int .i64 k] 38)).drew w3 from hb3); have HN4 := Lib.hid (show OpN3 (W2.alloc (Obj.cells #[Value.slice PA Pn Pc, .int .i64 k] 38)).drew w3 _ _ _ s1 s2 s3 from hn3); have HBc := Lib.hid (show Below W2.heap.size W2 w3 from (((Below.refl W2.heap.size W2).alloc (Nat.le_refl _) _).drew).trans (hb3.mono (by simp [World.drew]))); obtain ⟨A1, n1, m1⟩ := s1; obtain ⟨A2, n2, m2⟩ := s2; obtain ⟨A3, n3, m3⟩ := s3; have g3 := HG.out.below HBc.out HG.out.lt; obtain ⟨d0, d1, d2, d3, d4, d5, d6⟩ := g3.c7; obtain ⟨z0, z1, z2, z3, z4, z5, z6⟩ := g3.f7; have HG3 := Lib.hid g3; clear hb3 hn3 g3))
  case _ =>
    go_wp2_with fail
    obtain ⟨e0, e1, e2, e3, e4, e5, e6⟩ := ((HG3.out.s7 (.bool oi) (.slice A1 n1 m1) (.bool ai) (.slice A2 n2 m2) (.bool bi) (.slice A3 n3 m3) (.slice (some ⟨w3.heap.size, 0, none⟩) 1 1)).alloc (Obj.cells #[Value.slice PA Pn Pc, .int .i64 k] 38)).c7
    refine bodyPost_ret (v := outv ⟨oi, ot⟩ ⟨ai, at_⟩ ⟨bi, bt⟩ ⟨A1, n1, m1⟩ ⟨A2, n2, m2⟩ ⟨A3, n3, m3⟩ ⟨some ⟨w3.heap.size, 0, none⟩, 1, 1⟩) (by simp [results, Try.results40, go_sem, e0, e1, e2, e3, e4, e5, e6]) rfl ?_
    have hz := Hz.out
    have hbs := HB.out.size
    have h3s := HBc.out.size
    have hsz : (st7 w3 (w.heap.size + 1) (.bool oi) (.slice A1 n1 m1) (.bool ai) (.slice A2 n2 m2) (.bool bi) (.slice A3 n3 m3) (.slice (some ⟨w3.heap.size, 0, none⟩) 1 1)).heap.size = w3.heap.size := by simp
    have hnew := Bx.new (st7 w3 (w.heap.size + 1) (.bool oi) (.slice A1 n1 m1) (.bool ai) (.slice A2 n2 m2) (.bool bi) (.slice A3 n3 m3) (.slice (some ⟨w3.heap.size, 0, none⟩) 1 1)) [Value.slice PA Pn Pc, .int .i64 k] 38
    rw [hsz] at hnew
    refine ⟨⟨A1, n1, m1⟩, ⟨A2, n2, m2⟩, ⟨A3, n3, m3⟩, ⟨some ⟨w3.heap.size, 0, none⟩, 1, 1⟩, rfl, ?_, ?_, Nat.le_refl _, ?_⟩
    · exact OpN3.grow (w1 := w) (OpN.s7s (w0 := W2.drew) hbs (by simp only [World.drew]; omega) HN3.out (.bool oi) (.slice A1 n1 m1) (.bool ai) (.slice A2 n2 m2) (.bool bi) (.slice A3 n3 m3) (.slice (some ⟨w3.heap.size, 0, none⟩) 1 1)) (Nat.le_refl _) ((Below.refl _ _).alloc (Nat.le_refl _) _)
    · refine CfP.one (Q := ⟨PA, Pn, Pc⟩) hnew (.inr ⟨by omega, by simp⟩) ?_
      exact (((HPa.out.keep fun b o hb => HBc.out.cell (p := ⟨b, o, none⟩) (Nat.lt_of_lt_of_le (HPp.out b hb) hbs)).keep fun b o hb => keep_s7a w3 _ _ _ _ _ _ _ _ b o (by have := HPp.out b hb; omega) (by have := HPp.out b hb; omega))).more fun b hb => .inl hb
    · exact (below_s7 (HB.out.trans (HBc.out.mono hbs)) (by omega) ..).alloc (by simp; omega) _
  case _ =>
    go_wp2_with fail
    obtain ⟨e0, e1, e2, e3, e4, e5, e6⟩ := (HG3.out.s7 (.bool oi) (.slice A1 n1 m1) (.bool ai) (.slice A2 n2 m2) (.bool bi) (.slice A3 n3 m3) (.slice (some ⟨W2.heap.size, 0, none⟩) 1 1)).c7
    refine bodyPost_ret (v := outv ⟨oi, ot⟩ ⟨ai, at_⟩ ⟨bi, bt⟩ ⟨A1, n1, m1⟩ ⟨A2, n2, m2⟩ ⟨A3, n3, m3⟩ ⟨some ⟨W2.heap.size, 0, none⟩, 1, 1⟩) (by simp [results, Try.results40, go_sem, e0, e1, e2, e3, e4, e5, e6]) rfl ?_
    have hz := Hz.out
    have hbs := HB.out.size
    have h3s := HBc.out.size
    have hlz : (W2.alloc (Obj.cells #[Value.slice PA Pn Pc, .int .i64 k] 38)).drew.heap.size = W2.heap.size + 1 := by simp [World.drew]
    have h4s := HB4.out.size
    have hnew : Bx w3 W2.heap.size [Value.slice PA Pn Pc, .int .i64 k] 38 := Bx.below (show Bx (W2.alloc (Obj.cells #[Value.slice PA Pn Pc, .int .i64 k] 38)).drew W2.heap.size _ _ from Bx.new W2 [Value.slice PA Pn Pc, .int .i64 k] 38) HB4.out (by omega)
    have hnew2 : Bx (st7 w3 (w.heap.size + 1) (.bool oi) (.slice A1 n1 m1) (.bool ai) (.slice A2 n2 m2) (.bool bi) (.slice A3 n3 m3) (.slice (some ⟨W2.heap.size, 0, none⟩) 1 1)) W2.heap.size [Value.slice PA Pn Pc, .int .i64 k] 38 := by
      unfold Bx at hnew ⊢
      have far : ∀ (V : World) (j : Nat) (v : Value), V.heap[W2.heap.size]? = some (Obj.cells #[Value.slice PA Pn Pc, .int .i64 k] 38) → (V.setCell ⟨w.heap.size + 1, j, none⟩ v).heap[W2.heap.size]? = some (Obj.cells #[Value.slice PA Pn Pc, .int .i64 k] 38) := fun V j v hV => by
        rw [heap_setCell_other V _ _ _ (show W2.heap.size ≠ w.heap.size + 1 by omega)]
        exact hV
      exact far _ _ _ (far _ _ _ (far _ _ _ (far _ _ _ (far _ _ _ (far _ _ _ (far _ _ _ hnew))))))
    refine ⟨⟨A1, n1, m1⟩, ⟨A2, n2, m2⟩, ⟨A3, n3, m3⟩, ⟨some ⟨W2.heap.size, 0, none⟩, 1, 1⟩, rfl, ?_, ?_, Nat.le_refl _, below_s7 (HB.out.trans (HBc.out.mono hbs)) (by omega) ..⟩
    · exact OpN.s7s (w0 := (W2.alloc (Obj.cells #[Value.slice PA Pn Pc, .int .i64 k] 38)).drew) (by omega) (by omega) HN4.out ..
    · refine CfP.one (Q := ⟨PA, Pn, Pc⟩) hnew2 (.inr ⟨by omega, by simp; omega⟩) ?_
      exact (((HPa.out.keep fun b o hb => HBc.out.cell (p := ⟨b, o, none⟩) (Nat.lt_of_lt_of_le (HPp.out b hb) hbs)).keep fun b o hb => keep_s7 w3 _ _ _ _ _ _ _ b o (by have := HPp.out b hb; omega))).more fun b hb => .inl hb
end Go.Proofs.Ytchoipmfngcdoaa.Mg
namespace Go.Proofs.Ytchoipmfngcdoaa.Mg
open Go.RowKit Go.Proofs.Ytchoipmfngcdoaa.Pt Go.Proofs.Ytchoipmfngcdoaa.Df Go.Proofs.Ytchoipmfngcdoaa.Sc Go.Proofs.Ytchoipmfngcdoaa.Cl
set_option maxRecDepth 100000

/-- A rule that holds tells what comes of the place. -/
def RuleP (w : World) (Pp : Nat → Prop) (m : Mo) (v : Bool) (e : Ending) (w' : World) : Prop :=
  ∃ (x y z : Op) (s1 s2 s3 s4 : Sl), e = .returned (.tuple #[outv x y z s1 s2 s3 s4, .bool v]) ∧ (v = true → x = m.o ∧ y = m.a ∧ z = m.b ∧ OpN3 w w' m.o m.a m.b s1 s2 s3 ∧ CfP w' (fun b => Pp b ∨ (w.heap.size ≤ b ∧ b < w'.heap.size)) s4 m.l ∧ s4.n ≤ s4.c) ∧ Below w.heap.size w w'
theorem TakenP.rule {w w' : World} {Pp : Nat → Prop} {x : Op} {v : Bool} {e : Ending} (h : TakenP w x v e w') : RuleP w Pp ⟨x, x, x, []⟩ v e w' := by
  obtain ⟨y, s1, s2, s3, rfl, h1, h2⟩ := h
  exact ⟨y, y, y, s1, s2, s3, nil4, rfl, fun hv => ⟨(h1 hv).1, (h1 hv).1, (h1 hv).1, (h1 hv).2, CfP.nil _ _, Nat.le_refl _⟩, h2⟩

set_option maxHeartbeats 2000000 in
theorem gone_any (S P : Sl) (d : Int) (p : List ByteArray) (Pp : Nat → Prop) (o a b : Op) (so sa sb : Sl) (w : World) (h : Pl3 w w.heap.size o a b so sa sb) (hk : K3 o a b) (hp : PathP w Pp P p) (hpp : ∀ b, Pp b → b < w.heap.size) :
    Calls Try.prog 34 #[plv S P d o a b so sa sb] w (RuleP w Pp ⟨o, a, b, [(p, kGone)]⟩ (!(a.is && b.is))) := by
  obtain ⟨W2, hW2, hb, hz, g1, g2⟩ := boxes2 w (plc S P d o a b so sa sb) zs7 75 73
  have HKp := Lib.hid (kept_any S P d 1 p Pp o a b so sa sb W2 ((h.below hb).more hb.size) hk (hp.keep fun b o hp => hb.cell (p := ⟨b, o, none⟩) (hpp b hp)) (fun b hp => Nat.lt_of_lt_of_le (hpp b hp) hb.size))
  obtain ⟨l0, l1, l2, l3, l4, l5, l6, l7, l8⟩ := g1.c9
  have HB := Lib.hid hb
  have Hz := Lib.hid hz
  have HG := Lib.hid g2
  have HPp := Lib.hid hpp
  obtain ⟨v, hv⟩ : ∃ v, v = (!(a.is && b.is)) := ⟨_, rfl⟩
  rw [← hv]
  cases v with
  | true =>
    have Hv := Lib.hid hv
    clear h hb g1 hz g2 hk hp hpp hv
    obtain ⟨oi, ot⟩ := o
    obtain ⟨ai, at_⟩ := a
    obtain ⟨bi, bt⟩ := b
    obtain ⟨SA, Sn, Sc⟩ := S
    obtain ⟨PA, Pn, Pc⟩ := P
    obtain ⟨oA, on, oc⟩ := so
    obtain ⟨aA, an, ac⟩ := sa
    obtain ⟨bA, bn, bc⟩ := sb
    simp only at HKp Hv l3 l4 l5 l6 l7 l8 l0 l1 l2
    have Hfin : Hid (∀ e w5, OutP W2 Pp ⟨oi, ot⟩ ⟨ai, at_⟩ ⟨bi, bt⟩ [(p, 1)] e w5 → ∃ A1 n1 m1 A2 n2 m2 A3 n3 m3 A4 n4 m4, e = .returned (outv ⟨oi, ot⟩ ⟨ai, at_⟩ ⟨bi, bt⟩ ⟨A1, n1, m1⟩ ⟨A2, n2, m2⟩ ⟨A3, n3, m3⟩ ⟨A4, n4, m4⟩) ∧ Bx w5 (w.heap.size + 1) zs7 73 ∧ ∀ b0 b1 b2 b3 b4 b5 b6, RuleP w Pp ⟨⟨oi, ot⟩, ⟨ai, at_⟩, ⟨bi, bt⟩, [(p, kGone)]⟩ true (.returned (.tuple #[outv ⟨oi, ot⟩ ⟨ai, at_⟩ ⟨bi, bt⟩ ⟨A1, n1, m1⟩ ⟨A2, n2, m2⟩ ⟨A3, n3, m3⟩ ⟨A4, n4, m4⟩, .bool true])) (st7 w5 (w.heap.size + 1) b0 b1 b2 b3 b4 b5 b6)) := Lib.hid (by
      rintro e w5 ⟨⟨A1, n1, m1⟩, ⟨A2, n2, m2⟩, ⟨A3, n3, m3⟩, ⟨A4, n4, m4⟩, rfl, h1, h2, h3, hb5⟩
      have hz := Hz.out
      have hbs := HB.out.size
      refine ⟨A1, n1, m1, A2, n2, m2, A3, n3, m3, A4, n4, m4, rfl, HG.out.below hb5 HG.out.lt, fun b0 b1 b2 b3 b4 b5 b6 => ⟨_, _, _, _, _, _, _, rfl, fun _ => ⟨rfl, rfl, rfl, OpN.s7s hbs (by omega) h1 .., ?_, h3⟩, below_s7 (HB.out.trans (hb5.mono hbs)) (by omega) ..⟩⟩
      refine (h2.keep fun b o hp => keep_s7 w5 _ _ _ _ _ _ _ b o ?_).more fun b hp => hp.imp id fun hp => ⟨by omega, by simpa using hp.2⟩
      rcases hp with hp | hp
      · have := HPp.out b hp; omega
      · omega)
    cases ai with
    | true =>
      obtain rfl : bi = false := by simpa using Hv.out
      go_enter Try.func34, Try.ntmps34
      go_wp2_with fail
      rw [← hW2]
      go_wp2_with fail
      refine HKp.out.mono ?_
      intro e w5 hO
      obtain ⟨A1, n1, m1, A2, n2, m2, A3, n3, m3, A4, n4, m4, rfl, g3, hR⟩ := Hfin.out e w5 hO
      obtain ⟨d0, d1, d2, d3, d4, d5, d6⟩ := g3.c7
      obtain ⟨z0, z1, z2, z3, z4, z5, z6⟩ := g3.f7
      have HR := Lib.hid hR
      have HG3 := Lib.hid g3
      clear hO hR g3
      go_wp2_with fail
      obtain ⟨e0, e1, e2, e3, e4, e5, e6⟩ := (HG3.out.s7 (.bool oi) (.slice A1 n1 m1) (.bool true) (.slice A2 n2 m2) (.bool false) (.slice A3 n3 m3) (.slice A4 n4 m4)).c7
      refine bodyPost_ret (v := .tuple #[outv ⟨oi, ot⟩ ⟨true, at_⟩ ⟨false, bt⟩ ⟨A1, n1, m1⟩ ⟨A2, n2, m2⟩ ⟨A3, n3, m3⟩ ⟨A4, n4, m4⟩, .bool true]) (by simp [results, Try.results34, go_sem, e0, e1, e2, e3, e4, e5, e6]) rfl ?_
      exact HR.out ..
    | false =>
      go_enter Try.func34, Try.ntmps34
      go_wp2_with fail
      rw [← hW2]
      go_wp2_with fail
      refine HKp.out.mono ?_
      intro e w5 hO
      obtain ⟨A1, n1, m1, A2, n2, m2, A3, n3, m3, A4, n4, m4, rfl, g3, hR⟩ := Hfin.out e w5 hO
      obtain ⟨d0, d1, d2, d3, d4, d5, d6⟩ := g3.c7
      obtain ⟨z0, z1, z2, z3, z4, z5, z6⟩ := g3.f7
      have HR := Lib.hid hR
      have HG3 := Lib.hid g3
      clear hO hR g3
      go_wp2_with fail
      obtain ⟨e0, e1, e2, e3, e4, e5, e6⟩ := (HG3.out.s7 (.bool oi) (.slice A1 n1 m1) (.bool false) (.slice A2 n2 m2) (.bool bi) (.slice A3 n3 m3) (.slice A4 n4 m4)).c7
      refine bodyPost_ret (v := .tuple #[outv ⟨oi, ot⟩ ⟨false, at_⟩ ⟨bi, bt⟩ ⟨A1, n1, m1⟩ ⟨A2, n2, m2⟩ ⟨A3, n3, m3⟩ ⟨A4, n4, m4⟩, .bool true]) (by simp [results, Try.results34, go_sem, e0, e1, e2, e3, e4, e5, e6]) rfl ?_
      exact HR.out ..
  | false =>
    have hab : a.is = true ∧ b.is = true := by
      have := hv
      cases ha : a.is <;> cases hb : b.is <;> simp [ha, hb] at this ⊢
    obtain ⟨d0, d1, d2, d3, d4, d5, d6⟩ := g2.c7
    obtain ⟨z0, z1, z2, z3, z4, z5, z6⟩ := g2.f7
    clear h hb g1 hz g2 hk hp hpp hv HKp
    obtain ⟨oi, ot⟩ := o
    obtain ⟨ai, at_⟩ := a
    obtain ⟨bi, bt⟩ := b
    obtain ⟨SA, Sn, Sc⟩ := S
    obtain ⟨PA, Pn, Pc⟩ := P
    obtain ⟨oA, on, oc⟩ := so
    obtain ⟨aA, an, ac⟩ := sa
    obtain ⟨bA, bn, bc⟩ := sb
    simp only at hab l3 l4 l5 l6 l7 l8 l0 l1 l2
    obtain ⟨rfl, rfl⟩ := hab
    go_enter Try.func34, Try.ntmps34
    go_wp2_with fail
    rw [← hW2]
    go_wp2_with fail
    refine bodyPost_ret (v := .tuple #[zerov, .bool false]) (by simp [results, Try.results34, go_sem, d0, d1, d2, d3, d4, d5, d6]) rfl ?_
    exact ⟨⟨false, .nil⟩, ⟨false, .nil⟩, ⟨false, .nil⟩, nil4, nil4, nil4, nil4, rfl, (fun e => by cases e), HB.out⟩
end Go.Proofs.Ytchoipmfngcdoaa.Mg
namespace Go.Proofs.Ytchoipmfngcdoaa.Mg
open Go.RowKit Go.Proofs.Ytchoipmfngcdoaa.Pt Go.Proofs.Ytchoipmfngcdoaa.Df Go.Proofs.Ytchoipmfngcdoaa.Sc Go.Proofs.Ytchoipmfngcdoaa.Cl
set_option maxRecDepth 100000

abbrev Sl.v (s : Sl) : Value := .slice s.A s.n s.c
/-- Only the blocks of N may be others now. -/
structure Mv (w w' : World) (N : Nat → Prop) : Prop where
  os : w'.os = w.os
  tape : w'.tape = w.tape
  output : w'.output = w.output
  size : w.heap.size ≤ w'.heap.size
  block : ∀ k, k < w.heap.size → ¬ N k → w'.heap[k]? = w.heap[k]?
theorem Mv.trans {w w1 w2 : World} {N M : Nat → Prop} (h : Mv w w1 N) (h2 : Mv w1 w2 M) : Mv w w2 (fun k => N k ∨ M k) :=
  ⟨h2.os.trans h.os, h2.tape.trans h.tape, h2.output.trans h.output, Nat.le_trans h.size h2.size, fun k hk hn => (h2.block k (Nat.lt_of_lt_of_le hk h.size) (fun e => hn (.inr e))).trans (h.block k hk (fun e => hn (.inl e)))⟩
theorem Mv.weak {w w1 : World} {N M : Nat → Prop} (h : Mv w w1 N) (hm : ∀ k, k < w.heap.size → N k → M k) : Mv w w1 M := ⟨h.os, h.tape, h.output, h.size, fun k hk hn => h.block k hk fun e => hn (hm k hk e)⟩
theorem Mv.of {w w1 : World} (h : Below w.heap.size w w1) (N : Nat → Prop) : Mv w w1 N := ⟨h.os, h.tape, h.output, h.size, fun k hk _ => h.block k hk⟩
theorem Mv.grown {w w1 : World} {r : Option Nat} (h : w.grownBy w1 r) : Mv w w1 (fun k => r = some k) := ⟨h.os, h.tape, h.output, h.size, fun k hk hn => h.block k hk fun e => hn e.symm⟩
theorem Mv.toB {w w1 : World} {N : Nat → Prop} {B : Nat} (h : Mv w w1 N) (hB : B ≤ w.heap.size) (hN : ∀ k, N k → B ≤ k) : Below B w w1 :=
  { os := h.os, tape := h.tape, output := h.output, size := h.size, block := fun k hk => h.block k (Nat.lt_of_lt_of_le hk hB) fun e => by have := hN k e; omega }
theorem Mv.cell {w w1 : World} {N : Nat → Prop} (h : Mv w w1 N) {b : Nat} (o : Nat) (hb : b < w.heap.size) (hn : ¬ N b) : w1.cell? ⟨b, o, none⟩ = w.cell? ⟨b, o, none⟩ := World.cell?_of_block (h.block b hb hn)
theorem Mv.row {w w1 : World} {N : Nat → Prop} (h : Mv w w1 N) {base size n c : Nat} {e : TypeId} {A : Option Addr} {vs : List Value} (ho : w.ownsRow base e size (.slice A n c) n vs) (hn : ∀ k, (Value.slice A n c).ownBlock = some k → ¬ N k) : w1.ownsRow base e size (.slice A n c) n vs := by
  have hlt := ho.lt
  obtain ⟨h1, h2⟩ := ho
  refine ⟨h1, ?_⟩
  rcases h2 with h2 | ⟨g, cap, cur, e1, hg, hh, hr⟩
  · exact .inl h2
  · have hb : (Value.slice A n c).ownBlock = some g := by rw [e1]; rfl
    exact .inr ⟨g, cap, cur, e1, hg, (h.block g (hlt g hb).2 (hn g hb)).trans hh, hr⟩
theorem Mv.bx {w w1 : World} {N : Nat → Prop} (h : Mv w w1 N) {g : Nat} {vs : List Value} {T : TypeId} (hg : Bx w g vs T) (hn : ¬ N g) : Bx w1 g vs T := (h.block g hg.lt hn).trans hg
theorem Mv.alloc {w w1 : World} {o : Obj} {N : Nat → Prop} (h : Mv (w.alloc o) w1 N) : Mv w w1 N :=
  ((Mv.of ((Below.refl w.heap.size w).alloc (Nat.le_refl _) o) (fun _ => False)).trans h).weak fun _ _ e => e.resolve_left id

/-- A row of edges, or one with an edge more. -/
abbrev more (vs : List Value) (s : ByteArray) (x : Op) (X : Sl) : List Value := if x.is = true then vs ++ [.string s, .slice X.A X.n X.c] else vs
def WithP (w : World) (base : Nat) (T : Sl) (vs : List Value) (s : ByteArray) (x : Op) (X : Sl) (e : Ending) (w' : World) : Prop :=
  ∃ T' : Sl, e = .returned (.slice T'.A T'.n T'.c) ∧ w'.ownsRow base 51 2 (.slice T'.A T'.n T'.c) T'.n (more vs s x X) ∧ Mv w w' (fun k => (Value.slice T.A T.n T.c).ownBlock = some k) ∧
    (∀ k, (Value.slice T'.A T'.n T'.c).ownBlock = some k → w.heap.size ≤ k ∨ (Value.slice T.A T.n T.c).ownBlock = some k) ∧ T'.n ≤ T.n + 1
theorem own_hat {A : Option Addr} {n c h : Nat} {r : Option Nat} (ha : ∀ a, A = some a → a.block = h ∨ some a.block = r) : ∀ k, (Value.slice A n c).ownBlock = some k → h ≤ k ∨ r = some k := fun k e => by
  cases A with
  | none => cases e
  | some a =>
    have e1 : a.block = k := by injection e
    rcases ha a rfl with h1 | h1
    · exact .inl (by omega)
    · exact .inr (by rw [← h1, e1])

set_option maxHeartbeats 1000000 in
theorem mwith_any (T : Sl) (vs : List Value) (s : ByteArray) (x : Op) (X : Sl) (base : Nat) (w : World) (ho : w.ownsRow base 51 2 (.slice T.A T.n T.c) T.n vs) (hb : base ≤ w.heap.size) (hn : T.n + 1 ≤ 1099511627776) :
    Calls Try.prog 45 #[.slice T.A T.n T.c, .string s, .agg #[.bool x.is, .slice X.A X.n X.c]] w (WithP w base T vs s x X) := by
  obtain ⟨W2, hW2, hb2, hz2, g2⟩ := box1 w [.bool x.is, .slice X.A X.n X.c] 61
  obtain ⟨c1, c2⟩ := g2.c2
  have ho2 := (Mv.of hb2 (fun _ => False)).row ho fun _ _ => id
  have hsrc : ∀ (W : World) (g : Nat), g = W.heap.size → Src Try.prog 2 24 (.slice (some ⟨g, 0, none⟩) 1 1) 1 [.string s, .slice X.A X.n X.c] (W.alloc (Obj.cells #[Value.string s, Value.slice X.A X.n X.c] 51)) := fun W g hg =>
    hg ▸ src_edges rfl (fun j u hu => by rw [cell_of_row _ _ _ _ _ _ (heap_alloc_new W _), ← hu]; simp) (fun u hu => by simp only [List.mem_cons, List.not_mem_nil, or_false] at hu; rcases hu with rfl | rfl <;> rfl)
  have HB2 := Lib.hid hb2
  have Hb := Lib.hid hb
  have Ho := Lib.hid ho
  clear hb2 g2 ho
  obtain ⟨TA, Tn, Tc⟩ := T
  obtain ⟨XA, Xn, Xc⟩ := X
  obtain ⟨xi, xt⟩ := x
  simp only at c1 c2 hn ho2 Ho hsrc
  subst hW2
  cases xi with
  | true =>
    clear Ho
    go_enter Try.func45, Try.ntmps45
    go_wp2_with (at_builtin; refine wpList_append_row rfl (.tmp 11) (.tmp 16) _ _ rfl elem_edge rfl rfl (ho2.alloc _) (hsrc _ _ hz2.symm) hn (by have := Hb.out; have := hz2; simp; omega) ?_; intro A3 c3 w3 ho3 hg3 hat3)
    have Ho3 := Lib.hid ho3
    have Hg3 := Lib.hid hg3
    have Hat3 := Lib.hid hat3
    clear ho3 hg3 hat3
    go_wp2_with fail
    go_ret
    have ho3 := Ho3.out
    have hg3 := Hg3.out
    have hat3 := Hat3.out
    refine ⟨⟨A3, Tn + 1, c3⟩, rfl, by simpa [more] using ho3, ?_, ?_, Nat.le_refl _⟩
    · have h1 := (Mv.grown hg3).alloc
      exact ((Mv.of HB2.out (fun _ => False)).trans h1).weak fun _ _ e => e.resolve_left id
    · intro k hk
      rcases own_hat hat3 k hk with h | h
      · left; simp at h; omega
      · exact .inr h
  | false =>
    clear ho2 hsrc
    go_enter Try.func45, Try.ntmps45
    go_wp2_with fail
    go_ret
    exact ⟨⟨TA, Tn, Tc⟩, rfl, by simpa [more] using (Mv.of HB2.out (fun _ => False)).row Ho.out fun _ _ => id, Mv.of HB2.out _, fun k hk => .inr hk, Nat.le_succ _⟩
end Go.Proofs.Ytchoipmfngcdoaa.Mg
namespace Go.Proofs.Ytchoipmfngcdoaa.Mg
open Go.RowKit Go.Proofs.Ytchoipmfngcdoaa.Pt Go.Proofs.Ytchoipmfngcdoaa.Df Go.Proofs.Ytchoipmfngcdoaa.Sc Go.Proofs.Ytchoipmfngcdoaa.Cl
set_option maxRecDepth 100000

abbrev Sl.own (s : Sl) : Option Nat := (Value.slice s.A s.n s.c).ownBlock
set_option maxHeartbeats 1000000 in
theorem wb1_any (T : Sl) (vs : List Value) (s : ByteArray) (x : Op) (X : Sl) (base g : Nat) (w : World) (ho : w.ownsRow base 51 2 (.slice T.A T.n T.c) T.n vs) (hb : base ≤ w.heap.size) (hn : T.n + 1 ≤ 1099511627776) (hg : w.cell? ⟨g, 0, none⟩ = some (.string s)) :
    Calls Try.prog 44 #[.slice T.A T.n T.c, .agg #[.bool x.is, .slice X.A X.n X.c], .pointer (some ⟨g, 0, none⟩)] w (WithP w base T vs s x X) := by
  obtain ⟨W2, hW2, hb2, hz2, g2⟩ := box1 w [.bool x.is, .slice X.A X.n X.c] 61
  obtain ⟨c1, c2⟩ := g2.c2
  have hgl : g < w.heap.size := World.block_lt_of_cell? w ⟨g, 0, none⟩ hg
  have hg2 := (hb2.cell (p := ⟨g, 0, none⟩) hgl).trans hg
  have HC := Lib.hid (mwith_any T vs s x X base W2 ((Mv.of hb2 (fun _ => False)).row ho fun _ _ => id) (Nat.le_trans hb hb2.size) hn)
  have HB2 := Lib.hid hb2
  clear hb2 g2 ho hb
  obtain ⟨TA, Tn, Tc⟩ := T
  obtain ⟨XA, Xn, Xc⟩ := X
  obtain ⟨xi, xt⟩ := x
  simp only at c1 c2 HC
  go_enter Try.func44, Try.ntmps44
  go_wp2_with fail
  rw [← hW2]
  go_wp2_with fail
  refine HC.out.mono ?_
  rintro e w' ⟨⟨A', n', c'⟩, rfl, h1, h2, h3, h4⟩
  have H1 := Lib.hid h1
  have H2 := Lib.hid h2
  have H3 := Lib.hid h3
  have H4 := Lib.hid h4
  clear h1 h2 h3 h4
  go_wp2_with fail
  go_ret
  have hbs := HB2.out.size
  exact ⟨⟨A', n', c'⟩, rfl, H1.out, ((Mv.of HB2.out (fun _ => False)).trans H2.out).weak fun _ _ e => e.resolve_left id, fun k hk => (H3.out k hk).imp (fun h => Nat.le_trans hbs h) id, H4.out⟩

def Own3 (T1 T2 T3 : Sl) (k : Nat) : Prop := T1.own = some k ∨ T2.own = some k ∨ T3.own = some k
/-- Three rows of edges, each by itself. -/
structure Rows3 (w : World) (base : Nat) (T1 T2 T3 : Sl) (v1 v2 v3 : List Value) : Prop where
  r1 : w.ownsRow base 51 2 (.slice T1.A T1.n T1.c) T1.n v1
  r2 : w.ownsRow base 51 2 (.slice T2.A T2.n T2.c) T2.n v2
  r3 : w.ownsRow base 51 2 (.slice T3.A T3.n T3.c) T3.n v3
  d12 : ∀ k, T1.own = some k → T2.own ≠ some k
  d13 : ∀ k, T1.own = some k → T3.own ≠ some k
  d23 : ∀ k, T2.own = some k → T3.own ≠ some k
theorem Rows3.mv {w w1 : World} {N : Nat → Prop} {base : Nat} {T1 T2 T3 : Sl} {v1 v2 v3 : List Value} (h : Rows3 w base T1 T2 T3 v1 v2 v3) (hm : Mv w w1 N) (hn : ∀ k, Own3 T1 T2 T3 k → ¬ N k) : Rows3 w1 base T1 T2 T3 v1 v2 v3 :=
  ⟨hm.row h.r1 fun k e => hn k (.inl e), hm.row h.r2 fun k e => hn k (.inr (.inl e)), hm.row h.r3 fun k e => hn k (.inr (.inr e)), h.d12, h.d13, h.d23⟩
theorem Rows3.lt {w : World} {base : Nat} {T1 T2 T3 : Sl} {v1 v2 v3 : List Value} (h : Rows3 w base T1 T2 T3 v1 v2 v3) : ∀ k, Own3 T1 T2 T3 k → base ≤ k ∧ k < w.heap.size := fun k e => by
  rcases e with e | e | e
  · exact h.r1.lt k e
  · exact h.r2.lt k e
  · exact h.r3.lt k e
def JP (w : World) (base : Nat) (T1 T2 T3 : Sl) (v1 v2 v3 : List Value) (s : ByteArray) (x y z : Op) (X Y Z : Sl) (e : Ending) (w' : World) : Prop :=
  ∃ U1 U2 U3 : Sl, e = .returned (.agg #[.slice U1.A U1.n U1.c, .slice U2.A U2.n U2.c, .slice U3.A U3.n U3.c]) ∧ Rows3 w' base U1 U2 U3 (more v1 s x X) (more v2 s y Y) (more v3 s z Z) ∧ Mv w w' (Own3 T1 T2 T3) ∧ (∀ k, Own3 U1 U2 U3 k → w.heap.size ≤ k ∨ Own3 T1 T2 T3 k) ∧ U1.n ≤ T1.n + 1 ∧ U2.n ≤ T2.n + 1 ∧ U3.n ≤ T3.n + 1
/-- Three rows, grown one behind the other. -/
theorem join_fin {w w1 w2 w3 : World} {base : Nat} {T1 T2 T3 U1 U2 U3 : Sl} {v1 v2 v3 : List Value} {s : ByteArray} {x y z : Op} {X Y Z : Sl} (h : Rows3 w base T1 T2 T3 v1 v2 v3)
    (r1 : w1.ownsRow base 51 2 (.slice U1.A U1.n U1.c) U1.n (more v1 s x X)) (m1 : Mv w w1 (fun k => T1.own = some k)) (a1 : ∀ k, U1.own = some k → w.heap.size ≤ k ∨ T1.own = some k)
    (r2 : w2.ownsRow base 51 2 (.slice U2.A U2.n U2.c) U2.n (more v2 s y Y)) (m2 : Mv w1 w2 (fun k => T2.own = some k)) (a2 : ∀ k, U2.own = some k → w1.heap.size ≤ k ∨ T2.own = some k)
    (r3 : w3.ownsRow base 51 2 (.slice U3.A U3.n U3.c) U3.n (more v3 s z Z)) (m3 : Mv w2 w3 (fun k => T3.own = some k)) (a3 : ∀ k, U3.own = some k → w2.heap.size ≤ k ∨ T3.own = some k) :
    Rows3 w3 base U1 U2 U3 (more v1 s x X) (more v2 s y Y) (more v3 s z Z) ∧ Mv w w3 (Own3 T1 T2 T3) ∧ (∀ k, Own3 U1 U2 U3 k → w.heap.size ≤ k ∨ Own3 T1 T2 T3 k) := by
  have hl := h.lt
  have s1 := m1.size
  have s2 := m2.size
  have hl1 := fun k e => (r1.lt k e).2
  have hl2 := fun k e => (r2.lt k e).2
  have hT1 := fun k (e : T1.own = some k) => (hl k (.inl e)).2
  have hT2 := fun k (e : T2.own = some k) => (hl k (.inr (.inl e))).2
  have hT3 := fun k (e : T3.own = some k) => (hl k (.inr (.inr e))).2
  have n12 : ∀ k, U1.own = some k → ¬ T2.own = some k := fun k e e2 => by
    rcases a1 k e with h1 | h1
    · have := hT2 k e2; omega
    · exact h.d12 k h1 e2
  have n13 : ∀ k, U1.own = some k → ¬ T3.own = some k := fun k e e2 => by
    rcases a1 k e with h1 | h1
    · have := hT3 k e2; omega
    · exact h.d13 k h1 e2
  have n23 : ∀ k, U2.own = some k → ¬ T3.own = some k := fun k e e2 => by
    rcases a2 k e with h1 | h1
    · have := hT3 k e2; omega
    · exact h.d23 k h1 e2
  refine ⟨⟨m3.row (m2.row r1 n12) n13, m3.row r2 n23, r3, fun k e e2 => ?_, fun k e e2 => ?_, fun k e e2 => ?_⟩, ((m1.trans m2).trans m3).weak fun k _ e => ?_, fun k e => ?_⟩
  · have := hl1 k e
    rcases a2 k e2 with h1 | h1
    · omega
    · exact n12 k e h1
  · have := hl1 k e
    rcases a3 k e2 with h1 | h1
    · omega
    · exact n13 k e h1
  · have := hl2 k e
    rcases a3 k e2 with h1 | h1
    · omega
    · exact n23 k e h1
  · rcases e with (e | e) | e
    · exact .inl e
    · exact .inr (.inl e)
    · exact .inr (.inr e)
  · rcases e with e | e | e
    · exact (a1 k e).imp id .inl
    · rcases a2 k e with h1 | h1
      · exact .inl (by omega)
      · exact .inr (.inr (.inl h1))
    · rcases a3 k e with h1 | h1
      · exact .inl (by omega)
      · exact .inr (.inr (.inr h1))
end Go.Proofs.Ytchoipmfngcdoaa.Mg
namespace Go.Proofs.Ytchoipmfngcdoaa.Mg
open Go.RowKit Go.Proofs.Ytchoipmfngcdoaa.Pt Go.Proofs.Ytchoipmfngcdoaa.Df Go.Proofs.Ytchoipmfngcdoaa.Sc Go.Proofs.Ytchoipmfngcdoaa.Cl
set_option maxRecDepth 100000

theorem Bx.c3 {w : World} {g : Nat} {a0 a1 a2 : Value} {T : TypeId} (h : Bx w g [a0, a1, a2] T) : w.cell? ⟨g, 0, none⟩ = some a0 ∧ w.cell? ⟨g, 1, none⟩ = some a1 ∧ w.cell? ⟨g, 2, none⟩ = some a2 := ⟨h.cells 0, h.cells 1, h.cells 2⟩
theorem Bx.f3 {w : World} {g : Nat} {a0 a1 a2 : Value} {T : TypeId} (h : Bx w g [a0, a1, a2] T) : w.frozen? ⟨g, 0, none⟩ = false ∧ w.frozen? ⟨g, 1, none⟩ = false ∧ w.frozen? ⟨g, 2, none⟩ = false := ⟨h.free 0, h.free 1, h.free 2⟩
abbrev st3 (w : World) (g : Nat) (b0 b1 b2 : Value) : World := (((w.setCell ⟨g, 0, none⟩ b0).setCell ⟨g, 1, none⟩ b1).setCell ⟨g, 2, none⟩ b2)
theorem Bx.s3 {w : World} {g : Nat} {a0 a1 a2 : Value} {T : TypeId} (h : Bx w g [a0, a1, a2] T) (b0 b1 b2 : Value) : Bx (st3 w g b0 b1 b2) g [b0, b1, b2] T := ((((((h).set 0 b0)).set 1 b1)).set 2 b2)
theorem below_s3 {B : Nat} {w0 w : World} {g : Nat} (h : Below B w0 w) (hg : B ≤ g) (b0 b1 b2 : Value) : Below B w0 (st3 w g b0 b1 b2) := ((((((h).setCell (p := ⟨g, 0, none⟩) hg b0)).setCell (p := ⟨g, 1, none⟩) hg b1)).setCell (p := ⟨g, 2, none⟩) hg b2)
theorem keep_s3 (w : World) {g : Nat} (b0 b1 b2 : Value) (b o : Nat) (h : b ≠ g) : (st3 w g b0 b1 b2).cell? ⟨b, o, none⟩ = w.cell? ⟨b, o, none⟩ := by
  have far : ∀ (V : World) (j : Nat) (v : Value), (V.setCell ⟨g, j, none⟩ v).cell? ⟨b, o, none⟩ = V.cell? ⟨b, o, none⟩ := fun V j v => World.cell?_setCell_far _ _ _ _ (by simp only [ne_eq]; exact fun e => h e.symm)
  simp only [st3, far]
theorem Mv.set1 (w : World) (g j : Nat) (v : Value) : Mv w (w.setCell ⟨g, j, none⟩ v) (fun k => k = g) :=
  have h := ((Below.refl 0 w).setCell (p := ⟨g, j, none⟩) (Nat.zero_le _) v)
  { os := h.os, tape := h.tape, output := h.output, size := h.size, block := fun _ _ hn => heap_setCell_other _ _ _ _ hn }
theorem Mv.s3 (w : World) {g : Nat} (b0 b1 b2 : Value) : Mv w (st3 w g b0 b1 b2) (fun k => k = g) :=
  (((Mv.set1 w g 0 b0).trans (Mv.set1 _ g 1 b1)).trans (Mv.set1 _ g 2 b2)).weak fun _ _ e => e.elim (fun e => e.elim id id) id

abbrev zs3 : List Value := [.slice none 0 0, .slice none 0 0, .slice none 0 0]
set_option maxHeartbeats 8000000 in
theorem joined_any (T1 T2 T3 X Y Z : Sl) (v1 v2 v3 : List Value) (s : ByteArray) (x y z : Op) (base g : Nat) (w : World) (h : Rows3 w base T1 T2 T3 v1 v2 v3) (hb : base ≤ w.heap.size) (hn1 : T1.n + 1 ≤ 1099511627776) (hn2 : T2.n + 1 ≤ 1099511627776) (hn3 : T3.n + 1 ≤ 1099511627776) (hg : w.cell? ⟨g, 0, none⟩ = some (.string s)) (hgo : ¬ Own3 T1 T2 T3 g) :
    Calls Try.prog 43 #[.agg #[.slice T1.A T1.n T1.c, .slice T2.A T2.n T2.c, .slice T3.A T3.n T3.c], o3v x y z X Y Z, .func (.func 44) #[] #[.pointer (some ⟨g, 0, none⟩)]] w (JP w base T1 T2 T3 v1 v2 v3 s x y z X Y Z) := by
  obtain ⟨W1, hW1, hb1, hz1, g1⟩ := box1 w [.slice T1.A T1.n T1.c, .slice T2.A T2.n T2.c, .slice T3.A T3.n T3.c] 96
  obtain ⟨W2, hW2, hb2, hz2, g2, g3⟩ := boxes2 W1 [.bool x.is, .slice X.A X.n X.c, .bool y.is, .slice Y.A Y.n Y.c, .bool z.is, .slice Z.A Z.n Z.c] zs3 63 96
  rw [hz1] at g2 g3
  have g1 := g1.below hb2 (by omega)
  have hb3 := hb1.trans (hb2.mono hb1.size)
  have hz : W2.heap.size = w.heap.size + 3 := by omega
  have hlt := h.lt
  have hgl : g < w.heap.size := World.block_lt_of_cell? w ⟨g, 0, none⟩ hg
  have hR := h.mv (Mv.of hb3 (fun _ => False)) (fun _ _ => id)
  have hO : ∀ k, Own3 T1 T2 T3 k → k < w.heap.size := fun k e => (hlt k e).2
  have hgW := (hb3.cell (p := ⟨g, 0, none⟩) hgl).trans hg
  have H1 := Lib.hid (fun (W : World) (hW : Mv W2 W (fun _ => False)) => wb1_any T1 v1 s x X base g W (hW.row hR.r1 fun _ _ => id) (Nat.le_trans hb (Nat.le_trans hb3.size hW.size)) hn1 ((hW.cell 0 (by omega) id).trans hgW))
  have H2 := Lib.hid (fun (W : World) (hW : Mv W2 W (fun k => T1.own = some k)) => wb1_any T2 v2 s y Y base g W (hW.row hR.r2 fun k e e2 => hR.d12 k e2 e) (Nat.le_trans hb (Nat.le_trans hb3.size hW.size)) hn2 ((hW.cell 0 (by omega) (fun e => hgo (.inl e))).trans hgW))
  have H3 := Lib.hid (fun (W : World) (hW : Mv W2 W (fun k => T1.own = some k ∨ T2.own = some k)) => wb1_any T3 v3 s z Z base g W (hW.row hR.r3 fun k e e2 => e2.elim (fun e2 => hR.d13 k e2 e) (fun e2 => hR.d23 k e2 e)) (Nat.le_trans hb (Nat.le_trans hb3.size hW.size)) hn3 ((hW.cell 0 (by omega) (fun e => hgo (e.imp id .inl))).trans hgW))
  have HO := Lib.hid hO
  have HR := Lib.hid hR
  have HB := Lib.hid hb3
  have Hz := Lib.hid hz
  have HG := Lib.hid g3
  have HL := Lib.hid (fun (W : World) (hW : Mv W2 W (Own3 T1 T2 T3)) => (⟨Bx.c3 (hW.bx g1 fun e => by have := hO _ e; omega), Bx.c6 (hW.bx g2 fun e => by have := hO _ e; omega)⟩ : _ ∧ _))
  clear h hR hO hlt hgW hgl hb hb1 hb2 hb3 hz1 hz2 hz g1 g2 g3 hn1 hn2 hn3 hg hgo
  obtain ⟨T1A, T1n, T1c⟩ := T1
  obtain ⟨T2A, T2n, T2c⟩ := T2
  obtain ⟨T3A, T3n, T3c⟩ := T3
  obtain ⟨XA, Xn, Xc⟩ := X
  obtain ⟨YA, Yn, Yc⟩ := Y
  obtain ⟨ZA, Zn, Zc⟩ := Z
  obtain ⟨xi, xt⟩ := x
  obtain ⟨yi, yt⟩ := y
  obtain ⟨zi, zt⟩ := z
  simp only at H1 H2 H3 HL
  have HP2 := Lib.hid (fun (W V : World) (hW : Mv W2 W (Own3 ⟨T1A, T1n, T1c⟩ ⟨T2A, T2n, T2c⟩ ⟨T3A, T3n, T3c⟩)) (hv : ∀ b o, b ≠ w.heap.size + 1 + 1 → V.cell? ⟨b, o, none⟩ = W.cell? ⟨b, o, none⟩) => (show V.cell? ⟨w.heap.size, 0, none⟩ = some (.slice T1A T1n T1c) ∧ V.cell? ⟨w.heap.size, 1, none⟩ = some (.slice T2A T2n T2c) ∧ V.cell? ⟨w.heap.size, 2, none⟩ = some (.slice T3A T3n T3c) ∧ V.cell? ⟨w.heap.size + 1, 0, none⟩ = some (.bool xi) ∧ V.cell? ⟨w.heap.size + 1, 1, none⟩ = some (.slice XA Xn Xc) ∧ V.cell? ⟨w.heap.size + 1, 2, none⟩ = some (.bool yi) ∧ V.cell? ⟨w.heap.size + 1, 3, none⟩ = some (.slice YA Yn Yc) ∧ V.cell? ⟨w.heap.size + 1, 4, none⟩ = some (.bool zi) ∧ V.cell? ⟨w.heap.size + 1, 5, none⟩ = some (.slice ZA Zn Zc) from by
    obtain ⟨⟨l0, l1, l2⟩, m0, m1, m2, m3, m4, m5⟩ := HL.out W hW
    have h0 : w.heap.size ≠ w.heap.size + 1 + 1 := by omega
    have h1 : w.heap.size + 1 ≠ w.heap.size + 1 + 1 := by omega
    exact ⟨(hv _ _ h0).trans l0, (hv _ _ h0).trans l1, (hv _ _ h0).trans l2, (hv _ _ h1).trans m0, (hv _ _ h1).trans m1, (hv _ _ h1).trans m2, (hv _ _ h1).trans m3, (hv _ _ h1).trans m4, (hv _ _ h1).trans m5⟩))
  have HP := Lib.hid (fun (W : World) (hW : Mv W2 W (Own3 ⟨T1A, T1n, T1c⟩ ⟨T2A, T2n, T2c⟩ ⟨T3A, T3n, T3c⟩)) => HP2.out W W hW (fun _ _ _ => rfl))
  have HMc := Lib.hid (Mv.of (Below.refl W2.heap.size W2).drew (Own3 ⟨T1A, T1n, T1c⟩ ⟨T2A, T2n, T2c⟩ ⟨T3A, T3n, T3c⟩))
  have HM0 := Lib.hid (Mv.of (Below.refl W2.heap.size W2).drew (fun _ => False))
  clear HL
  go_enter Try.func43, Try.ntmps43
  go_wp2_with fail
  rw [← hW1, ← hW2]
  clear hW1 hW2
  go_upto_region 1 with (fail)
  go_region_held3 (fun W => W.cell? ⟨w.heap.size, 0, none⟩ = some (.slice T1A T1n T1c) ∧ W.cell? ⟨w.heap.size, 1, none⟩ = some (.slice T2A T2n T2c) ∧ W.cell? ⟨w.heap.size, 2, none⟩ = some (.slice T3A T3n T3c) ∧ W.cell? ⟨w.heap.size + 1, 0, none⟩ = some (.bool xi) ∧ W.cell? ⟨w.heap.size + 1, 1, none⟩ = some (.slice XA Xn Xc) ∧ W.cell? ⟨w.heap.size + 1, 2, none⟩ = some (.bool yi) ∧ W.cell? ⟨w.heap.size + 1, 3, none⟩ = some (.slice YA Yn Yc) ∧ W.cell? ⟨w.heap.size + 1, 4, none⟩ = some (.bool zi) ∧ W.cell? ⟨w.heap.size + 1, 5, none⟩ = some (.slice ZA Zn Zc))
    (first | with_reducible exact HP.out _ HMc.out | with_reducible exact HP2.out _ _ HMc.out (fun b o hb => keep_s3 _ _ _ _ b o hb))
    (first
    | (go_at_call 44; (with_reducible refine (H1.out _ HM0.out).mono ?_); rintro e w3 ⟨⟨A1, n1, m1⟩, rfl, r1, k1, a1, t1⟩; have HR1 := Lib.hid r1; have HK1 := Lib.hid (show Mv W2.drew w3 _ from k1); have HA1 := Lib.hid (show ∀ k, _ → W2.drew.heap.size ≤ k ∨ _ from a1); have HT1 := Lib.hid t1; have HM1 := Lib.hid ((HM0.out.trans k1).weak (M := fun k => (Value.slice T1A T1n T1c).ownBlock = some k) fun _ _ e => e.resolve_left id); have HMc := Lib.hid (HM1.out.weak (M := Own3 ⟨T1A, T1n, T1c⟩ ⟨T2A, T2n, T2c⟩ ⟨T3A, T3n, T3c⟩) fun _ _ e => .inl e); clear r1 k1 a1 t1)
    | (go_at_call 44; (with_reducible refine (H2.out _ HM1.out).mono ?_); rintro e w4 ⟨⟨A2, n2, m2⟩, rfl, r2, k2, a2, t2⟩; have HR2 := Lib.hid r2; have HK2 := Lib.hid k2; have HA2 := Lib.hid a2; have HT2 := Lib.hid t2; have HM2 := Lib.hid (HM1.out.trans k2); have HMc := Lib.hid (HM2.out.weak (M := Own3 ⟨T1A, T1n, T1c⟩ ⟨T2A, T2n, T2c⟩ ⟨T3A, T3n, T3c⟩) fun _ _ e => e.imp id .inl); clear r2 k2 a2 t2)
    | (go_at_call 44; (with_reducible refine (H3.out _ HM2.out).mono ?_); rintro e w5 ⟨⟨A3, n3, m3⟩, rfl, r3, k3, a3, t3⟩; have HR3 := Lib.hid r3; have HK3 := Lib.hid k3; have HA3 := Lib.hid a3; have HT3 := Lib.hid t3; have HMc := Lib.hid ((HM2.out.trans k3).weak (M := Own3 ⟨T1A, T1n, T1c⟩ ⟨T2A, T2n, T2c⟩ ⟨T3A, T3n, T3c⟩) fun _ _ e => e.elim (fun e => e.imp id .inl) (fun e => .inr (.inr e))); have g5 := HMc.out.bx HG.out (fun e => by have := HO.out _ e; omega); obtain ⟨d0, d1, d2⟩ := g5.c3; obtain ⟨z0, z1, z2⟩ := g5.f3; have HG5 := Lib.hid g5; clear r3 k3 a3 t3 g5))
  all_goals
    go_wp2_with fail
    obtain ⟨e0, e1, e2⟩ := (HG5.out.s3 (.slice A1 n1 m1) (.slice A2 n2 m2) (.slice A3 n3 m3)).c3
    refine bodyPost_ret (v := .agg #[.slice A1 n1 m1, .slice A2 n2 m2, .slice A3 n3 m3]) (by simp [results, Try.results43, go_sem, e0, e1, e2]) rfl ?_
    have hz := Hz.out
    have hbs := HB.out.size
    obtain ⟨q1, q2, q3⟩ := join_fin (U1 := ⟨A1, n1, m1⟩) (U2 := ⟨A2, n2, m2⟩) (U3 := ⟨A3, n3, m3⟩) (HR.out.mv HM0.out fun _ _ => id) HR1.out HK1.out HA1.out HR2.out HK2.out HA2.out HR3.out HK3.out HA3.out
    have hs := Mv.s3 w5 (g := w.heap.size + 1 + 1) (.slice A1 n1 m1) (.slice A2 n2 m2) (.slice A3 n3 m3)
    have hd : W2.drew.heap.size = W2.heap.size := rfl
    refine ⟨⟨A1, n1, m1⟩, ⟨A2, n2, m2⟩, ⟨A3, n3, m3⟩, rfl, q1.mv hs fun k e e2 => ?_, ?_, fun k e => (q3 k e).imp (fun h => by omega) id, HT1.out, HT2.out, HT3.out⟩
    · rcases q3 k e with h1 | h1
      · omega
      · have := HO.out k h1; omega
    · exact (((Mv.of HB.out (fun _ => False)).trans ((HM0.out.trans q2).trans hs))).weak fun k hk e => by
        rcases e with e | (e | e) | e
        · exact e.elim
        · exact e.elim
        · exact e
        · omega
end Go.Proofs.Ytchoipmfngcdoaa.Mg
