/- vfs: a file set, or taken away. No conditions but that there is no more than 2^40 of anything. -/
import Derived.Test.YtpaaafdnkehmfaaVfAt
import Derived.BigRegion
import Derived.Deep.CutRange
namespace Go.Proofs.Ytpaaafdnkehmfaa.Vf
open Go.RowKit
set_option maxRecDepth 100000

/-- What a set makes: of the box two cells, of memory the map's block. -/
def SetP (w : World) (B p o : Nat) (vs : List Value) (T : TypeId) (mv : Value) (l' : FL) (e : Ending) (w' : World) : Prop :=
  e = .returned (.tuple #[]) ∧ ∃ mv', Bx w' p ((vs.set o mv').set (o + 1) (.int .i64 (used l' : Int))) T ∧ Fs w' B mv' l' ∧ Mv w w' (fun k => k = p ∨ mv = .map (some k)) ∧ ∀ b, mv' = .map (some b) → mv = .map (some b) ∨ w.heap.size ≤ b

theorem eql_none (w : World) : (binOp .eql 67 (.map none) (.map none)).run Try.prog w = .ok (.bool true) w := by kernel_rfl
theorem eql_some (b : Nat) (w : World) : (binOp .eql 67 (.map (some b)) (.map none)).run Try.prog w = .ok (.bool false) w := by kernel_rfl
theorem Mv.drew {w w1 : World} {N : Nat → Prop} (h : Mv w w1 N) : Mv w w1.drew N := ⟨h.os, h.tape, h.output, h.size, h.block⟩
theorem Mv.undrew {w w1 : World} {N : Nat → Prop} (h : Mv w.drew w1 N) : Mv w w1 N := ⟨h.os, h.tape, h.output, h.size, h.block⟩
theorem set_same {vs : List Value} {o : Nat} {v : Value} (h : vs[o]? = some v) : vs.set o v = vs := by
  refine List.ext_getElem? fun i => ?_
  rw [List.getElem?_set]
  split
  · rename_i e; subst e
    rw [h, if_pos]
    rcases Nat.lt_or_ge o vs.length with g | g
    · exact g
    · rw [List.getElem?_eq_none g] at h; cases h
  · rfl
theorem Fs.drew {w : World} {B : Nat} {mv : Value} {l : FL} (h : Fs w B mv l) : Fs w.drew B mv l := h.keep (fun _ _ => rfl) fun _ _ _ => rfl
section
variable {P : Program} {w w' : World} {ops : Array Oper} {o : Oper} {a : Act} {Q : Exit → Act → World → Prop} {K : Act → World → Prop} {E : Prop}
/-- A store into a map, in a region that draws its order, by its run. -/
theorem step_mapUpdate_run (hgd : o.guard = none) (m x v : Operand) (t : TypeId) (hop : o.op = Op.mapUpdate t m x v) {vm vx vv : Value} (hm : a.eval m = vm) (hx : a.eval x = vx) (hv : a.eval v = vv) (hr : (Instr.mapUpdate t vm vx vv).run P w = .ok () w')
    (h : K (a.put o.dst undef) w') : if Region.wanted o (yielded ops a.tmps) = true then Oper.wp P o a w K Q else E := by
  have hw : Region.wanted o (yielded ops a.tmps) = true := by simp [Region.wanted, hgd]
  rw [if_pos hw]
  unfold Oper.wp
  simp [execOp, hop, hm, hx, hv, hr, Result.andThen]
  exact h
theorem step_delete_run (hgd : o.guard = none) (m x : Operand) (t k : TypeId) (hop : o.op = Op.call { callee := Callee.builtin Builtin.delete, args := #[m, x], argTypes := #[t, k] }) {vm vx : Value} (hm : a.eval m = vm) (hx : a.eval x = vx)
    (hr : (Builtin.delete_ #[t, k] o.type #[vm, vx]).run P w = .ok (.tuple #[]) w') (h : K (a.put o.dst (.tuple #[])) w') : if Region.wanted o (yielded ops a.tmps) = true then Oper.wp P o a w K Q else E := by
  have hw : Region.wanted o (yielded ops a.tmps) = true := by simp [Region.wanted, hgd]
  rw [if_pos hw]
  unfold Oper.wp
  simp [execOp, hop, resolve, invoke, builtin, hm, hx, hr, Result.andThen]
  exact h
end

section
variable {w : World} {B p : Nat} {mv : Value} {l : FL} {s : ByteArray} {v : Value}
/-- delete, a store: the map's block turns, no other one. -/
theorem drop_run (hF : Fs w B mv l) (ha : Asc l) (hs : s.size ≤ maxLen) (ty : TypeId) : ∃ w', (Builtin.delete_ #[67, 9] ty #[mv, .string s]).run Try.prog w = .ok (.tuple #[]) w' ∧ Fs w' B mv (wth s.data.toList none l) ∧ Mv w w' (fun k => mv = .map (some k)) ∧ Ks w w' := by
  have hkey : keyOf Try.prog 9 (.string s) = some (.string s.data.toList) := Go.WideMaps.keyOf_string_mk Try.underlying9 hs
  rcases hF with ⟨rfl, rfl⟩ | ⟨b, D, rfl, hB, ho, hF⟩
  · exact ⟨w, Maps.drop_nil lawK Try.underlying67 hkey ty, .inl ⟨rfl, rfl⟩, Mv.refl _ _, fun _ _ => rfl⟩
  · obtain ⟨w', hr, ho', ht⟩ := World.ownsMap.drop ho lawK Try.underlying67 hkey ty
    have hm := Mv.turned ht
    have hk : Ks w w' := hm.ks fun k e => by rw [e]; exact ho.not_kd
    exact ⟨w', hr, .inr ⟨b, _, rfl, hB, Ow.of ho', (hF.keep hk).del ha _⟩, hm.weak fun k _ e => by rw [e], hk⟩
theorem store_run {b : Nat} {D : DataW Value} {bs : BS} (hB : B ≤ b) (ho : Ow w b D) (hF : FsD w B l D) (ha : Asc l) (hs : s.size ≤ maxLen) (hv : Bz w B v bs) (hl : l.length ≤ 1099511627776) :
    ∃ w', (Instr.mapUpdate 67 (.map (some b)) (.string s) v).run Try.prog w = .ok () w' ∧ Fs w' B (.map (some b)) (wth s.data.toList (some bs) l) ∧ Mv w w' (fun k => k = b) ∧ Ks w w' := by
  have hkey : keyOf Try.prog 9 (.string s) = some (.string s.data.toList) := Go.WideMaps.keyOf_string_mk Try.underlying9 hs
  have hsz := hF.size ho ha
  obtain ⟨w', hr, ho', ht⟩ := World.ownsMap.store ho lawK Try.underlying67 (by rw [hsz]; unfold maxLen; omega) hkey (val := v) (d := .held v) (ps := []) rfl
  have hm := Mv.turned ht
  have hk : Ks w w' := hm.ks fun k e => by rw [e]; exact ho.not_kd
  exact ⟨w', hr, .inr ⟨b, _, rfl, hB, Ow.of ho', (hF.keep hk).put (World.ownsMap.isMap ho) ha (hv.keep hk)⟩, hm, hk⟩
end

section
variable {w : World} {B p N : Nat} {mv : Value} {l : FL} {s : ByteArray} {v : Value} {vs : List Value} {T : TypeId} {o : Nat} {ob : Option BS}
theorem set_any (hbx : Bx w p vs T) (hc0 : vs[o]? = some mv) (hc1 : vs[o + 1]? = some (.int .i64 (used l : Int))) (hF : Fs w B mv l) (ha : Asc l) (hs : s.size ≤ maxLen) (hv : Bz w B v (ob.getD [])) (hT : T = 72)
    (hu : used l + olen ob ≤ 2199023255552) (hl : l.length ≤ 1099511627776) (hp : p < B) (hB : B ≤ w.heap.size) :
    Calls Try.prog 49 #[.pointer (some ⟨p, o, none⟩), .agg #[.string s, v, .bool ob.isNone]] w (SetP w B p o vs T mv (wth s.data.toList ob l)) := by
  obtain ⟨A, n, c, rfl, hS, h1, h2⟩ := hv.sees
  have hn : n = (ob.getD []).length := hS.len
  obtain ⟨v0, hb0, _, hr0⟩ := look hF hs
  obtain ⟨A0, n0, c0, rfl, hS0, h10, h20⟩ := hb0.sees
  have hn0 : n0 = ((fnd l s.data.toList).getD []).length := hS0.len
  have e0 : n0 = olen (fnd l s.data.toList) := by rw [hn0]; cases fnd l s.data.toList <;> rfl
  have e1 : n = olen ob := by rw [hn]; cases ob <;> rfl
  have eu := used_wth s.data.toList ob ha
  have el := olen_fnd_le s.data.toList l
  rw [← e0, ← e1] at eu
  rw [← e0] at el
  rw [← e1] at hu
  have w1 : IntKind.i64.wrap ((n : Int) - (n0 : Int)) = (n : Int) - n0 := by rw [IntKind.wrap_i64]; omega
  have w2 : IntKind.i64.wrap ((used l : Int) + ((n : Int) - (n0 : Int))) = (used (wth s.data.toList ob l) : Int) := by rw [IntKind.wrap_i64]; omega
  generalize hu' : used (wth s.data.toList ob l) = u' at w2 eu
  obtain ⟨g, hg⟩ : ∃ g, g = ob.isNone := ⟨_, rfl⟩
  rw [← hg]
  obtain ⟨W1, hW1⟩ : ∃ W, W = w.alloc (Obj.cells #[.string s, .slice A n c, .bool g] 84) := ⟨_, rfl⟩
  have hb1 : Below w.heap.size w W1 := by rw [hW1]; exact (Below.refl _ _).alloc (Nat.le_refl _) _
  have hx1 : Bx W1 w.heap.size [.string s, .slice A n c, .bool g] 84 := by rw [hW1]; exact Bx.new w _ _
  have hbx1 := hbx.below hb1 hbx.lt
  have q0 := (hbx1.cells o).trans hc0
  have q1 := (hbx1.cells (o + 1)).trans hc1
  have f0 := hbx1.free o
  have f1 := hbx1.free (o + 1)
  have x0 : W1.cell? ⟨w.heap.size, 0, none⟩ = some (.string s) := hx1.cells 0
  have x1 : W1.cell? ⟨w.heap.size, 1, none⟩ = some (.slice A n c) := hx1.cells 1
  have x2 : W1.cell? ⟨w.heap.size, 2, none⟩ = some (.bool g) := hx1.cells 2
  have hF1 := hF.keep (Ks.of hb1) fun b _ hlt => hb1.block b hlt
  have hlook : ∀ q : Nat, (Instr.lookup 67 mv (.string s) false).run Try.prog (W1.drewN q) = .ok (.slice A0 n0 c0) (W1.drewN q) := fun q => (hr0 (W1.drewN q) fun b e => hb1.block b (by
    rcases hF with ⟨h, _⟩ | ⟨b', D, e', _, ho, _⟩
    · rw [h] at e; cases e
    · rw [e] at e'; cases e'
      exact World.ownsMap.lt ho)).2
  have hlook1 : (Instr.lookup 67 mv (.string s) false).run Try.prog W1.drew = .ok (.slice A0 n0 c0) W1.drew := hlook 1
  have hmb : ∀ b, mv = .map (some b) → B ≤ b ∧ b < w.heap.size := fun b e => by have := hF.not_kd e; exact ⟨this.1, this.2.1⟩
  have HC0 := Lib.hid hc0
  have HFw := Lib.hid hF
  have HMB := Lib.hid hmb
  clear hmb
  have HL := Lib.hid hl
  have HS := Lib.hid hs
  have HE := Lib.hid e1
  have HF1 := Lib.hid hF1
  have HV := Lib.hid (hv.keep (Ks.of hb1))
  have HB1 := Lib.hid hb1
  have HBX := Lib.hid hbx1
  have HX := Lib.hid hx1
  have Hu := Lib.hid hu'
  have HA := Lib.hid ha
  have Hlt := Lib.hid hbx.lt
  have HB := Lib.hid hB
  have Hp := Lib.hid hp
  clear hl hs hF1 hv hb1 hbx1 hx1 hu' ha hlook hb0 hr0 hS hS0 hn hn0 e0 e1 eu el hu hF hbx hc0 hc1 hB hp
  have HG := Lib.hid hg
  subst hW1
  clear hg
  cases g with
  | true =>
    obtain rfl : ob = none := by have := HG.out; cases ob with | none => rfl | some _ => cases this
    go_enter Try.func49, Try.ntmps49
    go_wp2_with fail
    go_region
    obtain ⟨W2, hW2⟩ : ∃ W, W = ((w.alloc (Obj.cells #[Value.string s, Value.slice A n c, Value.bool true] 84)).setCell { block := p, off := o + 1 } (Value.int IntKind.i64 ↑u')).drew := ⟨_, rfl⟩
    rw [← hW2]
    have hm2 : Mv (w.alloc (Obj.cells #[Value.string s, Value.slice A n c, Value.bool true] 84)) W2 (· = p) := by rw [hW2]; exact (Mv.setCell _ _ _).drew
    have hbx2 : Bx W2 p (vs.set (o + 1) (.int .i64 u')) T := by rw [hW2]; exact HBX.out.set (o + 1) _
    have hx2 : Bx W2 w.heap.size [.string s, .slice A n c, .bool true] 84 := HX.out.eq (hm2.block _ HX.out.lt (by have := Hlt.out; omega))
    have hk2 : Ks (w.alloc (Obj.cells #[Value.string s, Value.slice A n c, Value.bool true] 84)) W2 := hm2.ks fun k e => by rw [e]; exact not_kd_bx HBX.out (.inl hT)
    have hF2 := HF1.out.keep hk2 fun b e _ => hm2.block b (by have := HF1.out.not_kd e; omega) (by have := HF1.out.not_kd e; have := Hp.out; omega)
    have hlt2 : w.heap.size < W2.heap.size := hx2.lt
    have hplt := Hlt.out
    have q0 : W2.cell? ⟨p, o, none⟩ = some mv := by rw [hbx2.cells, List.getElem?_set_ne (by omega)]; exact HC0.out
    have x0 : W2.cell? ⟨w.heap.size, 0, none⟩ = some (.string s) := hx2.cells 0
    have x1 : W2.cell? ⟨w.heap.size, 1, none⟩ = some (.slice A n c) := hx2.cells 1
    have x2 : W2.cell? ⟨w.heap.size, 2, none⟩ = some (.bool true) := hx2.cells 2
    have HM2 := Lib.hid hm2
    have HK2 := Lib.hid hk2
    have HBX2 := Lib.hid hbx2
    have HX2 := Lib.hid hx2
    have HF2 := Lib.hid hF2
    have HLT2 := Lib.hid hlt2
    have HPL := Lib.hid hplt
    clear hm2 hk2 hbx2 hx2 hF2 hlt2 hplt
    clear q1 f0 f1 hlook1 hW2
    obtain ⟨W3, hr3, hF3, hm3, hk3⟩ := drop_run (w := W2.drew) (s := s) HF2.out.drew HA.out HS.out 0
    have y0 : W3.cell? ⟨p, o, none⟩ = some mv := (World.cell?_of_block (hm3.block p (by have := HLT2.out; have := HPL.out; show p < W2.heap.size; omega) fun e => by have := HMB.out _ e; have := Hp.out; omega)).trans q0
    have y1 : W3.cell? ⟨w.heap.size, 0, none⟩ = some (.string s) := (World.cell?_of_block (hm3.block w.heap.size HLT2.out fun e => by have := HMB.out _ e; omega)).trans x0
    have HF3 := Lib.hid hF3
    have HM3 := Lib.hid hm3
    clear hF3 hm3 hk3
    clear x1
    go_wp2_with fail
    go_region_held3 (fun W => W.cell? ⟨p, o, none⟩ = some mv ∧ W.cell? ⟨w.heap.size, 0, none⟩ = some (.string s)) (first | exact ⟨q0, x0⟩ | exact ⟨y0, y1⟩) (refine step_delete_run rfl (.tmp 28) (.tmp 30) _ _ rfl rfl rfl hr3 ?_)
    go_wp2_with fail
    go_end0
    rw [← Hu.out] at HBX2
    refine ⟨rfl, mv, ?_, HF3.out, ?_, fun b e => .inl e⟩
    · rw [set_same HC0.out]
      exact HBX2.out.eq (HM3.out.undrew.block p HBX2.out.lt fun e => by have := HMB.out _ e; have := Hp.out; omega)
    · exact (((Mv.of HB1.out (fun _ => False)).trans HM2.out).trans HM3.out.undrew).weak fun k _ e => by
        rcases e with (e | e) | e
        · exact e.elim
        · exact .inl e
        · exact .inr e
  | false =>
    obtain ⟨bs, rfl⟩ : ∃ bs, ob = some bs := by have := HG.out; cases ob with | none => cases this | some b => exact ⟨b, rfl⟩
    rcases HFw.out with ⟨e, e'⟩ | ⟨b, D, e, hBb, ho, hFD⟩
    · subst e
      have HE0 := Lib.hid e'
      clear e'
      go_enter Try.func49, Try.ntmps49
      go_wp2_with fail
      go_region
      obtain ⟨W2, hW2⟩ : ∃ W, W = ((w.alloc (Obj.cells #[Value.string s, Value.slice A n c, Value.bool false] 84)).setCell { block := p, off := o + 1 } (Value.int IntKind.i64 ↑u')).drew := ⟨_, rfl⟩
      rw [← hW2]
      have hm2 : Mv (w.alloc (Obj.cells #[Value.string s, Value.slice A n c, Value.bool false] 84)) W2 (· = p) := by rw [hW2]; exact (Mv.setCell _ _ _).drew
      have hbx2 : Bx W2 p (vs.set (o + 1) (.int .i64 u')) T := by rw [hW2]; exact HBX.out.set (o + 1) _
      have hx2 : Bx W2 w.heap.size [.string s, .slice A n c, .bool false] 84 := HX.out.eq (hm2.block _ HX.out.lt (by have := Hlt.out; omega))
      have hk2 : Ks (w.alloc (Obj.cells #[Value.string s, Value.slice A n c, Value.bool false] 84)) W2 := hm2.ks fun k e => by rw [e]; exact not_kd_bx HBX.out (.inl hT)
      have hF2 := HF1.out.keep hk2 fun b e _ => hm2.block b (by have := HF1.out.not_kd e; omega) (by have := HF1.out.not_kd e; have := Hp.out; omega)
      have hlt2 : w.heap.size < W2.heap.size := hx2.lt
      have hplt := Hlt.out
      have q0 : W2.cell? ⟨p, o, none⟩ = some (Value.map none) := by rw [hbx2.cells, List.getElem?_set_ne (by omega)]; exact HC0.out
      have x0 : W2.cell? ⟨w.heap.size, 0, none⟩ = some (.string s) := hx2.cells 0
      have x1 : W2.cell? ⟨w.heap.size, 1, none⟩ = some (.slice A n c) := hx2.cells 1
      have x2 : W2.cell? ⟨w.heap.size, 2, none⟩ = some (.bool false) := hx2.cells 2
      have HM2 := Lib.hid hm2
      have HK2 := Lib.hid hk2
      have HBX2 := Lib.hid hbx2
      have HX2 := Lib.hid hx2
      have HF2 := Lib.hid hF2
      have HLT2 := Lib.hid hlt2
      have HPL := Lib.hid hplt
      clear hm2 hk2 hbx2 hx2 hF2 hlt2 hplt
      clear q1 f0 f1 hlook1 hW2
      have hmm := @run_makeMap Try.prog
      have heq := eql_none
      have qa : ∀ x, (W2.alloc x).cell? ⟨p, o, none⟩ = some (.map none) := fun x => ((HBX2.out.alloc x).cells o).trans ((HBX2.out.cells o).symm.trans q0)
      have fa : ∀ x, (W2.alloc x).frozen? ⟨p, o, none⟩ = false := fun x => (HBX2.out.alloc x).free o
      go_upto_region 6 with fail
      obtain ⟨W3, hW3⟩ : ∃ W, W = (W2.alloc (Obj.map #[] 0)).setCell { block := p, off := o } (Value.map (some W2.heap.size)) := ⟨_, rfl⟩
      rw [← hW3]
      have hbx3 : Bx W3 p ((vs.set (o + 1) (.int .i64 u')).set o (.map (some W2.heap.size))) T := by rw [hW3]; exact (HBX2.out.alloc _).set o _
      have hm3 : Mv W2 W3 (· = p) := by
        rw [hW3]
        exact ((Mv.of ((Below.refl W2.heap.size W2).alloc (Nat.le_refl _) _) (fun _ => False)).trans (Mv.setCell _ _ _)).weak fun k _ e => by rcases e with e | e; exact e.elim; exact e
      have hk3 : Ks W2 W3 := hm3.ks fun k e => by rw [e]; exact not_kd_bx HBX2.out (.inl hT)
      have hx3 : Bx W3 w.heap.size [.string s, .slice A n c, .bool false] 84 := HX2.out.eq (hm3.block _ HX2.out.lt (by have := HPL.out; omega))
      have ho3 : Ow W3 W2.heap.size (.map []) := by
        rw [hW3]
        exact (Ow.of (World.ownsMap_made W2 _ _ _)).eq (Below.heap_setCell _ _ _ _ (by show W2.heap.size ≠ p; have := HLT2.out; have := HPL.out; omega))
      have hFD3 : FsD W3 B l (.map []) := by rw [HE0.out]; exact FsD.empty W3 _
      have hlt3 : w.heap.size < W3.heap.size := hx3.lt
      have q0' : W3.cell? ⟨p, o, none⟩ = some (.map (some W2.heap.size)) := by
        rw [hbx3.cells, List.getElem?_set, if_pos rfl]
        rw [if_pos]
        have := HC0.out
        rw [List.length_set]
        rcases Nat.lt_or_ge o vs.length with g | g
        · exact g
        · rw [List.getElem?_eq_none g] at this; cases this
      clear q0 x0 x1 x2
      have q0 := q0'
      have x0 : W3.cell? ⟨w.heap.size, 0, none⟩ = some (.string s) := hx3.cells 0
      have x1 : W3.cell? ⟨w.heap.size, 1, none⟩ = some (.slice A n c) := hx3.cells 1
      have hv3 : Bz W3 B (.slice A n c) bs := (HV.out.keep HK2.out).keep hk3
      have hB2 : B ≤ W2.heap.size := by have := HB.out; have := HLT2.out; omega
      obtain ⟨W4, hr4, hF4, hm4, hk4⟩ := store_run (w := W3.drew) (s := s) hB2 (Ow.eq ho3 rfl) (hFD3.keep fun _ _ => rfl) HA.out HS.out (hv3.keep fun _ _ => rfl) HL.out
      have y0 : W4.cell? ⟨p, o, none⟩ = some (.map (some W2.heap.size)) := (World.cell?_of_block (hm4.block p (by show p < W3.heap.size; exact hbx3.lt) (by have := HBX2.out.lt; omega))).trans q0
      have y1 : W4.cell? ⟨w.heap.size, 0, none⟩ = some (.string s) := (World.cell?_of_block (hm4.block w.heap.size hlt3 (by have := HLT2.out; omega))).trans x0
      have y2 : W4.cell? ⟨w.heap.size, 1, none⟩ = some (.slice A n c) := (World.cell?_of_block (hm4.block w.heap.size hlt3 (by have := HLT2.out; omega))).trans x1
      have HF4 := Lib.hid hF4
      have HM4 := Lib.hid hm4
      have HM3 := Lib.hid hm3
      have HBX3 := Lib.hid hbx3
      clear hF4 hm4 hk4 hm3 hk3 hbx3 hx3 ho3 hFD3 hlt3 q0' hv3 hB2 hmm heq qa fa hW3
      go_region_held3 (fun W => W.cell? ⟨p, o, none⟩ = some (.map (some W2.heap.size)) ∧ W.cell? ⟨w.heap.size, 0, none⟩ = some (.string s) ∧ W.cell? ⟨w.heap.size, 1, none⟩ = some (.slice A n c)) (first | exact ⟨q0, x0, x1⟩ | exact ⟨y0, y1, y2⟩) (refine step_mapUpdate_run rfl (.tmp 43) (.tmp 45) (.tmp 47) _ rfl rfl rfl rfl hr4 ?_)
      go_wp2_with fail
      go_end0
      rw [← Hu.out] at HBX3
      refine ⟨rfl, _, ?_, HF4.out, ?_, fun b e => .inr ?_⟩
      · rw [List.set_comm _ _ (by omega)]
        exact HBX3.out.eq (HM4.out.undrew.block p HBX3.out.lt (by have := HBX2.out.lt; omega))
      · exact (((Mv.of HB1.out (fun _ => False)).trans HM2.out).trans (HM3.out.trans (HM4.out.undrew.weak (M := fun k => W2.heap.size ≤ k) fun k _ e => by omega))).weak fun k hk e => by
          rcases e with (e | e) | (e | e)
          · exact e.elim
          · exact .inl e
          · exact .inl e
          · have := HLT2.out; omega
      · injection e with e
        injection e with e
        have := HLT2.out
        omega
    · subst e
      go_enter Try.func49, Try.ntmps49
      go_wp2_with fail
      go_region
      obtain ⟨W2, hW2⟩ : ∃ W, W = ((w.alloc (Obj.cells #[Value.string s, Value.slice A n c, Value.bool false] 84)).setCell { block := p, off := o + 1 } (Value.int IntKind.i64 ↑u')).drew := ⟨_, rfl⟩
      rw [← hW2]
      have hm2 : Mv (w.alloc (Obj.cells #[Value.string s, Value.slice A n c, Value.bool false] 84)) W2 (· = p) := by rw [hW2]; exact (Mv.setCell _ _ _).drew
      have hbx2 : Bx W2 p (vs.set (o + 1) (.int .i64 u')) T := by rw [hW2]; exact HBX.out.set (o + 1) _
      have hx2 : Bx W2 w.heap.size [.string s, .slice A n c, .bool false] 84 := HX.out.eq (hm2.block _ HX.out.lt (by have := Hlt.out; omega))
      have hk2 : Ks (w.alloc (Obj.cells #[Value.string s, Value.slice A n c, Value.bool false] 84)) W2 := hm2.ks fun k e => by rw [e]; exact not_kd_bx HBX.out (.inl hT)
      have hF2 := HF1.out.keep hk2 fun b e _ => hm2.block b (by have := HF1.out.not_kd e; omega) (by have := HF1.out.not_kd e; have := Hp.out; omega)
      have hlt2 : w.heap.size < W2.heap.size := hx2.lt
      have hplt := Hlt.out
      have q0 : W2.cell? ⟨p, o, none⟩ = some (Value.map (some b)) := by rw [hbx2.cells, List.getElem?_set_ne (by omega)]; exact HC0.out
      have x0 : W2.cell? ⟨w.heap.size, 0, none⟩ = some (.string s) := hx2.cells 0
      have x1 : W2.cell? ⟨w.heap.size, 1, none⟩ = some (.slice A n c) := hx2.cells 1
      have x2 : W2.cell? ⟨w.heap.size, 2, none⟩ = some (.bool false) := hx2.cells 2
      have HM2 := Lib.hid hm2
      have HK2 := Lib.hid hk2
      have HBX2 := Lib.hid hbx2
      have HX2 := Lib.hid hx2
      have HF2 := Lib.hid hF2
      have HLT2 := Lib.hid hlt2
      have HPL := Lib.hid hplt
      clear hm2 hk2 hbx2 hx2 hF2 hlt2 hplt
      clear q1 f0 f1 hlook1 hW2
      have heq := eql_some b
      go_upto_region 6 with fail
      have hbm := HMB.out b rfl
      have hW2b : W2.heap[b]? = w.heap[b]? := (HM2.out.block b (by have := HB1.out.size; omega) (by have := Hp.out; omega)).trans (HB1.out.block b hbm.2)
      have hkw := (Ks.of HB1.out).trans HK2.out
      obtain ⟨W4, hr4, hF4, hm4, hk4⟩ := store_run (w := W2.drew) (s := s) hBb ((ho.eq hW2b).eq rfl) ((hFD.keep hkw).keep fun _ _ => rfl) HA.out HS.out ((HV.out.keep HK2.out).keep fun _ _ => rfl) HL.out
      have y0 : W4.cell? ⟨p, o, none⟩ = some (.map (some b)) := (World.cell?_of_block (hm4.block p (by show p < W2.heap.size; exact HBX2.out.lt) (by have := Hp.out; omega))).trans q0
      have y1 : W4.cell? ⟨w.heap.size, 0, none⟩ = some (.string s) := (World.cell?_of_block (hm4.block w.heap.size HLT2.out (by omega))).trans x0
      have y2 : W4.cell? ⟨w.heap.size, 1, none⟩ = some (.slice A n c) := (World.cell?_of_block (hm4.block w.heap.size HLT2.out (by omega))).trans x1
      have HF4 := Lib.hid hF4
      have HM4 := Lib.hid hm4
      have HBM := Lib.hid hbm
      clear hF4 hm4 hk4 hW2b hkw ho hFD heq hbm
      go_region_held3 (fun W => W.cell? ⟨p, o, none⟩ = some (.map (some b)) ∧ W.cell? ⟨w.heap.size, 0, none⟩ = some (.string s) ∧ W.cell? ⟨w.heap.size, 1, none⟩ = some (.slice A n c)) (first | exact ⟨q0, x0, x1⟩ | exact ⟨y0, y1, y2⟩) (refine step_mapUpdate_run rfl (.tmp 43) (.tmp 45) (.tmp 47) _ rfl rfl rfl rfl hr4 ?_)
      go_wp2_with fail
      go_end0
      rw [← Hu.out] at HBX2
      refine ⟨rfl, _, ?_, HF4.out, ?_, fun b e => .inl e⟩
      · rw [set_same HC0.out]
        exact HBX2.out.eq (HM4.out.undrew.block p HBX2.out.lt (by have := HBM.out; have := Hp.out; omega))
      · exact (((Mv.of HB1.out (fun _ => False)).trans HM2.out).trans HM4.out.undrew).weak fun k _ e => by
          rcases e with (e | e) | e
          · exact e.elim
          · exact .inl e
          · exact .inr (by rw [e])
end
end Go.Proofs.Ytpaaafdnkehmfaa.Vf
