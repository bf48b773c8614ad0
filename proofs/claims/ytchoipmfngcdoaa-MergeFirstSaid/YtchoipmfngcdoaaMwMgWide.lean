/- merge's laws: a tree; the schema of any trees. No conditions. · merge's laws: known. No conditions. -/
import Derived.Test.YtchoipmfngcdoaaMwMgFrom
import Derived.Test.YtchoipmfngcdoaaMwTSame
namespace Go.Proofs.Ytchoipmfngcdoaa.Mg
open Go.RowKit Go.Proofs.Ytchoipmfngcdoaa.Pt Go.Proofs.Ytchoipmfngcdoaa.Df Go.Proofs.Ytchoipmfngcdoaa.Sc Go.Proofs.Ytchoipmfngcdoaa.Cl
set_option maxRecDepth 100000

set_option maxHeartbeats 1000000 in
theorem some_any (A : Option Addr) (n c : Nat) (w : World) :
    Calls Try.prog 10 #[.slice A n c] w fun e w' => e = .returned (.agg #[.bool true, .slice A n c]) ∧ Below w.heap.size w w' := by
  obtain ⟨W2, hW2, hb, hz, g1⟩ := box1 w [.bool true, .slice A n c] 26
  obtain ⟨e0, e1⟩ := g1.c2
  have HB := Lib.hid hb
  clear hb g1
  go_enter Try.func10, Try.ntmps10
  go_wp2_with fail
  rw [← hW2]
  refine bodyPost_ret (v := .agg #[.bool true, .slice A n c]) (by simp [results, Try.results10, go_sem, e0, e1]) rfl ?_
  exact ⟨rfl, HB.out⟩

/-- A field of all names, as it lies. -/
theorem fall_at {w : World} {B g o : Nat} {to : Int} (h : ∀ j, w.cell? ⟨g, o + j, none⟩ = [Value.bool true, .slice none 0 0, .int .i64 to, .bool false][j]?) : FldAt w B g o (fAll to) :=
  ⟨none, 0, 0, h 0, h 1, h 2, h 3, ⟨rfl, fun j u hu => by simp at hu⟩, Nat.zero_le _, Nat.le_refl _⟩
theorem fs_one {w : World} {B g : Nat} {to : Int} {T : TypeId} (hg : g < B) (h : Bx w g [.bool true, .slice none 0 0, .int .i64 to, .bool false] T) : Fs w B (some ⟨g, 0, none⟩) 1 [fAll to] :=
  ⟨rfl, fun j f hf => by
    match j, hf with
    | 0, hf =>
      have : f = fAll to := by simpa using hf.symm
      subst this
      exact ⟨g, 0, rfl, hg, fall_at fun j => by simpa using h.cells j⟩
    | j + 1, hf => simp at hf⟩
def SchP (w : World) (sc : List Df) (e : Ending) (w' : World) : Prop := ∃ S : Sl, e = .returned (.slice S.A S.n S.c) ∧ Ds w' w'.heap.size S.A S.n sc ∧ S.n = sc.length ∧ Below w.heap.size w w'
set_option maxHeartbeats 1000000 in
theorem wide_any (w : World) : Calls Try.prog 18 #[] w (SchP w wideS) := by
  obtain ⟨W2, hW2, hb, hz, g1, g2⟩ := boxes2 w [.bool true, .slice none 0 0, .int .i64 0, .bool false] [.slice (some ⟨w.heap.size, 0, none⟩) 1 1, .bool false, .bool false] 56 59
  have hF := fs_one (B := W2.heap.size) (by omega) g1
  have hD : Ds W2 W2.heap.size (some ⟨w.heap.size + 1, 0, none⟩) 1 wideS := ⟨rfl, fun j d hd => by
    match j, hd with
    | 0, hd =>
      have : d = ⟨[fAll 0], false, false⟩ := by simpa using hd.symm
      subst this
      exact ⟨w.heap.size + 1, 0, rfl, by omega, some ⟨w.heap.size, 0, none⟩, 1, 1, g2.cells 0, g2.cells 1, g2.cells 2, hF, Nat.le_refl _, by simp [maxLen]⟩
    | j + 1, hd => simp at hd⟩
  have HD := Lib.hid hD
  have HB := Lib.hid hb
  clear hb g1 g2 hF hD
  go_enter Try.func18, Try.ntmps18
  go_wp2_with fail
  rw [← hW2]
  go_ret
  exact ⟨⟨some ⟨w.heap.size + 1, 0, none⟩, 1, 1⟩, rfl, HD.out, rfl, HB.out⟩

set_option maxHeartbeats 1000000 in
theorem one_any (w : World) : Calls Try.prog 9 #[] w (SchP w oneS) := by
  obtain ⟨W1, hW1, hb1, hz1, g0⟩ := box1 w [.bool true, .slice none 0 0] 54
  obtain ⟨W2, hW2, hb2, hz2, g1, g2⟩ := boxes2 W1 [.bool true, .slice none 0 0, .int .i64 1, .bool false] [.bool true, .slice none 0 0, .int .i64 2, .bool false] 56 56
  rw [hz1] at g1 g2
  obtain ⟨W3, hW3, hb3, hz3, g3⟩ := box1 W2 [.slice (some ⟨w.heap.size + 1, 0, none⟩) 1 1, .bool false, .bool false, .slice (some ⟨w.heap.size + 1 + 1, 0, none⟩) 1 1, .bool true, .bool false, .slice none 0 0, .bool false, .bool false] 59
  have hz2' : W2.heap.size = w.heap.size + 1 + 1 + 1 := by omega
  rw [hz2'] at g3
  have hF1 := fs_one (B := W3.heap.size) (by omega) (g1.below hb3 (by omega))
  have hF2 := fs_one (B := W3.heap.size) (by omega) (g2.below hb3 (by omega))
  have hD : Ds W3 W3.heap.size (some ⟨w.heap.size + 1 + 1 + 1, 0, none⟩) 3 oneS := ⟨rfl, fun j d hd => by
    match j, hd with
    | 0, hd =>
      have : d = ⟨[fAll 1], false, false⟩ := by simpa using hd.symm
      subst this
      exact ⟨w.heap.size + 1 + 1 + 1, 0, rfl, by omega, some ⟨w.heap.size + 1, 0, none⟩, 1, 1, g3.cells 0, g3.cells 1, g3.cells 2, hF1, Nat.le_refl _, by simp [maxLen]⟩
    | 1, hd =>
      have : d = ⟨[fAll 2], true, false⟩ := by simpa using hd.symm
      subst this
      exact ⟨w.heap.size + 1 + 1 + 1, 0, rfl, by omega, some ⟨w.heap.size + 1 + 1, 0, none⟩, 1, 1, g3.cells 3, g3.cells 4, g3.cells 5, hF2, Nat.le_refl _, by simp [maxLen]⟩
    | 2, hd =>
      have : d = ⟨[], false, false⟩ := by simpa using hd.symm
      subst this
      exact ⟨w.heap.size + 1 + 1 + 1, 0, rfl, by omega, none, 0, 0, g3.cells 6, g3.cells 7, g3.cells 8, ⟨rfl, fun j f hf => by simp at hf⟩, Nat.le_refl _, Nat.zero_le _⟩
    | j + 3, hd => simp at hd⟩
  have HD := Lib.hid hD
  have hb12 := hb1.trans (hb2.mono hb1.size)
  have HB := Lib.hid (hb12.trans (hb3.mono hb12.size))
  clear hb1 hb2 hb3 hb12 g0 g1 g2 g3 hF1 hF2 hD
  go_enter Try.func9, Try.ntmps9
  go_wp2_with fail
  rw [← hW1, ← hW2, ← hW3]
  go_ret
  exact ⟨⟨some ⟨w.heap.size + 1 + 1 + 1, 0, none⟩, 3, 3⟩, rfl, HD.out, rfl, HB.out⟩
theorem wide_fit : FitS wideS := by
  intro d hd
  simp at hd
  subst hd
  exact ⟨by simp, fun f hf => by simp at hf; subst hf; simp⟩
theorem one_fit : FitS oneS := by
  intro d hd
  simp at hd
  rcases hd with rfl | rfl | rfl
  · exact ⟨by simp, fun f hf => by simp at hf; subst hf; simp⟩
  · exact ⟨by simp, fun f hf => by simp at hf; subst hf; simp⟩
  · exact ⟨by simp, fun f hf => by simp at hf⟩

set_option maxHeartbeats 400000 in
theorem within12_any (a n : Int) (hn : 0 < n) (hn2 : n ≤ 2147483647) (ha : (Lit.int .i64 a).wf = true) (w : World) : Calls Try.prog 15 #[.int .i64 a, .int .i64 n] w fun e w' => e = .returned (.int .i64 (a % n)) ∧ w = w' := by
  have hx : -9223372036854775808 ≤ a ∧ a ≤ 9223372036854775807 := by simpa [Lit.wf, IntKind.min, IntKind.max, IntKind.signed, IntKind.bits] using ha
  obtain ⟨hx1, hx2⟩ := hx
  have hm1 := Int.tmod_lt_of_pos a hn
  have hm2 := Int.lt_tmod_of_pos a hn
  clear ha
  by_cases h : a.tmod n < 0
  · have Hf := Lib.hid (tmod_neg hn h)
    go_enter Try.func15, Try.ntmps15
    go_wp2
    go_ret
    exact ⟨by rw [← Hf.out]; rfl, rfl⟩
  · have Hf := Lib.hid (tmod_pos hn (by omega : 0 ≤ a.tmod n))
    go_enter Try.func15, Try.ntmps15
    go_wp2
    go_ret
    exact ⟨by rw [← Hf.out]; rfl, rfl⟩
end Go.Proofs.Ytchoipmfngcdoaa.Mg
namespace Go.Proofs.Ytchoipmfngcdoaa.Mg
open Go.RowKit Go.Proofs.Ytchoipmfngcdoaa.Pt Go.Proofs.Ytchoipmfngcdoaa.Df Go.Proofs.Ytchoipmfngcdoaa.Sc Go.Proofs.Ytchoipmfngcdoaa.Cl
set_option maxRecDepth 100000

abbrev oN : Op := ⟨false, .nil⟩
abbrev oE : Op := ⟨true, .nil⟩
abbrev oV (s : ByteArray) : Op := ⟨true, .cons s .nil .nil⟩
theorem k_nil (v : Bool) : OpK ⟨v, .nil⟩ := ⟨trivial, by simp [Tr.size], fun _ => rfl⟩
theorem bd_nil (v : Bool) : Bd ⟨v, .nil⟩ := ⟨by simp [Tr.size], by simp [dep]⟩
theorem k_val (s : ByteArray) : OpK (oV s) := ⟨⟨by rw [Tr.Asc, bn_cons]; exact List.pairwise_cons.2 ⟨(fun a h => by cases h), List.Pairwise.nil⟩, trivial, trivial⟩, by simp [Tr.size], fun h => by cases h⟩
theorem bd_val (s : ByteArray) : Bd (oV s) := ⟨by simp [Tr.size], by simp [dep]⟩
set_option maxHeartbeats 1000000 in
theorem value_any (x : ByteArray) (w : World) : Calls Try.prog 20 #[.string x] w fun e w' => e = .returned (.slice (some ⟨w.heap.size, 0, none⟩) 1 1) ∧ w' = w.alloc (Obj.cells #[Value.string x, Value.slice none 0 0] 51) := by
  go_enter Try.func20, Try.ntmps20
  go_wp2_with fail
  go_ret
  exact ⟨rfl, rfl⟩
theorem opb_nil (w : World) (B : Nat) (v : Bool) : OpB w B nil4.A nil4.n nil4.c ⟨v, .nil⟩ := ⟨rfl, Nat.le_refl _, Nat.zero_le _⟩
theorem opb_val {w : World} {B g : Nat} {s : ByteArray} {T : TypeId} (h : Bx w g [.string s, .slice none 0 0] T) (hg : g < B) : OpB w B (some ⟨g, 0, none⟩) 1 1 (oV s) :=
  ⟨⟨g, 0, rfl, hg, h.cells 0, ⟨none, 0, 0, h.cells 1, Nat.le_refl _, Nat.zero_le _, rfl⟩, 0, rfl, rfl⟩, Nat.le_refl _, by simp [maxLen]⟩
/-- Merge where one side is the old one. -/
theorem merge_old {sc : List Df} {S : Sl} {o a b x : Op} {so sa sb : Sl} {w : World} (h : Pl3 w w.heap.size o a b so sa sb) (hk : K3 o a b) (ho : Bd o) (ha : Bd a) (hb : Bd b) (hS : Ds w w.heap.size S.A S.n sc) (hSn : S.n ≤ 1000000) (hfit : FitS sc) (hx : (a = o ∧ x = b) ∨ (b = o ∧ x = a)) :
    Calls Try.prog 8 #[.slice S.A S.n S.c, .agg #[.bool o.is, .slice so.A so.n so.c], .agg #[.bool a.is, .slice sa.A sa.n sa.c], .agg #[.bool b.is, .slice sb.A sb.n sb.c]] w (MergeP w ⟨x, x, x, []⟩) := by
  have := merge_any sc S o a b so sa sb w h hk ho ha hb hS hSn hfit
  rw [mrg_old hx] at this
  exact this
set_option maxHeartbeats 4000000 in
theorem known_any (w : World) : Calls Try.prog 7 #[] w fun e w' => e = .returned (.bool true) ∧ Below w.heap.size w w' := by
  obtain ⟨W1, hW1, hb1, hz1, g1, g2⟩ := boxes2 w [.bool true, .slice none 0 0, .int .i64 0, .bool false] [.slice (some ⟨w.heap.size, 0, none⟩) 1 1, .bool false, .bool false] 56 59
  have hF := fs_one (B := W1.heap.size) (by omega) g1
  have hD : Ds W1 W1.heap.size (some ⟨w.heap.size + 1, 0, none⟩) 1 wideS := ⟨rfl, fun j d hd => by
    match j, hd with
    | 0, hd =>
      have : d = ⟨[fAll 0], false, false⟩ := by simpa using hd.symm
      subst this
      exact ⟨w.heap.size + 1, 0, rfl, by omega, some ⟨w.heap.size, 0, none⟩, 1, 1, g2.cells 0, g2.cells 1, g2.cells 2, hF, Nat.le_refl _, by simp [maxLen]⟩
    | j + 1, hd => simp at hd⟩
  have HM1 := Lib.hid (merge_old (S := ⟨some ⟨w.heap.size + 1, 0, none⟩, 1, 1⟩) (so := nil4) (sa := nil4) (sb := nil4) (x := oN) ⟨opb_nil _ _ _, opb_nil _ _ _, opb_nil _ _ _⟩ ⟨k_nil false, k_nil false, k_nil false⟩ (bd_nil _) (bd_nil _) (bd_nil _) hD (by simp) wide_fit (.inl ⟨rfl, rfl⟩))
  have HD := Lib.hid hD
  have HB1 := Lib.hid hb1
  clear hb1 g1 g2 hF hD hz1
  go_enter Try.func7, Try.ntmps7
  go_wp2_with fail
  rw [← hW1]
  refine HM1.out.mono ?_
  rintro e w2 ⟨s1, s2, s3, s4, rfl, _, hc2, hb2⟩
  obtain ⟨s4A, s4n, s4c⟩ := s4
  obtain rfl : s4n = 0 := hc2.len
  have HB2 := Lib.hid hb2
  clear hb2 hc2 hW1
  go_wp2_with fail
  obtain ⟨V1, hV1, hv1, hvz1, f1, f2⟩ := boxes2 w2 [.bool false, .slice s1.A s1.n s1.c] [.bool false, .slice s2.A s2.n s2.c] 26 26
  obtain ⟨V2, hV2, hv2, hvz2, f3⟩ := box1 V1 [.bool false, .slice s3.A s3.n s3.c] 26
  have hvz1' : V1.heap.size = w2.heap.size + 1 + 1 := by omega
  rw [hvz1'] at f3
  have f1 := f1.below hv2 (by omega)
  have f2 := f2.below hv2 (by omega)
  have hBV : Below W1.heap.size W1 V2 := HB2.out.trans ((hv1.trans (hv2.mono hv1.size)).mono HB2.out.size)
  have F := Lib.hid (fun (W : World) (hW : Below V2.heap.size V2 W) => (⟨(f1.below hW f1.lt).cells 0, (f2.below hW f2.lt).cells 0, (f3.below hW f3.lt).cells 0⟩ : W.cell? ⟨w2.heap.size, 0, none⟩ = some (.bool false) ∧ W.cell? ⟨w2.heap.size + 1, 0, none⟩ = some (.bool false) ∧ W.cell? ⟨w2.heap.size + 1 + 1, 0, none⟩ = some (.bool false)))
  have FL := Lib.hid f3.lt
  have HBV := Lib.hid hBV
  have HS := Lib.hid (some_any none 0 0 V2)
  clear f1 f2 f3 hv1 hv2 hvz1 hvz2 hvz1' hBV
  rw [← hV1, ← hV2]
  clear hV1 hV2
  (with_reducible refine HS.out.mono ?_)
  rintro e w3 ⟨rfl, h3⟩
  have H3 := Lib.hid h3
  clear h3 HS
  have HV := Lib.hid (value_any ⟨#[118]⟩ w3)
  go_wp2_with fail
  (with_reducible refine HV.out.mono ?_)
  rintro e w4 ⟨rfl, hw4⟩
  obtain ⟨W4, hW4, h4, _, g4⟩ := box1 w3 [.string ⟨#[118]⟩, .slice none 0 0] 51
  have e4 : w4 = W4 := by rw [hw4, hW4]
  subst e4
  have H4 := Lib.hid h4
  have G4 := Lib.hid g4
  clear h4 g4 hW4 hw4 HV
  have HS2 := Lib.hid (some_any (some ⟨w3.heap.size, 0, none⟩) 1 1 w4)
  go_wp2_with fail
  (with_reducible refine HS2.out.mono ?_)
  rintro e w5 ⟨rfl, h5⟩
  have H5 := Lib.hid h5
  clear h5 HS2
  have HS3 := Lib.hid (some_any none 0 0 w5)
  go_wp2_with fail
  (with_reducible refine HS3.out.mono ?_)
  rintro e w6 ⟨rfl, h6⟩
  have h46 : Below w4.heap.size w4 w6 := H5.out.trans (h6.mono H5.out.size)
  have h36 : Below V2.heap.size V2 w6 := H3.out.trans ((H4.out.trans (h46.mono H4.out.size)).mono H3.out.size)
  have hW6 : Below W1.heap.size W1 w6 := HBV.out.trans (h36.mono HBV.out.size)
  have HM2 := Lib.hid (merge_old (S := ⟨some ⟨w.heap.size + 1, 0, none⟩, 1, 1⟩) (so := nil4) (sa := ⟨some ⟨w3.heap.size, 0, none⟩, 1, 1⟩) (sb := nil4) (x := oV ⟨#[118]⟩) (w := w6) ⟨opb_nil _ _ true, opb_val (G4.out.below h46 G4.out.lt) (Nat.lt_of_lt_of_le G4.out.lt h46.size), opb_nil _ _ true⟩ ⟨k_nil true, k_val _, k_nil true⟩ (bd_nil _) (bd_val _) (bd_nil _) ((HD.out.below hW6).more hW6.size) (by simp) wide_fit (.inr ⟨rfl, rfl⟩))
  have H36 := Lib.hid h36
  have HW6 := Lib.hid hW6
  clear h6 h46 h36 hW6 HS3
  go_wp2_with fail
  refine HM2.out.mono ?_
  rintro e w7 ⟨t1, t2, t3, t4, rfl, hn7, hc7, hb7⟩
  obtain ⟨t4A, t4n, t4c⟩ := t4
  obtain rfl : t4n = 0 := hc7.len
  obtain ⟨t3A, t3n, t3c⟩ := t3
  obtain rfl : t3n = 1 := hn7.2.2.holds.len
  have h27 : Below V2.heap.size V2 w7 := H36.out.trans (hb7.mono H36.out.size)
  obtain ⟨q0, q1, q2⟩ := F.out w7 h27
  have HB7 := Lib.hid (HB1.out.trans ((HW6.out.trans (hb7.mono HW6.out.size)).mono HB1.out.size))
  have hl := Nat.lt_of_lt_of_le FL.out h27.size
  have hl1 : w2.heap.size + 1 < w7.heap.size := by omega
  have hl0 : w2.heap.size < w7.heap.size := by omega
  have hV3 : Below V2.heap.size V2 (((w7.alloc (Obj.cells #[Value.bool true, .slice t1.A t1.n t1.c] 26)).alloc (Obj.cells #[Value.bool true, .slice t2.A t2.n t2.c] 26)).alloc (Obj.cells #[Value.bool true, .slice t3A 1 t3c] 26)) := ((h27.alloc h27.size _).alloc (by simp; have := h27.size; omega) _).alloc (by simp; have := h27.size; omega) _
  obtain ⟨r0, r1, r2⟩ := F.out _ hV3
  clear hn7 hc7 hb7 h27 hV3 q0 q1 q2
  go_wp2_with fail
  go_ret
  refine ⟨rfl, ?_⟩
  exact ((HB7.out.alloc HB7.out.size _).alloc (by simp; have := HB7.out.size; omega) _).alloc (by simp; have := HB7.out.size; omega) _
end Go.Proofs.Ytchoipmfngcdoaa.Mg
