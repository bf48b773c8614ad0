/- csv: what a file is read as (read), and loaded as (Load). Conditions: texts of ASCII bytes in its fields; MaxLen's cell. -/
import Derived.Test.YtkgpjohfkfbfhaaGreatDoorMwCvInOrd
import Derived.Test.YtkgpjohfkfbfhaaGreatDoorMwCwSay
import Derived.Deep.RegionWith
import Derived.Deep.CutRange
import Derived.Outline
namespace Go.Proofs.YtkgpjohfkfbfhaaGreatDoor.Cv
open Go.RowKit Go.Proofs.YtkgpjohfkfbfhaaGreatDoor.Jd Go.Proofs.YtkgpjohfkfbfhaaGreatDoor.Li Go.Proofs.YtkgpjohfkfbfhaaGreatDoor.Cl
set_option maxRecDepth 100000

/-- A box of a file. -/
def Fil (w : World) (g : Nat) (a b c d : Value) : Prop := w.heap[g]? = some (.cells #[a, b, c, d] 78 (0, 0))
section
variable {w w' : World} {g : Nat} {a b c d : Value}
theorem Fil.new (w : World) (a b c d : Value) : Fil (w.alloc (Obj.cells #[a, b, c, d] 78)) w.heap.size a b c d := heap_alloc_new w _
theorem Fil.lt (h : Fil w g a b c d) : g < w.heap.size := (Array.getElem?_eq_some_iff.1 h).1
theorem Fil.at_ (h : Fil w g a b c d) (j : Nat) : w.cell? ⟨g, j, none⟩ = #[a, b, c, d][j]? := by rw [cell_of_row _ _ _ _ _ _ h]
theorem Fil.cells (h : Fil w g a b c d) : w.cell? ⟨g, 0, none⟩ = some a ∧ w.cell? ⟨g, 1, none⟩ = some b ∧ w.cell? ⟨g, 2, none⟩ = some c ∧ w.cell? ⟨g, 3, none⟩ = some d := ⟨h.at_ 0, h.at_ 1, h.at_ 2, h.at_ 3⟩
theorem Fil.free (h : Fil w g a b c d) : w.frozen? ⟨g, 0, none⟩ = false ∧ w.frozen? ⟨g, 1, none⟩ = false ∧ w.frozen? ⟨g, 2, none⟩ = false ∧ w.frozen? ⟨g, 3, none⟩ = false := by
  have h' : w.heap[g]? = some (.cells #[a, b, c, d] 78 (0, 0)) := h
  exact ⟨by simp [World.frozen?, h'], by simp [World.frozen?, h'], by simp [World.frozen?, h'], by simp [World.frozen?, h']⟩
theorem Fil.below (h : Fil w g a b c d) (hb : Below w.heap.size w w') : Fil w' g a b c d := (hb.block _ h.lt).trans h
theorem Fil.set3 (h : Fil w g a b c d) (x : Value) : Fil (w.setCell ⟨g, 3, none⟩ x) g a b c x := by
  unfold Fil
  rw [heap_setCell_same w g 3 _ _ _ h]
  rfl
theorem Fil.set4 (h : Fil w g a b c d) (x0 x1 x2 x3 : Value) : Fil ((((w.setCell ⟨g, 0, none⟩ x0).setCell ⟨g, 1, none⟩ x1).setCell ⟨g, 2, none⟩ x2).setCell ⟨g, 3, none⟩ x3) g x0 x1 x2 x3 := by
  unfold Fil
  rw [heap_setCell_same _ g 3 _ _ _ (heap_setCell_same _ g 2 _ _ _ (heap_setCell_same _ g 1 _ _ _ (heap_setCell_same w g 0 _ _ _ h)))]
  rfl
end
theorem below4 {B : Nat} {w w' : World} {g : Nat} (h : Below B w w') (hg : B ≤ g) (x0 x1 x2 x3 : Value) : Below B w ((((w'.setCell ⟨g, 0, none⟩ x0).setCell ⟨g, 1, none⟩ x1).setCell ⟨g, 2, none⟩ x2).setCell ⟨g, 3, none⟩ x3) :=
  (((h.setCell (p := ⟨g, 0, none⟩) hg x0).setCell (p := ⟨g, 1, none⟩) hg x1).setCell (p := ⟨g, 2, none⟩) hg x2).setCell (p := ⟨g, 3, none⟩) hg x3
theorem far4 {w : World} {g b o : Nat} (x0 x1 x2 x3 : Value) (h : b ≠ g) : ((((w.setCell ⟨g, 0, none⟩ x0).setCell ⟨g, 1, none⟩ x1).setCell ⟨g, 2, none⟩ x2).setCell ⟨g, 3, none⟩ x3).cell? ⟨b, o, none⟩ = w.cell? ⟨b, o, none⟩ := by
  rw [World.cell?_setCell_far _ _ _ _ (by simpa using Ne.symm h), World.cell?_setCell_far _ _ _ _ (by simpa using Ne.symm h), World.cell?_setCell_far _ _ _ _ (by simpa using Ne.symm h), World.cell?_setCell_far _ _ _ _ (by simpa using Ne.symm h)]
theorem size4 {w : World} {g : Nat} (x0 x1 x2 x3 : Value) : ((((w.setCell ⟨g, 0, none⟩ x0).setCell ⟨g, 1, none⟩ x1).setCell ⟨g, 2, none⟩ x2).setCell ⟨g, 3, none⟩ x3).heap.size = w.heap.size := by simp [World.setCell]

/-- The slice holds these rows, in blocks that P picks. -/
structure SeesRP (w : World) (P : Nat → Prop) (A : Option Addr) (n : Nat) (rs : List Rw) : Prop where
  len : n = rs.length
  at_ : ∀ (k : Nat) (r : Rw), rs[k]? = some r → ∃ b o Af nf cf, A = some ⟨b, o, none⟩ ∧ P b ∧ w.cell? ⟨b, o + k * 2, none⟩ = some (.slice Af nf cf) ∧ w.cell? ⟨b, o + k * 2 + 1, none⟩ = some (.string r.en) ∧ SeesLP w P Af nf r.fs ∧ nf ≤ cf ∧ cf ≤ maxLen
section
variable {w w' : World} {P P' : Nat → Prop} {n : Nat} {A : Option Addr} {rs : List Rw}
theorem SeesRP.keep (h : SeesRP w P A n rs) (hk : ∀ b o, P b → w'.cell? ⟨b, o, none⟩ = w.cell? ⟨b, o, none⟩) : SeesRP w' P A n rs :=
  ⟨h.len, fun k r hr => by
    obtain ⟨b, o, Af, nf, cf, h1, h2, h3, h4, h5, h6⟩ := h.at_ k r hr
    exact ⟨b, o, Af, nf, cf, h1, h2, (hk b _ h2).trans h3, (hk b _ h2).trans h4, h5.keep hk, h6⟩⟩
theorem SeesRP.more (h : SeesRP w P A n rs) (hP : ∀ b, P b → P' b) : SeesRP w P' A n rs :=
  ⟨h.len, fun k r hr => by
    obtain ⟨b, o, Af, nf, cf, h1, h2, h3, h4, h5, h6⟩ := h.at_ k r hr
    exact ⟨b, o, Af, nf, cf, h1, hP b h2, h3, h4, h5.more hP, h6⟩⟩
theorem SeesRP.sees {B : Nat} (h : SeesRP w P A n rs) (hP : ∀ b, P b → b < B) : SeesR w B A n rs :=
  ⟨h.len, fun k r hr => by
    obtain ⟨b, o, Af, nf, cf, h1, h2, h3, h4, h5, h6⟩ := h.at_ k r hr
    exact ⟨b, o, Af, nf, cf, h1, hP b h2, h3, h4, h5.sees hP, h6⟩⟩
theorem SeesRP.rest {b o : Nat} {r : Rw} (h : SeesRP w P (some ⟨b, o, none⟩) n (r :: rs)) (c : Nat) (hc : n ≤ c) : SeesRP w P (some (if c = 1 then ⟨b, o, none⟩ else ⟨b, o + 2, none⟩)) (n - 1) rs := by
  have hl := h.len
  simp only [List.length_cons] at hl
  by_cases h1 : c = 1
  · rw [if_pos h1]
    have hl : rs = [] := List.eq_nil_of_length_eq_zero (by omega)
    subst hl
    exact ⟨by simp; omega, fun k r hr => by simp at hr⟩
  · rw [if_neg h1]
    refine ⟨by omega, fun k x hx => ?_⟩
    obtain ⟨b', o', Af, nf, cf, h1, h2, h3, h4, h5⟩ := h.at_ (k + 1) x (by simpa using hx)
    injection h1 with h1
    injection h1 with e1 e2
    subst e1; subst e2
    exact ⟨_, _, Af, nf, cf, rfl, h2, by rw [show o + 2 + k * 2 = o + (k + 1) * 2 by omega]; exact h3, by rw [show o + 2 + k * 2 + 1 = o + (k + 1) * 2 + 1 by omega]; exact h4, h5⟩
theorem OwnR.seesP {base c : Nat} {vs : List Value} (h : OwnR w base A n c rs vs) : SeesRP w (fun b => base ≤ b ∧ b < w.heap.size) A n rs := by
  refine ⟨h.len, fun k r hr => ?_⟩
  obtain ⟨Af, nf, cf, h1, h2, h3, h4, h5⟩ := h.row.at_ hr
  rcases own_form h.own with ⟨rfl, rfl, hl⟩ | ⟨g, rfl, hg, hgl, _, _, hc⟩
  · rw [hl] at h1; simp at h1
  · exact ⟨g, 0, Af, nf, cf, rfl, ⟨hg, hgl⟩, hc _ _ h1, hc _ _ h2, h5.more (fun b hb => ⟨hb.1, hb.2.1⟩), h3, h4⟩
end

/-- What was read: the rows, the tree that they say. -/
structure Rd (w : World) (base : Nat) (rs : List Rw) (o : Tr × Nat × Int) (Ah Ar At : Option Addr) (nh ch nr cr ct : Nat) (ee : ByteArray) : Prop where
  tree : HoldsP w (fun b => base ≤ b ∧ b < w.heap.size) At o.1.len o.1
  cap : o.1.len ≤ ct ∧ ct ≤ maxLen
  rows : o.2.2 = 0 → ∃ h t, rs = h :: t ∧ ee = h.en ∧ nh ≤ ch ∧ ch ≤ maxLen ∧ nr ≤ cr ∧ cr ≤ maxLen ∧ SeesLP w (fun b => base ≤ b ∧ b < w.heap.size) Ah nh h.fs ∧ SeesRP w (fun b => base ≤ b ∧ b < w.heap.size) Ar nr t
theorem Rd.none_ (w : World) (base : Nat) (rs : List Rw) (i : Nat) (e : Int) (he : e ≠ 0) : Rd w base rs (.nil, i, e) none none none 0 0 0 0 0 ⟨#[]⟩ :=
  ⟨rfl, ⟨Nat.le_refl _, by simp [maxLen]⟩, fun h => absurd h he⟩
theorem Rd.below {w w' : World} {base : Nat} {rs : List Rw} {o : Tr × Nat × Int} {Ah Ar At : Option Addr} {nh ch nr cr ct : Nat} {ee : ByteArray} (h : Rd w base rs o Ah Ar At nh ch nr cr ct ee) (hb : Below w.heap.size w w') : Rd w' base rs o Ah Ar At nh ch nr cr ct ee :=
  ⟨(h.tree.keep (w' := w') fun b o hb1 => hb.cell (p := ⟨b, o, none⟩) hb1.2).more fun b hb1 => ⟨hb1.1, Nat.lt_of_lt_of_le hb1.2 hb.size⟩, h.cap, fun h0 => by
    obtain ⟨x, t, h1, h2, h3, h4, h5, h6, h7, h8⟩ := h.rows h0
    exact ⟨x, t, h1, h2, h3, h4, h5, h6, (h7.keep (w' := w') fun b o hb1 => hb.cell (p := ⟨b, o, none⟩) hb1.2).more (fun b hb1 => ⟨hb1.1, Nat.lt_of_lt_of_le hb1.2 hb.size⟩), (h8.keep (w' := w') fun b o hb1 => hb.cell (p := ⟨b, o, none⟩) hb1.2).more (fun b hb1 => ⟨hb1.1, Nat.lt_of_lt_of_le hb1.2 hb.size⟩)⟩⟩
/-- What is answered. -/
def RdP (w : World) (rs : List Rw) (o : Tr × Nat × Int) (en : Ending) (w' : World) : Prop :=
  ∃ Ah Ar At nh ch nr cr ct ee, en = .returned (.tuple #[.agg #[.slice Ah nh ch, .string ee, .slice Ar nr cr, .slice At o.1.len ct], .int .i64 (o.2.1 : Nat), .int .i64 o.2.2]) ∧ Rd w' w.heap.size rs o Ah Ar At nh ch nr cr ct ee ∧ Below w.heap.size w w'

/-- A world that reads as another, but for one block. -/
theorem rd_fin {w5 w6 : World} {base : Nat} {h : Rw} {t : List Rw} {T : Tr} {Af Ar At : Option Addr} {nf cf nr cr ct : Nat} (h1 : HoldsP w5 (fun b => base < b ∧ b < w5.heap.size) At T.len T) (h2 : T.len ≤ ct ∧ ct ≤ maxLen) (h3 : nf ≤ cf ∧ cf ≤ maxLen) (h4 : nr ≤ cr ∧ cr ≤ maxLen) (h5 : SeesLP w5 (fun b => base < b ∧ b < w5.heap.size) Af nf h.fs) (h6 : SeesRP w5 (fun b => base < b ∧ b < w5.heap.size) Ar nr t) (hb : Below w5.heap.size w5 w6) (x0 x1 x2 x3 : Value) :
    Rd ((((w6.setCell ⟨base, 0, none⟩ x0).setCell ⟨base, 1, none⟩ x1).setCell ⟨base, 2, none⟩ x2).setCell ⟨base, 3, none⟩ x3) base (h :: t) (T, 0, 0) Af Ar At nf cf nr cr ct h.en := by
  have hk : ∀ b o, (base < b ∧ b < w5.heap.size) → ((((w6.setCell ⟨base, 0, none⟩ x0).setCell ⟨base, 1, none⟩ x1).setCell ⟨base, 2, none⟩ x2).setCell ⟨base, 3, none⟩ x3).cell? ⟨b, o, none⟩ = w5.cell? ⟨b, o, none⟩ := fun b o hb1 => (far4 x0 x1 x2 x3 (by omega)).trans (hb.cell (p := ⟨b, o, none⟩) hb1.2)
  have hm : ∀ b, (base < b ∧ b < w5.heap.size) → base ≤ b ∧ b < ((((w6.setCell ⟨base, 0, none⟩ x0).setCell ⟨base, 1, none⟩ x1).setCell ⟨base, 2, none⟩ x2).setCell ⟨base, 3, none⟩ x3).heap.size := fun b hb1 => ⟨by omega, by rw [size4]; exact Nat.lt_of_lt_of_le hb1.2 hb.size⟩
  exact ⟨(h1.keep hk).more hm, h2, fun _ => ⟨h, t, rfl, rfl, h3.1, h3.2, h4.1, h4.2, (h5.keep hk).more hm, (h6.keep hk).more hm⟩⟩

/-- Behind the file's making: its box. -/
def C8 (lo : Nat) (w : World) (h : Rw) (t : List Rw) (p : Value) (wx : World) : Prop :=
  ∃ g Af nf cf Ar cr, p = .pointer (some ⟨g, 0, none⟩) ∧ w.heap.size ≤ g ∧ Fil wx g (.slice Af nf cf) (.string h.en) (.slice Ar t.length cr) (.slice none 0 0) ∧ nf ≤ cf ∧ cf ≤ maxLen ∧ t.length ≤ cr ∧ cr ≤ maxLen ∧ SeesLP wx (fun b => lo < b ∧ b < g) Af nf h.fs ∧ SeesRP wx (fun b => lo < b ∧ b < g) Ar t.length t ∧ Below w.heap.size w wx
/-- Behind its tree's making. -/
def C9 (w : World) (g : Nat) (a b c : Value) (T : Tr) (wx : World) : Prop :=
  ∃ At ct, Fil wx g a b c (.slice At T.len ct) ∧ HoldsP wx (fun b => w.heap.size ≤ b ∧ b < wx.heap.size) At T.len T ∧ T.len ≤ ct ∧ ct ≤ maxLen ∧ Below g w wx

set_option maxHeartbeats 16000000 in
theorem read_any (s : ByteArray) (w : World) (hp : ∀ x ∈ split s.data.toList, ∀ z ∈ mns (fldsL x.1), Pl z) (hG : Gl w) :
    Calls Tryz.prog 37 #[.string s] w (RdP w (rowsF [] 0 (split s.data.toList)).1 (readF s.data.toList)) := by
  obtain ⟨W1, hW1⟩ : ∃ W, W = w.alloc (Obj.cells #[.slice none 0 0, .string ⟨#[]⟩, .slice none 0 0, .slice none 0 0] 78) := ⟨_, rfl⟩
  have hb1 : Below w.heap.size w W1 := by rw [hW1]; exact (Below.refl _ _).alloc (Nat.le_refl _) _
  have hf1 : Fil W1 w.heap.size (.slice none 0 0) (.string ⟨#[]⟩) (.slice none 0 0) (.slice none 0 0) := by rw [hW1]; exact Fil.new w _ _ _ _
  have hsl : s.size = s.data.toList.length := rfl
  obtain ⟨R, hR⟩ : ∃ R, R = readF s.data.toList := ⟨_, rfl⟩
  obtain ⟨rs, hrs⟩ : ∃ rs, rs = rowsF [] 0 (split s.data.toList) := ⟨_, rfl⟩
  rw [← hR, ← hrs]
  unfold readF at hR
  rw [← hrs] at hR
  have HB1 := Lib.hid hb1
  have HF1 := Lib.hid hf1
  by_cases hbig : 4000 < s.size
  · rw [if_pos (by omega)] at hR
    have hbi : (s.size : Int) > 4000 := by omega
    obtain ⟨c0, c1, c2, c3⟩ := hf1.cells
    obtain ⟨z0, z1, z2, z3⟩ := hf1.free
    have HR := Lib.hid hR
    clear hR hrs hp hG hsl hbig hb1 hf1
    go_enter Tryz.func37, Tryz.ntmps37
    go_upto_region 2 with (fail)
    rw [← hW1]
    clear hW1
    go_wp2_with fail
    obtain ⟨d0, d1, d2, d3⟩ := (HF1.out.set4 (.slice none 0 0) (.string ⟨#[]⟩) (.slice none 0 0) (.slice none 0 0)).cells
    refine bodyPost_ret (v := .tuple #[.agg #[.slice none 0 0, .string ⟨#[]⟩, .slice none 0 0, .slice none 0 0], .int .i64 0, .int .i64 5]) (by simp [results, Tryz.results37, go_sem, d0, d1, d2, d3]) rfl ?_
    rw [HR.out]
    exact ⟨none, none, none, 0, 0, 0, 0, 0, ⟨#[]⟩, rfl, Rd.none_ _ _ _ _ _ (by decide), below4 HB1.out (Nat.le_refl _) _ _ _ _⟩
  · rw [if_neg (by omega)] at hR
    have hbi : ¬ (s.size : Int) > 4000 := by omega
    have hll : (split s.data.toList).length ≤ 4000 := Nat.le_trans (split_le _) (by omega)
    have hS := split_any s W1 (by omega)
    have hlens : ∀ x ∈ split s.data.toList, x.1.length ≤ 4000 := fun x hx => Nat.le_trans (split_lens _ x hx) (by omega)
    have hRo := fun (A : Option Addr) (c : Nat) (W : World) (hW : Below W1.heap.size W1 W) (h : OwnL W W1.heap.size A (split s.data.toList).length c (split s.data.toList)) => rowsOf_any (split s.data.toList) A (split s.data.toList).length c W.heap.size W h.sees (Nat.le_refl _) (by omega) hlens hp ((hG.below hb1).below hW)
    rw [← hrs] at hRo
    have hok := rowsF_ok (split s.data.toList) [] 0 trivial hlens
    rw [← hrs] at hok
    obtain ⟨m, hm⟩ : ∃ m, m = (split s.data.toList).length := ⟨_, rfl⟩
    obtain ⟨L, hL⟩ : ∃ L, L = split s.data.toList := ⟨_, rfl⟩
    rw [← hL] at hS hRo hok hm hll
    have HS := Lib.hid hS
    have HRo := Lib.hid hRo
    have Hok := Lib.hid hok
    have Hll := Lib.hid hll
    obtain ⟨q, i, v⟩ := rs
    dsimp only at hR hrs
    have HR := Lib.hid hR
    clear hR hrs hp hG hsl hbig hb1 hf1 hS hRo hok hlens hll hL hm
    by_cases hv : v = 0
    · subst hv
      cases q with
      | nil =>
        go_enter Tryz.func37, Tryz.ntmps37
        go_upto_region 3 with (fail)
        rw [← hW1]
        clear hW1
        go_wp2_with fail
        (with_reducible refine HS.out.mono ?_)
        rintro e w2 ⟨A2, c2, rfl, ho2, hb2⟩
        have HRo2 := Lib.hid (HRo.out A2 c2 w2 hb2 ho2)
        have HB2 := Lib.hid hb2
        clear ho2 hb2
        go_wp2_with fail
        (with_reducible refine HRo2.out.mono ?_)
        rintro e w3 ⟨A3, c3, vs3, rfl, ho3, hb3⟩
        have hq3 := HB2.out.trans (hb3.mono HB2.out.size)
        have hf3 := HF1.out.below hq3
        obtain ⟨c0, c1, c2', c3'⟩ := hf3.cells
        obtain ⟨z0, z1, z2, z3⟩ := hf3.free
        have HF3 := Lib.hid hf3
        have HB3 := Lib.hid (HB1.out.trans (hq3.mono HB1.out.size))
        clear ho3 hb3 hq3 hf3
        go_wp2_with fail
        obtain ⟨d0, d1, d2, d3⟩ := (HF3.out.set4 (.slice none 0 0) (.string ⟨#[]⟩) (.slice none 0 0) (.slice none 0 0)).cells
        refine bodyPost_ret (v := .tuple #[.agg #[.slice none 0 0, .string ⟨#[]⟩, .slice none 0 0, .slice none 0 0], .int .i64 0, .int .i64 2]) (by simp [results, Tryz.results37, go_sem, d0, d1, d2, d3]) rfl ?_
        have hR := HR.out
        rw [if_neg (by simp)] at hR
        rw [hR]
        exact ⟨none, none, none, 0, 0, 0, 0, 0, ⟨#[]⟩, rfl, Rd.none_ _ _ _ _ _ (by decide), below4 HB3.out (Nat.le_refl _) _ _ _ _⟩
      | cons h t =>
        obtain ⟨T, hT⟩ : ∃ T, T = treeR (h :: t) := ⟨_, rfl⟩
        obtain ⟨n, hn⟩ : ∃ n, n = t.length := ⟨_, rfl⟩
        have hok := Hok.out
        dsimp only at hok
        have hn4 : n ≤ 4000 := by have := hok.2.1; have := Hll.out; simp only [List.length_cons, List.length_nil] at *; omega
        obtain ⟨x0, xl, hx0⟩ := List.exists_cons_of_ne_nil hok.1.1
        obtain ⟨hTn, hTs⟩ := treeR_ok (h := h) (t := t) hok.1 (by omega)
        have hxl : xl.length ≤ 4001 := by have := hok.1.2.1; rw [hx0] at this; simp at this; omega
        have hcs : colsR h = mns xl := by unfold colsR; rw [hx0]; rfl
        have hrl : ∀ r ∈ t, r.fs.length = (mns xl).length + 1 := fun r hr => by have := (hok.1.2.2.2 r hr).1; rw [hx0] at this; rw [mns_len]; simpa using this
        have hTe : T = srtE (recsT srtE (mns xl) t) := by rw [hT, ← hcs]; rfl
        rw [← hT] at hTn hTs
        have hR := HR.out
        rw [if_neg (by simp)] at hR
        dsimp only at hR
        rw [← hT] at hR
        have HR2 := Lib.hid hR
        have HT := Lib.hid (And.intro hTn hTs)
        have HTe := Lib.hid hTe
        have Hx0 := Lib.hid hx0
        have Hrl := Lib.hid hrl
        have Hn := Lib.hid hn
        obtain ⟨u, hu⟩ : ∃ u, u = T.fault := ⟨_, rfl⟩
        have Hu := Lib.hid hu
        clear hok hTn hTs hTe hR hrl hcs HR hx0 Hok hT hn hu
        go_enter Tryz.func37, Tryz.ntmps37
        go_upto_region 3 with (fail)
        rw [← hW1]
        clear hW1
        go_wp2_with fail
        (with_reducible refine HS.out.mono ?_)
        rintro e w2 ⟨A2, c2, rfl, ho2, hb2⟩
        have HRo2 := Lib.hid (HRo.out A2 c2 w2 hb2 ho2)
        have HB2 := Lib.hid hb2
        clear ho2 hb2
        go_wp2_with fail
        (with_reducible refine HRo2.out.mono ?_)
        rintro e w3 ⟨A3, c3, vs3, rfl, ho3, hb3⟩
        have hq3 := HB2.out.trans (hb3.mono HB2.out.size)
        have HF3 := Lib.hid (HF1.out.below hq3)
        have HB3 := Lib.hid (HB1.out.trans (hq3.mono HB1.out.size))
        have hcap := ho3.cap
        have hlo : w.heap.size < w2.heap.size := Nat.lt_of_lt_of_le HF1.out.lt HB2.out.size
        have hse := ho3.seesP.more (P' := fun b => w.heap.size < b ∧ b < w3.heap.size) (fun b hb => ⟨Nat.lt_of_lt_of_le hlo hb.1, hb.2⟩)
        obtain ⟨b, o, Af, nf, cf, rfl, ⟨_, hbl⟩, hca, hcb, hsf, hf1, hf2⟩ := hse.at_ 0 h rfl
        rw [Nat.zero_mul, Nat.add_zero] at hca hcb
        have hre := hse.rest c3 hcap.1
        rw [show (h :: t).length = n + 1 by rw [Hn.out]; rfl] at hre hcap
        dsimp only
        rw [show (h :: t).length = n + 1 by rw [Hn.out]; rfl]
        have Hre := Lib.hid hre
        have Hsf := Lib.hid hsf
        have hnc1 : (1 : Int) ≤ ((n + 1 : Nat) : Int) := by omega
        have hnc2 : (1 : Int) ≤ (n : Int) + 1 := by omega
        have hnc0 : (0 : Int) < (n : Int) + 1 := by omega
        have hcc := hcap.1
        have hcm := hcap.2
        clear ho3 hb3 hq3 hse hre hsf hcap
        go_upto_region 8 with (fail)
        go_cut [8] from 10 to 49 (fun p wx => C8 w.heap.size w3 h t p wx)
        case first =>
          have hka : ∀ X : Obj, (w3.alloc X).drew.cell? ⟨b, o, none⟩ = some (.slice Af nf cf) := fun X => ((((Below.refl w3.heap.size w3).alloc (Nat.le_refl _) X).drew).cell (p := ⟨b, o, none⟩) hbl).trans hca
          have hkb : ∀ X : Obj, (w3.alloc X).drew.cell? ⟨b, o + 1, none⟩ = some (.string h.en) := fun X => ((((Below.refl w3.heap.size w3).alloc (Nat.le_refl _) X).drew).cell (p := ⟨b, o + 1, none⟩) hbl).trans hcb
          have hja : w3.drew.cell? ⟨b, o, none⟩ = some (.slice Af nf cf) := hca
          have hjb : w3.drew.cell? ⟨b, o + 1, none⟩ = some (.string h.en) := hcb
          have fin : ∀ (B : Addr), (if c3 = 1 then (⟨b, o, none⟩ : Addr) else ⟨b, o + 2, none⟩) = B → C8 w.heap.size w3 h t (.pointer (some ⟨w3.heap.size, 0, none⟩)) (w3.alloc (Obj.cells #[.slice Af nf cf, .string h.en, .slice (some B) n (c3 - 1), .slice none 0 0] 78)).drew := by
            intro B hB
            have hbe : Below w3.heap.size w3 (w3.alloc (Obj.cells #[.slice Af nf cf, .string h.en, .slice (some B) n (c3 - 1), .slice none 0 0] 78)).drew := ((Below.refl _ _).alloc (Nat.le_refl _) _).drew
            have hre := Hre.out
            rw [hB] at hre
            have e1 : n + 1 - 1 = n := by omega
            rw [e1] at hre
            refine ⟨w3.heap.size, Af, nf, cf, some B, c3 - 1, rfl, Nat.le_refl _, ?_, hf1, hf2, ?_, ?_, Hsf.out.keep (fun b o hb => hbe.cell (p := ⟨b, o, none⟩) hb.2), ?_, hbe⟩
            · rw [← Hn.out]; exact heap_alloc_new w3 _
            · rw [← Hn.out]; omega
            · omega
            · rw [← Hn.out]; exact hre.keep (fun b o hb => hbe.cell (p := ⟨b, o, none⟩) hb.2)
          by_cases hc31 : c3 = 1
          · have FIN := Lib.hid (fin _ (if_pos hc31))
            clear fin
            obtain rfl : n = 0 := by omega
            subst hc31
            go_region_held3 (fun W => W.cell? ⟨b, o, none⟩ = some (.slice Af nf cf) ∧ W.cell? ⟨b, o + 1, none⟩ = some (.string h.en)) (first | exact ⟨hja, hjb⟩ | exact ⟨hka _, hkb _⟩) (fail)
            all_goals
              go_wp2_with fail
              go_meet
              exact FIN.out
          · have FIN := Lib.hid (fin _ (if_neg hc31))
            clear fin
            go_region_held3 (fun W => W.cell? ⟨b, o, none⟩ = some (.slice Af nf cf) ∧ W.cell? ⟨b, o + 1, none⟩ = some (.string h.en)) (first | exact ⟨hja, hjb⟩ | exact ⟨hka _, hkb _⟩) (fail)
            all_goals
              go_wp2_with fail
              go_meet
              exact FIN.out
        case rest =>
          obtain ⟨g, Af, nf, cf, Ar, cr, rfl, hgb, hfx, k1, k2, k3, k4, hsf, hsr, hbx⟩ := hcut
          obtain ⟨w4, rfl⟩ : ∃ w4 : World, w4 = wc := ⟨_, rfl⟩
          have hgl := hfx.lt
          have HCo := Lib.hid (fun (W : World) (hW : Below w4.heap.size w4 W) => columns_any x0 xl Af Ar none nf cf t.length cr 0 0 h.en W (by rw [← Hx0.out]; exact ((hsf.keep (w' := W) fun b o hb => hW.cell (p := ⟨b, o, none⟩) (Nat.lt_trans hb.2 hgl)).sees (fun b hb => Nat.lt_of_lt_of_le (Nat.lt_trans hb.2 hgl) hW.size))) (by have := hsf.len; rw [Hx0.out] at this; simp at this; omega))
          have HTo := Lib.hid (fun (W : World) (A5 : Option Addr) (c5 : Nat) (hW : Below w4.heap.size w4 W) (h5 : SeesV W W.heap.size A5 (mns xl).length ((mns xl).map Value.string)) => treeOf_any srtE inOrd_E t (mns xl) Ar A5 t.length cr (mns xl).length c5 W ((hsr.keep (w' := W) fun b o hb => hW.cell (p := ⟨b, o, none⟩) (Nat.lt_trans hb.2 hgl)).sees (fun b hb => Nat.lt_of_lt_of_le (Nat.lt_trans hb.2 hgl) hW.size)) h5 (by have := Hn.out; omega) (by rw [mns_len]; omega) Hrl.out)
          have HK := Lib.hid (fun (W : World) (hW : Below w4.heap.size w4 W) => (hfx.below hW).cells)
          have HQ := Lib.hid (fun (W : World) (hW : Below w4.heap.size w4 W) => (hfx.below hW))
          have HS4 := Lib.hid (And.intro hsf hsr)
          have hq3 := HB1.out.size
          have HB4 := Lib.hid hbx
          have hq0 : Below w4.heap.size w4 w4.drew := (Below.refl _ _).drew
          have HF4 := Lib.hid ((HF3.out.below hbx))
          have hg0 : w.heap.size < w3.heap.size := HF3.out.lt
          obtain ⟨tl, htl⟩ : ∃ tl, tl = t.length := ⟨_, rfl⟩
          rw [← htl] at HTo HCo HK HQ k3
          have Htl := Lib.hid htl
          clear htl
          clear hsf hsr hbx hfx hq3
          go_upto_region 9 with (fail)
          go_cut [] from 10 to 49 (fun wx => C9 w4 g (.slice Af nf cf) (.string h.en) (.slice Ar tl cr) T wx)
          case first =>
            obtain ⟨c0, c1, c2', c3'⟩ := HK.out w4 (Below.refl _ _)
            go_region_with
              (first
              | (go_at_call 59; (with_reducible refine (HCo.out _ hq0).mono ?_); rintro e w5 ⟨A5, c5, rfl, hs5, hb5⟩; have hq5 := hq0.trans (hb5.mono hq0.size); obtain ⟨x0', x1, x2, x3⟩ := HK.out _ hq5)
              | (go_at_call 58; (with_reducible refine (HTo.out _ A5 c5 hq5 hs5).mono ?_); rintro e w6 ⟨A6, n6, c6, vs6, rfl, hE6, hb6⟩; have hq6 := hq5.trans (hb6.mono hq5.size); have hf6 := HQ.out _ hq6; obtain ⟨y0, y1, y2, y3⟩ := hf6.cells; obtain ⟨z0, z1, z2, z3⟩ := hf6.free))
            all_goals
              have hn6 := hE6.len
              rw [← HTe.out] at hn6 hE6
              subst hn6
              have hh := hE6.holdsP (Nat.le_refl _)
              have hcap := hE6.cap
              have hz5 := hq5.size
              have hfin : C9 w4 g (.slice Af nf cf) (.string h.en) (.slice Ar tl cr) T (w6.setCell ⟨g, 3, none⟩ (.slice A6 T.len c6)) := by
                refine ⟨A6, c6, hf6.set3 _, ?_, hcap.1, hcap.2, (hq6.mono (Nat.le_of_lt hgl)).setCell (Nat.le_refl _) _⟩
                refine (hh.keep (w' := w6.setCell ⟨g, 3, none⟩ (.slice A6 T.len c6)) (fun b o hb => World.cell?_setCell_far _ _ _ _ (by have := hb.1; simp only [ne_eq]; omega))).more (fun b hb => ⟨Nat.le_trans hz5 hb.1, by simpa [World.setCell] using hb.2⟩)
              have HFin := Lib.hid hfin
              clear hfin hh hcap hE6 hb6 hb5 hs5 hq0 hq5 hq6 hf6
              go_wp2_with fail
              go_meet
              exact HFin.out
          case rest =>
            obtain ⟨At, ct, hfx, hh, hc1, hc2, hbx⟩ := hcut
            obtain ⟨w5, rfl⟩ : ∃ w5 : World, w5 = wc := ⟨_, rfl⟩
            have hCh := check_any At ct T w5 (hh.to fun b hb => hb.2) hc1 hc2 HT.out.2 HT.out.1
            rw [← Hu.out] at hCh
            have HCh := Lib.hid hCh
            have hwg : w.heap.size < g := by omega
            have hb04 : Below w.heap.size w w4 := HB3.out.trans (HB4.out.mono (Nat.le_of_lt hg0))
            have hb05 : Below w.heap.size w w5 := hb04.trans (hbx.mono (Nat.le_of_lt hwg))
            have hsz45 : w4.heap.size ≤ w5.heap.size := hbx.size
            have hf5 : Fil w5 w.heap.size (.slice none 0 0) (.string ⟨#[]⟩) (.slice none 0 0) (.slice none 0 0) := (hbx.block _ hwg).trans HF4.out
            have hfin := fun (W : World) (hW : Below w5.heap.size w5 W) => rd_fin (base := w.heap.size) (h := h) (t := t) (T := T) (Af := Af) (Ar := Ar) (At := At) (nf := nf) (cf := cf) (nr := tl) (cr := cr) (ct := ct)
              (hh.more fun b hb => ⟨by omega, hb.2⟩) ⟨hc1, hc2⟩ ⟨k1, k2⟩ ⟨k3, k4⟩
              ((HS4.out.1.keep (w' := w5) fun b o hb => hbx.cell (p := ⟨b, o, none⟩) hb.2).more fun b hb => ⟨hb.1, by omega⟩)
              (by rw [Htl.out]; exact ((HS4.out.2.keep (w' := w5) fun b o hb => hbx.cell (p := ⟨b, o, none⟩) hb.2).more fun b hb => ⟨hb.1, by omega⟩)) hW
            have HFin := Lib.hid hfin
            have hfx5 := hfx.below (Below.refl w5.heap.size w5).drew
            have HK5 := Lib.hid (fun (W : World) (hW : Below w5.heap.size w5 W) => (hfx.below hW).cells)
            have HR5 := Lib.hid (fun (W : World) (hW : Below w5.heap.size w5 W) => (hf5.below hW))
            have HB5 := Lib.hid hb05
            obtain ⟨c0, c1, c2, c3'⟩ := hfx.cells
            obtain ⟨z0, z1, z2, z3⟩ := hf5.free
            clear hh hbx hfx hf5 hb05 hb04 hfin hCh hfx5
            by_cases hu0 : u = 0
            · subst hu0
              go_wp2_with fail
              (with_reducible refine HCh.out.mono ?_)
              rintro e w6 ⟨rfl, hb6⟩
              have hf6 := HR5.out w6 hb6
              obtain ⟨y0, y1, y2, y3⟩ := HK5.out w6 hb6
              obtain ⟨z0, z1, z2, z3⟩ := hf6.free
              obtain ⟨v0, v1, v2, v3⟩ := hf6.cells
              have HF6 := Lib.hid hf6
              have HB6 := Lib.hid hb6
              clear hf6 hb6
              go_wp2_with fail
              obtain ⟨d0, d1, d2, d3⟩ := (HF6.out.set4 (.slice Af nf cf) (.string h.en) (.slice Ar tl cr) (.slice At T.len ct)).cells
              refine bodyPost_ret (v := .tuple #[.agg #[.slice Af nf cf, .string h.en, .slice Ar tl cr, .slice At T.len ct], .int .i64 0, .int .i64 0]) (by simp [results, Tryz.results37, go_sem, d0, d1, d2, d3]) rfl ?_
              have hR := HR2.out
              rw [if_neg (by have := Hu.out; omega)] at hR
              rw [hR]
              exact ⟨Af, Ar, At, nf, cf, tl, cr, ct, h.en, rfl, HFin.out w6 HB6.out _ _ _ _, below4 (HB5.out.trans (HB6.out.mono HB5.out.size)) (Nat.le_refl _) _ _ _ _⟩
            · have hub : (((u : Nat) : Int) != 0) = true := by simpa using hu0
              go_wp2_with fail
              (with_reducible refine HCh.out.mono ?_)
              rintro e w6 ⟨rfl, hb6⟩
              have hf6 := HR5.out w6 hb6
              obtain ⟨y0, y1, y2, y3⟩ := HK5.out w6 hb6
              obtain ⟨z0, z1, z2, z3⟩ := hf6.free
              obtain ⟨v0, v1, v2, v3⟩ := hf6.cells
              have HF6 := Lib.hid hf6
              have HB6 := Lib.hid (HB5.out.trans (hb6.mono HB5.out.size))
              clear hf6 hb6
              go_wp2_with fail
              obtain ⟨d0, d1, d2, d3⟩ := (HF6.out.set4 (.slice none 0 0) (.string ⟨#[]⟩) (.slice none 0 0) (.slice none 0 0)).cells
              refine bodyPost_ret (v := .tuple #[.agg #[.slice none 0 0, .string ⟨#[]⟩, .slice none 0 0, .slice none 0 0], .int .i64 0, .int .i64 (u : Nat)]) (by simp [results, Tryz.results37, go_sem, d0, d1, d2, d3]) rfl ?_
              have hR := HR2.out
              rw [if_pos (by have := Hu.out; omega), ← Hu.out] at hR
              rw [hR]
              exact ⟨none, none, none, 0, 0, 0, 0, 0, ⟨#[]⟩, rfl, Rd.none_ _ _ _ _ _ (by omega), below4 HB6.out (Nat.le_refl _) _ _ _ _⟩
    · have hvb : (v != 0) = true := by simpa using hv
      have Hv := Lib.hid hv
      clear hv
      go_enter Tryz.func37, Tryz.ntmps37
      go_upto_region 3 with (fail)
      rw [← hW1]
      clear hW1
      go_wp2_with fail
      (with_reducible refine HS.out.mono ?_)
      rintro e w2 ⟨A2, c2, rfl, ho2, hb2⟩
      have HRo2 := Lib.hid (HRo.out A2 c2 w2 hb2 ho2)
      have HB2 := Lib.hid hb2
      clear ho2 hb2
      go_wp2_with fail
      (with_reducible refine HRo2.out.mono ?_)
      rintro e w3 ⟨A3, c3, vs3, rfl, ho3, hb3⟩
      have hq3 := HB2.out.trans (hb3.mono HB2.out.size)
      have hf3 := HF1.out.below hq3
      obtain ⟨c0, c1, c2', c3'⟩ := hf3.cells
      obtain ⟨z0, z1, z2, z3⟩ := hf3.free
      have HF3 := Lib.hid hf3
      have HB3 := Lib.hid (HB1.out.trans (hq3.mono HB1.out.size))
      clear ho3 hb3 hq3 hf3
      go_wp2_with fail
      obtain ⟨d0, d1, d2, d3⟩ := (HF3.out.set4 (.slice none 0 0) (.string ⟨#[]⟩) (.slice none 0 0) (.slice none 0 0)).cells
      refine bodyPost_ret (v := .tuple #[.agg #[.slice none 0 0, .string ⟨#[]⟩, .slice none 0 0, .slice none 0 0], .int .i64 (i : Nat), .int .i64 v]) (by simp [results, Tryz.results37, go_sem, d0, d1, d2, d3]) rfl ?_
      have hR := HR.out
      rw [if_pos Hv.out] at hR
      rw [hR]
      exact ⟨none, none, none, 0, 0, 0, 0, 0, ⟨#[]⟩, rfl, Rd.none_ _ _ _ _ _ Hv.out, below4 HB3.out (Nat.le_refl _) _ _ _ _⟩
end Go.Proofs.YtkgpjohfkfbfhaaGreatDoor.Cv
