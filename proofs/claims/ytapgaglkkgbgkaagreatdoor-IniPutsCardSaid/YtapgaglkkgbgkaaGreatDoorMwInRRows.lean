/- The reference's rows of ini: what a file's lines are, and the tree. Conditions: at most 5000 lines, of 4000 bytes. · The reference's Load of ini: what a file is loaded as, the very same as the program's. No conditions. · IniLoads' walk. Conditions: MaxLen's cell. -/
import Derived.Test.YtapgaglkkgbgkaaGreatDoorMwInRKey
import Derived.Test.YtapgaglkkgbgkaaGreatDoorMwInRow
import Derived.Test.YtapgaglkkgbgkaaGreatDoorMwInTb
import Derived.Test.YtapgaglkkgbgkaaGreatDoorMwInTnM
import Derived.Deep.RegionHeld3
import Derived.Deep.RegionWith
import Derived.Outline
import Derived.Test.YtapgaglkkgbgkaaGreatDoorMwLiSplit
import Derived.Test.YtapgaglkkgbgkaaGreatDoorMwTextWords
import Derived.Test.YtapgaglkkgbgkaaGreatDoorMwRQuote
namespace Go.Proofs.YtapgaglkkgbgkaaGreatDoor.In
open Go.RowKit Go.Proofs.YtapgaglkkgbgkaaGreatDoor.Jd Go.Proofs.YtapgaglkkgbgkaaGreatDoor.Li Go.Proofs.YtapgaglkkgbgkaaGreatDoor.Pt Go.Proofs.YtapgaglkkgbgkaaGreatDoor.Cl Go.Proofs.YtapgaglkkgbgkaaGreatDoor.Cv
set_option maxRecDepth 100000

def rcs (r : Rr) : List Value := [.int .i64 r.kind, Li.encs r.sec, Li.encs r.key, Li.encs r.val, .int .i64 r.at0, .int .i64 r.at1]
def OwnRr (w : World) (base : Nat) (A : Option Addr) (n c : Nat) (rs : List Rr) : Prop := w.ownsRow base 81 6 (.slice A n c) n (rs.flatMap rcs)
section
variable {w w' : World} {base n c : Nat} {A : Option Addr} {rs : List Rr}
theorem OwnRr.nil (w : World) (base : Nat) : OwnRr w base none 0 0 [] := World.ownsRow_nil w base _ _
theorem OwnRr.below (h : OwnRr w base A n c rs) (hb : Below w.heap.size w w') : OwnRr w' base A n c rs :=
  World.ownsRow.kept (row := none) h ⟨hb.os, hb.tape, hb.output, hb.size, fun i hi _ => hb.block i hi⟩ (by cases hv : (Value.slice A n c).ownBlock <;> simp)
theorem OwnRr.alloc (h : OwnRr w base A n c rs) (o : Obj) : (w.alloc o).ownsRow base 81 6 (.slice A n c) n (rs.flatMap rcs) := World.ownsRow.alloc h o
theorem OwnRr.lt (h : OwnRr w base A n c rs) (q : Nat) (hq : (Value.slice A n c).ownBlock = some q) : base ≤ q ∧ q < w.heap.size := World.ownsRow.lt h q hq
theorem OwnRr.set (h : OwnRr w base A n c rs) {g o : Nat} (hg : (Value.slice A n c).ownBlock ≠ some g) (v : Value) : OwnRr (w.setCell ⟨g, o, none⟩ v) base A n c rs :=
  World.ownsRow.kept (row := some g) h ⟨by simp [World.setCell], by simp [World.setCell], by simp [World.setCell], by simp [World.setCell], fun i _ hne => by
    have hne2 : i ≠ g := fun e => hne (by rw [e])
    exact heap_setCell_other w _ i v hne2⟩ (.inr hg)
theorem OwnRr.push {A7 : Option Addr} {c7 : Nat} {rs : List Rr} {r : Rr} (h : w.ownsRow base 81 6 (.slice A7 (n + 1) c7) (n + 1) (rs.flatMap rcs ++ rcs r)) : OwnRr w base A7 (n + 1) c7 (rs ++ [r]) := by
  have e : (rs ++ [r]).flatMap rcs = rs.flatMap rcs ++ rcs r := by simp
  unfold OwnRr
  rw [e]
  exact h
end
theorem elem_rr : ElemB Tryz.prog 62 81 (.agg #[.int .i64 0, .string ⟨#[]⟩, .string ⟨#[]⟩, .string ⟨#[]⟩, .int .i64 0, .int .i64 0]) 6 72 := ⟨Tryz.underlying62, by kernel_rfl, rfl, by omega⟩
theorem src_rr (V : World) (kd : Nat) (s1 s2 s3 : ByteArray) (a0 a1 : Nat) (g : Nat) (hV : V.heap[g]? = some (Obj.cells #[Value.int .i64 kd, Value.string s1, Value.string s2, Value.string s3, Value.int .i64 a0, Value.int .i64 a1] 81)) : Src Tryz.prog 6 62 (.slice (some ⟨g, 0, none⟩) 1 1) 1 (rcs ⟨kd, s1.data.toList, s2.data.toList, s3.data.toList, a0, a1⟩) V := by
  refine Src.ofSlice _ Tryz.underlying62 ⟨g, 0, none⟩ 1 1 (rcs ⟨kd, s1.data.toList, s2.data.toList, s3.data.toList, a0, a1⟩) rfl (fun j u hu => ?_) (by intro u hu; simp [rcs] at hu; rcases hu with rfl | rfl | rfl | rfl | rfl | rfl <;> rfl)
  have e : rcs ⟨kd, s1.data.toList, s2.data.toList, s3.data.toList, a0, a1⟩ = [Value.int .i64 kd, Value.string s1, Value.string s2, Value.string s3, Value.int .i64 a0, Value.int .i64 a1] := rfl
  rw [e] at hu
  rw [Addr.add_lit, cell_of_row _ _ _ _ _ _ hV, ← hu, Nat.zero_add]
  simp
theorem kidB_any {P : Nat → Prop} (t : Tr) (A : Option Addr) (n c : Nat) (name : ByteArray) (w : World) (h : HoldsP w P A n t) (hP : ∀ b, P b → b < w.heap.size) (hz : t.size ≤ 100000) :
    Calls Tryz.prog 33 #[.slice A n c, .string name] w fun e w' => ∃ A' n' c', e = .returned (.tuple #[.slice A' n' c', .bool (t.atIs name)]) ∧ HoldsP w' P A' n' (kidT t name) ∧ n' ≤ c' ∧ c' ≤ maxLen ∧ Below w.heap.size w w' :=
  (kidP_any t A n c name w h hP (by have := h.len; have := t.len_size; omega)).mono fun e w' ⟨A', n', c', he, h1, h2, h3, q, hq⟩ => by
    subst hq
    have hb := below_drewN (Below.refl w.heap.size w) q
    exact ⟨A', n', c', he, h1.keep (fun b o hb2 => hb.cell (p := ⟨b, o, none⟩) (hP b hb2)), h2, h3, hb⟩
theorem withB_any (o : Option Nat) (t x : Tr) (A Ax : Option Addr) (n c nx cx : Nat) (name : ByteArray) (w : World) (ho : ∀ q, o = some q → q < w.heap.size) (h : HoldsP w (TB w o) A n t) (hx : HoldsP w (TB w o) Ax nx x) (hz : t.size ≤ 100000) (hc : n ≤ c) (hcx : nx ≤ cx) (hmx : cx ≤ maxLen) :
    Calls Tryz.prog 34 #[.slice A n c, .string name, .slice Ax nx cx] w fun e w' => ∃ A' n' c', e = .returned (.slice A' n' c') ∧ HoldsP w' (TB w' o) A' n' (t.withT name x) ∧ n' ≤ c' ∧ c' ≤ maxLen ∧ Below w.heap.size w w' :=
  (withP_any t x A Ax n c nx cx name w h hx (fun b hb => hb.1) (by have := h.len; have := t.len_size; omega) hc hcx hmx).mono fun e w' ⟨A', n', c', he, h1, h2, h3, h4⟩ => ⟨A', n', c', he, TB.up h1 ho h4.size, h2, h3, h4⟩
def RrR (w : World) (o : List Rr × Tr × Nat × Int) (en : Ending) (w' : World) : Prop :=
  ∃ (A At : Option Addr) (c nt ct : Nat), en = .returned (.tuple #[.slice A o.1.length c, .slice At nt ct, .int .i64 (o.2.2.1 : Nat), .int .i64 o.2.2.2]) ∧ OwnRr w' w.heap.size A o.1.length c o.1 ∧ Holds w' w'.heap.size At nt o.2.1 ∧ nt ≤ ct ∧ ct ≤ maxLen ∧ Below w.heap.size w w'

set_option maxHeartbeats 8000000 in
theorem rrows_any (ls : List Ln) (A : Option Addr) (n c B : Nat) (w : World) (h : SeesL w B A n ls) (hB : B ≤ w.heap.size) (hn : n ≤ 5000) (hz : ∀ x ∈ ls, x.1.length ≤ 4000) :
    Calls Tryz.prog 26 #[.slice A n c] w (RrR w (rowsR .nil [] false 0 [] ls)) := by
  obtain ⟨R, hR⟩ : ∃ R, R = rowsR .nil [] false 0 [] ls := ⟨_, rfl⟩
  rw [← hR]
  have HR := Lib.hid hR
  have Hl := Lib.hid h.len
  have HH := Lib.hid h
  have Hz := Lib.hid hz
  clear h hz hR
  go_enter Tryz.func26, Tryz.ntmps26
  go_wp2_with fail
  go_loopw [6, 7, 8, 9, 10] (fun a t sv iv i wr => ∃ (k : Nat) (A6 At : Option Addr) (c6 nt ct : Nat) (out : List Rr) (T : Tr) (sec : ByteArray) (inn : Bool), k ≤ n ∧ a = .slice A6 k c6 ∧ t = .slice At nt ct ∧ sv = .string sec ∧ iv = .bool inn ∧ i = .int .i64 k ∧ Hid (OwnRr wr w.heap.size A6 k c6 out) ∧ Hid (out.length = k) ∧ Hid (HoldsP wr (TB wr (Value.slice A6 k c6).ownBlock) At nt T ∧ nt ≤ ct ∧ ct ≤ maxLen) ∧ Hid (T.size ≤ 3 * k) ∧ Hid (Below w.heap.size w wr) ∧ Hid (R = rowsR T sec.data.toList inn k out (ls.drop k))) (fun _ _ _ _ i _ => n - (intOf i).toNat)
  case atStart => exact ⟨0, none, none, 0, 0, 0, [], .nil, ⟨#[]⟩, false, Nat.zero_le _, rfl, rfl, rfl, rfl, rfl, Lib.hid (OwnRr.nil _ _), Lib.hid rfl, Lib.hid ⟨rfl, Nat.le_refl _, Nat.zero_le _⟩, Lib.hid (Nat.le_refl _), Lib.hid (Below.refl _ _), HR⟩
  case round =>
    obtain ⟨k, A6, At, c6, nt, ct, out, T, sec, inn, hk, rfl, rfl, rfl, rfl, rfl, HO, HL, HT, HTs, HW, HF⟩ := hrel
    by_cases hlt : k < n
    · have hkl : k < ls.length := by have := Hl.out; omega
      obtain ⟨x, hx⟩ : ∃ x, ls[k]? = some x := ⟨_, List.getElem?_eq_getElem hkl⟩
      have hxe : ls[k] = x := (List.getElem?_eq_some_iff.1 hx).2
      have hxm := List.mem_of_getElem? hx
      obtain ⟨b, o, rfl, hbl, hc1, _⟩ := (HH.out.below (HW.out.mono hB)).at_ hx
      obtain ⟨x1, hx1⟩ : ∃ x1 : ByteArray, Li.encs x.1 = .string x1 := ⟨_, rfl⟩
      rw [hx1] at hc1
      have hx1d : x1.data.toList = x.1 := by
        have e : (⟨x.1.toArray⟩ : ByteArray) = x1 := by unfold Li.encs at hx1; injection hx1
        rw [← e]
      have hx1s : x1.size ≤ 4000 := by
        have e : x1.size = x1.data.toList.length := rfl
        rw [e, hx1d]
        exact Hz.out x hxm
      have hF := HF.out
      rw [List.drop_eq_getElem_cons hkl, hxe, rowsR] at hF
      have hkn : (k : Int) < (n : Int) := by omega
      have hk0 : (0 : Int) ≤ (k : Int) := by omega
      obtain ⟨R0, hR0⟩ : ∃ R0, R0 = readR x.1 := ⟨_, rfl⟩
      have hRd := rread_any x1 wr hx1s
      rw [hx1d, ← hR0] at hRd
      rw [← hR0] at hF
      obtain ⟨kd, s1, s2, s3, a0, a1, hrv⟩ : ∃ (kd : Nat) (s1 s2 s3 : ByteArray) (a0 a1 : Nat), R0 = ⟨kd, s1.data.toList, s2.data.toList, s3.data.toList, a0, a1⟩ := ⟨R0.kind, ⟨R0.sec.toArray⟩, ⟨R0.key.toArray⟩, ⟨R0.val.toArray⟩, R0.at0, R0.at1, rfl⟩
      have HRow : Hid (Calls Tryz.prog 51 #[.string x1] wr fun e w' => e = .returned (.agg #[.int .i64 kd, .string s1, .string s2, .string s3, .int .i64 a0, .int .i64 a1]) ∧ Below wr.heap.size wr w') := Lib.hid (by rw [hrv] at hRd; exact hRd)
      rw [hrv] at hF
      have m1 : mk s1.data.toList = s1 := rfl
      have m2 : mk s2.data.toList = s2 := rfl
      have m3 : mk s3.data.toList = s3 := rfl
      have m4 : mk sec.data.toList = sec := rfl
      dsimp only at hF
      rw [m1, m2, m3, m4] at hF
      have Hlt := Lib.hid hlt
      have HF1 := Lib.hid hF
      clear hkl hx hxe hxm hlt hx1 hx1d hx1s hF hRd hR0 hrv HF m1 m2 m3 m4 R0
      go_upto_region 8 with (go_at_call 51; (with_reducible refine HRow.out.mono ?_); rintro e w2 ⟨rfl, hb2⟩)
      obtain ⟨W3, hW3⟩ : ∃ W, W = w2.alloc (Obj.cells #[.int .i64 kd, .string s1, .string s2, .string s3, .int .i64 a0, .int .i64 a1] 81) := ⟨_, rfl⟩
      rw [← hW3]
      have hb3 : Below w2.heap.size w2 W3 := by rw [hW3]; exact (Below.refl _ _).alloc (Nat.le_refl _) _
      have hbx : W3.heap[w2.heap.size]? = some (Obj.cells #[.int .i64 kd, .string s1, .string s2, .string s3, .int .i64 a0, .int .i64 a1] 81) := by rw [hW3]; exact heap_alloc_new w2 _
      have hbr3 : Below wr.heap.size wr W3 := hb2.trans (hb3.mono hb2.size)
      have HGw : Hid (wr.heap.size ≤ w2.heap.size) := Lib.hid hb2.size
      obtain ⟨g, hg⟩ : ∃ g, g = w2.heap.size := ⟨_, rfl⟩
      rw [← hg] at hbx HGw ⊢
      have hgl : g < W3.heap.size := (Array.getElem?_eq_some_iff.1 hbx).1
      have HO3 := Lib.hid (HO.out.below hbr3)
      have HT3 := Lib.hid (⟨TB.keep HT.out.1 hbr3, HT.out.2⟩ : HoldsP W3 (TB W3 (Value.slice A6 k c6).ownBlock) At nt T ∧ nt ≤ ct ∧ ct ≤ maxLen)
      have HW3 := Lib.hid (HW.out.trans (hbr3.mono HW.out.size))
      have HTg := Lib.hid (HoldsP.more (P' := fun b => b < g ∧ some b ≠ (Value.slice A6 k c6).ownBlock) (fun b hb => ⟨Nat.lt_of_lt_of_le hb.1 HGw.out, hb.2⟩) (HoldsP.keep (w' := W3) (fun b q hm => hbr3.cell (p := ⟨b, q, none⟩) hm.1) HT.out.1))
      have HC := Lib.hid (⟨by rw [cell_of_row _ _ _ _ _ _ hbx]; rfl, by rw [cell_of_row _ _ _ _ _ _ hbx]; rfl, by rw [cell_of_row _ _ _ _ _ _ hbx]; rfl, by rw [cell_of_row _ _ _ _ _ _ hbx]; rfl, by rw [cell_of_row _ _ _ _ _ _ hbx]; rfl, by rw [cell_of_row _ _ _ _ _ _ hbx]; rfl⟩ :
        W3.cell? ⟨g, 0, none⟩ = some (.int .i64 kd) ∧ W3.cell? ⟨g, 1, none⟩ = some (.string s1) ∧ W3.cell? ⟨g, 2, none⟩ = some (.string s2) ∧ W3.cell? ⟨g, 3, none⟩ = some (.string s3) ∧ W3.cell? ⟨g, 4, none⟩ = some (.int .i64 a0) ∧ W3.cell? ⟨g, 5, none⟩ = some (.int .i64 a1))
      have Hbx := Lib.hid hbx
      have Hog : Hid (∀ q, (Value.slice A6 k c6).ownBlock = some q → q < g) := Lib.hid (fun q hq => Nat.lt_of_lt_of_le (HO.out.lt q hq).2 HGw.out)
      have hwg : w.heap.size ≤ g := Nat.le_trans HW.out.size HGw.out
      clear hb2 hb3 hbx hbr3 hW3 hg HO HT HW hc1 hbl
      obtain ⟨d0, d1, d2, d3, d4, d5⟩ := HC.out
      by_cases h3 : kd = 3
      · have q3 : ((kd : Int) == 3) = true := by rw [h3]; rfl
        have HF3 : Hid (R = ([], .nil, k + 1, 6)) := Lib.hid (by rw [HF1.out, if_pos (.inl h3)])
        clear h3
        go_wp2_with fail
        refine bodyPost_ret (v := .tuple #[.slice none 0 0, .slice none 0 0, .int .i64 ((k : Int) + 1), .int .i64 6]) (by simp [results, Tryz.results26, go_sem]) rfl ?_
        exact ⟨none, none, 0, 0, 0, by rw [HF3.out]; rfl, by rw [HF3.out]; exact OwnRr.nil _ _, by rw [HF3.out]; exact rfl, Nat.le_refl _, Nat.zero_le _, HW3.out⟩

      by_cases h2 : kd = 2
      · have q3 : ((kd : Int) == 3) = false := by rw [h2]; rfl
        have q2 : ((kd : Int) == 2) = true := by rw [h2]; rfl
        have q1 : ((kd : Int) == 1) = false := by rw [h2]; rfl
        cases inn with
        | false =>
          have HF3 : Hid (R = ([], .nil, k + 1, 6)) := Lib.hid (by rw [HF1.out, if_pos (.inr ⟨h2, rfl⟩)])
          clear h2
          go_wp2_with fail
          refine bodyPost_ret (v := .tuple #[.slice none 0 0, .slice none 0 0, .int .i64 ((k : Int) + 1), .int .i64 6]) (by simp [results, Tryz.results26, go_sem]) rfl ?_
          exact ⟨none, none, 0, 0, 0, by rw [HF3.out]; rfl, by rw [HF3.out]; exact OwnRr.nil _ _, by rw [HF3.out]; exact rfl, Nat.le_refl _, Nat.zero_le _, HW3.out⟩

        | true =>
          have hF := HF1.out
          rw [if_neg (by rintro (h | ⟨_, h⟩); exact h3 h; cases h), if_neg (by omega), if_pos h2] at hF
          have HF2 := Lib.hid hF
          have hTs := HTs.out
          have HKa := Lib.hid (kidB_any T At nt ct sec W3 HTg.out (fun b hb => Nat.lt_trans hb.1 hgl) (by omega))
          clear h2 h3 hF hTs
          go_wp2_with fail
          (with_reducible refine HKa.out.mono ?_)
          rintro e w4 ⟨Ax, nx, cx, rfl, hX, hnx, hcx, hb4⟩
          obtain ⟨v1, hv1⟩ : ∃ v, v = T.atIs sec := ⟨_, rfl⟩
          rw [← hv1]
          clear hv1
          obtain ⟨X, hXd⟩ : ∃ X, X = kidT T sec := ⟨_, rfl⟩
          rw [← hXd] at hX
          have hF := HF2.out
          rw [← hXd] at hF
          have HF3a := Lib.hid hF
          have hXz : X.size ≤ T.size := by rw [hXd]; exact kid_sz
          have HXz := Lib.hid hXz
          have HX4 := Lib.hid (⟨hX, hnx, hcx⟩ : HoldsP w4 (fun b => b < g ∧ some b ≠ (Value.slice A6 k c6).ownBlock) Ax nx X ∧ nx ≤ cx ∧ cx ≤ maxLen)
          have HXd := Lib.hid hXd
          have hTs := HTs.out
          have HKb := Lib.hid (kidB_any X Ax nx cx s2 w4 hX (fun b hb => Nat.lt_of_lt_of_le (Nat.lt_trans hb.1 hgl) hb4.size) (by omega))
          have HB4 := Lib.hid hb4
          have y0 := (hb4.cell (p := ⟨g, 0, none⟩) hgl).trans HC.out.1
          have y1 := (hb4.cell (p := ⟨g, 1, none⟩) hgl).trans HC.out.2.1
          have y2 := (hb4.cell (p := ⟨g, 2, none⟩) hgl).trans HC.out.2.2.1
          have y3 := (hb4.cell (p := ⟨g, 3, none⟩) hgl).trans HC.out.2.2.2.1
          have y4 := (hb4.cell (p := ⟨g, 4, none⟩) hgl).trans HC.out.2.2.2.2.1
          have y5 := (hb4.cell (p := ⟨g, 5, none⟩) hgl).trans HC.out.2.2.2.2.2

          clear hX hnx hcx hb4 hXz hXd hTs hF
          go_wp2_with fail
          (with_reducible refine HKb.out.mono ?_)
          rintro e w5 ⟨Ay, ny, cy, rfl, _, _, _, hb5⟩
          obtain ⟨v, hv⟩ : ∃ v, v = X.atIs s2 := ⟨_, rfl⟩
          rw [← hv]
          have Hv := Lib.hid hv
          have hb35 := HB4.out.trans (hb5.mono HB4.out.size)
          have HB35 := Lib.hid hb35
          have HW5 := Lib.hid (HW3.out.trans (hb35.mono HW3.out.size))
          have HX5 := Lib.hid (⟨HoldsP.keep (w' := w5) (fun b o hm => hb5.cell (p := ⟨b, o, none⟩) (Nat.lt_of_lt_of_le (Nat.lt_trans hm.1 hgl) HB4.out.size)) HX4.out.1, HX4.out.2⟩ : HoldsP w5 (fun b => b < g ∧ some b ≠ (Value.slice A6 k c6).ownBlock) Ax nx X ∧ nx ≤ cx ∧ cx ≤ maxLen)
          have HT5 := Lib.hid (HoldsP.keep (w' := w5) (fun b o hm => hb35.cell (p := ⟨b, o, none⟩) (Nat.lt_trans hm.1 hgl)) HTg.out)
          clear hb5 hv
          cases v with
          | true =>
            have HF3 : Hid (R = ([], .nil, k + 1, 7)) := Lib.hid (by rw [HF3a.out, if_pos Hv.out.symm])
            clear hb35
            go_wp2_with fail
            refine bodyPost_ret (v := .tuple #[.slice none 0 0, .slice none 0 0, .int .i64 ((k : Int) + 1), .int .i64 7]) (by simp [results, Tryz.results26, go_sem]) rfl ?_
            exact ⟨none, none, 0, 0, 0, by rw [HF3.out]; rfl, by rw [HF3.out]; exact OwnRr.nil _ _, by rw [HF3.out]; exact rfl, Nat.le_refl _, Nat.zero_le _, HW5.out⟩

          | false =>
            have HF4 : Hid (R = rowsR (T.withT sec (X.withT s2 (.cons s3 .nil .nil))) sec.data.toList true (k + 1) (out ++ [(⟨kd, sec.data.toList, s2.data.toList, s3.data.toList, a0, a1⟩ : Rr)]) (ls.drop (k + 1))) := Lib.hid (by rw [HF3a.out, if_neg (by rw [← Hv.out]; decide)])
            have HTz : Hid ((T.withT sec (X.withT s2 (.cons s3 .nil .nil))).size ≤ 3 * (k + 1)) := Lib.hid (by
              have e1 := with_size2 (name := sec) (x := X.withT s2 (.cons s3 .nil .nil)) (t := T)
              have e2 := with_size2 (name := s2) (x := .cons s3 .nil .nil) (t := X)
              have e3 := HTs.out
              rw [← HXd.out] at e1
              simp only [Tr.size] at e2
              omega)
            have hbx5 : w5.heap[g]? = some (Obj.cells #[.int .i64 kd, .string s1, .string s2, .string s3, .int .i64 a0, .int .i64 a1] 81) := (hb35.block g hgl).trans Hbx.out
            have x51 : w5.cell? ⟨g, 1, none⟩ = some (.string s1) := by rw [cell_of_row _ _ _ _ _ _ hbx5]; rfl
            have hfz : w5.frozen? ⟨g, 1, none⟩ = false := by simp [World.frozen?, hbx5]
            obtain ⟨W6, hW6⟩ : ∃ W, W = w5.setCell ⟨g, 1, none⟩ (.string sec) := ⟨_, rfl⟩
            have hg5 : g < w5.heap.size := Nat.lt_of_lt_of_le hgl hb35.size
            have hs6 : W6.heap.size = w5.heap.size := by rw [hW6]; simp [World.setCell]
            have hbx6 : W6.heap[g]? = some (Obj.cells #[.int .i64 kd, .string sec, .string s2, .string s3, .int .i64 a0, .int .i64 a1] 81) := by rw [hW6, heap_setCell_same _ g 1 _ _ _ hbx5]; rfl
            have hfar : ∀ b o, b ≠ g → W6.cell? ⟨b, o, none⟩ = w5.cell? ⟨b, o, none⟩ := fun b o hb => by rw [hW6]; exact World.cell?_setCell_far _ _ _ _ (by simpa using Ne.symm hb)
            have HO6 : Hid (OwnRr W6 w.heap.size A6 k c6 out) := Lib.hid (by rw [hW6]; exact (HO3.out.below hb35).set (fun e => by have := Hog.out g e; omega) _)
            have HW6 : Hid (Below w.heap.size w W6) := Lib.hid (by rw [hW6]; exact HW5.out.setCell (p := ⟨g, 1, none⟩) hwg _)
            have HX6 : Hid (HoldsP W6 (TB W6 (Value.slice A6 k c6).ownBlock) Ax nx X ∧ nx ≤ cx ∧ cx ≤ maxLen) := Lib.hid ⟨(HoldsP.keep (w' := W6) (fun b o hm => hfar b o (Nat.ne_of_lt hm.1)) HX5.out.1).more (fun b hm => ⟨by rw [hs6]; exact Nat.lt_trans hm.1 hg5, hm.2⟩), HX5.out.2⟩
            have HT6 : Hid (HoldsP W6 (TB W6 (Value.slice A6 k c6).ownBlock) At nt T ∧ nt ≤ ct ∧ ct ≤ maxLen) := Lib.hid ⟨(HoldsP.keep (w' := W6) (fun b o hm => hfar b o (Nat.ne_of_lt hm.1)) HT5.out).more (fun b hm => ⟨by rw [hs6]; exact Nat.lt_trans hm.1 hg5, hm.2⟩), HT3.out.2⟩
            have hg6 : g < W6.heap.size := by rw [hs6]; exact hg5
            have HC6 := Lib.hid (⟨by rw [cell_of_row _ _ _ _ _ _ hbx6]; rfl, by rw [cell_of_row _ _ _ _ _ _ hbx6]; rfl, by rw [cell_of_row _ _ _ _ _ _ hbx6]; rfl, by rw [cell_of_row _ _ _ _ _ _ hbx6]; rfl, by rw [cell_of_row _ _ _ _ _ _ hbx6]; rfl, by rw [cell_of_row _ _ _ _ _ _ hbx6]; rfl⟩ :
              W6.cell? ⟨g, 0, none⟩ = some (.int .i64 kd) ∧ W6.cell? ⟨g, 1, none⟩ = some (.string sec) ∧ W6.cell? ⟨g, 2, none⟩ = some (.string s2) ∧ W6.cell? ⟨g, 3, none⟩ = some (.string s3) ∧ W6.cell? ⟨g, 4, none⟩ = some (.int .i64 a0) ∧ W6.cell? ⟨g, 5, none⟩ = some (.int .i64 a1))
            have HK := Lib.hid (fun (W : World) (hW : Below W6.heap.size W6 W) => (⟨(hW.cell (p := ⟨g, 2, none⟩) hg6).trans HC6.out.2.2.1, (hW.cell (p := ⟨g, 3, none⟩) hg6).trans HC6.out.2.2.2.1⟩ : W.cell? ⟨g, 2, none⟩ = some (.string s2) ∧ W.cell? ⟨g, 3, none⟩ = some (.string s3)))
            have HVal := Lib.hid (fun W => rvalue3_any s3 W)
            have hoz : ∀ q, (Value.slice A6 k c6).ownBlock = some q → q < W6.heap.size := fun q hq => Nat.lt_trans (Hog.out q hq) hg6
            have hTs := HTs.out
            have hXz := HXz.out
            have HWith1 := Lib.hid (fun (W2 : World) (h2 : HoldsP W2 (fun b => b = W6.heap.size) (some ⟨W6.heap.size, 0, none⟩) 1 (.cons s3 .nil .nil)) (hb : Below W6.heap.size W6 W2) (hlt : W6.heap.size < W2.heap.size) =>
              withB_any (Value.slice A6 k c6).ownBlock X (.cons s3 .nil .nil) Ax (some ⟨W6.heap.size, 0, none⟩) nx cx 1 1 s2 W2 (fun q hq => Nat.lt_of_lt_of_le (hoz q hq) hb.size) (TB.keep HX6.out.1 hb)
                (h2.more fun b hb2 => ⟨by rw [hb2]; exact hlt, fun e => by have := hoz b e.symm; omega⟩) (by omega) HX6.out.2.1 (Nat.le_refl _) (by decide))
            have HWith2 := Lib.hid (fun (W2 : World) (A9 : Option Addr) (n9 c9 : Nat) (hb : Below W6.heap.size W6 W2) (h9 : HoldsP W2 (TB W2 (Value.slice A6 k c6).ownBlock) A9 n9 (X.withT s2 (.cons s3 .nil .nil))) (hn9 : n9 ≤ c9) (hc9 : c9 ≤ maxLen) =>
              withB_any (Value.slice A6 k c6).ownBlock T (X.withT s2 (.cons s3 .nil .nil)) At A9 nt ct n9 c9 sec W2 (fun q hq => Nat.lt_of_lt_of_le (hoz q hq) hb.size) (TB.keep HT6.out.1 hb) h9 (by omega) HT6.out.2.1 hn9 hc9)
            have hq0 : Below W6.heap.size W6 W6.drew := (Below.refl _ _).drew
            clear hb35 hbx5 hbx6 hfar hs6 hg5 hTs hXz hoz
            go_upto_region 22 with (fail)
            rw [← hW6]
            clear hW6 hfz x51
            go_region_held3 (fun W => Below W6.heap.size W6 W ∧ W.cell? ⟨g, 2, none⟩ = some (.string s2) ∧ W.cell? ⟨g, 3, none⟩ = some (.string s3))
              (first | exact ⟨hq0, HK.out _ hq0⟩ | exact ⟨hq2, HK.out _ hq2⟩ | exact ⟨hq3, HK.out _ hq3⟩ | exact ⟨hq4, HK.out _ hq4⟩)
              (first
              | (go_at_call 32; (with_reducible refine (HVal.out _).mono ?_); rintro e w8 ⟨rfl, hv8, hb8, hl8⟩; have hq2 := hq0.trans (hb8.mono hq0.size))
              | (go_at_call 34; have HWi := HWith1.out w8 hv8 hq2 hl8; (with_reducible refine HWi.mono ?_); rintro e w9 ⟨A9, n9, c9, rfl, hh9, hn9, hc9, hb9⟩; have hq3 := hq2.trans (hb9.mono hq2.size))
              | (go_at_call 34; have HWj := HWith2.out w9 A9 n9 c9 hq3 hh9 hn9 hc9; (with_reducible refine HWj.mono ?_); rintro e w10 ⟨A10, n10, c10, rfl, hh10, hn10, hc10, hb10⟩; have hq4 := hq3.trans (hb10.mono hq3.size)))
            have HOc := Lib.hid (HO6.out.below hq4)
            have HTc := Lib.hid (⟨hh10, hn10, hc10⟩ : HoldsP w10 (TB w10 (Value.slice A6 k c6).ownBlock) A10 n10 (T.withT sec (X.withT s2 (.cons s3 .nil .nil))) ∧ n10 ≤ c10 ∧ c10 ≤ maxLen)
            have HWc := Lib.hid (HW6.out.trans (hq4.mono HW6.out.size))
            have z0 := (hq4.cell (p := ⟨g, 0, none⟩) hg6).trans HC6.out.1
            have z1 := (hq4.cell (p := ⟨g, 1, none⟩) hg6).trans HC6.out.2.1
            have z2 := (hq4.cell (p := ⟨g, 2, none⟩) hg6).trans HC6.out.2.2.1
            have z3 := (hq4.cell (p := ⟨g, 3, none⟩) hg6).trans HC6.out.2.2.2.1
            have z4 := (hq4.cell (p := ⟨g, 4, none⟩) hg6).trans HC6.out.2.2.2.2.1
            have z5 := (hq4.cell (p := ⟨g, 5, none⟩) hg6).trans HC6.out.2.2.2.2.2
            clear hq0 hq2 hq3 hq4 hv8 hb8 hl8 hh9 hn9 hc9 hb9 hh10 hn10 hc10 hb10 d0 d1 d2 d3 d4 d5 y0 y1 y2 y3 y4 y5
            have hk1 : k + 1 ≤ 549755813888 := by omega
            have hcz := HWc.out.size
            go_wp2_with (at_builtin; refine wpList_append_big rfl (.tmp 96) (.tmp 98) _ _ rfl elem_rr rfl rfl (HOc.out.alloc _) (src_rr _ kd sec s2 s3 a0 a1 _ (heap_alloc_new _ _)) hk1 (by simp; omega) ?_; intro A7 c7 w7 ho7 hg7 hat7)
            have hb8 : Below w10.heap.size w10 (w10.alloc (Obj.cells #[Value.int .i64 kd, Value.string sec, Value.string s2, Value.string s3, Value.int .i64 a0, Value.int .i64 a1] 81)) := (Below.refl _ _).alloc (Nat.le_refl _) _
            have HO7 : Hid (OwnRr w7 w.heap.size A7 (k + 1) c7 (out ++ [(⟨kd, sec.data.toList, s2.data.toList, s3.data.toList, a0, a1⟩ : Rr)])) := Lib.hid (OwnRr.push ho7)
            have HT7 : Hid (HoldsP w7 (TB w7 (Value.slice A7 (k + 1) c7).ownBlock) A10 n10 (T.withT sec (X.withT s2 (.cons s3 .nil .nil))) ∧ n10 ≤ c10 ∧ c10 ≤ maxLen) := Lib.hid ⟨TB.grown (A7 := A7) (m := k + 1) (c7 := c7) (TB.keep HTc.out.1 hb8) hg7 (fun a ha => (hat7 a ha).imp (fun e => Nat.le_of_eq e.symm) id), HTc.out.2⟩
            have HW7 : Hid (Below w.heap.size w w7) := Lib.hid ((HWc.out.alloc hcz _).grown hg7 (by simp; omega) (fun q hq => (HOc.out.lt q hq).1))
            have HL7 : Hid ((out ++ [(⟨kd, sec.data.toList, s2.data.toList, s3.data.toList, a0, a1⟩ : Rr)]).length = k + 1) := Lib.hid (by rw [List.length_append, HL.out]; rfl)
            clear hb8 ho7 hg7 hat7
            go_wp2_with fail
            go_roundw
            case rel => exact ⟨k + 1, A7, A10, c7, n10, c10, out ++ [(⟨kd, sec.data.toList, s2.data.toList, s3.data.toList, a0, a1⟩ : Rr)], (T.withT sec (X.withT s2 (.cons s3 .nil .nil))), sec, true, Hlt.out, rfl, rfl, rfl, rfl, by go_num, HO7, HL7, HT7, HTz, HW7, HF4⟩
            case measure => have := Hlt.out; simp [intOf]; omega

      by_cases h1 : kd = 1
      · have q3 : ((kd : Int) == 3) = false := by rw [h1]; rfl
        have q2 : ((kd : Int) == 2) = false := by rw [h1]; rfl
        have q1 : ((kd : Int) == 1) = true := by rw [h1]; rfl
        have hF := HF1.out
        rw [if_neg (by rintro (h | ⟨h, _⟩); exact h3 h; exact h2 h), if_pos h1] at hF
        have HF2 := Lib.hid hF
        have hTs := HTs.out
        have HKa := Lib.hid (kidB_any T At nt ct s1 W3 HTg.out (fun b hb => Nat.lt_trans hb.1 hgl) (by omega))
        clear h1 h2 h3 hF hTs
        go_wp2_with fail
        (with_reducible refine HKa.out.mono ?_)
        rintro e w4 ⟨Ax, nx, cx, rfl, _, _, _, hb4⟩
        obtain ⟨v, hv⟩ : ∃ v, v = T.atIs s1 := ⟨_, rfl⟩
        rw [← hv]
        have Hv := Lib.hid hv
        have HB4 := Lib.hid hb4
        have HW4 := Lib.hid (HW3.out.trans (hb4.mono HW3.out.size))
        have HO4 := Lib.hid (HO3.out.below hb4)
        have HT4 := Lib.hid (⟨TB.keep HT3.out.1 hb4, HT3.out.2⟩ : HoldsP w4 (TB w4 (Value.slice A6 k c6).ownBlock) At nt T ∧ nt ≤ ct ∧ ct ≤ maxLen)
        have y0 := (hb4.cell (p := ⟨g, 0, none⟩) hgl).trans HC.out.1
        have y1 := (hb4.cell (p := ⟨g, 1, none⟩) hgl).trans HC.out.2.1
        have y2 := (hb4.cell (p := ⟨g, 2, none⟩) hgl).trans HC.out.2.2.1
        have y3 := (hb4.cell (p := ⟨g, 3, none⟩) hgl).trans HC.out.2.2.2.1
        have y4 := (hb4.cell (p := ⟨g, 4, none⟩) hgl).trans HC.out.2.2.2.2.1
        have y5 := (hb4.cell (p := ⟨g, 5, none⟩) hgl).trans HC.out.2.2.2.2.2

        clear hb4 hv
        cases v with
        | true =>
          have HF3 : Hid (R = ([], .nil, k + 1, 7)) := Lib.hid (by rw [HF2.out, if_pos Hv.out.symm])
          go_wp2_with fail
          refine bodyPost_ret (v := .tuple #[.slice none 0 0, .slice none 0 0, .int .i64 ((k : Int) + 1), .int .i64 7]) (by simp [results, Tryz.results26, go_sem]) rfl ?_
          exact ⟨none, none, 0, 0, 0, by rw [HF3.out]; rfl, by rw [HF3.out]; exact OwnRr.nil _ _, by rw [HF3.out]; exact rfl, Nat.le_refl _, Nat.zero_le _, HW4.out⟩

        | false =>
          have HF4 : Hid (R = rowsR (T.withT s1 .nil) s1.data.toList true (k + 1) (out ++ [(⟨kd, s1.data.toList, s2.data.toList, s3.data.toList, a0, a1⟩ : Rr)]) (ls.drop (k + 1))) := Lib.hid (by rw [HF2.out, if_neg (by rw [← Hv.out]; decide)])
          have HTz : Hid ((T.withT s1 .nil).size ≤ 3 * (k + 1)) := Lib.hid (by
            have e1 := with_size2 (name := s1) (x := .nil) (t := T)
            have e3 := HTs.out
            simp only [Tr.size] at e1
            omega)
          have hTs := HTs.out
          have HWi := Lib.hid (withB_any (Value.slice A6 k c6).ownBlock T .nil At none nt ct 0 0 s1 w4 (fun q hq => (HO4.out.lt q hq).2) HT4.out.1 rfl (by omega) HT4.out.2.1 (Nat.le_refl _) (Nat.zero_le _))
          clear hTs
          go_wp2_with fail
          (with_reducible refine HWi.out.mono ?_)
          rintro e w5 ⟨A5, n5, c5, rfl, hh5, hn5, hc5, hb5⟩
          have hb35 := HB4.out.trans (hb5.mono HB4.out.size)
          have HOc := Lib.hid (HO4.out.below hb5)
          have HTc := Lib.hid (⟨hh5, hn5, hc5⟩ : HoldsP w5 (TB w5 (Value.slice A6 k c6).ownBlock) A5 n5 (T.withT s1 .nil) ∧ n5 ≤ c5 ∧ c5 ≤ maxLen)
          have HWc := Lib.hid (HW4.out.trans (hb5.mono HW4.out.size))
          have z0 := (hb35.cell (p := ⟨g, 0, none⟩) hgl).trans HC.out.1
          have z1 := (hb35.cell (p := ⟨g, 1, none⟩) hgl).trans HC.out.2.1
          have z2 := (hb35.cell (p := ⟨g, 2, none⟩) hgl).trans HC.out.2.2.1
          have z3 := (hb35.cell (p := ⟨g, 3, none⟩) hgl).trans HC.out.2.2.2.1
          have z4 := (hb35.cell (p := ⟨g, 4, none⟩) hgl).trans HC.out.2.2.2.2.1
          have z5 := (hb35.cell (p := ⟨g, 5, none⟩) hgl).trans HC.out.2.2.2.2.2

          clear hb35 hh5 hn5 hc5 hb5 d0 d1 d2 d3 d4 d5 y0 y1 y2 y3 y4 y5
          have hk1 : k + 1 ≤ 549755813888 := by omega
          have hcz := HWc.out.size
          go_wp2_with (at_builtin; refine wpList_append_big rfl (.tmp 96) (.tmp 98) _ _ rfl elem_rr rfl rfl (HOc.out.alloc _) (src_rr _ kd s1 s2 s3 a0 a1 _ (heap_alloc_new _ _)) hk1 (by simp; omega) ?_; intro A7 c7 w7 ho7 hg7 hat7)
          have hb8 : Below w5.heap.size w5 (w5.alloc (Obj.cells #[Value.int .i64 kd, Value.string s1, Value.string s2, Value.string s3, Value.int .i64 a0, Value.int .i64 a1] 81)) := (Below.refl _ _).alloc (Nat.le_refl _) _
          have HO7 : Hid (OwnRr w7 w.heap.size A7 (k + 1) c7 (out ++ [(⟨kd, s1.data.toList, s2.data.toList, s3.data.toList, a0, a1⟩ : Rr)])) := Lib.hid (OwnRr.push ho7)
          have HT7 : Hid (HoldsP w7 (TB w7 (Value.slice A7 (k + 1) c7).ownBlock) A5 n5 (T.withT s1 .nil) ∧ n5 ≤ c5 ∧ c5 ≤ maxLen) := Lib.hid ⟨TB.grown (A7 := A7) (m := k + 1) (c7 := c7) (TB.keep HTc.out.1 hb8) hg7 (fun a ha => (hat7 a ha).imp (fun e => Nat.le_of_eq e.symm) id), HTc.out.2⟩
          have HW7 : Hid (Below w.heap.size w w7) := Lib.hid ((HWc.out.alloc hcz _).grown hg7 (by simp; omega) (fun q hq => (HOc.out.lt q hq).1))
          have HL7 : Hid ((out ++ [(⟨kd, s1.data.toList, s2.data.toList, s3.data.toList, a0, a1⟩ : Rr)]).length = k + 1) := Lib.hid (by rw [List.length_append, HL.out]; rfl)
          clear hb8 ho7 hg7 hat7
          go_wp2_with fail
          go_roundw
          case rel => exact ⟨k + 1, A7, A5, c7, n5, c5, out ++ [(⟨kd, s1.data.toList, s2.data.toList, s3.data.toList, a0, a1⟩ : Rr)], (T.withT s1 .nil), s1, true, Hlt.out, rfl, rfl, rfl, rfl, by go_num, HO7, HL7, HT7, HTz, HW7, HF4⟩
          case measure => have := Hlt.out; simp [intOf]; omega

      · have q3 : ((kd : Int) == 3) = false := by rw [beq_eq_false_iff_ne]; omega
        have q2 : ((kd : Int) == 2) = false := by rw [beq_eq_false_iff_ne]; omega
        have q1 : ((kd : Int) == 1) = false := by rw [beq_eq_false_iff_ne]; omega
        have HF4 : Hid (R = rowsR T sec.data.toList inn (k + 1) (out ++ [(⟨kd, s1.data.toList, s2.data.toList, s3.data.toList, a0, a1⟩ : Rr)]) (ls.drop (k + 1))) := Lib.hid (by rw [HF1.out, if_neg (by rintro (h | ⟨h, _⟩); exact h3 h; exact h2 h), if_neg h1, if_neg h2])
        have HTz : Hid (T.size ≤ 3 * (k + 1)) := Lib.hid (by have := HTs.out; omega)
        have HOc := HO3
        have HTc := HT3
        have HWc := HW3
        clear h1 h2 h3
        cases inn
        all_goals
          have hk1 : k + 1 ≤ 549755813888 := by omega
          have hcz := HWc.out.size
          go_wp2_with (at_builtin; refine wpList_append_big rfl (.tmp 96) (.tmp 98) _ _ rfl elem_rr rfl rfl (HOc.out.alloc _) (src_rr _ kd s1 s2 s3 a0 a1 _ (heap_alloc_new _ _)) hk1 (by simp; omega) ?_; intro A7 c7 w7 ho7 hg7 hat7)
          have hb8 : Below W3.heap.size W3 (W3.alloc (Obj.cells #[Value.int .i64 kd, Value.string s1, Value.string s2, Value.string s3, Value.int .i64 a0, Value.int .i64 a1] 81)) := (Below.refl _ _).alloc (Nat.le_refl _) _
          have HO7 : Hid (OwnRr w7 w.heap.size A7 (k + 1) c7 (out ++ [(⟨kd, s1.data.toList, s2.data.toList, s3.data.toList, a0, a1⟩ : Rr)])) := Lib.hid (OwnRr.push ho7)
          have HT7 : Hid (HoldsP w7 (TB w7 (Value.slice A7 (k + 1) c7).ownBlock) At nt T ∧ nt ≤ ct ∧ ct ≤ maxLen) := Lib.hid ⟨TB.grown (A7 := A7) (m := k + 1) (c7 := c7) (TB.keep HTc.out.1 hb8) hg7 (fun a ha => (hat7 a ha).imp (fun e => Nat.le_of_eq e.symm) id), HTc.out.2⟩
          have HW7 : Hid (Below w.heap.size w w7) := Lib.hid ((HWc.out.alloc hcz _).grown hg7 (by simp; omega) (fun q hq => (HOc.out.lt q hq).1))
          have HL7 : Hid ((out ++ [(⟨kd, s1.data.toList, s2.data.toList, s3.data.toList, a0, a1⟩ : Rr)]).length = k + 1) := Lib.hid (by rw [List.length_append, HL.out]; rfl)
          clear hb8 ho7 hg7 hat7
          go_wp2_with fail
          go_roundw
          case rel => exact ⟨k + 1, A7, At, c7, nt, ct, out ++ [(⟨kd, s1.data.toList, s2.data.toList, s3.data.toList, a0, a1⟩ : Rr)], T, sec, _, Hlt.out, rfl, rfl, rfl, rfl, by go_num, HO7, HL7, HT7, HTz, HW7, HF4⟩
          case measure => have := Hlt.out; simp [intOf]; omega
    · obtain rfl : k = n := by omega
      have hF := HF.out
      rw [List.drop_of_length_le (by rw [← Hl.out]; exact Nat.le_refl _), rowsR] at hF
      have HF2 := Lib.hid hF
      clear hlt hF HF
      go_wp2_with fail
      refine bodyPost_ret (v := .tuple #[.slice A6 k c6, .slice At nt ct, .int .i64 0, .int .i64 0]) (by simp [results, Tryz.results26, go_sem]) rfl ?_
      have hO := HO.out
      have hl := HL.out
      exact ⟨A6, At, c6, nt, ct, by rw [HF2.out]; dsimp only; rw [hl]; rfl, by rw [HF2.out]; dsimp only; rw [hl]; exact hO, by rw [HF2.out]; exact TB.holds HT.out.1, HT.out.2.1, HT.out.2.2, HW.out⟩
end Go.Proofs.YtapgaglkkgbgkaaGreatDoor.In
namespace Go.Proofs.YtapgaglkkgbgkaaGreatDoor.In
open Go.RowKit Go.Proofs.YtapgaglkkgbgkaaGreatDoor.Jd Go.Proofs.YtapgaglkkgbgkaaGreatDoor.Li Go.Proofs.YtapgaglkkgbgkaaGreatDoor.Pt Go.Proofs.YtapgaglkkgbgkaaGreatDoor.Cl Go.Proofs.YtapgaglkkgbgkaaGreatDoor.Cv
set_option maxRecDepth 100000

theorem rowsR_ok (l : Bs) (hl : l.length ≤ 4000) : (Tr.Nm (rowsR .nil [] false 0 [] (split l)).2.1 ∧ (rowsR .nil [] false 0 [] (split l)).2.1.size ≤ 17179869184) ∧ ((rowsR .nil [] false 0 [] (split l)).2.2.2 = 0 → (rowsR .nil [] false 0 [] (split l)).2.2.1 = 0) := by
  have h := rows_ref (split l) [⟨[], []⟩] [] 0 [] ⟨rfl, by simp, fun _ h => by cases h⟩ rfl
  rw [show secsS [] = .nil from rfl, srtE_nil, show (lastS (absP [⟨[], []⟩])).1 = [] from rfl, show decide (([] : Sa) ≠ []) = false by simp] at h
  by_cases h2 : (partsI [⟨[], []⟩] 0 (split l)).2.2 ≠ 0
  · rw [h.1 h2]
    exact ⟨⟨trivial, Nat.zero_le _⟩, fun h0 => absurd h0 h2⟩
  · have h3 := Classical.not_not.1 h2
    rw [h.2.1 h3]
    have h4 := treeI_ok (InvP.parts (split l) InvP.start h3)
    have h5 := split_le l
    exact ⟨⟨h4.1, by have := h4.2; show (treeI _).size ≤ _; omega⟩, fun _ => rfl⟩
def LoadQ (w : World) (o : Tr × Nat × Int) (en : Ending) (w' : World) : Prop :=
  ∃ At nt ct, en = .returned (.tuple #[.slice At nt ct, .int .i64 (o.2.1 : Nat), .int .i64 o.2.2]) ∧ Holds w' w'.heap.size At nt o.1 ∧ nt ≤ ct ∧ ct ≤ maxLen ∧ Below w.heap.size w w'

set_option maxHeartbeats 4000000 in
theorem rload_any (s : ByteArray) (w : World) (hz : s.size ≤ 274877906944) : Calls Tryz.prog 13 #[.string s] w (LoadQ w (readI s.data.toList)) := by
  rw [← load_same]
  have hsl : s.data.toList.length = s.size := rfl
  by_cases h1 : 4000 < s.size
  · have hL : loadR s.data.toList = (.nil, 0, 5) := by rw [loadR, if_pos (by omega)]
    rw [hL]
    have h1' : (4000 : Int) < (s.size : Int) := by omega
    clear hL hsl h1
    go_enter Tryz.func13, Tryz.ntmps13
    go_wp2_with fail
    refine bodyPost_ret (v := .tuple #[.slice none 0 0, .int .i64 0, .int .i64 5]) (by simp [results, Tryz.results13, go_sem]) rfl ?_
    exact ⟨none, 0, 0, rfl, rfl, Nat.le_refl _, Nat.zero_le _, Below.refl _ _⟩
  · have h1' : ¬ (4000 : Int) < (s.size : Int) := by omega
    obtain ⟨⟨hnm, htz⟩, hline⟩ := rowsR_ok s.data.toList (by omega)
    obtain ⟨o, ho⟩ : ∃ o, o = rowsR .nil [] false 0 [] (split s.data.toList) := ⟨_, rfl⟩
    have hL : loadR s.data.toList = if o.2.2.2 ≠ 0 then (.nil, o.2.2.1, o.2.2.2) else if o.2.1.fault ≠ 0 then (.nil, o.2.2.1, (o.2.1.fault : Nat)) else (o.2.1, 0, 0) := by rw [loadR, if_neg (by omega), ho]
    rw [← ho] at hnm htz hline
    have hll : (split s.data.toList).length ≤ 4000 := Nat.le_trans (split_le _) (by omega)
    have hlens : ∀ x ∈ split s.data.toList, x.1.length ≤ 4000 := fun x hx => Nat.le_trans (split_lens _ x hx) (by omega)
    have HSp := Lib.hid (rsplit_any s w (by omega))
    have HRo := Lib.hid (fun (A : Option Addr) (c : Nat) (W : World) (h : OwnL W w.heap.size A (split s.data.toList).length c (split s.data.toList)) => by
      have := rrows_any (split s.data.toList) A (split s.data.toList).length c W.heap.size W h.sees (Nat.le_refl _) (by omega) hlens
      rw [← ho] at this
      exact this)
    have HL := Lib.hid hL
    have Hnm := Lib.hid hnm
    clear hL hsl h1 hnm ho hlens
    go_enter Tryz.func13, Tryz.ntmps13
    go_wp2_with fail
    (with_reducible refine HSp.out.mono ?_)
    rintro e w1 ⟨A1, c1, rfl, ho1, hb1⟩
    have HRo1 := Lib.hid (HRo.out A1 c1 w1 ho1)
    clear ho1
    go_wp2_with fail
    (with_reducible refine HRo1.out.mono ?_)
    rintro e w2 ⟨A2, At, c2, nt, ct, rfl, ho2, hT, hnt, hct, hb2⟩
    have HB := Lib.hid (hb1.trans (hb2.mono hb1.size))
    have hln := hT.len
    have hls := o.2.1.len_size
    have HC := Lib.hid (rcheck_any o.2.1 At nt ct w2.heap.size w2 hT (Nat.le_refl _) (by omega) (low_size _ (by omega)) Hnm.out)
    have HT := Lib.hid hT
    obtain ⟨e0, he0⟩ : ∃ e0, e0 = o.2.2.2 := ⟨_, rfl⟩
    obtain ⟨l0, hl0⟩ : ∃ l0, l0 = o.2.2.1 := ⟨_, rfl⟩
    obtain ⟨t0, ht0⟩ : ∃ t0, t0 = o.2.1 := ⟨_, rfl⟩
    obtain ⟨f0, hf0⟩ : ∃ f0, f0 = t0.fault := ⟨_, rfl⟩
    rw [← ht0, ← hf0] at HC
    rw [← ht0] at HT
    rw [← he0, ← hl0, ← ht0, ← hf0] at HL
    rw [← he0, ← hl0]
    rw [← he0, ← hl0] at hline
    clear hb1 hb2 ho2 hT hln hls he0 hl0 ht0 hf0 htz
    by_cases h0 : e0 = 0
    · subst h0
      obtain rfl : l0 = 0 := hline rfl
      clear hline
      go_wp2_with fail
      (with_reducible refine HC.out.mono ?_)
      rintro e w3 ⟨rfl, hb3⟩
      have HB3 := Lib.hid (HB.out.trans (hb3.mono HB.out.size))
      have HT3 := Lib.hid ((HT.out.below hb3).more hb3.size)
      clear hb3
      by_cases hf : f0 = 0
      · have HL2 : Hid (loadR s.data.toList = (t0, 0, 0)) := Lib.hid (by rw [HL.out, if_neg (by decide), if_neg (by simpa using hf)])
        subst hf
        go_wp2_with fail
        refine bodyPost_ret (v := .tuple #[.slice At nt ct, .int .i64 0, .int .i64 0]) (by simp [results, Tryz.results13, go_sem]) rfl ?_
        rw [HL2.out]
        exact ⟨At, nt, ct, rfl, HT3.out, hnt, hct, HB3.out⟩
      · have HL2 : Hid (loadR s.data.toList = (.nil, 0, ((f0 : Nat) : Int))) := Lib.hid (by rw [HL.out, if_neg (by decide), if_pos (by simpa using hf)])
        have hfb : ((f0 : Int) != 0) = true := bne_iff_ne.2 (by omega)
        clear hf
        go_wp2_with fail
        refine bodyPost_ret (v := .tuple #[.slice none 0 0, .int .i64 0, .int .i64 f0]) (by simp [results, Tryz.results13, go_sem]) rfl ?_
        rw [HL2.out]
        exact ⟨none, 0, 0, rfl, rfl, Nat.le_refl _, Nat.zero_le _, HB3.out⟩
    · have hvb : (e0 != 0) = true := bne_iff_ne.2 h0
      have hvb2 : (e0 == 0) = false := beq_eq_false_iff_ne.2 h0
      have HL2 : Hid (loadR s.data.toList = (.nil, l0, e0)) := Lib.hid (by rw [HL.out, if_pos h0])
      clear h0 hline
      go_wp2_with fail
      refine bodyPost_ret (v := .tuple #[.slice none 0 0, .int .i64 l0, .int .i64 e0]) (by simp [results, Tryz.results13, go_sem]) rfl ?_
      rw [HL2.out]
      exact ⟨none, 0, 0, rfl, rfl, Nat.le_refl _, Nat.zero_le _, HB.out⟩
end Go.Proofs.YtapgaglkkgbgkaaGreatDoor.In
namespace Go.Proofs.YtapgaglkkgbgkaaGreatDoor.In
open Go.RowKit Go.Proofs.YtapgaglkkgbgkaaGreatDoor.Jd Go.Proofs.YtapgaglkkgbgkaaGreatDoor.Li Go.Proofs.YtapgaglkkgbgkaaGreatDoor.Cl Go.Proofs.YtapgaglkkgbgkaaGreatDoor.Pt Go.Proofs.YtapgaglkkgbgkaaGreatDoor.Cv
set_option maxRecDepth 100000

end Go.Proofs.YtapgaglkkgbgkaaGreatDoor.In
