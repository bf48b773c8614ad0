/- diff.ahead: a name put ahead of each path of one's own. Conditions: fewer than 2^39 paths, of fewer than 2^39 names. -/
import Derived.Test.YtcfaocjgflefmaaDfRow
import Derived.Outline
namespace Go.Proofs.Ytcfaocjgflefmaa.Df
open Go.RowKit Go.Proofs.Ytcfaocjgflefmaa.Pt
set_option maxRecDepth 100000

def Ins0P (w : World) (base : Nat) (A : Option Addr) (n c : Nat) (p : List ByteArray) (e : Ending) (w' : World) : Prop :=
  ∃ A' c', e = .returned (.slice A' (n + 1) c') ∧ w'.ownsRow base 9 1 (.slice A' (n + 1) c') (n + 1) (strs p) ∧ w.grownBy w' (Value.slice A n c).ownBlock ∧ (∀ a, A' = some a → w.heap.size ≤ a.block ∨ some a.block = (Value.slice A n c).ownBlock)
theorem insert0_any (w : World) (base n c vb : Nat) (A : Option Addr) (p : List ByteArray) (s : ByteArray) (hrow : w.ownsRow base 9 1 (.slice A n c) n (strs p)) (hv : w.heap[vb]? = some (.cells #[.string s] 9 (0, 0)))
    (hvb : (Value.slice A n c).ownBlock ≠ some vb) (hn : n ≤ 549755813888) (hbase : base ≤ w.heap.size) :
    Calls Try.prog 46 #[.slice A n c, .int .i64 0, .slice (some ⟨vb, 0, none⟩) 1 1] w (Ins0P w base A n c (s :: p)) := by
  have h := insert_any w base n c 0 vb A (strs p) (.string s) hrow hv rfl hvb (Nat.zero_le _) hn hbase (strs_one p)
  exact h.mono fun e w' ⟨A', c', he, h1, h2, h3⟩ => ⟨A', c', he, by simpa [strs] using h1, h2, h3⟩

theorem own_some {w : World} {base n c size k : Nat} {e : TypeId} {A : Option Addr} {vs : List Value} (h : w.ownsRow base e size (.slice A n c) n vs) (hk : k < n) :
    ∃ g, A = some ⟨g, 0, none⟩ ∧ g < w.heap.size ∧ (∀ j u, vs[j]? = some u → w.cell? ⟨g, j, none⟩ = some u) ∧ ∀ j, w.frozen? ⟨g, j, none⟩ = false := by
  rcases h.2 with ⟨e1, e2⟩ | ⟨g, cap, cur, e1, hg, hh, hcap, hmx, hsz, htk⟩
  · omega
  · injection e1 with a1 a2 a3
    subst a1
    refine ⟨g, rfl, (Array.getElem?_eq_some_iff.1 hh).1, fun j u hu => ?_, fun j => by simp [World.frozen?, hh]⟩
    have := rowCells h j u hu
    rwa [Addr.add_lit, Nat.zero_add] at this
structure AhI (w wr : World) (base : Nat) (A : Option Addr) (n c : Nat) (s : ByteArray) (xs ys : List Q4) (k : Nat) : Prop where
  own : OwnQ wr base A n c (ys ++ xs.drop k)
  len : ys.length = k
  done : qp ys = (qp (xs.take k)).map (s :: ·)
  below : Below base w wr
def AheadP (s : ByteArray) (xs : List Q4) (base : Nat) (A : Option Addr) (n c : Nat) (w : World) (e : Ending) (w' : World) : Prop :=
  ∃ ys, e = .returned (.slice A n c) ∧ OwnQ w' base A n c ys ∧ qp ys = (qp xs).map (s :: ·) ∧ Below base w w'

set_option maxHeartbeats 2000000 in
theorem ahead_any (s : ByteArray) (xs : List Q4) (A : Option Addr) (n c base : Nat) (w : World) (h : OwnQ w base A n c xs) (hbase : base ≤ w.heap.size) (hn : n ≤ 549755813888) (hp : ∀ x ∈ xs, x.n ≤ 549755813888) :
    Calls Try.prog 39 #[.string s, .slice A n c] w (AheadP s xs base A n c w) := by
  have Hlen := Lib.hid h.len
  have H0 := Lib.hid (show AhI w w base A n c s xs [] 0 from ⟨h, rfl, rfl, Below.refl _ _⟩)
  have Hp := Lib.hid hp
  clear h hp
  go_enter Try.func39, Try.ntmps39
  go_wp2_with fail
  go_loopw [9] (fun i wr => ∃ (k : Nat) (ys : List Q4), k ≤ n ∧ i = .int .i64 k ∧ Hid (AhI w wr base A n c s xs ys k)) (fun i _ => n - (intOf i).toNat)
  case atStart => exact ⟨0, [], Nat.zero_le _, rfl, H0⟩
  case round =>
    obtain ⟨k, ys, hk, rfl, HI⟩ := hrel
    have Hsw := Lib.hid (Nat.le_trans (show base ≤ w.heap.size from hbase) HI.out.below.size)
    by_cases hlt : k < n
    · have hkl : k < xs.length := by have := Hlen.out; omega
      obtain ⟨x, hx⟩ : ∃ x, xs[k]? = some x := ⟨_, List.getElem?_eq_getElem hkl⟩
      have hdr : xs.drop k = x :: xs.drop (k + 1) := by
        rw [List.drop_eq_getElem_cons hkl, (List.getElem?_eq_some_iff.1 hx).2]
      have HO := Lib.hid (show OwnQ wr base A n c (ys ++ x :: xs.drop (k + 1)) by rw [← hdr]; exact HI.out.own)
      have hxn := Hp.out x (List.mem_of_getElem? hx)
      obtain ⟨g, rfl, hgl, hcell, hfz⟩ := own_some HO.out.own hlt
      have hck := hcell k x.v (by rw [qv, List.map_append, List.getElem?_append_right (by rw [List.length_map, HI.out.len]; exact Nat.le_refl _), List.length_map, HI.out.len, Nat.sub_self]; rfl)
      have hkn : (k : Int) < (n : Int) := by omega
      have hk0 : (0 : Int) ≤ (k : Int) := by omega
      have hrx := HO.out.each x (by simp)
      obtain ⟨W1, hW1⟩ : ∃ W, W = wr.alloc (Obj.cells #[Value.string s] 9) := ⟨_, rfl⟩
      have hb1 : Below wr.heap.size wr W1 := by rw [hW1]; exact (Below.refl _ _).alloc (Nat.le_refl _) _
      have HC := Lib.hid (insert0_any W1 base x.n x.c wr.heap.size x.at_ x.p s (owns_belowD hrx hb1) (by rw [hW1]; exact heap_alloc_new wr _) (fun e => by have := (hrx.lt _ e).2; omega) hxn (Nat.le_trans Hsw.out hb1.size))
      have HB1 := Lib.hid hb1
      have Hck := Lib.hid hck
      have Hfz := Lib.hid hfz
      have Hlt := Lib.hid hlt
      have Hdone := Lib.hid (show (qp (xs.take (k + 1))).map (s :: ·) = (qp (xs.take k)).map (s :: ·) ++ [s :: x.p] by rw [List.take_add_one, hx]; simp [qp])
      have Hgl := Lib.hid hgl
      have hgx : x.v.ownBlock ≠ some g := fun e => HO.out.off x (by simp) g e rfl
      have Hgx := Lib.hid hgx
      rw [show x.v = .slice x.at_ x.n x.c from rfl] at hck
      clear hb1 hrx hx hkl hdr hcell hfz hxn hlt hgx
      go_wp2_with fail
      rw [← hW1]
      (with_reducible refine HC.out.mono ?_)
      rintro e w2 ⟨A', c', rfl, hr2, hg2, hat2⟩
      have hcw : w2.cell? ⟨g, k, none⟩ = some x.v := (World.cell?_of_block (a := ⟨g, k, none⟩) (hg2.block g (Nat.lt_of_lt_of_le Hgl.out HB1.out.size) (fun e => Hgx.out e.symm))).trans ((HB1.out.cell (p := ⟨g, k, none⟩) Hgl.out).trans Hck.out)
      have hfw : w2.frozen? ⟨g, k, none⟩ = false := (World.frozen?_of_block (a := ⟨g, k, none⟩) (hg2.block g (Nat.lt_of_lt_of_le Hgl.out HB1.out.size) (fun e => Hgx.out e.symm))).trans ((HB1.out.frozen (p := ⟨g, k, none⟩) Hgl.out).trans (Hfz.out k))
      have hst := OwnQ.store HO.out HB1.out hr2 hg2 hat2
      rw [HI.out.len] at hst
      have hxl : ∀ q, x.v.ownBlock = some q → base ≤ q := fun q e => ((HO.out.each x (by simp)).lt q e).1
      have hgb : base ≤ g := (HO.out.own.lt g rfl).1
      have HI2 := Lib.hid (show AhI w (w2.setCell ⟨g, k, none⟩ (.slice A' (x.n + 1) c')) base (some ⟨g, 0, none⟩) n c s xs (ys ++ [⟨A', x.n + 1, c', s :: x.p⟩]) (k + 1) from
        ⟨by rw [List.append_assoc]; exact hst, by rw [List.length_append, HI.out.len]; rfl, by rw [qp_append, HI.out.done, Hdone.out]; rfl,
          (((HI.out.below.trans (HB1.out.mono Hsw.out)).grown hg2 (Nat.le_trans Hsw.out HB1.out.size) hxl).setCell hgb _)⟩)
      rw [show x.v = .slice x.at_ x.n x.c from rfl] at hcw
      clear hst hr2 hg2 hat2 hxl
      go_wp2_with fail
      go_roundw
      case rel => exact ⟨k + 1, _, Hlt.out, by go_num, HI2⟩
      case measure => have := Hlt.out; simp [intOf]; omega
    · obtain rfl : k = n := by omega
      have hnil : xs.drop k = [] := List.drop_eq_nil_of_le (by rw [Hlen.out]; exact Nat.le_refl _)
      have HP := Lib.hid (show AheadP s xs base A k c w (.returned (.slice A k c)) wr from ⟨ys, rfl, by have := HI.out.own; rwa [hnil, List.append_nil] at this, by
        have := HI.out.done
        rwa [List.take_of_length_le (by rw [Hlen.out]; exact Nat.le_refl _)] at this, HI.out.below⟩)
      clear hlt hnil
      go_wp2_with fail
      go_ret
      exact HP.out
end Go.Proofs.Ytcfaocjgflefmaa.Df
