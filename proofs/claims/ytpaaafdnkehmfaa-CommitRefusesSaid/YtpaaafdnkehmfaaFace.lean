/- The Reader's face: New, Int, Byte, Text, Fail, End: what each answers, and what it leaves. No conditions but a length below 2^46. -/
import Derived.Test.YtpaaafdnkehmfaaReadText
namespace Go.Proofs.Ytpaaafdnkehmfaa
open Go.RowKit

/-- A Reader in block g: l is left, its error is e. -/
def Rds (w : World) (g : Nat) (l : List UInt8) (e : Int) : Prop := ∃ A n c, Rd w g A n c l e
theorem Rds.keep {w w' : World} {g : Nat} {l : List UInt8} {e : Int} (h : Rds w g l e) (hb : Below w.heap.size w w') : Rds w' g l e := by
  obtain ⟨A, n, c, h⟩ := h
  exact ⟨A, n, c, h.keep hb⟩
theorem Rds.lt {w : World} {g : Nat} {l : List UInt8} {e : Int} (h : Rds w g l e) : g < w.heap.size := by
  obtain ⟨A, n, c, h⟩ := h
  exact h.lt

set_option maxHeartbeats 1000000 in
set_option maxHeartbeats 1000000 in
theorem byte_any (g : Nat) (l : List UInt8) (e : Int) (w : World) (h : Rds w g l e) : Calls Try.prog 85 #[.pointer (some ⟨g, 0, none⟩)] w fun en w' =>
    en = .returned (.int .i64 (((rdStep 1 l e).1 : Nat) : Int)) ∧ ReadPost w w' g (rdStep 1 l e).2.1 (rdStep 1 l e).2.2 := by
  obtain ⟨A, n, c, h⟩ := h
  have hr := read8_any g n c A l e w h
  have hlt := rdStep_lt 1 l e
  generalize rdStep 1 l e = R at hr hlt ⊢
  have hlt' : R.1 < 256 := hlt
  clear hlt
  have Hr := Lib.hid hr
  clear hr
  go_enter Try.func85, Try.ntmps85
  go_wp2_with fail
  refine Hr.out.mono ?_
  rintro en w' ⟨rfl, hp⟩
  go_wp2_with fail
  go_ret
  exact ⟨rfl, hp⟩
set_option maxHeartbeats 1000000 in
theorem end_any (g : Nat) (l : List UInt8) (e : Int) (w : World) (h : Rds w g l e) : Calls Try.prog 87 #[.pointer (some ⟨g, 0, none⟩)] w fun en w' =>
    en = .returned (.int .i64 (if e = 0 ∧ l ≠ [] then 9 else e)) ∧ w = w' := by
  obtain ⟨A, n, c, h⟩ := h
  have h0 := h.rest
  have h1 := h.err
  by_cases he : e = 0
  · subst he
    by_cases hl : l = []
    · subst hl
      obtain rfl := h.sees.len
      go_enter Try.func87, Try.ntmps87
      go_wp2_with fail
      go_ret
      exact ⟨rfl, rfl⟩
    · have hn : 0 < n := by rw [h.sees.len]; exact List.length_pos_iff.2 hl
      have Hl := Lib.hid (show (if (0 : Int) = 0 ∧ l ≠ [] then (9 : Int) else 0) = 9 from if_pos ⟨rfl, hl⟩)
      rw [Hl.out]
      clear hl
      go_enter Try.func87, Try.ntmps87
      go_wp2_with fail
      go_ret
      exact ⟨rfl, rfl⟩
  · have hb : (e == 0) = false := by simpa using he
    rw [if_neg (fun h => he h.1)]
    clear he
    go_enter Try.func87, Try.ntmps87
    go_wp2_with fail
    go_ret
    exact ⟨rfl, rfl⟩
set_option maxHeartbeats 1000000 in
theorem new_any (n c : Nat) (A : Option Addr) (l : List UInt8) (w : World) (hs : Sees w w.heap.size A n l) (hn : n ≤ 70368744177664) : Calls Try.prog 84 #[.slice A n c] w fun en w' =>
    ∃ g, en = .returned (.pointer (some ⟨g, 0, none⟩)) ∧ w.heap.size ≤ g ∧ Rds w' g l 0 ∧ Below w.heap.size w w' := by
  go_enter Try.func84, Try.ntmps84
  go_wp2_with fail
  refine (clone_any A n c l w hs hn).mono ?_
  rintro en w1 ⟨A', N, c', rfl, ho, hb⟩
  go_wp2_with fail
  go_ret
  exact ⟨w1.heap.size, rfl, hb.size, ⟨A', N, c', at_new w1 _, ho.sees.alloc (Nat.le_refl _) _, ho.cap.1⟩, hb.alloc hb.size _⟩

/-- What Text answers, and what it leaves. -/
def txNext (k : Nat) (l : List UInt8) (e : Int) : List UInt8 × List UInt8 × Int := if e ≠ 0 then ([], l, e) else if l.length < k then ([], l, 8) else (l.take k, l.drop k, 0)
def txStep (l : List UInt8) (e : Int) : List UInt8 × List UInt8 × Int := txNext (rdStep 2 l e).1 (rdStep 2 l e).2.1 (rdStep 2 l e).2.2
theorem txNext_err {k : Nat} {l : List UInt8} {e : Int} (h : ¬ e = 0) : txNext k l e = ([], l, e) := by unfold txNext; rw [if_pos h]
theorem txNext_short {k : Nat} {l : List UInt8} (h : l.length < k) : txNext k l 0 = ([], l, 8) := by unfold txNext; rw [if_neg (by simp), if_pos h]
theorem txNext_yes {k : Nat} {l : List UInt8} (h : ¬ l.length < k) : txNext k l 0 = (l.take k, l.drop k, 0) := by unfold txNext; rw [if_neg (by simp), if_neg h]

set_option maxHeartbeats 2000000 in
theorem text_any (g : Nat) (l : List UInt8) (e : Int) (w : World) (h : Rds w g l e) : Calls Try.prog 86 #[.pointer (some ⟨g, 0, none⟩)] w fun en w' =>
    en = .returned (.string ⟨(txStep l e).1.toArray⟩) ∧ ReadPost w w' g (txStep l e).2.1 (txStep l e).2.2 := by
  have hg := h.lt
  obtain ⟨A, n, c, h⟩ := h
  have hr := read16_any g n c A l e _ (h.alloc (.cells #[.string ⟨#[]⟩] 144))
  have hlt := rdStep_lt 2 l e
  unfold txStep
  generalize rdStep 2 l e = R at hr hlt ⊢
  obtain ⟨k, l1, e1⟩ := R
  have hlt' : k < 65536 := hlt
  simp only at hr ⊢
  have Hr := Lib.hid hr
  clear hr hlt
  have hne : w.heap.size ≠ g := by omega
  have hc0 : (w.alloc (.cells #[.string ⟨#[]⟩] 144)).cell? ⟨w.heap.size, 0, none⟩ = some (.string ⟨#[]⟩) := cell_of_row _ _ 0 #[.string ⟨#[]⟩] _ (0, 0) (at_new w _)
  have hf0 : (w.alloc (.cells #[.string ⟨#[]⟩] 144)).frozen? ⟨w.heap.size, 0, none⟩ = false := by
    simp only [World.frozen?, at_new w (.cells #[.string ⟨#[]⟩] 144)]
    rfl
  have Hc0 := Lib.hid hc0
  have Hf0 := Lib.hid hf0
  clear hc0 hf0
  have fin : ∀ (w2 : World), (w.alloc (.cells #[.string ⟨#[]⟩] 144)).grownBy w2 (some g) → w.grownBy w2 (some g) ∧ w2.cell? ⟨w.heap.size, 0, none⟩ = some (.string ⟨#[]⟩) ∧ w2.frozen? ⟨w.heap.size, 0, none⟩ = false := by
    intro w2 hw
    have hb := hw.block w.heap.size (by simp) (by intro he; injection he with he; exact hne he)
    refine ⟨⟨hw.os, hw.tape, hw.output, Nat.le_trans (by simp) hw.size, fun i hi hn => (hw.block i (by simp; omega) hn).trans (Below.heap_alloc w _ i hi)⟩, ?_, ?_⟩
    · rw [World.cell?_of_block (w := w.alloc (.cells #[.string ⟨#[]⟩] 144)) hb]; exact Hc0.out
    · rw [World.frozen?_of_block (w := w.alloc (.cells #[.string ⟨#[]⟩] 144)) hb]; exact Hf0.out
  have Fin := Lib.hid fin
  clear fin
  by_cases he : e1 = 0
  · subst he
    by_cases hk : l1.length < k
    · rw [txNext_short hk]
      go_enter Try.func86, Try.ntmps86
      go_wp2_with fail
      refine Hr.out.mono ?_
      rintro en w2 ⟨rfl, ⟨A2, n2, c2, h2⟩, hgr⟩
      obtain ⟨hgw, hcq, hfq⟩ := Fin.out w2 hgr
      clear hgr
      go_wp2_with fail
      refine (next_short g n2 c2 k A2 l1 _ _ h2 (by rw [h2.sees.len]; exact hk)).mono ?_
      rintro en w3 ⟨rfl, hx⟩
      have hp := ReadPost.err h2 8 hgw
      have hbox : (w2.setCell ⟨g, 1, none⟩ (.int .i64 8)).cell? ⟨w.heap.size, 0, none⟩ = some (.string ⟨#[]⟩) := by
        rw [World.cell?_setCell_other _ _ _ _ (by intro e; injection e with e1; exact hne e1.symm)]
        exact hcq
      rw [← hx] at hp hbox
      clear hx hcq hfq
      go_wp2_with fail
      go_ret
      exact ⟨rfl, hp⟩
    · rw [txNext_yes hk]
      obtain ⟨L, hL⟩ : ∃ L, L = l1.drop k := ⟨_, rfl⟩
      obtain ⟨V, hV⟩ : ∃ V : ByteArray, V = ⟨(l1.take k).toArray⟩ := ⟨_, rfl⟩
      have HL := Lib.hid hL
      have HV := Lib.hid hV
      rw [← hL, ← hV]
      clear hL hV
      go_enter Try.func86, Try.ntmps86
      go_wp2_with fail
      refine Hr.out.mono ?_
      rintro en w2 ⟨rfl, ⟨A2, n2, c2, h2⟩, hgr⟩
      obtain ⟨hgw, hcq, hfq⟩ := Fin.out w2 hgr
      clear hgr
      go_wp2_with fail
      have hk' : k ≤ n2 := by rw [h2.sees.len]; omega
      refine (nextText g w.heap.size n2 c2 k A2 l1 L V _ w2 h2 hk' hcq hfq hne HL HV).mono ?_
      rintro en w3 ⟨rfl, A', c', hx, hs', hc'⟩
      have hp := ReadPost.next (V := .string V) h2 hs' hc' hgw hne (Nat.le_refl _) (by omega)
      have hbox : ((w2.setCell ⟨w.heap.size, 0, none⟩ (.string V)).setCell ⟨g, 0, none⟩ (.slice A' (n2 - k) c')).cell? ⟨w.heap.size, 0, none⟩ = some (.string V) := by
        rw [World.cell?_setCell_other _ _ _ _ (by intro e; injection e with e1; exact hne e1.symm)]
        exact World.cell?_setCell_same _ _ _ hcq
      rw [← hx] at hp hbox
      clear hx hs' hcq hfq
      go_wp2_with fail
      go_ret
      exact ⟨rfl, hp⟩
  · rw [txNext_err he]
    go_enter Try.func86, Try.ntmps86
    go_wp2_with fail
    refine Hr.out.mono ?_
    rintro en w2 ⟨rfl, ⟨A2, n2, c2, h2⟩, hgr⟩
    obtain ⟨hgw, hcq, hfq⟩ := Fin.out w2 hgr
    clear hgr
    go_wp2_with fail
    refine (next_err g n2 c2 k A2 l1 e1 _ _ h2 he).mono ?_
    rintro en w3 ⟨rfl, rfl⟩
    clear hfq
    go_wp2_with fail
    go_ret
    exact ⟨rfl, ReadPost.same h2 hgw⟩

theorem Rds.far {w w' : World} {g g2 : Nat} {l : List UInt8} {e : Int} (h : Rds w g l e) (hw : w.grownBy w' (some g2)) (hg : g < g2) : Rds w' g l e := by
  have hlt := h.lt
  obtain ⟨A, n, c, h⟩ := h
  have hb : Below (g + 1) w w' := (Below.refl _ _).grown hw (by omega) (fun k hk => by injection hk with hk; omega)
  exact ⟨A, n, c, (hb.block g (by omega)).trans h.row, h.sees.below (hb.mono (by omega)), h.cap⟩
theorem ReadPost.below {w w' : World} {g B : Nat} {l : List UInt8} {e : Int} (h : ReadPost w w' g l e) (hB : B ≤ g) (hw : B ≤ w.heap.size) : Below B w w' :=
  (Below.refl _ _).grown h.2 hw (fun k hk => by injection hk with hk; omega)
theorem ReadPost.rds {w w' : World} {g : Nat} {l : List UInt8} {e : Int} (h : ReadPost w w' g l e) : Rds w' g l e := h.1

theorem fail_first (g : Nat) (l : List UInt8) (x : Int) (w : World) (h : Rds w g l 0) : Calls Try.prog 111 #[.pointer (some ⟨g, 0, none⟩), .int .i64 x] w fun en w' =>
    en = .returned (.tuple #[]) ∧ ReadPost w w' g l x := by
  obtain ⟨A, n, c, h⟩ := h
  refine (fail_zero g n c A l x w h).mono ?_
  rintro en w' ⟨rfl, rfl⟩
  exact ⟨rfl, ReadPost.err h x (World.grownBy.refl w _)⟩
theorem fail_later (g : Nat) (l : List UInt8) (x e : Int) (w : World) (h : Rds w g l e) (he : e ≠ 0) : Calls Try.prog 111 #[.pointer (some ⟨g, 0, none⟩), .int .i64 x] w fun en w' =>
    en = .returned (.tuple #[]) ∧ w = w' := by
  obtain ⟨A, n, c, h⟩ := h
  exact fail_some g n c A l x e w h he
theorem wrap_zero : wrap64 ((0 : Nat) : Int) = 0 := by unfold wrap64; omega
/-- With an error nothing is read. -/
theorem byte_err (g : Nat) (l : List UInt8) (e : Int) (w : World) (h : Rds w g l e) (he : e ≠ 0) : Calls Try.prog 85 #[.pointer (some ⟨g, 0, none⟩)] w fun en w' => en = .returned (.int .i64 0) ∧ ReadPost w w' g l e := by
  have hr := byte_any g l e w h
  rw [rdStep_err he] at hr
  exact hr
theorem text_err (g : Nat) (l : List UInt8) (e : Int) (w : World) (h : Rds w g l e) (he : e ≠ 0) : Calls Try.prog 86 #[.pointer (some ⟨g, 0, none⟩)] w fun en w' => en = .returned (.string ⟨#[]⟩) ∧ ReadPost w w' g l e := by
  have hr := text_any g l e w h
  unfold txStep at hr
  rw [rdStep_err he, txNext_err he] at hr
  exact hr
theorem end_some (g : Nat) (l : List UInt8) (e : Int) (w : World) (h : Rds w g l e) (he : e ≠ 0) : Calls Try.prog 87 #[.pointer (some ⟨g, 0, none⟩)] w fun en w' => en = .returned (.int .i64 e) ∧ w = w' := by
  have hr := end_any g l e w h
  rw [if_neg (fun h => he h.1)] at hr
  exact hr
theorem end_nil (g : Nat) (w : World) (h : Rds w g [] 0) : Calls Try.prog 87 #[.pointer (some ⟨g, 0, none⟩)] w fun en w' => en = .returned (.int .i64 0) ∧ w = w' := end_any g [] 0 w h
theorem end_more (g : Nat) (l : List UInt8) (w : World) (h : Rds w g l 0) (hl : l ≠ []) : Calls Try.prog 87 #[.pointer (some ⟨g, 0, none⟩)] w fun en w' => en = .returned (.int .i64 9) ∧ w = w' := by
  have hr := end_any g l 0 w h
  rw [if_pos ⟨rfl, hl⟩] at hr
  exact hr
end Go.Proofs.Ytpaaafdnkehmfaa
