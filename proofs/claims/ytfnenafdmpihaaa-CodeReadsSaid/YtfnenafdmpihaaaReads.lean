/- CodeReads: any bytes, read by any row of questions, are answered as the document says. -/
import Derived.Test.YtfnenafdmpihaaaRefText
import Derived.Test.YtfnenafdmpihaaaLists
import Derived.Test.YtfnenafdmpihaaaKnown
namespace Go.Proofs.Ytfnenafdmpihaaa
open Go.RowKit

theorem Rfs.over {w w' : World} {g1 g2 n c : Nat} {A : Option Addr} {L l : List UInt8} {e : Int} (h : Rfs ⟨A, n, c, L⟩ w g2 l e) (hg : w.grownBy w' (some g1)) (hne : g1 < g2) (hs : Sees w' g2 A n L) : Rfs ⟨A, n, c, L⟩ w' g2 l e := by
  obtain ⟨A1, n1, c1, L1, p, h, rfl, hD⟩ := h
  injection hD with e1 e2 e3 e4
  subst e1; subst e2; subst e3; subst e4
  exact ⟨A, n, c, L, p, ⟨(hg.block g2 h.lt (by intro e; injection e with e; omega)).trans h.row, hs, h.cap, h.top, h.pos⟩, rfl, rfl⟩

/-- Both readers stand alike; all that lay in memory ahead is as it was. -/
structure Both (w0 w : World) (g1 g2 : Nat) (A : Option Addr) (n c : Nat) (L l : List UInt8) (e : Int) : Prop where
  r : Rds w g1 l e
  x : Rfs ⟨A, n, c, L⟩ w g2 l e
  b : Below w0.heap.size w0 w
theorem Both.code {w0 w w' : World} {g1 g2 n c : Nat} {A : Option Addr} {L l l' : List UInt8} {e e' : Int} (h : Both w0 w g1 g2 A n c L l e) (hs : Sees w0 w0.heap.size A n L) (h1 : w0.heap.size ≤ g1) (h2 : g1 < g2) (hp : ReadPost w w' g1 l' e') :
    Rds w' g1 l' e' ∧ Rfs ⟨A, n, c, L⟩ w' g2 l e ∧ Below w0.heap.size w0 w' := by
  have hb : Below w0.heap.size w0 w' := h.b.grown hp.2 h.b.size (fun k hk => by injection hk with hk; omega)
  exact ⟨hp.1, h.x.over hp.2 h2 ((hs.below hb).more (by omega)), hb⟩
theorem Both.ref {w0 w' w'' : World} {g1 g2 n c : Nat} {A : Option Addr} {L l' l'' : List UInt8} {e' e'' : Int} (h1 : w0.heap.size ≤ g1) (h2 : g1 < g2) (hr : Rds w' g1 l' e') (hb : Below w0.heap.size w0 w') (hp : RfPost ⟨A, n, c, L⟩ w' w'' g2 l'' e'') (hl : l' = l'') (he : e' = e'') :
    Both w0 w'' g1 g2 A n c L l' e' := by
  subst hl; subst he
  exact ⟨hr.far hp.2 h2, hp.1, hb.grown hp.2 hb.size (fun k hk => by injection hk with hk; omega)⟩

/-- What End answers. -/
def endV (l : List UInt8) (e : Int) : Int := if e = 0 ∧ l ≠ [] then 9 else e
theorem end_v (g : Nat) (l : List UInt8) (e : Int) (w : World) (h : Rds w g l e) : Calls Try.prog 29 #[.pointer (some ⟨g, 0, none⟩)] w fun en w' => en = .returned (.int .i64 (endV l e)) ∧ w = w' := by
  unfold endV
  exact end_any g l e w h
theorem rend_v {D : Dat} (g : Nat) (l : List UInt8) (e : Int) (w : World) (h : Rfs D w g l e) : Calls Try.prog 30 #[.pointer (some ⟨g, 0, none⟩)] w fun en w' => en = .returned (.int .i64 (endV l e)) ∧ RfPost D w w' g l e := by
  unfold endV
  exact rend_any g l e w h

theorem fail_any (g : Nat) (l : List UInt8) (x e : Int) (w : World) (h : Rds w g l e) : Calls Try.prog 27 #[.pointer (some ⟨g, 0, none⟩), .int .i64 x] w fun en w' => en = .returned (.tuple #[]) ∧ ReadPost w w' g l (if e = 0 then x else e) := by
  by_cases he : e = 0
  · subst he
    rw [if_pos rfl]
    exact fail_first g l x w h
  · rw [if_neg he]
    exact (fail_later g l x e w h he).mono fun en w' ⟨a, b⟩ => ⟨a, by subst b; exact ⟨h, World.grownBy.refl w _⟩⟩
theorem rfail_any {D : Dat} (g : Nat) (l : List UInt8) (x e : Int) (w : World) (h : Rfs D w g l e) : Calls Try.prog 28 #[.pointer (some ⟨g, 0, none⟩), .int .i64 x] w fun en w' => en = .returned (.tuple #[]) ∧ RfPost D w w' g l (if e = 0 then x else e) := by
  by_cases he : e = 0
  · subst he
    rw [if_pos rfl]
    exact rfail_zero g l x w h
  · rw [if_neg he]
    exact rfail_some g l x e w h he
/-- The error that stays. -/
def failV (e x : Int) : Int := if e = 0 then x else e
theorem fail_v (g : Nat) (l : List UInt8) (x e : Int) (w : World) (h : Rds w g l e) : Calls Try.prog 27 #[.pointer (some ⟨g, 0, none⟩), .int .i64 x] w fun en w' => en = .returned (.tuple #[]) ∧ ReadPost w w' g l (failV e x) := by
  unfold failV
  exact fail_any g l x e w h
theorem rfail_v {D : Dat} (g : Nat) (l : List UInt8) (x e : Int) (w : World) (h : Rfs D w g l e) : Calls Try.prog 28 #[.pointer (some ⟨g, 0, none⟩), .int .i64 x] w fun en w' => en = .returned (.tuple #[]) ∧ RfPost D w w' g l (failV e x) := by
  unfold failV
  exact rfail_any g l x e w h
theorem tdiv_wf {x : Int} (h1 : -9223372036854775808 ≤ x) (h2 : x ≤ 9223372036854775807) : (Lit.int .i64 (x.tdiv 7)).wf = true := by
  refine WalkArith.wf_i64 ?_
  rcases Int.le_total 0 x with h | h
  · rw [Int.tdiv_eq_ediv_of_nonneg h]; omega
  · have e : x.tdiv 7 = -((-x) / 7) := by
      rw [← Int.tdiv_eq_ediv_of_nonneg (by omega), Int.neg_tdiv, Int.neg_neg]
    rw [e]; omega

set_option maxHeartbeats 1000000 in
theorem reads_far (A B : Option Addr) (n c m d : Nat) (w : World) (h : 500 < n) (hn : n ≤ maxLen) :
    Calls Try.prog 4 #[.slice A n c, .slice B m d] w fun e w' => e = .returned (.bool true) ∧ Below w.heap.size w w' := by
  unfold maxLen at hn
  go_enter Try.func4, Try.ntmps4
  go_wp2_with fail
  refine (known_any w).mono ?_
  rintro e w1 ⟨rfl, hb1⟩
  go_wp2_with fail
  go_ret
  exact ⟨rfl, hb1⟩

set_option maxRecDepth 100000 in
set_option maxHeartbeats 8000000 in
theorem reads_near (A B : Option Addr) (n c m d : Nat) (L : List UInt8) (qs : List Int) (w : World) (hs : Sees w w.heap.size A n L) (hnc : n ≤ c) (hcm : c ≤ maxLen) (hn : n ≤ 500)
    (hqs : SeesV w w.heap.size B m (qs.map (Value.int .i64))) (hbd : ∀ x ∈ qs, -9223372036854775808 ≤ x ∧ x ≤ 9223372036854775807) (hm : m ≤ maxLen) :
    Calls Try.prog 4 #[.slice A n c, .slice B m d] w fun e w' => e = .returned (.bool true) ∧ Below w.heap.size w w' := by
  have hn' : ¬ 500 < n := by omega
  have Hm := Lib.hid (show m = qs.length by rw [hqs.len, List.length_map])
  have Hbd := Lib.hid (show ∀ k, k < m → -9223372036854775808 ≤ qs.getD k 0 ∧ qs.getD k 0 ≤ 9223372036854775807 by
    intro k hk
    have hl : k < qs.length := by rw [← Hm.out]; exact hk
    have e : qs.getD k 0 = qs[k] := by simp [List.getD, List.getElem?_eq_getElem hl]
    rw [e]
    exact hbd _ (List.getElem_mem hl))
  have Hcm := Lib.hid hcm
  unfold maxLen at hcm hm
  clear hbd
  go_enter Try.func4, Try.ntmps4
  go_wp2_with fail
  refine (known_any w).mono ?_
  rintro e w1 ⟨rfl, hb1⟩
  have ho1 := Own.made w1 w1.heap.size (Nat.le_refl _)
  have hx1 := From.sees (c := c) ((hs.below hb1).alloc hb1.size (.cells #[] 5))
  go_wp2_with (at_builtin; refine wpList_append_from rfl _ _ _ rfl rfl rfl ho1 hx1 (by omega) (by simp) ?_; intro A2 N2 c2 w2 ho2 hg2 hat2)
  have hb2 : Below w1.heap.size w1 w2 := ((Below.refl _ _).alloc (Nat.le_refl _) _).grown hg2 (by simp) (fun q hq => (ho1.lt q hq).1)
  have hN2 : N2 ≤ 500 := by rw [ho2.len, List.nil_append, ← hs.len]; exact hn
  refine (new_any N2 c2 A2 _ w2 ho2.sees (by omega)).mono ?_
  rintro e w3 ⟨g1, rfl, hg1, hr3, hb3⟩
  rw [List.nil_append] at hr3
  have hb03 : Below w.heap.size w w3 := hb1.trans ((hb2.trans (hb3.mono hb2.size)).mono hb1.size)
  have h1 : w.heap.size ≤ g1 := Nat.le_trans hb1.size (Nat.le_trans hb2.size hg1)
  go_wp2_with fail
  refine (rnew_any n c A L w3 ((hs.below hb03).more hb03.size) hnc Hcm.out).mono ?_
  rintro e w4 ⟨g2, rfl, hg2, hx4, hb4⟩
  have h2 : g1 < g2 := Nat.lt_of_lt_of_le hr3.lt hg2
  have hB : Both w w4 g1 g2 A n c L L 0 := ⟨hr3.keep hb4, hx4, hb03.trans (hb4.mono hb03.size)⟩
  clear hx4 hr3 hb4 hb03 hb3 hb2 hx1 ho1 ho2 hg2 hat2
  go_wp2_with fail
  go_loopw [7] (fun i wr => ∃ (k : Nat) (l : List UInt8) (e : Int), k ≤ m ∧ i = .int .i64 k ∧ Both w wr g1 g2 A n c L l e) (fun i _ => m - (intOf i).toNat)
  case atStart => exact ⟨0, L, 0, by omega, rfl, hB⟩
  case round =>
    clear hB
    obtain ⟨k, l, e, hk, rfl, hB⟩ := hrel
    by_cases hgo : k < m ∧ k < 30
    · obtain ⟨hlt, h30⟩ := hgo
      obtain ⟨b, o, rfl, hbw, hc⟩ := (hqs.below hB.b).int hlt
      obtain ⟨hx1, hx2⟩ := Hbd.out k hlt
      obtain ⟨x, hx⟩ : ∃ x, x = qs.getD k 0 := ⟨_, rfl⟩
      rw [← hx] at hc hx1 hx2
      clear hx
      have hki : (k : Int) < (m : Int) := by omega
      have hki2 : (k : Int) < 30 := by omega
      have Hwf := Lib.hid (show (Lit.int .i64 x).wf = true from WalkArith.wf_i64 (by omega))
      have Htd := Lib.hid (tdiv_wf hx1 hx2)
      go_wp2_with fail
      refine (within_any x 7 (by omega) (by omega) Hwf.out _).mono ?_
      rintro e' w' ⟨rfl, rfl⟩
      have hE : x % 7 = 0 ∨ x % 7 = 1 ∨ x % 7 = 2 ∨ x % 7 = 3 ∨ x % 7 = 4 ∨ x % 7 = 5 ∨ x % 7 = 6 := by omega
      generalize x % 7 = E at hE ⊢
      rcases hE with rfl | rfl | rfl | rfl | rfl | rfl | rfl
      · go_wp2_with fail
        refine (int_any g1 l e _ hB.r).mono ?_
        rintro e' w5 ⟨rfl, hp5⟩
        obtain ⟨hr5, hx5, hb5⟩ := hB.code hs h1 h2 hp5
        have hr6 := rint_any g2 l e _ hx5
        generalize rdStep 8 l e = R at hr5 hr6 ⊢
        obtain ⟨V, l1, e1⟩ := R
        have Hr6 := Lib.hid hr6
        simp only at hr5
        clear hr6 hp5 hx5
        go_wp2_with fail
        refine Hr6.out.mono ?_
        rintro e' w6 ⟨rfl, hp6⟩
        have hB2 := Both.ref h1 h2 hr5 hb5 hp6 rfl rfl
        clear hr5 hp6 Hr6
        go_wp2_with fail
        refine (end_v g1 _ _ _ hB2.r).mono ?_
        rintro e' w' ⟨rfl, rfl⟩
        go_wp2_with fail
        refine (rend_v g2 _ _ _ hB2.x).mono ?_
        rintro e' w7 ⟨rfl, hp7⟩
        have hB3 := Both.ref h1 h2 hB2.r hB2.b hp7 rfl rfl
        go_wp2_with fail
        go_roundw
        case rel => exact ⟨k + 1, _, _, by omega, by go_num, hB3⟩
        case measure => simp [intOf]; omega
      · go_wp2_with fail
        refine (int_any g1 l e _ hB.r).mono ?_
        rintro e' w5 ⟨rfl, hp5⟩
        obtain ⟨hr5, hx5, hb5⟩ := hB.code hs h1 h2 hp5
        have hr6 := rint_any g2 l e _ hx5
        generalize rdStep 8 l e = R at hr5 hr6 ⊢
        obtain ⟨V, l1, e1⟩ := R
        have Hr6 := Lib.hid hr6
        simp only at hr5
        clear hr6 hp5 hx5
        go_wp2_with fail
        refine Hr6.out.mono ?_
        rintro e' w6 ⟨rfl, hp6⟩
        have hB2 := Both.ref h1 h2 hr5 hb5 hp6 rfl rfl
        clear hr5 hp6 Hr6
        go_wp2_with fail
        refine (end_v g1 _ _ _ hB2.r).mono ?_
        rintro e' w' ⟨rfl, rfl⟩
        go_wp2_with fail
        refine (rend_v g2 _ _ _ hB2.x).mono ?_
        rintro e' w7 ⟨rfl, hp7⟩
        have hB3 := Both.ref h1 h2 hB2.r hB2.b hp7 rfl rfl
        go_wp2_with fail
        go_roundw
        case rel => exact ⟨k + 1, _, _, by omega, by go_num, hB3⟩
        case measure => simp [intOf]; omega
      · go_wp2_with fail
        refine (byte_any g1 l e _ hB.r).mono ?_
        rintro e' w5 ⟨rfl, hp5⟩
        obtain ⟨hr5, hx5, hb5⟩ := hB.code hs h1 h2 hp5
        have hr6 := rbyte_any g2 l e _ hx5
        generalize rdStep 1 l e = R at hr5 hr6 ⊢
        obtain ⟨V, l1, e1⟩ := R
        have Hr6 := Lib.hid hr6
        simp only at hr5
        clear hr6 hp5 hx5
        go_wp2_with fail
        refine Hr6.out.mono ?_
        rintro e' w6 ⟨rfl, hp6⟩
        have hB2 := Both.ref h1 h2 hr5 hb5 hp6 rfl rfl
        clear hr5 hp6 Hr6
        go_wp2_with fail
        refine (end_v g1 _ _ _ hB2.r).mono ?_
        rintro e' w' ⟨rfl, rfl⟩
        go_wp2_with fail
        refine (rend_v g2 _ _ _ hB2.x).mono ?_
        rintro e' w7 ⟨rfl, hp7⟩
        have hB3 := Both.ref h1 h2 hB2.r hB2.b hp7 rfl rfl
        go_wp2_with fail
        go_roundw
        case rel => exact ⟨k + 1, _, _, by omega, by go_num, hB3⟩
        case measure => simp [intOf]; omega
      · go_wp2_with fail
        refine (byte_any g1 l e _ hB.r).mono ?_
        rintro e' w5 ⟨rfl, hp5⟩
        obtain ⟨hr5, hx5, hb5⟩ := hB.code hs h1 h2 hp5
        have hr6 := rbyte_any g2 l e _ hx5
        generalize rdStep 1 l e = R at hr5 hr6 ⊢
        obtain ⟨V, l1, e1⟩ := R
        have Hr6 := Lib.hid hr6
        simp only at hr5
        clear hr6 hp5 hx5
        go_wp2_with fail
        refine Hr6.out.mono ?_
        rintro e' w6 ⟨rfl, hp6⟩
        have hB2 := Both.ref h1 h2 hr5 hb5 hp6 rfl rfl
        clear hr5 hp6 Hr6
        go_wp2_with fail
        refine (end_v g1 _ _ _ hB2.r).mono ?_
        rintro e' w' ⟨rfl, rfl⟩
        go_wp2_with fail
        refine (rend_v g2 _ _ _ hB2.x).mono ?_
        rintro e' w7 ⟨rfl, hp7⟩
        have hB3 := Both.ref h1 h2 hB2.r hB2.b hp7 rfl rfl
        go_wp2_with fail
        go_roundw
        case rel => exact ⟨k + 1, _, _, by omega, by go_num, hB3⟩
        case measure => simp [intOf]; omega
      · go_wp2_with fail
        refine (text_any g1 l e _ hB.r).mono ?_
        rintro e' w5 ⟨rfl, hp5⟩
        obtain ⟨hr5, hx5, hb5⟩ := hB.code hs h1 h2 hp5
        have hr6 := rtext_any g2 l e _ hx5
        generalize txStep l e = R at hr5 hr6 ⊢
        obtain ⟨V, l1, e1⟩ := R
        have Hr6 := Lib.hid hr6
        simp only at hr5
        clear hr6 hp5 hx5
        go_wp2_with fail
        refine Hr6.out.mono ?_
        rintro e' w6 ⟨rfl, hp6⟩
        have hB2 := Both.ref h1 h2 hr5 hb5 hp6 rfl rfl
        clear hr5 hp6 Hr6
        go_wp2_with fail
        refine (end_v g1 _ _ _ hB2.r).mono ?_
        rintro e' w' ⟨rfl, rfl⟩
        go_wp2_with fail
        refine (rend_v g2 _ _ _ hB2.x).mono ?_
        rintro e' w7 ⟨rfl, hp7⟩
        have hB3 := Both.ref h1 h2 hB2.r hB2.b hp7 rfl rfl
        go_wp2_with fail
        go_roundw
        case rel => exact ⟨k + 1, _, _, by omega, by go_num, hB3⟩
        case measure => simp [intOf]; omega
      · go_wp2_with fail
        refine (text_any g1 l e _ hB.r).mono ?_
        rintro e' w5 ⟨rfl, hp5⟩
        obtain ⟨hr5, hx5, hb5⟩ := hB.code hs h1 h2 hp5
        have hr6 := rtext_any g2 l e _ hx5
        generalize txStep l e = R at hr5 hr6 ⊢
        obtain ⟨V, l1, e1⟩ := R
        have Hr6 := Lib.hid hr6
        simp only at hr5
        clear hr6 hp5 hx5
        go_wp2_with fail
        refine Hr6.out.mono ?_
        rintro e' w6 ⟨rfl, hp6⟩
        have hB2 := Both.ref h1 h2 hr5 hb5 hp6 rfl rfl
        clear hr5 hp6 Hr6
        go_wp2_with fail
        refine (end_v g1 _ _ _ hB2.r).mono ?_
        rintro e' w' ⟨rfl, rfl⟩
        go_wp2_with fail
        refine (rend_v g2 _ _ _ hB2.x).mono ?_
        rintro e' w7 ⟨rfl, hp7⟩
        have hB3 := Both.ref h1 h2 hB2.r hB2.b hp7 rfl rfl
        go_wp2_with fail
        go_roundw
        case rel => exact ⟨k + 1, _, _, by omega, by go_num, hB3⟩
        case measure => simp [intOf]; omega
      · go_wp2_with fail
        refine (within_any (x.tdiv 7) 20 (by omega) (by omega) Htd.out _).mono ?_
        rintro e' w' ⟨rfl, rfl⟩
        go_wp2_with fail
        refine (fail_v g1 l _ e _ hB.r).mono ?_
        rintro e' w5 ⟨rfl, hp5⟩
        obtain ⟨hr5, hx5, hb5⟩ := hB.code hs h1 h2 hp5
        have hc5 := (World.grownBy.cell_far hp5.2 ⟨b, o + k, none⟩ (block_lt_of_cell hc) (by intro e; injection e with e; have e2 : b = g1 := e; omega)).trans hc
        go_wp2_with fail
        refine (within_any (x.tdiv 7) 20 (by omega) (by omega) Htd.out _).mono ?_
        rintro e' w' ⟨rfl, rfl⟩
        go_wp2_with fail
        refine (rfail_v g2 l _ e _ hx5).mono ?_
        rintro e' w6 ⟨rfl, hp6⟩
        have hB2 := Both.ref h1 h2 hr5 hb5 hp6 rfl rfl
        clear hc5
        go_wp2_with fail
        refine (end_v g1 _ _ _ hB2.r).mono ?_
        rintro e' w' ⟨rfl, rfl⟩
        go_wp2_with fail
        refine (rend_v g2 _ _ _ hB2.x).mono ?_
        rintro e' w7 ⟨rfl, hp7⟩
        have hB3 := Both.ref h1 h2 hB2.r hB2.b hp7 rfl rfl
        go_wp2_with fail
        go_roundw
        case rel => exact ⟨k + 1, _, _, by omega, by go_num, hB3⟩
        case measure => simp [intOf]; omega
    · have hdec : ¬ ((k : Int) < (m : Int) ∧ (k : Int) < 30) := by omega
      by_cases hlt : k < m
      · have h30 : ¬ k < 30 := fun h => hgo ⟨hlt, h⟩
        clear hdec hgo
        go_wp2_with fail
        refine (end_v g1 _ _ _ hB.r).mono ?_
        rintro e' w' ⟨rfl, rfl⟩
        go_wp2_with fail
        refine (rend_v g2 _ _ _ hB.x).mono ?_
        rintro e' w7 ⟨rfl, hp7⟩
        have hB3 := Both.ref h1 h2 hB.r hB.b hp7 rfl rfl
        go_wp2_with fail
        go_ret
        exact ⟨rfl, hB3.b⟩
      · clear hdec hgo
        go_wp2_with fail
        refine (end_v g1 _ _ _ hB.r).mono ?_
        rintro e' w' ⟨rfl, rfl⟩
        go_wp2_with fail
        refine (rend_v g2 _ _ _ hB.x).mono ?_
        rintro e' w7 ⟨rfl, hp7⟩
        have hB3 := Both.ref h1 h2 hB.r hB.b hp7 rfl rfl
        go_wp2_with fail
        go_ret
        exact ⟨rfl, hB3.b⟩
end Go.Proofs.Ytfnenafdmpihaaa
