/- The second reader's Text. -/
import Derived.Test.YtfnenafdmpihaaaRefFace
namespace Go.Proofs.Ytfnenafdmpihaaa
open Go.RowKit
variable {D : Dat}

set_option maxHeartbeats 400000 in
/-- The text behind its length. -/
theorem rtext_any (g : Nat) (l : List UInt8) (e : Int) (w : World) (h : Rfs D w g l e) : Calls Try.prog 26 #[.pointer (some ⟨g, 0, none⟩)] w fun en w' =>
    en = .returned (.string ⟨(txStep l e).1.toArray⟩) ∧ RfPost D w w' g (txStep l e).2.1 (txStep l e).2.2 := by
  unfold txStep
  by_cases he : e = 0
  · subst he
    by_cases hk : l.length < 2
    · rw [rdStep_short hk, txNext_err (e := 8) (by omega)]
      go_enter Try.func26, Try.ntmps26
      go_wp2_with fail
      refine (rtake_short g 2 l w h hk).mono ?_
      rintro en w' ⟨rfl, hp⟩
      go_wp2_with fail
      go_ret
      exact ⟨rfl, hp⟩
    · rw [rdStep_yes hk]
      obtain ⟨x, y, r, rfl⟩ : ∃ x y r, l = x :: y :: r := by
        match l, hk with
        | [], hk => exact absurd (by simp) hk
        | [x], hk => exact absurd (by simp) hk
        | x :: y :: r, _ => exact ⟨x, y, r, rfl⟩
      have e1 : valB ((x :: y :: r).take 2) = x.toNat + 256 * y.toNat := by simp [valB]
      rw [e1, show (x :: y :: r).drop 2 = r from rfl]
      have hx := x.toNat_lt
      have hy := y.toNat_lt
      have key : ∀ w, Rfs D w g r 0 → ∃ T m, T.length = m ∧ T = (txNext (x.toNat + 256 * y.toNat) r 0).1 ∧ Calls Try.prog 37 #[.pointer (some ⟨g, 0, none⟩), .int .i64 ((x.toNat + 256 * y.toNat : Nat) : Int)] w fun en w' => TakeGot en w' g m T ∧ RfPost D w w' g (txNext (x.toNat + 256 * y.toNat) r 0).2.1 (txNext (x.toNat + 256 * y.toNat) r 0).2.2 := by
        intro w hr
        by_cases hk2 : r.length < x.toNat + 256 * y.toNat
        · rw [txNext_short hk2]
          exact ⟨[], 0, rfl, rfl, (rtake_short g _ r w hr hk2).mono fun en w' ⟨a, b⟩ => ⟨⟨none, 0, a, Sees.none_ _ _ _⟩, b⟩⟩
        · rw [txNext_yes hk2]
          exact ⟨_, x.toNat + 256 * y.toNat, by rw [List.length_take]; omega, rfl, rtake_yes g _ r w hr hk2 (by omega)⟩
      rw [show ((x.toNat + 256 * y.toNat : Nat) : Int) = (x.toNat : Int) + 256 * (y.toNat : Int) by omega] at key
      generalize txNext (x.toNat + 256 * y.toNat) r 0 = R at key ⊢
      obtain ⟨S, hS⟩ : ∃ S : ByteArray, S = ⟨R.1.toArray⟩ := ⟨_, rfl⟩
      rw [← hS]
      have HS := Lib.hid hS
      have Hkey := Lib.hid key
      clear hS key
      go_enter Try.func26, Try.ntmps26
      go_wp2_with fail
      refine (rtake_yes g 2 _ w h hk (by omega)).mono ?_
      rintro en w1 ⟨⟨A2, c2, rfl, hs⟩, hp⟩
      have hs' := hs
      obtain ⟨b, o, hA, _, hc0⟩ := hs.at0 (j := 0) (by omega)
      obtain ⟨b', o', hA', _, hc1⟩ := hs'.at0 (j := 1) (by omega)
      rw [hA] at hA'
      injection hA' with hA'
      injection hA' with hb ho _
      subst hb
      subst ho
      subst hA
      rw [show ((x :: y :: r).take 2).getD 0 0 = x from rfl, Nat.add_zero] at hc0
      rw [show ((x :: y :: r).take 2).getD 1 0 = y from rfl] at hc1
      have hp' := hp.1
      rw [show (x :: y :: r).drop 2 = r from rfl] at hp'
      obtain ⟨A', n', c', L', p', hrf, hrl, hD⟩ := hp'
      obtain ⟨T, m, hTm, hT, hcall⟩ := Hkey.out w1.drew ⟨A', n', c', L', p', hrf.drewN 1, hrl, hD⟩
      have Hcall := Lib.hid hcall
      have hgw := hp.2
      rw [← hT] at HS
      clear hT hrl hrf hD hcall hTm hs hs' hp
      go_wp2_with fail
      have hw1 : IntKind.i64.wrap (x.toNat : Int) = (x.toNat : Int) := by rw [IntKind.wrap_i64]; omega
      have hw2 : IntKind.i64.wrap (y.toNat : Int) = (y.toNat : Int) := by rw [IntKind.wrap_i64]; omega
      have hw3 : IntKind.i64.wrap (256 * (y.toNat : Int)) = 256 * (y.toNat : Int) := by rw [IntKind.wrap_i64]; omega
      have hw4 : IntKind.i64.wrap ((x.toNat : Int) + 256 * (y.toNat : Int)) = (x.toNat : Int) + 256 * (y.toNat : Int) := by rw [IntKind.wrap_i64]; omega
      go_region_with (first
        | (go_at_call 37
           refine Hcall.out.mono ?_
           rintro en w3 ⟨⟨A3, c3, rfl, hs3⟩, hp3⟩
           have hcv := run_text 22 9 5 Try.underlying22 Try.underlying5 Try.underlying9 (c := c3) hs3
           rw [← HS.out] at hcv))
      all_goals
        go_wp2_with fail
        go_ret
        exact ⟨rfl, hp3.1, World.grownBy.trans hgw ⟨hp3.2.os, hp3.2.tape, hp3.2.output, hp3.2.size, hp3.2.block⟩⟩
  · rw [rdStep_err he, txNext_err he]
    go_enter Try.func26, Try.ntmps26
    go_wp2_with fail
    refine (rtake_err g 2 l e w h he).mono ?_
    rintro en w' ⟨rfl, hp⟩
    go_wp2_with fail
    go_ret
    exact ⟨rfl, hp⟩

set_option maxHeartbeats 1000000 in
theorem rfail_zero (g : Nat) (l : List UInt8) (x : Int) (w : World) (h : Rfs D w g l 0) : Calls Try.prog 28 #[.pointer (some ⟨g, 0, none⟩), .int .i64 x] w fun en w' => en = .returned (.tuple #[]) ∧ RfPost D w w' g l x := by
  obtain ⟨A, n, c, L, p, h, rfl, rfl⟩ := h
  have h2 := h.c2
  have f2 := h.free 2
  have Hp := Lib.hid (show RfPost ⟨A, n, c, L⟩ w (w.setCell ⟨g, 2, none⟩ (.int .i64 x)) g (L.drop p) x from ⟨⟨A, n, c, L, p, h.err x, rfl, rfl⟩, grown_set (World.grownBy.refl w _) (.inl rfl) _⟩)
  go_enter Try.func28, Try.ntmps28
  go_wp2
  go_end0
  exact ⟨rfl, Hp.out⟩
set_option maxHeartbeats 1000000 in
theorem rfail_some (g : Nat) (l : List UInt8) (x e : Int) (w : World) (h : Rfs D w g l e) (he : e ≠ 0) : Calls Try.prog 28 #[.pointer (some ⟨g, 0, none⟩), .int .i64 x] w fun en w' => en = .returned (.tuple #[]) ∧ RfPost D w w' g l e := by
  obtain ⟨A, n, c, L, p, h, rfl, rfl⟩ := h
  have h2 := h.c2
  have hb : (e == 0) = false := by simpa using he
  have Hp := Lib.hid (show RfPost ⟨A, n, c, L⟩ w w g (L.drop p) e from ⟨⟨A, n, c, L, p, h, rfl, rfl⟩, World.grownBy.refl w _⟩)
  go_enter Try.func28, Try.ntmps28
  go_wp2
  go_end0
  exact ⟨rfl, Hp.out⟩
set_option maxHeartbeats 1000000 in
theorem rend_any (g : Nat) (l : List UInt8) (e : Int) (w : World) (h : Rfs D w g l e) : Calls Try.prog 30 #[.pointer (some ⟨g, 0, none⟩)] w fun en w' => en = .returned (.int .i64 (if e = 0 ∧ l ≠ [] then 9 else e)) ∧ RfPost D w w' g l e := by
  obtain ⟨A, n, c, L, p, h, rfl, rfl⟩ := h
  have h0 := h.c0
  have h1 := h.c1
  have h2 := h.c2
  have hp := h.pos
  have hl := h.sees.len
  have Hp := Lib.hid (show ∀ k, RfPost ⟨A, n, c, L⟩ w (w.drewN k) g (L.drop p) e from fun k => ⟨⟨A, n, c, L, p, h.drewN k, rfl, rfl⟩, grown_drewN (World.grownBy.refl w _) k⟩)
  by_cases he : e = 0
  · subst he
    by_cases hpn : p < n
    · have Hl := Lib.hid (show (if (0 : Int) = 0 ∧ L.drop p ≠ [] then (9 : Int) else 0) = 9 from if_pos ⟨rfl, by intro e; have := congrArg List.length e; rw [List.length_drop] at this; simp at this; omega⟩)
      rw [Hl.out]
      have hlt : (p : Int) < (n : Int) := by omega
      clear hl h
      go_enter Try.func30, Try.ntmps30
      go_wp2_with fail
      go_quiet (fail)
      go_wp2_with fail
      go_ret
      exact ⟨rfl, Hp.out _⟩
    · have Hl := Lib.hid (show (if (0 : Int) = 0 ∧ L.drop p ≠ [] then (9 : Int) else 0) = 0 from if_neg (by intro e; exact e.2 (List.drop_of_length_le (by omega))))
      rw [Hl.out]
      have hge : decide ((p : Int) < (n : Int)) = false := by simpa using hpn
      clear hl h
      go_enter Try.func30, Try.ntmps30
      go_wp2_with fail
      go_quiet (fail)
      go_wp2_with fail
      go_ret
      exact ⟨rfl, Hp.out _⟩
  · have hb : (e == 0) = false := by simpa using he
    rw [if_neg (fun h => he h.1)]
    clear he hl h
    go_enter Try.func30, Try.ntmps30
    go_wp2_with fail
    go_quiet (fail)
    go_wp2_with fail
    go_ret
    exact ⟨rfl, Hp.out _⟩
set_option maxHeartbeats 1000000 in
theorem rnew_any (n c : Nat) (A : Option Addr) (l : List UInt8) (w : World) (hs : Sees w w.heap.size A n l) (hnc : n ≤ c) (hcm : c ≤ maxLen) : Calls Try.prog 19 #[.slice A n c] w fun en w' =>
    ∃ g, en = .returned (.pointer (some ⟨g, 0, none⟩)) ∧ w.heap.size ≤ g ∧ Rfs ⟨A, n, c, l⟩ w' g l 0 ∧ Below w.heap.size w w' := by
  go_enter Try.func19, Try.ntmps19
  go_wp2_with fail
  go_ret
  exact ⟨w.heap.size, rfl, Nat.le_refl _, ⟨A, n, c, l, 0, ⟨at_new w _, hs.alloc (Nat.le_refl _) _, hnc, hcm, Nat.zero_le _⟩, rfl, rfl⟩, (Below.refl _ _).alloc (Nat.le_refl _) _⟩
end Go.Proofs.Ytfnenafdmpihaaa
