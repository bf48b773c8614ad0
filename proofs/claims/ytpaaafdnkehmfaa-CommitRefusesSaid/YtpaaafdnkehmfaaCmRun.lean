/- commit: where the power does not go: what a commit, what recovering comes to. No conditions. -/
import Derived.Test.YtpaaafdnkehmfaaCmMath
namespace Go.Proofs.Ytpaaafdnkehmfaa.Vf
set_option maxRecDepth 100000

/-- Files with others put. -/
def wths (l f : FL) : FL := l.foldl (fun f x => wth x.1 (some x.2) f) f
theorem asc_wths : ∀ (l : FL) {f : FL}, Asc f → Asc (wths l f)
  | [], _, h => h
  | x :: l, _, h => asc_wths l (asc_wth x.1 (some x.2) h)
/-- The last one of a name. -/
def lw : FL → BS → Option BS → Option BS
  | [], _, o => o
  | x :: l, k, o => lw l k (if k = x.1 then some x.2 else o)
theorem fnd_wths (k : BS) : ∀ (l : FL) {f : FL}, Asc f → fnd (wths l f) k = lw l k (fnd f k)
  | [], _, _ => rfl
  | x :: l, f, h => by
    show fnd (wths l (wth x.1 (some x.2) f)) k = _
    rw [fnd_wths k l (asc_wth _ _ h), fnd_wth _ _ _ h]
    rfl
theorem lw_far {k : BS} : ∀ {l : FL} (o : Option BS), (∀ x ∈ l, x.1 ≠ k) → lw l k o = o
  | [], _, _ => rfl
  | x :: l, o, h => by
    rw [lw, if_neg (Ne.symm (h x (by simp)))]
    exact lw_far o fun y hy => h y (by simp [hy])
theorem lw_in {k : BS} : ∀ {l : FL} (o o' : Option BS), (∃ x ∈ l, x.1 = k) → lw l k o = lw l k o'
  | [], _, _, h => by obtain ⟨x, hx, _⟩ := h; cases hx
  | x :: l, o, o', h => by
    by_cases e : k = x.1
    · rw [lw, lw, if_pos e, if_pos e]
    · obtain ⟨y, hy, hk⟩ := h
      rw [lw, lw, if_neg e, if_neg e]
      refine lw_in o o' ⟨y, ?_, hk⟩
      rcases List.mem_cons.1 hy with e2 | hy
      · exact absurd (by rw [← hk, e2]) e
      · exact hy

/-- The power does not go. -/
structure Qs (V : Vm) (f : FL) (room : Int) (n : Nat) : Prop where
  dead : V.dead = false
  stop : V.stop = 0
  now : V.now = f
  room : V.room = room
  ops : V.ops = n
  asc : Asc V.fl
theorem Qs.ascf {V : Vm} {f : FL} {room : Int} {n : Nat} (h : Qs V f room n) : Asc f := h.now ▸ asc_ops _ h.asc
theorem tick_q {V : Vm} (hd : V.dead = false) (hs : V.stop = 0) : V.tick.dead = false ∧ V.tick.stop = 0 := by
  constructor
  · simp only [Vm.tick]; rw [if_neg (by rw [hs]; decide)]; exact hd
  · simp only [Vm.tick]; rw [if_neg (by rw [hs]; decide)]; exact hs
section
variable {V : Vm} {f : FL} {room : Int} {n : Nat}
theorem Qs.does (h : Qs V f room n) (k : BS) (o : Option BS) : (V.does k o).says = 0 ∧ Qs (V.does k o) (wth k o f) room (n + 1) := by
  have ht := tick_q (V := { V with since := V.since ++ [(k, o)] }) h.dead h.stop
  have hd : (V.does k o).dead = false := ht.1
  refine ⟨by unfold Vm.says; rw [if_neg (by rw [hd]; simp)], hd, ht.2, by rw [does_now, h.now], h.room, by show V.ops + 1 = _; rw [h.ops], h.asc⟩
theorem Qs.w (h : Qs V f room n) {k b : BS} (hk : 1 ≤ k.length ∧ k.length ≤ 20) (hu : (used (wth k (some b) f) : Int) ≤ room) : stq (0, V) (.w k b) = (0, V.does k (some b)) ∧ Qs (V.does k (some b)) (wth k (some b) f) room (n + 1) := by
  obtain ⟨h1, h2⟩ := h.does k (some b)
  refine ⟨?_, h2⟩
  show Vm.write V k b = _
  unfold Vm.write
  rw [if_neg (by rw [h.dead]; simp), if_neg (by omega), if_neg (by rw [h.now, h.room]; omega), h1]
theorem Qs.r (h : Qs V f room n) {k : BS} (hk : fnd f k ≠ none) : stq (0, V) (.r k) = (0, V.does k none) ∧ Qs (V.does k none) (wth k none f) room (n + 1) := by
  obtain ⟨h1, h2⟩ := h.does k none
  refine ⟨?_, h2⟩
  show Vm.remove V k = _
  unfold Vm.remove
  rw [if_neg (by rw [h.dead]; simp), if_neg (by rw [h.now]; exact hk), h1]
theorem Qs.flu (h : Qs V f room n) : ∃ V', stq (0, V) .f = (0, V') ∧ Qs V' f room (n + 1) ∧ V'.since = [] := by
  obtain ⟨h1, h2⟩ := tick_q h.dead h.stop
  refine ⟨{ V.tick with fl := V.now, since := [] }, ?_, ⟨h1, h2, h.now, h.room, by show V.ops + 1 = _; rw [h.ops], by rw [h.now]; exact h.ascf⟩, rfl⟩
  show Vm.flush V = _
  unfold Vm.flush
  rw [if_neg (by rw [h.dead]; simp), if_neg (by rw [h1]; simp)]

theorem gns_wth {k : BS} {o : Option BS} {f : FL} (hf : Asc f) : ∀ {l : FL}, (∀ x ∈ l, x.1 ≠ k) → gns (wth k o f) l = gns f l
  | [], _ => rfl
  | x :: l, h => by
    have e : gn (wth k o f) x = gn f x := by
      unfold gn
      rw [fnd_wth _ _ _ hf, if_neg (h x (by simp))]
    show gn (wth k o f) x :: gns (wth k o f) l = gn f x :: gns f l
    rw [e, gns_wth hf fun y hy => h y (by simp [hy])]
theorem used_put {k b : BS} {f : FL} (hf : Asc f) : (used (wth k (some b) f) : Int) = (used f : Int) + gn f (k, b) := by
  have := used_wth k (some b) hf
  unfold gn
  simp only [olen] at this ⊢
  omega
/-- Files written one behind the other. -/
theorem Qs.ws : ∀ {l : FL} {V : Vm} {f : FL} {n : Nat}, Qs V f room n → (∀ x ∈ l, 1 ≤ x.1.length ∧ x.1.length ≤ 20) → (l.Pairwise fun a b => a.1 ≠ b.1) → fitL room (used f) (gns f l) = true →
    ∃ V', runs (wrs l) (0, V) = (0, V') ∧ Qs V' (wths l f) room (n + l.length)
  | [], V, f, n, h, _, _, _ => ⟨V, rfl, h⟩
  | x :: l, V, f, n, h, h1, h2, h3 => by
    have h3' : (if room < (used f : Int) + gn f x then false else fitL room ((used f : Int) + gn f x) (gns f l)) = true := h3
    by_cases hr : room < (used f : Int) + gn f x
    · rw [if_pos hr] at h3'; cases h3'
    · rw [if_neg hr] at h3'
      have hu := used_put (k := x.1) (b := x.2) h.ascf
      have hx : gn f (x.1, x.2) = gn f x := rfl
      obtain ⟨e1, q1⟩ := h.w (b := x.2) (h1 x (by simp)) (by omega)
      rw [List.pairwise_cons] at h2
      obtain ⟨V', e2, q2⟩ := q1.ws (fun y hy => h1 y (by simp [hy])) h2.2 (by
        rw [gns_wth h.ascf fun y hy => Ne.symm (h2.1 y hy), hu, hx]; exact h3')
      refine ⟨V', ?_, by rw [List.length_cons, show n + (l.length + 1) = n + 1 + l.length by omega]; exact q2⟩
      rw [wrs, List.map_cons, runs_cons, e1]
      exact e2
theorem fit_of_sum : ∀ {l : List Int} {u : Int}, u + sumP l ≤ room → fitL room u l = true
  | [], _, _ => rfl
  | n :: r, u, h => by
    have hp : ∀ l : List Int, 0 ≤ sumP l := fun l => by
      induction l with
      | nil => exact Int.le_refl _
      | cons a l ih => simp only [sumP]; omega
    have := hp r
    simp only [sumP] at h
    rw [fitL, if_neg (by omega)]
    exact fit_of_sum (by omega)
theorem wths_far {l f : FL} {k : BS} (hf : Asc f) (h : ∀ x ∈ l, x.1 ≠ k) : fnd (wths l f) k = fnd f k := by
  rw [fnd_wths k l hf, lw_far _ h]
/-- From the mark on. -/
theorem Qs.mid (h : Qs V f room n) {l : FL} (h1 : ∀ x ∈ l, 1 ≤ x.1.length ∧ x.1.length ≤ 20 ∧ x.1 ≠ jN ∧ x.1 ≠ mN) (h2 : l.Pairwise fun a b => a.1 ≠ b.1) (h3 : fitL room (used f) (gns f l) = true) (hm : fnd f mN ≠ none) (hj : fnd f jN ≠ none) :
    ∃ V', runs (mids l ++ ends) (0, V) = (0, V') ∧ Qs V' (wth jN none (wth mN none (wths l f))) room (n + l.length + 5) ∧ V'.since = [] := by
  obtain ⟨V1, e1, q1⟩ := h.ws (fun x hx => ⟨(h1 x hx).1, (h1 x hx).2.1⟩) h2 h3
  obtain ⟨V2, e2, q2, _⟩ := q1.flu
  obtain ⟨e3, q3⟩ := q2.r (k := mN) (by rw [wths_far h.ascf fun x hx => (h1 x hx).2.2.2]; exact hm)
  obtain ⟨V4, e4, q4, _⟩ := q3.flu
  obtain ⟨e5, q5⟩ := q4.r (k := jN) (by rw [fnd_wth _ _ _ q2.ascf, if_neg (by decide), wths_far h.ascf fun x hx => (h1 x hx).2.2.1]; exact hj)
  obtain ⟨V6, e6, q6, s6⟩ := q5.flu
  refine ⟨V6, ?_, q6, s6⟩
  rw [mids, List.append_assoc, runs_app, e1]
  show runs [.f, .r mN, .f, .r jN, .f] (0, V1) = _
  rw [runs_cons, e2, runs_cons, e3, runs_cons, e4, runs_cons, e5, runs_cons, e6]
  rfl
theorem after_all {l f : FL} (hf : Asc f) (h1 : ∀ x ∈ l, x.1 ≠ jN ∧ x.1 ≠ mN) (hj : fnd f jN = none) (hm : fnd f mN = none) (j m : BS) :
    wth jN none (wth mN none (wths l (wth mN (some m) (wth jN (some j) f)))) = wths l f := by
  have a1 := asc_wth jN (some j) hf
  have a2 := asc_wth mN (some m) a1
  have a3 := asc_wths l a2
  have a4 := asc_wth mN none a3
  refine asc_ext (asc_wth jN none a4) (asc_wths l hf) fun k => ?_
  rw [fnd_wth _ _ _ a4, fnd_wth _ _ _ a3, fnd_wths k l a2, fnd_wths k l hf, fnd_wth _ _ _ a1, fnd_wth _ _ _ hf]
  by_cases e1 : k = jN
  · subst e1
    rw [if_pos rfl, hj, lw_far _ fun x hx => (h1 x hx).1]
  · rw [if_neg e1]
    by_cases e2 : k = mN
    · subst e2
      rw [if_pos rfl, hm, lw_far _ fun x hx => (h1 x hx).2]
    · rw [if_neg e2, if_neg e2, if_neg e1]
/-- A commit. -/
theorem Qs.cmt (h : Qs V f room n) {l : FL} (hc : chk l = 0) (hj : fnd f jN = none) (hm : fnd f mN = none) (hr : (used f : Int) + ((wr l).length : Int) + sumP (gns f l) ≤ room) :
    ∃ V', cmt V l = (0, V') ∧ Qs V' (wths l f) room (n + l.length + 9) ∧ V'.since = [] := by
  have hk := chk_ok hc
  have hp : ∀ l : List Int, 0 ≤ sumP l := fun l => by
    induction l with
    | nil => exact Int.le_refl _
    | cons a l ih => simp only [sumP]; omega
  have hp0 := hp (gns f l)
  have u1 : (used (wth jN (some (wr l)) f) : Int) = (used f : Int) + ((wr l).length : Int) := by
    have := used_wth jN (some (wr l)) h.ascf
    rw [hj] at this
    simp only [olen] at this
    omega
  have u2 : (used (wth mN (some []) (wth jN (some (wr l)) f)) : Int) = (used f : Int) + ((wr l).length : Int) := by
    have := used_wth mN (some []) (asc_wth jN (some (wr l)) h.ascf)
    rw [fnd_wth _ _ _ h.ascf, if_neg (by decide), hm] at this
    simp only [olen, List.length_nil] at this
    omega
  obtain ⟨e1, q1⟩ := h.w (k := jN) (b := wr l) (by decide) (by omega)
  obtain ⟨V2, e2, q2, _⟩ := q1.flu
  obtain ⟨e3, q3⟩ := q2.w (k := mN) (b := []) (by decide) (by omega)
  obtain ⟨V4, e4, q4, _⟩ := q3.flu
  obtain ⟨V5, e5, q5, s5⟩ := q4.mid hk.name hk.two (by
    rw [u2, gns_wth (asc_wth _ _ h.ascf) fun x hx => (hk.name x hx).2.2.2, gns_wth h.ascf fun x hx => (hk.name x hx).2.2.1]
    exact fit_of_sum (by omega)) (by rw [fnd_wth _ _ _ q1.ascf, if_pos rfl]; simp) (by rw [fnd_wth _ _ _ q1.ascf, if_neg (by decide), fnd_wth _ _ _ h.ascf, if_pos rfl]; simp)
  refine ⟨V5, ?_, ?_, s5⟩
  · unfold Vf.cmt
    rw [if_neg (by rw [hc]; simp), if_neg (by rw [h.dead]; simp), if_neg (by rw [h.room, h.now]; omega), runs_app]
    show runs (mids l ++ ends) (runs [.w jN (wr l), .f, .w mN [], .f] (0, V)) = _
    rw [runs_cons, e1, runs_cons, e2, runs_cons, e3, runs_cons, e4]
    exact e5
  · rw [after_all h.ascf (fun x hx => (hk.name x hx).2.2) hj hm] at q5
    rw [show n + l.length + 9 = n + 1 + 1 + 1 + 1 + l.length + 5 by omega]
    exact q5
/-- Recovering where there is a journal alone, or nothing. -/
theorem Qs.rcvN (h : Qs V f room n) (hm : fnd f mN = none) : ∃ V' m, rcv V = (0, V') ∧ Qs V' (wth jN none f) room m ∧ (fnd f jN = none → V' = V) ∧ (fnd f jN ≠ none → V'.since = []) := by
  unfold rcv
  rw [if_neg (by rw [h.dead]; simp), h.now, hm, if_neg (by simp)]
  by_cases hj : fnd f jN = none
  · refine ⟨V, n, by rw [hj, if_neg (by simp)], ?_, fun _ => rfl, fun e => absurd hj e⟩
    have : wth jN none f = f := asc_ext (asc_wth _ _ h.ascf) h.ascf fun k => by
      rw [fnd_wth _ _ _ h.ascf]
      by_cases e : k = jN
      · rw [if_pos e, e, hj]
      · rw [if_neg e]
    rw [this]
    exact h
  · obtain ⟨e5, q5⟩ := h.r hj
    obtain ⟨V6, e6, q6, s6⟩ := q5.flu
    refine ⟨V6, _, ?_, q6, fun e => absurd e hj, fun _ => s6⟩
    rw [if_pos (by cases hh : fnd f jN with | none => exact absurd hh hj | some _ => rfl)]
    show runs [.r jN, .f] (0, V) = _
    rw [runs_cons, e5, runs_cons, e6]
    rfl
/-- .. where there is a mark. -/
theorem Qs.rcvM (h : Qs V f room n) (hm : fnd f mN ≠ none) (hk : rdOk ((fnd f jN).getD []) = true) (hfit : fitL room (used f) (gns f (rdA ((fnd f jN).getD [])).1) = true) :
    ∃ V' m, rcv V = (0, V') ∧ Qs V' (wth jN none (wth mN none (wths (rdA ((fnd f jN).getD [])).1 f))) room m ∧ V'.since = [] := by
  have hj : fnd f jN ≠ none := by
    intro e
    rw [e] at hk
    exact absurd hk (by decide)
  have hok : Okl (rdA ((fnd f jN).getD [])).1 := by
    unfold rdOk at hk
    exact chk_ok (of_decide_eq_true hk).2.2
  obtain ⟨V5, e5, q5, s5⟩ := h.mid hok.name hok.two hfit hm hj
  refine ⟨V5, _, ?_, q5, s5⟩
  unfold rcv agn
  rw [if_neg (by rw [h.dead]; simp), h.now, if_pos (by cases hh : fnd f mN with | none => exact absurd hh hm | some _ => rfl), if_pos hk, h.room, if_pos hfit]
  exact e5
end
end Go.Proofs.Ytpaaafdnkehmfaa.Vf
