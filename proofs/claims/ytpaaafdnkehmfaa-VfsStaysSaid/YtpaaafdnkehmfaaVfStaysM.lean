/- VfsStays: the mathematics. No conditions. -/
import Derived.Test.YtpaaafdnkehmfaaVfRows
import Derived.Test.YtpaaafdnkehmfaaVfRoomM
namespace Go.Proofs.Ytpaaafdnkehmfaa.Vf
set_option maxRecDepth 100000

/-- One more that was done, behind a crash. -/
def kept (how : Int) (k : BS) (o : Option BS) (l : FL) : FL := if how = 1 then wth k o l else if how = 2 then wth k (o.map half) l else l
theorem rep_one (k : BS) (o : Option BS) : ∀ (s : Sn) (ks : List Int) (l : FL), rep (s ++ [(k, o)]) ks l = kept (ks.getD s.length 0) k o (rep s ks l)
  | [], [], l => by simp [rep, kept]
  | [], h :: ks, l => by simp [rep, kept]
  | x :: s, [], l => by simp [rep, kept]
  | x :: s, h :: ks, l => by
    simp only [List.cons_append, rep, List.length_cons, List.getD_cons_succ]
    exact rep_one k o s ks _
theorem fnd_kept (how : Int) (k j : BS) (o : Option BS) {l : FL} (h : Asc l) : fnd (kept how k o l) j = if j = k then (if how = 1 then o else if how = 2 then o.map half else fnd l k) else fnd l j := by
  unfold kept
  by_cases h1 : how = 1
  · simp only [h1, if_true]
    exact fnd_wth k j o h
  · by_cases h2 : how = 2
    · simp only [h2, if_true]
      exact fnd_wth k j (o.map half) h
    · simp only [h1, h2, if_false]
      by_cases e : j = k
      · rw [if_pos e, e]
      · rw [if_neg e]

/-- What is wanted of a name, one more being written: 1 whole, 2 by halves, else not. -/
def upW (wt : Nat → Option BS) (q : Nat) (how : Int) (b : BS) : Nat → Option BS := fun j => if j = q then (if how = 1 then some b else if how = 2 then some (half b) else wt q) else wt j
structure SB (V : Vm) (i : Nat) : Prop where
  dead : V.dead = false
  stop : V.stop = 0
  room : V.room = 10000
  used : used V.now ≤ i * 200
/-- Ahead of the flush. -/
structure SA (V : Vm) (i : Nat) (wt : Nat → Option BS) : Prop extends SB V i where
  want : ∀ j, j < 3 → wt j = fnd V.now (nmR j).data.toList
/-- Behind it: d were done since. -/
structure SC (V : Vm) (i d : Nat) (ks : List Int) (wt : Nat → Option BS) : Prop extends SB V i where
  since : V.since.length = d
  want : ∀ j, j < 3 → wt j = fnd (rep V.since ks V.fl) (nmR j).data.toList
theorem SA.new : SA (Vm.new 10000) 0 fun _ => none := ⟨⟨rfl, rfl, rfl, Nat.le_refl _⟩, fun _ _ => rfl⟩
theorem SA.flush {V : Vm} {i : Nat} {wt : Nat → Option BS} (h : SA V i wt) (ks : List Int) : V.flush.1 = 0 ∧ SC V.flush.2 i 0 ks wt := by
  have hd : V.tick.dead = false := by simp only [Vm.tick]; rw [if_neg (by rw [h.stop]; decide)]; exact h.dead
  have hs : V.tick.stop = 0 := by simp only [Vm.tick]; rw [if_neg (by rw [h.stop]; decide)]; exact h.stop
  have e : V.flush = (0, { V.tick with fl := V.now, since := [] }) := by
    unfold Vm.flush
    rw [if_neg (by rw [h.dead]; simp), if_neg (by rw [hd]; simp)]
  rw [e]
  exact ⟨rfl, ⟨hd, hs, h.room, h.used⟩, rfl, fun j hj => (h.want j hj).trans (by simp [rep])⟩
theorem SB.write {V : Vm} {i N : Nat} (h : SB V i) (hl : Lim V N) {q : Nat} (hi : i < 15) {b : BS} (hb : b.length ≤ 200) :
    V.write (nmR q).data.toList b = (0, V.does (nmR q).data.toList (some b)) ∧ SB (V.does (nmR q).data.toList (some b)) (i + 1) := by
  have h1 := used_wth (nmR q).data.toList (some b) hl.ascNow
  have h2 := h.used
  have h3 : Vf.used (wth (nmR q).data.toList (some b) V.now) ≤ (i + 1) * 200 := by
    simp only [olen] at h1
    omega
  obtain ⟨d1, d2, d3, d4⟩ := does_dead h.dead h.stop (nmR q).data.toList (some b)
  refine ⟨?_, d1, d2, by rw [d4, h.room], by rw [does_now]; exact h3⟩
  unfold Vm.write
  rw [if_neg (by rw [h.dead]; simp), if_neg (by simp [nmR]), if_neg (by rw [h.room]; omega), d3]
theorem nmR_if {q j : Nat} (hq : q < 3) (hj : j < 3) : ((nmR j).data.toList = (nmR q).data.toList) ↔ j = q :=
  ⟨fun e => by
    rcases Nat.decEq j q with h | h
    · exact absurd e (nmR_ne (by omega) (by omega) h)
    · exact h, fun e => by rw [e]⟩
theorem SA.write {V : Vm} {i N : Nat} {wt : Nat → Option BS} (h : SA V i wt) (hl : Lim V N) {q : Nat} (hq : q < 3) (hi : i < 15) {b : BS} (hb : b.length ≤ 200) :
    SA (V.does (nmR q).data.toList (some b)) (i + 1) (upW wt q 1 b) := by
  refine ⟨(h.toSB.write hl (q := q) hi hb).2, fun j hj => ?_⟩
  rw [does_now, fnd_wth _ _ _ hl.ascNow]
  unfold upW
  by_cases e : j = q
  · rw [if_pos e, if_pos rfl, if_pos ((nmR_if hq hj).2 e)]
  · rw [if_neg e, if_neg (fun g => e ((nmR_if hq hj).1 g)), h.want j hj]
theorem SC.write {V : Vm} {i d N : Nat} {ks : List Int} {wt : Nat → Option BS} (h : SC V i d ks wt) (hl : Lim V N) {q : Nat} (hq : q < 3) (hi : i < 15) {b : BS} (hb : b.length ≤ 200) :
    SC (V.does (nmR q).data.toList (some b)) (i + 1) (d + 1) ks (upW wt q (ks.getD d 0) b) := by
  refine ⟨(h.toSB.write hl (q := q) hi hb).2, ?_, fun j hj => ?_⟩
  · simp only [Vm.does, Vm.tick, List.length_append, h.since, List.length_cons, List.length_nil]
  · have e0 : rep (V.does (nmR q).data.toList (some b)).since ks (V.does (nmR q).data.toList (some b)).fl = kept (ks.getD d 0) (nmR q).data.toList (some b) (rep V.since ks V.fl) := by
      simp only [Vm.does, Vm.tick]
      rw [rep_one, h.since]
    rw [e0, fnd_kept _ _ _ _ (asc_rep _ _ hl.asc)]
    unfold upW
    by_cases e : j = q
    · rw [if_pos e, if_pos ((nmR_if hq hj).2 e)]
      rw [h.want q hq]
      rfl
    · rw [if_neg e, if_neg (fun g => e ((nmR_if hq hj).1 g)), h.want j hj]
theorem SC.crash {V : Vm} {i d : Nat} {ks : List Int} {wt : Nat → Option BS} (h : SC V i d ks wt) : (V.crash ks).dead = false ∧ ∀ j, j < 3 → (V.crash ks).read (nmR j).data.toList = ((wt j).getD [], (wt j).isSome, 0) := by
  refine ⟨rfl, fun j hj => ?_⟩
  have e : fnd (V.crash ks).now (nmR j).data.toList = wt j := (h.want j hj).symm
  unfold Vm.read
  rw [if_neg (by simp [Vm.crash]), e]
end Go.Proofs.Ytpaaafdnkehmfaa.Vf
