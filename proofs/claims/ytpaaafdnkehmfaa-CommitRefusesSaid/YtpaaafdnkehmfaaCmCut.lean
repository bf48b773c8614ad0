/- commit: wherever the power goes within it, or within recovering: the mathematics. No conditions. -/
import Derived.Test.YtpaaafdnkehmfaaCmRun
namespace Go.Proofs.Ytpaaafdnkehmfaa.Vf
set_option maxRecDepth 100000

def nm4 : List BS := [[97], [98], [111], [120]]
def six : List BS := [[97], [98], [111], [120], jN, mN]
def cap (k : BS) : Nat := if k ∈ nm4 then 60 else if k = jN then 600 else 0
theorem used_keys : ∀ (K : List BS) (f : FL), Asc f → (∀ k, fnd f k ≠ none → k ∈ K) → used f ≤ (K.map fun k => olen (fnd f k)).sum
  | [], f, _, h => by
    cases f with
    | nil => exact Nat.le_refl _
    | cons x r =>
      obtain ⟨x, b⟩ := x
      have := h x (by simp [fnd])
      cases this
  | k :: K, f, ha, h => by
    have hu := used_wth k none ha
    have ih := used_keys K (wth k none f) (asc_wth _ _ ha) fun j hj => by
      rw [fnd_wth _ _ _ ha] at hj
      by_cases e : j = k
      · rw [if_pos e] at hj; exact absurd rfl hj
      · rw [if_neg e] at hj
        rcases List.mem_cons.1 (h j hj) with e2 | g
        · exact absurd e2 e
        · exact g
    have hs : (K.map fun j => olen (fnd (wth k none f) j)).sum ≤ (K.map fun j => olen (fnd f j)).sum := by
      clear ih h
      induction K with
      | nil => exact Nat.le_refl _
      | cons a K ih =>
        simp only [List.map_cons, List.sum_cons]
        have : olen (fnd (wth k none f) a) ≤ olen (fnd f a) := by
          rw [fnd_wth _ _ _ ha]
          by_cases e : a = k
          · rw [if_pos e]; exact Nat.zero_le _
          · rw [if_neg e]; exact Nat.le_refl _
        omega
    simp only [List.map_cons, List.sum_cons]
    rw [show olen none = 0 from rfl] at hu
    omega
/-- Small files alone. -/
structure Sm (f : FL) : Prop where
  asc : Asc f
  key : ∀ k b, fnd f k = some b → k ∈ six ∧ b.length ≤ cap k
theorem Sm.used {f : FL} (h : Sm f) : used f ≤ 840 := by
  have h1 := used_keys six f h.asc fun k hk => by
    cases e : fnd f k with
    | none => exact absurd e hk
    | some b => exact (h.key k b e).1
  have h2 : ∀ k, olen (fnd f k) ≤ cap k := fun k => by
    cases e : fnd f k with
    | none => exact Nat.zero_le _
    | some b => exact (h.key k b e).2
  have c1 := h2 [97]
  have c2 := h2 [98]
  have c3 := h2 [111]
  have c4 := h2 [120]
  have c5 := h2 jN
  have c6 := h2 mN
  rw [show cap [97] = 60 from by decide] at c1
  rw [show cap [98] = 60 from by decide] at c2
  rw [show cap [111] = 60 from by decide] at c3
  rw [show cap [120] = 60 from by decide] at c4
  rw [show cap jN = 600 from by decide] at c5
  rw [show cap mN = 0 from by decide] at c6
  simp only [six, List.map_cons, List.map_nil, List.sum_cons, List.sum_nil] at h1
  omega
theorem Sm.put {f : FL} (h : Sm f) {k : BS} {o : Option BS} (hk : k ∈ six) (ho : olen o ≤ cap k) : Sm (wth k o f) :=
  ⟨asc_wth _ _ h.asc, fun j b hj => by
    rw [fnd_wth _ _ _ h.asc] at hj
    by_cases e : j = k
    · rw [if_pos e] at hj
      subst e
      subst hj
      exact ⟨hk, ho⟩
    · rw [if_neg e] at hj
      exact h.key j b hj⟩
theorem olen_half (o : Option BS) : olen (o.map half) ≤ olen o := by
  cases o with
  | none => exact Nat.le_refl _
  | some b => have := half_length b; simp only [Option.map_some, olen]; omega
/-- An invariant that each of what was done keeps, whole or half, a crash keeps. -/
theorem rep_inv {I : FL → Prop} : ∀ (s : Sn) (ks : List Int) {f : FL}, I f → (∀ x ∈ s, ∀ g, I g → I (wth x.1 x.2 g) ∧ I (wth x.1 (x.2.map half) g)) → I (rep s ks f)
  | [], ks, f, h, _ => by simpa [rep] using h
  | x :: s, [], f, h, _ => by simpa [rep] using h
  | x :: s, c :: ks, f, h, hs => by
    rw [rep]
    have h1 := hs x (by simp) f h
    refine rep_inv s ks ?_ fun y hy => hs y (by simp [hy])
    by_cases c1 : c = 1
    · rw [if_pos c1]; exact h1.1
    · rw [if_neg c1]
      by_cases c2 : c = 2
      · rw [if_pos c2]; exact h1.2
      · rw [if_neg c2]; exact h
theorem rep_single {I : FL → Prop} {k : BS} {o : Option BS} {f : FL} (ks : List Int) (h0 : I f) (h1 : I (wth k o f)) (h2 : I (wth k (o.map half) f)) : I (rep [(k, o)] ks f) := by
  cases ks with
  | nil => simpa [rep] using h0
  | cons c ks =>
    simp only [rep]
    by_cases c1 : c = 1
    · rw [if_pos c1]; exact h1
    · rw [if_neg c1]
      by_cases c2 : c = 2
      · rw [if_pos c2]; exact h2
      · rw [if_neg c2]; exact h0

/-- The files that are written, what was there. -/
structure Cx (o : BS → Option BS) (l : FL) : Prop where
  ok : chk l = 0
  l4 : ∀ x ∈ l, x.1 ∈ nm4 ∧ x.2.length ≤ 60
  jl : (wr l).length ≤ 600
def tg (o : BS → Option BS) (l : FL) : BS → Option BS := fun k => lw l k (o k)
/-- No mark is there: all others are u. -/
structure NM (u : BS → Option BS) (f : FL) : Prop where
  sm : Sm f
  m : fnd f mN = none
  at_ : ∀ k, k ≠ jN → k ≠ mN → fnd f k = u k
/-- The mark is there. -/
structure MK (o : BS → Option BS) (l f : FL) : Prop where
  sm : Sm f
  m : fnd f mN = some []
  j : fnd f jN = some (wr l)
  at_ : ∀ k, k ≠ jN → k ≠ mN → (∀ x ∈ l, x.1 ≠ k) → fnd f k = o k
theorem NM.jput {u : BS → Option BS} {f : FL} (h : NM u f) {o : Option BS} (ho : olen o ≤ 600) : NM u (wth jN o f) :=
  ⟨h.sm.put (by decide) (by rw [show cap jN = 600 from by decide]; exact ho), by rw [fnd_wth _ _ _ h.sm.asc, if_neg (by decide), h.m], fun k h1 h2 => by rw [fnd_wth _ _ _ h.sm.asc, if_neg h1, h.at_ k h1 h2]⟩
theorem nm4_six {k : BS} (h : k ∈ nm4) : k ∈ six ∧ cap k = 60 ∧ k ≠ jN ∧ k ≠ mN := by
  refine ⟨?_, by unfold cap; rw [if_pos h], ?_, ?_⟩
  · simp only [nm4, six, List.mem_cons, List.not_mem_nil, or_false] at h ⊢
    rcases h with h | h | h | h <;> simp [h]
  · rintro rfl; revert h; decide
  · rintro rfl; revert h; decide
theorem MK.put {o : BS → Option BS} {l f : FL} (h : MK o l f) {k b : BS} (hk : k ∈ nm4) (hb : b.length ≤ 60) (hx : ∃ x ∈ l, x.1 = k) : MK o l (wth k (some b) f) := by
  obtain ⟨h1, h2, h3, h4⟩ := nm4_six hk
  refine ⟨h.sm.put h1 (by rw [h2]; exact hb), by rw [fnd_wth _ _ _ h.sm.asc, if_neg (Ne.symm h4), h.m], by rw [fnd_wth _ _ _ h.sm.asc, if_neg (Ne.symm h3), h.j], fun j j1 j2 j3 => ?_⟩
  rw [fnd_wth _ _ _ h.sm.asc, if_neg, h.at_ j j1 j2 j3]
  intro e
  obtain ⟨x, hx, hxk⟩ := hx
  exact j3 x hx (hxk.trans e.symm)
def snl (l : FL) : Sn := l.map fun x => (x.1, some x.2)
theorem ops_snl : ∀ (l f : FL), ops (snl l) f = wths l f
  | [], _ => rfl
  | x :: l, f => ops_snl l (wth x.1 (some x.2) f)
theorem MK.reps {o : BS → Option BS} {l f : FL} (hc : Cx o l) (h : MK o l f) {m : FL} (hm : ∀ x ∈ m, x ∈ l) (ks : List Int) : MK o l (rep (snl m) ks f) := by
  refine rep_inv _ _ h fun x hx g hg => ?_
  obtain ⟨y, hy, rfl⟩ := List.mem_map.1 hx
  have h4 := hc.l4 y (hm y hy)
  exact ⟨hg.put h4.1 h4.2 ⟨y, hm y hy, rfl⟩, hg.put (b := half y.2) h4.1 (by have := half_length y.2; omega) ⟨y, hm y hy, rfl⟩⟩
theorem MK.wths {o : BS → Option BS} {l : FL} (hc : Cx o l) : ∀ {m f : FL}, MK o l f → (∀ x ∈ m, x ∈ l) → MK o l (wths m f)
  | [], f, h, _ => h
  | x :: m, f, h, hm => by
    have h4 := hc.l4 x (hm x (by simp))
    exact MK.wths hc (m := m) (h.put h4.1 h4.2 ⟨x, hm x (by simp), rfl⟩) fun y hy => hm y (by simp [hy])

/-- What may be behind a crash. -/
def Iv (o : BS → Option BS) (l : FL) (f : FL) : Prop := NM o f ∨ MK o l f ∨ NM (tg o l) f
/-- Steps, the power going or not; z: it can't. -/
def Out (I : FL → Prop) (z : Prop) (P : Vm → Prop) (s : Int × Vm) : Prop :=
  (s.1 = 0 ∧ s.2.dead = false ∧ (z → s.2.stop = 0) ∧ s.2.room = 5000 ∧ P s.2) ∨ (s.1 = 15 ∧ ¬ z ∧ s.2.room = 5000 ∧ ∀ ks, I (rep s.2.since ks s.2.fl))
section
variable {I : FL → Prop} {z : Prop} {P Q : Vm → Prop} {s : Int × Vm}
theorem Out.does {V : Vm} {k : BS} {o : Option BS} (hd : V.dead = false) (hz : z → V.stop = 0) (hr : V.room = 5000) (hc : ∀ ks, I (rep (V.since ++ [(k, o)]) ks V.fl)) (hQ : ∀ V' : Vm, V'.fl = V.fl → V'.since = V.since ++ [(k, o)] → Q V') :
    Out I z Q ((V.does k o).says, V.does k o) := by
  by_cases hdd : (V.does k o).dead = true
  · refine .inr ⟨by simp only [Vm.says]; rw [if_pos hdd], fun hz' => ?_, hr, hc⟩
    have h0 := hz hz'
    have := (tick_q (V := { V with since := V.since ++ [(k, o)] }) hd h0).1
    have h2 : (V.does k o).dead = false := this
    rw [h2] at hdd; cases hdd
  · have hdd : (V.does k o).dead = false := by simpa using hdd
    refine .inl ⟨by simp only [Vm.says]; rw [if_neg (by rw [hdd]; simp)], hdd, fun hz' => (tick_q (V := { V with since := V.since ++ [(k, o)] }) hd (hz hz')).2, hr, hQ _ rfl rfl⟩
theorem Out.w (h : Out I z P s) {k b : BS} (hk : 1 ≤ k.length ∧ k.length ≤ 20) (hu : ∀ V : Vm, P V → used (wth k (some b) V.now) ≤ 5000)
    (hc : ∀ V : Vm, P V → ∀ ks, I (rep (V.since ++ [(k, some b)]) ks V.fl)) (hQ : ∀ V V' : Vm, P V → V'.fl = V.fl → V'.since = V.since ++ [(k, some b)] → Q V') : Out I z Q (stq s (.w k b)) := by
  rcases h with ⟨h0, hd, hz, hr, hP⟩ | ⟨h15, hz, hr, hI⟩
  · obtain ⟨e, V⟩ := s
    simp only at h0 hd hz hr hP
    subst h0
    have e1 : stq (0, V) (.w k b) = ((V.does k (some b)).says, V.does k (some b)) := by
      show Vm.write V k b = _
      unfold Vm.write
      rw [if_neg (by rw [hd]; simp), if_neg (by omega), if_neg (by rw [hr]; have := hu V hP; omega)]
    rw [e1]
    exact Out.does hd hz hr (hc V hP) fun V' => hQ V V' hP
  · rw [stq_err (by rw [h15]; decide)]
    exact .inr ⟨h15, hz, hr, hI⟩
theorem Out.r (h : Out I z P s) {k : BS} (hk : ∀ V : Vm, P V → fnd V.now k ≠ none)
    (hc : ∀ V : Vm, P V → ∀ ks, I (rep (V.since ++ [(k, none)]) ks V.fl)) (hQ : ∀ V V' : Vm, P V → V'.fl = V.fl → V'.since = V.since ++ [(k, none)] → Q V') : Out I z Q (stq s (.r k)) := by
  rcases h with ⟨h0, hd, hz, hr, hP⟩ | ⟨h15, hz, hr, hI⟩
  · obtain ⟨e, V⟩ := s
    simp only at h0 hd hz hr hP
    subst h0
    have e1 : stq (0, V) (.r k) = ((V.does k none).says, V.does k none) := by
      show Vm.remove V k = _
      unfold Vm.remove
      rw [if_neg (by rw [hd]; simp), if_neg (hk V hP)]
    rw [e1]
    exact Out.does hd hz hr (hc V hP) fun V' => hQ V V' hP
  · rw [stq_err (by rw [h15]; decide)]
    exact .inr ⟨h15, hz, hr, hI⟩
theorem Out.f (h : Out I z P s) (hc : ∀ V : Vm, P V → ∀ ks, I (rep V.since ks V.fl)) (hQ : ∀ V V' : Vm, P V → V'.fl = V.now → V'.since = [] → Q V') : Out I z Q (stq s .f) := by
  rcases h with ⟨h0, hd, hz, hr, hP⟩ | ⟨h15, hz, hr, hI⟩
  · obtain ⟨e, V⟩ := s
    simp only at h0 hd hz hr hP
    subst h0
    show Out I z Q (Vm.flush V)
    unfold Vm.flush
    rw [if_neg (by rw [hd]; simp)]
    by_cases ht : V.tick.dead = true
    · rw [if_pos ht]
      refine .inr ⟨rfl, fun hz' => ?_, hr, hc V hP⟩
      rw [(tick_q hd (hz hz')).1] at ht; cases ht
    · rw [if_neg ht]
      exact .inl ⟨rfl, by simpa using ht, fun hz' => (tick_q hd (hz hz')).2, hr, hQ V _ hP rfl rfl⟩
  · rw [stq_err (by rw [h15]; decide)]
    exact .inr ⟨h15, hz, hr, hI⟩
theorem Out.weak {I' : FL → Prop} (h : Out I z P s) (hI : ∀ f, I f → I' f) (hP : ∀ V, P V → Q V) : Out I' z Q s := by
  rcases h with ⟨h0, hd, hz, hr, h⟩ | ⟨h15, hz, hr, h⟩
  · exact .inl ⟨h0, hd, hz, hr, hP _ h⟩
  · exact .inr ⟨h15, hz, hr, fun ks => hI _ (h ks)⟩
end
section
variable {o : BS → Option BS} {l : FL} {z : Prop} {s : Int × Vm} {V : Vm}
theorem now_nil {V : Vm} (h : V.since = []) : V.now = V.fl := by rw [Vm.now, h]; rfl
theorem now_one {V : Vm} {k : BS} {x : Option BS} (h : V.since = [(k, x)]) : V.now = wth k x V.fl := by rw [Vm.now, h]; rfl
/-- The journal goes at the end. -/
theorem ends_out {u : BS → Option BS} {I : FL → Prop} (hI : ∀ f, NM u f → I f) (h : Out I z (fun V => NM u V.fl ∧ fnd V.fl jN ≠ none ∧ V.since = []) s) : Out I z (fun V => NM u V.fl ∧ fnd V.fl jN = none ∧ V.since = []) (runs ends s) := by
  show Out I z _ (stq (stq s (.r jN)) .f)
  have h1 : Out I z (fun V => NM u V.fl ∧ V.since = [(jN, none)]) (stq s (.r jN)) := h.r (fun V hP => by rw [now_nil hP.2.2]; exact hP.2.1)
    (fun V hP ks => by rw [hP.2.2]; exact rep_single ks (hI _ hP.1) (hI _ (hP.1.jput (Nat.zero_le _))) (hI _ (hP.1.jput (Nat.zero_le _))))
    (fun V V' hP e1 e2 => by rw [e1, e2, hP.2.2]; exact ⟨hP.1, rfl⟩)
  refine h1.f (fun V hP ks => by rw [hP.2]; exact rep_single ks (hI _ hP.1) (hI _ (hP.1.jput (Nat.zero_le _))) (hI _ (hP.1.jput (Nat.zero_le _)))) (fun V V' hP e1 e2 => ?_)
  rw [e1, now_one hP.2]
  exact ⟨hP.1.jput (Nat.zero_le _), by rw [fnd_wth _ _ _ hP.1.sm.asc, if_pos rfl], e2⟩
theorem fits_small {f : FL} (h : Sm f) {k b : BS} (hb : b.length ≤ 600) : used (wth k (some b) f) ≤ 5000 := by
  have h1 := used_wth k (some b) h.asc
  have h2 := h.used
  simp only [olen] at h1
  omega
theorem wrs_out (hc : Cx o l) : ∀ (m d : FL) {s : Int × Vm}, (∀ x ∈ d ++ m, x ∈ l) → Out (Iv o l) z (fun V => MK o l V.fl ∧ V.since = snl d) s → Out (Iv o l) z (fun V => MK o l V.fl ∧ V.since = snl (d ++ m)) (runs (wrs m) s)
  | [], d, s, _, h => by rw [List.append_nil]; exact h
  | x :: m, d, s, hm, h => by
    have hx := hm x (by simp)
    have h4 := hc.l4 x hx
    have hk := (chk_ok hc.ok).name x hx
    show Out _ _ _ (runs (wrs m) (stq s (.w x.1 x.2)))
    rw [show d ++ x :: m = (d ++ [x]) ++ m by simp]
    refine wrs_out hc m (d ++ [x]) (fun y hy => hm y (by simpa using hy)) ?_
    have hs : snl d ++ [(x.1, some x.2)] = snl (d ++ [x]) := by simp [snl]
    refine h.w ⟨hk.1, hk.2.1⟩ (fun V hP => ?_) (fun V hP ks => ?_) (fun V V' hP e1 e2 => ?_)
    · refine fits_small (MK.sm (o := o) (l := l) ?_) (by omega)
      rw [Vm.now, hP.2, ops_snl]
      exact hP.1.wths hc fun y hy => hm y (by simp [hy])
    · rw [hP.2, hs]
      exact .inr (.inl (hP.1.reps hc (fun y hy => hm y (by simp only [List.mem_append, List.mem_cons, List.not_mem_nil, or_false] at hy ⊢; rcases hy with e | e <;> simp [e])) ks))
    · rw [e1, e2, hP.2, hs]
      exact ⟨hP.1, rfl⟩
/-- From the mark on. -/
theorem mid_out (hc : Cx o l) (h : Out (Iv o l) z (fun V => MK o l V.fl ∧ V.since = []) s) : Out (Iv o l) z (fun V => NM (tg o l) V.fl ∧ fnd V.fl jN = none ∧ V.since = []) (runs (mids l ++ ends) s) := by
  have hk := chk_ok hc.ok
  have h1 := wrs_out (s := s) hc l [] (fun x hx => by simpa using hx) h
  rw [List.nil_append] at h1
  rw [mids, List.append_assoc, runs_app]
  show Out _ _ _ (runs ends (stq (stq (stq (runs (wrs l) s) .f) (.r mN)) .f))
  have h2 : Out (Iv o l) z (fun V => MK o l V.fl ∧ (∀ k, k ≠ jN → k ≠ mN → fnd V.fl k = tg o l k) ∧ V.since = []) (stq (runs (wrs l) s) .f) := by
    refine h1.f (fun V hP ks => by rw [hP.2]; exact .inr (.inl (hP.1.reps hc (fun _ h => h) ks))) (fun V V' hP e1 e2 => ?_)
    have e3 : V.now = wths l V.fl := by rw [Vm.now, hP.2, ops_snl]
    rw [e1, e3]
    refine ⟨hP.1.wths hc fun _ h => h, fun k k1 k2 => ?_, e2⟩
    rw [fnd_wths k l hP.1.sm.asc, tg]
    by_cases hx : ∃ x ∈ l, x.1 = k
    · exact lw_in _ _ hx
    · rw [hP.1.at_ k k1 k2 fun x hx' e => hx ⟨x, hx', e⟩]
  have hN : ∀ V : Vm, MK o l V.fl → (∀ k, k ≠ jN → k ≠ mN → fnd V.fl k = tg o l k) → NM (tg o l) (wth mN none V.fl) := fun V hM ht =>
    ⟨hM.sm.put (by decide) (Nat.zero_le _), by rw [fnd_wth _ _ _ hM.sm.asc, if_pos rfl], fun k k1 k2 => by rw [fnd_wth _ _ _ hM.sm.asc, if_neg k2, ht k k1 k2]⟩
  have h3 : Out (Iv o l) z (fun V => MK o l V.fl ∧ (∀ k, k ≠ jN → k ≠ mN → fnd V.fl k = tg o l k) ∧ V.since = [(mN, none)]) (stq (stq (runs (wrs l) s) .f) (.r mN)) := by
    refine h2.r (fun V hP => by rw [now_nil hP.2.2, hP.1.m]; simp) (fun V hP ks => ?_) (fun V V' hP e1 e2 => ?_)
    · rw [hP.2.2]
      exact rep_single ks (.inr (.inl hP.1)) (.inr (.inr (hN V hP.1 hP.2.1))) (.inr (.inr (hN V hP.1 hP.2.1)))
    · rw [e1, e2, hP.2.2]
      exact ⟨hP.1, hP.2.1, rfl⟩
  refine ends_out (fun f h => .inr (.inr h)) (h3.f (fun V hP ks => ?_) (fun V V' hP e1 e2 => ?_))
  · rw [hP.2.2]
    exact rep_single ks (.inr (.inl hP.1)) (.inr (.inr (hN V hP.1 hP.2.1))) (.inr (.inr (hN V hP.1 hP.2.1)))
  · rw [e1, now_one hP.2.2]
    exact ⟨hN V hP.1 hP.2.1, by rw [fnd_wth _ _ _ hP.1.sm.asc, if_neg (by decide), hP.1.j]; simp, e2⟩
theorem sum_small : ∀ (l : FL) (f : FL), (∀ x ∈ l, x.2.length ≤ 60) → sumP (gns f l) ≤ l.length * 60
  | [], _, _ => Int.le_refl _
  | x :: l, f, h => by
    have h1 := h x (by simp)
    have h2 := sum_small l f fun y hy => h y (by simp [hy])
    have h3 : gn f x ≤ 60 := by unfold gn; omega
    show max (gn f x) 0 + sumP (gns f l) ≤ ((l.length + 1 : Nat) : Int) * 60
    omega
/-- A commit, the power going within it, or not. -/
theorem cmt_out (hc : Cx o l) (hd : V.dead = false) (hr : V.room = 5000) (hs : V.since = []) (hf : NM o V.fl) : Out (Iv o l) (V.stop = 0) (fun V => NM (tg o l) V.fl ∧ fnd V.fl jN = none ∧ V.since = []) (cmt V l) := by
  have hk := chk_ok hc.ok
  have hu := hf.sm.used
  have hsum := sum_small l V.fl fun x hx => (hc.l4 x hx).2
  have hcnt := hk.cnt
  have hjl := hc.jl
  unfold cmt
  rw [if_neg (by rw [hc.ok]; simp), if_neg (by rw [hd]; simp), if_neg (by rw [hr, now_nil hs]; omega), runs_app]
  show Out _ _ _ (runs (mids l ++ ends) (stq (stq (stq (stq (0, V) (.w jN (wr l))) .f) (.w mN [])) .f))
  have h0 : Out (Iv o l) (V.stop = 0) (fun V => NM o V.fl ∧ V.since = []) (0, V) := .inl ⟨rfl, hd, id, hr, hf, hs⟩
  have hj : ∀ f, NM o f → NM o (wth jN (some (wr l)) f) ∧ NM o (wth jN ((some (wr l)).map half) f) := fun f h => ⟨h.jput hjl, h.jput (Nat.le_trans (olen_half _) hjl)⟩
  have h1 : Out (Iv o l) (V.stop = 0) (fun V => NM o V.fl ∧ V.since = [(jN, some (wr l))]) (stq (0, V) (.w jN (wr l))) := by
    refine h0.w (by decide) (fun V hP => by rw [now_nil hP.2]; exact fits_small hP.1.sm hjl) (fun V hP ks => ?_) (fun V V' hP e1 e2 => ?_)
    · rw [hP.2]
      exact rep_single ks (.inl hP.1) (.inl (hj _ hP.1).1) (.inl (hj _ hP.1).2)
    · rw [e1, e2, hP.2]; exact ⟨hP.1, rfl⟩
  have h2 : Out (Iv o l) (V.stop = 0) (fun V => NM o V.fl ∧ fnd V.fl jN = some (wr l) ∧ V.since = []) (stq (stq (0, V) (.w jN (wr l))) .f) := by
    refine h1.f (fun V hP ks => ?_) (fun V V' hP e1 e2 => ?_)
    · rw [hP.2]
      exact rep_single ks (.inl hP.1) (.inl (hj _ hP.1).1) (.inl (hj _ hP.1).2)
    · rw [e1, now_one hP.2]
      exact ⟨(hj _ hP.1).1, by rw [fnd_wth _ _ _ hP.1.sm.asc, if_pos rfl], e2⟩
  have hM : ∀ f, NM o f → fnd f jN = some (wr l) → MK o l (wth mN (some []) f) := fun f h hj =>
    ⟨h.sm.put (by decide) (Nat.zero_le _), by rw [fnd_wth _ _ _ h.sm.asc, if_pos rfl], by rw [fnd_wth _ _ _ h.sm.asc, if_neg (by decide), hj], fun k k1 k2 _ => by rw [fnd_wth _ _ _ h.sm.asc, if_neg k2, h.at_ k k1 k2]⟩
  have h3 : Out (Iv o l) (V.stop = 0) (fun V => NM o V.fl ∧ fnd V.fl jN = some (wr l) ∧ V.since = [(mN, some [])]) (stq (stq (stq (0, V) (.w jN (wr l))) .f) (.w mN [])) := by
    refine h2.w (by decide) (fun V hP => by rw [now_nil hP.2.2]; exact fits_small hP.1.sm (Nat.zero_le _)) (fun V hP ks => ?_) (fun V V' hP e1 e2 => ?_)
    · rw [hP.2.2]
      exact rep_single ks (.inl hP.1) (.inr (.inl (hM _ hP.1 hP.2.1))) (.inr (.inl (hM _ hP.1 hP.2.1)))
    · rw [e1, e2, hP.2.2]; exact ⟨hP.1, hP.2.1, rfl⟩
  refine mid_out hc (h3.f (fun V hP ks => ?_) (fun V V' hP e1 e2 => ?_))
  · rw [hP.2.2]
    exact rep_single ks (.inl hP.1) (.inr (.inl (hM _ hP.1 hP.2.1))) (.inr (.inl (hM _ hP.1 hP.2.1)))
  · rw [e1, now_one hP.2.2]
    exact ⟨hM _ hP.1 hP.2.1, e2⟩
/-- Recovering, no mark being there. -/
theorem rcvN_out {u : BS → Option BS} (hd : V.dead = false) (hr : V.room = 5000) (hs : V.since = []) (hf : NM u V.fl) : Out (NM u) (V.stop = 0) (fun V => NM u V.fl ∧ fnd V.fl jN = none ∧ V.since = []) (rcv V) := by
  unfold rcv
  rw [if_neg (by rw [hd]; simp), now_nil hs, hf.m, if_neg (by simp)]
  by_cases hj : fnd V.fl jN = none
  · rw [hj, if_neg (by simp)]
    exact .inl ⟨rfl, hd, id, hr, hf, hj, hs⟩
  · rw [if_pos (by cases hh : fnd V.fl jN with | none => exact absurd hh hj | some _ => rfl)]
    exact ends_out (fun _ h => h) (.inl ⟨rfl, hd, id, hr, hf, hj, hs⟩)
/-- .. the mark being there. -/
theorem rcvM_out (hc : Cx o l) (hd : V.dead = false) (hr : V.room = 5000) (hs : V.since = []) (hf : MK o l V.fl) : Out (Iv o l) (V.stop = 0) (fun V => NM (tg o l) V.fl ∧ fnd V.fl jN = none ∧ V.since = []) (rcv V) := by
  have hk := chk_ok hc.ok
  have hu := hf.sm.used
  have hsum := sum_small l V.fl fun x hx => (hc.l4 x hx).2
  have hcnt := hk.cnt
  unfold rcv agn
  rw [if_neg (by rw [hd]; simp), now_nil hs, hf.m, if_pos (show (some ([] : BS)).isSome = true from rfl), hf.j, show ((some (wr l)).getD []) = wr l from rfl, if_pos (rdOk_wr hc.ok)]
  rw [rdA_wr hk, if_pos (fit_of_sum (by rw [hr]; show (used V.fl : Int) + sumP (gns V.fl l) ≤ 5000; omega))]
  exact mid_out hc (.inl ⟨rfl, hd, id, hr, hf, hs⟩)
end
end Go.Proofs.Ytpaaafdnkehmfaa.Vf
