/- Files by their names, in order: what was done, what a crash keeps of it; the mathematics alone. No conditions. -/
import Derived.Test.YtpaaafdnkehmfaaRows
import Derived.WalkKit
namespace Go.Proofs.Ytpaaafdnkehmfaa.Vf
set_option maxRecDepth 100000

abbrev BS := List UInt8
abbrev FL := List (BS × BS)
theorem lt_tri (x y : BS) : x < y ∨ x = y ∨ y < x := by
  by_cases h : x < y
  · exact .inl h
  · by_cases h2 : y < x
    · exact .inr (.inr h2)
    · exact .inr (.inl (List.le_antisymm (List.not_lt.1 h2) (List.not_lt.1 h)))
theorem lt_ne {x y : BS} (h : x < y) : x ≠ y := fun e => List.lt_irrefl y (e ▸ h)

def fnd : FL → BS → Option BS
  | [], _ => none
  | (x, b) :: r, k => if x = k then some b else fnd r k
def one (k : BS) : Option BS → FL
  | some b => [(k, b)]
  | none => []
/-- The file k is o. -/
def wth (k : BS) (o : Option BS) : FL → FL
  | [] => one k o
  | (x, b) :: r => if x < k then (x, b) :: wth k o r else one k o ++ (if x = k then r else (x, b) :: r)
def Asc (l : FL) : Prop := l.Pairwise fun a b => a.1 < b.1
def used : FL → Nat
  | [] => 0
  | (_, b) :: r => b.length + used r
def olen : Option BS → Nat
  | some b => b.length
  | none => 0

theorem mem_one {k : BS} {o : Option BS} {x : BS × BS} (h : x ∈ one k o) : x.1 = k := by
  cases o with
  | none => cases h
  | some b => simp only [one, List.mem_singleton] at h; rw [h]
theorem fnd_above {k : BS} : ∀ {l : FL}, (∀ x ∈ l, k < x.1) → fnd l k = none
  | [], _ => rfl
  | (x, b) :: r, h => by
    rw [fnd, if_neg (fun e => lt_ne (h (x, b) (by simp)) e.symm)]
    exact fnd_above fun y hy => h y (by simp [hy])
theorem fnd_one_app (k : BS) (o : Option BS) (l : FL) (h : ∀ x ∈ l, k < x.1) : fnd (one k o ++ l) k = o := by
  cases o with
  | none => exact fnd_above h
  | some b => simp [one, fnd]
theorem fnd_one_other {k j : BS} (hj : j ≠ k) (o : Option BS) (l : FL) : fnd (one k o ++ l) j = fnd l j := by
  cases o with
  | none => rfl
  | some b => simp [one, fnd, Ne.symm hj]
theorem mem_wth {k : BS} {o : Option BS} : ∀ {l : FL} {x : BS × BS}, x ∈ wth k o l → x.1 = k ∨ x ∈ l
  | [], x, h => .inl (mem_one h)
  | (y, b) :: r, x, h => by
    unfold wth at h
    split at h
    · rcases List.mem_cons.1 h with e | h
      · exact .inr (by simp [e])
      · rcases mem_wth h with h | h
        · exact .inl h
        · exact .inr (by simp [h])
    · rcases List.mem_append.1 h with h | h
      · exact .inl (mem_one h)
      · split at h
        · exact .inr (by simp [h])
        · exact .inr h
theorem Asc.tail {x : BS × BS} {l : FL} (h : Asc (x :: l)) : Asc l := (List.pairwise_cons.1 h).2
theorem Asc.head {x : BS × BS} {l : FL} (h : Asc (x :: l)) : ∀ y ∈ l, x.1 < y.1 := (List.pairwise_cons.1 h).1
theorem above_rest {k x b} {r : FL} (h : Asc ((x, b) :: r)) (hx : ¬ x < k) : ∀ y ∈ (if x = k then r else (x, b) :: r), k < y.1 := by
  intro y hy
  rcases lt_tri x k with g | g | g
  · exact absurd g hx
  · rw [if_pos g] at hy
    subst g
    exact h.head y hy
  · rw [if_neg (fun e => lt_ne g e.symm)] at hy
    rcases List.mem_cons.1 hy with e | hy
    · rw [e]; exact g
    · exact List.lt_trans g (h.head y hy)
theorem asc_one_app {k : BS} (o : Option BS) {l : FL} (hl : Asc l) (h : ∀ y ∈ l, k < y.1) : Asc (one k o ++ l) := by
  cases o with
  | none => exact hl
  | some b => exact List.pairwise_cons.2 ⟨h, hl⟩
theorem asc_wth (k : BS) (o : Option BS) : ∀ {l : FL}, Asc l → Asc (wth k o l)
  | [], _ => by
    cases o with
    | none => exact List.Pairwise.nil
    | some b => exact List.pairwise_singleton _ _
  | (x, b) :: r, h => by
    unfold wth
    split
    · rename_i hx
      refine List.pairwise_cons.2 ⟨fun y hy => ?_, asc_wth k o h.tail⟩
      rcases mem_wth hy with e | hy
      · rw [e]; exact hx
      · exact h.head y hy
    · rename_i hx
      refine asc_one_app o ?_ (above_rest h hx)
      split
      · exact h.tail
      · exact h
theorem fnd_wth_same (k : BS) (o : Option BS) : ∀ {l : FL}, Asc l → fnd (wth k o l) k = o
  | [], _ => by cases o <;> simp [wth, one, fnd]
  | (x, b) :: r, h => by
    unfold wth
    split
    · rename_i hx
      rw [fnd, if_neg (lt_ne hx)]
      exact fnd_wth_same k o h.tail
    · rename_i hx
      exact fnd_one_app k o _ (above_rest h hx)
theorem fnd_wth_other {k j : BS} (hj : j ≠ k) (o : Option BS) : ∀ l : FL, fnd (wth k o l) j = fnd l j
  | [] => by cases o <;> simp [wth, one, fnd, Ne.symm hj]
  | (x, b) :: r => by
    unfold wth
    split
    · rw [fnd, fnd, fnd_wth_other hj o r]
    · rw [fnd_one_other hj]
      split
      · rename_i e
        rw [fnd, if_neg (fun e' => hj (e'.symm.trans e))]
      · rfl
theorem fnd_wth (k j : BS) (o : Option BS) {l : FL} (h : Asc l) : fnd (wth k o l) j = if j = k then o else fnd l j := by
  split
  · rename_i e; rw [e]; exact fnd_wth_same k o h
  · rename_i e; exact fnd_wth_other e o l
theorem used_app (a b : FL) : used (a ++ b) = used a + used b := by
  induction a with
  | nil => simp [used]
  | cons x r ih => obtain ⟨x, c⟩ := x; simp only [List.cons_append, used, ih]; omega
theorem used_one (k : BS) (o : Option BS) : used (one k o) = olen o := by cases o <;> simp [one, used, olen]
theorem used_wth (k : BS) (o : Option BS) : ∀ {l : FL}, Asc l → used (wth k o l) + olen (fnd l k) = used l + olen o
  | [], _ => by simp [wth, used_one, fnd, olen, used]
  | (x, b) :: r, h => by
    unfold wth
    split
    · rename_i hx
      rw [fnd, if_neg (lt_ne hx), used, used]
      have := used_wth k o h.tail
      omega
    · rename_i hx
      rw [used_app, used_one]
      by_cases e : x = k
      · rw [if_pos e, fnd, if_pos e, used, olen]; omega
      · have hk : fnd ((x, b) :: r) k = none := fnd_above (by have := above_rest h hx; rwa [if_neg e] at this)
        rw [if_neg e, hk, olen]; omega
theorem olen_fnd_le (k : BS) : ∀ l : FL, olen (fnd l k) ≤ used l
  | [] => Nat.zero_le _
  | (x, b) :: r => by
    unfold fnd
    split
    · simp [olen, used]
    · have := olen_fnd_le k r
      simp only [used]; omega
theorem wth_length (k : BS) (o : Option BS) : ∀ l : FL, (wth k o l).length ≤ l.length + 1
  | [] => by cases o <;> simp [wth, one]
  | (x, b) :: r => by
    unfold wth
    split
    · simp only [List.length_cons]; have := wth_length k o r; omega
    · have h1 : (one k o).length ≤ 1 := by cases o <;> simp [one]
      have h2 : (if x = k then r else (x, b) :: r).length ≤ r.length + 1 := by split <;> simp
      simp only [List.length_append, List.length_cons]; omega
theorem mem_of_fnd {k : BS} {b : BS} : ∀ {l : FL}, fnd l k = some b → (k, b) ∈ l
  | (x, c) :: r, h => by
    unfold fnd at h
    split at h
    · rename_i e; cases h; simp [e]
    · exact List.mem_cons_of_mem _ (mem_of_fnd h)
theorem fnd_of_mem {k b : BS} : ∀ {l : FL}, Asc l → (k, b) ∈ l → fnd l k = some b
  | (x, c) :: r, h, hm => by
    rcases List.mem_cons.1 hm with e | hm
    · cases e; simp [fnd]
    · rw [fnd, if_neg (lt_ne (h.head _ hm))]
      exact fnd_of_mem h.tail hm
theorem fnd_isSome {k : BS} {l : FL} : (fnd l k).isSome = true ↔ k ∈ l.map (·.1) := by
  induction l with
  | nil => simp [fnd]
  | cons x r ih =>
    obtain ⟨x, b⟩ := x
    unfold fnd
    split
    · rename_i e; simp [e]
    · rename_i e; rw [ih, List.map_cons, List.mem_cons]; simp [Ne.symm e]
theorem fnd_none {k : BS} {l : FL} : fnd l k = none ↔ k ∉ l.map (·.1) := by
  rw [← fnd_isSome]; cases fnd l k <;> simp
/-- Two rows of files in order, in which the same is found, are one. -/
theorem asc_ext : ∀ {l m : FL}, Asc l → Asc m → (∀ k, fnd l k = fnd m k) → l = m
  | [], [], _, _, _ => rfl
  | [], (x, b) :: r, _, _, h => by have := h x; simp [fnd] at this
  | (x, b) :: r, [], _, _, h => by have := h x; simp [fnd] at this
  | (x, b) :: r, (y, c) :: s, hl, hm, h => by
    have hxy : x = y := by
      rcases lt_tri x y with g | g | g
      · have h1 := h x
        rw [fnd, if_pos rfl, fnd, if_neg (fun e => lt_ne g e.symm), fnd_above fun z hz => List.lt_trans g (hm.head z hz)] at h1
        cases h1
      · exact g
      · have h1 := h y
        rw [fnd, if_neg (fun e => lt_ne g e.symm), fnd, if_pos rfl, fnd_above fun z hz => List.lt_trans g (hl.head z hz)] at h1
        cases h1
    subst hxy
    have hb := h x
    rw [fnd, if_pos rfl, fnd, if_pos rfl] at hb
    cases hb
    congr 1
    refine asc_ext hl.tail hm.tail fun k => ?_
    have hk := h k
    by_cases e : x = k
    · subst e
      rw [fnd_above hl.head, fnd_above hm.head]
    · rwa [fnd, if_neg e, fnd, if_neg e] at hk

/-- What was done: a file is bytes now, or gone. -/
abbrev Sn := List (BS × Option BS)
def ops : Sn → FL → FL
  | [], l => l
  | x :: s, l => ops s (wth x.1 x.2 l)
theorem ops_app (s t : Sn) : ∀ l, ops (s ++ t) l = ops t (ops s l) := by
  induction s with
  | nil => intro l; rfl
  | cons x s ih => intro l; exact ih _
theorem asc_ops : ∀ (s : Sn) {l : FL}, Asc l → Asc (ops s l)
  | [], _, h => h
  | x :: s, _, h => asc_ops s (asc_wth x.1 x.2 h)
def half (b : BS) : BS := b.take (b.length / 2)
/-- What a crash keeps. -/
def rep : Sn → List Int → FL → FL
  | x :: s, k :: ks, l => rep s ks (if k = 1 then wth x.1 x.2 l else if k = 2 then wth x.1 (x.2.map half) l else l)
  | _, _, l => l
theorem asc_rep : ∀ (s : Sn) (ks : List Int) {l : FL}, Asc l → Asc (rep s ks l)
  | [], _, _, h => by simpa [rep] using h
  | _ :: _, [], _, h => by simpa [rep] using h
  | x :: s, k :: ks, l, h => by
    rw [rep]
    refine asc_rep s ks ?_
    split
    · exact asc_wth _ _ h
    · split
      · exact asc_wth _ _ h
      · exact h
theorem fnd_ops_far {k : BS} : ∀ (s : Sn) (l : FL), (∀ x ∈ s, x.1 ≠ k) → fnd (ops s l) k = fnd l k
  | [], _, _ => rfl
  | x :: s, l, h => by
    rw [ops, fnd_ops_far s _ fun y hy => h y (by simp [hy])]
    exact fnd_wth_other (Ne.symm (h x (by simp))) _ _
theorem fnd_rep_far {k : BS} : ∀ (s : Sn) (ks : List Int) (l : FL), (∀ x ∈ s, x.1 ≠ k) → fnd (rep s ks l) k = fnd l k
  | [], _, _, _ => by simp [rep]
  | _ :: _, [], _, _ => by simp [rep]
  | x :: s, c :: ks, l, h => by
    rw [rep, fnd_rep_far s ks _ fun y hy => h y (by simp [hy])]
    have hx := Ne.symm (h x (by simp))
    split
    · exact fnd_wth_other hx _ _
    · split
      · exact fnd_wth_other hx _ _
      · rfl
/-- Made anew where something was done. -/
def anew (f : FL) : Sn → FL → FL
  | [], l => l
  | x :: s, l => anew f s (wth x.1 (fnd f x.1) l)
theorem asc_anew (f : FL) : ∀ (s : Sn) {l : FL}, Asc l → Asc (anew f s l)
  | [], _, h => h
  | _ :: s, _, h => asc_anew f s (asc_wth _ _ h)
theorem fnd_anew (f : FL) (k : BS) : ∀ (s : Sn) {l : FL}, Asc l → (fnd l k = fnd f k ∨ ∃ x ∈ s, x.1 = k) → fnd (anew f s l) k = fnd f k
  | [], _, _, h => by
    rcases h with h | ⟨x, hx, _⟩
    · exact h
    · cases hx
  | x :: s, l, ha, h => by
    rw [anew]
    refine fnd_anew f k s (asc_wth _ _ ha) ?_
    rw [fnd_wth x.1 k _ ha]
    by_cases e : k = x.1
    · rw [if_pos e, e]; exact .inl rfl
    · rw [if_neg e]
      rcases h with h | ⟨y, hy, hk⟩
      · exact .inl h
      · rcases List.mem_cons.1 hy with e' | hy
        · exact absurd (by rw [← hk, e']) e
        · exact .inr ⟨y, hy, hk⟩
theorem anew_app (f : FL) (s t : Sn) : ∀ l, anew f (s ++ t) l = anew f t (anew f s l) := by
  induction s with
  | nil => intro l; rfl
  | cons x s ih => intro l; exact ih _
/-- .. it is what the crash keeps. -/
theorem anew_rep (s : Sn) (ks : List Int) {l : FL} (h : Asc l) : anew (rep s ks l) s (ops s l) = rep s ks l := by
  refine asc_ext (asc_anew _ s (asc_ops s h)) (asc_rep s ks h) fun k => fnd_anew _ k s (asc_ops s h) ?_
  by_cases e : ∃ x ∈ s, x.1 = k
  · exact .inr e
  · have far : ∀ x ∈ s, x.1 ≠ k := fun x hx e' => e ⟨x, hx, e'⟩
    exact .inl ((fnd_ops_far s l far).trans (fnd_rep_far s ks l far).symm)

/-- The files as a whole. -/
structure Vm where
  fl : FL
  since : Sn
  room : Int
  ops : Nat
  stop : Int
  dead : Bool
def Vm.now (V : Vm) : FL := Vf.ops V.since V.fl
def Vm.new (room : Int) : Vm := ⟨[], [], min (max room 0) 1048576, 0, 0, false⟩
/-- One that would be done: does the power go? -/
def Vm.tick (V : Vm) : Vm := { V with ops := V.ops + 1, stop := if 0 < V.stop then V.stop - 1 else V.stop, dead := if 0 < V.stop then decide (V.stop = 1) else V.dead }
def Vm.does (V : Vm) (k : BS) (o : Option BS) : Vm := { V with since := V.since ++ [(k, o)] }.tick
def Vm.says (V : Vm) : Int := if V.dead = true then 15 else 0
def Vm.write (V : Vm) (k b : BS) : Int × Vm :=
  if V.dead = true then (15, V) else if k.length < 1 ∨ 20 < k.length then (12, V) else if V.room < (used (wth k (some b) V.now) : Int) then (14, V) else ((V.does k (some b)).says, V.does k (some b))
def Vm.remove (V : Vm) (k : BS) : Int × Vm :=
  if V.dead = true then (15, V) else if fnd V.now k = none then (2, V) else ((V.does k none).says, V.does k none)
def Vm.flush (V : Vm) : Int × Vm :=
  if V.dead = true then (15, V) else if V.tick.dead = true then (15, V.tick) else (0, { V.tick with fl := V.now, since := [] })
def Vm.crash (V : Vm) (keep : List Int) : Vm := { V with fl := rep V.since keep V.fl, since := [], stop := 0, dead := false }
def Vm.stopAt (V : Vm) (n : Int) : Vm := { V with stop := n }
theorem does_now (V : Vm) (k : BS) (o : Option BS) : (V.does k o).now = wth k o V.now := by
  simp only [Vm.does, Vm.tick, Vm.now, ops_app]; rfl

/-- How much there is in all. -/
def wf : FL → Nat
  | [] => 0
  | (k, b) :: r => k.length + b.length + 1 + wf r
def ws : Sn → Nat
  | [] => 0
  | (k, o) :: r => k.length + olen o + 1 + ws r
theorem wf_app (a b : FL) : wf (a ++ b) = wf a + wf b := by
  induction a with
  | nil => simp [wf]
  | cons x r ih => obtain ⟨x, c⟩ := x; simp only [List.cons_append, wf, ih]; omega
theorem ws_app (a b : Sn) : ws (a ++ b) = ws a + ws b := by
  induction a with
  | nil => simp [ws]
  | cons x r ih => obtain ⟨x, c⟩ := x; simp only [List.cons_append, ws, ih]; omega
theorem wf_one (k : BS) (o : Option BS) : wf (one k o) ≤ k.length + olen o + 1 := by cases o <;> simp [one, wf, olen]
theorem wf_wth (k : BS) (o : Option BS) : ∀ l : FL, wf (wth k o l) ≤ wf l + (k.length + olen o + 1)
  | [] => by have := wf_one k o; simp only [wth, wf]; omega
  | (x, b) :: r => by
    unfold wth
    split
    · simp only [wf]; have := wf_wth k o r; omega
    · have h1 := wf_one k o
      have h2 : wf (if x = k then r else (x, b) :: r) ≤ wf ((x, b) :: r) := by split <;> simp only [wf] <;> omega
      rw [wf_app]; omega
theorem wf_ops : ∀ (s : Sn) (l : FL), wf (ops s l) ≤ wf l + ws s
  | [], l => by simp [ops, ws]
  | x :: s, l => by
    have h1 := wf_ops s (wth x.1 x.2 l)
    have h2 := wf_wth x.1 x.2 l
    simp only [ops, ws]; omega
theorem half_length (b : BS) : (half b).length = b.length / 2 := by simp [half]; omega
theorem wf_rep : ∀ (s : Sn) (ks : List Int) (l : FL), wf (rep s ks l) ≤ wf l + ws s
  | [], _, l => by simp [rep]
  | _ :: _, [], l => by simp [rep]
  | (k, o) :: s, c :: ks, l => by
    rw [rep, ws]
    have h1 := wf_rep s ks (if c = 1 then wth k o l else if c = 2 then wth k (o.map half) l else l)
    have h2 : wf (if c = 1 then wth k o l else if c = 2 then wth k (o.map half) l else l) ≤ wf l + (k.length + olen o + 1) := by
      split
      · exact wf_wth k o l
      · split
        · have := wf_wth k (o.map half) l
          have h3 : olen (o.map half) ≤ olen o := by
            cases o with
            | none => simp
            | some b => have := half_length b; simp only [Option.map_some, olen]; omega
          omega
        · omega
    refine Nat.le_trans h1 ?_
    omega
theorem used_wf : ∀ l : FL, used l + l.length ≤ wf l
  | [] => Nat.le_refl _
  | (x, b) :: r => by have := used_wf r; simp only [used, wf, List.length_cons]; omega
theorem ws_length : ∀ s : Sn, s.length ≤ ws s
  | [] => Nat.le_refl _
  | (_, _) :: r => by have := ws_length r; simp only [ws, List.length_cons]; omega
structure Lim (V : Vm) (N : Nat) : Prop where
  tot : wf V.fl + ws V.since ≤ N
  num : V.ops ≤ N
  room : 0 ≤ V.room ∧ V.room ≤ 1048576
  stop : -9223372036854775808 ≤ V.stop ∧ V.stop ≤ 9223372036854775807
  asc : Asc V.fl
theorem Lim.more {V : Vm} {N M : Nat} (h : Lim V N) (hm : N ≤ M) : Lim V M := ⟨Nat.le_trans h.tot hm, Nat.le_trans h.num hm, h.room, h.stop, h.asc⟩
theorem Lim.ascNow {V : Vm} {N : Nat} (h : Lim V N) : Asc V.now := asc_ops _ h.asc
theorem Lim.now {V : Vm} {N : Nat} (h : Lim V N) : used V.now + V.now.length ≤ N := by
  have h1 := used_wf V.now
  have h2 := wf_ops V.since V.fl
  have h3 := h.tot
  unfold Vm.now at *
  omega
theorem Lim.fl {V : Vm} {N : Nat} (h : Lim V N) : used V.fl + V.fl.length ≤ N := by
  have h1 := used_wf V.fl
  have h3 := h.tot
  omega
theorem Lim.since {V : Vm} {N : Nat} (h : Lim V N) : V.since.length ≤ N := by
  have h1 := ws_length V.since
  have h3 := h.tot
  omega
theorem Lim.new (n : Int) : Lim (Vm.new n) 0 := ⟨Nat.le_refl _, Nat.le_refl _, by simp only [Vm.new]; omega, by simp only [Vm.new]; omega, List.Pairwise.nil⟩
theorem Lim.tick {V : Vm} {N : Nat} (h : Lim V N) : Lim V.tick (N + 1) :=
  ⟨by have := h.tot; simp only [Vm.tick]; omega, by have := h.num; simp only [Vm.tick]; omega, h.room, by have := h.stop; simp only [Vm.tick]; split <;> omega, h.asc⟩
theorem Lim.does {V : Vm} {N : Nat} (h : Lim V N) (k : BS) (o : Option BS) : Lim (V.does k o) (N + (k.length + olen o + 1)) := by
  refine ⟨?_, ?_, h.room, ?_, h.asc⟩
  · have := h.tot
    simp only [Vm.does, Vm.tick, ws_app, ws]; omega
  · have := h.num; simp only [Vm.does, Vm.tick]; omega
  · have := h.stop; simp only [Vm.does, Vm.tick]; split <;> omega
theorem Lim.write {V : Vm} {N : Nat} (h : Lim V N) (k b : BS) : Lim (V.write k b).2 (N + (k.length + b.length + 1)) := by
  unfold Vm.write
  split
  · exact h.more (by omega)
  · split
    · exact h.more (by omega)
    · split
      · exact h.more (by omega)
      · exact h.does k (some b)
theorem Lim.remove {V : Vm} {N : Nat} (h : Lim V N) (k : BS) : Lim (V.remove k).2 (N + (k.length + 1)) := by
  unfold Vm.remove
  split
  · exact h.more (by omega)
  · split
    · exact h.more (by omega)
    · exact h.does k none
theorem Lim.flush {V : Vm} {N : Nat} (h : Lim V N) : Lim V.flush.2 (N + 1) := by
  unfold Vm.flush
  split
  · exact h.more (by omega)
  · split
    · exact h.tick
    · refine ⟨?_, h.tick.num, h.room, h.tick.stop, h.ascNow⟩
      have h1 := wf_ops V.since V.fl
      have h2 := h.tot
      show wf (ops V.since V.fl) + 0 ≤ N + 1
      omega
theorem Lim.crash {V : Vm} {N : Nat} (h : Lim V N) (keep : List Int) : Lim (V.crash keep) N := by
  refine ⟨?_, h.num, h.room, by simp only [Vm.crash]; omega, asc_rep _ _ h.asc⟩
  have h1 := wf_rep V.since keep V.fl
  have h2 := h.tot
  simp only [Vm.crash, ws]; omega
theorem Lim.stopAt {V : Vm} {N : Nat} (h : Lim V N) {n : Int} (hn : -9223372036854775808 ≤ n ∧ n ≤ 9223372036854775807) : Lim (V.stopAt n) N := ⟨h.tot, h.num, h.room, hn, h.asc⟩
end Go.Proofs.Ytpaaafdnkehmfaa.Vf
