/- vfs: what a crash keeps of what was done: a machine of places. No conditions but that there is no more than 2^40 of anything. -/
import Derived.Test.YtpaaafdnkehmfaaVfSet
namespace Go.Proofs.Ytpaaafdnkehmfaa.Vf
open Go.RowKit
set_option maxRecDepth 100000

/-- By a goto to a label: what J asks there, and less than m is left; else as Q. -/
def ups (J : Nat → Act → World → Nat → Prop) (m : Nat) (Q : Exit → Act → World → Prop) : Exit → Act → World → Prop
  | .goto l, a, w => ∃ k, k < m ∧ J l a w k
  | e, a, w => Q e a w
section
variable {P : Program} {a : Act} {w : World} {Q : Exit → Act → World → Prop}
theorem wp_scope_ups {c : Code} (J : Nat → Act → World → Nat → Prop) (m : Nat) (first : c.wp P (ups J m Q) a w)
    (pass : ∀ l a w k, J l a w k → ∃ rest, findLabel c l = some rest ∧ rest.wp P (ups J k Q) a w) : (Code.scope c).wp P Q a w := by
  intro b k cs
  have hg : ∀ l rest, findLabel c l = some rest → gotoIn l (.inScope c :: k) = some (.code rest :: .inScope c :: k) := fun l rest hf => by simp [gotoIn, hf]
  have key : ∀ n l a w, J l a w n → ∃ rest, findLabel c l = some rest ∧ ∃ e a' w', Q e a' w' ∧ Arrives P (lone (b.at a (.code rest :: .inScope c :: k)) cs w) b k cs e a' w' := by
    intro n
    induction n using Nat.strongRecOn with
    | _ n ih =>
      intro l a w hJ
      obtain ⟨rest, hf, hwp⟩ := pass l a w n hJ
      refine ⟨rest, hf, ?_⟩
      obtain ⟨e, a₁, w₁, hq, harr⟩ := hwp b (.inScope c :: k) cs
      cases e with
      | normal => exact ⟨.normal, a₁, w₁, hq, Steps.trans harr (.one step_inScope)⟩
      | exit id => exact ⟨.exit id, a₁, w₁, hq, fun k' hk => harr k' (by simp [exitTo, hk])⟩
      | goto l' =>
        obtain ⟨j, hlt, hJ'⟩ := hq
        obtain ⟨r2, hf2, e₂, a₂, w₂, hq₂, harr₂⟩ := ih j hlt l' a₁ w₁ hJ'
        exact ⟨e₂, a₂, w₂, hq₂, .of_steps (harr _ (hg l' r2 hf2)) harr₂⟩
      | ret => exact ⟨_, a₁, w₁, hq, harr⟩
      | panic ch => exact ⟨_, a₁, w₁, hq, harr⟩
      | outgrown => exact ⟨_, a₁, w₁, hq, harr⟩
  obtain ⟨e, a₁, w₁, hq, harr⟩ := first b (.inScope c :: k) cs
  cases e with
  | normal => exact ⟨.normal, a₁, w₁, hq, .head step_scope (Steps.trans harr (.one step_inScope))⟩
  | exit id => exact ⟨.exit id, a₁, w₁, hq, fun k' hk => .head step_scope (harr k' (by simp [exitTo, hk]))⟩
  | goto l' =>
    obtain ⟨j, _, hJ'⟩ := hq
    obtain ⟨r2, hf2, e₂, a₂, w₂, hq₂, harr₂⟩ := key j l' a₁ w₁ hJ'
    exact ⟨e₂, a₂, w₂, hq₂, .of_steps (.head step_scope (harr _ (hg l' r2 hf2))) harr₂⟩
  | ret => exact ⟨_, a₁, w₁, hq, .of_steps (.one step_scope) harr⟩
  | panic ch => exact ⟨_, a₁, w₁, hq, .of_steps (.one step_scope) harr⟩
  | outgrown => exact ⟨_, a₁, w₁, hq, .of_steps (.one step_scope) harr⟩
theorem scope012 {c x0 x1 x2 : Code} (J : Nat → Act → World → Nat → Prop) (m : Nat) (J0 J1 J2 : Act → World → Nat → Prop)
    (hJ : ∀ l a w k, J l a w k → (l = 0 ∧ J0 a w k) ∨ (l = 1 ∧ J1 a w k) ∨ (l = 2 ∧ J2 a w k))
    (h0 : findLabel c 0 = some (.seq .skip x0)) (h1 : findLabel c 1 = some (.seq .skip x1)) (h2 : findLabel c 2 = some (.seq .skip x2))
    (top : ∀ a w k, J0 a w k → x0.wp P (ups J k Q) a w) (low : ∀ a w k, J1 a w k → x1.wp P (ups J k Q) a w)
    (mid : (∀ a w k, J1 a w k → x1.wp P (ups J k Q) a w) → ∀ a w k, J2 a w k → x2.wp P (ups J k Q) a w)
    (first : (∀ a w k, J0 a w k → x0.wp P (ups J k Q) a w) → c.wp P (ups J m Q) a w) : (Code.scope c).wp P Q a w := by
  refine wp_scope_ups J m (first top) fun l a w k h => ?_
  rcases hJ l a w k h with ⟨rfl, g⟩ | ⟨rfl, g⟩ | ⟨rfl, g⟩
  · exact ⟨_, h0, wp_seq (wp_skip (top a w k g))⟩
  · exact ⟨_, h1, wp_seq (wp_skip (low a w k g))⟩
  · exact ⟨_, h2, wp_seq (wp_skip (mid low a w k g))⟩
end

/-- One of those done, as the crash has it. -/
def stp (x : BS × Option BS) (k : Int) (l : FL) : FL := if k = 1 then wth x.1 x.2 l else if k = 2 then wth x.1 (x.2.map half) l else l
theorem rep_snoc (x : BS × Option BS) : ∀ (s : Sn) (ks : List Int) (l : FL) {k : Int}, ks[s.length]? = some k → rep (s ++ [x]) ks l = stp x k (rep s ks l)
  | [], c :: ks, l, k, h => by
    injection h with h
    subst h
    cases ks <;> simp [rep, stp]
  | y :: s, c :: ks, l, k, h => by
    simp only [List.cons_append, rep]
    exact rep_snoc x s ks _ h
theorem rep_take : ∀ (s : Sn) (ks : List Int) (l : FL), rep (s.take ks.length) ks l = rep s ks l
  | [], _, l => by simp [rep]
  | x :: s, [], l => by simp [rep]
  | x :: s, c :: ks, l => by simp only [List.length_cons, List.take_succ_cons, rep]; exact rep_take s ks _
theorem used_stp_le {x : BS × Option BS} {k : Int} {l : FL} (ha : Asc l) : used (stp x k l) ≤ used l + olen x.2 := by
  have h1 := used_wth x.1 x.2 ha
  have h2 := used_wth x.1 (x.2.map half) ha
  have h3 : olen (x.2.map half) ≤ olen x.2 := by
    cases x.2 with
    | none => simp
    | some b => have := half_length b; simp only [Option.map_some, olen]; omega
  unfold stp
  split
  · omega
  · split <;> omega
theorem asc_stp {x : BS × Option BS} {k : Int} {l : FL} (ha : Asc l) : Asc (stp x k l) := by
  unfold stp
  split
  · exact asc_wth _ _ ha
  · split
    · exact asc_wth _ _ ha
    · exact ha

/-- Numbers that lie where no change of the files comes. -/
structure Sti (w : World) (B p : Nat) (A : Option Addr) (n : Nat) (l : List Int) : Prop where
  len : n = l.length
  cell : ∀ (j : Nat) (x : Int), l[j]? = some x → ∃ b o, A = some ⟨b, o, none⟩ ∧ b < w.heap.size ∧ b ≠ p ∧ (b < B ∨ Kd w b) ∧ w.cell? ⟨b, o + j, none⟩ = some (.int .i64 x)
theorem Sti.keep {w w' : World} {B p n : Nat} {A : Option Addr} {l : List Int} (h : Sti w B p A n l) (hm : Mo B p w w') : Sti w' B p A n l :=
  ⟨h.len, fun j x hx => by
    obtain ⟨b, o, e, h1, h2, h3, h4⟩ := h.cell j x hx
    have eb : w'.heap[b]? = w.heap[b]? := hm.block b h1 fun e => by
      rcases e with e | ⟨e1, e2⟩
      · exact h2 e
      · rcases h3 with h3 | h3
        · omega
        · exact e2 h3
    exact ⟨b, o, e, Nat.lt_of_lt_of_le h1 hm.size, h2, h3.imp id fun g => g.eq eb, (World.cell?_of_block eb).trans h4⟩⟩
theorem Sti.at_ {w w' : World} {B p n : Nat} {A : Option Addr} {l : List Int} (h : Sti w B p A n l) (hm : Mo B p w w') {j : Nat} {x : Int} (hx : l[j]? = some x) : ∃ b o, A = some ⟨b, o, none⟩ ∧ b < w.heap.size ∧ w'.cell? ⟨b, o + j, none⟩ = some (.int .i64 x) := by
  obtain ⟨b, o, e, h1, _⟩ := h.cell j x hx
  obtain ⟨b', o', e', _, _, _, h4⟩ := (h.keep hm).cell j x hx
  rw [e] at e'
  cases e'
  exact ⟨b, o, e, h1, h4⟩
theorem Fs.ne_cells {w : World} {B : Nat} {mv : Value} {l : FL} (h : Fs w B mv l) {b : Nat} (e : mv = .map (some b)) {cs : Array Value} {t : TypeId} {fz : Nat × Nat} : w.heap[b]? ≠ some (.cells cs t fz) := by
  rcases h with ⟨h, _⟩ | ⟨b', D, e', _, ho, _⟩
  · rw [h] at e; cases e
  · rw [e] at e'; cases e'
    obtain ⟨es, clock, hb, _⟩ := ho
    rw [hb]
    intro h; cases h

/-- The row of what was done, item by item, in whatever world in which its block lies as it lay. -/
theorem row_item {w W : World} {B n c : Nat} {A : Option Addr} {us : List Value} {s : Sn} (ho : w.ownsRow B 84 3 (.slice A n c) n us) (hr : RowF w B us s) (hW : ∀ g, (Value.slice A n c).ownBlock = some g → W.heap[g]? = w.heap[g]?) (hk : Ks w W)
    {j : Nat} {k : BS} {ob : Option BS} (hj : s[j]? = some (k, ob)) : ∃ g x A' n' c', A = some ⟨g, 0, none⟩ ∧ g < w.heap.size ∧ W.cell? ⟨g, j * 3, none⟩ = some (.string x) ∧ W.cell? ⟨g, j * 3 + 1, none⟩ = some (.slice A' n' c') ∧ W.cell? ⟨g, j * 3 + 2, none⟩ = some (.bool ob.isNone) ∧
      x.data.toList = k ∧ Bz W B (.slice A' n' c') (ob.getD []) ∧ n' ≤ c' := by
  obtain ⟨x, v, g0, g1, g2, g3, g4⟩ := RowF.get j hr hj
  obtain ⟨A', n', c', rfl, _, h1, _⟩ := g4.sees
  rcases ho.2 with ⟨e, hn⟩ | ⟨g, cap, cur, e, hg, hh, h2, h3, h4, h5⟩
  · have hl := hr.length
    have h0 := ho.1
    have : j < s.length := by
      rcases Nat.lt_or_ge j s.length with q | q
      · exact q
      · rw [List.getElem?_eq_none q] at hj; cases hj
    omega
  · injection e with e1 e2 e3
    subst e1
    have hb : (Value.slice (some ⟨g, 0, none⟩) n c).ownBlock = some g := rfl
    have eb := hW g hb
    have hc : ∀ i u, us[i]? = some u → W.cell? ⟨g, i, none⟩ = some u := fun i u hu => by
      rw [World.cell?_of_block (w := w) (w' := W) (a := ⟨g, i, none⟩) eb]
      have := rowCells ho i u hu
      rwa [Addr.add_lit, Nat.zero_add] at this
    exact ⟨g, x, A', n', c', rfl, (Array.getElem?_eq_some_iff.1 hh).1, hc _ _ g0, hc _ _ g1, hc _ _ g2, g3, g4.keep hk, h1⟩

/-- Between two places: j of those done are dealt with. -/
structure RepI (w : World) (B p o : Nat) (vs : List Value) (T : TypeId) (mv : Value) (l : FL) (s : Sn) (ks : List Int) (j : Nat) (W : World) (a0 a1 a2 : Value) : Prop where
  ex : ∃ mv', Bx W p ((vs.set o mv').set (o + 1) (.int .i64 (used (rep (s.take j) ks l) : Int))) T ∧ Fs W B mv' (rep (s.take j) ks l) ∧ ∀ b, mv' = .map (some b) → mv = .map (some b) ∨ w.heap.size ≤ b
  mv : Mv w W (fun k => k = p ∨ mv = .map (some k))
  x : Bx W w.heap.size [a0, a1, a2] 84
  j1 : j ≤ s.length
  j2 : j ≤ ks.length
def Rep0 (w : World) (B p o : Nat) (vs : List Value) (T : TypeId) (mv : Value) (l : FL) (s : Sn) (ks : List Int) (A : Option Addr) (n c : Nat) (Ak : Option Addr) (nk ck : Nat) (a : Act) (W : World) (k : Nat) : Prop :=
  ∃ j a0 a1 a2 z, RepI w B p o vs T mv l s ks j W a0 a1 a2 ∧ k = 3 * (s.length - j) + 1 ∧ z = (j : Int) - 1 ∧ ∃ u3 u4 u5 u8 u9 u10 u11 u12 u13 u14 u15 u16 u17 u18 u19 u20 u21 u22 u23 u24 u25 u26 u27 u28 u29 u30 u31 u32 u33 u34 u35 u36 u37 u38 u39 u40 u41 u42 : Value, a = { tmps := #[.pointer (some ⟨p, o, none⟩), .slice A n c, .slice Ak nk ck, u3, u4, u5, .pointer (some ⟨w.heap.size, 0, none⟩), .int .i64 z, u8, u9, u10, u11, u12, u13, u14, u15, u16, u17, u18, u19, u20, u21, u22, u23, u24, u25, u26, u27, u28, u29, u30, u31, u32, u33, u34, u35, u36, u37, u38, u39, u40, u41, u42], defers := [] }
/-- One is in hand, at place 1 or 2. -/
def RepX (two : Bool) (w : World) (B p o : Nat) (vs : List Value) (T : TypeId) (mv : Value) (l : FL) (s : Sn) (ks : List Int) (A : Option Addr) (n c : Nat) (Ak : Option Addr) (nk ck : Nat) (a : Act) (W : World) (k : Nat) : Prop :=
  ∃ j x A' n' c' f o1 ob, RepI w B p o vs T mv l s ks j W (.string x) (.slice A' n' c') (.bool ob.isNone) ∧ k = 3 * (s.length - j) ∧ j < s.length ∧ j < ks.length ∧ n' ≤ c' ∧ s[j]? = some (x.data.toList, o1) ∧ Bz W B (.slice A' n' c') (ob.getD []) ∧ ks[j]? = some f ∧ olen ob ≤ olen o1 ∧
    (if two = true then ob = o1 ∧ f = 2 else stp (x.data.toList, o1) f (rep (s.take j) ks l) = wth x.data.toList ob (rep (s.take j) ks l)) ∧ ∃ u3 u4 u5 u8 u9 u10 u11 u12 u13 u14 u15 u16 u17 u18 u19 u20 u21 u22 u23 u24 u25 u26 u27 u28 u29 u30 u31 u32 u33 u34 u35 u36 u37 u38 u39 u40 u41 u42 : Value, a = { tmps := #[.pointer (some ⟨p, o, none⟩), .slice A n c, .slice Ak nk ck, u3, u4, u5, .pointer (some ⟨w.heap.size, 0, none⟩), .int .i64 (j : Int), u8, u9, u10, u11, u12, u13, u14, u15, u16, u17, u18, u19, u20, u21, u22, u23, u24, u25, u26, u27, u28, u29, u30, u31, u32, u33, u34, u35, u36, u37, u38, u39, u40, u41, u42], defers := [] }
def RepL (w : World) (B p o : Nat) (vs : List Value) (T : TypeId) (mv : Value) (l : FL) (s : Sn) (ks : List Int) (A : Option Addr) (n c : Nat) (Ak : Option Addr) (nk ck : Nat) (q : Nat) (a : Act) (W : World) (k : Nat) : Prop :=
  (q = 0 ∧ Rep0 w B p o vs T mv l s ks A n c Ak nk ck a W k) ∨ (q = 1 ∧ RepX false w B p o vs T mv l s ks A n c Ak nk ck a W k) ∨ (q = 2 ∧ RepX true w B p o vs T mv l s ks A n c Ak nk ck a W k)

theorem ws_take_le : ∀ (s : Sn) (j : Nat), ws (s.take j) ≤ ws s
  | [], _ => by simp [ws]
  | _ :: _, 0 => by simp [ws]
  | (k, o) :: s, j + 1 => by have := ws_take_le s j; simp only [List.take_succ_cons, ws]; omega
theorem ws_mem : ∀ {s : Sn} {j : Nat} {k : BS} {o : Option BS}, s[j]? = some (k, o) → k.length + olen o ≤ ws s
  | (k, o) :: s, 0, k', o', h => by injection h with h; cases h; simp only [ws]; omega
  | (k, o) :: s, j + 1, k', o', h => by have := ws_mem (s := s) (j := j) h; simp only [ws]; omega
theorem take_snoc {s : Sn} {j : Nat} {x : BS × Option BS} (h : s[j]? = some x) : s.take (j + 1) = s.take j ++ [x] := by
  rw [List.take_add_one, h]; rfl
theorem rep_next {s : Sn} {ks : List Int} {l : FL} {j : Nat} {x : BS × Option BS} {f : Int} (h : s[j]? = some x) (hf : ks[j]? = some f) : rep (s.take (j + 1)) ks l = stp x f (rep (s.take j) ks l) := by
  have hj : j < s.length := by
    rcases Nat.lt_or_ge j s.length with q | q
    · exact q
    · rw [List.getElem?_eq_none q] at h; cases h
  rw [take_snoc h]
  refine rep_snoc x _ ks l ?_
  rw [List.length_take, Nat.min_eq_left (by omega)]
  exact hf
section
variable {w W : World} {B p o j : Nat} {mv a0 a1 a2 : Value} {l : FL} {vs : List Value} {T : TypeId} {s : Sn} {ks : List Int}
theorem RepI.done (h : RepI w B p o vs T mv l s ks j W a0 a1 a2) (hj : j = s.length ∨ j = ks.length) : SetP w B p o vs T mv (rep s ks l) (.returned (.tuple #[])) W := by
  have e : rep (s.take j) ks l = rep s ks l := by
    rcases hj with e | e
    · rw [e, List.take_length]
    · rw [e]; exact rep_take s ks l
  obtain ⟨mv', h1, h2, h3⟩ := h.ex
  rw [e] at h1 h2
  exact ⟨rfl, mv', h1, h2, h.mv, h3⟩
theorem RepI.turn (h : RepI w B p o vs T mv l s ks j W a0 a1 a2) {W' : World} {b0 b1 b2 : Value} (hp : p < w.heap.size) (hm : Mv W W' (· = w.heap.size)) (hx : Bx W' w.heap.size [b0, b1, b2] 84) : RepI w B p o vs T mv l s ks j W' b0 b1 b2 := by
  obtain ⟨mv', h1, h2, h3⟩ := h.ex
  refine ⟨⟨mv', h1.eq (hm.block p h1.lt (by omega)), h2.keep (hm.ks fun k e => by rw [e]; exact not_kd_bx h.x (.inr rfl)) fun b e hb => hm.block b hb fun e' => (by subst e'; exact h2.ne_cells e h.x), h3⟩, (h.mv.trans hm).weak fun k hk e => ?_, hx, h.j1, h.j2⟩
  rcases e with e | e
  · exact e
  · omega
theorem RepI.mo (h : RepI w B p o vs T mv l s ks j W a0 a1 a2) (hmb : ∀ b, mv = .map (some b) → B ≤ b ∧ b < w.heap.size ∧ ¬ Kd w b) : Mo B p w W := h.mv.weak fun k _ e => by
  rcases e with e | e
  · exact .inl e
  · exact .inr ⟨(hmb k e).1, (hmb k e).2.2⟩
theorem RepI.start (hbx : Bx w p vs T) (hc0 : vs[o]? = some mv) (hc1 : vs[o + 1]? = some (.int .i64 (used l : Int))) (hF : Fs w B mv l) (hx : Bx W w.heap.size [a0, a1, a2] 84) (hb : Below w.heap.size w W) : RepI w B p o vs T mv l s ks 0 W a0 a1 a2 := by
  have e : rep (s.take 0) ks l = l := by simp [rep]
  refine ⟨⟨mv, ?_, ?_, fun b e => .inl e⟩, Mv.of hb _, hx, Nat.zero_le _, Nat.zero_le _⟩
  · rw [e, set_same hc0, set_same hc1]; exact hbx.below hb hbx.lt
  · rw [e]; exact hF.keep (Ks.of hb) fun b _ hl => hb.block b hl
theorem RepI.pass (h : RepI w B p o vs T mv l s ks j W a0 a1 a2) {x : BS × Option BS} {f : Int} (hx : s[j]? = some x) (hf : ks[j]? = some f) (h1 : f ≠ 1) (h2 : f ≠ 2) : RepI w B p o vs T mv l s ks (j + 1) W a0 a1 a2 := by
  have e := rep_next (l := l) hx hf
  unfold stp at e
  rw [if_neg h1, if_neg h2] at e
  refine ⟨by rw [e]; exact h.ex, h.mv, h.x, ?_, ?_⟩
  · rcases Nat.lt_or_ge j s.length with q | q
    · exact q
    · rw [List.getElem?_eq_none q] at hx; cases hx
  · rcases Nat.lt_or_ge j ks.length with q | q
    · exact q
    · rw [List.getElem?_eq_none q] at hf; cases hf
/-- Behind a set. -/
theorem RepI.next (h : RepI w B p o vs T mv l s ks j W a0 a1 a2) {mv' : Value} {W' : World} {e : Ending} (hp : p < w.heap.size) (hmb : ∀ b, mv' = .map (some b) → mv = .map (some b) ∨ w.heap.size ≤ b) (hF : Fs W B mv' (rep (s.take j) ks l)) {x : BS × Option BS} {f : Int} {ob : Option BS} (hx : s[j]? = some x) (hf : ks[j]? = some f)
    (hst : stp x f (rep (s.take j) ks l) = wth x.1 ob (rep (s.take j) ks l)) (hs : SetP W B p o ((vs.set o mv').set (o + 1) (.int .i64 (used (rep (s.take j) ks l) : Int))) T mv' (wth x.1 ob (rep (s.take j) ks l)) e W') : RepI w B p o vs T mv l s ks (j + 1) W' a0 a1 a2 := by
  have e := rep_next (l := l) hx hf
  rw [hst] at e
  obtain ⟨_, mv2, g1, g2, g3, g4⟩ := hs
  have hw := h.mv.size
  refine ⟨⟨mv2, ?_, by rw [e]; exact g2, fun b e => ?_⟩, (h.mv.trans g3).weak fun k hk e => ?_, h.x.eq (g3.block _ h.x.lt fun e => ?_), ?_, ?_⟩
  · rw [e]
    rwa [List.set_comm _ _ (by omega : o + 1 ≠ o), List.set_set, List.set_set] at g1
  · rcases g4 b e with e | e
    · exact hmb b e
    · exact .inr (by omega)
  · rcases e with e | e | e
    · exact e
    · exact .inl e
    · rcases hmb k e with e | e
      · exact .inr e
      · omega
  · rcases e with e | e
    · omega
    · exact hF.ne_cells e h.x
  · rcases Nat.lt_or_ge j s.length with q | q
    · exact q
    · rw [List.getElem?_eq_none q] at hx; cases hx
  · rcases Nat.lt_or_ge j ks.length with q | q
    · exact q
    · rw [List.getElem?_eq_none q] at hf; cases hf
end

section
variable {w : World} {B p N o : Nat} {mv : Value} {l : FL} {vs us : List Value} {T : TypeId} {s : Sn} {ks : List Int} {A Ak : Option Addr} {n c nk ck : Nat}
set_option maxHeartbeats 2000000 in
theorem replay_any (hbx : Bx w p vs T) (hc0 : vs[o]? = some mv) (hc1 : vs[o + 1]? = some (.int .i64 (used l : Int))) (hF : Fs w B mv l) (ha : Asc l) (hT : T = 72) (ho : w.ownsRow B 84 3 (.slice A n c) n us) (hr : RowF w B us s)
    (hs : Sti w B p Ak nk ks) (hu : wf l + ws s ≤ 1099511627776) (hp : p < B) (hB : B ≤ w.heap.size) :
    Calls Try.prog 53 #[.pointer (some ⟨p, o, none⟩), .slice A n c, .slice Ak nk ck] w (SetP w B p o vs T mv (rep s ks l)) := by
  have hmb : ∀ b, mv = .map (some b) → B ≤ b ∧ b < w.heap.size ∧ ¬ Kd w b := fun b e => hF.not_kd e
  have hn : n = s.length := by have h1 := ho.1; have h2 := hr.length; omega
  have hnk := hs.len
  have hse := ws_length s
  have HTT := Lib.hid hT
  have HMB := Lib.hid hmb
  have HBX := Lib.hid hbx
  have HC0 := Lib.hid hc0
  have HC1 := Lib.hid hc1
  have HF := Lib.hid hF
  have HA := Lib.hid ha
  have HO := Lib.hid ho
  have HR := Lib.hid hr
  have HS := Lib.hid hs
  have HU := Lib.hid hu
  have Hp := Lib.hid hp
  have HB := Lib.hid hB
  have HN := Lib.hid hn
  have HNK := Lib.hid hnk
  have HSE := Lib.hid hse
  clear hT hbx hc0 hc1 hF ha ho hr hs hu hp hB hmb hn hnk hse
  go_enter Try.func53, Try.ntmps53
  go_wp2
  refine scope012 (RepL w B p o vs T mv l s ks A n c Ak nk ck) (3 * s.length + 1) (Rep0 w B p o vs T mv l s ks A n c Ak nk ck) (RepX false w B p o vs T mv l s ks A n c Ak nk ck) (RepX true w B p o vs T mv l s ks A n c Ak nk ck) (fun _ _ _ _ h => h) (by rfl) (by rfl) (by rfl) ?top ?low ?mid ?first
  case top =>
    rintro a' W k ⟨j, a0, a1, a2, _, hI, hk, rfl, u3, u4, u5, u8, u9, u10, u11, u12, u13, u14, u15, u16, u17, u18, u19, u20, u21, u22, u23, u24, u25, u26, u27, u28, u29, u30, u31, u32, u33, u34, u35, u36, u37, u38, u39, u40, u41, u42, rfl⟩
    have hn := HN.out
    have hnk := HNK.out
    have hse := HSE.out
    have hu := HU.out
    have w1 : wrap64 (j : Int) = (j : Int) := by have := hI.j1; unfold wrap64; omega
    by_cases hj1 : j < s.length
    · by_cases hj2 : j < ks.length
      · have c1 : ¬ (n : Int) ≤ (j : Int) := by omega
        have c2 : ¬ (nk : Int) ≤ (j : Int) := by omega
        have c3 : (j : Int) < (n : Int) := by omega
        have c4 : (j : Int) < (nk : Int) := by omega
        have c5 : (0 : Int) ≤ (j : Int) := by omega
        obtain ⟨⟨key, o1⟩, hsj⟩ : ∃ x, s[j]? = some x := ⟨_, List.getElem?_eq_getElem hj1⟩
        obtain ⟨f, hkj⟩ : ∃ x, ks[j]? = some x := ⟨_, List.getElem?_eq_getElem hj2⟩
        have hmo := hI.mo HMB.out
        obtain ⟨g, x, A', n', c', rfl, hg, r0, r1, r2, hxk, hbz, hnc⟩ := row_item (W := W) HO.out HR.out (fun g e => hI.mv.block g (HO.out.lt g e).2 fun q => by
          have h1 := HO.out.lt g e
          rcases q with q | q
          · have := Hp.out; omega
          · rcases HO.out.2 with ⟨e1, _⟩ | ⟨g', cap, cur, e1, _, hh, _⟩
            · rw [e1] at e; cases e
            · rw [e1] at e
              have : g' = g := by injection e
              subst this
              exact HF.out.ne_cells q hh) (hmo.ks (not_kd_bx HBX.out (.inl HTT.out))) hsj
        subst hxk
        obtain ⟨kb, ko, rfl, hkb, kc⟩ := HS.out.at_ hmo hkj
        have hne : ¬ kb = w.heap.size := by omega
        have hne2 : ¬ w.heap.size = kb := by omega
        have hpw : p < w.heap.size := HBX.out.lt
        have HPW := Lib.hid hpw
        clear hpw
        have x0 : W.cell? ⟨w.heap.size, 0, none⟩ = some a0 := hI.x.cells 0
        have x1 : W.cell? ⟨w.heap.size, 1, none⟩ = some a1 := hI.x.cells 1
        have x2 : W.cell? ⟨w.heap.size, 2, none⟩ = some a2 := hI.x.cells 2
        have f0 := hI.x.free 0
        have f1 := hI.x.free 1
        have f2 := hI.x.free 2
        have HG := Lib.hid hg
        have HI := Lib.hid hI
        have HSJ := Lib.hid hsj
        have HKJ := Lib.hid hkj
        have HBZ := Lib.hid hbz
        have HK := Lib.hid hk
        have HJ1 := Lib.hid hj1
        have HJ2 := Lib.hid hj2
        clear hI hsj hkj hbz hk hj1 hj2 hmo hg hn hnk hse hu hkb
        have turn : ∀ (V : World), V = ((W.setCell ⟨w.heap.size, 0, none⟩ (.string x)).setCell ⟨w.heap.size, 1, none⟩ (.slice A' n' c')).setCell ⟨w.heap.size, 2, none⟩ (.bool o1.isNone) → RepI w B p o vs T mv l s ks j V (.string x) (.slice A' n' c') (.bool o1.isNone) ∧ Ks W V := fun V e => by
          have hm : Mv W V (· = w.heap.size) := by rw [e]; exact (((Mv.setCell _ _ _).trans (Mv.setCell _ _ _)).trans (Mv.setCell _ _ _)).weak fun k _ e => by rcases e with (e | e) | e <;> exact e
          exact ⟨HI.out.turn HPW.out hm (by rw [e]; exact ((HI.out.x.set 0 _).set 1 _).set 2 _), hm.ks fun k e => by rw [e]; exact not_kd_bx HI.out.x (.inr rfl)⟩
        have HT := Lib.hid turn
        clear turn
        by_cases e1 : f = 1
        · subst e1
          go_wp2_with fail
          go_step3
          refine ⟨3 * (s.length - j), by have := HK.out; omega, .inr (.inl ⟨rfl, j, x, A', n', c', 1, o1, o1, (HT.out _ rfl).1, rfl, HJ1.out, HJ2.out, hnc, HSJ.out, HBZ.out.keep (HT.out _ rfl).2, HKJ.out, Nat.le_refl _, ?_, _, _, _, _, _, _, _, _, _, _, _, _, _, _, _, _, _, _, _, _, _, _, _, _, _, _, _, _, _, _, _, _, _, _, _, _, _, _, rfl⟩)⟩
          simp [stp]
        · have b1 : (f == 1) = false := by simp [e1]
          by_cases e2 : f = 2
          · subst e2
            clear e1
            go_wp2_with fail
            go_step3
            exact ⟨3 * (s.length - j), by have := HK.out; omega, .inr (.inr ⟨rfl, j, x, A', n', c', 2, o1, o1, (HT.out _ rfl).1, rfl, HJ1.out, HJ2.out, hnc, HSJ.out, HBZ.out.keep (HT.out _ rfl).2, HKJ.out, Nat.le_refl _, ⟨rfl, rfl⟩, _, _, _, _, _, _, _, _, _, _, _, _, _, _, _, _, _, _, _, _, _, _, _, _, _, _, _, _, _, _, _, _, _, _, _, _, _, _, rfl⟩)⟩
          · have b2 : (f == 2) = false := by simp [e2]
            have HE1 := Lib.hid e1
            have HE2 := Lib.hid e2
            clear e1 e2
            go_wp2_with fail
            go_step3
            exact ⟨3 * (s.length - (j + 1)) + 1, by have := HK.out; have := HJ1.out; omega, .inl ⟨rfl, j + 1, _, _, _, _, (HT.out _ rfl).1.pass HSJ.out HKJ.out HE1.out HE2.out, rfl, (show (j : Int) = ((j + 1 : Nat) : Int) - 1 by omega), _, _, _, _, _, _, _, _, _, _, _, _, _, _, _, _, _, _, _, _, _, _, _, _, _, _, _, _, _, _, _, _, _, _, _, _, _, _, rfl⟩⟩
      · have c1 : ¬ (n : Int) ≤ (j : Int) := by omega
        have c2 : (nk : Int) ≤ (j : Int) := by omega
        have hd := hI.done (.inr (by have := hI.j2; omega))
        have HD := Lib.hid hd
        clear hd hI hn hnk hse hu hj1 hj2 hk
        go_wp2_with fail
        show bodyPost _ _ _ Exit.ret _ _
        go_end0
        exact HD.out
    · have c1 : (n : Int) ≤ (j : Int) := by omega
      have hd := hI.done (.inl (by have := hI.j1; omega))
      have HD := Lib.hid hd
      clear hd hI hn hnk hse hu hj1 hk
      go_wp2_with fail
      show bodyPost _ _ _ Exit.ret _ _
      go_end0
      exact HD.out
  case low =>
    rintro a' W k ⟨j, x, A', n', c', f, o1, ob, hI, hk, hj1, hj2, hnc, hsj, hbz, hkj, hol, hst, u3, u4, u5, u8, u9, u10, u11, u12, u13, u14, u15, u16, u17, u18, u19, u20, u21, u22, u23, u24, u25, u26, u27, u28, u29, u30, u31, u32, u33, u34, u35, u36, u37, u38, u39, u40, u41, u42, rfl⟩
    rw [if_neg (by simp)] at hst
    have hm := ws_mem hsj
    have hxl : x.data.toList.length = x.size := Array.length_toList
    have hu := HU.out
    have hle : wf (rep (s.take j) ks l) ≤ wf l + ws s := by have h1 := wf_rep (s.take j) ks l; have h2 := ws_take_le s j; omega
    have huw := used_wf (rep (s.take j) ks l)
    obtain ⟨mv', g1, g2, g3⟩ := hI.ex
    have hB2 : B ≤ W.heap.size := by have := HB.out; have := hI.mv.size; omega
    have hvl : o + 1 < vs.length := by
      rcases Nat.lt_or_ge (o + 1) vs.length with q | q
      · exact q
      · have := HC1.out; rw [List.getElem?_eq_none q] at this; cases this
    have hset := set_any (o := o) (s := x) (ob := ob) g1 (by rw [List.getElem?_set_ne (by omega), List.getElem?_set_self (by omega)]) (by rw [List.getElem?_set_self (by rw [List.length_set]; omega)]) g2 (asc_rep _ ks HA.out) (by unfold maxLen; omega) hbz HTT.out (by omega) (by omega) Hp.out hB2
    have x0 : W.cell? ⟨w.heap.size, 0, none⟩ = some (.string x) := hI.x.cells 0
    have x1 : W.cell? ⟨w.heap.size, 1, none⟩ = some (.slice A' n' c') := hI.x.cells 1
    have x2 : W.cell? ⟨w.heap.size, 2, none⟩ = some (.bool ob.isNone) := hI.x.cells 2
    have hnx : ∀ e W', SetP W B p o ((vs.set o mv').set (o + 1) (.int .i64 (used (rep (s.take j) ks l) : Int))) T mv' (wth x.data.toList ob (rep (s.take j) ks l)) e W' → e = .returned (.tuple #[]) ∧ RepI w B p o vs T mv l s ks (j + 1) W' (.string x) (.slice A' n' c') (.bool ob.isNone) := fun e W' h => ⟨h.1, hI.next HBX.out.lt g3 g2 hsj hkj hst h⟩
    have HSET := Lib.hid hset
    have HNX := Lib.hid hnx
    have HK := Lib.hid hk
    have HJ1 := Lib.hid hj1
    generalize ob.isNone = gb at x2 HSET HNX
    clear hset hnx hI hsj hbz hkj hol hst hm hxl hu hle huw g1 g2 g3 hB2 hvl hj1 hj2 hk
    go_wp2_with (go_at_call 49; (with_reducible refine HSET.out.mono ?_); intro e W' he; obtain ⟨rfl, hI'⟩ := HNX.out e W' he)
    go_step3
    exact ⟨3 * (s.length - (j + 1)) + 1, by have := HK.out; have := HJ1.out; omega, .inl ⟨rfl, j + 1, _, _, _, _, hI', rfl, (show (j : Int) = ((j + 1 : Nat) : Int) - 1 by omega), _, _, _, _, _, _, _, _, _, _, _, _, _, _, _, _, _, _, _, _, _, _, _, _, _, _, _, _, _, _, _, _, _, _, _, _, _, _, rfl⟩⟩
  case mid =>
    rintro low a' W k ⟨j, x, A', n', c', f, o1, ob, hI, hk, hj1, hj2, hnc, hsj, hbz, hkj, hol, hst, u3, u4, u5, u8, u9, u10, u11, u12, u13, u14, u15, u16, u17, u18, u19, u20, u21, u22, u23, u24, u25, u26, u27, u28, u29, u30, u31, u32, u33, u34, u35, u36, u37, u38, u39, u40, u41, u42, rfl⟩
    rw [if_pos rfl] at hst
    obtain ⟨rfl, rfl⟩ := hst
    have x0 : W.cell? ⟨w.heap.size, 0, none⟩ = some (.string x) := hI.x.cells 0
    have x1 : W.cell? ⟨w.heap.size, 1, none⟩ = some (.slice A' n' c') := hI.x.cells 1
    have f1 := hI.x.free 1
    obtain ⟨_, _, _, ee, hl1, hl2, hl3, _⟩ := hbz.ex
    injection ee with e0 e1 e2
    subst e0; subst e1; subst e2
    have wq : wrap64 ((n' : Int) / 2) = ((n' / 2 : Nat) : Int) := by have h9 := hl3; unfold maxLen at h9; unfold wrap64; omega
    have b1 : (0 : Int) ≤ ((n' / 2 : Nat) : Int) := by omega
    have b2 : ((n' / 2 : Nat) : Int) ≤ (c' : Int) := by omega
    have hn2 : n' / 2 ≤ c' := by omega
    have hpw : p < w.heap.size := HBX.out.lt
    have turn : ∀ (V : World), V = W.setCell ⟨w.heap.size, 1, none⟩ (.slice A' (n' / 2) c') → RepI w B p o vs T mv l s ks j V (.string x) (.slice A' (n' / 2) c') (.bool ob.isNone) ∧ Ks W V := fun V e => by
      have hm : Mv W V (· = w.heap.size) := by rw [e]; exact Mv.setCell _ _ _
      exact ⟨hI.turn hpw hm (by rw [e]; exact hI.x.set 1 _), hm.ks fun k e => by rw [e]; exact not_kd_bx hI.x (.inr rfl)⟩
    have HT := Lib.hid turn
    have HLow := Lib.hid low
    have HBZ := Lib.hid hbz
    have HK := Lib.hid hk
    have HJ1 := Lib.hid hj1
    have HJ2 := Lib.hid hj2
    have HN2 := Lib.hid hn2
    have HSJ := Lib.hid hsj
    have HKJ := Lib.hid hkj
    have HOL := Lib.hid hol
    have hno : (ob.map half).isNone = ob.isNone := by cases ob <;> rfl
    have HNO := Lib.hid hno
    clear low hI turn hbz hk hj1 hj2 hn2 hsj hkj hol hno hl1 hl2 hl3 hpw hnc
    go_wp2_with fail
    go_step3
    rename_i K hK
    refine hK _ _ (HLow.out _ _ _ ⟨j, x, A', n' / 2, c', 2, ob, ob.map half, ?_, HK.out, HJ1.out, HJ2.out, HN2.out, HSJ.out, ?_, HKJ.out, ?_, ?_, _, _, _, _, _, _, _, _, _, _, _, _, _, _, _, _, _, _, _, _, _, _, _, _, _, _, _, _, _, _, _, _, _, _, _, _, _, _, rfl⟩)
    · rw [HNO.out]; exact (HT.out _ rfl).1
    · have h := (HBZ.out.keep (HT.out _ rfl).2).half
      cases ob with
      | none => exact h
      | some b => exact h
    · cases ob with
      | none => exact Nat.le_refl _
      | some b => have := half_length b; simp only [Option.map_some, olen]; omega
    · rw [if_neg (by simp)]
      simp [stp]
  case first =>
    intro top
    have HTop := Lib.hid top
    clear top
    go_wp2_with fail
    go_step3
    rename_i K hK
    refine hK _ _ (HTop.out _ _ _ ⟨0, _, _, _, _, RepI.start HBX.out HC0.out HC1.out HF.out (Bx.new w [.string ⟨#[]⟩, .slice none 0 0, .bool false] 84) ((Below.refl _ _).alloc (Nat.le_refl _) _), rfl, rfl, _, _, _, _, _, _, _, _, _, _, _, _, _, _, _, _, _, _, _, _, _, _, _, _, _, _, _, _, _, _, _, _, _, _, _, _, _, _, rfl⟩)
end
end Go.Proofs.Ytpaaafdnkehmfaa.Vf
