/- Files in memory: bytes that nobody writes to, a map of them by their names, a row of what was done, the box of the whole. No conditions. -/
import Derived.Test.YtpaaafdnkehmfaaVfMath
import Derived.Test.YtpaaafdnkehmfaaGrow
import Derived.Test.YtpaaafdnkehmfaaLists
import Derived.Maps.OwnSet
import Derived.Sort.KeysCollected
namespace Go.Proofs.Ytpaaafdnkehmfaa.Vf
open Go.RowKit
set_option maxRecDepth 100000

/-- The block has these cells. -/
def Bx (w : World) (g : Nat) (vs : List Value) (T : TypeId) : Prop := w.heap[g]? = some (.cells vs.toArray T (0, 0))
theorem Bx.lt {w : World} {g : Nat} {vs : List Value} {T : TypeId} (h : Bx w g vs T) : g < w.heap.size := (Array.getElem?_eq_some_iff.1 h).1
theorem Bx.cells {w : World} {g : Nat} {vs : List Value} {T : TypeId} (h : Bx w g vs T) (j : Nat) : w.cell? ⟨g, j, none⟩ = vs[j]? := by
  rw [cell_of_row _ _ _ _ _ _ h]
  simp
theorem Bx.free {w : World} {g : Nat} {vs : List Value} {T : TypeId} (h : Bx w g vs T) (j : Nat) : w.frozen? ⟨g, j, none⟩ = false := by
  have h' : w.heap[g]? = some (.cells vs.toArray T (0, 0)) := h
  simp [World.frozen?, h']
theorem Bx.set {w : World} {g : Nat} {vs : List Value} {T : TypeId} (h : Bx w g vs T) (j : Nat) (v : Value) : Bx (w.setCell ⟨g, j, none⟩ v) g (vs.set j v) T := by
  unfold Bx
  rw [heap_setCell_same w g j _ _ _ h]
  simp
theorem Bx.eq {w w' : World} {g : Nat} {vs : List Value} {T : TypeId} (h : Bx w g vs T) (e : w'.heap[g]? = w.heap[g]?) : Bx w' g vs T := e.trans h
theorem Bx.below {w w' : World} {g B : Nat} {vs : List Value} {T : TypeId} (h : Bx w g vs T) (hb : Below B w w') (hg : g < B) : Bx w' g vs T := (hb.block _ hg).trans h
theorem Bx.new (w : World) (vs : List Value) (T : TypeId) : Bx (w.alloc (Obj.cells vs.toArray T)) w.heap.size vs T := heap_alloc_new w _
theorem Bx.alloc {w : World} {g : Nat} {vs : List Value} {T : TypeId} (h : Bx w g vs T) (o : Obj) : Bx (w.alloc o) g vs T := by
  unfold Bx
  rw [heap_alloc_old w o h.lt]
  exact h

/-- Only the blocks of N may be others now. -/
structure Mv (w w' : World) (N : Nat → Prop) : Prop where
  os : w'.os = w.os
  tape : w'.tape = w.tape
  output : w'.output = w.output
  size : w.heap.size ≤ w'.heap.size
  block : ∀ k, k < w.heap.size → ¬ N k → w'.heap[k]? = w.heap[k]?
theorem Mv.trans {w w1 w2 : World} {N M : Nat → Prop} (h : Mv w w1 N) (h2 : Mv w1 w2 M) : Mv w w2 (fun k => N k ∨ M k) :=
  ⟨h2.os.trans h.os, h2.tape.trans h.tape, h2.output.trans h.output, Nat.le_trans h.size h2.size, fun k hk hn => (h2.block k (Nat.lt_of_lt_of_le hk h.size) (fun e => hn (.inr e))).trans (h.block k hk (fun e => hn (.inl e)))⟩
theorem Mv.weak {w w1 : World} {N M : Nat → Prop} (h : Mv w w1 N) (hm : ∀ k, k < w.heap.size → N k → M k) : Mv w w1 M := ⟨h.os, h.tape, h.output, h.size, fun k hk hn => h.block k hk fun e => hn (hm k hk e)⟩
theorem Mv.of {w w1 : World} (h : Below w.heap.size w w1) (N : Nat → Prop) : Mv w w1 N := ⟨h.os, h.tape, h.output, h.size, fun k hk _ => h.block k hk⟩
theorem Mv.grown {w w1 : World} {r : Option Nat} (h : w.grownBy w1 r) : Mv w w1 (fun k => r = some k) := ⟨h.os, h.tape, h.output, h.size, fun k hk hn => h.block k hk fun e => hn e.symm⟩
theorem Mv.turned {w w1 : World} {b : Nat} (h : w.mapTurned w1 b) : Mv w w1 (fun k => k = b) := (Mv.grown h.grown).weak fun k _ e => by injection e with e; exact e.symm
theorem Mv.refl (w : World) (N : Nat → Prop) : Mv w w N := ⟨rfl, rfl, rfl, Nat.le_refl _, fun _ _ _ => rfl⟩
theorem Mv.toB {w w1 : World} {N : Nat → Prop} {B : Nat} (h : Mv w w1 N) (hB : B ≤ w.heap.size) (hN : ∀ k, N k → B ≤ k) : Below B w w1 :=
  { os := h.os, tape := h.tape, output := h.output, size := h.size, block := fun k hk => h.block k (Nat.lt_of_lt_of_le hk hB) fun e => by have := hN k e; omega }
theorem Mv.row {w w1 : World} {N : Nat → Prop} (h : Mv w w1 N) {base size n c : Nat} {e : TypeId} {A : Option Addr} {vs : List Value} (ho : w.ownsRow base e size (.slice A n c) n vs) (hn : ∀ k, (Value.slice A n c).ownBlock = some k → ¬ N k) : w1.ownsRow base e size (.slice A n c) n vs := by
  have hlt := ho.lt
  obtain ⟨h1, h2⟩ := ho
  refine ⟨h1, ?_⟩
  rcases h2 with h2 | ⟨g, cap, cur, e1, hg, hh, hr⟩
  · exact .inl h2
  · have hb : (Value.slice A n c).ownBlock = some g := by rw [e1]; rfl
    exact .inr ⟨g, cap, cur, e1, hg, (h.block g (hlt g hb).2 (hn g hb)).trans hh, hr⟩
theorem Mv.setCell (w : World) (a : Addr) (v : Value) : Mv w (w.setCell a v) (fun k => k = a.block) :=
  ⟨rfl, rfl, rfl, by simp [World.setCell], fun k _ hk => Below.heap_setCell w a v k hk⟩

/-- Cells that are neither the box of files nor a row of what was done. -/
def Kd (w : World) (k : Nat) : Prop := ∃ cs t fz, w.heap[k]? = some (.cells cs t fz) ∧ t ≠ 72 ∧ t ≠ 84
theorem Kd.eq {w w' : World} {k : Nat} (h : Kd w k) (e : w'.heap[k]? = w.heap[k]?) : Kd w' k := by
  obtain ⟨cs, t, fz, h, ht⟩ := h
  exact ⟨cs, t, fz, e.trans h, ht⟩
theorem Kd.lt {w : World} {k : Nat} (h : Kd w k) : k < w.heap.size := by
  obtain ⟨cs, t, fz, h, ht⟩ := h
  exact (Array.getElem?_eq_some_iff.1 h).1
theorem not_kd_bx {w : World} {g : Nat} {vs : List Value} {T : TypeId} (h : Bx w g vs T) (hT : T = 72 ∨ T = 84) : ¬ Kd w g := by
  rintro ⟨cs, t, fz, h', h1, h2⟩
  have h0 : w.heap[g]? = some (.cells vs.toArray T (0, 0)) := h
  rw [h0] at h'
  injection h' with h'
  injection h' with _ e _
  rcases hT with e1 | e1
  · exact h1 (e.symm.trans e1)
  · exact h2 (e.symm.trans e1)
theorem not_kd_map {w : World} {g : Nat} {es : Array MapEntry} {c : Nat} (h : w.heap[g]? = some (.map es c)) : ¬ Kd w g := by
  rintro ⟨cs, t, fz, h', _⟩
  rw [h] at h'
  cases h'
/-- Such cells stay. -/
def Ks (w w' : World) : Prop := ∀ k, Kd w k → w'.heap[k]? = w.heap[k]?
theorem Ks.trans {w w1 w2 : World} (h : Ks w w1) (h2 : Ks w1 w2) : Ks w w2 := fun k hk => (h2 k (hk.eq (h k hk))).trans (h k hk)
theorem Ks.of {w w1 : World} (h : Below w.heap.size w w1) : Ks w w1 := fun k hk => h.block k hk.lt
theorem Mv.ks {w w1 : World} {N : Nat → Prop} (h : Mv w w1 N) (hN : ∀ k, N k → ¬ Kd w k) : Ks w w1 := fun k hk => h.block k hk.lt fun e => hN k e hk

/-- Bytes that nobody writes to. -/
structure Bz (w : World) (B : Nat) (v : Value) (l : BS) : Prop where
  ex : ∃ A n c, v = .slice A n c ∧ n = l.length ∧ n ≤ c ∧ c ≤ maxLen ∧ (l ≠ [] → ∃ g o cur fz, B ≤ g ∧ A = some ⟨g, o, none⟩ ∧ w.heap[g]? = some (.cells cur 5 fz) ∧ ∀ (j : Nat) (u : UInt8), l[j]? = some u → cur[o + j]? = some (byt u))
theorem Bz.nil (w : World) (B : Nat) : Bz w B (.slice none 0 0) [] := ⟨none, 0, 0, rfl, rfl, Nat.le_refl _, Nat.zero_le _, fun h => absurd rfl h⟩
theorem Bz.keep {w w' : World} {B : Nat} {v : Value} {l : BS} (h : Bz w B v l) (hk : Ks w w') : Bz w' B v l := by
  obtain ⟨A, n, c, e, e2, h1, h2, h3⟩ := h.ex
  refine ⟨A, n, c, e, e2, h1, h2, fun hl => ?_⟩
  obtain ⟨g, o, cur, fz, hB, e3, hg, hc⟩ := h3 hl
  exact ⟨g, o, cur, fz, hB, e3, (hk g ⟨cur, _, fz, hg, by decide, by decide⟩).trans hg, hc⟩
theorem Bz.more {w : World} {B B' : Nat} {v : Value} {l : BS} (h : Bz w B v l) (hB : B' ≤ B) : Bz w B' v l := by
  obtain ⟨A, n, c, e, e2, h1, h2, h3⟩ := h.ex
  refine ⟨A, n, c, e, e2, h1, h2, fun hl => ?_⟩
  obtain ⟨g, o, cur, fz, hg, r⟩ := h3 hl
  exact ⟨g, o, cur, fz, Nat.le_trans hB hg, r⟩
theorem Bz.sees {w : World} {B : Nat} {v : Value} {l : BS} (h : Bz w B v l) : ∃ A n c, v = .slice A n c ∧ Sees w w.heap.size A n l ∧ n ≤ c ∧ c ≤ maxLen := by
  obtain ⟨A, n, c, e, e2, h1, h2, h3⟩ := h.ex
  refine ⟨A, n, c, e, ⟨e2, fun j u hu => ?_⟩, h1, h2⟩
  obtain ⟨g, o, cur, fz, _, e3, hg, hc⟩ := h3 (by rintro rfl; cases hu)
  exact ⟨⟨g, o, none⟩, e3, (Array.getElem?_eq_some_iff.1 hg).1, by rw [Addr.add_lit]; exact (cell_of_row w g _ cur _ _ hg).trans (hc j u hu)⟩
theorem Bz.of_own {w : World} {base n c : Nat} {A : Option Addr} {l : BS} (h : w.ownsRow base 5 1 (.slice A n c) n (byts l)) : Bz w base (.slice A n c) l := by
  have hl := h.1
  rw [byts_length] at hl
  rcases h.2 with ⟨e, hn⟩ | ⟨g, cap, cur, e, hbg, hh, h1, h2, h3, h4⟩
  · injection e with e1 e2 e3
    subst e1; subst e2; subst e3
    obtain rfl : l = [] := List.eq_nil_of_length_eq_zero (by omega)
    exact Bz.nil w _
  · injection e with e1 e2 e3
    subst e1; subst e3
    refine ⟨_, _, _, rfl, by omega, h1, h2, fun _ => ⟨g, 0, cur, _, hbg, rfl, hh, fun j u hu => ?_⟩⟩
    have hj : j < l.length := by
      rcases Nat.lt_or_ge j l.length with q | q
      · exact q
      · rw [List.getElem?_eq_none q] at hu; cases hu
    have h5 : (cur.toList.take (n * 1))[j]? = some (byt u) := by rw [h4, byts, List.getElem?_map, hu]; rfl
    rw [List.getElem?_take] at h5
    split at h5
    · rw [Nat.zero_add]; simpa using h5
    · cases h5
/-- Its first half. -/
theorem Bz.half {w : World} {B : Nat} {A : Option Addr} {n c : Nat} {l : BS} (h : Bz w B (.slice A n c) l) : Bz w B (.slice A (n / 2) c) (half l) := by
  obtain ⟨A', n', c', e, e2, h1, h2, h3⟩ := h.ex
  injection e with ea eb ec
  subst ea; subst eb; subst ec
  refine ⟨A, n / 2, c, rfl, by rw [half_length, e2], by omega, h2, fun hl => ?_⟩
  have hl' : l ≠ [] := by rintro rfl; exact hl rfl
  obtain ⟨g, o, cur, fz, hB, e3, hg, hc⟩ := h3 hl'
  refine ⟨g, o, cur, fz, hB, e3, hg, fun j u hu => hc j u ?_⟩
  rw [Vf.half, List.getElem?_take] at hu
  split at hu
  · exact hu
  · cases hu

/-- Values of a map, as they stand. -/
def Rv (v : Value) : Option (DataW Value × List MemPlace) := some (.held v, [])
theorem lawK : Maps.Keyed Try.prog 9 := Maps.string_keyed Try.underlying9
abbrev Ow (w : World) (b : Nat) (D : DataW Value) : Prop := w.ownsMap Try.prog 9 Rv b (Maps.size D) D
theorem Ow.of {w : World} {b n : Nat} {D : DataW Value} (h : w.ownsMap Try.prog 9 Rv b n D) : Ow w b D := by
  obtain ⟨es, clock, hb, F, hs, rfl⟩ := h
  exact ⟨es, clock, hb, F, by simp [Maps.size, length_sorted], rfl⟩
theorem Ow.eq {w w' : World} {b : Nat} {D : DataW Value} (h : Ow w b D) (e : w'.heap[b]? = w.heap[b]?) : Ow w' b D := by
  obtain ⟨es, clock, hb, r⟩ := h
  exact ⟨es, clock, e.trans hb, r⟩
theorem Ow.not_kd {w : World} {b : Nat} {D : DataW Value} (h : Ow w b D) : ¬ Kd w b := by
  obtain ⟨es, clock, hb, _⟩ := h
  exact not_kd_map hb
theorem keyLit (k : BS) : WideAt.IsKeyLit (.string k) := by first | trivial | exact rfl | simp [WideAt.IsKeyLit]
/-- The map has the files l. -/
structure FsD (w : World) (B : Nat) (l : FL) (D : DataW Value) : Prop where
  has : ∀ k, Maps.has D (.string k) = (fnd l k).isSome
  at_ : ∀ k b, fnd l k = some b → ∃ v, (∀ z, D.atKey (.string k) z = .held v) ∧ Bz w B v b
theorem FsD.keep {w w' : World} {B : Nat} {l : FL} {D : DataW Value} (h : FsD w B l D) (hk : Ks w w') : FsD w' B l D :=
  ⟨h.has, fun k b hb => by obtain ⟨v, h1, h2⟩ := h.at_ k b hb; exact ⟨v, h1, h2.keep hk⟩⟩
theorem FsD.empty (w : World) (B : Nat) : FsD w B [] (.map []) := ⟨fun k => rfl, fun k b h => by cases h⟩
theorem FsD.put {w : World} {B : Nat} {l : FL} {D : DataW Value} (h : FsD w B l D) (hD : Maps.IsMap D) (ha : Asc l) {k b : BS} {v : Value} (hb : Bz w B v b) : FsD w B (wth k (some b) l) (D.put (.string k) (.held v)) := by
  refine ⟨fun j => ?_, fun j c hc => ?_⟩
  · rw [fnd_wth k j _ ha]
    by_cases e : j = k
    · rw [if_pos e, e, Maps.has_put_same hD (keyLit k)]; rfl
    · rw [if_neg e, Maps.has_put_other (by intro e2; injection e2 with e2; exact e e2), h.has]
  · rw [fnd_wth k j _ ha] at hc
    by_cases e : j = k
    · rw [if_pos e] at hc
      cases hc
      rw [e]
      exact ⟨v, fun z => Maps.atKey_put_same hD (keyLit k) _ z, hb⟩
    · rw [if_neg e] at hc
      obtain ⟨u, h1, h2⟩ := h.at_ j c hc
      exact ⟨u, fun z => (Maps.atKey_put_other (by intro e2; injection e2 with e2; exact e e2) _ z).trans (h1 z), h2⟩
theorem FsD.del {w : World} {B : Nat} {l : FL} {D : DataW Value} (h : FsD w B l D) (ha : Asc l) (k : BS) : FsD w B (wth k none l) (D.del (.string k)) := by
  refine ⟨fun j => ?_, fun j c hc => ?_⟩
  · rw [fnd_wth k j _ ha]
    by_cases e : j = k
    · rw [if_pos e, e, Maps.has_del_same]; rfl
    · rw [if_neg e, Maps.has_del_other (by intro e2; injection e2 with e2; exact e e2), h.has]
  · rw [fnd_wth k j _ ha] at hc
    by_cases e : j = k
    · rw [if_pos e] at hc
      cases hc
    · rw [if_neg e] at hc
      obtain ⟨u, h1, h2⟩ := h.at_ j c hc
      exact ⟨u, fun z => (Maps.atKey_del_other (by intro e2; injection e2 with e2; exact e e2) z).trans (h1 z), h2⟩
theorem names_nodup {l : FL} (ha : Asc l) : (l.map (·.1)).Nodup := by
  refine List.pairwise_map.2 (ha.imp fun h => lt_ne h)
theorem FsD.perm {w : World} {B : Nat} {l : FL} {D : DataW Value} {b : Nat} (h : FsD w B l D) (ho : Ow w b D) (ha : Asc l) : (l.map (·.1)).Perm (strKeys D) := by
  obtain ⟨es, hD, hpw, _⟩ := World.ownsMap.entries ho lawK
  obtain ⟨es', hD', hko⟩ := World.ownsMap.keysOf ho
  obtain rfl : es = es' := by rw [hD] at hD'; simpa using hD'
  subst hD
  exact perm_strKeys hpw (fun p hp => by obtain ⟨v, hv⟩ := hko p hp; obtain ⟨x, _, hx, _⟩ := Maps.keyOf_str Try.underlying9 hv; exact ⟨x, hx⟩) (names_nodup ha) (fun x => by rw [h.has, fnd_isSome])
theorem FsD.size {w : World} {B : Nat} {l : FL} {D : DataW Value} {b : Nat} (h : FsD w B l D) (ho : Ow w b D) (ha : Asc l) : Maps.size D = l.length := by
  have hp := (h.perm ho ha).length_eq
  rw [List.length_map] at hp
  rw [hp]
  obtain ⟨es, rfl⟩ := World.ownsMap.isMap ho
  simp [strKeys, Maps.size]
theorem FsD.sorted {w : World} {B : Nat} {l : FL} {D : DataW Value} {b : Nat} (h : FsD w B l D) (ho : Ow w b D) (ha : Asc l) {ss : List BS} (hp : ss.Perm (strKeys D)) : ss.mergeSort (fun x y => decide (x ≤ y)) = l.map (·.1) := by
  refine (mergeSort_of_perm (hp.trans (h.perm ho ha).symm)).trans ?_
  refine List.mergeSort_of_pairwise (List.pairwise_map.2 (ha.imp fun {a b} h => ?_))
  simpa [leB] using List.le_of_lt h

/-- A map's value: files l; its block is behind B. -/
def Fs (w : World) (B : Nat) (mv : Value) (l : FL) : Prop := (mv = .map none ∧ l = []) ∨ ∃ b D, mv = .map (some b) ∧ B ≤ b ∧ Ow w b D ∧ FsD w B l D
theorem Fs.keep {w w' : World} {B : Nat} {mv : Value} {l : FL} (h : Fs w B mv l) (hk : Ks w w') (hm : ∀ b, mv = .map (some b) → b < w.heap.size → w'.heap[b]? = w.heap[b]?) : Fs w' B mv l := by
  rcases h with h | ⟨b, D, e, hB, ho, hF⟩
  · exact .inl h
  · exact .inr ⟨b, D, e, hB, ho.eq (hm b e (World.ownsMap.lt ho)), hF.keep hk⟩
theorem Fs.not_kd {w : World} {B : Nat} {mv : Value} {l : FL} (h : Fs w B mv l) {b : Nat} (e : mv = .map (some b)) : B ≤ b ∧ b < w.heap.size ∧ ¬ Kd w b := by
  rcases h with ⟨h, _⟩ | ⟨b', D, e', hB, ho, hF⟩
  · rw [h] at e; cases e
  · rw [e] at e'; cases e'
    exact ⟨hB, World.ownsMap.lt ho, ho.not_kd⟩
theorem Fs.mval {w : World} {B : Nat} {mv : Value} {l : FL} (h : Fs w B mv l) : ∃ m, mv = .map m := by
  rcases h with ⟨h, _⟩ | ⟨b', D, e', _⟩
  · exact ⟨_, h⟩
  · exact ⟨_, e'⟩

/-- What was done, a row of it. -/
def RowF (w : World) (B : Nat) : List Value → Sn → Prop
  | [], [] => True
  | .string s :: v :: .bool g :: vs, (k, o) :: r => s.data.toList = k ∧ g = o.isNone ∧ Bz w B v (o.getD []) ∧ RowF w B vs r
  | _, _ => False
theorem RowF.keep {w w' : World} {B : Nat} (hk : Ks w w') : ∀ {vs : List Value} {s : Sn}, RowF w B vs s → RowF w' B vs s
  | [], [], _ => trivial
  | .string _ :: _ :: .bool _ :: _, (_, _) :: _, ⟨h1, h2, h3, h4⟩ => ⟨h1, h2, h3.keep hk, RowF.keep hk h4⟩
theorem RowF.app {w : World} {B : Nat} : ∀ {vs us : List Value} {s t : Sn}, RowF w B vs s → RowF w B us t → RowF w B (vs ++ us) (s ++ t)
  | [], _, [], _, _, h2 => h2
  | .string _ :: _ :: .bool _ :: _, _, (_, _) :: _, _, ⟨h1, h2, h3, h4⟩, h5 => ⟨h1, h2, h3, RowF.app h4 h5⟩
theorem RowF.length {w : World} {B : Nat} : ∀ {vs : List Value} {s : Sn}, RowF w B vs s → vs.length = s.length * 3
  | [], [], _ => rfl
  | .string _ :: _ :: .bool _ :: _, (_, _) :: _, ⟨_, _, _, h4⟩ => by
    have := RowF.length h4
    simp only [List.length_cons]
    omega
theorem RowF.get {w : World} {B : Nat} : ∀ {vs : List Value} {s : Sn} (i : Nat) {k : BS} {o : Option BS}, RowF w B vs s → s[i]? = some (k, o) → ∃ x v, vs[i * 3]? = some (.string x) ∧ vs[i * 3 + 1]? = some v ∧ vs[i * 3 + 2]? = some (.bool o.isNone) ∧ x.data.toList = k ∧ Bz w B v (o.getD [])
  | [], [], _, _, _, _, h => by cases h
  | .string x :: v :: .bool g :: vs, (k, o) :: r, 0, k', o', ⟨h1, h2, h3, h4⟩, h => by
    injection h with h
    cases h
    exact ⟨x, v, rfl, rfl, by rw [h2]; rfl, h1, h3⟩
  | .string x :: v :: .bool g :: vs, (k, o) :: r, i + 1, k', o', ⟨h1, h2, h3, h4⟩, h => by
    obtain ⟨x', v', g0, g1, g2, g3, g4⟩ := RowF.get i h4 h
    refine ⟨x', v', ?_, ?_, ?_, g3, g4⟩
    · rw [show (i + 1) * 3 = i * 3 + 3 by omega]; simpa using g0
    · rw [show (i + 1) * 3 + 1 = i * 3 + 1 + 3 by omega]; simpa using g1
    · rw [show (i + 1) * 3 + 2 = i * 3 + 2 + 3 by omega]; simpa using g2

/-- The box of files. -/
abbrev bxV (V : Vm) (m1 m2 : Value) (A : Option Addr) (n c : Nat) : List Value :=
  [m1, .int .i64 (used V.now : Int), m2, .int .i64 (used V.fl : Int), .slice A n c, .int .i64 V.room, .int .i64 (V.ops : Int), .int .i64 V.stop, .bool V.dead]
structure VpAt (w : World) (B p : Nat) (V : Vm) (m1 m2 : Value) (A : Option Addr) (n c : Nat) (vs : List Value) : Prop where
  box : Bx w p (bxV V m1 m2 A n c) 72
  f1 : Fs w B m1 V.now
  f2 : Fs w B m2 V.fl
  far : ∀ b, m1 = .map (some b) → m2 ≠ .map (some b)
  own : w.ownsRow B 84 3 (.slice A n c) n vs
  row : RowF w B vs V.since
  lt : p < B
  le : B ≤ w.heap.size
def Vp (w : World) (B p : Nat) (V : Vm) : Prop := ∃ m1 m2 A n c vs, VpAt w B p V m1 m2 A n c vs
theorem VpAt.len {w : World} {B p : Nat} {V : Vm} {m1 m2 : Value} {A : Option Addr} {n c : Nat} {vs : List Value} (h : VpAt w B p V m1 m2 A n c vs) : n = V.since.length := by
  have h1 := h.own.1
  have h2 := h.row.length
  omega
theorem VpAt.below {w w' : World} {B p : Nat} {V : Vm} {m1 m2 : Value} {A : Option Addr} {n c : Nat} {vs : List Value} (h : VpAt w B p V m1 m2 A n c vs) (hb : Below w.heap.size w w') : VpAt w' B p V m1 m2 A n c vs :=
  ⟨h.box.below hb h.box.lt, h.f1.keep (Ks.of hb) fun b _ hl => hb.block b hl, h.f2.keep (Ks.of hb) fun b _ hl => hb.block b hl, h.far, (Mv.of hb (fun _ => False)).row h.own fun _ _ => id, h.row.keep (Ks.of hb), h.lt, Nat.le_trans h.le hb.size⟩
theorem Vp.below {w w' : World} {B p : Nat} {V : Vm} (h : Vp w B p V) (hb : Below w.heap.size w w') : Vp w' B p V := by
  obtain ⟨m1, m2, A, n, c, vs, h⟩ := h
  exact ⟨m1, m2, A, n, c, vs, h.below hb⟩
abbrev bx0 (V : Vm) : List Value := bxV V (.map none) (.map none) none 0 0
theorem Vp.fresh {w : World} {B p : Nat} {n : Int} (h : Bx w p (bx0 (Vm.new n)) 72) (h1 : p < B) (h2 : B ≤ w.heap.size) : Vp w B p (Vm.new n) :=
  ⟨_, _, _, _, _, [], h, .inl ⟨rfl, rfl⟩, .inl ⟨rfl, rfl⟩, (fun b e => by cases e), World.ownsRow_nil _ _ _ _, trivial, h1, h2⟩

/-- Of what lay in memory only the box at p may be other, and, from B on, maps and rows of what was done. -/
abbrev Mo (B p : Nat) (w w' : World) : Prop := Mv w w' fun k => k = p ∨ (B ≤ k ∧ ¬ Kd w k)
theorem Mo.refl (B p : Nat) (w : World) : Mo B p w w := Mv.refl w _
theorem Mo.trans {B p : Nat} {w w1 w2 : World} (h : Mo B p w w1) (h2 : Mo B p w1 w2) : Mo B p w w2 :=
  ⟨h2.os.trans h.os, h2.tape.trans h.tape, h2.output.trans h.output, Nat.le_trans h.size h2.size, fun k hk hn => by
    have e := h.block k hk hn
    refine (h2.block k (Nat.lt_of_lt_of_le hk h.size) fun g => hn ?_).trans e
    rcases g with g | ⟨g1, g2⟩
    · exact .inl g
    · exact .inr ⟨g1, fun q => g2 (q.eq e)⟩⟩
theorem Mo.of {B p : Nat} {w w1 : World} (h : Below w.heap.size w w1) : Mo B p w w1 := Mv.of h _
theorem Mo.below {B p C : Nat} {w w1 : World} (h : Mo B p w w1) (h1 : C ≤ B) (h2 : C ≤ p) (h3 : C ≤ w.heap.size) : Below C w w1 :=
  h.toB h3 fun k e => by rcases e with e | ⟨e, _⟩ <;> omega
theorem Mo.ks {B p : Nat} {w w1 : World} (h : Mo B p w w1) (hp : ¬ Kd w p) : Ks w w1 := Mv.ks h fun k e => by
  rcases e with e | ⟨_, e⟩
  · rw [e]; exact hp
  · exact e
/-- A call did it: what it answers, what the files are now. -/
def Did (e0 : Value) (V' : Vm) (B p : Nat) (w : World) (e : Ending) (w' : World) : Prop := e = .returned e0 ∧ Vp w' B p V' ∧ Mo B p w w'
theorem Vp.not_kd {w : World} {B p : Nat} {V : Vm} (h : Vp w B p V) : ¬ Kd w p := by
  obtain ⟨m1, m2, A, n, c, vs, h⟩ := h
  exact not_kd_bx h.box (.inl rfl)
end Go.Proofs.Ytpaaafdnkehmfaa.Vf
