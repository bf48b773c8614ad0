/- merge's laws: rows of values, name by name. No conditions. -/
import Derived.Test.YtchoipmfngcdoaaMgApM
import Derived.Test.YtchoipmfngcdoaaMwMgFrom
import Derived.Test.YtchoipmfngcdoaaMwMgWide
namespace Go.Proofs.Ytchoipmfngcdoaa.Mg
open Go.RowKit Go.Proofs.Ytchoipmfngcdoaa.Pt Go.Proofs.Ytchoipmfngcdoaa.Df Go.Proofs.Ytchoipmfngcdoaa.Sc Go.Proofs.Ytchoipmfngcdoaa.Cl
set_option maxRecDepth 100000

/-- A value's name; what stands at a row's name: 0: none; what is told of it. -/
def vB (k : Nat) : ByteArray := ⟨#[UInt8.ofNat (48 + k)]⟩
def vO : Nat → Op
  | 0 => ⟨false, .nil⟩
  | k + 1 => oV (vB (k + 1))
def vS : Nat → ByteArray
  | 0 => ⟨#[]⟩
  | k + 1 => vB (k + 1)
theorem vB_inj {p q : Nat} (hp : p < 4) (hq : q < 4) (h : vB p = vB q) : p = q := by
  have h1 : UInt8.ofNat (48 + p) = UInt8.ofNat (48 + q) := by simpa [vB] using h
  have h2 := congrArg UInt8.toNat h1
  simp only [UInt8.toNat_ofNat'] at h2
  omega
theorem vO_is (k : Nat) : (vO k).is = decide (k ≠ 0) := by cases k <;> simp [vO]
theorem vO_inj {p q : Nat} (hp : p < 4) (hq : q < 4) (h : vO p = vO q) : p = q := by
  cases p with
  | zero => cases q with
    | zero => rfl
    | succ q => simp [vO] at h
  | succ p => cases q with
    | zero => simp [vO] at h
    | succ q =>
      have : vB (p + 1) = vB (q + 1) := by simpa [vO] using h
      exact vB_inj hp hq this
theorem one_at (s : ByteArray) : bl (.cons s .nil .nil) s = ⟨true, .nil⟩ := by
  have h := with_is (name := s) (x := .nil) (t := .nil)
  have e : (Tr.nil).withT s .nil = .cons s .nil .nil := rfl
  rw [e] at h
  rw [bl, h.1, h.2]
theorem one_not {s q : ByteArray} (h : q ≠ s) : bl (.cons s .nil .nil) q = ⟨false, .nil⟩ := by
  have h := with_other (name := s) (q := q) (x := .nil) (ne_beq h) (t := .nil) nil_asc
  have e : (Tr.nil).withT s .nil = .cons s .nil .nil := rfl
  rw [e] at h
  rw [bl, h.1, h.2]; rfl
theorem vO_below {k q : Nat} (hk : k < 4) (hq : q < 4) (h : k ≠ q) : (vO k).below (vB q) = ⟨false, .nil⟩ := by
  cases k with
  | zero => rfl
  | succ k => exact one_not fun e => h (vB_inj hk hq e.symm)
theorem vO_k (k : Nat) : OpK (vO k) := by
  cases k with
  | zero => exact k_nil false
  | succ k => exact k_val _

/-- What comes of a name; what is told of it. -/
def res (p q r : Nat) : Nat × Nat × Nat := if q = r then (q, q, q) else if p = q then (r, r, r) else if p = r then (q, q, q) else (p, q, r)
def tld (p q r : Nat) : Option Int := if q = r ∨ p = q ∨ p = r then none else some (if q = 0 ∨ r = 0 then kGone else kShape)
def tl (s : ByteArray) : Option Int → List (List ByteArray × Int)
  | none => []
  | some k => [([s], k)]
theorem sub_val {N p q r : Nat} (s : ByteArray) (hp : p < 4) (hq : q < 4) (hr : r < 4) : mrg oneS (N + 1 + 1) 1 [s] (vO p) (vO q) (vO r) = ⟨vO (res p q r).1, vO (res p q r).2.1, vO (res p q r).2.2, tl s (tld p q r)⟩ := by
  unfold res tld
  by_cases h1 : q = r
  · subst h1
    rw [mrg_eq, if_pos (op_refl _), if_pos rfl, if_pos (.inl rfl)]
    rfl
  · by_cases h2 : p = q
    · subst h2
      rw [mrg_old (.inl ⟨rfl, rfl⟩), if_neg h1, if_pos rfl, if_pos (.inr (.inl rfl))]
      rfl
    · by_cases h3 : p = r
      · subst h3
        rw [mrg_old (.inr ⟨rfl, rfl⟩), if_neg h1, if_neg h2, if_pos rfl, if_pos (.inr (.inr rfl))]
        rfl
      · rw [if_neg h1, if_neg h2, if_neg h3, if_neg (fun e => e.elim h1 fun e => e.elim h2 h3)]
        have n1 : vO q ≠ vO r := fun e => h1 (vO_inj hq hr e)
        have n2 : vO q ≠ vO p := fun e => h2 (vO_inj hq hp e).symm
        have n3 : vO r ≠ vO p := fun e => h3 (vO_inj hr hp e).symm
        by_cases h4 : q = 0 ∨ r = 0
        · rw [if_pos h4, mrg_took n1 n2 n3 (by rw [vO_is, vO_is]; rcases h4 with e | e <;> simp [e])]
          rfl
        · rw [if_neg h4]
          have hq0 : q ≠ 0 := fun e => h4 (.inl e)
          have hr0 : r ≠ 0 := fun e => h4 (.inr e)
          obtain ⟨q', rfl⟩ : ∃ q', q = q' + 1 := ⟨q - 1, by omega⟩
          obtain ⟨r', rfl⟩ : ∃ r', r = r' + 1 := ⟨r - 1, by omega⟩
          rw [mrg_clash (u := vB (q' + 1)) (v := vB (r' + 1)) ⟨vO_k _, vO_k _, vO_k _⟩ rfl rfl n1 n2 n3 one_lvl1 (fun e => h1 (vB_inj hq hr e)) (congrArg Op.is (one_at _)) (congrArg Op.is (one_at _))
            ((vO_below hr hq (Ne.symm h1)).trans (vO_below hp hq h2).symm) ((vO_below hq hr h1).trans (vO_below hp hr h3).symm)]
          rfl

abbrev nm3 : List ByteArray := [⟨#[97]⟩, ⟨#[98]⟩, ⟨#[99]⟩]
theorem nm3_nodup : nm3.Nodup := by decide
theorem nm3_inj {i j : Nat} {n : ByteArray} (h : nm3[i]? = some n) (h2 : nm3[j]? = some n) : i = j := by
  have hi : i < nm3.length := by
    rcases Nat.lt_or_ge i nm3.length with g | g
    · exact g
    · rw [List.getElem?_eq_none g] at h; cases h
  exact (List.getElem?_inj hi nm3_nodup).1 (h.trans h2.symm)
theorem nm3_at {k : Nat} (h : k < 3) : ∃ n, nm3[k]? = some n := ⟨nm3[k]'h, List.getElem?_eq_getElem h⟩
theorem nm3_lt {k : Nat} {s : ByteArray} (h : nm3[k]? = some s) : k < 3 := by
  rcases Nat.lt_or_ge k nm3.length with g | g
  · exact g
  · rw [List.getElem?_eq_none g] at h; cases h
structure RowI (t : Tr) (f : Nat → Nat) (i : Nat) : Prop where
  asc : AscD t
  size : t.size ≤ 2 * i
  dep : depS t ≤ 5
  here : ∀ j, j < i → ∀ s, nm3[j]? = some s → bl t s = vO (f j)
  none : ∀ s, (∀ j, j < i → nm3[j]? ≠ some s) → bl t s = ⟨false, .nil⟩
theorem row_start (f : Nat → Nat) : RowI .nil f 0 := ⟨trivial, Nat.le_refl _, Nat.zero_le _, fun _ h => absurd h (Nat.not_lt_zero _), fun _ _ => rfl⟩
theorem row_skip {t : Tr} {f : Nat → Nat} {i : Nat} (h : RowI t f i) (h0 : f i = 0) : RowI t f (i + 1) :=
  ⟨h.asc, by have := h.size; omega, h.dep, fun j hj s hs => by
    by_cases e : j = i
    · subst e
      rw [h0]
      exact h.none s fun j' hj' e' => by have := nm3_inj hs e'; omega
    · exact h.here j (by omega) s hs, fun s hs => h.none s fun j hj => hs j (by omega)⟩
theorem row_put {t : Tr} {f : Nat → Nat} {i k : Nat} {n : ByteArray} (h : RowI t f i) (hn : nm3[i]? = some n) (hk : f i = k + 1) : RowI (t.withT n (.cons (vB (k + 1)) .nil .nil)) f (i + 1) := by
  have hx := chg_with (n := n) (x := .cons (vB (k + 1)) .nil .nil) h.asc h.dep (k_val _).asc (by simp [Tr.size]) (by simp [depS])
  refine ⟨hx.asc, ?_, hx.dep, fun j hj s hs => ?_, fun s hs => ?_⟩
  · have := Pt.withT_size (name := n) (x := .cons (vB (k + 1)) .nil .nil) (t := t)
    have := h.size
    simp only [Tr.size] at *
    omega
  · by_cases e : j = i
    · subst e
      obtain rfl : n = s := by rw [hn] at hs; exact Option.some.inj hs
      rw [hx.here, hk]
      rfl
    · rw [hx.other s fun e' => by subst e'; exact e (nm3_inj hs hn)]
      exact h.here j (by omega) s hs
  · rw [hx.other s fun e' => by subst e'; exact hs i (by omega) hn]
    exact h.none s fun j hj => hs j (by omega)
theorem row_two {t : Tr} {f : Nat → Nat} (h : RowI t f 3) : t = .nil ∨ 2 ≤ t.size := by
  cases t with
  | nil => exact .inl rfl
  | cons s k r =>
    right
    cases k with
    | cons s2 k2 r2 => simp only [Tr.size]; omega
    | nil =>
      have hb : bl (.cons s .nil r) s = ⟨true, .nil⟩ := by
        rw [bl, atIs_ge (self_not_lt s), kidT_eq (self_not_lt s) (self_eq s), self_eq]
      by_cases hm : ∃ j, j < 3 ∧ nm3[j]? = some s
      · obtain ⟨j, hj, hs⟩ := hm
        have := h.here j hj s hs
        rw [hb] at this
        cases hf : f j with
        | zero => rw [hf] at this; simp [vO] at this
        | succ k => rw [hf] at this; simp [vO] at this
      · have := h.none s fun j hj e => hm ⟨j, hj, e⟩
        rw [hb] at this
        simp at this

theorem flat_same {α : Type} {g : ByteArray → List α} : ∀ {L M : List ByteArray}, (L.Pairwise fun x y => x.data.toList < y.data.toList) → (M.Pairwise fun x y => x.data.toList < y.data.toList) → (∀ s, g s ≠ [] → (s ∈ L ↔ s ∈ M)) → L.flatMap g = M.flatMap g
  | [], M, _, _, h => by
    rw [List.flatMap_nil]
    refine (List.flatMap_eq_nil_iff.2 fun s hs => ?_).symm
    by_cases e : g s = []
    · exact e
    · have := (h s e).2 hs
      simp at this
  | x :: L, [], _, _, h => by
    rw [List.flatMap_nil]
    refine List.flatMap_eq_nil_iff.2 fun s hs => ?_
    by_cases e : g s = []
    · exact e
    · have := (h s e).1 hs
      simp at this
  | x :: L, y :: M, hL, hM, h => by
    have hL' := List.pairwise_cons.1 hL
    have hM' := List.pairwise_cons.1 hM
    rcases cases3 x y with c | ⟨_, c⟩ | ⟨_, _, c⟩
    · have c1 := (less_iff _ _).1 c
      have hx : g x = [] := by
        by_cases e : g x = []
        · exact e
        · have := (h x e).1 List.mem_cons_self
          rcases List.mem_cons.1 this with e1 | e1
          · rw [e1] at c1; exact absurd c1 (List.lt_irrefl _)
          · exact absurd (List.lt_trans c1 (hM'.1 x e1)) (List.lt_irrefl _)
      rw [List.flatMap_cons, hx, List.nil_append]
      refine flat_same hL'.2 hM fun s hs => ?_
      rw [← h s hs, List.mem_cons]
      exact ⟨.inr, fun e => e.resolve_left fun e => hs (by rw [e, hx])⟩
    · have e := names_of_eq c
      subst e
      rw [List.flatMap_cons, List.flatMap_cons, flat_same hL'.2 hM'.2 fun s hs => ?_]
      have hh := h s hs
      rw [List.mem_cons, List.mem_cons] at hh
      constructor
      · intro e
        exact (hh.1 (.inr e)).resolve_left fun e2 => by subst e2; exact absurd (hL'.1 _ e) (List.lt_irrefl _)
      · intro e
        exact (hh.2 (.inr e)).resolve_left fun e2 => by subst e2; exact absurd (hM'.1 _ e) (List.lt_irrefl _)
    · have c1 := (less_iff _ _).1 c
      have hy : g y = [] := by
        by_cases e : g y = []
        · exact e
        · have := (h y e).2 List.mem_cons_self
          rcases List.mem_cons.1 this with e1 | e1
          · rw [e1] at c1; exact absurd c1 (List.lt_irrefl _)
          · exact absurd (List.lt_trans c1 (hL'.1 y e1)) (List.lt_irrefl _)
      rw [List.flatMap_cons (x := y), hy, List.nil_append]
      refine flat_same hL hM'.2 fun s hs => ?_
      rw [h s hs, List.mem_cons]
      exact ⟨fun e => e.resolve_left fun e => hs (by rw [e, hy]), .inr⟩
  termination_by L M => L.length + M.length
/-- Three names, three sides: what is told. -/
def sideL (f g h : Nat → Nat) : Nat → List (List ByteArray × Int)
  | 0 => []
  | i + 1 => sideL f g h i ++ (match nm3[i]? with | some s => tl s (tld (f i) (g i) (h i)) | none => [])
structure RowsR (m : Mo) (f g h : Nat → Nat) : Prop where
  io : m.o.is = true
  ia : m.a.is = true
  ib : m.b.is = true
  at_ : ∀ j s, nm3[j]? = some s → m.o.below s = vO (res (f j) (g j) (h j)).1 ∧ m.a.below s = vO (res (f j) (g j) (h j)).2.1 ∧ m.b.below s = vO (res (f j) (g j) (h j)).2.2
  told : m.l = sideL f g h 3
  lo : m.o.t.len ≤ 1000000
  la : m.a.t.len ≤ 1000000
  lb : m.b.t.len ≤ 1000000
theorem edges_len (F : ByteArray → Op) : ∀ l : List ByteArray, (edgesOf F l).len ≤ l.length
  | [] => Nat.le_refl _
  | s :: l => by
    have := edges_len F l
    unfold edgesOf
    split
    · simp only [Tr.len, List.length_cons]; omega
    · simp only [List.length_cons]; omega
/-- One side of three: a tree's row, told or not there. -/
structure RowO (x : Op) (f : Nat → Nat) : Prop where
  k : OpK x
  here : ∀ j s, nm3[j]? = some s → x.below s = vO (f j)
  none : ∀ s, s ∉ nm3 → x.below s = ⟨false, .nil⟩
  lt : ∀ j, f j < 4
theorem RowI.o {t : Tr} {f : Nat → Nat} (h : RowI t f 3) (hf : ∀ j, f j < 4) : RowO ⟨true, t⟩ f :=
  ⟨ap_k h.asc (by have := h.size; omega), fun j s hs => h.here j (nm3_lt hs) s hs, fun s hs => h.none s fun j _ e => hs (List.mem_of_getElem? e), hf⟩
theorem row_no : RowO ⟨false, .nil⟩ (fun _ => 0) := ⟨k_nil false, fun _ _ _ => rfl, fun _ _ => rfl, fun _ => by omega⟩
theorem mrg_rows {N : Nat} {o a b : Op} {f g h : Nat → Nat} (ho : RowO o f) (ha : RowO a g) (hb : RowO b h) (hai : a.is = true) (hbi : b.is = true) : RowsR (mrg oneS (N + 1 + 1 + 1) 0 [] o a b) f g h := by
  have hk : K3 o a b := ⟨ho.k, ha.k, hb.k⟩
  have hsub : ∀ j s, nm3[j]? = some s → sub oneS (N + 1 + 1) 0 [] o a b s = ⟨vO (res (f j) (g j) (h j)).1, vO (res (f j) (g j) (h j)).2.1, vO (res (f j) (g j) (h j)).2.2, tl s (tld (f j) (g j) (h j))⟩ := fun j s hs => by
    unfold sub
    rw [one_to, ho.here j s hs, ha.here j s hs, hb.here j s hs]
    exact sub_val s (ho.lt j) (ha.lt j) (hb.lt j)
  have hout : ∀ s, o.below s = ⟨false, .nil⟩ → a.below s = ⟨false, .nil⟩ → b.below s = ⟨false, .nil⟩ → sub oneS (N + 1 + 1) 0 [] o a b s = ⟨⟨false, .nil⟩, ⟨false, .nil⟩, ⟨false, .nil⟩, []⟩ := fun s h1 h2 h3 => by
    unfold sub
    rw [h1, h2, h3, mrg_eq, if_pos (op_refl _)]
  have hn : ∀ s, s ∉ nsU o.t a.t b.t → sub oneS (N + 1 + 1) 0 [] o a b s = ⟨⟨false, .nil⟩, ⟨false, .nil⟩, ⟨false, .nil⟩, []⟩ := fun s hs => by
    rw [mem_nsU hk.o.asc.asc hk.a.asc.asc hk.b.asc.asc] at hs
    have z : ∀ x : Op, x.t.atIs s ≠ true → x.below s = ⟨false, .nil⟩ := fun x hx => by
      have hx' : x.t.atIs s = false := by simpa using hx
      rw [Op.below, hx', kidT_not hx']
    exact hout s (z o fun e => hs (.inl e)) (z a fun e => hs (.inr (.inl e))) (z b fun e => hs (.inr (.inr e)))
  have nil3 : ∀ s, ((sub oneS (N + 1 + 1) 0 [] o a b s).o.is = false → (sub oneS (N + 1 + 1) 0 [] o a b s).o.t = .nil) ∧ ((sub oneS (N + 1 + 1) 0 [] o a b s).a.is = false → (sub oneS (N + 1 + 1) 0 [] o a b s).a.t = .nil) ∧ ((sub oneS (N + 1 + 1) 0 [] o a b s).b.is = false → (sub oneS (N + 1 + 1) 0 [] o a b s).b.t = .nil) := fun s => by
    by_cases hm : s ∈ nm3
    · obtain ⟨j, hj⟩ := List.getElem?_of_mem hm
      rw [hsub j s hj]
      exact ⟨(vO_k _).nil, (vO_k _).nil, (vO_k _).nil⟩
    · rw [hout s (ho.none s hm) (ha.none s hm) (hb.none s hm)]
      exact ⟨fun _ => rfl, fun _ => rfl, fun _ => rfl⟩
  have hpl : ∀ (F : ByteArray → Op), (∀ s, (F s).is = false → (F s).t = .nil) → (∀ s, s ∉ nsU o.t a.t b.t → F s = ⟨false, .nil⟩) → ∀ s, (⟨true, edgesOf F (nsU o.t a.t b.t)⟩ : Op).below s = F s := fun F h1 h2 s => by
    have he := edges_at (f := F) h1 (nsU_pair o.t a.t b.t) s
    by_cases hm : s ∈ nsU o.t a.t b.t
    · obtain ⟨e1, e2⟩ := he.1 hm
      rw [Op.below, e1, e2]
    · obtain ⟨e1, e2⟩ := he.2 hm
      rw [Op.below, e1, e2, h2 s hm]
  rw [mrg_names hk hai hbi one_lvl]
  have hnl : (nsU o.t a.t b.t).length ≤ 1000000 := by
    have h1 := nsU_len o a b
    have h2 := ho.k.size
    have h3 := ha.k.size
    have h4 := hb.k.size
    simp only [sz3] at h1
    omega
  refine ⟨rfl, rfl, rfl, fun j s hs => ⟨?_, ?_, ?_⟩, ?_, Nat.le_trans (edges_len _ _) hnl, Nat.le_trans (edges_len _ _) hnl, Nat.le_trans (edges_len _ _) hnl⟩
  · rw [hpl (fun s => (sub oneS (N + 1 + 1) 0 [] o a b s).o) (fun s => (nil3 s).1) (fun s h => by rw [hn s h]), hsub j s hs]
  · rw [hpl (fun s => (sub oneS (N + 1 + 1) 0 [] o a b s).a) (fun s => (nil3 s).2.1) (fun s h => by rw [hn s h]), hsub j s hs]
  · rw [hpl (fun s => (sub oneS (N + 1 + 1) 0 [] o a b s).b) (fun s => (nil3 s).2.2) (fun s h => by rw [hn s h]), hsub j s hs]
  · show ((nsU o.t a.t b.t).flatMap fun s => (sub oneS (N + 1 + 1) 0 [] o a b s).l) = _
    rw [flat_same (g := fun s => (sub oneS (N + 1 + 1) 0 [] o a b s).l) (M := nm3) (nsU_pair _ _ _) (by decide) fun s hs => ?_]
    · show (sub oneS (N + 1 + 1) 0 [] o a b ⟨#[97]⟩).l ++ ((sub oneS (N + 1 + 1) 0 [] o a b ⟨#[98]⟩).l ++ ((sub oneS (N + 1 + 1) 0 [] o a b ⟨#[99]⟩).l ++ [])) = (([] ++ tl ⟨#[97]⟩ (tld (f 0) (g 0) (h 0))) ++ tl ⟨#[98]⟩ (tld (f 1) (g 1) (h 1))) ++ tl ⟨#[99]⟩ (tld (f 2) (g 2) (h 2))
      rw [hsub 0 _ rfl, hsub 1 _ rfl, hsub 2 _ rfl]
      simp only [List.append_nil, List.nil_append, List.append_assoc]
    · constructor
      · intro _
        by_cases hm : s ∈ nm3
        · exact hm
        · exact absurd (by rw [hout s (ho.none s hm) (ha.none s hm) (hb.none s hm)]) hs
      · intro _
        by_cases hm : s ∈ nsU o.t a.t b.t
        · exact hm
        · exact absurd (by rw [hn s hm]) hs
theorem row_nil {t : Tr} {f : Nat → Nat} (h : RowI t f 3) (hf : ∀ j, f j < 4) (e : t = .nil) : ∀ j, j < 3 → f j = 0 := fun j hj => by
  obtain ⟨s, hs⟩ := nm3_at hj
  have := h.here j hj s hs
  rw [e] at this
  exact (vO_inj (by omega) (hf j) (p := 0) this).symm
theorem op_eq_rows {a b : Op} {g h : Nat → Nat} (ha : RowO a g) (hb : RowO b h) (e : a = b) (j : Nat) (hj : j < 3) : g j = h j := by
  obtain ⟨s, hs⟩ := nm3_at hj
  have h1 := ha.here j s hs
  have h2 := hb.here j s hs
  rw [e, h2] at h1
  exact (vO_inj (hb.lt j) (ha.lt j) h1).symm
/-- The merge of rows, at Merge's own fuel. -/
theorem mrg_rowsz {o : Op} {a b : Tr} {f g h : Nat → Nat} (ho : RowO o f) (ha : RowI a g 3) (hb : RowI b h 3) (hg : ∀ j, g j < 4) (hh : ∀ j, h j < 4) : RowsR (mrg oneS (sz3 o ⟨true, a⟩ ⟨true, b⟩ + 1) 0 [] o ⟨true, a⟩ ⟨true, b⟩) f g h := by
  by_cases e : a = b
  · subst e
    have hgh : ∀ j, j < 3 → g j = h j := op_eq_rows (ha.o hg) (hb.o hh) rfl
    rw [mrg_eq, if_pos (op_refl _)]
    have hr : ∀ j, j < 3 → res (f j) (g j) (h j) = (g j, g j, g j) := fun j hj => by rw [res, if_pos (hgh j hj)]
    have ht : ∀ j, j < 3 → tld (f j) (g j) (h j) = none := fun j hj => by rw [tld, if_pos (.inl (hgh j hj))]
    have hal : a.len ≤ 1000000 := by have := a.len_size; have := ha.size; omega
    refine ⟨rfl, rfl, rfl, fun j s hs => ?_, ?_, hal, hal, hal⟩
    · rw [hr j (nm3_lt hs)]
      have := ha.here j (nm3_lt hs) s hs
      exact ⟨this, this, this⟩
    · show [] = (([] ++ tl _ (tld (f 0) (g 0) (h 0))) ++ tl _ (tld (f 1) (g 1) (h 1))) ++ tl _ (tld (f 2) (g 2) (h 2))
      rw [ht 0 (by omega), ht 1 (by omega), ht 2 (by omega)]
      rfl
  · obtain ⟨N, hN⟩ : ∃ N, sz3 o ⟨true, a⟩ ⟨true, b⟩ + 1 = N + 1 + 1 + 1 := by
      refine ⟨sz3 o ⟨true, a⟩ ⟨true, b⟩ - 2, ?_⟩
      have h1 := row_two ha
      have h2 := row_two hb
      have : 2 ≤ a.size ∨ 2 ≤ b.size := by
        rcases h1 with h1 | h1
        · rcases h2 with h2 | h2
          · exact absurd (h1.trans h2.symm) e
          · exact .inr h2
        · exact .inl h1
      simp only [sz3]
      omega
    rw [hN]
    exact mrg_rows ho (ha.o hg) (hb.o hh) rfl rfl
/-- The digits of a row. -/
def dgD : Nat → Int
  | 0 => 1
  | 1 => 4
  | _ => 16
def dg (n : Int) (i : Nat) : Nat := (n.tdiv (dgD i) % 4).toNat
theorem dg_lt (n : Int) (i : Nat) : dg n i < 4 := by unfold dg; omega
theorem dg_int (n : Int) (i : Nat) : n.tdiv (dgD i) % 4 = (dg n i : Int) := by unfold dg; omega
end Go.Proofs.Ytchoipmfngcdoaa.Mg
