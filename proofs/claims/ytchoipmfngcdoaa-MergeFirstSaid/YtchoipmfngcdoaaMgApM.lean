/- merge: edges changed at names, one after another. No conditions. -/
import Derived.Test.YtchoipmfngcdoaaMwMgFrom
import Derived.Test.YtchoipmfngcdoaaMgGoneL
import Derived.Test.YtchoipmfngcdoaaRWithout
namespace Go.Proofs.Ytchoipmfngcdoaa.Mg
open Go.RowKit Go.Proofs.Ytchoipmfngcdoaa.Pt Go.Proofs.Ytchoipmfngcdoaa.Df Go.Proofs.Ytchoipmfngcdoaa.Sc Go.Proofs.Ytchoipmfngcdoaa.Cl
set_option maxRecDepth 100000

abbrev bl (t : Tr) (s : ByteArray) : Op := ⟨t.atIs s, kidT t s⟩
theorem ahead_not {n : ByteArray} : ∀ {r : Tr}, (∀ y ∈ r.bn, n.data.toList < y) → r.atIs n = false
  | .nil, _ => rfl
  | .cons s2 k2 r2, hr => by
    have h1 := (less_iff n s2).2 (hr s2.data.toList (by rw [bn_cons]; exact List.mem_cons_self))
    obtain ⟨h2, h3⟩ := lt_not h1
    rw [atIs_ge h2, h3]
theorem without_is {n : ByteArray} : ∀ {t : Tr}, AscD t → (withoutT t n).atIs n = false
  | .nil, _ => rfl
  | .cons s k r, ⟨h1, _, h3⟩ => by
    have ha := h1
    unfold Tr.Asc at ha
    rw [bn_cons, List.pairwise_cons] at ha
    rcases cases3 s n with c1 | ⟨c1, c2⟩ | ⟨c1, c2, _⟩
    · rw [withoutT_lt c1, Pt.atIs_lt c1]; exact without_is h3
    · have e := names_of_eq c2
      subst e
      rw [withoutT_eq c1 c2]
      exact ahead_not ha.1
    · rw [withoutT_gt c1 c2, atIs_ge c1, c2]
theorem without_other {n q : ByteArray} (hne : (n.toList == q.toList) = false) : ∀ {t : Tr}, AscD t → (withoutT t n).atIs q = t.atIs q ∧ kidT (withoutT t n) q = kidT t q
  | .nil, _ => ⟨rfl, rfl⟩
  | .cons s k r, ⟨h1, _, h3⟩ => by
    have ha := h1
    unfold Tr.Asc at ha
    rw [bn_cons, List.pairwise_cons] at ha
    rcases cases3 s n with c1 | ⟨c1, c2⟩ | ⟨c1, c2, _⟩
    · rw [withoutT_lt c1]
      rcases cases3 s q with d1 | ⟨d1, d2⟩ | ⟨d1, d2, _⟩
      · rw [Pt.atIs_lt d1, Pt.atIs_lt d1, kidT_lt d1, kidT_lt d1]; exact without_other hne h3
      · rw [atIs_ge d1, atIs_ge d1, kidT_eq d1 d2, kidT_eq d1 d2]; exact ⟨rfl, rfl⟩
      · rw [atIs_ge d1, atIs_ge d1, kidT_gt d1 d2, kidT_gt d1 d2]; exact ⟨rfl, rfl⟩
    · have e := names_of_eq c2
      subst e
      rw [withoutT_eq c1 c2]
      rcases cases3 s q with d1 | ⟨d1, d2⟩ | ⟨d1, d2, d3⟩
      · rw [Pt.atIs_lt d1, kidT_lt d1]; exact ⟨rfl, rfl⟩
      · rw [d2] at hne; cases hne
      · have hq : r.atIs q = false := ahead_not fun y hy => List.lt_trans ((less_iff _ _).1 d3) (ha.1 y hy)
        rw [atIs_ge d1, d2, kidT_gt d1 d2, hq, kidT_not hq]; exact ⟨rfl, rfl⟩
    · rw [withoutT_gt c1 c2]; exact ⟨rfl, rfl⟩
theorem without_dep {n : ByteArray} {D : Nat} : ∀ {t : Tr}, depS t ≤ D → depS (withoutT t n) ≤ D
  | .nil, h => h
  | .cons s k r, h => by
    have hr : depS r ≤ D := by simp only [depS] at h; omega
    rcases cases3 s n with c1 | ⟨c1, c2⟩ | ⟨c1, c2, _⟩
    · rw [withoutT_lt c1]
      have := without_dep (n := n) hr
      simp only [depS] at h ⊢
      omega
    · rw [withoutT_eq c1 c2]; exact hr
    · rw [withoutT_gt c1 c2]; exact h
theorem ne_beq {s n : ByteArray} (h : s ≠ n) : (n.toList == s.toList) = false := by
  cases hc : (n.toList == s.toList) with
  | false => rfl
  | true => exact absurd (names_of_eq hc).symm h

/-- t' is t, with v at n. -/
structure Chg (t t' : Tr) (n : ByteArray) (v : Op) : Prop where
  here : bl t' n = v
  other : ∀ s, s ≠ n → bl t' s = bl t s
  asc : AscD t'
  size : t'.size ≤ t.size + 200
  dep : depS t' ≤ 5
theorem chg_with {t x : Tr} {n : ByteArray} (h : AscD t) (hd : depS t ≤ 5) (hx : AscD x) (hz : x.size ≤ 199) (hdx : depS x ≤ 4) : Chg t (t.withT n x) n ⟨true, x⟩ :=
  ⟨by rw [bl, with_is.1, with_is.2], fun s hs => by
    obtain ⟨h1, h2⟩ := with_other (x := x) (ne_beq hs) h.asc
    rw [bl, bl, h1, h2], withT_ascD hx h, by have := Pt.withT_size (name := n) (x := x) (t := t); omega, withT_dep hd (by omega)⟩
theorem chg_without {t : Tr} {n : ByteArray} (h : AscD t) (hd : depS t ≤ 5) : Chg t (withoutT t n) n ⟨false, .nil⟩ :=
  ⟨by rw [bl, without_is h, kidT_not (without_is h)], fun s hs => by
    obtain ⟨h1, h2⟩ := without_other (ne_beq hs) h
    rw [bl, bl, h1, h2], withoutT_ascD h, by have := Pt.withoutT_size (name := n) (t := t); omega, without_dep hd⟩

abbrev nm5 : List ByteArray := [⟨#[]⟩, ⟨#[97]⟩, ⟨#[98]⟩, ⟨#[99]⟩, ⟨#[100]⟩]
theorem nm5_nodup : nm5.Nodup := by decide
theorem nm5_inj {i j : Nat} {n : ByteArray} (h : nm5[i]? = some n) (h2 : nm5[j]? = some n) : i = j := by
  have hi : i < nm5.length := by
    rcases Nat.lt_or_ge i nm5.length with g | g
    · exact g
    · rw [List.getElem?_eq_none g] at h; cases h
  exact (List.getElem?_inj hi nm5_nodup).1 (h.trans h2.symm)
theorem nm5_at {k : Nat} (h : k < 5) : ∃ n, nm5[k]? = some n := ⟨nm5[k]'h, List.getElem?_eq_getElem h⟩

structure ApI (o x y c : Tr) (i : Nat) : Prop where
  ax : AscD x
  ay : AscD y
  ac : AscD c
  zx : x.size ≤ 199 + 200 * i
  zy : y.size ≤ 199 + 200 * i
  zc : c.size ≤ 199 + 200 * i
  dx : depS x ≤ 5
  dy : depS y ≤ 5
  dc : depS c ≤ 5
  way : ∀ s, (bl x s = bl o s ∧ bl c s = bl y s) ∨ (bl y s = bl o s ∧ bl c s = bl x s)
  free : ∀ j, i ≤ j → ∀ s, nm5[j]? = some s → bl x s = bl o s ∧ bl y s = bl o s ∧ bl c s = bl o s
theorem ap_start {o : Tr} (h : AscD o) (hz : o.size ≤ 199) (hd : depS o ≤ 5) : ApI o o o o 0 :=
  ⟨h, h, h, by omega, by omega, by omega, hd, hd, hd, fun _ => .inl ⟨rfl, rfl⟩, fun _ _ _ _ => ⟨rfl, rfl, rfl⟩⟩
theorem ap_none {o x y c : Tr} {i : Nat} (h : ApI o x y c i) : ApI o x y c (i + 1) :=
  ⟨h.ax, h.ay, h.ac, by have := h.zx; omega, by have := h.zy; omega, by have := h.zc; omega, h.dx, h.dy, h.dc, h.way, fun j hj => h.free j (by omega)⟩
theorem ap_left {o x y c x' c' : Tr} {i : Nat} {n : ByteArray} {v : Op} (h : ApI o x y c i) (hn : nm5[i]? = some n) (hx : Chg x x' n v) (hc : Chg c c' n v) : ApI o x' y c' (i + 1) :=
  ⟨hx.asc, h.ay, hc.asc, by have := h.zx; have := hx.size; omega, by have := h.zy; omega, by have := h.zc; have := hc.size; omega, hx.dep, h.dy, hc.dep, fun s => by
    by_cases e : s = n
    · subst e
      exact .inr ⟨(h.free i (Nat.le_refl _) _ hn).2.1, by rw [hc.here, hx.here]⟩
    · rw [hx.other s e, hc.other s e]; exact h.way s, fun j hj s hs => by
    have e : s ≠ n := fun e => by
      subst e
      have := nm5_inj hn hs
      omega
    rw [hx.other s e, hc.other s e]
    exact h.free j (by omega) s hs⟩
theorem ap_swap {o x y c : Tr} {i : Nat} (h : ApI o x y c i) : ApI o y x c i :=
  ⟨h.ay, h.ax, h.ac, h.zy, h.zx, h.zc, h.dy, h.dx, h.dc, fun s => (h.way s).symm, fun j hj s hs => ⟨(h.free j hj s hs).2.1, (h.free j hj s hs).1, (h.free j hj s hs).2.2⟩⟩
theorem ap_right {o x y c y' c' : Tr} {i : Nat} {n : ByteArray} {v : Op} (h : ApI o x y c i) (hn : nm5[i]? = some n) (hy : Chg y y' n v) (hc : Chg c c' n v) : ApI o x y' c' (i + 1) :=
  ap_swap (ap_left (ap_swap h) hn hy hc)
theorem ap_k {t : Tr} (h : AscD t) (hs : t.size ≤ 1199) : OpK ⟨true, t⟩ := ⟨h, by simp only; omega, fun e => by cases e⟩
theorem ap_bd {t : Tr} (hs : t.size ≤ 1199) (hd : depS t ≤ 5) : Bd ⟨true, t⟩ := ⟨by simp only; omega, by rw [← dep_eq]; simp only; omega⟩
theorem ap_mrg {o x y c : Tr} {N : Nat} (ho : AscD o) (hz : o.size ≤ 199) (h : ApI o x y c 5) : mrg wideS (N + 1 + 1) 0 [] ⟨true, o⟩ ⟨true, x⟩ ⟨true, y⟩ = ⟨⟨true, c⟩, ⟨true, c⟩, ⟨true, c⟩, []⟩ :=
  mrg_apart (c := ⟨true, c⟩) ⟨ap_k ho (by omega), ap_k h.ax (by have := h.zx; omega), ap_k h.ay (by have := h.zy; omega)⟩ h.ac rfl rfl rfl wide_lvl h.way
theorem ap_mrgz {o x y c : Tr} (ho : AscD o) (hz : o.size ≤ 199) (h : ApI o x y c 5) : mrg wideS (sz3 ⟨true, o⟩ ⟨true, x⟩ ⟨true, y⟩ + 1) 0 [] ⟨true, o⟩ ⟨true, x⟩ ⟨true, y⟩ = ⟨⟨true, c⟩, ⟨true, c⟩, ⟨true, c⟩, []⟩ := by
  rcases Nat.eq_zero_or_pos (sz3 ⟨true, o⟩ ⟨true, x⟩ ⟨true, y⟩) with e | e
  · rw [e]
    have h1 : x = .nil := by cases x with
      | nil => rfl
      | cons _ _ _ => simp only [sz3, Tr.size] at e; omega
    have h2 : y = .nil := by cases y with
      | nil => rfl
      | cons _ _ _ => simp only [sz3, Tr.size] at e; omega
    have h3 : o = .nil := by cases o with
      | nil => rfl
      | cons _ _ _ => simp only [sz3, Tr.size] at e; omega
    subst h1 h2 h3
    have hc : (⟨true, c⟩ : Op) = ⟨true, .nil⟩ := op_ext h.ac trivial rfl fun s => by
      rcases h.way s with ⟨_, h2⟩ | ⟨_, h2⟩
      · exact h2
      · exact h2
    rw [hc]
    exact mrg_old (.inl ⟨rfl, rfl⟩)
  · obtain ⟨N, hN⟩ : ∃ N, sz3 ⟨true, o⟩ ⟨true, x⟩ ⟨true, y⟩ + 1 = N + 1 + 1 := ⟨sz3 ⟨true, o⟩ ⟨true, x⟩ ⟨true, y⟩ - 1, by omega⟩
    rw [hN]
    exact ap_mrg ho hz h
theorem emod5 (a : Int) : ∃ v : Nat, a % 5 = (v : Int) ∧ v < 5 := ⟨(a % 5).toNat, by omega, by omega⟩

theorem where_at {w : World} {B n j : Nat} {A : Option Addr} {l : List Int} (h : SeesV w B A n (l.map (Value.int .i64))) (hr : ∀ x ∈ l, -9223372036854775808 ≤ x ∧ x ≤ 9223372036854775807) (hj : j < n) : (Lit.int .i64 (l.getD j 0)).wf = true := by
  have hl : j < l.length := by have := h.len; rw [List.length_map] at this; omega
  have hm : l.getD j 0 ∈ l := by
    rw [List.getD, List.getElem?_eq_getElem hl]
    exact List.getElem_mem hl
  have := hr _ hm
  simpa [Lit.wf, IntKind.min, IntKind.max, IntKind.signed, IntKind.bits] using this
theorem with_ok {W : World} {t x : Tr} {A Ax : Option Addr} {n c nx cx : Nat} (name : ByteArray) (h : OkT W A n c t) (hx : OkT W Ax nx cx x) (hz : t.size ≤ 100000) : Calls Try.prog 16 #[.slice A n c, .string name, .slice Ax nx cx] W (OkP W (t.withT name x)) :=
  (with_any t x A Ax n c nx cx W.heap.size name W h.holds hx.holds (Nat.le_refl _) (by have := h.holds.len; have := t.len_size; omega) h.cap.1 hx.cap.1 hx.cap.2).mono fun e w' ⟨A', n', c', he, h1, h2, h3, h4⟩ => ⟨A', n', c', he, ⟨h1, h2, h3⟩, h4⟩
theorem without_ok {W : World} {t : Tr} {A : Option Addr} {n c : Nat} (name : ByteArray) (h : OkT W A n c t) (hz : t.size ≤ 100000) : Calls Try.prog 17 #[.slice A n c, .string name] W (OkP W (withoutT t name)) :=
  rwithout_any t A n c name W h (by have := h.holds.len; have := t.len_size; omega)
/-- The five names, in their row. -/
theorem nm5_cell {w : World} {g k : Nat} {T : TypeId} {s : ByteArray} (h : Bx w g [.string ⟨#[]⟩, .string ⟨#[97]⟩, .string ⟨#[98]⟩, .string ⟨#[99]⟩, .string ⟨#[100]⟩] T) (hs : nm5[k]? = some s) : w.cell? ⟨g, k, none⟩ = some (.string s) := by
  match k, hs with
  | 0, hs => have e : s = ⟨#[]⟩ := by simpa using hs.symm
             rw [e]; exact h.cells 0
  | 1, hs => have e : s = ⟨#[97]⟩ := by simpa using hs.symm
             rw [e]; exact h.cells 1
  | 2, hs => have e : s = ⟨#[98]⟩ := by simpa using hs.symm
             rw [e]; exact h.cells 2
  | 3, hs => have e : s = ⟨#[99]⟩ := by simpa using hs.symm
             rw [e]; exact h.cells 3
  | 4, hs => have e : s = ⟨#[100]⟩ := by simpa using hs.symm
             rw [e]; exact h.cells 4
  | k + 5, hs => simp at hs
end Go.Proofs.Ytchoipmfngcdoaa.Mg
