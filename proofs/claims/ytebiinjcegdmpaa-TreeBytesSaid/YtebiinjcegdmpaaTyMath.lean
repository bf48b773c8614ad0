/- TreeBytes: trees that are made have no fault; what is parsed is small; a byte put into a row of one's own. No conditions. -/
import Derived.Test.YtebiinjcegdmpaaTbMath
import Derived.Test.YtebiinjcegdmpaaMgRq
namespace Go.Proofs.Ytebiinjcegdmpaa.Ps
open Go.RowKit Go.Proofs.Ytebiinjcegdmpaa.Jd Go.Proofs.Ytebiinjcegdmpaa.Cl Go.Proofs.Ytebiinjcegdmpaa.Pt
set_option maxRecDepth 100000

/-- So deep at most. -/
def Dp : Nat → Tr → Prop
  | _, .nil => True
  | 0, .cons _ _ _ => False
  | d + 1, .cons _ k r => Dp d k ∧ Dp (d + 1) r
theorem Dp.nil : ∀ d, Dp d .nil
  | 0 => trivial
  | _ + 1 => trivial
theorem withT_dp {name : ByteArray} {x : Tr} {d : Nat} (hx : Dp d x) : ∀ {t : Tr}, Dp (d + 1) t → Dp (d + 1) (t.withT name x)
  | .nil, _ => ⟨hx, Dp.nil _⟩
  | .cons s k r, ⟨h1, h2⟩ => by
    unfold Tr.withT
    split
    · exact ⟨h1, withT_dp hx h2⟩
    · split
      · exact ⟨hx, h2⟩
      · exact ⟨hx, h1, h2⟩
theorem makeT_dp (W : Nat) : ∀ (t : Tr) (l d : Nat) (acc : Tr), Dp d acc → Dp d (t.makeT W l d acc)
  | .nil, _, _, _, h => by simpa [Tr.makeT] using h
  | .cons s k r, l, d, acc, h => by
    unfold Tr.makeT
    split
    · exact h
    · rename_i hn
      obtain ⟨e, rfl⟩ : ∃ e, d = e + 1 := ⟨d - 1, by omega⟩
      exact makeT_dp W r _ _ _ (withT_dp (makeT_dp W k _ e .nil (Dp.nil _)) h)
theorem makeT_ascD (W : Nat) : ∀ (t : Tr) (l d : Nat) (acc : Tr), AscD acc → AscD (t.makeT W l d acc)
  | .nil, _, _, _, h => by simpa [Tr.makeT] using h
  | .cons s k r, l, d, acc, h => by
    unfold Tr.makeT
    split
    · exact h
    · exact makeT_ascD W r _ _ _ (withT_ascD (makeT_ascD W k _ _ .nil trivial) h)
theorem walkC_ok : ∀ (t : Tr) (d n : Nat) (p : Option ByteArray), AscD t → (∀ q, p = some q → ∀ y ∈ t.bn, q.data.toList < y) → t.Neat → ∀ e, Dp e t → d + e ≤ 13 → n + t.size ≤ 400 → walkC d t p n = (n + t.size, 0)
  | .nil, _, _, _, _, _, _, _, _, _, _ => rfl
  | .cons s k r, d, n, p, hA, hp, hN, e, hD, hde, hs => by
    obtain ⟨e, rfl⟩ : ∃ e', e = e' + 1 := by
      cases e with
      | zero => exact absurd hD (by simp [Dp])
      | succ e => exact ⟨e, rfl⟩
    obtain ⟨a1, a2, a3⟩ := hA
    obtain ⟨n1, n2, n3⟩ := hN
    obtain ⟨d1, d2⟩ := hD
    simp only [Tr.size] at hs
    have hna : notAfter p s = false := by
      cases p with
      | none => rfl
      | some q =>
        have := hp q rfl s.data.toList (by rw [bn_cons]; exact List.mem_cons_self)
        have := (lt_iff q s).2 this
        simp [notAfter, this]
    have hk := walkC_ok k (d + 1) (n + 1) none a2 (fun q hq => by cases hq) n2 e d1 (by omega) (by omega)
    have hr := walkC_ok r d (n + 1 + k.size) (some s) a3 (fun q hq y hy => by
      obtain rfl : s = q := by injection hq
      have : (Tr.cons s k r).bn.Pairwise (· < ·) := a1
      rw [bn_cons, List.pairwise_cons] at this
      exact this.1 y hy) n3 (e + 1) d2 hde (by omega)
    rw [walkC, if_neg (by omega), if_neg (by omega), if_neg (by omega), if_neg (by rw [hna]; simp), hk]
    simp only [if_true, hr, Tr.size]
    congr 1
    omega
theorem fault_make (t : Tr) (W d : Nat) (hd : d ≤ 12) (hs : (t.makeT W W d .nil).size ≤ 400) : (t.makeT W W d .nil).fault = 0 := by
  unfold Tr.fault
  rw [walkC_ok _ 1 0 none (makeT_ascD W t W d .nil trivial) (fun q hq => by cases hq) (makeT_neat W t W d .nil trivial) d (makeT_dp W t W d .nil (Dp.nil _)) (by omega) (by omega)]
/-- Each edge counts one. -/
theorem psK_size {sub : Nat → List UInt8 → Out} {d : Nat} (hs : ∀ m l, (sub m l).2.2.2 = 0 → (sub m l).2.2.1 = m + (sub m l).1.size) : ∀ (i : Nat) (p : Option ByteArray) (m : Nat) (l : List UInt8), (psK sub d i p m l).2.2.2 = 0 → (psK sub d i p m l).2.2.1 = m + (psK sub d i p m l).1.size
  | 0, _, m, _, _ => rfl
  | i + 1, p, m, l, h0 => by
    rw [psK] at h0 ⊢
    split at h0
    · rename_i h; exact absurd h0 h
    · rename_i h1
      rw [if_neg h1]
      split at h0
      · rename_i h
        exact absurd h0 (by simp only; omega)
      · rename_i h2
        rw [if_neg h2]
        split at h0
        · rename_i h; exact absurd h0 h
        · rename_i h3
          rw [if_neg h3]
          have h4 := hs (m + 1) (txStep l 0).2.1 (by simpa using h3)
          split at h0
          · rename_i h; exact absurd h0 h
          · rename_i h5
            rw [if_neg h5]
            have h6 := psK_size hs i (some ⟨(txStep l 0).1.toArray⟩) (sub (m + 1) (txStep l 0).2.1).2.2.1 (sub (m + 1) (txStep l 0).2.1).2.1 (by simpa using h5)
            simp only [Tr.size]
            omega
theorem psT_size : ∀ (F d m : Nat) (l : List UInt8), (psT F d m l).2.2.2 = 0 → (psT F d m l).2.2.1 = m + (psT F d m l).1.size
  | 0, _, m, _, _ => rfl
  | F + 1, d, m, l, h0 => by
    rw [psT] at h0 ⊢
    split at h0
    · rename_i h; exact absurd h0 h
    · rename_i h1
      rw [if_neg h1]
      exact psK_size (fun m l => psT_size F (d + 1) m l) _ _ _ _ h0
theorem psP_size (l : List UInt8) : (psP l).1.size ≤ 400 := by
  unfold psP
  split
  · exact Nat.zero_le _
  · rename_i h
    have h : (psT 14 1 0 l).2.2.2 = 0 := by simpa using h
    split
    · exact Nat.zero_le _
    · have h1 := psT_size 14 1 0 l h
      have h2 := psT_le 14 1 0 l (by omega) h
      show (psT 14 1 0 l).1.size ≤ 400
      omega
theorem neat_sep : ∀ {t : Tr}, t.Neat → (Pt.Tr.sepB 1 t).length ≤ 130 * t.size
  | .nil, _ => Nat.zero_le _
  | .cons s k r, ⟨h1, h2, h3⟩ => by
    have ihk := neat_sep h2
    have ihr := neat_sep h3
    have hk : k.body.length ≤ (Pt.Tr.sepB 1 k).length := by cases k with
      | nil => simp [Pt.Tr.sepB, Tr.body]
      | cons _ _ _ => simp only [Pt.Tr.sepB, List.length_append]; omega
    have hq := quoL_le s.data.toList
    have hs : s.data.toList.length = s.size := rfl
    rw [show (1 : Nat) = 0 + 1 from rfl, sepB_cons, sepB_succ]
    simp only [List.length_append, List.length_cons, List.length_nil, quo, Tr.text, Tr.size]
    omega
theorem neat_text {t : Tr} (h : t.Neat) : t.text.length ≤ 130 * t.size + 2 := by
  have := neat_sep h
  have hk : t.body.length ≤ (Pt.Tr.sepB 1 t).length := by cases t with
    | nil => simp [Pt.Tr.sepB, Tr.body]
    | cons _ _ _ => simp only [Pt.Tr.sepB, List.length_append]; omega
  simp only [Tr.text, List.length_append, List.length_cons, List.length_nil]
  omega
/-- A byte put into a row of one's own. -/
theorem own_set {w : World} {base n c g j : Nat} {l : List UInt8} (h : Own w base (some ⟨g, 0, none⟩) n c l) (x : UInt8) {v : Value} (hv : v = byt x) : Own (w.setCell ⟨g, j, none⟩ v) base (some ⟨g, 0, none⟩) n c (l.set j x) := by
  subst hv
  refine ⟨by rw [byts_length, List.length_set]; have := h.len; omega, ?_⟩
  rcases h.row.2 with ⟨e1, e2⟩ | ⟨g', cap, cur, e1, hg, hh, hcap, hmx, hsz, htk⟩
  · cases e1
  · injection e1 with a1 a2 a3
    have hgg : g' = g := by injection a1 with a1; injection a1 with a1; exact a1.symm
    subst hgg
    refine .inr ⟨g', cap, cur.setIfInBounds j (byt x), by rw [← a3], hg, heap_setCell_same w g' j cur _ _ hh, hcap, hmx, by simpa using hsz, ?_⟩
    have e : byts (l.set j x) = (byts l).set j (byt x) := by simp [byts, List.map_set]
    rw [e, ← htk, Array.toList_setIfInBounds, List.take_set]
theorem own_addr {w : World} {base n c : Nat} {A : Option Addr} {l : List UInt8} (h : Own w base A n c l) (hn : 0 < n) : ∃ g, A = some ⟨g, 0, none⟩ ∧ base ≤ g ∧ g < w.heap.size ∧ (∀ q, w.frozen? ⟨g, q, none⟩ = false) ∧ (∀ j x, l[j]? = some x → w.cell? ⟨g, j, none⟩ = some (byt x)) := by
  rcases h.row.2 with ⟨e1, e2⟩ | ⟨g', cap, cur, e1, hg, hh, hcap, hmx, hsz, htk⟩
  · omega
  · injection e1 with a1 a2 a3
    refine ⟨g', a1, hg, (Array.getElem?_eq_some_iff.1 hh).1, fun q => by simp [World.frozen?, hh], fun j x hx => ?_⟩
    rw [cell_of_row w g' j cur _ _ hh]
    have hjl : j < l.length := (List.getElem?_eq_some_iff.1 hx).1
    have hb : (byts l)[j]? = some (byt x) := by simp [byts, hx]
    rw [← htk, List.getElem?_take_of_lt (by have := h.len; omega)] at hb
    rw [← Array.getElem?_toList]
    exact hb
end Go.Proofs.Ytebiinjcegdmpaa.Ps
