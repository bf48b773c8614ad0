/- Parse, the plain part: what the bytes read as; what a tree's own bytes read as. -/
import Derived.Test.YtebiinjcegdmpaaMgRr
import Derived.Test.YtebiinjcegdmpaaChkMath
import Derived.Test.YtebiinjcegdmpaaRBytes
namespace Go.Proofs.Ytebiinjcegdmpaa.Ps
open Go.RowKit

/-- The fault of an edge, the m-th of all. -/
def flt (d : Nat) (p : Option ByteArray) (s : ByteArray) (m : Nat) : Nat := if 400 < m then 4 else if 12 < d then 11 else if 80 < s.size then 5 else if notAfter p s = true then 12 else 0
abbrev Out := Tr × List UInt8 × Nat × Int
/-- So many edges behind one another. -/
def psK (sub : Nat → List UInt8 → Out) (d : Nat) : Nat → Option ByteArray → Nat → List UInt8 → Out
  | 0, _, m, l => (.nil, l, m, 0)
  | i + 1, p, m, l =>
    if (txStep l 0).2.2 ≠ 0 then (.nil, (txStep l 0).2.1, m, (txStep l 0).2.2) else
    if flt d p ⟨(txStep l 0).1.toArray⟩ (m + 1) ≠ 0 then (.nil, (txStep l 0).2.1, m + 1, (flt d p ⟨(txStep l 0).1.toArray⟩ (m + 1) : Nat)) else
    if (sub (m + 1) (txStep l 0).2.1).2.2.2 ≠ 0 then (.nil, (sub (m + 1) (txStep l 0).2.1).2) else
    if (psK sub d i (some ⟨(txStep l 0).1.toArray⟩) (sub (m + 1) (txStep l 0).2.1).2.2.1 (sub (m + 1) (txStep l 0).2.1).2.1).2.2.2 ≠ 0 then
      (.nil, (psK sub d i (some ⟨(txStep l 0).1.toArray⟩) (sub (m + 1) (txStep l 0).2.1).2.2.1 (sub (m + 1) (txStep l 0).2.1).2.1).2) else
    (.cons ⟨(txStep l 0).1.toArray⟩ (sub (m + 1) (txStep l 0).2.1).1 (psK sub d i (some ⟨(txStep l 0).1.toArray⟩) (sub (m + 1) (txStep l 0).2.1).2.2.1 (sub (m + 1) (txStep l 0).2.1).2.1).1,
      (psK sub d i (some ⟨(txStep l 0).1.toArray⟩) (sub (m + 1) (txStep l 0).2.1).2.2.1 (sub (m + 1) (txStep l 0).2.1).2.1).2)
/-- A tree; F bounds how deep it may be gone. -/
def psT : Nat → Nat → Nat → List UInt8 → Out
  | 0, _, m, l => (.nil, l, m, 0)
  | F + 1, d, m, l =>
    if (rdStep 1 (rdStep 1 l 0).2.1 (rdStep 1 l 0).2.2).2.2 ≠ 0 then (.nil, (rdStep 1 (rdStep 1 l 0).2.1 (rdStep 1 l 0).2.2).2.1, m, (rdStep 1 (rdStep 1 l 0).2.1 (rdStep 1 l 0).2.2).2.2) else
    psK (psT F (d + 1)) d ((rdStep 1 l 0).1 + 256 * (rdStep 1 (rdStep 1 l 0).2.1 (rdStep 1 l 0).2.2).1) none m (rdStep 1 (rdStep 1 l 0).2.1 (rdStep 1 l 0).2.2).2.1
/-- Names and levels that two bytes can count. -/
def Fit2 : Tr → Prop
  | .nil => True
  | .cons s k r => s.size ≤ 65535 ∧ k.len ≤ 65535 ∧ Fit2 k ∧ Fit2 r

theorem rdStep_leB (k v : Nat) (l : List UInt8) (h : v < 2 ^ (8 * k)) : rdStep k (leB k v ++ l) 0 = (v, l, 0) := by
  have hl := leB_length k v
  rw [rdStep_yes (by rw [List.length_append]; omega), List.take_left' hl, List.drop_left' hl, valB_leB k v h]
theorem txStep_textB (s : ByteArray) (l : List UInt8) (h : s.size ≤ 65535) : txStep (textB s ++ l) 0 = (s.data.toList, l, 0) := by
  unfold txStep textB
  rw [cutText_short h, List.append_assoc, rdStep_leB 2 s.data.toList.length _ (by have : s.data.toList.length = s.size := rfl; omega)]
  rw [txNext_yes (by rw [List.length_append]; omega), List.take_left' rfl, List.drop_left' rfl]
theorem back (s : ByteArray) : (⟨s.data.toList.toArray⟩ : ByteArray) = s := by
  apply ByteArray.ext
  simp
theorem psT_cnt (F d m n : Nat) (l : List UInt8) (h : n ≤ 65535) : psT (F + 1) d m (cnt n ++ l) = psK (psT F (d + 1)) d n none m l := by
  have e1 : rdStep 1 (cnt n ++ l) 0 = (n % 256, leB 1 (n / 256 % 256) ++ l, 0) := by
    unfold cnt
    rw [List.append_assoc, rdStep_leB 1 (n % 256) _ (by omega)]
  have e2 : rdStep 1 (leB 1 (n / 256 % 256) ++ l) 0 = (n / 256 % 256, l, 0) := rdStep_leB 1 _ _ (by omega)
  rw [psT, e1]
  simp only [e2]
  rw [if_neg (by simp), show n % 256 + 256 * (n / 256 % 256) = n by omega]

theorem psK_kids : ∀ (t : Tr) (F d : Nat) (p : Option ByteArray) (m : Nat) (rest : List UInt8), 13 ≤ F + d → Fit2 t →
    ((walkC d t p m).2 = 0 → psK (psT F (d + 1)) d t.len p m (t.kids ++ rest) = (t, rest, (walkC d t p m).1, 0)) ∧
    ((walkC d t p m).2 ≠ 0 → ∃ (l' : List UInt8) (m' : Nat), psK (psT F (d + 1)) d t.len p m (t.kids ++ rest) = (Tr.nil, l', m', (((walkC d t p m).2 : Nat) : Int)))
  | .nil, F, d, p, m, rest, _, _ => ⟨fun _ => rfl, fun h => absurd rfl h⟩
  | .cons s k r, F, d, p, m, rest, hF, ⟨h1, h2, h3, h4⟩ => by
    have hk : (Tr.cons s k r).kids ++ rest = textB s ++ (cnt k.len ++ (k.kids ++ (r.kids ++ rest))) := by simp [Tr.kids]
    have hx := txStep_textB s (cnt k.len ++ (k.kids ++ (r.kids ++ rest))) h1
    have hw : (walkC d (.cons s k r) p m) = if flt d p s (m + 1) ≠ 0 then (m + 1, flt d p s (m + 1)) else if (walkC (d + 1) k none (m + 1)).2 = 0 then walkC d r (some s) (walkC (d + 1) k none (m + 1)).1 else walkC (d + 1) k none (m + 1) := by
      rw [walkC]
      unfold flt
      by_cases c1 : 400 < m + 1
      · simp [c1]
      · by_cases c2 : 12 < d
        · simp [c1, c2]
        · by_cases c3 : 80 < s.size
          · simp [c1, c2, c3]
          · by_cases c4 : notAfter p s = true
            · simp [c1, c2, c3, c4]
            · simp [c1, c2, c3, c4]
    rw [hk, hw, show (Tr.cons s k r).len = r.len + 1 from rfl, psK, hx]
    simp only [back]
    by_cases hf : flt d p s (m + 1) = 0
    · have hd : d ≤ 12 := by
        unfold flt at hf
        split at hf
        · cases hf
        · split at hf
          · cases hf
          · omega
      obtain ⟨G, rfl⟩ : ∃ G, F = G + 1 := ⟨F - 1, by omega⟩
      obtain ⟨k1, k2⟩ := psK_kids k G (d + 1) none (m + 1) (r.kids ++ rest) (by omega) h3
      have hsub := psT_cnt G (d + 1) (m + 1) k.len (k.kids ++ (r.kids ++ rest)) h2
      simp only [hf, ne_eq, not_true_eq_false, if_false, hsub]
      by_cases hz : (walkC (d + 1) k none (m + 1)).2 = 0
      · obtain ⟨r1, r2⟩ := psK_kids r (G + 1) d (some s) (walkC (d + 1) k none (m + 1)).1 rest hF h4
        simp only [k1 hz, hz, if_true, not_true_eq_false, if_false]
        refine ⟨fun h0 => ?_, fun h0 => ?_⟩
        · rw [r1 h0]
          simp
        · obtain ⟨l', m', e⟩ := r2 h0
          refine ⟨l', m', ?_⟩
          rw [e]
          simp [h0]
      · obtain ⟨l', m', e⟩ := k2 hz
        have : ¬ (((walkC (d + 1) k none (m + 1)).2 : Nat) : Int) = 0 := by omega
        simp only [e, hz, if_false]
        refine ⟨fun h0 => h0.elim, fun _ => ⟨l', m', ?_⟩⟩
        rw [if_pos this]
    · simp only [hf, ne_eq, not_true_eq_false, if_false, not_false_eq_true, if_true]
      exact ⟨fun h0 => h0.elim, fun _ => ⟨_, _, rfl⟩⟩
/-- A tree's own bytes. -/
theorem psT_bin (t : Tr) (rest : List UInt8) (hl : t.len ≤ 65535) (hf : Fit2 t) :
    ((walkC 1 t none 0).2 = 0 → psT 14 1 0 (t.bin ++ rest) = (t, rest, (walkC 1 t none 0).1, 0)) ∧ ((walkC 1 t none 0).2 ≠ 0 → ∃ (l' : List UInt8) (m' : Nat), psT 14 1 0 (t.bin ++ rest) = (Tr.nil, l', m', (((walkC 1 t none 0).2 : Nat) : Int))) := by
  rw [Tr.bin, List.append_assoc, psT_cnt 13 1 0 t.len _ hl]
  exact psK_kids t 13 1 none 0 rest (by omega) hf
end Go.Proofs.Ytebiinjcegdmpaa.Ps
