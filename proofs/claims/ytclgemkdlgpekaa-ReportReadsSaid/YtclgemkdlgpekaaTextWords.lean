/- The text of a tree: as the document has it; and as a row of edges makes it, one by one. No conditions. -/
import Derived.Test.YtclgemkdlgpekaaTree
import Derived.Test.YtclgemkdlgpekaaQuote
namespace Go.Proofs.Ytclgemkdlgpekaa
open Go.RowKit

/-- Text: braces, its edges between; the edges alone. -/
def Tr.body : Tr → List UInt8
  | .nil => []
  | .cons s k .nil => quo s.data.toList ++ [58, 32, 123] ++ k.body ++ [125]
  | .cons s k (.cons s2 k2 r2) => quo s.data.toList ++ [58, 32, 123] ++ k.body ++ [125, 44, 32] ++ (Tr.cons s2 k2 r2).body
def Tr.text (t : Tr) : List UInt8 := [123] ++ t.body ++ [125]

/-- One edge behind those ahead: what is written so far, how many braces stand open. -/
def textStep (st : List UInt8 × Nat) (x : Nat × ByteArray × Nat) : List UInt8 × Nat :=
  ((if x.1 ≤ st.2 then st.1 ++ (List.replicate (st.2 - x.1 + 1) 125 ++ [44, 32]) else st.1) ++ quo x.2.1.data.toList ++ [58, 32, 123], x.1)
def textRun (st : List UInt8 × Nat) (l : List (Nat × ByteArray × Nat)) : List UInt8 × Nat := l.foldl textStep st
theorem textRun_append (st : List UInt8 × Nat) (l m : List (Nat × ByteArray × Nat)) : textRun st (l ++ m) = textRun (textRun st l) m := by simp [textRun]
theorem textRun_one (st : List UInt8 × Nat) (l : List (Nat × ByteArray × Nat)) (x : Nat × ByteArray × Nat) : textRun st (l ++ [x]) = textStep (textRun st l) x := by simp [textRun]
theorem textStep_more (st : List UInt8 × Nat) (x : Nat × ByteArray × Nat) : st.1.length ≤ (textStep st x).1.length := by
  unfold textStep
  simp only [List.length_append]
  split
  · simp only [List.length_append]; omega
  · omega
theorem textRun_more (l : List (Nat × ByteArray × Nat)) : ∀ st, st.1.length ≤ (textRun st l).1.length := by
  induction l with
  | nil => intro st; exact Nat.le_refl _
  | cons x l ih => intro st; exact Nat.le_trans (textStep_more st x) (ih (textStep st x))

/-- Closed down to m open braces. -/
def shutTo (st : List UInt8 × Nat) (m : Nat) : List UInt8 := st.1 ++ List.replicate (st.2 - m) 125
theorem replicate_down {o d : Nat} (h : d ≤ o) (hd : 1 ≤ d) : List.replicate (o - (d - 1)) (125 : UInt8) = List.replicate (o - d) 125 ++ [125] := by
  rw [show o - (d - 1) = (o - d) + 1 by omega, List.replicate_succ']
theorem shut_down {st : List UInt8 × Nat} {d : Nat} (h : d ≤ st.2) (hd : 1 ≤ d) : shutTo st (d - 1) = shutTo st d ++ [125] := by
  unfold shutTo
  rw [replicate_down h hd, List.append_assoc]

theorem text_flat (t : Tr) : ∀ (d : Nat), 1 ≤ d →
    (∀ out, d - 1 ≤ (textRun (out, d - 1) (t.flat d)).2 ∧ shutTo (textRun (out, d - 1) (t.flat d)) (d - 1) = out ++ t.body) ∧
    (∀ out o, d ≤ o → t ≠ .nil → d ≤ (textRun (out, o) (t.flat d)).2 ∧ shutTo (textRun (out, o) (t.flat d)) (d - 1) = shutTo (out, o) (d - 1) ++ [44, 32] ++ t.body) := by
  induction t with
  | nil =>
    intro d hd
    refine ⟨fun out => ⟨Nat.le_refl _, by simp [Tr.flat, textRun, shutTo, Tr.body]⟩, fun out o _ h => absurd rfl h⟩
  | cons s k r ihk ihr =>
    intro d hd
    -- behind the edge itself
    have rest : ∀ pre : List UInt8, d ≤ (textRun (pre ++ quo s.data.toList ++ [58, 32, 123], d) (k.flat (d + 1) ++ r.flat d)).2 ∧
        shutTo (textRun (pre ++ quo s.data.toList ++ [58, 32, 123], d) (k.flat (d + 1) ++ r.flat d)) (d - 1) = pre ++ (Tr.cons s k r).body := by
      intro pre
      obtain ⟨h1, h2⟩ := (ihk (d + 1) (by omega)).1 (pre ++ quo s.data.toList ++ [58, 32, 123])
      simp only [Nat.add_sub_cancel] at h1 h2
      rw [textRun_append]
      generalize textRun (pre ++ quo s.data.toList ++ [58, 32, 123], d) (k.flat (d + 1)) = st at h1 h2 ⊢
      have h3 := shut_down h1 hd
      rw [h2] at h3
      cases r with
      | nil =>
        simp only [Tr.flat, textRun, List.foldl_nil]
        refine ⟨h1, ?_⟩
        rw [h3]
        simp [Tr.body]
      | cons s2 k2 r2 =>
        obtain ⟨h4, h5⟩ := (ihr d hd).2 st.1 st.2 h1 (by intro e; cases e)
        refine ⟨h4, ?_⟩
        rw [show (st.1, st.2) = st from rfl] at h5
        rw [h5, h3]
        simp [Tr.body]
    refine ⟨fun out => ?_, fun out o ho _ => ?_⟩
    · have hs : textRun (out, d - 1) ((Tr.cons s k r).flat d) = textRun (out ++ quo s.data.toList ++ [58, 32, 123], d) (k.flat (d + 1) ++ r.flat d) := by
        simp only [Tr.flat, textRun, List.foldl_cons, textStep]
        rw [if_neg (by omega)]
      rw [hs]
      obtain ⟨h1, h2⟩ := rest out
      exact ⟨by omega, h2⟩
    · have hs : textRun (out, o) ((Tr.cons s k r).flat d) = textRun ((out ++ (List.replicate (o - d + 1) 125 ++ [44, 32])) ++ quo s.data.toList ++ [58, 32, 123], d) (k.flat (d + 1) ++ r.flat d) := by
        simp only [Tr.flat, textRun, List.foldl_cons, textStep]
        rw [if_pos ho]
      rw [hs]
      obtain ⟨h1, h2⟩ := rest (out ++ (List.replicate (o - d + 1) 125 ++ [44, 32]))
      refine ⟨h1, ?_⟩
      rw [h2]
      unfold shutTo
      simp only
      rw [show o - (d - 1) = o - d + 1 by omega]
      simp

/-- The whole. -/
theorem text_run (t : Tr) : (textRun ([123], 0) (t.flat 1)).1 ++ List.replicate ((textRun ([123], 0) (t.flat 1)).2 + 1) 125 = t.text := by
  obtain ⟨h1, h2⟩ := (text_flat t 1 (Nat.le_refl _)).1 [123]
  simp only [Nat.sub_self] at h1 h2
  unfold shutTo at h2
  rw [Nat.sub_zero] at h2
  rw [List.replicate_succ', ← List.append_assoc, h2]
  rfl
theorem quo_le (s : List UInt8) : (quo s).length ≤ 4 * s.length + 2 := by
  have := quoL_le s
  simp only [quo, List.length_append, List.length_cons, List.length_nil]
  omega
theorem body_le : ∀ t : Tr, t.body.length ≤ 4 * t.bulk + 8 * t.size
  | .nil => by simp [Tr.body]
  | .cons s k .nil => by
    have h1 := quo_le s.data.toList
    have h2 := body_le k
    simp only [Tr.body, Tr.bulk, Tr.size, List.length_append, List.length_cons, List.length_nil, Array.length_toList] at h1 ⊢
    have : s.data.size = s.size := rfl
    omega
  | .cons s k (.cons s2 k2 r2) => by
    have h1 := quo_le s.data.toList
    have h2 := body_le k
    have h3 := body_le (.cons s2 k2 r2)
    simp only [Tr.body, Tr.bulk, Tr.size, List.length_append, List.length_cons, List.length_nil, Array.length_toList] at h1 h3 ⊢
    have : s.data.size = s.size := rfl
    omega
theorem flat_deep (t : Tr) : ∀ d, ∀ x ∈ t.flat d, d ≤ x.1 ∧ x.1 ≤ d + t.size ∧ x.2.1.size ≤ t.bulk := by
  induction t with
  | nil => intro d x hx; cases hx
  | cons s k r ihk ihr =>
    intro d x hx
    simp only [Tr.flat, List.mem_cons, List.mem_append] at hx
    simp only [Tr.size, Tr.bulk]
    rcases hx with rfl | hx | hx
    · simp only; omega
    · have := ihk _ x hx; omega
    · have := ihr _ x hx; omega
end Go.Proofs.Ytclgemkdlgpekaa
