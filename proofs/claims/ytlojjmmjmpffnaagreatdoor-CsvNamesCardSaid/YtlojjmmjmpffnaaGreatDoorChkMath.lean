/- What a judge says of edges that are told one by one, and what a check says of a tree that is gone through level by level: the same. No conditions. -/
import Derived.Test.YtlojjmmjmpffnaaGreatDoorTree
namespace Go.Proofs.YtlojjmmjmpffnaaGreatDoor
open Go.RowKit

/-- What is wrong with the next edge: so many were told, these are the names kept, so deep it stands, this is its name. -/
def judgeE (n : Nat) (L : List ByteArray) (d : Nat) (s : ByteArray) : Nat :=
  if 400 < n + 1 then 4 else if 12 < d then 11 else if 80 < s.size then 5 else
  if d ≤ L.length ∧ Op.bytesLess (L.getD (d - 1) ⟨#[]⟩).toList s.toList = false then 12 else 0
def judgeL (L : List ByteArray) (d : Nat) (s : ByteArray) : List ByteArray := L.take (d - 1) ++ [s]
/-- The first fault of edges. -/
def judgeRun : Nat → List ByteArray → List (Nat × ByteArray × Nat) → Nat
  | _, _, [] => 0
  | n, L, x :: r => if judgeE n L x.1 x.2.1 = 0 then judgeRun (n + 1) (judgeL L x.1 x.2.1) r else judgeE n L x.1 x.2.1
/-- No edge stands more than one deeper than the one ahead of it. -/
def Smooth : Nat → List (Nat × ByteArray × Nat) → Prop
  | _, [] => True
  | k, x :: r => 1 ≤ x.1 ∧ x.1 ≤ k + 1 ∧ Smooth x.1 r
theorem smooth_flat (t : Tr) : ∀ (d k : Nat) (ys : List (Nat × ByteArray × Nat)), 1 ≤ d → d ≤ k + 1 → (∀ j, d ≤ j + 1 → Smooth j ys) → Smooth k (t.flat d ++ ys) := by
  induction t with
  | nil => intro d k ys _ h2 h3; exact h3 k h2
  | cons s k0 r ih1 ih2 =>
    intro d k ys h1 h2 h3
    simp only [Tr.flat, List.cons_append, List.append_assoc, Smooth]
    exact ⟨h1, h2, ih1 (d + 1) d _ (by omega) (by omega) (fun j hj => ih2 d j ys h1 (by omega) h3)⟩
theorem smooth_all (t : Tr) : Smooth 0 (t.flat 1) := by
  have := smooth_flat t 1 0 [] (by omega) (by omega) (fun _ _ => trivial)
  simpa using this
theorem judgeL_length {L : List ByteArray} {d : Nat} {s : ByteArray} (h1 : 1 ≤ d) (h2 : d ≤ L.length + 1) : (judgeL L d s).length = d := by
  simp only [judgeL, List.length_append, List.length_take, List.length_cons, List.length_nil]; omega
theorem judgeE_zero {n d : Nat} {L : List ByteArray} {s : ByteArray} (h : judgeE n L d s = 0) : n + 1 ≤ 400 ∧ d ≤ 12 ∧ s.size ≤ 80 ∧ ¬ (d ≤ L.length ∧ Op.bytesLess (L.getD (d - 1) ⟨#[]⟩).toList s.toList = false) := by
  unfold judgeE at h
  split at h
  · cases h
  split at h
  · cases h
  split at h
  · cases h
  split at h
  · cases h
  · rename_i h1 h2 h3 h4; exact ⟨by omega, by omega, by omega, h4⟩

/-- Is the name not behind the one ahead of it. -/
def notAfter (p : Option ByteArray) (s : ByteArray) : Bool :=
  match p with
  | some q => !Op.bytesLess q.toList s.toList
  | none => false
/-- A level, and all below it: how many were counted; the first fault. -/
def walkC : Nat → Tr → Option ByteArray → Nat → Nat × Nat
  | _, .nil, _, n => (n, 0)
  | d, .cons s k r, p, n =>
    if 400 < n + 1 then (n + 1, 4) else if 12 < d then (n + 1, 11) else if 80 < s.size then (n + 1, 5) else if notAfter p s = true then (n + 1, 12) else
    if (walkC (d + 1) k none (n + 1)).2 = 0 then walkC d r (some s) (walkC (d + 1) k none (n + 1)).1 else walkC (d + 1) k none (n + 1)
theorem judge_walk (t : Tr) : ∀ (d n : Nat) (P J : List ByteArray) (p : Option ByteArray) (ys : List (Nat × ByteArray × Nat)), 1 ≤ d → P.length = d - 1 → p = J.head? →
    ((walkC d t p n).2 = 0 → ∃ J', judgeRun n (P ++ J) (t.flat d ++ ys) = judgeRun (walkC d t p n).1 (P ++ J') ys) ∧
    ((walkC d t p n).2 ≠ 0 → judgeRun n (P ++ J) (t.flat d ++ ys) = (walkC d t p n).2) := by
  induction t with
  | nil => intro d n P J p ys _ _ _; exact ⟨fun _ => ⟨J, rfl⟩, fun h => absurd rfl h⟩
  | cons s k r ih1 ih2 =>
    intro d n P J p ys h1 hP hp
    have hj : judgeE n (P ++ J) d s = if 400 < n + 1 then 4 else if 12 < d then 11 else if 80 < s.size then 5 else if notAfter p s = true then 12 else 0 := by
      unfold judgeE
      have he : (d ≤ (P ++ J).length ∧ Op.bytesLess ((P ++ J).getD (d - 1) ⟨#[]⟩).toList s.toList = false) ↔ notAfter p s = true := by
        subst hp
        cases J with
        | nil => simp [notAfter]; omega
        | cons q J =>
          have : (P ++ q :: J).getD (d - 1) ⟨#[]⟩ = q := by
            rw [List.getD_eq_getElem?_getD, List.getElem?_append_right (by omega), hP, Nat.sub_self]; rfl
          rw [this]
          simp [notAfter]; omega
      by_cases hn : notAfter p s = true
      · rw [if_pos (he.2 hn), if_pos hn]
      · rw [if_neg (fun h => hn (he.1 h)), if_neg hn]
    have hL : judgeL (P ++ J) d s = P ++ [s] := by
      unfold judgeL
      rw [← hP, List.take_left]
    simp only [Tr.flat, List.cons_append, List.append_assoc, judgeRun, walkC]
    rw [hj, hL]
    by_cases c1 : 400 < n + 1
    · simp [c1]
    by_cases c2 : 12 < d
    · simp [c1, c2]
    by_cases c3 : 80 < s.size
    · simp [c1, c2, c3]
    by_cases c4 : notAfter p s = true
    · simp [c1, c2, c3, c4]
    rw [if_neg c1, if_neg c2, if_neg c3, if_neg c4, if_neg c1, if_neg c2, if_neg c3, if_neg c4, if_pos rfl]
    obtain ⟨a1, a2⟩ := ih1 (d + 1) (n + 1) (P ++ [s]) [] none (r.flat d ++ ys) (by omega) (by simp; omega) rfl
    rw [List.append_nil] at a1 a2
    split
    · rename_i hz
      obtain ⟨J', hJ'⟩ := a1 hz
      rw [hJ', List.append_assoc]
      exact ih2 d _ P ([s] ++ J') (some s) ys h1 hP rfl
    · rename_i hz
      rw [a2 hz]
      exact ⟨fun h => absurd h hz, fun _ => rfl⟩
/-- What is wrong with a tree; 0: nothing. -/
def Tr.fault (t : Tr) : Nat := (walkC 1 t none 0).2
theorem judge_all (t : Tr) : judgeRun 0 [] (t.flat 1) = t.fault := by
  have := judge_walk t 1 0 [] [] none [] (by omega) rfl rfl
  rw [List.append_nil, List.append_nil] at this
  unfold Tr.fault
  by_cases hz : (walkC 1 t none 0).2 = 0
  · obtain ⟨J', h⟩ := this.1 hz
    rw [h, hz]
    rfl
  · exact this.2 hz
theorem walkC_le : ∀ (t : Tr) (d n : Nat) (p : Option ByteArray), n ≤ 400 → n ≤ (walkC d t p n).1 ∧ (walkC d t p n).1 ≤ 401 ∧ ((walkC d t p n).2 = 0 → (walkC d t p n).1 ≤ 400) ∧ (walkC d t p n).2 ≤ 12
  | .nil, d, n, p, h => by simp [walkC]; omega
  | .cons s k r, d, n, p, h => by
    unfold walkC
    by_cases c1 : 400 < n + 1
    · simp [c1]; omega
    by_cases c2 : 12 < d
    · simp [c1, c2]; omega
    by_cases c3 : 80 < s.size
    · simp [c1, c2, c3]; omega
    by_cases c4 : notAfter p s = true
    · simp [c1, c2, c3, c4]; omega
    rw [if_neg c1, if_neg c2, if_neg c3, if_neg c4]
    obtain ⟨a1, a2, a3, a4⟩ := walkC_le k (d + 1) (n + 1) none (by omega)
    split
    · rename_i hz
      obtain ⟨b1, b2, b3, b4⟩ := walkC_le r d _ (some s) (a3 hz)
      exact ⟨by omega, b2, b3, b4⟩
    · exact ⟨by omega, a2, a3, a4⟩
end Go.Proofs.YtlojjmmjmpffnaaGreatDoor
