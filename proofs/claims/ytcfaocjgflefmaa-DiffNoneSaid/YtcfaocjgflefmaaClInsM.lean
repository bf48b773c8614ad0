/- Cells laid over a row: what stands there then. No conditions. -/
import Derived.Test.YtcfaocjgflefmaaClCopy
namespace Go.Proofs.Ytcfaocjgflefmaa.Cl
open Go.RowKit

theorem ins_b {α : Type} (cur p x d : List α) (i : Nat) (hp : cur.take i = p) (hi : p.length = i) (_ : i + x.length + d.length ≤ cur.length) :
    (splice (splice cur i x) (i + x.length) d).take (i + x.length + d.length) = p ++ (x ++ d) := by
  unfold splice
  rw [hp]
  have e1 : (p ++ (x ++ cur.drop (i + x.length))).take (i + x.length) = p ++ x := by
    rw [← List.append_assoc, List.take_append_of_le_length (by simp [hi]), List.take_of_length_le (by simp [hi])]
  rw [e1, ← List.append_assoc (p ++ x) d, List.take_append_of_le_length (by simp [hi]; omega), List.take_of_length_le (by simp [hi]; omega)]
  simp
theorem ins_c {α : Type} (cur p x d : List α) (i : Nat) (hp : cur.take i = p) (hi : p.length = i) (hl : i + x.length + d.length ≤ cur.length) :
    (splice (splice cur (i + x.length) d) i x).take (i + x.length + d.length) = p ++ (x ++ d) := by
  unfold splice
  have e1 : (cur.take (i + x.length) ++ (d ++ cur.drop (i + x.length + d.length))).take i = p := by
    rw [List.take_append_of_le_length (by rw [List.length_take]; omega), List.take_take, Nat.min_eq_left (by omega), hp]
  have e2 : (cur.take (i + x.length) ++ (d ++ cur.drop (i + x.length + d.length))).drop (i + x.length) = d ++ cur.drop (i + x.length + d.length) := by
    rw [List.drop_append_of_le_length (by rw [List.length_take]; omega), List.drop_of_length_le (by rw [List.length_take]; omega), List.nil_append]
  rw [e1, e2, ← List.append_assoc x d, ← List.append_assoc p, List.take_append_of_le_length (by simp [hi]; omega), List.take_of_length_le (by simp [hi]; omega)]
theorem splice_size {α : Type} (cur cs : List α) (o n : Nat) (h : o + cs.length ≤ cur.length) (hn : cur.length = n) : (splice cur o cs).toArray.size = n := by
  rw [List.size_toArray, length_splice cur o cs h, hn]
end Go.Proofs.Ytcfaocjgflefmaa.Cl
