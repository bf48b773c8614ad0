/- The fields of a line. No conditions. -/
import Derived.Test.YtkgpjohfkfbfhaaGreatDoorRpWord
import Derived.Test.YtkgpjohfkfbfhaaGreatDoorMwCwEach
namespace Go.Proofs.YtkgpjohfkfbfhaaGreatDoor.Cv
open Go.RowKit Go.Proofs.YtkgpjohfkfbfhaaGreatDoor.Jd Go.Proofs.YtkgpjohfkfbfhaaGreatDoor.Li Go.Proofs.YtkgpjohfkfbfhaaGreatDoor.Pt
set_option maxRecDepth 100000

def fldF (m : ByteArray) (o : Option Ln) : Bs :=
  match o with
  | none => qF m.data.toList
  | some x => if ((ByteArray.mk x.2.toArray).toList == m.toList) = true then x.1 else qF m.data.toList
theorem fieldF_get : ∀ (ms : List ByteArray) (fs : List Ln) (j : Nat) (m : ByteArray), ms[j]? = some m → (fieldF ms fs)[j]? = some (fldF m fs[j]?)
  | [], _, _, _, h => by simp at h
  | m :: ms, [], 0, _, h => by simp at h; subst h; simp [fieldF, fldF]
  | m :: ms, [], j + 1, m', h => by
    have := fieldF_get ms [] j m' (by simpa using h)
    simp [fieldF] at this ⊢
    exact this
  | m :: ms, x :: fs, 0, _, h => by simp at h; subst h; simp [fieldF, fldF]
  | m :: ms, x :: fs, j + 1, m', h => by
    have := fieldF_get ms fs j m' (by simpa using h)
    simp [fieldF] at this ⊢
    exact this
theorem join_take {F : List Bs} {k : Nat} {y : Bs} (h : F[k + 1]? = some y) : Lib.join (F.take (k + 2)) [44] = Lib.join (F.take (k + 1)) [44] ++ [44] ++ y := by
  cases F with
  | nil => simp at h
  | cons f r =>
    rw [List.take_succ_cons, List.take_succ_cons, Lib.join_cons, Lib.join_cons, Lib.joinTail_take_succ _ _ _ _ (by simpa using h)]
    simp only [List.append_assoc]
theorem fldF_len {m : ByteArray} {o : Option Ln} (hm : m.size ≤ 4000) (ho : ∀ x, o = some x → x.1.length ≤ 4000) : (fldF m o).length ≤ 12004 := by
  have h1 := qF_len m.data.toList
  have h2 : m.data.toList.length = m.size := rfl
  cases o with
  | none => rw [fldF]; omega
  | some x =>
    have := ho x rfl
    unfold fldF
    dsimp only
    split <;> omega
def lineF (name : ByteArray) (cols : List ByteArray) (t : Tr) (fs : List Ln) : Bs := Lib.join (fieldF (recF name cols t) fs) [44]
end Go.Proofs.YtkgpjohfkfbfhaaGreatDoor.Cv
