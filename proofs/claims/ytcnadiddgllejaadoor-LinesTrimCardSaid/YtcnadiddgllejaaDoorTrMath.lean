/- The blanks at the front of a text, those at its end: plain mathematics. No conditions. -/
import Derived.Test.YtcnadiddgllejaaDoorLiRow
import Derived.Test.YtcnadiddgllejaaDoorShelf
namespace Go.Proofs.YtcnadiddgllejaaDoor.Li
set_option maxRecDepth 100000

def bl (c : UInt8) : Bool := ([32, 9] : Bs).contains c
def tl (l : Bs) : Nat := (l.takeWhile bl).length
theorem tl_le (l : Bs) : tl l ≤ l.length := by
  induction l with
  | nil => exact Nat.le_refl _
  | cons c r ih =>
    unfold tl at ih ⊢
    rw [List.takeWhile_cons]
    cases bl c <;> simp <;> omega
theorem tl_in : ∀ (l : Bs) (i : Nat) (h : i < l.length), i < tl l → bl l[i] = true
  | [], i, h, _ => by simp at h
  | c :: r, i, h, hi => by
    unfold tl at hi
    rw [List.takeWhile_cons] at hi
    cases hc : bl c with
    | false => rw [hc] at hi; simp at hi
    | true =>
      cases i with
      | zero => exact hc
      | succ i =>
        rw [hc] at hi
        simp at hi
        exact tl_in r i (by simpa using h) hi
theorem tl_out : ∀ (l : Bs) (h : tl l < l.length), bl (l[tl l]'h) = false
  | [], h => by simp at h
  | c :: r, h => by
    cases hc : bl c with
    | false =>
      have e : tl (c :: r) = 0 := by unfold tl; rw [List.takeWhile_cons, hc]; rfl
      simp only [e]
      exact hc
    | true =>
      have e : tl (c :: r) = tl r + 1 := by unfold tl; rw [List.takeWhile_cons, hc]; rfl
      simp only [e]
      exact tl_out r (by rw [e] at h; simpa using h)
theorem tl_drop : ∀ l : Bs, l.dropWhile bl = l.drop (tl l)
  | [] => rfl
  | c :: r => by
    cases hc : bl c with
    | false =>
      have e : tl (c :: r) = 0 := by unfold tl; rw [List.takeWhile_cons, hc]; rfl
      rw [e, List.dropWhile_cons, hc]; rfl
    | true =>
      have e : tl (c :: r) = tl r + 1 := by unfold tl; rw [List.takeWhile_cons, hc]; rfl
      rw [e, List.dropWhile_cons, hc, List.drop_succ_cons]
      exact tl_drop r
def tr (l : Bs) : Nat := l.length - tl l.reverse
theorem tr_le (l : Bs) : tr l ≤ l.length := Nat.sub_le _ _
theorem tr_take (l : Bs) : (l.reverse.dropWhile bl).reverse = l.take (tr l) := by
  rw [tl_drop, List.drop_reverse, List.reverse_reverse]; rfl
theorem tr_in (l : Bs) (i : Nat) (h : i < l.length) (hi : tr l ≤ i) : bl l[i] = true := by
  have h1 := tl_le l.reverse
  rw [List.length_reverse] at h1
  unfold tr at hi
  have := tl_in l.reverse (l.length - 1 - i) (by rw [List.length_reverse]; omega) (by omega)
  rw [List.getElem_reverse] at this
  have e : l.length - 1 - (l.length - 1 - i) = i := by omega
  simpa only [e] using this
theorem tr_out (l : Bs) (h0 : 0 < tr l) (h : tr l - 1 < l.length) : bl (l[tr l - 1]'h) = false := by
  have h1 := tl_le l.reverse
  rw [List.length_reverse] at h1
  have h2 := tl_out l.reverse (by rw [List.length_reverse]; unfold tr at h0; omega)
  rw [List.getElem_reverse] at h2
  have e : l.length - 1 - tl l.reverse = tr l - 1 := by unfold tr; omega
  simpa only [e] using h2
/-- Where what is between ends. -/
def en (s : Bs) : Nat := tl s + tr (s.drop (tl s))
theorem en_le (s : Bs) : tl s ≤ en s ∧ en s ≤ s.length := by
  have h1 := tl_le s
  have h2 := tr_le (s.drop (tl s))
  rw [List.length_drop] at h2
  unfold en
  omega
theorem en_in (s : Bs) (i : Nat) (h : i < s.length) (hi : en s ≤ i) : bl s[i] = true := by
  have h1 := en_le s
  unfold en at hi
  have := tr_in (s.drop (tl s)) (i - tl s) (by rw [List.length_drop]; omega) (by omega)
  rw [List.getElem_drop] at this
  have e : tl s + (i - tl s) = i := by omega
  simpa only [e] using this
theorem en_out (s : Bs) (h0 : tl s < en s) (h : en s - 1 < s.length) : bl (s[en s - 1]'h) = false := by
  have h1 := en_le s
  have h2 : 0 < tr (s.drop (tl s)) := by unfold en at h0; omega
  have h3 := tr_out (s.drop (tl s)) h2 (by rw [List.length_drop]; unfold en at h; omega)
  rw [List.getElem_drop] at h3
  have e : tl s + (tr (s.drop (tl s)) - 1) = en s - 1 := by unfold en; omega
  simpa only [e] using h3
def fr (b : ByteArray) : ByteArray := ⟨(sl b.data.toList 0 (tl b.data.toList)).toArray⟩
def mi (b : ByteArray) : ByteArray := ⟨(sl b.data.toList (tl b.data.toList) (en b.data.toList)).toArray⟩
def ba (b : ByteArray) : ByteArray := ⟨(sl b.data.toList (en b.data.toList) b.data.toList.length).toArray⟩
theorem parts_all (b : ByteArray) : (fr b ++ mi b) ++ ba b = b := by
  have h1 := en_le b.data.toList
  apply ByteArray.ext
  rw [← Array.toList_inj, ByteArray.data_append, ByteArray.data_append, Array.toList_append, Array.toList_append]
  show sl _ 0 _ ++ sl _ _ _ ++ sl _ _ _ = _
  unfold sl
  rw [List.take_length, List.drop_zero]
  have e : (b.data.toList.take (tl b.data.toList)) = (b.data.toList.take (en b.data.toList)).take (tl b.data.toList) := by rw [List.take_take, Nat.min_eq_left h1.1]
  conv => lhs; lhs; lhs; rw [e]
  rw [List.take_append_drop, List.take_append_drop]
theorem mi_size (b : ByteArray) : (mi b).size = en b.data.toList - tl b.data.toList := by
  have h1 := en_le b.data.toList
  show (sl _ _ _).toArray.size = _
  rw [List.size_toArray, sl_length h1.2]
theorem mi_get (b : ByteArray) (j : Nat) (h : j < (mi b).size) : ∃ h2 : tl b.data.toList + j < b.data.toList.length, (mi b)[j] = b.data.toList[tl b.data.toList + j] := by
  have h1 := en_le b.data.toList
  have hs := mi_size b
  have h2 : tl b.data.toList + j < b.data.toList.length := by omega
  have h3 : j < (sl b.data.toList (tl b.data.toList) (en b.data.toList)).length := by rw [sl_length h1.2]; omega
  have e : (sl b.data.toList (tl b.data.toList) (en b.data.toList))[j]? = b.data.toList[tl b.data.toList + j]? := by
    rw [sl, List.getElem?_drop, List.getElem?_take_of_lt (by omega)]
  rw [List.getElem?_eq_getElem h3, List.getElem?_eq_getElem h2] at e
  exact ⟨h2, Option.some.inj e⟩
theorem bl_ne {c : UInt8} (h : bl c = false) : ((c.toNat : Int) == 32) = false ∧ ((c.toNat : Int) == 9) = false := by
  have h2 : ¬ (c = 32 ∨ c = 9) := by
    intro e
    rcases e with rfl | rfl <;> simp [bl] at h
  constructor
  · rw [beq_eq_false_iff_ne]
    intro e
    exact h2 (.inl (UInt8.toNat_inj.1 (by show c.toNat = 32; omega)))
  · rw [beq_eq_false_iff_ne]
    intro e
    exact h2 (.inr (UInt8.toNat_inj.1 (by show c.toNat = 9; omega)))
end Go.Proofs.YtcnadiddgllejaaDoor.Li
