/- Lines of a text, joined, their ends; one line put among others: plain mathematics. No conditions. -/
import Derived.Test.YtclgemkdlgpekaaRows
namespace Go.Proofs.Ytclgemkdlgpekaa.Li
set_option maxRecDepth 100000

abbrev Bs := List UInt8
/-- A line: its text, its end. -/
abbrev Ln := Bs × Bs
def cut (cur : Bs) : Ln := if cur.getLast? = some 13 then (cur.dropLast, [13, 10]) else (cur, [10])
def spl : Bs → Bs → List Ln
  | cur, [] => if cur = [] then [] else [(cur, [])]
  | cur, c :: r => if c = 10 then cut cur :: spl [] r else spl (cur ++ [c]) r
def split (s : Bs) : List Ln := spl [] s
def join : List Ln → Bs
  | [] => []
  | x :: r => x.1 ++ x.2 ++ join r
def endOf : List Ln → Bs
  | [] => [10]
  | x :: _ => if x.2 = [] then [10] else x.2

theorem join_append (a b : List Ln) : join (a ++ b) = join a ++ join b := by
  induction a with
  | nil => rfl
  | cons x r ih => simp [join, ih]
theorem cut_join (cur : Bs) : (cut cur).1 ++ (cut cur).2 = cur ++ [10] := by
  unfold cut
  by_cases h : cur.getLast? = some 13
  · rw [if_pos h]
    obtain ⟨x, rfl⟩ := List.getLast?_eq_some_iff.1 h
    simp
  · rw [if_neg h]
theorem join_spl : ∀ (r cur : Bs), join (spl cur r) = cur ++ r
  | [], cur => by
    by_cases h : cur = []
    · subst h; rfl
    · simp only [spl]
      rw [if_neg h]
      simp [join]
  | c :: r, cur => by
    by_cases h : c = 10
    · subst h
      have := cut_join cur
      simp only [spl, if_true, join, join_spl r []]
      rw [this]
      simp
    · simp only [spl]
      rw [if_neg h, join_spl r]
      simp
theorem join_split (s : Bs) : join (split s) = s := by
  rw [split, join_spl]; rfl
theorem spl_append : ∀ (a cur b : Bs), spl cur (a ++ 10 :: b) = spl cur (a ++ [10]) ++ spl [] b
  | [], cur, b => by simp [spl]
  | c :: a, cur, b => by
    by_cases h : c = 10
    · subst h
      simp only [List.cons_append, spl, if_true, spl_append a [] b]
    · simp only [List.cons_append, spl]
      rw [if_neg h, if_neg h, spl_append a _ b]
theorem split_append (a b : Bs) : split (a ++ 10 :: b) = split (a ++ [10]) ++ split b := spl_append a [] b

/-- A line's end, where it is not the last one. -/
def Fin (e : Bs) : Prop := e = [10] ∨ e = [13, 10]
theorem cut_fin (cur : Bs) : Fin (cut cur).2 := by
  unfold cut
  by_cases h : cur.getLast? = some 13
  · rw [if_pos h]; exact .inr rfl
  · rw [if_neg h]; exact .inl rfl
theorem cut_no (cur : Bs) (h : (10 : UInt8) ∉ cur) : (10 : UInt8) ∉ (cut cur).1 := by
  unfold cut
  by_cases hc : cur.getLast? = some 13
  · rw [if_pos hc]; exact fun hm => h ((List.dropLast_sublist _).subset hm)
  · rw [if_neg hc]; exact h
/-- Lines as they come of a text: all but the last one end; the last one ends or is not empty; no 10 in a text. -/
def Good : List Ln → Prop
  | [] => True
  | [x] => (10 : UInt8) ∉ x.1 ∧ (Fin x.2 ∨ (x.2 = [] ∧ x.1 ≠ []))
  | x :: y :: r => (10 : UInt8) ∉ x.1 ∧ Fin x.2 ∧ Good (y :: r)
theorem Good.cons {x : Ln} {r : List Ln} (h1 : (10 : UInt8) ∉ x.1) (h2 : Fin x.2) (h : Good r) : Good (x :: r) := by
  cases r with
  | nil => exact ⟨h1, .inl h2⟩
  | cons y r => exact ⟨h1, h2, h⟩
theorem spl_good : ∀ (r cur : Bs), (10 : UInt8) ∉ cur → Good (spl cur r)
  | [], cur, h => by
    by_cases hc : cur = []
    · subst hc; trivial
    · simp only [spl]
      rw [if_neg hc]
      exact ⟨h, .inr ⟨rfl, hc⟩⟩
  | c :: r, cur, h => by
    by_cases hc : c = 10
    · subst hc
      simp only [spl, if_true]
      exact Good.cons (cut_no cur h) (cut_fin cur) (spl_good r [] (by simp))
    · simp only [spl]
      rw [if_neg hc]
      exact spl_good r _ (by simp [h, Ne.symm hc])
theorem split_good (s : Bs) : Good (split s) := spl_good s [] (by simp)
theorem spl_one : ∀ (a cur : Bs), (10 : UInt8) ∉ a → (spl cur (a ++ [10])).length = 1
  | [], cur, _ => rfl
  | c :: a, cur, h => by
    rw [List.mem_cons, not_or] at h
    simp only [List.cons_append, spl]
    rw [if_neg (Ne.symm h.1), spl_one a _ h.2]
theorem spl_none : ∀ (a cur : Bs), (10 : UInt8) ∉ a → spl cur a = spl (cur ++ a) []
  | [], cur, _ => by rw [List.append_nil]
  | c :: a, cur, h => by
    rw [List.mem_cons, not_or] at h
    simp only [spl]
    rw [if_neg (Ne.symm h.1), spl_none a _ h.2]
    simp [spl]
theorem split_line {t e : Bs} (b : Bs) (h : (10 : UInt8) ∉ t) (he : Fin e) : (split (t ++ e ++ b)).length = 1 + (split b).length := by
  rcases he with rfl | rfl
  · rw [List.append_assoc, List.singleton_append, split_append, List.length_append, split, spl_one t [] h]
  · have := split_append (t ++ [13]) b
    simp only [List.append_assoc, List.cons_append, List.nil_append] at this ⊢
    rw [this, List.length_append]
    have h2 := spl_one (t ++ [13]) [] (by simp [h])
    simp only [List.append_assoc, List.cons_append, List.nil_append] at h2
    rw [split, h2]
theorem Good.count : ∀ (l : List Ln), Good l → (split (join l)).length = l.length
  | [], _ => rfl
  | [x], ⟨h1, h2⟩ => by
    rcases h2 with h2 | ⟨h2, h3⟩
    · rw [join, split_line _ h1 h2]; rfl
    · rw [join, h2, join, List.append_nil, List.append_nil, split, spl_none _ _ h1, List.nil_append, spl, if_neg h3]; rfl
  | x :: y :: r, ⟨h1, h2, h3⟩ => by
    rw [join, split_line _ h1 h2, Good.count (y :: r) h3, List.length_cons (a := x)]
    omega

/-- Lines that are not the last one have an end. -/
def ended (e : Bs) : List Ln → List Ln
  | [] => []
  | [x] => [x]
  | x :: y :: r => (x.1, if x.2 = [] then e else x.2) :: ended e (y :: r)
theorem ended_cons {e : Bs} {x : Ln} {r : List Ln} (h : r ≠ []) : ended e (x :: r) = (x.1, if x.2 = [] then e else x.2) :: ended e r := by
  cases r with
  | nil => exact absurd rfl h
  | cons y r => rfl
theorem ended_length (e : Bs) : ∀ l, (ended e l).length = l.length
  | [] => rfl
  | [x] => rfl
  | x :: y :: r => by rw [ended, List.length_cons, ended_length e (y :: r)]; rfl
theorem Good.ended (e : Bs) : ∀ (l : List Ln), Good l → ended e l = l
  | [], _ => rfl
  | [x], _ => rfl
  | x :: y :: r, ⟨_, h2, h3⟩ => by
    rw [Li.ended, Good.ended e (y :: r) h3, if_neg]
    rcases h2 with h | h <;> rw [h] <;> simp
def insert (l : List Ln) (k : Nat) (ts : List Bs) : List Ln := ended (endOf l) (l.take k ++ ts.map (fun t => (t, endOf l)) ++ l.drop k)
theorem endOf_fin {l : List Ln} (h : Good l) : Fin (endOf l) := by
  cases l with
  | nil => exact .inl rfl
  | cons x r =>
    unfold endOf
    by_cases h0 : x.2 = []
    · simp only; rw [if_pos h0]; exact .inl rfl
    · simp only; rw [if_neg h0]
      cases r with
      | nil =>
        rcases h.2 with g | ⟨g, _⟩
        · exact g
        · exact absurd g h0
      | cons y r => exact h.2.1
theorem insert_none {l : List Ln} (h : Good l) (k : Nat) : insert l k [] = l := by
  rw [insert, List.map_nil, List.append_nil, List.take_append_drop, h.ended]
/-- Texts without a 10; none of them is empty where it is the last one that does not end. -/
theorem ended_good {e : Bs} (he : Fin e) : ∀ (l : List Ln), (∀ x ∈ l, (10 : UInt8) ∉ x.1 ∧ (Fin x.2 ∨ (x.2 = [] ∧ x.1 ≠ []))) → Good (ended e l)
  | [], _ => trivial
  | [x], h => h x List.mem_cons_self
  | x :: y :: r, h => by
    rw [Li.ended]
    refine Good.cons (h x List.mem_cons_self).1 ?_ (ended_good he (y :: r) fun z hz => h z (List.mem_cons_of_mem _ hz))
    rcases (h x List.mem_cons_self).2 with g | ⟨g, _⟩
    · simp only
      rw [if_neg]
      · exact g
      · rcases g with g | g <;> rw [g] <;> simp
    · simp only
      rw [if_pos g]
      exact he
theorem Good.each : ∀ {l : List Ln}, Good l → ∀ x ∈ l, (10 : UInt8) ∉ x.1 ∧ (Fin x.2 ∨ (x.2 = [] ∧ x.1 ≠ []))
  | [], _, x, hx => by cases hx
  | [y], h, x, hx => by rw [List.mem_singleton] at hx; subst hx; exact h
  | y :: z :: r, ⟨h1, h2, h3⟩, x, hx => by
    rw [List.mem_cons] at hx
    rcases hx with rfl | hx
    · exact ⟨h1, .inl h2⟩
    · exact Good.each h3 x hx
theorem insert_good {l : List Ln} (h : Good l) (k : Nat) {ts : List Bs} (ht : ∀ t ∈ ts, (10 : UInt8) ∉ t) : Good (insert l k ts) := by
  refine ended_good (endOf_fin h) _ fun x hx => ?_
  simp only [List.mem_append, List.mem_map] at hx
  rcases hx with (hx | ⟨t, hm, rfl⟩) | hx
  · exact h.each x (List.mem_of_mem_take hx)
  · exact ⟨ht t hm, .inl (endOf_fin h)⟩
  · exact h.each x (List.mem_of_mem_drop hx)
/-- Text by text. -/
theorem ended_get (e : Bs) : ∀ (l : List Ln) (j : Nat) (x : Ln), l[j]? = some x → ∃ y, (ended e l)[j]? = some (x.1, y) ∧ (x.2 ≠ [] → y = x.2)
  | [], j, x, h => by simp at h
  | [z], j, x, h => by
    cases j with
    | zero => simp at h; subst h; exact ⟨_, rfl, fun _ => rfl⟩
    | succ j => simp at h
  | z :: y :: r, j, x, h => by
    cases j with
    | zero =>
      simp at h
      subst h
      refine ⟨_, rfl, fun hx => ?_⟩
      rw [if_neg hx]
    | succ j =>
      simp only [List.getElem?_cons_succ] at h
      obtain ⟨q, h1, h2⟩ := ended_get e (y :: r) j x h
      exact ⟨q, by rw [ended, List.getElem?_cons_succ, h1], h2⟩

/-- A piece of a text. -/
def sl (s : Bs) (a b : Nat) : Bs := (s.take b).drop a
theorem sl_self (s : Bs) (a : Nat) : sl s a a = [] := by
  rw [sl, List.drop_eq_nil_iff, List.length_take]; omega
theorem sl_snoc {s : Bs} {a k : Nat} (ha : a ≤ k) (hk : k < s.length) : sl s a k ++ [s[k]] = sl s a (k + 1) := by
  rw [sl, sl, List.take_succ_eq_append_getElem hk, List.drop_append_of_le_length (by rw [List.length_take]; omega)]
theorem sl_length {s : Bs} {a b : Nat} (hb : b ≤ s.length) : (sl s a b).length = b - a := by
  rw [sl, List.length_drop, List.length_take]; omega
/-- Whether what is ahead of k, from a on, ends in a 13. -/
def cr (s : Bs) (a k : Nat) : Bool := decide ((sl s a k).getLast? = some 13)
theorem cr_self (s : Bs) (a : Nat) : cr s a a = false := by simp [cr, sl_self]
theorem cr_snoc {s : Bs} {a k : Nat} (ha : a ≤ k) (hk : k < s.length) : cr s a (k + 1) = decide (s[k] = 13) := by
  rw [cr, ← sl_snoc ha hk]; simp
theorem cr_pos {s : Bs} {a k : Nat} (h : cr s a k = true) : a < k := by
  have h2 := of_decide_eq_true h
  rcases Nat.lt_or_ge a k with g | g
  · exact g
  · have : sl s a k = [] := by rw [sl, List.drop_eq_nil_iff, List.length_take]; omega
    rw [this] at h2
    simp at h2
def lo (s : Bs) (a k : Nat) : Nat := if cr s a k = true then k - 1 else k
theorem lo_le (s : Bs) (a k : Nat) (h : a ≤ k) : a ≤ lo s a k ∧ lo s a k ≤ k := by
  unfold lo
  by_cases g : cr s a k = true
  · rw [if_pos g]; have := cr_pos g; omega
  · rw [if_neg g]; omega
theorem cut_sl {s : Bs} {a k : Nat} (ha : a ≤ k) (hk : k < s.length) (h10 : s[k] = 10) : cut (sl s a k) = (sl s a (lo s a k), sl s (lo s a k) (k + 1)) := by
  unfold cut lo
  by_cases g : cr s a k = true
  · have g2 := of_decide_eq_true g
    have hp := cr_pos g
    rw [if_pos g2, if_pos g]
    obtain ⟨j, rfl⟩ : ∃ j, k = j + 1 := ⟨k - 1, by omega⟩
    have h1 := sl_snoc (s := s) (a := a) (k := j) (by omega) (by omega)
    have h13 : s[j] = 13 := by rw [← h1] at g2; simpa using g2
    have e1 : (sl s a (j + 1)).dropLast = sl s a j := by rw [← h1]; simp
    have e2 : sl s j (j + 1 + 1) = [13, 10] := by
      rw [← sl_snoc (s := s) (a := j) (k := j + 1) (by omega) hk, ← sl_snoc (s := s) (a := j) (k := j) (by omega) (by omega), sl_self, h13, h10]
      rfl
    rw [e1, Nat.add_sub_cancel, e2]
  · have g2 : ¬ (sl s a k).getLast? = some 13 := fun e => g (decide_eq_true e)
    rw [if_neg g2, if_neg g, ← sl_snoc (s := s) (a := k) (k := k) (Nat.le_refl _) hk, sl_self, h10]
    rfl
/-- Within a text: what is done, what is still to be done. -/
def Inv (s : Bs) (a k : Nat) (done : List Ln) : Prop := a ≤ k ∧ k ≤ s.length ∧ split s = done ++ spl (sl s a k) (s.drop k)
theorem Inv.start (s : Bs) : Inv s 0 0 [] := ⟨Nat.le_refl _, Nat.zero_le _, by rw [sl_self]; rfl⟩
theorem Inv.other {s : Bs} {a k : Nat} {done : List Ln} (h : Inv s a k done) (hk : k < s.length) (hne : s[k] ≠ 10) : Inv s a (k + 1) done := by
  obtain ⟨h1, h2, h3⟩ := h
  refine ⟨by omega, by omega, ?_⟩
  rw [h3, List.drop_eq_getElem_cons hk, spl, if_neg hne, sl_snoc h1 hk]
theorem Inv.line {s : Bs} {a k : Nat} {done : List Ln} (h : Inv s a k done) (hk : k < s.length) (he : s[k] = 10) : Inv s (k + 1) (k + 1) (done ++ [(sl s a (lo s a k), sl s (lo s a k) (k + 1))]) := by
  obtain ⟨h1, h2, h3⟩ := h
  refine ⟨Nat.le_refl _, by omega, ?_⟩
  rw [h3, List.drop_eq_getElem_cons hk, spl, if_pos he, cut_sl h1 hk he, sl_self]
  simp
theorem Inv.last {s : Bs} {a k : Nat} {done : List Ln} (h : Inv s a k done) (hk : k = s.length) : split s = if a < s.length then done ++ [(sl s a s.length, [])] else done := by
  obtain ⟨h1, h2, h3⟩ := h
  subst hk
  rw [h3, List.drop_length, spl]
  by_cases g : a < s.length
  · rw [if_pos g, if_neg]
    intro e
    have := sl_length (s := s) (a := a) (b := s.length) (Nat.le_refl _)
    rw [e] at this
    simp at this
    omega
  · obtain rfl : a = s.length := by omega
    rw [if_neg g, sl_self, if_pos rfl, List.append_nil]
theorem split_le (s : Bs) : (split s).length ≤ s.length := by
  have main : ∀ (r cur : Bs), (spl cur r).length ≤ cur.length + r.length := by
    intro r
    induction r with
    | nil =>
      intro cur
      rw [spl]
      by_cases h : cur = []
      · rw [if_pos h]; simp
      · rw [if_neg h]
        have := List.length_pos_iff.2 h
        simp; omega
    | cons c r ih =>
      intro cur
      rw [spl]
      by_cases h : c = 10
      · rw [if_pos h, List.length_cons, List.length_cons]
        have := ih []
        simp only [List.length_nil] at this
        omega
      · rw [if_neg h, List.length_cons]
        have := ih (cur ++ [c])
        simp only [List.length_append, List.length_cons, List.length_nil] at this
        omega
  have := main s []
  simpa [split] using this
theorem Inv.le {s : Bs} {a k : Nat} {done : List Ln} (h : Inv s a k done) : done.length ≤ s.length := by
  have := split_le s
  rw [h.2.2, List.length_append] at this
  omega
theorem Inv.le2 {s : Bs} {a k : Nat} {done : List Ln} (h : Inv s a k done) : done.length ≤ (split s).length := by
  rw [h.2.2, List.length_append]
  omega
theorem join_ended_le (e : Bs) : ∀ l : List Ln, (join (ended e l)).length ≤ (join l).length + e.length * l.length
  | [] => by simp [ended, join]
  | [x] => by simp only [ended]; omega
  | x :: y :: r => by
    have ih := join_ended_le e (y :: r)
    rw [ended, join, join]
    simp only [List.length_append, List.length_cons] at ih ⊢
    rw [Nat.mul_add e.length (r.length + 1) 1]
    by_cases h : x.2 = []
    · rw [if_pos h]; omega
    · rw [if_neg h]; omega
theorem join_insert_le {l : List Ln} (h : Good l) (k : Nat) (t : Bs) : (join (insert l k [t])).length ≤ (join l).length + t.length + 2 + 2 * (l.length + 1) := by
  have hf : (endOf l).length ≤ 2 := by
    rcases endOf_fin h with e | e <;> rw [e] <;> simp
  have h1 := join_ended_le (endOf l) (l.take k ++ [t].map (fun t => (t, endOf l)) ++ l.drop k)
  have h2 : (join (l.take k ++ [t].map (fun t => (t, endOf l)) ++ l.drop k)).length = (join l).length + t.length + (endOf l).length := by
    conv => rhs; rw [← List.take_append_drop k l]
    simp only [join_append, List.map_cons, List.map_nil, join, List.length_append, List.append_nil]
    rw [List.take_append_drop]
    omega
  have h3 : (l.take k ++ [t].map (fun t => (t, endOf l)) ++ l.drop k).length = l.length + 1 := by
    simp only [List.length_append, List.map_cons, List.map_nil, List.length_cons, List.length_nil, List.length_take, List.length_drop]
    omega
  rw [h2, h3] at h1
  have h4 : (endOf l).length * (l.length + 1) ≤ 2 * (l.length + 1) := Nat.mul_le_mul_right _ hf
  rw [insert]
  omega
/-- The line that was put, and the others. -/
theorem insert_at {l : List Ln} (h : Good l) {k : Nat} (hk : k ≤ l.length) (t : Bs) : (insert l k [t])[k]? = some (t, endOf l) := by
  have hg : (l.take k ++ [t].map (fun t => (t, endOf l)) ++ l.drop k)[k]? = some (t, endOf l) := by
    rw [List.append_assoc, List.getElem?_append_right (by rw [List.length_take]; omega), List.length_take, Nat.min_eq_left hk, Nat.sub_self]
    rfl
  obtain ⟨y, h1, h2⟩ := ended_get (endOf l) _ k _ hg
  rw [insert, h1, h2]
  rcases endOf_fin h with e | e <;> simp only [e] <;> simp
theorem insert_old {l : List Ln} {k i : Nat} {x : Ln} (t : Bs) (hk : k ≤ l.length) (hx : l[i]? = some x) : ∃ y, (insert l k [t])[if k ≤ i then i + 1 else i]? = some (x.1, y) ∧ (x.2 ≠ [] → y = x.2) := by
  have hi : i < l.length := (List.getElem?_eq_some_iff.1 hx).1
  have hg : (l.take k ++ [t].map (fun t => (t, endOf l)) ++ l.drop k)[if k ≤ i then i + 1 else i]? = some x := by
    by_cases h : k ≤ i
    · rw [if_pos h, List.append_assoc, List.getElem?_append_right (by rw [List.length_take]; omega), List.length_take, Nat.min_eq_left hk, List.getElem?_append_right (by simp; omega)]
      simp only [List.map_cons, List.map_nil, List.length_cons, List.length_nil]
      rw [List.getElem?_drop, ← hx]
      congr 1
      omega
    · rw [if_neg h, List.append_assoc, List.getElem?_append_left (by rw [List.length_take]; omega), List.getElem?_take_of_lt (by omega), hx]
  exact ended_get (endOf l) _ _ _ hg
theorem insert_length (l : List Ln) (k : Nat) (t : Bs) : (insert l k [t]).length = l.length + 1 := by
  rw [insert, ended_length]
  simp only [List.length_append, List.map_cons, List.map_nil, List.length_cons, List.length_nil, List.length_take, List.length_drop]
  omega
end Go.Proofs.Ytclgemkdlgpekaa.Li
