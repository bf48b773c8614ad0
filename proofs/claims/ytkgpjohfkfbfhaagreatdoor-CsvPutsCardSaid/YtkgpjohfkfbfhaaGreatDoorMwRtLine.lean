/- csv: fields that are written are read as they are; what is read is written so. No conditions. · tree.Get: what is below a path, anew. Conditions: edges in order at each level, fewer than 2^38 of them. · Sets of names: lists in order, each once; what is combined of two sets. No conditions. · slices.Grow of nil, slices.Concat of rows of strings. Conditions: what is joined is fewer than 2^40 strings. · csv: what a row has in a column; its record. Conditions: trees in order at each level; no level below a name is empty. · csv: two rows of texts behind each other; a row's record. Conditions: as valueAt's; fewer than 100000 columns. -/
import Derived.Test.YtkgpjohfkfbfhaaGreatDoorMwNamesMath
import Derived.Test.YtkgpjohfkfbfhaaGreatDoorMwCvInOrd
import Derived.Lib.Join
import Derived.Test.YtkgpjohfkfbfhaaGreatDoorMwCwEach
import Derived.Test.YtkgpjohfkfbfhaaGreatDoorSorted
namespace Go.Proofs.YtkgpjohfkfbfhaaGreatDoor.Cv
open Go.RowKit Go.Proofs.YtkgpjohfkfbfhaaGreatDoor.Jd Go.Proofs.YtkgpjohfkfbfhaaGreatDoor.Li
set_option maxRecDepth 100000

/-- One byte written over, wherever it stands. -/
def rq : Bs → Bs
  | [] => []
  | c :: r => if c = 34 then 34 :: 34 :: rq r else c :: rq r
theorem rq_miss : ∀ s : Bs, Lib.index s [34] = -1 → rq s = s
  | [], _ => rfl
  | c :: r, h => by
    rw [Lib.index] at h
    split at h
    · exact absurd h (by decide)
    · rename_i hp
      have h2 : Lib.index r [34] = -1 := by
        split at h
        · rename_i e; exact beq_iff_eq.1 e
        · rename_i e
          have := Lib.index_ge r [34]
          have : Lib.index r [34] ≠ -1 := fun e2 => e (beq_iff_eq.2 e2)
          omega
      rw [rq, if_neg (fun e => hp (by rw [e]; rfl)), rq_miss r h2]
theorem rq_hit : ∀ (s : Bs) (i : Nat), Lib.index s [34] = i → rq s = s.take i ++ [34, 34] ++ rq (s.drop (i + 1))
  | [], i, h => by simp [Lib.index] at h
  | c :: r, i, h => by
    rw [Lib.index] at h
    split at h
    · rename_i hp
      have hp' : c = 34 := by
        have h1 : ((34 == c) && true) = true := by simpa [List.isPrefixOf] using hp
        rw [Bool.and_eq_true] at h1
        exact (beq_iff_eq.1 h1.1).symm
      obtain rfl : i = 0 := by omega
      rw [rq, if_pos hp']
      rfl
    · rename_i hp
      split at h
      · omega
      · rename_i e
        obtain ⟨j, rfl⟩ : ∃ j, i = j + 1 := by
          cases i with
          | zero => exact absurd h (by have := Lib.index_ge r [34]; have : Lib.index r [34] ≠ -1 := fun e2 => e (beq_iff_eq.2 e2); omega)
          | succ j => exact ⟨j, rfl⟩
        rw [rq, if_neg (fun e => hp (by rw [e]; rfl)), rq_hit r j (by omega)]
        rfl
theorem replaceK_rq : ∀ (n : Nat) (s : Bs), s.length ≤ n → Lib.replaceK [34] [34, 34] (Lib.count s [34]) s = rq s := by
  intro n
  induction n with
  | zero =>
    intro s h
    obtain rfl : s = [] := List.eq_nil_of_length_eq_zero (by omega)
    rw [Lib.count_miss (by rfl)]
    rfl
  | succ n ih =>
    intro s h
    by_cases hm : Lib.index s [34] = -1
    · rw [Lib.count_miss hm, rq_miss s hm]
      rfl
    · obtain ⟨i, hi⟩ : ∃ i : Nat, Lib.index s [34] = i := ⟨(Lib.index s [34]).toNat, by have := Lib.index_ge s [34]; omega⟩
      have hc := Lib.count_hit (sub := [34]) (by simp) hi
      rw [hc, Nat.add_comm, Lib.replaceK_hit _ _ _ _ _ hi, rq_hit s i hi]
      simp only [List.length_cons, List.length_nil, Nat.zero_add]
      have hs : s ≠ [] := fun e => hm (by rw [e]; rfl)
      have hl : 0 < s.length := List.length_pos_iff.2 hs
      rw [ih (s.drop (i + 1)) (by rw [List.length_drop]; omega)]
theorem replaceAll_rq (s : Bs) : Lib.replaceAll s [34] [34, 34] = rq s := by
  unfold Lib.replaceAll Lib.replace
  rw [if_neg (by decide), Lib.replaceNum, if_pos (.inl (by decide)), replaceK_rq _ s (Nat.le_refl _)]
/-- A field as it is written, and what it means. -/
def Wf (raw v : Bs) : Prop := oneF raw = some (v, raw.length)
theorem pln_take : ∀ (l : Bs) (n : Nat), pln l = some n → pln (l.take n) = some n
  | [], n, h => by injection h with h; subst h; rfl
  | c :: r, n, h => by
    rw [pln] at h
    split at h
    · injection h with h; subst h; rfl
    · rename_i hc
      split at h
      · cases h
      · rename_i hd
        cases hq : pln r with
        | none => rw [hq] at h; cases h
        | some p =>
          rw [hq] at h
          injection h with h
          subst h
          rw [List.take_succ_cons, pln, if_neg hc, if_neg hd, pln_take r p hq]
          rfl
theorem qin_take : ∀ (r v : Bs) (n : Nat), qin r = some (v, n) → qin (r.take n) = some (v, n)
  | [], _, _, h => by simp [qin] at h
  | [c], v, n, h => by
    rw [qin] at h
    split at h
    · rename_i hc
      injection h with h
      injection h with h1 h2
      subst h1; subst h2; subst hc
      rfl
    · cases h
  | c :: d :: r, v, n, h => by
    rw [qin] at h
    split at h
    · rename_i hc
      subst hc
      split at h
      · rename_i hd
        subst hd
        cases hq : qin r with
        | none => rw [hq] at h; cases h
        | some p =>
          rw [hq] at h
          injection h with h
          injection h with h1 h2
          subst h1; subst h2
          rw [List.take_succ_cons, List.take_succ_cons, qin, if_pos rfl, if_pos rfl, qin_take r p.1 p.2 hq]
          rfl
      · split at h
        · injection h with h
          injection h with h1 h2
          subst h1; subst h2
          rfl
        · cases h
    · rename_i hc
      cases hq : qin (d :: r) with
      | none => rw [hq] at h; cases h
      | some p =>
        rw [hq] at h
        injection h with h
        injection h with h1 h2
        subst h1; subst h2
        rw [List.take_succ_cons, qin_other hc, qin_take (d :: r) p.1 p.2 hq]
        rfl
theorem wf_take {l v : Bs} {n : Nat} (h : oneF l = some (v, n)) : Wf (l.take n) v := by
  have hn := (one_some h).1
  have hl := wid_le l false
  have hlen : (l.take n).length = n := by rw [List.length_take]; omega
  unfold Wf
  rw [hlen]
  cases l with
  | nil =>
    injection h with h
    injection h with h1 h2
    subst h1; subst h2
    rfl
  | cons c r =>
    rw [oneF] at h
    split at h
    · rename_i hc
      subst hc
      cases hq : qin r with
      | none => rw [hq] at h; cases h
      | some p =>
        rw [hq] at h
        injection h with h
        injection h with h1 h2
        subst h1; subst h2
        rw [List.take_succ_cons, oneF, if_pos rfl, qin_take r p.1 p.2 hq]
        rfl
    · rename_i hc
      cases hq : pln (c :: r) with
      | none => rw [hq] at h; cases h
      | some p =>
        rw [hq] at h
        injection h with h
        injection h with h1 h2
        subst h1; subst h2
        have ht := pln_take _ _ hq
        cases p with
        | zero => rfl
        | succ p =>
          rw [List.take_succ_cons] at ht ⊢
          rw [oneF, if_neg hc, ht]
          simp [List.take_take]
theorem pln_ext (x : Bs) : ∀ (l : Bs), pln l = some l.length → pln (l ++ 44 :: x) = some l.length
  | [], _ => by rw [List.nil_append, pln, if_pos rfl]; rfl
  | c :: r, h => by
    rw [pln] at h
    split at h
    · injection h with h; simp at h
    · rename_i hc
      split at h
      · cases h
      · rename_i hd
        cases hq : pln r with
        | none => rw [hq] at h; cases h
        | some p =>
          rw [hq] at h
          injection h with h
          have hp : p = r.length := by simpa using h
          rw [List.cons_append, pln, if_neg hc, if_neg hd, pln_ext x r (by rw [hq, hp])]
          rfl
theorem qin_ext (x : Bs) : ∀ (r v : Bs), qin r = some (v, r.length) → qin (r ++ 44 :: x) = some (v, r.length)
  | [], _, h => by simp [qin] at h
  | [c], v, h => by
    rw [qin] at h
    split at h
    · rename_i hc
      injection h with h
      injection h with h1 h2
      subst h1; subst hc
      show qin (34 :: 44 :: x) = _
      rw [qin, if_pos rfl, if_neg (by decide), if_pos rfl]
      rfl
    · cases h
  | c :: d :: r, v, h => by
    rw [qin] at h
    split at h
    · rename_i hc
      subst hc
      split at h
      · rename_i hd
        subst hd
        cases hq : qin r with
        | none => rw [hq] at h; cases h
        | some p =>
          rw [hq] at h
          injection h with h
          injection h with h1 h2
          have hp : p.2 = r.length := by simpa using h2
          subst h1
          have e := qin_ext x r p.1 (by rw [hq, ← hp])
          show qin (34 :: 34 :: (r ++ 44 :: x)) = _
          rw [qin, if_pos rfl, if_pos rfl, e]
          rfl
      · split at h
        · injection h with h
          injection h with h1 h2
          simp at h2
        · cases h
    · rename_i hc
      cases hq : qin (d :: r) with
      | none => rw [hq] at h; cases h
      | some p =>
        rw [hq] at h
        injection h with h
        injection h with h1 h2
        have hp : p.2 = (d :: r).length := by simpa using h2
        subst h1
        have e := qin_ext x (d :: r) p.1 (by rw [hq, ← hp])
        rw [List.cons_append, qin_other hc, e]
        rfl
theorem wf_ext {raw v : Bs} (h : Wf raw v) (x : Bs) : oneF (raw ++ 44 :: x) = some (v, raw.length) := by
  unfold Wf at h
  cases raw with
  | nil =>
    injection h with h
    injection h with h1 h2
    subst h1
    rw [List.nil_append, oneF, if_neg (by decide), pln, if_pos rfl]
    rfl
  | cons c r =>
    rw [oneF] at h
    split at h
    · rename_i hc
      subst hc
      cases hq : qin r with
      | none => rw [hq] at h; cases h
      | some p =>
        rw [hq] at h
        injection h with h
        injection h with h1 h2
        have hp : p.2 = r.length := by simpa using h2
        subst h1
        have e := qin_ext x r p.1 (by rw [hq, ← hp])
        rw [List.cons_append, oneF, if_pos rfl, e]
        rfl
    · rename_i hc
      cases hq : pln (c :: r) with
      | none => rw [hq] at h; cases h
      | some p =>
        rw [hq] at h
        injection h with h
        injection h with h1 h2
        subst h2
        have e := pln_ext x (c :: r) hq
        subst h1
        rw [List.cons_append] at e ⊢
        rw [oneF, if_neg hc, e]
        simp
theorem qin_rq : ∀ m : Bs, qin (rq m ++ [34]) = some (m, (rq m).length + 1)
  | [] => rfl
  | c :: r => by
    rw [rq]
    by_cases hc : c = 34
    · rw [if_pos hc]
      subst hc
      show qin (34 :: 34 :: (rq r ++ [34])) = _
      rw [qin, if_pos rfl, if_pos rfl, qin_rq r]
      rfl
    · rw [if_neg hc, List.cons_append, qin_other hc, qin_rq r]
      rfl
theorem pln_free : ∀ m : Bs, (m.any fun x => ([34, 44] : List UInt8).contains x) = false → pln m = some m.length
  | [], _ => rfl
  | c :: r, h => by
    rw [List.any_cons, Bool.or_eq_false_iff] at h
    have h1 : c ≠ 44 := fun e => by rw [e] at h; exact absurd h.1 (by decide)
    have h2 : c ≠ 34 := fun e => by rw [e] at h; exact absurd h.1 (by decide)
    rw [pln, if_neg h1, if_neg h2, pln_free r h.2]
    rfl
theorem wf_q (m : Bs) : Wf (qF m) m := by
  unfold qF
  by_cases h : Lib.containsAny m [34, 44] = true
  · rw [if_pos h, replaceAll_rq]
    unfold Wf
    show oneF (34 :: (rq m ++ [34])) = _
    rw [oneF, if_pos rfl, qin_rq m]
    simp
  · rw [if_neg h]
    have h2 : (m.any fun x => ([34, 44] : List UInt8).contains x) = false := by rw [← any_mem]; simpa using h
    have hp := pln_free m h2
    unfold Wf
    cases m with
    | nil => rfl
    | cons c r =>
      have hc : c ≠ 34 := fun e => by rw [List.any_cons, e] at h2; exact absurd h2 (by simp)
      rw [oneF, if_neg hc, hp]
      simp
/-- Fields that are written one behind the other are read as they are. -/
theorem fldsR_join : ∀ (fs : List Ln), fs ≠ [] → (∀ x ∈ fs, Wf x.1 x.2) → ∀ F, (Lib.join (fs.map (·.1)) [44]).length < F → fldsR F (Lib.join (fs.map (·.1)) [44]) = some fs
  | [], h, _, _, _ => absurd rfl h
  | [x], _, hw, F, hF => by
    have hx := hw x (by simp)
    rw [List.map_cons, List.map_nil, Lib.join_one] at hF ⊢
    obtain ⟨G, rfl⟩ : ∃ G, F = G + 1 := ⟨F - 1, by omega⟩
    rw [fldsR, hx]
    dsimp only
    rw [if_pos (Nat.le_refl _), List.take_of_length_le (Nat.le_refl _)]
  | x :: y :: r, _, hw, F, hF => by
    have hx := hw x (by simp)
    have ej : Lib.join ((x :: y :: r).map (·.1)) [44] = x.1 ++ 44 :: Lib.join ((y :: r).map (·.1)) [44] := by
      simp [Lib.join, List.intercalate]
    rw [ej] at hF ⊢
    obtain ⟨G, rfl⟩ : ∃ G, F = G + 1 := ⟨F - 1, by omega⟩
    rw [fldsR, wf_ext hx]
    dsimp only
    simp only [List.length_append, List.length_cons] at hF
    rw [if_neg (by rw [List.length_append, List.length_cons]; omega)]
    have e1 : (x.1 ++ 44 :: Lib.join ((y :: r).map (·.1)) [44]).take x.1.length = x.1 := by simp
    have e2 : (x.1 ++ 44 :: Lib.join ((y :: r).map (·.1)) [44]).drop (x.1.length + 1) = Lib.join ((y :: r).map (·.1)) [44] := by
      rw [← List.drop_drop, List.drop_left]
      rfl
    rw [e1, e2, fldsR_join (y :: r) (by simp) (fun z hz => hw z (by simp [hz])) G (by omega)]
    rfl
/-- What is read is written so. -/
theorem flds_wf : ∀ (F : Nat) (l : Bs) (fs : List Ln), fldsR F l = some fs → ∀ x ∈ fs, Wf x.1 x.2
  | 0, _, _, h, _, _ => by cases h
  | F + 1, l, fs, h, x, hx => by
    rw [fldsR] at h
    cases ho : oneF l with
    | none => rw [ho] at h; cases h
    | some p =>
      obtain ⟨v, n⟩ := p
      rw [ho] at h
      dsimp only at h
      split at h
      · injection h with h
        subst h
        obtain rfl := List.mem_singleton.1 hx
        exact wf_take ho
      · cases hq : fldsR F (l.drop (n + 1)) with
        | none => rw [hq] at h; cases h
        | some q =>
          rw [hq] at h
          injection h with h
          subst h
          rcases List.mem_cons.1 hx with rfl | hx
          · exact wf_take ho
          · exact flds_wf F _ q hq x hx
theorem flds_text : ∀ (F : Nat) (l : Bs) (fs : List Ln), fldsR F l = some fs → Lib.join (fs.map (·.1)) [44] = l
  | 0, _, _, h => by cases h
  | F + 1, l, fs, h => by
    rw [fldsR] at h
    cases ho : oneF l with
    | none => rw [ho] at h; cases h
    | some p =>
      obtain ⟨v, n⟩ := p
      rw [ho] at h
      dsimp only at h
      split at h
      · rename_i hl
        injection h with h
        subst h
        rw [List.map_cons, List.map_nil, Lib.join_one, List.take_of_length_le hl]
      · rename_i hl
        cases hq : fldsR F (l.drop (n + 1)) with
        | none => rw [hq] at h; cases h
        | some q =>
          rw [hq] at h
          injection h with h
          subst h
          have ih := flds_text F _ q hq
          have hqn : q ≠ [] := by
            intro e; subst e
            cases F with
            | zero => cases hq
            | succ F =>
              rw [fldsR] at hq
              cases ho2 : oneF (l.drop (n + 1)) with
              | none => rw [ho2] at hq; cases hq
              | some p2 =>
                rw [ho2] at hq
                dsimp only at hq
                split at hq
                · cases hq
                · cases hq3 : fldsR F (List.drop (p2.2 + 1) (l.drop (n + 1))) <;> rw [hq3] at hq <;> cases hq
          obtain ⟨y, r, rfl⟩ := List.exists_cons_of_ne_nil hqn
          have ej : Lib.join (((l.take n, v) :: y :: r).map (·.1)) [44] = l.take n ++ 44 :: Lib.join ((y :: r).map (·.1)) [44] := by
            simp [Lib.join, List.intercalate]
          rw [ej, ih]
          have hs := one_sep ho (by omega)
          have e := List.take_append_drop n l
          have hlt : n < l.length := by omega
          rw [List.drop_eq_getElem_cons hlt] at e
          rw [List.getElem?_eq_getElem hlt] at hs
          injection hs with hs
          rw [hs] at e
          exact e
theorem qin_bytes : ∀ (r v : Bs), qin r = some (v, r.length) → ∀ b ∈ r, b = 34 ∨ b ∈ v
  | [], _, h, _, _ => by simp [qin] at h
  | [c], v, h, b, hb => by
    rw [qin] at h
    split at h
    · rename_i hc
      left
      rw [List.mem_singleton.1 hb, hc]
    · cases h
  | c :: d :: r, v, h, b, hb => by
    rw [qin] at h
    split at h
    · rename_i hc
      subst hc
      split at h
      · rename_i hd
        subst hd
        cases hq : qin r with
        | none => rw [hq] at h; cases h
        | some p =>
          rw [hq] at h
          injection h with h
          injection h with h1 h2
          have hp : p.2 = r.length := by simpa using h2
          subst h1
          rcases List.mem_cons.1 hb with e | hb
          · exact .inl e
          · rcases List.mem_cons.1 hb with e | hb
            · exact .inl e
            · exact (qin_bytes r p.1 (by rw [hq, ← hp]) b hb).imp id (List.mem_cons_of_mem _)
      · split at h
        · injection h with h
          injection h with h1 h2
          simp at h2
        · cases h
    · cases hq : qin (d :: r) with
      | none => rw [hq] at h; cases h
      | some p =>
        rw [hq] at h
        injection h with h
        injection h with h1 h2
        have hp : p.2 = (d :: r).length := by simpa using h2
        subst h1
        rcases List.mem_cons.1 hb with e | hb
        · exact .inr (by rw [e]; exact List.mem_cons_self ..)
        · exact (qin_bytes (d :: r) p.1 (by rw [hq, ← hp]) b hb).imp id (List.mem_cons_of_mem _)
theorem wf_bytes {raw v : Bs} (h : Wf raw v) : ∀ b ∈ raw, b = 34 ∨ b ∈ v := by
  unfold Wf at h
  intro b hb
  cases raw with
  | nil => cases hb
  | cons c r =>
    rw [oneF] at h
    split at h
    · rename_i hc
      subst hc
      cases hq : qin r with
      | none => rw [hq] at h; cases h
      | some p =>
        rw [hq] at h
        injection h with h
        injection h with h1 h2
        have hp : p.2 = r.length := by simpa using h2
        subst h1
        rcases List.mem_cons.1 hb with e | hb
        · exact .inl e
        · exact qin_bytes r p.1 (by rw [hq, ← hp]) b hb
    · cases hq : pln (c :: r) with
      | none => rw [hq] at h; cases h
      | some p =>
        rw [hq] at h
        injection h with h
        injection h with h1 h2
        subst h2
        subst h1
        exact .inr (by simpa using hb)
theorem join_bytes : ∀ (fs : List Bs) (b : UInt8), b ∈ Lib.join fs [44] → b = 44 ∨ ∃ x ∈ fs, b ∈ x
  | [], b, h => by simp [Lib.join, List.intercalate] at h
  | [x], b, h => by rw [Lib.join_one] at h; exact .inr ⟨x, by simp, h⟩
  | x :: y :: r, b, h => by
    have ej : Lib.join (x :: y :: r) [44] = x ++ 44 :: Lib.join (y :: r) [44] := by simp [Lib.join, List.intercalate]
    rw [ej] at h
    rcases List.mem_append.1 h with h | h
    · exact .inr ⟨x, by simp, h⟩
    · rcases List.mem_cons.1 h with h | h
      · exact .inl h
      · exact (join_bytes (y :: r) b h).imp id (fun ⟨z, hz, hb⟩ => ⟨z, by simp [hz], hb⟩)
end Go.Proofs.YtkgpjohfkfbfhaaGreatDoor.Cv
namespace Go.Proofs.YtkgpjohfkfbfhaaGreatDoor.Pt
open Go.RowKit Go.Proofs.YtkgpjohfkfbfhaaGreatDoor.Jd Go.Proofs.YtkgpjohfkfbfhaaGreatDoor.Cl
set_option maxRecDepth 100000

def GetP (w : World) (r : Tr × Bool) (e : Ending) (w' : World) : Prop :=
  ∃ A' n' c', e = .returned (.tuple #[.slice A' n' c', .bool r.2]) ∧ n' ≤ c' ∧ c' ≤ maxLen ∧ Holds w' w'.heap.size A' n' r.1 ∧ Below w.heap.size w w'

theorem kid_drop {name : ByteArray} : ∀ {t : Tr}, t.atIs name = true → ∃ r, t.dropT (t.atN name) = .cons name (kidT t name) r
  | .nil, h => by simp [Tr.atIs, Tr.atN, dropT_zero, Tr.headIs] at h
  | .cons s k r, h => by
    rcases cases3 s name with c1 | ⟨c1, c2⟩ | ⟨c1, c2, _⟩
    · rw [atIs_lt c1] at h
      obtain ⟨r', h2⟩ := kid_drop h
      rw [atN_lt c1, kidT_lt c1]
      exact ⟨r', h2⟩
    · have e := names_of_eq c2
      subst e
      rw [atN_ge c1, kidT_eq c1 c2]
      exact ⟨r, by rw [dropT_zero]⟩
    · rw [atIs_ge c1, c2] at h; cases h
theorem drop_lt {t : Tr} {i : Nat} {s : ByteArray} {k r : Tr} (h : t.dropT i = .cons s k r) : i < t.len := by
  rcases Nat.lt_or_ge i t.len with g | g
  · exact g
  · rw [drop_len t i g] at h; cases h

set_option maxHeartbeats 2000000 in
theorem get_any (t : Tr) (ps : List ByteArray) (A Ap : Option Addr) (n c np cp : Nat) (w : World) (ht : Holds w w.heap.size A n t) (hp : SeesV w w.heap.size Ap np (ps.map Value.string)) (ha : AscD t) (hz : t.size ≤ 274877906944) (hps : ps.length ≤ 1000000) :
    Calls Tryz.prog 64 #[.slice A n c, .slice Ap np cp] w (GetP w (getT t ps)) := by
  have hnp : np ≤ 1000000 := by have := hp.len; rw [List.length_map] at this; omega
  have Hnp := Lib.hid (show np = ps.length by have := hp.len; rwa [List.length_map] at this)
  obtain ⟨T, hT⟩ : ∃ T, T = getT t ps := ⟨_, rfl⟩
  rw [← hT]
  have HI0 := Lib.hid (show Holds w w.heap.size A n t ∧ AscD t ∧ t.size ≤ 274877906944 ∧ getT t ps = T from ⟨ht, ha, hz, hT.symm⟩)
  clear ht hT ha hz
  go_enter Tryz.func64, Tryz.ntmps64
  go_wp2_with fail
  go_loopw [0, 12] (fun a i wr => ∃ (k : Nat) (Au : Option Addr) (nu cu : Nat) (u : Tr), k ≤ np ∧ a = .slice Au nu cu ∧ i = .int .i64 k ∧ Hid (Holds wr w.heap.size Au nu u ∧ AscD u ∧ u.size ≤ 274877906944 ∧ getT u (ps.drop k) = T) ∧ Below w.heap.size w wr) (fun _ i _ => np - (intOf i).toNat)
  case atStart => exact ⟨0, A, n, c, t, Nat.zero_le _, rfl, rfl, by rw [List.drop_zero]; exact HI0, Below.refl _ _⟩
  case round =>
    obtain ⟨k, Au, nu, cu, u, hk, rfl, rfl, HI, hbw⟩ := hrel
    have hsz := hbw.size
    by_cases hlt : k < np
    · obtain ⟨bp, op, rfl, hbp, hcp⟩ := hp.str hlt
      obtain ⟨name, hname⟩ : ∃ s, s = ps.getD k ⟨#[]⟩ := ⟨_, rfl⟩
      rw [← hname] at hcp
      have hdrop : ps.drop k = name :: ps.drop (k + 1) := by
        have hl : k < ps.length := by rw [← Hnp.out]; exact hlt
        rw [List.drop_eq_getElem_cons hl, hname, List.getD_eq_getElem?_getD, List.getElem?_eq_getElem hl]
        rfl
      have hcpw := (hbw.cell (p := ⟨bp, op + k, none⟩) hbp).trans hcp
      have hkn : (k : Int) < (np : Int) := by omega
      have hk0 : (0 : Int) ≤ (k : Int) := by omega
      have hul := HI.out.1.len
      have hus := u.len_size
      have hus2 := HI.out.2.2.1
      have hnu : nu ≤ 274877906944 := by omega
      have HF := Lib.hid (find_any u HI.out.2.1.asc Au nu cu w.heap.size name wr HI.out.1 hsz (by omega))
      have hle := atN_le name u
      obtain ⟨i, hi⟩ : ∃ i, i = u.atN name := ⟨_, rfl⟩
      obtain ⟨v, hv⟩ : ∃ v, v = u.atIs name := ⟨_, rfl⟩
      rw [← hi] at HF hle
      rw [← hv] at HF
      have hin : i ≤ nu := by omega
      have Hi := Lib.hid hi
      have Hdrop := Lib.hid hdrop
      have Hlt := Lib.hid hlt
      clear hname hdrop hcp hi hlt hle
      cases v with
      | true =>
        obtain ⟨r, hdr⟩ := kid_drop hv.symm
        rw [← Hi.out] at hdr
        have hilt := drop_lt hdr
        have hin2 : (i : Int) < (nu : Int) := by omega
        have hi0 : (0 : Int) ≤ (i : Int) := by omega
        have hin3 : i < nu := by omega
        have heq : getT (kidT u name) (ps.drop (k + 1)) = T := by
          have := HI.out.2.2.2
          rw [Hdrop.out, getT, if_pos hv.symm] at this
          exact this
        have Heq := Lib.hid heq
        have Hdr := Lib.hid hdr
        clear hv hdr hilt hul hus hus2 heq
        go_wp2_with fail
        refine HF.out.mono ?_
        rintro e w2 ⟨rfl, hb2⟩
        obtain ⟨b, o, s, kt, r', A', n', c', e, hb, hs, hcl, hn', hc', hk', hr, hd, hd2⟩ := (HI.out.1.below hb2).split i hin3
        subst e
        have hd := hd
        rw [Hdr.out] at hd
        injection hd with hd1 hd2 hd3
        subst hd1; subst hd2
        have hkid := Lib.hid (show Holds w2 w.heap.size A' n' (kidT u name) ∧ AscD (kidT u name) ∧ (kidT u name).size ≤ 274877906944 ∧ getT (kidT u name) (ps.drop (k + 1)) = T from ⟨hk', kidT_asc HI.out.2.1, Nat.le_trans (kidT_size u name) HI.out.2.2.1, Heq.out⟩)
        clear hk' hr hd3 hs
        go_wp2_with fail
        go_roundw
        case rel => exact ⟨k + 1, A', n', c', _, Hlt.out, rfl, by go_num, hkid, hbw.trans hb2⟩
        case measure => have := Hlt.out; simp [intOf]; omega
      | false =>
        have heq : (Tr.nil, false) = T := by
          have := HI.out.2.2.2
          rw [Hdrop.out, getT, if_neg (by rw [← hv]; simp)] at this
          exact this
        have Heq := Lib.hid heq
        clear hv hul hus hus2 heq
        go_wp2_with fail
        refine HF.out.mono ?_
        rintro e w2 ⟨rfl, hb2⟩
        go_wp2_with fail
        go_ret2
        exact ⟨none, 0, 0, by rw [← Heq.out]; rfl, Nat.le_refl _, Nat.zero_le _, by rw [← Heq.out]; rfl, hbw.trans hb2⟩
    · obtain rfl : k = np := by omega
      have hnil : ps.drop k = [] := List.drop_eq_nil_of_le (by rw [Hnp.out]; exact Nat.le_refl _)
      have heq : (u, true) = T := by
        have := HI.out.2.2.2
        rw [hnil, getT] at this
        exact this
      have HX := Lib.hid (clone_any u Au nu cu wr (HI.out.1.more hsz) (by have := HI.out.2.2.1; omega))
      have Heq := Lib.hid heq
      clear hnil hlt hp heq
      go_wp2_with fail
      (with_reducible refine HX.out.mono ?_)
      rintro e w5 ⟨A5, c5, rfl, hn5, hm5, ho5, hb5⟩
      go_wp2_with fail
      go_ret2
      exact ⟨A5, nu, c5, by rw [← Heq.out]; rfl, hn5, hm5, by rw [← Heq.out]; exact ho5, hbw.trans (hb5.mono hsz)⟩
end Go.Proofs.YtkgpjohfkfbfhaaGreatDoor.Pt
namespace Go.Proofs.YtkgpjohfkfbfhaaGreatDoor.Nm
open Go.RowKit
set_option maxRecDepth 100000

theorem less_iff (x y : ByteArray) : Op.bytesLess x.toList y.toList = true ↔ x.data.toList < y.data.toList := by
  rw [Go.Proofs.bytesLess_eq, ByteArray.toList_eq, ByteArray.toList_eq, decide_eq_true_iff]
/-- Of a list in order: what compactUpTo keeps. -/
theorem upTo_facts (zs : List (List UInt8)) (h : zs.Pairwise (· ≤ ·)) : ∀ m, m ≤ zs.length →
    (Go.Lib.compactUpTo zs.toArray m).Pairwise (· < ·) ∧ (∀ x ∈ Go.Lib.compactUpTo zs.toArray m, ∃ j, j < m ∧ x = zs.toArray[j]!) ∧ ∀ j, j < m → zs.toArray[j]! ∈ Go.Lib.compactUpTo zs.toArray m := by
  have hle : ∀ i j, i ≤ j → j < zs.length → zs.toArray[i]! ≤ zs.toArray[j]! := by
    intro i j hij hj
    rw [getElem!_pos _ i (by simp; omega), getElem!_pos _ j (by simpa using hj)]
    simp only [List.getElem_toArray]
    rcases Nat.lt_or_ge i j with g | g
    · exact List.pairwise_iff_getElem.1 h i j (by omega) hj g
    · obtain rfl : i = j := by omega
      exact List.le_refl _
  intro m
  induction m with
  | zero => intro _; exact ⟨by simp [Go.Lib.compactUpTo], by simp [Go.Lib.compactUpTo], by intro j hj; omega⟩
  | succ m ih =>
    intro hm
    obtain ⟨h1, h2, h3⟩ := ih (by omega)
    rw [Go.Lib.compactUpTo_succ]
    by_cases hk : Go.Lib.keeps zs.toArray m = true
    · rw [if_pos hk]
      have hk' := of_decide_eq_true hk
      refine ⟨?_, ?_, ?_⟩
      · rw [List.pairwise_append]
        refine ⟨h1, List.pairwise_singleton _ _, fun x hx y hy => ?_⟩
        obtain ⟨j, hj, rfl⟩ := h2 x hx
        rw [List.mem_singleton] at hy
        subst hy
        rcases hk' with e | e
        · omega
        · have a1 := hle j (m - 1) (by omega) (by omega)
          have a2 := hle (m - 1) m (by omega) (by omega)
          refine List.lt_of_le_of_lt a1 ?_
          by_cases h4 : zs.toArray[m]! ≤ zs.toArray[m - 1]!
          · exact absurd (List.le_antisymm h4 a2) e
          · simpa using h4
      · intro x hx
        rw [List.mem_append, List.mem_singleton] at hx
        rcases hx with hx | rfl
        · obtain ⟨j, hj, e⟩ := h2 x hx
          exact ⟨j, by omega, e⟩
        · exact ⟨m, by omega, rfl⟩
      · intro j hj
        rw [List.mem_append, List.mem_singleton]
        by_cases e : j = m
        · right; rw [e]
        · left; exact h3 j (by omega)
    · rw [if_neg hk, List.append_nil]
      have hk' : ¬ (m = 0 ∨ zs.toArray[m]! ≠ zs.toArray[m - 1]!) := fun e => hk (decide_eq_true e)
      refine ⟨h1, fun x hx => ?_, fun j hj => ?_⟩
      · obtain ⟨j, hj, e⟩ := h2 x hx
        exact ⟨j, by omega, e⟩
      · by_cases e : j = m
        · subst e
          have e1 : zs.toArray[j]! = zs.toArray[j - 1]! := Classical.byContradiction fun h => hk' (.inr h)
          rw [e1]
          exact h3 (j - 1) (by omega)
        · exact h3 j (by omega)
theorem sorted_pair (ss : List (List UInt8)) : (sorted ss).Pairwise (· ≤ ·) :=
  (List.pairwise_mergeSort (le := fun x y => decide (x ≤ y)) (fun a b c h1 h2 => by simp only [decide_eq_true_eq] at *; exact List.le_trans h1 h2) (fun a b => by simp only [Bool.or_eq_true, decide_eq_true_eq]; exact List.le_total a b) ss).imp (fun h => of_decide_eq_true h)
/-- In order, each once. -/
def ord (ss : List (List UInt8)) : List (List UInt8) := once (sorted ss)
theorem ord_pair (ss : List (List UInt8)) : (ord ss).Pairwise (· < ·) :=
  (upTo_facts _ (sorted_pair _) _ (Nat.le_refl _)).1
theorem ord_mem (ss : List (List UInt8)) (x : List UInt8) : x ∈ ord ss ↔ x ∈ ss := by
  obtain ⟨_, h2, h3⟩ := upTo_facts _ (sorted_pair ss) _ (Nat.le_refl _)
  have hp : ∀ y, y ∈ sorted ss ↔ y ∈ ss := fun y => List.mem_mergeSort
  rw [← hp]
  constructor
  · intro hx
    obtain ⟨j, hj, rfl⟩ := h2 x hx
    rw [getElem!_pos _ j (by simpa using hj)]
    simp
  · intro hx
    obtain ⟨j, hj, rfl⟩ := List.getElem_of_mem hx
    have := h3 j hj
    rw [getElem!_pos _ j (by simpa using hj), List.getElem_toArray] at this
    exact this
theorem ord_le (ss : List (List UInt8)) : (ord ss).length ≤ ss.length := by
  have := once_le (sorted ss)
  rw [sorted_length] at this
  exact this
theorem len_le {α : Type} [DecidableEq α] : ∀ (l m : List α), l.Nodup → (∀ x ∈ l, x ∈ m) → l.length ≤ m.length
  | [], m, _, _ => Nat.zero_le _
  | a :: l, m, hd, hs => by
    rw [List.nodup_cons] at hd
    have ha := hs a List.mem_cons_self
    have := len_le l (m.erase a) hd.2 (fun x hx => (List.mem_erase_of_ne (fun e => hd.1 (by rw [← e]; exact hx))).2 (hs x (List.mem_cons_of_mem _ hx)))
    rw [List.length_erase_of_mem ha] at this
    have : 0 < m.length := List.length_pos_of_mem ha
    simp only [List.length_cons]
    omega
theorem asc_nodup {l : List (List UInt8)} (h : l.Pairwise (· < ·)) : l.Nodup :=
  h.imp (fun h e => by rw [e] at h; exact List.lt_irrefl _ h)
/-- Two lists in order with the same members are one. -/
theorem asc_eq : ∀ {l m : List (List UInt8)}, l.Pairwise (· < ·) → m.Pairwise (· < ·) → (∀ x, x ∈ l ↔ x ∈ m) → l = m
  | [], [], _, _, _ => rfl
  | [], b :: m, _, _, h => by have := (h b).2 List.mem_cons_self; simp at this
  | a :: l, [], _, _, h => by have := (h a).1 List.mem_cons_self; simp at this
  | a :: l, b :: m, hl, hm, h => by
    rw [List.pairwise_cons] at hl hm
    have e : a = b := by
      have h1 := (h a).1 List.mem_cons_self
      have h2 := (h b).2 List.mem_cons_self
      rw [List.mem_cons] at h1 h2
      rcases h1 with e | h1
      · exact e
      · rcases h2 with e | h2
        · exact e.symm
        · exact absurd (List.lt_trans (hl.1 b h2) (hm.1 a h1)) (List.lt_irrefl _)
    subst e
    rw [asc_eq hl.2 hm.2 (fun x => ?_)]
    have := h x
    rw [List.mem_cons, List.mem_cons] at this
    constructor
    · intro hx
      rcases this.1 (.inr hx) with e | e
      · subst e; exact absurd (hl.1 _ hx) (List.lt_irrefl _)
      · exact e
    · intro hx
      rcases this.2 (.inr hx) with e | e
      · subst e; exact absurd (hm.1 _ hx) (List.lt_irrefl _)
      · exact e

/-- Of a list in order: where a name stands, or would. -/
theorem cut : ∀ (ss : List (List UInt8)) (x : List UInt8), ss.Pairwise (· < ·) → ∃ p, p ≤ ss.length ∧ (∀ t y, ss[t]? = some y → (y < x ↔ t < p)) ∧ (x ∈ ss ↔ ss[p]? = some x)
  | [], x, _ => ⟨0, Nat.le_refl _, fun t y h => by simp at h, by simp⟩
  | a :: r, x, h => by
    rw [List.pairwise_cons] at h
    by_cases hl : a < x
    · obtain ⟨p, h1, h2, h3⟩ := cut r x h.2
      refine ⟨p + 1, by simpa using h1, fun t y ht => ?_, ?_⟩
      · cases t with
        | zero =>
          simp only [List.getElem?_cons_zero, Option.some.injEq] at ht
          subst ht
          simp [hl]
        | succ t =>
          simp only [List.getElem?_cons_succ] at ht
          rw [h2 t y ht]
          omega
      · rw [List.getElem?_cons_succ, ← h3, List.mem_cons]
        constructor
        · rintro (e | e)
          · rw [e] at hl; exact absurd hl (List.lt_irrefl _)
          · exact e
        · exact Or.inr
    · refine ⟨0, Nat.zero_le _, fun t y ht => ?_, ?_⟩
      · cases t with
        | zero =>
          simp only [List.getElem?_cons_zero, Option.some.injEq] at ht
          subst ht
          simp [hl]
        | succ t =>
          simp only [List.getElem?_cons_succ] at ht
          have := h.1 y (List.mem_of_getElem? ht)
          constructor
          · intro g; exact absurd (List.lt_trans this g) hl
          · intro g; omega
      · rw [List.getElem?_cons_zero, List.mem_cons]
        constructor
        · rintro (e | e)
          · rw [e]
          · exact absurd (h.1 x e) hl
        · intro e
          injection e with e
          exact .inl e.symm

/-- A set: all names but some, or some. -/
structure St where
  all : Bool
  l : List (List UInt8)
def St.mem (s : St) (x : List UInt8) : Bool := decide (x ∈ s.l) != s.all
def comb (op : Bool → Bool → Bool) (a b : St) : St :=
  ⟨op a.all b.all, (ord (a.l ++ b.l)).filter fun x => op (a.mem x) (b.mem x) != op a.all b.all⟩
def fr (a : St) : St := ⟨a.all, ord a.l⟩
def nott (a : St) : St := ⟨!a.all, ord a.l⟩
def St.none (s : St) : Bool := !s.all && decide (s.l.length = 0)
def both (a b : St) : St := comb (· && ·) (fr a) (fr b)
def either (a b : St) : St := comb (· || ·) (fr a) (fr b)
def same (a b : St) : Bool := (comb (· != ·) (fr a) (fr b)).none

theorem fr_mem (a : St) (x : List UInt8) : (fr a).mem x = a.mem x := by
  simp only [St.mem, fr]
  congr 1
  exact decide_eq_decide.2 (ord_mem _ _)
theorem nott_mem (a : St) (x : List UInt8) : (nott a).mem x = !a.mem x := by
  have : decide (x ∈ ord a.l) = decide (x ∈ a.l) := decide_eq_decide.2 (ord_mem _ _)
  show (decide (x ∈ ord a.l) != !a.all) = !(decide (x ∈ a.l) != a.all)
  rw [this]
  cases decide (x ∈ a.l) <;> cases a.all <;> rfl
theorem comb_mem (op : Bool → Bool → Bool) (a b : St) (x : List UInt8) : (comb op a b).mem x = op (a.mem x) (b.mem x) := by
  by_cases h : x ∈ a.l ++ b.l
  · have : decide (x ∈ (comb op a b).l) = (op (a.mem x) (b.mem x) != op a.all b.all) := by
      rw [Bool.eq_iff_iff, decide_eq_true_iff]
      simp only [comb, List.mem_filter, ord_mem, h, true_and]
    show (decide (x ∈ (comb op a b).l) != op a.all b.all) = _
    rw [this]
    cases op (a.mem x) (b.mem x) <;> cases op a.all b.all <;> rfl
  · have h0 : decide (x ∈ (comb op a b).l) = false := by
      rw [decide_eq_false_iff_not]
      simp only [comb, List.mem_filter, ord_mem, h, false_and, not_false_eq_true]
    rw [List.mem_append, not_or] at h
    show (decide (x ∈ (comb op a b).l) != op a.all b.all) = _
    rw [h0]
    simp [St.mem, h.1, h.2]
theorem comb_pair (op : Bool → Bool → Bool) (a b : St) : (comb op a b).l.Pairwise (· < ·) := (ord_pair _).filter _
theorem comb_le (op : Bool → Bool → Bool) (a b : St) : (comb op a b).l.length ≤ a.l.length + b.l.length := by
  refine Nat.le_trans (List.length_filter_le ..) (Nat.le_trans (ord_le _) ?_)
  rw [List.length_append]
  exact Nat.le_refl _
theorem fr_le (a : St) : (fr a).l.length ≤ a.l.length := ord_le _
theorem both_mem (a b : St) (x : List UInt8) : (both a b).mem x = (a.mem x && b.mem x) := by rw [both, comb_mem, fr_mem, fr_mem]
theorem either_mem (a b : St) (x : List UInt8) : (either a b).mem x = (a.mem x || b.mem x) := by rw [either, comb_mem, fr_mem, fr_mem]
theorem both_pair (a b : St) : (both a b).l.Pairwise (· < ·) := comb_pair ..
theorem either_pair (a b : St) : (either a b).l.Pairwise (· < ·) := comb_pair ..
theorem nott_pair (a : St) : (nott a).l.Pairwise (· < ·) := ord_pair _
theorem both_le (a b : St) : (both a b).l.length ≤ a.l.length + b.l.length := by
  have := comb_le (· && ·) (fr a) (fr b); have := fr_le a; have := fr_le b
  unfold both; omega
theorem either_le (a b : St) : (either a b).l.length ≤ a.l.length + b.l.length := by
  have := comb_le (· || ·) (fr a) (fr b); have := fr_le a; have := fr_le b
  unfold either; omega
theorem nott_le (a : St) : (nott a).l.length ≤ a.l.length := ord_le _
/-- No name is in it, and it is not All: it is none. -/
theorem none_of {s : St} (h0 : s.all = false) (h : ∀ x, s.mem x = false) : s.none = true := by
  have : s.l = [] := by
    rw [List.eq_nil_iff_forall_not_mem]
    intro x hx
    have := h x
    rw [St.mem, h0, decide_eq_true hx] at this
    cases this
  rw [St.none, h0, this]
  rfl
theorem same_of {a b : St} (h0 : a.all = b.all) (h : ∀ x, a.mem x = b.mem x) : same a b = true := by
  refine none_of ?_ fun x => ?_
  · simp [comb, fr, h0]
  · rw [comb_mem, fr_mem, fr_mem, h x]
    cases b.mem x <;> rfl
theorem same_iff (a b : St) : same a b = true ↔ a.all = b.all ∧ ∀ x, x ∈ a.l ↔ x ∈ b.l := by
  constructor
  · intro h
    unfold same St.none at h
    rw [Bool.and_eq_true, decide_eq_true_iff, Bool.not_eq_true'] at h
    have h0 : a.all = b.all := by
      have := h.1
      simp only [comb, fr] at this
      cases ha : a.all <;> cases hb : b.all <;> simp_all
    refine ⟨h0, fun x => ?_⟩
    have hm := comb_mem (· != ·) (fr a) (fr b) x
    rw [fr_mem, fr_mem] at hm
    have e : (comb (· != ·) (fr a) (fr b)).mem x = false := by
      rw [St.mem, h.1, List.eq_nil_of_length_eq_zero h.2]; rfl
    rw [e] at hm
    have hm' : false = ((decide (x ∈ a.l) != b.all) != (decide (x ∈ b.l) != b.all)) := by unfold St.mem at hm; rw [h0] at hm; exact hm
    have hd : decide (x ∈ a.l) = decide (x ∈ b.l) := by
      revert hm'
      cases decide (x ∈ a.l) <;> cases decide (x ∈ b.l) <;> cases b.all <;> intro e <;> first | rfl | cases e
    exact decide_eq_decide.1 hd
  · rintro ⟨h0, h⟩
    refine same_of h0 fun x => ?_
    have : decide (x ∈ a.l) = decide (x ∈ b.l) := decide_eq_decide.2 (h x)
    rw [St.mem, St.mem, this, h0]
end Go.Proofs.YtkgpjohfkfbfhaaGreatDoor.Nm
namespace Go.Proofs.YtkgpjohfkfbfhaaGreatDoor.Nm
open Go.RowKit
set_option maxRecDepth 100000

theorem info_str : (Tryz.prog.info? 9).map (fun i => (i.zero, i.size, i.bytes)) = some (some (.string ⟨#[]⟩), 1, 16) := by kernel_rfl
theorem elem_s : Elem Tryz.prog 36 9 (.string ⟨#[]⟩) 1 16 := ⟨Tryz.underlying36, info_str, rfl, by omega⟩
theorem encs_one (ss : List (List UInt8)) : ∀ u ∈ ss.map encs, u.oneCell' = true := by
  intro u hu
  simp only [List.mem_map] at hu
  obtain ⟨x, _, rfl⟩ := hu
  rfl
/-- What append takes: a row of strings, nil too. -/
theorem src_strs {w : World} {B n c : Nat} {A : Option Addr} {ss : List (List UInt8)} (h : SeesV w B A n (ss.map encs)) : Src Tryz.prog 1 36 (.slice A n c) n (ss.map encs) w := by
  have hl := h.len
  cases A with
  | none =>
    cases ss with
    | nil =>
      have : n = 0 := by simpa using hl
      subst this
      exact Src.ofNil w Tryz.underlying36 c
    | cons y r =>
      obtain ⟨b, o, e, _⟩ := h.cell 0 (encs y) rfl
      cases e
  | some a => exact Src.ofSlice w Tryz.underlying36 a n c (ss.map encs) (by rw [hl, Nat.mul_one]) (fun j u hu => by
      obtain ⟨b, o, e, _, hc⟩ := h.cell j u hu
      injection e with e
      subst e
      rw [Addr.add_lit]
      exact hc) (encs_one ss)
/-- A row of the call's own, seen. -/
theorem sees_own {w : World} {base n c : Nat} {A : Option Addr} {ss : List (List UInt8)} (h : w.ownsRow base 9 1 (.slice A n c) n (ss.map encs)) : SeesV w w.heap.size A n (ss.map encs) := by
  obtain ⟨h1, hr⟩ := h
  refine ⟨by omega, fun j u hu => ?_⟩
  rcases hr with ⟨_, e⟩ | ⟨g, cap, cur, e, hg, hh, hcap, hmx, hsz, htk⟩
  · have : (ss.map encs) = [] := List.eq_nil_of_length_eq_zero (by omega)
    rw [this] at hu
    simp at hu
  · injection e with e1 e2 e3
    subst e1
    refine ⟨g, 0, rfl, (Array.getElem?_eq_some_iff.1 hh).1, ?_⟩
    rw [cell_of_row w g _ cur _ _ hh, Nat.zero_add]
    have hj : (cur.toList.take (n * 1))[j]? = some u := by rw [htk]; exact hu
    rw [List.getElem?_take] at hj
    split at hj
    · rw [← Array.getElem?_toList]; exact hj
    · cases hj

def Grown (w : World) (e : Ending) (w' : World) : Prop := ∃ A c, e = .returned (.slice A 0 c) ∧ w'.ownsRow w.heap.size 9 1 (.slice A 0 c) 0 [] ∧ Below w.heap.size w w'

set_option maxHeartbeats 400000 in
theorem grow_any (n : Nat) (hn : n ≤ 1099511627776) (w : World) : Calls Tryz.prog 89 #[.slice none 0 0, .int .i64 n] w (Grown w) := by
  by_cases h0 : n = 0
  · subst h0
    go_enter Tryz.func89, Tryz.ntmps89
    go_wp2
    go_ret
    exact ⟨none, 0, rfl, World.ownsRow_nil _ _ _ _, Below.refl _ _⟩
  · obtain ⟨i0, hi0, hz0, hs0, hb0⟩ := info_parts info_str
    have hr : ∀ ty, (Builtin.append_ #[36, 3] ty #[.slice none 0 0, .int .i64 n]).run Tryz.prog w = .ok (.slice (some ⟨w.heap.size, 0, none⟩) n (grownCap w n 0 9)) (w.drew.alloc (.cells (Builtin.zeroCells (Value.string ⟨#[]⟩).cells n ++ Builtin.zeroCells (Value.string ⟨#[]⟩).cells (grownCap w n 0 9 - n)) 9)) := by
      intro ty
      have h := Lib.run_append_grow_zeros (P := Tryz.prog) w 36 3 ty 9 i0 (.string ⟨#[]⟩) .i64 .i64 Tryz.underlying36 Tryz.underlying3 hi0 hz0 none 0 0 [] (run_firstCells_none w.drew i0.size 0 0 0) n (by omega) (by omega) (by omega) (by omega) (by rw [hb0]; omega) (by
        have := growslice_fits (need := 0 + n) (old := 0) (bytes := i0.bytes) (by omega) (by rw [hb0]; omega)
        exact this)
      simpa using h
    have hge := grownCap_ge w n 0 9
    have hcm := grownCap_le_maxLen w n 0 9 (by simp only [maxLen]; omega)
    obtain ⟨G, hG⟩ : ∃ G, G = grownCap w n 0 9 := ⟨_, rfl⟩
    rw [← hG] at hr hge hcm
    have hzc : (Builtin.zeroCells (Value.string ⟨#[]⟩).cells n ++ Builtin.zeroCells (Value.string ⟨#[]⟩).cells (G - n)).size = G * 1 := by
      simp only [Array.size_append, size_zeroCells]
      rw [show (Value.string ⟨#[]⟩).cells.size = 1 from rfl]
      omega
    have hown := World.ownsRow_made (base := w.heap.size) (e := 9) (size := 1) w.drew (Builtin.zeroCells (Value.string ⟨#[]⟩).cells n ++ Builtin.zeroCells (Value.string ⟨#[]⟩).cells (G - n)) G (by simp) hcm hzc
    generalize (Builtin.zeroCells (Value.string ⟨#[]⟩).cells n ++ Builtin.zeroCells (Value.string ⟨#[]⟩).cells (G - n)) = Z at *
    have hG2 : G ≤ 9223372036854775807 := by simp only [maxLen] at hcm; omega
    have Hown := Lib.hid hown
    clear hown hG hzc hi0 hz0 hs0 hb0 hcm
    go_enter Tryz.func89, Tryz.ntmps89
    go_wp2_with (at_builtin; refine Lib.wpList_append_run _ rfl _ _ _ _ rfl _ _ rfl rfl _ _ (hr _) ?_)
    go_ret
    exact ⟨_, _, rfl, Hown.out, (Below.refl _ _).drew.alloc (Nat.le_refl _) _⟩

/-- What is joined: the slices at the cells of a slice of slices. -/
structure Parts (w : World) (g : Nat) (vs : List Value) (ls : List (List (List UInt8))) : Prop where
  len : vs.length = ls.length
  cell : ∀ (i : Nat) v, vs[i]? = some v → w.cell? ⟨g, i, none⟩ = some v
  sees : ∀ (i : Nat) l, ls[i]? = some l → ∃ A n c, vs[i]? = some (.slice A n c) ∧ SeesV w w.heap.size A n (l.map encs)

theorem Parts.two {w : World} {g : Nat} {A B : Option Addr} {n m c d : Nat} {l k : List (List UInt8)} (hg : w.heap[g]? = some (.cells #[.slice A n c, .slice B m d] 36 (0, 0))) (h1 : SeesV w w.heap.size A n (l.map encs)) (h2 : SeesV w w.heap.size B m (k.map encs)) :
    Parts w g [.slice A n c, .slice B m d] [l, k] := by
  refine ⟨rfl, fun i v hv => ?_, fun i l' hl => ?_⟩
  · rw [cell_of_row w g i _ _ _ hg]
    simpa using hv
  · match i, hl with
    | 0, hl => simp at hl; subst hl; exact ⟨A, n, c, rfl, h1⟩
    | 1, hl => simp at hl; subst hl; exact ⟨B, m, d, rfl, h2⟩

theorem flat_succ {ls : List (List (List UInt8))} {k : Nat} {l : List (List UInt8)} (h : ls[k]? = some l) : (ls.take (k + 1)).flatten = (ls.take k).flatten ++ l := by
  rw [List.take_add_one, h]
  simp
theorem flat_le (ls : List (List (List UInt8))) (k : Nat) : (ls.take k).flatten.length ≤ ls.flatten.length := by
  conv => rhs; rw [← List.take_append_drop k ls, List.flatten_append, List.length_append]
  exact Nat.le_add_right _ _

def Joined (l : List (List UInt8)) (w : World) (e : Ending) (w' : World) : Prop := ∃ A c, e = .returned (.slice A l.length c) ∧ SeesV w' w'.heap.size A l.length (l.map encs) ∧ Below w.heap.size w w'

set_option maxHeartbeats 1000000 in
theorem concat_any (g K : Nat) (vs : List Value) (ls : List (List (List UInt8))) (w : World) (hp : Parts w g vs ls) (hK : K = ls.length) (hK2 : K ≤ 65536) (hT : ls.flatten.length ≤ 1099511627776) (hg : g < w.heap.size) :
    Calls Tryz.prog 60 #[.slice (some ⟨g, 0, none⟩) K K] w (Joined ls.flatten w) := by
  have HK := Lib.hid hK
  clear hK
  obtain ⟨T, hTd⟩ : ∃ T : Nat → Nat, T = fun k => (ls.take k).flatten.length := ⟨_, rfl⟩
  have HT : Hid (∀ k, T k = (ls.take k).flatten.length) := by intro k; rw [hTd]
  have HTb : Hid (∀ k, T k ≤ 1099511627776) := by
    intro k
    rw [hTd]
    exact Nat.le_trans (flat_le ls k) hT
  have HT0 : Hid (T 0 = 0) := by rw [HT.out]; rfl
  clear hTd
  go_enter Tryz.func60, Tryz.ntmps60
  go_wp2
  go_loop [3, 11] (fun v i => ∃ k : Nat, k ≤ K ∧ i = .int .i64 k ∧ v = .int .i64 (T k)) (fun _ i => K - (intOf i).toNat)
  case atStart => exact ⟨0, Nat.zero_le _, rfl, by rw [HT0.out]; rfl⟩
  case round =>
    obtain ⟨k, hk, rfl, rfl⟩ := hrel
    have hTk := HTb.out k
    by_cases hlt : k < K
    · obtain ⟨l, hl⟩ : ∃ l, ls[k]? = some l := ⟨ls[k]'(by rw [← HK.out]; exact hlt), List.getElem?_eq_getElem _⟩
      obtain ⟨A, n, c, hv, hs⟩ := hp.sees k l hl
      have hc := hp.cell k _ hv
      have hnl := hs.len
      rw [List.length_map] at hnl
      have HT1 := Lib.hid (show T (k + 1) = T k + n by rw [HT.out, HT.out, flat_succ hl, List.length_append, hnl])
      have hb1 : T k + n ≤ 1099511627776 := by have := HTb.out (k + 1); rw [HT1.out] at this; exact this
      clear hl hv hnl
      go_wp2
      go_round
      case rel => exact ⟨k + 1, by omega, by go_num, by rw [HT1.out]; go_num⟩
      case measure => simp [intOf]; omega
    · obtain rfl : k = K := by omega
      go_wp2_with (go_at_call 89; refine (grow_any _ hTk _).mono ?_; rintro e w1 ⟨A1, c1, rfl, ho1, hb1⟩)
      go_loopw [6, 27] (fun v i wr => ∃ (j : Nat) (A : Option Addr) (n c : Nat), j ≤ k ∧ i = .int .i64 j ∧ v = .slice A n c ∧ wr.ownsRow w.heap.size 9 1 (.slice A n c) n ((ls.take j).flatten.map encs) ∧ Below w.heap.size w wr) (fun _ i _ => k - (intOf i).toNat)
      case atStart => exact ⟨0, A1, 0, c1, Nat.zero_le _, rfl, rfl, ho1, hb1⟩
      case round =>
        obtain ⟨j, A, n, c, hj, rfl, rfl, ho, hb⟩ := hrel
        have hn := ho.1
        rw [List.length_map] at hn
        by_cases hlt2 : j < k
        · obtain ⟨l, hl⟩ : ∃ l, ls[j]? = some l := ⟨ls[j]'(by rw [← HK.out]; exact hlt2), List.getElem?_eq_getElem _⟩
          obtain ⟨A2, m, c2, hv, hs⟩ := hp.sees j l hl
          have hc := (hb.cell (p := ⟨g, j, none⟩) hg).trans (hp.cell j _ hv)
          have hnl := hs.len
          rw [List.length_map] at hnl
          have hlen : n + m ≤ 1099511627776 := by
            have h1 := HTb.out (j + 1)
            rw [HT.out, flat_succ hl, List.length_append, ← hnl] at h1
            omega
          have hs2 := src_strs (hs.below hb) (c := c2)
          have Hfl := Lib.hid (flat_succ hl)
          clear hl hv hnl hn
          go_wp2_with (at_builtin; refine wpList_append_row rfl _ _ _ _ rfl elem_s rfl rfl ho hs2 hlen hb.size ?_; intro A' c' w' ho' hg' hat')
          go_roundw
          case rel => exact ⟨j + 1, A', n + m, c', by omega, by go_num, rfl, by rw [Hfl.out, List.map_append]; exact ho', hb.grown hg' hb.size (fun q hq => (ho.lt q hq).1)⟩
          case measure => simp [intOf]; omega
        · obtain rfl : j = k := by omega
          have hall : ls.take j = ls := List.take_of_length_le (by rw [HK.out]; exact Nat.le_refl _)
          rw [hall] at ho hn
          obtain rfl : n = ls.flatten.length := by omega
          have Ho := Lib.hid ho
          clear ho hn hall
          go_wp2
          go_ret
          exact ⟨A, c, rfl, sees_own Ho.out, hb⟩
end Go.Proofs.YtkgpjohfkfbfhaaGreatDoor.Nm
namespace Go.Proofs.YtkgpjohfkfbfhaaGreatDoor.Cv
open Go.RowKit Go.Proofs.YtkgpjohfkfbfhaaGreatDoor.Jd Go.Proofs.YtkgpjohfkfbfhaaGreatDoor.Li Go.Proofs.YtkgpjohfkfbfhaaGreatDoor.Pt
set_option maxRecDepth 100000

/-- What stands below a name, in a tree of values. -/
def valF (t : Tr) (c : ByteArray) : ByteArray :=
  match getT t [c] with
  | (.cons s _ _, true) => s
  | _ => ⟨#[]⟩
/-- No level below one of its names is empty. -/
def Full (t : Tr) : Prop := ∀ c, (getT t [c]).2 = true → 0 < (getT t [c]).1.len
theorem sees_one {w : World} {g : Nat} {c : ByteArray} (h : w.heap[g]? = some (.cells #[.string c] 9 (0, 0))) : SeesV w w.heap.size (some ⟨g, 0, none⟩) 1 ([c].map Value.string) :=
  ⟨rfl, fun j u hu => ⟨g, 0, rfl, (Array.getElem?_eq_some_iff.1 h).1, by rw [cell_of_row _ _ _ _ _ _ h, Nat.zero_add]; simpa using hu⟩⟩

set_option maxHeartbeats 4000000 in
theorem valueAt_any (t : Tr) (c : ByteArray) (A : Option Addr) (n cc : Nat) (w : World) (h : Holds w w.heap.size A n t) (ha : AscD t) (hz : t.size ≤ 274877906944) (hf : Full t) :
    Calls Tryz.prog 99 #[.slice A n cc, .string c] w fun e w' => e = .returned (.string (valF t c)) ∧ Below w.heap.size w w' := by
  have hb0 : Below w.heap.size w (w.alloc (Obj.cells #[.string c] 9)) := (Below.refl _ _).alloc (Nat.le_refl _) _
  have HG := Lib.hid (get_any t [c] A (some ⟨w.heap.size, 0, none⟩) n cc 1 1 (w.alloc (Obj.cells #[.string c] 9)) ((h.below hb0).more hb0.size) (sees_one (heap_alloc_new w _)) ha hz (by simp))
  have hF := hf c
  have hV : valF t c = match getT t [c] with | (.cons s _ _, true) => s | _ => ⟨#[]⟩ := rfl
  obtain ⟨R, hR⟩ : ∃ R, R = getT t [c] := ⟨_, rfl⟩
  rw [← hR] at HG hF hV
  have HV := Lib.hid hV
  have HF := Lib.hid hF
  have HB0 := Lib.hid hb0
  clear h ha hz hf hb0 hF hV hR
  obtain ⟨k, u⟩ := R
  cases u with
  | false =>
    go_enter Tryz.func99, Tryz.ntmps99
    go_wp2_with fail
    (with_reducible refine HG.out.mono ?_)
    rintro e w1 ⟨A', n', c', rfl, hn, hc, hh, hb⟩
    have HB := Lib.hid (HB0.out.trans (hb.mono HB0.out.size))
    clear hh hb hn hc
    go_wp2_with fail
    go_ret
    exact ⟨by rw [HV.out]; rfl, HB.out⟩
  | true =>
    cases k with
    | nil => exact absurd (HF.out rfl) (by simp [Tr.len])
    | cons s k r =>
      go_enter Tryz.func99, Tryz.ntmps99
      go_wp2_with fail
      (with_reducible refine HG.out.mono ?_)
      rintro e w1 ⟨A', n', c', rfl, hn, hc, ⟨b, o, rfl, hb1, hs, _, m, rfl, _⟩, hb⟩
      have HB := Lib.hid (HB0.out.trans (hb.mono HB0.out.size))
      have hm1 : (0 : Int) < (m : Int) + 1 := by omega
      clear hb hn hc
      go_wp2_with fail
      go_ret
      exact ⟨by rw [HV.out]; rfl, HB.out⟩
theorem record1_any (t : Tr) (c : ByteArray) (A : Option Addr) (n cc gb : Nat) (w : World) (h : Holds w w.heap.size A n t) (hg : w.cell? ⟨gb, 0, none⟩ = some (.slice A n cc)) (ha : AscD t) (hz : t.size ≤ 274877906944) (hf : Full t) :
    Calls Tryz.prog 98 #[.string c, .pointer (some ⟨gb, 0, none⟩)] w fun e w' => e = .returned (.string (valF t c)) ∧ Below w.heap.size w w' := by
  have HV := Lib.hid (valueAt_any t c A n cc w h ha hz hf)
  clear h ha hz hf
  go_enter Tryz.func98, Tryz.ntmps98
  go_wp2_with fail
  (with_reducible refine HV.out.mono ?_)
  rintro e w1 ⟨rfl, hb⟩
  go_wp2_with fail
  go_ret
  exact ⟨rfl, hb⟩
/-- What a row's fields mean. -/
def recF (name : ByteArray) (cols : List ByteArray) (t : Tr) : List ByteArray := name :: cols.map (valF t)
theorem encs_strs (ms : List ByteArray) : (ms.map fun m => m.data.toList).map encs = ms.map Value.string := by
  rw [List.map_map]
  exact List.map_congr_left fun m _ => by simp [encs]
end Go.Proofs.YtkgpjohfkfbfhaaGreatDoor.Cv
namespace Go.Proofs.YtkgpjohfkfbfhaaGreatDoor.Cv
open Go.RowKit Go.Proofs.YtkgpjohfkfbfhaaGreatDoor.Jd Go.Proofs.YtkgpjohfkfbfhaaGreatDoor.Li Go.Proofs.YtkgpjohfkfbfhaaGreatDoor.Pt
set_option maxRecDepth 100000

/-- A row of these texts. -/
def StP (w : World) (ms : List ByteArray) (en : Ending) (w' : World) : Prop :=
  ∃ A c, en = .returned (.slice A ms.length c) ∧ SeesV w' w'.heap.size A ms.length (ms.map Value.string) ∧ Below w.heap.size w w'
theorem strs_encs {w : World} {B n : Nat} {A : Option Addr} {ms : List ByteArray} (h : SeesV w B A n (ms.map Value.string)) : SeesV w B A n ((ms.map fun m => m.data.toList).map Go.Proofs.YtkgpjohfkfbfhaaGreatDoor.encs) := by
  have e : (ms.map fun m => m.data.toList).map Go.Proofs.YtkgpjohfkfbfhaaGreatDoor.encs = ms.map Value.string := by
    rw [List.map_map]
    exact List.map_congr_left fun m _ => by simp [Go.Proofs.YtkgpjohfkfbfhaaGreatDoor.encs]
  rw [e]; exact h
theorem encs_strs' {w : World} {B n : Nat} {A : Option Addr} {ms : List ByteArray} (h : SeesV w B A n ((ms.map fun m => m.data.toList).map Go.Proofs.YtkgpjohfkfbfhaaGreatDoor.encs)) : SeesV w B A n (ms.map Value.string) := by
  have e : (ms.map fun m => m.data.toList).map Go.Proofs.YtkgpjohfkfbfhaaGreatDoor.encs = ms.map Value.string := by
    rw [List.map_map]
    exact List.map_congr_left fun m _ => by simp [Go.Proofs.YtkgpjohfkfbfhaaGreatDoor.encs]
  rw [← e]; exact h
theorem concat2_any (l k : List ByteArray) (A B : Option Addr) (n m c d : Nat) (V : World) (h1 : SeesV V V.heap.size A n (l.map Value.string)) (h2 : SeesV V V.heap.size B m (k.map Value.string)) (hl : n + m ≤ 1000000) (g : Nat) (hg : g = V.heap.size) :
    Calls Tryz.prog 60 #[.slice (some ⟨g, 0, none⟩) 2 2] (V.alloc (Obj.cells #[.slice A n c, .slice B m d] 36)) fun e w' => ∃ A' c', e = .returned (.slice A' (l ++ k).length c') ∧ SeesV w' w'.heap.size A' (l ++ k).length ((l ++ k).map Value.string) ∧ Below V.heap.size V w' := by
  subst hg
  have e1 := h1.len
  have e2 := h2.len
  rw [List.length_map] at e1 e2
  have hb : Below V.heap.size V (V.alloc (Obj.cells #[.slice A n c, .slice B m d] 36)) := (Below.refl _ _).alloc (Nat.le_refl _) _
  have hc := Nm.concat_any V.heap.size 2 _ [l.map fun x => x.data.toList, k.map fun x => x.data.toList] _ (Nm.Parts.two (heap_alloc_new V _) (strs_encs (seesV_more (h1.below hb) hb.size)) (strs_encs (seesV_more (h2.below hb) hb.size))) rfl (by decide) (by simp; omega) (by simp)
  refine hc.mono ?_
  rintro e w' ⟨A', c', rfl, hs, hb2⟩
  have ef : [l.map fun x => x.data.toList, k.map fun x => x.data.toList].flatten = (l ++ k).map fun x => x.data.toList := by simp
  rw [ef] at hs ⊢
  rw [List.length_map] at hs ⊢
  exact ⟨A', c', rfl, encs_strs' hs, hb.trans (hb2.mono hb.size)⟩

set_option maxHeartbeats 4000000 in
theorem record_any (name : ByteArray) (t : Tr) (cols : List ByteArray) (A Ac : Option Addr) (n c nc cc : Nat) (w : World) (h : Holds w w.heap.size A n t) (ha : AscD t) (hz : t.size ≤ 274877906944) (hf : Full t) (hc : SeesV w w.heap.size Ac nc (cols.map Value.string)) (hn : nc ≤ 100000) :
    Calls Tryz.prog 66 #[.string name, .slice A n c, .slice Ac nc cc] w (StP w (recF name cols t)) := by
  have hcl : nc = cols.length := by have := hc.len; rwa [List.length_map] at this
  have hb0 : Below w.heap.size w (w.alloc (Obj.cells #[.slice A n c] 30)) := (Below.refl _ _).alloc (Nat.le_refl _) _
  have hg0 : (w.alloc (Obj.cells #[.slice A n c] 30)).cell? ⟨w.heap.size, 0, none⟩ = some (.slice A n c) := by rw [cell_of_row _ _ _ _ _ _ (heap_alloc_new w _)]; rfl
  have HE := Lib.hid (eachV_any cols (cols.map (valF t)) Ac nc cc w.heap.size w.heap.size (w.alloc (Obj.cells #[.slice A n c] 30)) hb0.size hn (by rw [List.length_map]; exact hcl) (hc.below hb0) hcl (fun k r hr m hm W hW => by
    rw [List.getElem?_map, hm] at hr
    simp only [Option.map_some, Option.some.injEq] at hr
    subst hr
    have hq := hb0.trans (hW.mono hb0.size)
    exact record1_any t m A n c w.heap.size W ((h.below hq).more hq.size) ((hW.cell (p := ⟨w.heap.size, 0, none⟩) (by simp)).trans hg0) ha hz hf))
  have Hcl := Lib.hid hcl
  have HB0 := Lib.hid hb0
  clear h ha hz hf hc hb0 hg0 hcl
  go_enter Tryz.func66, Tryz.ntmps66
  go_wp2_with fail
  (with_reducible refine HE.out.mono ?_)
  rintro e w1 ⟨g, rfl, hgb, hgc, hb1⟩
  have hv : SeesV w1 w1.heap.size (some ⟨g, 0, none⟩) nc ((cols.map (valF t)).map Value.string) := ⟨by simp; exact Hcl.out, fun j u hu => ⟨g, 0, rfl, (Array.getElem?_eq_some_iff.1 hgc).1, by rw [cell_of_row _ _ _ _ _ _ hgc, Nat.zero_add]; simpa using hu⟩⟩
  have hb2 : Below w1.heap.size w1 (w1.alloc (Obj.cells #[.string name] 9)) := (Below.refl _ _).alloc (Nat.le_refl _) _
  have HC := Lib.hid (concat2_any [name] (cols.map (valF t)) (some ⟨w1.heap.size, 0, none⟩) (some ⟨g, 0, none⟩) 1 nc 1 nc (w1.alloc (Obj.cells #[.string name] 9)) (sees_one (heap_alloc_new w1 _)) (seesV_more (hv.below hb2) hb2.size) (by omega) (w1.heap.size + 1) (by simp))
  have HB2 := Lib.hid (HB0.out.trans ((hb1.trans (hb2.mono hb1.size)).mono HB0.out.size))
  clear hgc hv hb1 hb2 hgb
  go_wp2_with fail
  (with_reducible refine HC.out.mono ?_)
  rintro e w3 ⟨A3, c3, rfl, hs3, hb3⟩
  have HS := Lib.hid hs3
  have HB3 := Lib.hid (HB2.out.trans (hb3.mono HB2.out.size))
  clear hs3 hb3
  go_wp2_with fail
  go_ret
  exact ⟨A3, c3, by rw [show (recF name cols t).length = cols.length + 1 by simp [recF]]; rfl, HS.out, HB3.out⟩
end Go.Proofs.YtkgpjohfkfbfhaaGreatDoor.Cv
