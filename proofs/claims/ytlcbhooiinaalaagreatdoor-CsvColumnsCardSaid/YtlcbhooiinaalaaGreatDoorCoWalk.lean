/- csv: fields that are written are read as they are; what is read is written so. No conditions. · csv: lines that are written are read as they are. No conditions. · csv: a tree that fits, put into a file that was read, is read as that tree. Conditions: the tree's edges are in order, and the file is not too long. · csv.Put of any tree into any file. Conditions: the tree's size; MaxLen's cell. · csv.Put of a file that is sound and a tree that fits. Conditions: as the file's put's. · csv.Put of any tree into any file: what it answers. Conditions: the tree's size and names; MaxLen's cell. · csv: a file's head stays when all of its rows go. No conditions. · csv.Put of any tree into any file. Conditions: the tree's size and names; MaxLen's cell. · The reference's Fits of csv. Conditions: fewer edges than 2^34; its names' sizes. · CsvColumns' walk. Conditions: MaxLen's cell. -/
import Derived.Test.YtlcbhooiinaalaaGreatDoorMwRcRows
import Derived.Test.YtlcbhooiinaalaaGreatDoorCoText
import Derived.Lib.Join
import Derived.Test.YtlcbhooiinaalaaGreatDoorCoWrite
import Derived.Test.YtlcbhooiinaalaaGreatDoorMwRQuote
import Derived.Test.YtlcbhooiinaalaaGreatDoorCvWord
import Derived.Test.YtlcbhooiinaalaaGreatDoorChkRef
import Derived.Test.YtlcbhooiinaalaaGreatDoorCoTurn
import Derived.Test.YtlcbhooiinaalaaGreatDoorRcFile
import Derived.Test.YtlcbhooiinaalaaGreatDoorMwLiRSplit
namespace Go.Proofs.YtlcbhooiinaalaaGreatDoor.Cv
open Go.RowKit Go.Proofs.YtlcbhooiinaalaaGreatDoor.Jd Go.Proofs.YtlcbhooiinaalaaGreatDoor.Li
set_option maxRecDepth 100000

/-- One byte written over, wherever it stands. -/
def rq : Bs → Bs
  | [] => []
  | c :: r => if c = 34 then 34 :: 34 :: rq r else c :: rq r
theorem rq_miss : ∀ s : Bs, Lib.index s [34] = -1 → rq s = s
  | [], _ => rfl
  | c :: r, h => by
    rw [Lib.index] at h
    split at h
    · exact absurd h (by decide)
    · rename_i hp
      have h2 : Lib.index r [34] = -1 := by
        split at h
        · rename_i e; exact beq_iff_eq.1 e
        · rename_i e
          have := Lib.index_ge r [34]
          have : Lib.index r [34] ≠ -1 := fun e2 => e (beq_iff_eq.2 e2)
          omega
      rw [rq, if_neg (fun e => hp (by rw [e]; rfl)), rq_miss r h2]
theorem rq_hit : ∀ (s : Bs) (i : Nat), Lib.index s [34] = i → rq s = s.take i ++ [34, 34] ++ rq (s.drop (i + 1))
  | [], i, h => by simp [Lib.index] at h
  | c :: r, i, h => by
    rw [Lib.index] at h
    split at h
    · rename_i hp
      have hp' : c = 34 := by
        have h1 : ((34 == c) && true) = true := by simpa [List.isPrefixOf] using hp
        rw [Bool.and_eq_true] at h1
        exact (beq_iff_eq.1 h1.1).symm
      obtain rfl : i = 0 := by omega
      rw [rq, if_pos hp']
      rfl
    · rename_i hp
      split at h
      · omega
      · rename_i e
        obtain ⟨j, rfl⟩ : ∃ j, i = j + 1 := by
          cases i with
          | zero => exact absurd h (by have := Lib.index_ge r [34]; have : Lib.index r [34] ≠ -1 := fun e2 => e (beq_iff_eq.2 e2); omega)
          | succ j => exact ⟨j, rfl⟩
        rw [rq, if_neg (fun e => hp (by rw [e]; rfl)), rq_hit r j (by omega)]
        rfl
theorem replaceK_rq : ∀ (n : Nat) (s : Bs), s.length ≤ n → Lib.replaceK [34] [34, 34] (Lib.count s [34]) s = rq s := by
  intro n
  induction n with
  | zero =>
    intro s h
    obtain rfl : s = [] := List.eq_nil_of_length_eq_zero (by omega)
    rw [Lib.count_miss (by rfl)]
    rfl
  | succ n ih =>
    intro s h
    by_cases hm : Lib.index s [34] = -1
    · rw [Lib.count_miss hm, rq_miss s hm]
      rfl
    · obtain ⟨i, hi⟩ : ∃ i : Nat, Lib.index s [34] = i := ⟨(Lib.index s [34]).toNat, by have := Lib.index_ge s [34]; omega⟩
      have hc := Lib.count_hit (sub := [34]) (by simp) hi
      rw [hc, Nat.add_comm, Lib.replaceK_hit _ _ _ _ _ hi, rq_hit s i hi]
      simp only [List.length_cons, List.length_nil, Nat.zero_add]
      have hs : s ≠ [] := fun e => hm (by rw [e]; rfl)
      have hl : 0 < s.length := List.length_pos_iff.2 hs
      rw [ih (s.drop (i + 1)) (by rw [List.length_drop]; omega)]
theorem replaceAll_rq (s : Bs) : Lib.replaceAll s [34] [34, 34] = rq s := by
  unfold Lib.replaceAll Lib.replace
  rw [if_neg (by decide), Lib.replaceNum, if_pos (.inl (by decide)), replaceK_rq _ s (Nat.le_refl _)]
/-- A field as it is written, and what it means. -/
def Wf (raw v : Bs) : Prop := oneF raw = some (v, raw.length)
theorem pln_take : ∀ (l : Bs) (n : Nat), pln l = some n → pln (l.take n) = some n
  | [], n, h => by injection h with h; subst h; rfl
  | c :: r, n, h => by
    rw [pln] at h
    split at h
    · injection h with h; subst h; rfl
    · rename_i hc
      split at h
      · cases h
      · rename_i hd
        cases hq : pln r with
        | none => rw [hq] at h; cases h
        | some p =>
          rw [hq] at h
          injection h with h
          subst h
          rw [List.take_succ_cons, pln, if_neg hc, if_neg hd, pln_take r p hq]
          rfl
theorem qin_take : ∀ (r v : Bs) (n : Nat), qin r = some (v, n) → qin (r.take n) = some (v, n)
  | [], _, _, h => by simp [qin] at h
  | [c], v, n, h => by
    rw [qin] at h
    split at h
    · rename_i hc
      injection h with h
      injection h with h1 h2
      subst h1; subst h2; subst hc
      rfl
    · cases h
  | c :: d :: r, v, n, h => by
    rw [qin] at h
    split at h
    · rename_i hc
      subst hc
      split at h
      · rename_i hd
        subst hd
        cases hq : qin r with
        | none => rw [hq] at h; cases h
        | some p =>
          rw [hq] at h
          injection h with h
          injection h with h1 h2
          subst h1; subst h2
          rw [List.take_succ_cons, List.take_succ_cons, qin, if_pos rfl, if_pos rfl, qin_take r p.1 p.2 hq]
          rfl
      · split at h
        · injection h with h
          injection h with h1 h2
          subst h1; subst h2
          rfl
        · cases h
    · rename_i hc
      cases hq : qin (d :: r) with
      | none => rw [hq] at h; cases h
      | some p =>
        rw [hq] at h
        injection h with h
        injection h with h1 h2
        subst h1; subst h2
        rw [List.take_succ_cons, qin_other hc, qin_take (d :: r) p.1 p.2 hq]
        rfl
theorem wf_take {l v : Bs} {n : Nat} (h : oneF l = some (v, n)) : Wf (l.take n) v := by
  have hn := (one_some h).1
  have hl := wid_le l false
  have hlen : (l.take n).length = n := by rw [List.length_take]; omega
  unfold Wf
  rw [hlen]
  cases l with
  | nil =>
    injection h with h
    injection h with h1 h2
    subst h1; subst h2
    rfl
  | cons c r =>
    rw [oneF] at h
    split at h
    · rename_i hc
      subst hc
      cases hq : qin r with
      | none => rw [hq] at h; cases h
      | some p =>
        rw [hq] at h
        injection h with h
        injection h with h1 h2
        subst h1; subst h2
        rw [List.take_succ_cons, oneF, if_pos rfl, qin_take r p.1 p.2 hq]
        rfl
    · rename_i hc
      cases hq : pln (c :: r) with
      | none => rw [hq] at h; cases h
      | some p =>
        rw [hq] at h
        injection h with h
        injection h with h1 h2
        subst h1; subst h2
        have ht := pln_take _ _ hq
        cases p with
        | zero => rfl
        | succ p =>
          rw [List.take_succ_cons] at ht ⊢
          rw [oneF, if_neg hc, ht]
          simp [List.take_take]
theorem pln_ext (x : Bs) : ∀ (l : Bs), pln l = some l.length → pln (l ++ 44 :: x) = some l.length
  | [], _ => by rw [List.nil_append, pln, if_pos rfl]; rfl
  | c :: r, h => by
    rw [pln] at h
    split at h
    · injection h with h; simp at h
    · rename_i hc
      split at h
      · cases h
      · rename_i hd
        cases hq : pln r with
        | none => rw [hq] at h; cases h
        | some p =>
          rw [hq] at h
          injection h with h
          have hp : p = r.length := by simpa using h
          rw [List.cons_append, pln, if_neg hc, if_neg hd, pln_ext x r (by rw [hq, hp])]
          rfl
theorem qin_ext (x : Bs) : ∀ (r v : Bs), qin r = some (v, r.length) → qin (r ++ 44 :: x) = some (v, r.length)
  | [], _, h => by simp [qin] at h
  | [c], v, h => by
    rw [qin] at h
    split at h
    · rename_i hc
      injection h with h
      injection h with h1 h2
      subst h1; subst hc
      show qin (34 :: 44 :: x) = _
      rw [qin, if_pos rfl, if_neg (by decide), if_pos rfl]
      rfl
    · cases h
  | c :: d :: r, v, h => by
    rw [qin] at h
    split at h
    · rename_i hc
      subst hc
      split at h
      · rename_i hd
        subst hd
        cases hq : qin r with
        | none => rw [hq] at h; cases h
        | some p =>
          rw [hq] at h
          injection h with h
          injection h with h1 h2
          have hp : p.2 = r.length := by simpa using h2
          subst h1
          have e := qin_ext x r p.1 (by rw [hq, ← hp])
          show qin (34 :: 34 :: (r ++ 44 :: x)) = _
          rw [qin, if_pos rfl, if_pos rfl, e]
          rfl
      · split at h
        · injection h with h
          injection h with h1 h2
          simp at h2
        · cases h
    · rename_i hc
      cases hq : qin (d :: r) with
      | none => rw [hq] at h; cases h
      | some p =>
        rw [hq] at h
        injection h with h
        injection h with h1 h2
        have hp : p.2 = (d :: r).length := by simpa using h2
        subst h1
        have e := qin_ext x (d :: r) p.1 (by rw [hq, ← hp])
        rw [List.cons_append, qin_other hc, e]
        rfl
theorem wf_ext {raw v : Bs} (h : Wf raw v) (x : Bs) : oneF (raw ++ 44 :: x) = some (v, raw.length) := by
  unfold Wf at h
  cases raw with
  | nil =>
    injection h with h
    injection h with h1 h2
    subst h1
    rw [List.nil_append, oneF, if_neg (by decide), pln, if_pos rfl]
    rfl
  | cons c r =>
    rw [oneF] at h
    split at h
    · rename_i hc
      subst hc
      cases hq : qin r with
      | none => rw [hq] at h; cases h
      | some p =>
        rw [hq] at h
        injection h with h
        injection h with h1 h2
        have hp : p.2 = r.length := by simpa using h2
        subst h1
        have e := qin_ext x r p.1 (by rw [hq, ← hp])
        rw [List.cons_append, oneF, if_pos rfl, e]
        rfl
    · rename_i hc
      cases hq : pln (c :: r) with
      | none => rw [hq] at h; cases h
      | some p =>
        rw [hq] at h
        injection h with h
        injection h with h1 h2
        subst h2
        have e := pln_ext x (c :: r) hq
        subst h1
        rw [List.cons_append] at e ⊢
        rw [oneF, if_neg hc, e]
        simp
theorem qin_rq : ∀ m : Bs, qin (rq m ++ [34]) = some (m, (rq m).length + 1)
  | [] => rfl
  | c :: r => by
    rw [rq]
    by_cases hc : c = 34
    · rw [if_pos hc]
      subst hc
      show qin (34 :: 34 :: (rq r ++ [34])) = _
      rw [qin, if_pos rfl, if_pos rfl, qin_rq r]
      rfl
    · rw [if_neg hc, List.cons_append, qin_other hc, qin_rq r]
      rfl
theorem pln_free : ∀ m : Bs, (m.any fun x => ([34, 44] : List UInt8).contains x) = false → pln m = some m.length
  | [], _ => rfl
  | c :: r, h => by
    rw [List.any_cons, Bool.or_eq_false_iff] at h
    have h1 : c ≠ 44 := fun e => by rw [e] at h; exact absurd h.1 (by decide)
    have h2 : c ≠ 34 := fun e => by rw [e] at h; exact absurd h.1 (by decide)
    rw [pln, if_neg h1, if_neg h2, pln_free r h.2]
    rfl
theorem wf_q (m : Bs) : Wf (qF m) m := by
  unfold qF
  by_cases h : Lib.containsAny m [34, 44] = true
  · rw [if_pos h, replaceAll_rq]
    unfold Wf
    show oneF (34 :: (rq m ++ [34])) = _
    rw [oneF, if_pos rfl, qin_rq m]
    simp
  · rw [if_neg h]
    have h2 : (m.any fun x => ([34, 44] : List UInt8).contains x) = false := by rw [← any_mem]; simpa using h
    have hp := pln_free m h2
    unfold Wf
    cases m with
    | nil => rfl
    | cons c r =>
      have hc : c ≠ 34 := fun e => by rw [List.any_cons, e] at h2; exact absurd h2 (by simp)
      rw [oneF, if_neg hc, hp]
      simp
/-- Fields that are written one behind the other are read as they are. -/
theorem fldsR_join : ∀ (fs : List Ln), fs ≠ [] → (∀ x ∈ fs, Wf x.1 x.2) → ∀ F, (Lib.join (fs.map (·.1)) [44]).length < F → fldsR F (Lib.join (fs.map (·.1)) [44]) = some fs
  | [], h, _, _, _ => absurd rfl h
  | [x], _, hw, F, hF => by
    have hx := hw x (by simp)
    rw [List.map_cons, List.map_nil, Lib.join_one] at hF ⊢
    obtain ⟨G, rfl⟩ : ∃ G, F = G + 1 := ⟨F - 1, by omega⟩
    rw [fldsR, hx]
    dsimp only
    rw [if_pos (Nat.le_refl _), List.take_of_length_le (Nat.le_refl _)]
  | x :: y :: r, _, hw, F, hF => by
    have hx := hw x (by simp)
    have ej : Lib.join ((x :: y :: r).map (·.1)) [44] = x.1 ++ 44 :: Lib.join ((y :: r).map (·.1)) [44] := by
      simp [Lib.join, List.intercalate]
    rw [ej] at hF ⊢
    obtain ⟨G, rfl⟩ : ∃ G, F = G + 1 := ⟨F - 1, by omega⟩
    rw [fldsR, wf_ext hx]
    dsimp only
    simp only [List.length_append, List.length_cons] at hF
    rw [if_neg (by rw [List.length_append, List.length_cons]; omega)]
    have e1 : (x.1 ++ 44 :: Lib.join ((y :: r).map (·.1)) [44]).take x.1.length = x.1 := by simp
    have e2 : (x.1 ++ 44 :: Lib.join ((y :: r).map (·.1)) [44]).drop (x.1.length + 1) = Lib.join ((y :: r).map (·.1)) [44] := by
      rw [← List.drop_drop, List.drop_left]
      rfl
    rw [e1, e2, fldsR_join (y :: r) (by simp) (fun z hz => hw z (by simp [hz])) G (by omega)]
    rfl
/-- What is read is written so. -/
theorem flds_wf : ∀ (F : Nat) (l : Bs) (fs : List Ln), fldsR F l = some fs → ∀ x ∈ fs, Wf x.1 x.2
  | 0, _, _, h, _, _ => by cases h
  | F + 1, l, fs, h, x, hx => by
    rw [fldsR] at h
    cases ho : oneF l with
    | none => rw [ho] at h; cases h
    | some p =>
      obtain ⟨v, n⟩ := p
      rw [ho] at h
      dsimp only at h
      split at h
      · injection h with h
        subst h
        obtain rfl := List.mem_singleton.1 hx
        exact wf_take ho
      · cases hq : fldsR F (l.drop (n + 1)) with
        | none => rw [hq] at h; cases h
        | some q =>
          rw [hq] at h
          injection h with h
          subst h
          rcases List.mem_cons.1 hx with rfl | hx
          · exact wf_take ho
          · exact flds_wf F _ q hq x hx
theorem flds_text : ∀ (F : Nat) (l : Bs) (fs : List Ln), fldsR F l = some fs → Lib.join (fs.map (·.1)) [44] = l
  | 0, _, _, h => by cases h
  | F + 1, l, fs, h => by
    rw [fldsR] at h
    cases ho : oneF l with
    | none => rw [ho] at h; cases h
    | some p =>
      obtain ⟨v, n⟩ := p
      rw [ho] at h
      dsimp only at h
      split at h
      · rename_i hl
        injection h with h
        subst h
        rw [List.map_cons, List.map_nil, Lib.join_one, List.take_of_length_le hl]
      · rename_i hl
        cases hq : fldsR F (l.drop (n + 1)) with
        | none => rw [hq] at h; cases h
        | some q =>
          rw [hq] at h
          injection h with h
          subst h
          have ih := flds_text F _ q hq
          have hqn : q ≠ [] := by
            intro e; subst e
            cases F with
            | zero => cases hq
            | succ F =>
              rw [fldsR] at hq
              cases ho2 : oneF (l.drop (n + 1)) with
              | none => rw [ho2] at hq; cases hq
              | some p2 =>
                rw [ho2] at hq
                dsimp only at hq
                split at hq
                · cases hq
                · cases hq3 : fldsR F (List.drop (p2.2 + 1) (l.drop (n + 1))) <;> rw [hq3] at hq <;> cases hq
          obtain ⟨y, r, rfl⟩ := List.exists_cons_of_ne_nil hqn
          have ej : Lib.join (((l.take n, v) :: y :: r).map (·.1)) [44] = l.take n ++ 44 :: Lib.join ((y :: r).map (·.1)) [44] := by
            simp [Lib.join, List.intercalate]
          rw [ej, ih]
          have hs := one_sep ho (by omega)
          have e := List.take_append_drop n l
          have hlt : n < l.length := by omega
          rw [List.drop_eq_getElem_cons hlt] at e
          rw [List.getElem?_eq_getElem hlt] at hs
          injection hs with hs
          rw [hs] at e
          exact e
theorem qin_bytes : ∀ (r v : Bs), qin r = some (v, r.length) → ∀ b ∈ r, b = 34 ∨ b ∈ v
  | [], _, h, _, _ => by simp [qin] at h
  | [c], v, h, b, hb => by
    rw [qin] at h
    split at h
    · rename_i hc
      left
      rw [List.mem_singleton.1 hb, hc]
    · cases h
  | c :: d :: r, v, h, b, hb => by
    rw [qin] at h
    split at h
    · rename_i hc
      subst hc
      split at h
      · rename_i hd
        subst hd
        cases hq : qin r with
        | none => rw [hq] at h; cases h
        | some p =>
          rw [hq] at h
          injection h with h
          injection h with h1 h2
          have hp : p.2 = r.length := by simpa using h2
          subst h1
          rcases List.mem_cons.1 hb with e | hb
          · exact .inl e
          · rcases List.mem_cons.1 hb with e | hb
            · exact .inl e
            · exact (qin_bytes r p.1 (by rw [hq, ← hp]) b hb).imp id (List.mem_cons_of_mem _)
      · split at h
        · injection h with h
          injection h with h1 h2
          simp at h2
        · cases h
    · cases hq : qin (d :: r) with
      | none => rw [hq] at h; cases h
      | some p =>
        rw [hq] at h
        injection h with h
        injection h with h1 h2
        have hp : p.2 = (d :: r).length := by simpa using h2
        subst h1
        rcases List.mem_cons.1 hb with e | hb
        · exact .inr (by rw [e]; exact List.mem_cons_self ..)
        · exact (qin_bytes (d :: r) p.1 (by rw [hq, ← hp]) b hb).imp id (List.mem_cons_of_mem _)
theorem wf_bytes {raw v : Bs} (h : Wf raw v) : ∀ b ∈ raw, b = 34 ∨ b ∈ v := by
  unfold Wf at h
  intro b hb
  cases raw with
  | nil => cases hb
  | cons c r =>
    rw [oneF] at h
    split at h
    · rename_i hc
      subst hc
      cases hq : qin r with
      | none => rw [hq] at h; cases h
      | some p =>
        rw [hq] at h
        injection h with h
        injection h with h1 h2
        have hp : p.2 = r.length := by simpa using h2
        subst h1
        rcases List.mem_cons.1 hb with e | hb
        · exact .inl e
        · exact qin_bytes r p.1 (by rw [hq, ← hp]) b hb
    · cases hq : pln (c :: r) with
      | none => rw [hq] at h; cases h
      | some p =>
        rw [hq] at h
        injection h with h
        injection h with h1 h2
        subst h2
        subst h1
        exact .inr (by simpa using hb)
theorem join_bytes : ∀ (fs : List Bs) (b : UInt8), b ∈ Lib.join fs [44] → b = 44 ∨ ∃ x ∈ fs, b ∈ x
  | [], b, h => by simp [Lib.join, List.intercalate] at h
  | [x], b, h => by rw [Lib.join_one] at h; exact .inr ⟨x, by simp, h⟩
  | x :: y :: r, b, h => by
    have ej : Lib.join (x :: y :: r) [44] = x ++ 44 :: Lib.join (y :: r) [44] := by simp [Lib.join, List.intercalate]
    rw [ej] at h
    rcases List.mem_append.1 h with h | h
    · exact .inr ⟨x, by simp, h⟩
    · rcases List.mem_cons.1 h with h | h
      · exact .inl h
      · exact (join_bytes (y :: r) b h).imp id (fun ⟨z, hz, hb⟩ => ⟨z, by simp [hz], hb⟩)
end Go.Proofs.YtlcbhooiinaalaaGreatDoor.Cv
namespace Go.Proofs.YtlcbhooiinaalaaGreatDoor.Cv
open Go.RowKit Go.Sort Go.Proofs.YtlcbhooiinaalaaGreatDoor.Jd Go.Proofs.YtlcbhooiinaalaaGreatDoor.Li Go.Proofs.YtlcbhooiinaalaaGreatDoor.Cl Go.Proofs.YtlcbhooiinaalaaGreatDoor.Pt
set_option maxRecDepth 100000

/-- The fields of a line that means these, with what they mean. -/
def fieldP : List ByteArray → List Ln → List Ln
  | [], _ => []
  | m :: ms, [] => (qF m.data.toList, m.data.toList) :: fieldP ms []
  | m :: ms, x :: xs => (if ((ByteArray.mk x.2.toArray).toList == m.toList) = true then x.1 else qF m.data.toList, m.data.toList) :: fieldP ms xs
theorem fieldP_raw : ∀ (ms : List ByteArray) (fs : List Ln), (fieldP ms fs).map (·.1) = fieldF ms fs
  | [], _ => by simp [fieldP, fieldF]
  | m :: ms, [] => by simp [fieldP, fieldF, fieldP_raw ms []]
  | m :: ms, x :: xs => by simp [fieldP, fieldF, fieldP_raw ms xs]
theorem fieldP_mns : ∀ (ms : List ByteArray) (fs : List Ln), mns (fieldP ms fs) = ms
  | [], _ => by simp [fieldP, mns]
  | m :: ms, [] => by
    have := fieldP_mns ms []
    simp only [mns, fieldP, List.map_cons] at this ⊢
    rw [this]
  | m :: ms, x :: xs => by
    have := fieldP_mns ms xs
    simp only [mns, fieldP, List.map_cons] at this ⊢
    rw [this]
theorem fieldP_wf : ∀ (ms : List ByteArray) (fs : List Ln), (∀ x ∈ fs, Wf x.1 x.2) → ∀ x ∈ fieldP ms fs, Wf x.1 x.2
  | [], _, _, x, hx => by simp [fieldP] at hx
  | m :: ms, [], h, x, hx => by
    rw [fieldP] at hx
    rcases List.mem_cons.1 hx with rfl | hx
    · exact wf_q _
    · exact fieldP_wf ms [] h x hx
  | m :: ms, y :: ys, h, x, hx => by
    rw [fieldP] at hx
    rcases List.mem_cons.1 hx with rfl | hx
    · dsimp only
      split
      · rename_i he
        have e : y.2 = m.data.toList := by
          have h1 := beq_iff_eq.1 he
          rw [ByteArray.toList_eq, ByteArray.toList_eq] at h1
          simpa using h1
        rw [← e]
        exact h y (by simp)
      · exact wf_q _
    · exact fieldP_wf ms ys (fun z hz => h z (by simp [hz])) x hx
theorem fieldP_ne {ms : List ByteArray} (h : ms ≠ []) (fs : List Ln) : fieldP ms fs ≠ [] := by
  intro e
  have := fieldP_mns ms fs
  rw [e] at this
  exact h this.symm
theorem fldsL_field {ms : List ByteArray} {fs : List Ln} (h : ms ≠ []) (hw : ∀ x ∈ fs, Wf x.1 x.2) : fldsL (Lib.join (fieldF ms fs) [44]) = fieldP ms fs := by
  have hj := fldsR_join (fieldP ms fs) (fieldP_ne h fs) (fieldP_wf ms fs hw) ((Lib.join (fieldF ms fs) [44]).length + 1) (by rw [fieldP_raw]; exact Nat.lt_succ_self _)
  rw [fieldP_raw] at hj
  rw [fldsL, ← fldsR_eq, hj]
  rfl
theorem fldsL_wf (l : Bs) : ∀ x ∈ fldsL l, Wf x.1 x.2 := by
  intro x hx
  rw [fldsL, ← fldsR_eq] at hx
  cases h : fldsR (l.length + 1) l with
  | none => rw [h] at hx; cases hx
  | some fs => rw [h] at hx; exact flds_wf _ _ _ h x hx
theorem vB_bytes {z : ByteArray} (h : vB z = true) : (10 : UInt8) ∉ z.data.toList ∧ (13 : UInt8) ∉ z.data.toList := by
  rw [vB, Bool.and_eq_true, any_mem] at h
  have h2 : (z.data.toList.any fun x => ([10, 13] : List UInt8).contains x) = false := by simpa using h.2
  rw [List.any_eq_false] at h2
  exact ⟨fun hm => h2 10 hm rfl, fun hm => h2 13 hm rfl⟩
/-- No line's end in a line. -/
theorem field_clean {ms : List ByteArray} {fs : List Ln} (hw : ∀ x ∈ fs, Wf x.1 x.2) (hv : ∀ m ∈ ms, vB m = true) (b : UInt8) (hb : b = 10 ∨ b = 13) : b ∉ Lib.join (fieldF ms fs) [44] := by
  intro hm
  rw [← fieldP_raw] at hm
  rcases join_bytes _ _ hm with e | ⟨x, hx, hbx⟩
  · rcases hb with rfl | rfl <;> cases e
  · obtain ⟨y, hy, rfl⟩ := List.mem_map.1 hx
    rcases wf_bytes (fieldP_wf ms fs hw y hy) b hbx with e | e
    · rcases hb with rfl | rfl <;> cases e
    · have hz : (⟨y.2.toArray⟩ : ByteArray) ∈ ms := by
        rw [← fieldP_mns ms fs]
        exact List.mem_map_of_mem (f := fun x : Ln => (⟨x.2.toArray⟩ : ByteArray)) hy
      have := vB_bytes (hv _ hz)
      rcases hb with rfl | rfl
      · exact this.1 (by simpa using e)
      · exact this.2 (by simpa using e)
theorem spl_cut : ∀ (t cur b : Bs), (10 : UInt8) ∉ t → spl cur (t ++ 10 :: b) = cut (cur ++ t) :: spl [] b
  | [], cur, b, _ => by rw [List.nil_append, List.append_nil, spl, if_pos rfl]
  | c :: t, cur, b, h => by
    rw [List.mem_cons, not_or] at h
    rw [List.cons_append, spl, if_neg (Ne.symm h.1), spl_cut t (cur ++ [c]) b h.2, List.append_assoc]
    rfl
theorem cut_plain {t : Bs} (h : (13 : UInt8) ∉ t) : cut t = (t, [10]) := by
  unfold cut
  rw [if_neg (fun e => h (List.mem_of_getLast? e))]
theorem cut_cr (t : Bs) : cut (t ++ [13]) = (t, [13, 10]) := by
  unfold cut
  rw [if_pos (by simp)]
  simp
theorem split_join : ∀ (ls : List Ln), Li.Good ls → (∀ x ∈ ls, (13 : UInt8) ∉ x.1) → split (join ls) = ls
  | [], _, _ => rfl
  | [x], ⟨h1, h2⟩, h13 => by
    have h3 := h13 x (by simp)
    obtain ⟨t, e⟩ := x
    rcases h2 with (h2 | h2) | ⟨h2, h4⟩
    · dsimp only at h1 h2 h3
      subst h2
      rw [join, join, List.append_nil, split, spl_cut t [] [] h1, List.nil_append, cut_plain h3]
      rfl
    · dsimp only at h1 h2 h3
      subst h2
      rw [join, join, List.append_nil, split]
      show spl [] (t ++ 13 :: 10 :: []) = _
      rw [show t ++ 13 :: 10 :: [] = (t ++ [13]) ++ 10 :: [] by simp, spl_cut _ _ _ (by simp [h1]), List.nil_append, cut_cr]
      rfl
    · dsimp only at h1 h2 h4
      subst h2
      rw [join, join, List.append_nil, List.append_nil, split, spl_none _ _ h1, List.nil_append, spl, if_neg h4]
  | x :: y :: r, ⟨h1, h2, h3⟩, h13 => by
    have h4 := h13 x (by simp)
    have ih := split_join (y :: r) h3 (fun z hz => h13 z (by simp [hz]))
    obtain ⟨t, e⟩ := x
    rcases h2 with h2 | h2
    · dsimp only at h1 h2 h4
      subst h2
      rw [join, split]
      show spl [] ((t ++ [10]) ++ join (y :: r)) = _
      rw [List.append_assoc, List.singleton_append, spl_cut t [] _ h1, List.nil_append, cut_plain h4]
      rw [split] at ih
      rw [ih]
    · dsimp only at h1 h2 h4
      subst h2
      rw [join, split]
      show spl [] ((t ++ [13, 10]) ++ join (y :: r)) = _
      rw [show (t ++ [13, 10]) ++ join (y :: r) = (t ++ [13]) ++ 10 :: join (y :: r) by simp, spl_cut _ _ _ (by simp [h1]), List.nil_append, cut_cr]
      rw [split] at ih
      rw [ih]
theorem good_ended {E : Bs} (hE : Fin E) : ∀ (ls : List Ln), (∀ x ∈ ls, (10 : UInt8) ∉ x.1 ∧ x.1 ≠ [] ∧ (Fin x.2 ∨ x.2 = [])) → Li.Good (ended E ls)
  | [], _ => trivial
  | [x], h => by
    obtain ⟨h1, h2, h3⟩ := h x (by simp)
    exact ⟨h1, h3.imp id (fun e => ⟨e, h2⟩)⟩
  | x :: y :: r, h => by
    obtain ⟨h1, h2, h3⟩ := h x (by simp)
    rw [ended]
    refine Li.Good.cons h1 ?_ (good_ended hE (y :: r) (fun z hz => h z (by simp [hz])))
    dsimp only
    by_cases h0 : x.2 = []
    · rw [if_pos h0]; exact hE
    · rw [if_neg h0]; exact h3.elim id (fun e => absurd e h0)
theorem ended_texts (E : Bs) : ∀ ls : List Ln, (ended E ls).map (·.1) = ls.map (·.1)
  | [] => rfl
  | [_] => rfl
  | x :: y :: r => by rw [ended, List.map_cons, ended_texts E (y :: r)]; rfl
theorem good_ends : ∀ (ls : List Ln), Li.Good ls → ∀ x ∈ ls, Fin x.2 ∨ x.2 = []
  | [x], ⟨_, h⟩, y, hy => by
    obtain rfl := List.mem_singleton.1 hy
    exact h.imp id (·.1)
  | x :: y :: r, ⟨_, h2, h3⟩, z, hz => by
    rcases List.mem_cons.1 hz with rfl | hz
    · exact .inl h2
    · exact good_ends (y :: r) h3 z hz
/-- Rows that may stand behind a head. -/
def RecOk (h r : Rw) : Prop := r.fs ≠ [] ∧ r.fs.length = h.fs.length ∧ nB (nm r) = true ∧ (mns r.fs).all vB = true
theorem rowsF_run (h : Rw) : ∀ (xs : List Ln) (acc : List Rw) (i : Nat), (∀ x ∈ xs, RecOk h (rowF x)) → ((acc ++ xs.map rowF).map fun r => (nm r).data.toList).Nodup → rowsF (h :: acc) i xs = (h :: (acc ++ xs.map rowF), 0, 0)
  | [], acc, i, _, _ => by rw [rowsF, List.map_nil, List.append_nil]
  | x :: xs, acc, i, ho, hn => by
    obtain ⟨h1, h2, h3, h4⟩ := ho x (by simp)
    have hf : faultF (h :: acc) (rowF x) = 0 := by
      unfold faultF
      rw [if_neg h1]
      dsimp only
      rw [if_neg (fun e => e h2), if_neg (by rw [h3]; decide), if_neg (by rw [h4]; decide), if_neg]
      intro e
      obtain ⟨y, hy, e⟩ := List.any_eq_true.1 e
      rw [List.map_append, List.map_cons, List.map_cons, List.nodup_append] at hn
      refine hn.2.2 _ (List.mem_map_of_mem (f := fun r => (nm r).data.toList) hy) _ (List.mem_cons_self ..) ?_
      have := beq_iff_eq.1 e
      rwa [ByteArray.toList_eq, ByteArray.toList_eq] at this
    rw [rowsF, if_neg (fun e => e hf)]
    have e : (h :: acc) ++ [rowF x] = h :: (acc ++ [rowF x]) := rfl
    rw [e, rowsF_run h xs (acc ++ [rowF x]) (i + 1) (fun z hz => ho z (by simp [hz])) (by simpa using hn)]
    simp
theorem rowsF_all (x : Ln) (xs : List Ln) (h0 : (rowF x).fs ≠ []) (hh : headF (mns (rowF x).fs) = 0) (ho : ∀ y ∈ xs, RecOk (rowF x) (rowF y)) (hn : (xs.map fun y => (nm (rowF y)).data.toList).Nodup) : rowsF [] 0 (x :: xs) = (rowF x :: xs.map rowF, 0, 0) := by
  have hf : faultF [] (rowF x) = 0 := by
    unfold faultF
    rw [if_neg h0]
    exact hh
  rw [rowsF, if_neg (fun e => e hf)]
  have := rowsF_run (rowF x) xs [] 1 ho (by simpa [Function.comp_def] using hn)
  simpa using this
/-- A file that was read: its rows, and what is known of them. -/
theorem rowsF_inv : ∀ (ls : List Ln) (ahead : List Rw) (i : Nat) (rows : List Rw), rowsF ahead i ls = (rows, 0, 0) → rows = ahead ++ ls.map rowF
  | [], ahead, i, rows, h => by rw [rowsF] at h; injection h with h _; simp [h]
  | x :: r, ahead, i, rows, h => by
    rw [rowsF] at h
    by_cases hf : faultF ahead (rowF x) ≠ 0
    · rw [if_pos hf] at h
      injection h with _ h
      injection h with _ h
      exact absurd h hf
    · rw [if_neg hf] at h
      rw [rowsF_inv r _ _ rows h]
      simp
theorem rowsF_recs : ∀ (ls : List Ln) (h : Rw) (acc : List Rw) (i : Nat) (rows : List Rw), rowsF (h :: acc) i ls = (rows, 0, 0) → ∀ x ∈ ls, RecOk h (rowF x)
  | [], _, _, _, _, _, x, hx => by cases hx
  | y :: r, h, acc, i, rows, hr, x, hx => by
    rw [rowsF] at hr
    by_cases hf : faultF (h :: acc) (rowF y) ≠ 0
    · rw [if_pos hf] at hr
      injection hr with _ hr
      injection hr with _ hr
      exact absurd hr hf
    · rw [if_neg hf] at hr
      rcases List.mem_cons.1 hx with rfl | hx
      · have h1 := fault_fs hf
        unfold faultF at hf
        rw [if_neg h1] at hf
        dsimp only at hf
        split at hf
        · exact absurd (by decide) hf
        · rename_i c1
          split at hf
          · exact absurd (by decide) hf
          · rename_i c2
            split at hf
            · exact absurd (by decide) hf
            · rename_i c3
              exact ⟨h1, Decidable.not_not.1 c1, by simpa using c2, by simpa using c3⟩
      · exact rowsF_recs r h (acc ++ [rowF y]) (i + 1) rows hr x hx
end Go.Proofs.YtlcbhooiinaalaaGreatDoor.Cv
namespace Go.Proofs.YtlcbhooiinaalaaGreatDoor.Cv
open Go.RowKit Go.Sort Go.Proofs.YtlcbhooiinaalaaGreatDoor.Jd Go.Proofs.YtlcbhooiinaalaaGreatDoor.Li Go.Proofs.YtlcbhooiinaalaaGreatDoor.Cl Go.Proofs.YtlcbhooiinaalaaGreatDoor.Pt
set_option maxRecDepth 100000

theorem allT_mem {f : ByteArray → Tr → Bool} : ∀ {t : Tr}, allT f t = true → ∀ e ∈ eds t, f e.1 e.2 = true
  | .nil, _, e, he => by cases he
  | .cons s k r, h, e, he => by
    rw [allT, Bool.and_eq_true] at h
    rcases List.mem_cons.1 he with rfl | he
    · exact h.1
    · exact allT_mem h.2 e he
theorem fcB_form {s : ByteArray} {k : Tr} (h : fcB s k = true) : cB s = true ∧ ∃ v, k = .cons v .nil .nil ∧ nB v = true := by
  unfold fcB at h
  rw [Bool.and_eq_true] at h
  refine ⟨h.1, ?_⟩
  have h2 := h.2
  cases k with
  | nil => cases h2
  | cons v k2 r =>
    cases r with
    | cons _ _ _ => cases h2
    | nil =>
      have h3 : fvB v k2 = true := h2
      rw [fvB, Bool.and_eq_true, decide_eq_true_eq] at h3
      cases k2 with
      | nil => exact ⟨v, rfl, h3.1⟩
      | cons _ _ _ => exact absurd h3.2 (by simp [Tr.len])
theorem mem_eds : ∀ {t : Tr}, t.Asc → ∀ (q : ByteArray) (k : Tr), (q, k) ∈ eds t ↔ t.atIs q = true ∧ kidT t q = k
  | .nil, _, q, k => by
    constructor
    · intro h; cases h
    · rintro ⟨h, _⟩; cases h
  | .cons s kk r, ha, q, k => by
    have har : r.Asc := (List.pairwise_cons.1 ha).2
    have hlt := (List.pairwise_cons.1 ha).1
    have ih := mem_eds har q k
    rw [eds, List.mem_cons]
    rcases cases3 s q with c | ⟨c, d⟩ | ⟨c, d, d2⟩
    · rw [Pt.atIs_lt c, kidT_lt c, ← ih]
      constructor
      · rintro (h | h)
        · injection h with h1 h2
          subst h1
          exact absurd c (by rw [self_not_lt]; decide)
        · exact h
      · exact .inr
    · have e := names_of_eq d
      subst e
      rw [atIs_ge c, kidT_eq c d]
      constructor
      · rintro (h | h)
        · injection h with h1 h2
          exact ⟨d, h2.symm⟩
        · exfalso
          have hm : s.data.toList ∈ r.bn := by rw [eds_bn]; exact List.mem_map_of_mem (f := fun e : ByteArray × Tr => e.1.data.toList) h
          exact List.lt_irrefl _ (hlt _ hm)
      · rintro ⟨_, h⟩
        exact .inl (by rw [h])
    · rw [atIs_ge c, kidT_gt c d, d]
      constructor
      · rintro (h | h)
        · injection h with h1 h2
          subst h1
          rw [self_eq] at d
          cases d
        · exfalso
          have hm : q.data.toList ∈ r.bn := by rw [eds_bn]; exact List.mem_map_of_mem (f := fun e : ByteArray × Tr => e.1.data.toList) h
          have h1 := hlt _ hm
          have h2 := (less_iff s q).2 h1
          rw [h2] at c
          cases c
      · rintro ⟨h, _⟩
        cases h
theorem eds_nodup {t : Tr} (h : t.Asc) : (eds t).Nodup := by
  have h2 := h
  unfold Tr.Asc at h2
  rw [eds_bn, List.pairwise_map] at h2
  exact h2.imp fun hab e => by rw [e] at hab; exact List.lt_irrefl _ hab
theorem nodup_of_names {es : List (ByteArray × Tr)} (h : (es.map (·.1.data.toList)).Nodup) : es.Nodup := by
  rw [List.Nodup, List.pairwise_map] at h
  exact h.imp fun hab e => hab (by rw [e])
/-- Edges with distinct names, the same ones as a tree's in order: sorted they are it. -/
theorem srt_is {t u : Tr} (hn : u.bn.Nodup) (ha : t.Asc) (hm : ∀ q k, (q, k) ∈ eds u ↔ (q, k) ∈ eds t) : srtE u = t := by
  refine asc_perm (srt_asc hn) ha ((srt_perm u).trans ?_)
  rw [List.perm_ext_iff_of_nodup (nodup_of_names (by rw [← eds_bn]; exact hn)) (eds_nodup ha)]
  rintro ⟨q, k⟩
  exact hm q k
theorem getT_one (t : Tr) (c : ByteArray) : getT t [c] = if t.atIs c = true then (kidT t c, true) else (.nil, false) := by
  rw [getT]
  split <;> rfl
/-- A row's values: where it has none, no text. -/
theorem valF_is {k : Tr} (ha : k.Asc) (hf : allT fcB k = true) (c : ByteArray) : (k.atIs c = true → kidT k c = .cons (valF k c) .nil .nil ∧ nB (valF k c) = true) ∧ (k.atIs c = false → valF k c = ⟨#[]⟩) := by
  constructor
  · intro h
    have hm := (mem_eds ha c (kidT k c)).2 ⟨h, rfl⟩
    obtain ⟨_, v, e, hv⟩ := fcB_form (allT_mem hf _ hm)
    dsimp only at e
    have : valF k c = v := by
      unfold valF
      rw [getT_one, if_pos h, e]
    rw [this]
    exact ⟨e, hv⟩
  · intro h
    unfold valF
    rw [getT_one, if_neg (by rw [h]; decide)]
theorem nB_size {z : ByteArray} (h : nB z = true) : z.size ≠ 0 := by
  rw [nB, Bool.and_eq_true, decide_eq_true_eq] at h
  omega
theorem vB_empty : vB ⟨#[]⟩ = true := by decide
theorem nB_vB {z : ByteArray} (h : nB z = true) : vB z = true := by
  rw [nB, Bool.and_eq_true] at h
  exact h.2
theorem cB_nB {z : ByteArray} (h : cB z = true) : nB z = true := by
  rw [cB, Bool.and_eq_true] at h
  exact h.1
theorem rawB_mem {k : Tr} (ha : k.Asc) (hf : allT fcB k = true) : ∀ (cols : List ByteArray) (q : ByteArray) (k2 : Tr), (q, k2) ∈ eds (rawB cols (cols.map (valF k))) ↔ q ∈ cols ∧ k.atIs q = true ∧ kidT k q = k2
  | [], q, k2 => by
    unfold rawB
    constructor
    · intro h; cases h
    · rintro ⟨h, _⟩; cases h
  | c :: cols, q, k2 => by
    have ih := rawB_mem ha hf cols q k2
    obtain ⟨h1, h2⟩ := valF_is ha hf c
    rw [List.map_cons, rawB]
    cases hc : k.atIs c with
    | true =>
      obtain ⟨e, hv⟩ := h1 hc
      rw [if_neg (nB_size hv), eds, List.mem_cons, ih, List.mem_cons]
      constructor
      · rintro (h | ⟨a, b, d⟩)
        · injection h with e1 e2
          subst e1
          exact ⟨.inl rfl, hc, by rw [e, e2]⟩
        · exact ⟨.inr a, b, d⟩
      · rintro ⟨h | h, b, d⟩
        · subst h
          left
          rw [← d, e]
        · exact .inr ⟨h, b, d⟩
    | false =>
      rw [if_pos (by rw [h2 hc]; rfl), ih, List.mem_cons]
      constructor
      · rintro ⟨a, b, d⟩
        exact ⟨.inr a, b, d⟩
      · rintro ⟨h | h, b, d⟩
        · subst h
          rw [hc] at b
          cases b
        · exact ⟨h, b, d⟩
/-- A row's tree, from its fields. -/
theorem kid_back {k : Tr} (ha : k.Asc) (hf : allT fcB k = true) {cols : List ByteArray} (hn : (cols.map (·.data.toList)).Nodup) (hc : ∀ s ∈ k.names, s ∈ cols) : srtE (rawB cols (cols.map (valF k))) = k := by
  refine srt_is (rawB_nodup _ _ hn) ha fun q k2 => ?_
  rw [rawB_mem ha hf, mem_eds ha]
  constructor
  · rintro ⟨_, h⟩; exact h
  · rintro ⟨h1, h2⟩
    refine ⟨hc q ?_, h1, h2⟩
    have hm := (mem_atIs ha).1 h1
    rw [Tr.bn] at hm
    obtain ⟨s, hs, e⟩ := List.mem_map.1 hm
    have : s = q := bytes_eq (by rw [ByteArray.toList_eq, ByteArray.toList_eq, e])
    rwa [← this]
theorem eds_recs (cols : List ByteArray) : ∀ rs : List Rw, eds (recsT srtE cols rs) = rs.map fun r => (nm r, srtE (rawB cols (mns r.fs.tail)))
  | [] => rfl
  | r :: rs => by rw [recsT, eds, eds_recs cols rs]; rfl
/-- Rows whose names are a tree's, each with what the tree has there, make the tree. -/
theorem rows_back {t : Tr} (ha : AscD t) (hf : allT frB t = true) {cols : List ByteArray} (hn : (cols.map (·.data.toList)).Nodup) (hc : ∀ k ∈ kidsL t, ∀ s ∈ k.names, s ∈ cols) {rs : List Rw}
    (hr : ∀ r ∈ rs, t.atIs (nm r) = true ∧ mns r.fs.tail = cols.map (valF (kidT t (nm r)))) (hd : (rs.map fun r => (nm r).data.toList).Nodup) (hall : ∀ q, t.atIs q = true → ∃ r ∈ rs, nm r = q) : srtE (recsT srtE cols rs) = t := by
  have hat := AscD.asc ha
  have key : ∀ r ∈ rs, srtE (rawB cols (mns r.fs.tail)) = kidT t (nm r) := by
    intro r hr1
    obtain ⟨h1, h2⟩ := hr r hr1
    have hm := (mem_eds hat (nm r) _).2 ⟨h1, rfl⟩
    have hfr := allT_mem hf _ hm
    rw [frB, Bool.and_eq_true] at hfr
    rw [h2]
    refine kid_back (AscD.asc (kidT_asc ha)) hfr.2 hn (hc _ ?_)
    have hk : ∀ (u : Tr) (e : ByteArray × Tr), e ∈ eds u → e.2 ∈ kidsL u := by
      intro u
      induction u with
      | nil => intro e h; cases h
      | cons s k r _ ih =>
        intro e h
        rcases List.mem_cons.1 h with rfl | h
        · exact List.mem_cons_self ..
        · exact List.mem_cons_of_mem _ (ih e h)
    exact hk t _ hm
  refine srt_is (by rw [recs_bn]; exact hd) hat fun q k => ?_
  rw [eds_recs, List.mem_map, mem_eds hat]
  constructor
  · rintro ⟨r, hr1, e⟩
    injection e with e1 e2
    subst e1
    exact ⟨(hr r hr1).1, by rw [← key r hr1, e2]⟩
  · rintro ⟨h1, h2⟩
    obtain ⟨r, hr1, e⟩ := hall q h1
    refine ⟨r, hr1, ?_⟩
    rw [key r hr1, e, h2]
/-- What is known of a file that was read. -/
structure FileOk (hd : Rw) (x0 : Ln) (xl : List Ln) (rs : List Rw) : Prop where
  head : hd.fs = x0 :: xl
  hf : headF (mns hd.fs) = 0
  recs : ∀ r ∈ rs, RecOk hd r
  nod : (rs.map fun r => (nm r).data.toList).Nodup
  wf : ∀ r ∈ hd :: rs, ∀ x ∈ r.fs, Wf x.1 x.2
  ends : ∀ r ∈ hd :: rs, Fin r.en.data.toList ∨ r.en.data.toList = []
theorem file_ok {l : Bs} {hd : Rw} {x0 : Ln} {xl : List Ln} {rs : List Rw} (h : rowsF [] 0 (split l) = (hd :: rs, 0, 0)) (hh : hd.fs = x0 :: xl) : FileOk hd x0 xl rs := by
  have hi := rowsF_inv _ _ _ _ h
  rw [List.nil_append] at hi
  have hnod := rowsF_nod (split l) [] 0 trivial (by rw [h])
  rw [h] at hnod
  cases hs : split l with
  | nil => rw [hs] at hi; cases hi
  | cons y ys =>
    rw [hs, List.map_cons] at hi
    injection hi with h1 h2
    have h3 := h
    rw [hs, rowsF] at h3
    by_cases hf : faultF [] (rowF y) ≠ 0
    · rw [if_pos hf] at h3
      injection h3 with _ h3
      injection h3 with _ h3
      exact absurd h3 hf
    · rw [if_neg hf, List.nil_append, ← h1] at h3
      have h0 := fault_fs hf
      have hf0 : headF (mns hd.fs) = 0 := by
        have := Decidable.not_not.1 hf
        unfold faultF at this
        rw [if_neg h0, ← h1] at this
        exact this
      have hends := good_ends _ (split_good l)
      rw [hs] at hends
      refine ⟨hh, hf0, ?_, hnod.2, ?_, ?_⟩
      · intro r hr
        rw [h2] at hr
        obtain ⟨z, hz, rfl⟩ := List.mem_map.1 hr
        exact rowsF_recs ys hd [] 1 _ h3 z hz
      · intro r hr
        rw [h1, h2, ← List.map_cons (f := rowF)] at hr
        obtain ⟨z, _, rfl⟩ := List.mem_map.1 hr
        exact fldsL_wf z.1
      · intro r hr
        rw [h1, h2, ← List.map_cons (f := rowF)] at hr
        obtain ⟨z, hz, rfl⟩ := List.mem_map.1 hr
        have := hends z hz
        simpa [rowF] using this
theorem head_facts {m : ByteArray} {cols : List ByteArray} (h : headF (m :: cols) = 0) : m = kB ∧ cols.all cB = true ∧ cols.Nodup := by
  rw [headF] at h
  split at h
  · exact absurd h (by decide)
  · rename_i c1
    split at h
    · exact absurd h (by decide)
    · rename_i c2
      split at h
      · exact absurd h (by decide)
      · rename_i c3
        refine ⟨bytes_eq ?_, by simpa using c2, (dup_nodup _ _ (by simpa using c3)).1⟩
        have : m.toList = [107, 101, 121] := by simpa using c1
        rw [this, ByteArray.toList_eq]
theorem nodup_dup : ∀ (l a : List ByteArray), l.Nodup → (∀ z ∈ l, z ∉ a) → dupF a l = false
  | [], _, _, _ => rfl
  | x :: r, a, h, ha => by
    rw [List.nodup_cons] at h
    rw [dupF, Bool.or_eq_false_iff]
    refine ⟨?_, nodup_dup r (a ++ [x]) h.2 (fun z hz hm => ?_)⟩
    · rw [Bool.eq_false_iff]
      intro e
      exact ha x (by simp) ((Lib.containsS_iff a x).1 e)
    · rcases List.mem_append.1 hm with hm | hm
      · exact ha z (by simp [hz]) hm
      · obtain rfl := List.mem_singleton.1 hm
        exact h.1 hz
theorem mkB_list (s : ByteArray) : mkB s.data.toList = s := by
  unfold mkB
  apply bytes_eq
  simp [ByteArray.toList_eq]
theorem mkB_inj {a b : Bs} (h : mkB a = mkB b) : a = b := by
  have := congrArg (fun x : ByteArray => x.data.toList) h
  simpa [mkB] using this
theorem kids_mem : ∀ {t : Tr} {k : Tr}, k ∈ kidsL t → ∃ s, (s, k) ∈ eds t
  | .nil, _, h => by cases h
  | .cons s kk r, k, h => by
    rcases List.mem_cons.1 h with rfl | h
    · exact ⟨s, List.mem_cons_self ..⟩
    · obtain ⟨q, hq⟩ := kids_mem h
      exact ⟨q, List.mem_cons_of_mem _ hq⟩
theorem names_mem : ∀ {t : Tr} {s : ByteArray}, s ∈ t.names → ∃ k, (s, k) ∈ eds t
  | .nil, _, h => by cases h
  | .cons q kk r, s, h => by
    rcases List.mem_cons.1 h with rfl | h
    · exact ⟨kk, List.mem_cons_self ..⟩
    · obtain ⟨k, hk⟩ := names_mem h
      exact ⟨k, List.mem_cons_of_mem _ hk⟩
/-- The columns of a file that a tree is put into. -/
theorem colsP_facts {xl : List Ln} {t : Tr} (hc : (mns xl).all cB = true) (hn : (mns xl).Nodup) (hf : allT frB t = true) :
    (colsP xl t).all cB = true ∧ (colsP xl t).Nodup ∧ ∀ k ∈ kidsL t, ∀ s ∈ k.names, s ∈ colsP xl t := by
  have hnew : ∀ z ∈ (lessF (colsF t) (mns xl)).map mkB, cB z = true ∧ z ∉ mns xl := by
    intro z hz
    obtain ⟨l, hl, rfl⟩ := List.mem_map.1 hz
    rw [lessF, List.mem_filter] at hl
    obtain ⟨hl1, hl2⟩ := hl
    rw [colsF, namesOf_mem] at hl1
    obtain ⟨s, hs, rfl⟩ := List.mem_map.1 hl1
    rw [mkB_list]
    obtain ⟨k, hk, hsk⟩ := List.mem_flatMap.1 hs
    obtain ⟨q, hq⟩ := kids_mem hk
    have h1 := allT_mem hf _ hq
    rw [frB, Bool.and_eq_true] at h1
    obtain ⟨k2, hk2⟩ := names_mem hsk
    refine ⟨(fcB_form (allT_mem h1.2 _ hk2)).1, fun hm => ?_⟩
    have e : (⟨s.data.toList.toArray⟩ : ByteArray) = s := mkB_list s
    rw [e, (Lib.containsS_iff _ _).2 hm] at hl2
    cases hl2
  refine ⟨?_, ?_, ?_⟩
  · rw [colsP, List.all_append, hc, Bool.true_and, List.all_eq_true]
    exact fun z hz => (hnew z hz).1
  · rw [colsP, List.nodup_append]
    refine ⟨hn, ?_, fun a ha b hb e => (hnew b hb).2 (by rw [← e]; exact ha)⟩
    rw [List.Nodup, List.pairwise_map]
    refine List.Pairwise.imp (fun {a b} (hab : a < b) e => ?_) ((namesOf_pair _).filter _)
    rw [mkB_inj e] at hab
    exact List.lt_irrefl _ hab
  · intro k hk s hs
    rw [colsP]
    by_cases hm : s ∈ mns xl
    · exact List.mem_append_left _ hm
    · refine List.mem_append_right _ ?_
      rw [← mkB_list s]
      refine List.mem_map_of_mem ?_
      rw [lessF, List.mem_filter]
      refine ⟨?_, ?_⟩
      · rw [colsF, namesOf_mem]
        exact List.mem_map_of_mem (f := fun s : ByteArray => s.data.toList) (List.mem_flatMap.2 ⟨k, hk, hs⟩)
      · have e : (⟨s.data.toList.toArray⟩ : ByteArray) = s := mkB_list s
        rw [e]
        cases hq : Lib.containsS (mns xl) s with
        | false => rfl
        | true => exact absurd ((Lib.containsS_iff _ _).1 hq) hm
/-- A line that means these. -/
def LnOk (ms : List ByteArray) (x : Ln) : Prop := mns (fldsL x.1) = ms ∧ (10 : UInt8) ∉ x.1 ∧ (13 : UInt8) ∉ x.1 ∧ x.1 ≠ [] ∧ (Fin x.2 ∨ x.2 = [])
theorem ln_ok {m : ByteArray} {ms : List ByteArray} {fs : List Ln} {e : Bs} (hm : m.size ≠ 0) (hv : ∀ z ∈ m :: ms, vB z = true) (hw : ∀ x ∈ fs, Wf x.1 x.2) (he : Fin e ∨ e = []) : LnOk (m :: ms) (Lib.join (fieldF (m :: ms) fs) [44], e) := by
  have hf := fldsL_field (ms := m :: ms) (fs := fs) (by simp) hw
  refine ⟨by rw [hf, fieldP_mns], field_clean hw hv 10 (.inl rfl), field_clean hw hv 13 (.inr rfl), fun e0 => ?_, he⟩
  dsimp only at e0
  rw [e0] at hf
  have h2 := congrArg mns hf
  rw [fieldP_mns] at h2
  have h3 : mns (fldsL []) = [⟨#[]⟩] := by decide +kernel
  rw [h3] at h2
  injection h2 with h2 _
  exact hm (by rw [← h2]; rfl)
/-- What a line's first field means. -/
def nmT (x : Bs) : ByteArray := (mns (fldsL x)).headD ⟨#[]⟩
theorem nmT_ok {m : ByteArray} {ms : List ByteArray} {x : Ln} (h : LnOk (m :: ms) x) : nmT x.1 = m := by rw [nmT, h.1]; rfl
theorem put_back {l : Bs} {hd : Rw} {x0 : Ln} {xl : List Ln} {rs : List Rw} {t : Tr} (h : rowsF [] 0 (split l) = (hd :: rs, 0, 0)) (hh : hd.fs = x0 :: xl) (hf : fitsC t = 0) (ha : AscD t) (hlen : (putB hd xl rs t).length ≤ 4000) :
    readF (putB hd xl rs t) = (t, 0, 0) ∧ (split (putB hd xl rs t)).length = 1 + (rs.filter fun r => (getT t [nm r]).2).length + (lessF (namesOf t.names) (rs.map nm)).length := by
  obtain ⟨_, hhf, hrecs, hnod, hwf, hends⟩ := file_ok h hh
  have hat := AscD.asc ha
  have hft : t.fault = 0 ∧ allT frB t = true := by
    unfold fitsC at hf
    split at hf
    · rename_i h1; exact absurd (by exact_mod_cast hf) h1
    · rename_i h1
      split at hf
      · rename_i h2; exact ⟨Decidable.not_not.1 h1, h2⟩
      · cases hf
  have em : mns hd.fs = ⟨x0.2.toArray⟩ :: mns xl := by rw [hh]; rfl
  rw [em] at hhf
  obtain ⟨hk, hcB, hcN⟩ := head_facts hhf
  obtain ⟨c1, c2, c3⟩ := colsP_facts hcB hcN hft.2
  obtain ⟨cols, hcols⟩ : ∃ cols, cols = colsP xl t := ⟨_, rfl⟩
  rw [← hcols] at c1 c2 c3
  have hcv : ∀ z ∈ cols, vB z = true := fun z hz => nB_vB (cB_nB (List.all_eq_true.1 c1 z hz))
  have hval : ∀ (k : Tr), k.Asc → allT fcB k = true → ∀ z ∈ cols.map (valF k), vB z = true := by
    intro k hka hkf z hz
    obtain ⟨c, _, rfl⟩ := List.mem_map.1 hz
    obtain ⟨v1, v2⟩ := valF_is hka hkf c
    cases hc : k.atIs c with
    | true => exact nB_vB (v1 hc).2
    | false => rw [v2 hc]; exact vB_empty
  have hkid : ∀ q, t.atIs q = true → nB q = true ∧ (kidT t q).Asc ∧ allT fcB (kidT t q) = true := by
    intro q hq
    have hm := (mem_eds hat q _).2 ⟨hq, rfl⟩
    have h1 := allT_mem hft.2 _ hm
    rw [frB, Bool.and_eq_true] at h1
    exact ⟨h1.1, AscD.asc (kidT_asc ha), h1.2⟩
  have hget : ∀ q, t.atIs q = true → (getT t [q]).1 = kidT t q := fun q hq => by rw [getT_one, if_pos hq]
  have hget2 : ∀ q, (getT t [q]).2 = t.atIs q := fun q => by
    rw [getT_one]
    cases hq : t.atIs q <;> simp
  obtain ⟨E, hE⟩ : ∃ E, E = endOf (stayL hd xl rs t) := ⟨_, rfl⟩
  have h0 : LnOk (kB :: cols) (sayF ([kB] ++ cols) hd) := ln_ok (by decide) (fun z hz => by
    rcases List.mem_cons.1 hz with rfl | hz
    · decide
    · exact hcv z hz) (hwf hd (by simp)) (hends hd (by simp))
  have hEf : Fin E := by
    rw [hE]
    unfold endOf stayL
    rw [← hcols]
    dsimp only [List.cons_append, List.nil_append]
    split
    · exact .inl rfl
    · rename_i he
      exact h0.2.2.2.2.elim id (fun e => absurd e he)
  have hrow : ∀ (q : ByteArray) (fs : List Ln) (e : Bs), t.atIs q = true → (∀ x ∈ fs, Wf x.1 x.2) → (Fin e ∨ e = []) → LnOk (q :: cols.map (valF (kidT t q))) (Lib.join (fieldF (recF q cols (getT t [q]).1) fs) [44], e) := by
    intro q fs e hq hw he
    obtain ⟨k1, k2, k3⟩ := hkid q hq
    rw [hget q hq]
    exact ln_ok (nB_size k1) (fun z hz => by
      rcases List.mem_cons.1 hz with rfl | hz
      · exact nB_vB k1
      · exact hval _ k2 k3 z hz) hw he
  obtain ⟨new, hnew⟩ : ∃ new, new = lessF (namesOf t.names) (rs.map nm) := ⟨_, rfl⟩
  have hnewm : ∀ q ∈ new, t.atIs (mkB q) = true ∧ mkB q ∉ rs.map nm := by
    intro q hq
    rw [hnew, lessF, List.mem_filter, namesOf_mem] at hq
    obtain ⟨h1, h2⟩ := hq
    obtain ⟨s, hs, rfl⟩ := List.mem_map.1 h1
    rw [mkB_list]
    refine ⟨(mem_atIs hat).2 (by rw [Tr.bn]; exact h1), fun hm => ?_⟩
    have e : (⟨s.data.toList.toArray⟩ : ByteArray) = s := mkB_list s
    rw [e, (Lib.containsS_iff _ _).2 hm] at h2
    cases h2
  -- the records' lines
  obtain ⟨M, hM⟩ : ∃ M, M = rs.filterMap (stayF cols t) ++ new.map (fun q => (freshB cols t q, E)) := ⟨_, rfl⟩
  have hMok : ∀ x ∈ M, ∃ q, t.atIs q = true ∧ LnOk (q :: cols.map (valF (kidT t q))) x := by
    intro x hx
    rw [hM] at hx
    rcases List.mem_append.1 hx with hx | hx
    · obtain ⟨r, hr, he⟩ := List.mem_filterMap.1 hx
      unfold stayF at he
      split at he
      · rename_i hq
        injection he with he
        subst he
        rw [hget2] at hq
        exact ⟨nm r, hq, hrow (nm r) r.fs _ hq (hwf r (by simp [hr])) (hends r (by simp [hr]))⟩
      · cases he
    · obtain ⟨q, hq, rfl⟩ := List.mem_map.1 hx
      exact ⟨mkB q, (hnewm q hq).1, hrow (mkB q) [] E (hnewm q hq).1 (by simp) (.inl hEf)⟩
  have hstn : ∀ (rs' : List Rw), (∀ r ∈ rs', r ∈ rs) → (rs'.filterMap (stayF cols t)).map (fun x => nmT x.1) = (rs'.filter fun r => (getT t [nm r]).2).map nm := by
    intro rs'
    induction rs' with
    | nil => intro _; rfl
    | cons r rs' ih =>
      intro hsub
      have ih := ih (fun z hz => hsub z (by simp [hz]))
      have hr := hsub r (by simp)
      rw [List.filterMap_cons, List.filter_cons]
      cases hq : (getT t [nm r]).2 with
      | false =>
        have e : stayF cols t r = none := by unfold stayF; rw [if_neg (by rw [hq]; decide)]
        rw [e, if_neg (by decide)]
        exact ih
      | true =>
        have e : stayF cols t r = some (sayF (recF (nm r) cols (getT t [nm r]).1) r) := by unfold stayF; rw [if_pos hq]
        rw [e, if_pos rfl, List.map_cons, List.map_cons, ih]
        rw [hget2] at hq
        have := nmT_ok (hrow (nm r) r.fs r.en.data.toList hq (hwf r (by simp [hr])) (hends r (by simp [hr])))
        congr 1
  have hMn : M.map (fun x => nmT x.1) = (rs.filter fun r => (getT t [nm r]).2).map nm ++ new.map mkB := by
    rw [hM, List.map_append, hstn rs (fun _ h => h), List.map_map]
    congr 1
    refine List.map_congr_left fun q hq => ?_
    exact nmT_ok (hrow (mkB q) [] E (hnewm q hq).1 (by simp) (.inl hEf))
  have hins : insert (stayL hd xl rs t) (stayL hd xl rs t).length ((lessF (namesOf t.names) (rs.map nm)).map (freshB (colsP xl t) t)) = ended E (sayF ([kB] ++ cols) hd :: M) := by
    unfold Li.insert
    rw [List.take_length, List.drop_length, List.append_nil, ← hE, ← hcols, ← hnew, List.map_map, hM]
    unfold stayL
    rw [← hcols]
    rfl
  have hp : putB hd xl rs t = join (ended E (sayF ([kB] ++ cols) hd :: M)) := by rw [putB, hins]
  have hall : ∀ x ∈ sayF ([kB] ++ cols) hd :: M, (10 : UInt8) ∉ x.1 ∧ (13 : UInt8) ∉ x.1 ∧ x.1 ≠ [] ∧ (Fin x.2 ∨ x.2 = []) := by
    intro x hx
    rcases List.mem_cons.1 hx with rfl | hx
    · exact h0.2
    · obtain ⟨q, _, hq⟩ := hMok x hx
      exact hq.2
  have hgood := good_ended hEf _ (fun x hx => ⟨(hall x hx).1, (hall x hx).2.2.1, (hall x hx).2.2.2⟩)
  have htx := ended_texts E (sayF ([kB] ++ cols) hd :: M)
  have hsp : split (putB hd xl rs t) = ended E (sayF ([kB] ++ cols) hd :: M) := by
    rw [hp]
    refine split_join _ hgood fun x hx => ?_
    have hm : x.1 ∈ (ended E (sayF ([kB] ++ cols) hd :: M)).map (·.1) := List.mem_map_of_mem hx
    rw [htx] at hm
    obtain ⟨z, hz, e⟩ := List.mem_map.1 hm
    rw [← e]
    exact (hall z hz).2.1
  obtain ⟨L, hL⟩ : ∃ L, L = ended E (sayF ([kB] ++ cols) hd :: M) := ⟨_, rfl⟩
  rw [← hL] at hsp htx
  cases L with
  | nil => cases htx
  | cons y0 ys =>
    rw [List.map_cons, List.map_cons] at htx
    injection htx with ht0 hts
    have hys : ∀ y ∈ ys, ∃ q, t.atIs q = true ∧ mns (fldsL y.1) = q :: cols.map (valF (kidT t q)) := by
      intro y hy
      have hm : y.1 ∈ ys.map (·.1) := List.mem_map_of_mem hy
      rw [hts] at hm
      obtain ⟨z, hz, e⟩ := List.mem_map.1 hm
      obtain ⟨q, hq, hok⟩ := hMok z hz
      exact ⟨q, hq, by rw [← e]; exact hok.1⟩
    have hnames : (ys.map fun y => nm (rowF y)) = (rs.filter fun r => (getT t [nm r]).2).map nm ++ new.map mkB := by
      rw [← hMn]
      have e1 : (ys.map fun y => nm (rowF y)) = (ys.map (·.1)).map nmT := by rw [List.map_map]; rfl
      rw [e1, hts, List.map_map]
      rfl
    have hy0 : mns (rowF y0).fs = kB :: cols := by
      show mns (fldsL y0.1) = _
      rw [ht0]
      exact h0.1
    have hnd : (ys.map fun y => (nm (rowF y)).data.toList).Nodup := by
      have e1 : (ys.map fun y => (nm (rowF y)).data.toList) = (ys.map fun y => nm (rowF y)).map (·.data.toList) := by rw [List.map_map]; rfl
      rw [e1, hnames]
      refine nodup_data ?_
      rw [List.nodup_append]
      refine ⟨?_, ?_, ?_⟩
      · have hsub : ((rs.filter fun r => (getT t [nm r]).2).map nm).Sublist (rs.map nm) := (List.filter_sublist).map _
        refine List.Pairwise.sublist hsub ?_
        have hn := hnod
        have e2 : (rs.map fun r => (nm r).data.toList) = (rs.map nm).map (·.data.toList) := by rw [List.map_map]; rfl
        rw [e2, List.Nodup, List.pairwise_map] at hn
        exact hn.imp fun hab e => hab (by rw [e])
      · rw [List.Nodup, List.pairwise_map, hnew]
        refine List.Pairwise.imp (fun {a b} (hab : a < b) e => ?_) ((namesOf_pair _).filter _)
        rw [mkB_inj e] at hab
        exact List.lt_irrefl _ hab
      · intro a ha b hb e
        obtain ⟨q, hq, rfl⟩ := List.mem_map.1 hb
        refine (hnewm q hq).2 ?_
        rw [← e]
        exact (List.Sublist.map nm (List.filter_sublist)).subset ha
    have hlen0 : ∀ (x : Ln), (rowF x).fs.length = (mns (rowF x).fs).length := fun x => (mns_len _).symm
    have hrun := rowsF_all y0 ys (by intro e; rw [e] at hy0; cases hy0) (by
        rw [hy0, headF, if_neg (by decide +kernel), if_neg (by rw [c1]; decide), if_neg (by rw [nodup_dup _ _ c2 (fun _ _ h => by cases h)]; decide)]) (fun y hy => by
        obtain ⟨q, hq, hm⟩ := hys y hy
        have hm' : mns (rowF y).fs = q :: cols.map (valF (kidT t q)) := hm
        obtain ⟨k1, k2, k3⟩ := hkid q hq
        have hnq : nm (rowF y) = q := by rw [nm, hm']; rfl
        refine ⟨fun e => ?_, ?_, by rw [hnq]; exact k1, ?_⟩
        · rw [e] at hm'; cases hm'
        · rw [hlen0, hlen0, hm', hy0]; simp
        · rw [hm', List.all_eq_true]
          intro z hz
          rcases List.mem_cons.1 hz with rfl | hz
          · exact nB_vB k1
          · exact hval _ k2 k3 z hz) hnd
    have hcr : colsR (rowF y0) = cols := by
      have e : mns (rowF y0).fs.tail = (mns (rowF y0).fs).tail := by cases (rowF y0).fs <;> rfl
      rw [colsR, e, hy0]
      rfl
    have htree : treeR (rowF y0 :: ys.map rowF) = t := by
      rw [treeR, hcr]
      refine rows_back ha hft.2 (nodup_data c2) c3 (fun r hr => ?_) (by rw [List.map_map]; exact hnd) (fun q hq => ?_)
      · obtain ⟨y, hy, rfl⟩ := List.mem_map.1 hr
        obtain ⟨q, hq, hm⟩ := hys y hy
        have hm' : mns (rowF y).fs = q :: cols.map (valF (kidT t q)) := hm
        have hnq : nm (rowF y) = q := by rw [nm, hm']; rfl
        have e : mns (rowF y).fs.tail = (mns (rowF y).fs).tail := by cases (rowF y).fs <;> rfl
        rw [hnq, e, hm']
        exact ⟨hq, rfl⟩
      · have hin : q ∈ (rs.filter fun r => (getT t [nm r]).2).map nm ++ new.map mkB := by
          by_cases hm : q ∈ rs.map nm
          · obtain ⟨r, hr, e⟩ := List.mem_map.1 hm
            refine List.mem_append_left _ (List.mem_map.2 ⟨r, List.mem_filter.2 ⟨hr, ?_⟩, e⟩)
            rw [hget2, e, hq]
          · refine List.mem_append_right _ ?_
            rw [← mkB_list q]
            refine List.mem_map_of_mem ?_
            rw [hnew, lessF, List.mem_filter, namesOf_mem]
            refine ⟨?_, ?_⟩
            · have := (mem_atIs hat).1 hq
              exact this
            · have e : (⟨q.data.toList.toArray⟩ : ByteArray) = q := mkB_list q
              rw [e]
              cases hc : Lib.containsS (rs.map nm) q with
              | false => rfl
              | true => exact absurd ((Lib.containsS_iff _ _).1 hc) hm
        rw [← hnames] at hin
        obtain ⟨y, hy, e⟩ := List.mem_map.1 hin
        exact ⟨rowF y, List.mem_map_of_mem hy, e⟩
    refine ⟨?_, ?_⟩
    · unfold readF
      rw [if_neg (by omega), hsp, hrun, if_neg (by simp)]
      dsimp only
      rw [htree, if_neg (fun e => e hft.1)]
    · rw [hsp, List.length_cons]
      have hl1 : ys.length = M.length := by
        have := congrArg List.length hts
        simpa using this
      have hl2 : M.length = ((rs.filter fun r => (getT t [nm r]).2).map nm ++ new.map mkB).length := by rw [← hMn, List.length_map]
      rw [hl1, hl2, List.length_append, List.length_map, List.length_map, hnew]
      omega
end Go.Proofs.YtlcbhooiinaalaaGreatDoor.Cv
namespace Go.Proofs.YtlcbhooiinaalaaGreatDoor.Cv
open Go.RowKit Go.Sort Go.Proofs.YtlcbhooiinaalaaGreatDoor.Jd Go.Proofs.YtlcbhooiinaalaaGreatDoor.Li Go.Proofs.YtlcbhooiinaalaaGreatDoor.Cl Go.Proofs.YtlcbhooiinaalaaGreatDoor.Pt
set_option maxRecDepth 100000

/-- What a tree without a fault is. -/
theorem walk_asc : ∀ (t : Tr) (d n : Nat) (p : Option ByteArray), (walkC d t p n).2 = 0 → AscD t ∧ (∀ q, p = some q → ∀ x ∈ t.bn, q.data.toList < x) ∧ (walkC d t p n).1 = n + t.size ∧ (n ≤ 400 → n + t.size ≤ 400)
  | .nil, d, n, p, _ => ⟨trivial, (fun _ _ x hx => by cases hx), rfl, fun h => h⟩
  | .cons s k r, d, n, p, h => by
    rw [walkC] at h ⊢
    by_cases c1 : 400 < n + 1
    · rw [if_pos c1] at h; cases h
    rw [if_neg c1] at h ⊢
    by_cases c2 : 12 < d
    · rw [if_pos c2] at h; cases h
    rw [if_neg c2] at h ⊢
    by_cases c3 : 80 < s.size
    · rw [if_pos c3] at h; cases h
    rw [if_neg c3] at h ⊢
    by_cases c4 : notAfter p s = true
    · rw [if_pos c4] at h; cases h
    rw [if_neg c4] at h ⊢
    by_cases c5 : (walkC (d + 1) k none (n + 1)).2 = 0
    · rw [if_pos c5] at h ⊢
      obtain ⟨a1, _, a3, a4⟩ := walk_asc k (d + 1) (n + 1) none c5
      obtain ⟨b1, b2, b3, b4⟩ := walk_asc r d _ (some s) h
      have hs := b2 s rfl
      have hasc : (Tr.cons s k r).Asc := by
        show ((Tr.cons s k r).bn).Pairwise (· < ·)
        rw [bn_cons, List.pairwise_cons]
        exact ⟨hs, AscD.asc b1⟩
      refine ⟨⟨hasc, a1, b1⟩, fun q hq x hx => ?_, ?_, fun _ => ?_⟩
      · subst hq
        have hqs : q.data.toList < s.data.toList := (less_iff q s).1 (by simpa [notAfter] using c4)
        rw [bn_cons] at hx
        rcases List.mem_cons.1 hx with rfl | hx
        · exact hqs
        · exact List.lt_trans hqs (hs x hx)
      · rw [b3, a3, Tr.size]; omega
      · have := b4 (by rw [a3]; exact a4 (by omega))
        rw [a3] at this
        rw [Tr.size]; omega
    · rw [if_neg c5] at h
      exact absurd h c5
theorem fault_asc {t : Tr} (h : t.fault = 0) : AscD t ∧ t.size ≤ 400 := by
  obtain ⟨a, _, _, b⟩ := walk_asc t 1 0 none h
  exact ⟨a, by have := b (by omega); omega⟩
theorem fits_fault {t : Tr} (h : fitsC t = 0) : t.fault = 0 ∧ allT frB t = true := by
  unfold fitsC at h
  split at h
  · rename_i h1; exact absurd (by exact_mod_cast h) h1
  · rename_i h1
    split at h
    · rename_i h2; exact ⟨Decidable.not_not.1 h1, h2⟩
    · cases h
theorem flds_raws : ∀ (F : Nat) (l : Bs) (fs : List Ln), fldsR F l = some fs → ∀ x ∈ fs, x.1.length ≤ l.length
  | 0, _, _, h, _, _ => by cases h
  | F + 1, l, fs, h, x, hx => by
    rw [fldsR] at h
    cases ho : oneF l with
    | none => rw [ho] at h; cases h
    | some p =>
      obtain ⟨v, n⟩ := p
      rw [ho] at h
      dsimp only at h
      split at h
      · injection h with h
        subst h
        obtain rfl := List.mem_singleton.1 hx
        rw [List.length_take]; omega
      · cases hq : fldsR F (l.drop (n + 1)) with
        | none => rw [hq] at h; cases h
        | some q =>
          rw [hq] at h
          injection h with h
          subst h
          rcases List.mem_cons.1 hx with rfl | hx
          · rw [List.length_take]; omega
          · have := flds_raws F _ q hq x hx
            rw [List.length_drop] at this
            omega
theorem fldsL_raws (l : Bs) : ∀ x ∈ fldsL l, x.1.length ≤ l.length := by
  intro x hx
  rw [fldsL, ← fldsR_eq] at hx
  cases h : fldsR (l.length + 1) l with
  | none => rw [h] at hx; cases hx
  | some fs => rw [h] at hx; exact flds_raws _ _ _ h x hx
theorem vB_tx {m : ByteArray} (h : vB m = true) : Tx m := by
  rw [vB, Bool.and_eq_true, decide_eq_true_eq] at h
  exact ⟨by omega, pl_all m⟩
theorem val_any {k : Tr} (ha : k.Asc) (hf : allT fcB k = true) (c : ByteArray) : vB (valF k c) = true := by
  obtain ⟨v1, v2⟩ := valF_is ha hf c
  cases hc : k.atIs c with
  | true => exact nB_vB (v1 hc).2
  | false => rw [v2 hc]; exact vB_empty
/-- A tree that fits may be put into a file that was read. -/
theorem put_ok {l : Bs} {hd : Rw} {x0 : Ln} {xl : List Ln} {rs : List Rw} {t : Tr} (hl : l.length ≤ 4000) (h : rowsF [] 0 (split l) = (hd :: rs, 0, 0)) (hh : hd.fs = x0 :: xl) (hf : fitsC t = 0) : PutOk hd x0 xl rs t := by
  obtain ⟨h1, h2⟩ := fits_fault hf
  obtain ⟨ha, hz⟩ := fault_asc h1
  have hat := AscD.asc ha
  have hfo := file_ok h hh
  have hi := rowsF_inv _ _ _ _ h
  rw [List.nil_append] at hi
  have hsl : (split l).length ≤ 4000 := Nat.le_trans (split_le l) hl
  have hrl : rs.length + 1 = (split l).length := by
    have := congrArg List.length hi
    simpa using this
  have hrows : ∀ r ∈ hd :: rs, ∃ x ∈ split l, r = rowF x := fun r hr => by
    rw [hi] at hr
    obtain ⟨x, hx, e⟩ := List.mem_map.1 hr
    exact ⟨x, hx, e.symm⟩
  have hxl : xl.length ≤ 4001 := by
    obtain ⟨x, hx, e⟩ := hrows hd (by simp)
    have h3 := fldsL_len x.1
    have h4 := split_lens l x hx
    have h5 : hd.fs = fldsL x.1 := by rw [e]; rfl
    have h6 := congrArg List.length hh
    rw [h5, List.length_cons] at h6
    omega
  have em : mns hd.fs = ⟨x0.2.toArray⟩ :: mns xl := by rw [hh]; rfl
  have hhf := hfo.hf
  rw [em] at hhf
  obtain ⟨_, hcB, hcN⟩ := head_facts hhf
  obtain ⟨c1, c2, _⟩ := colsP_facts (t := t) hcB hcN h2
  have hkid : ∀ q, t.atIs q = true → nB q = true ∧ (kidT t q).Asc ∧ allT fcB (kidT t q) = true := by
    intro q hq
    have hm := (mem_eds hat q _).2 ⟨hq, rfl⟩
    have h1 := allT_mem h2 _ hm
    rw [frB, Bool.and_eq_true] at h1
    exact ⟨h1.1, AscD.asc (kidT_asc ha), h1.2⟩
  have hget : ∀ q, (getT t [q]).1 = if t.atIs q = true then kidT t q else .nil := fun q => by rw [getT_one]; split <;> rfl
  refine ⟨hh, ⟨by omega, by omega, by omega⟩, fun r hr => ?_, ha, fun name hn => ?_, fun name c => ?_, ⟨fun r hr => ?_, fun s hs => ?_⟩, fun m hm => vB_tx (nB_vB (cB_nB (List.all_eq_true.1 c1 m hm))), ?_⟩
  · refine ⟨?_, fun x hx => ?_⟩
    · rcases List.mem_cons.1 hr with rfl | hr
      · rw [hh]; rfl
      · rw [(hfo.recs r hr).2.1, hh]; rfl
    · obtain ⟨y, hy, e⟩ := hrows r hr
      rw [e] at hx
      exact Nat.le_trans (fldsL_raws y.1 x hx) (Nat.le_trans (split_lens l y hy) hl)
  · rw [getT_one] at hn
    have hq : t.atIs name = true := by
      split at hn
      · assumption
      · cases hn
    obtain ⟨k1, k2, k3⟩ := hkid name hq
    intro c hc
    rw [hget, if_pos hq] at hc ⊢
    rw [getT_one] at hc ⊢
    split at hc
    · rename_i hc2
      rw [if_pos hc2, ((valF_is k2 k3 c).1 hc2).1]
      exact Nat.one_pos
    · cases hc
  · rw [hget]
    by_cases hq : t.atIs name = true
    · rw [if_pos hq]
      obtain ⟨k1, k2, k3⟩ := hkid name hq
      exact vB_tx (val_any k2 k3 c)
    · rw [if_neg hq]
      exact vB_tx (val_any nil_asc rfl c)
  · exact vB_tx (nB_vB (hfo.recs r hr).2.2.1)
  · obtain ⟨k, hk⟩ := names_mem hs
    have h3 := allT_mem h2 _ hk
    rw [frB, Bool.and_eq_true] at h3
    exact vB_tx (nB_vB h3.1)
  · rw [colsP, List.length_append, mns_len, List.length_map]
    have h3 : (lessF (colsF t) (mns xl)).length ≤ (colsF t).length := List.length_filter_le _ _
    have h4 := namesOf_le ((kidsL t).flatMap Tr.names)
    have h5 := names_few t
    unfold colsF at h3 ⊢
    omega
theorem join_le : ∀ (fs : List Bs) (K : Nat), (∀ x ∈ fs, x.length ≤ K) → (Lib.join fs [44]).length ≤ fs.length * (K + 1)
  | [], _, _ => by simp [Lib.join, List.intercalate]
  | [x], K, h => by
    have := h x (by simp)
    rw [Lib.join_one]
    simp only [List.length_cons, List.length_nil]
    omega
  | x :: y :: r, K, h => by
    have ej : Lib.join (x :: y :: r) [44] = x ++ 44 :: Lib.join (y :: r) [44] := by simp [Lib.join, List.intercalate]
    have h1 := h x (by simp)
    have ih := join_le (y :: r) K (fun z hz => h z (by simp [hz]))
    rw [ej, List.length_append, List.length_cons, List.length_cons (a := x), Nat.add_mul]
    omega
theorem fieldF_le2 : ∀ (ms : List ByteArray) (fs : List Ln), (∀ m ∈ ms, m.size ≤ 4000) → (∀ x ∈ fs, x.1.length ≤ 4000) → ∀ x ∈ fieldF ms fs, x.length ≤ 12004
  | [], _, _, _, x, hx => by simp [fieldF] at hx
  | m :: ms, [], hm, hf, x, hx => by
    rw [fieldF] at hx
    rcases List.mem_cons.1 hx with rfl | hx
    · have h1 := qF_len m.data.toList
      have h2 := hm m (by simp)
      have h3 : m.data.toList.length = m.size := rfl
      omega
    · exact fieldF_le2 ms [] (fun z hz => hm z (by simp [hz])) hf x hx
  | m :: ms, y :: ys, hm, hf, x, hx => by
    rw [fieldF] at hx
    rcases List.mem_cons.1 hx with rfl | hx
    · split
      · have := hf y (by simp); omega
      · have h1 := qF_len m.data.toList
        have h2 := hm m (by simp)
        have h3 : m.data.toList.length = m.size := rfl
        omega
    · exact fieldF_le2 ms ys (fun z hz => hm z (by simp [hz])) (fun z hz => hf z (by simp [hz])) x hx
theorem text_le {m : ByteArray} {cols : List ByteArray} {fs : List Ln} (hm : ∀ z ∈ m :: cols, z.size ≤ 4000) (hf : ∀ x ∈ fs, x.1.length ≤ 4000) (hc : cols.length ≤ 4500) : (Lib.join (fieldF (m :: cols) fs) [44]).length ≤ 60000000 := by
  have h := join_le _ _ (fieldF_le2 (m :: cols) fs hm hf)
  rw [fieldF_len, List.length_cons] at h
  omega
theorem joinL_le : ∀ (ls : List Ln), (∀ x ∈ ls, x.1.length ≤ 60000000 ∧ x.2.length ≤ 2) → (join ls).length ≤ ls.length * 60000002
  | [], _ => by simp [join]
  | x :: r, h => by
    have h1 := h x (by simp)
    have ih := joinL_le r (fun z hz => h z (by simp [hz]))
    rw [join, List.length_append, List.length_append, List.length_cons]
    omega
end Go.Proofs.YtlcbhooiinaalaaGreatDoor.Cv
namespace Go.Proofs.YtlcbhooiinaalaaGreatDoor.Cv
open Go.RowKit Go.Proofs.YtlcbhooiinaalaaGreatDoor.Jd Go.Proofs.YtlcbhooiinaalaaGreatDoor.Li Go.Proofs.YtlcbhooiinaalaaGreatDoor.Pt
set_option maxRecDepth 100000

theorem seesR_more {w : World} {B B' n : Nat} {A : Option Addr} {rs : List Rw} (h : SeesR w B A n rs) (hB : B ≤ B') : SeesR w B' A n rs :=
  ⟨h.len, fun k r hr => by
    obtain ⟨b, o, Af, nf, cf, h1, h2, h3, h4, h5, h6⟩ := h.at_ k r hr
    exact ⟨b, o, Af, nf, cf, h1, Nat.lt_of_lt_of_le h2 hB, h3, h4, h5.more hB, h6⟩⟩

set_option maxHeartbeats 4000000 in
theorem csvPut_any (s : ByteArray) (hd : Rw) (x0 : Ln) (xl : List Ln) (rs : List Rw) (T t : Tr) (A : Option Addr) (n c : Nat) (w : World)
    (hp : ∀ x ∈ split s.data.toList, ∀ z ∈ mns (fldsL x.1), Pl z) (hr : readF s.data.toList = (T, 0, 0)) (hrs : (rowsF [] 0 (split s.data.toList)).1 = hd :: rs)
    (hO : PutOk hd x0 xl rs t) (hF : fitsC t = 0) (hnm : Tr.Nm t) (hpl : PlT t) (hJ : (putB hd xl rs t).length ≤ 4000)
    (ht : Holds w w.heap.size A n t) (hn : n ≤ c) (hc : c ≤ maxLen) (hG : Gl w) :
    Calls Tryz.prog 20 #[.slice A n c, .string s] w fun e w' => e = .returned (.tuple #[.string (mkB (putB hd xl rs t)), .int .i64 0]) ∧ Below w.heap.size w w' := by
  have hR := read_any s w hp hG
  rw [hr, hrs] at hR
  have HR := Lib.hid hR
  have hFi := fun (W : World) (hW : Below w.heap.size w W) => fits_any t A n c W ((ht.below hW).more hW.size) hn hc (by have := hO.len; omega) hnm hpl
  rw [hF] at hFi
  have HFi := Lib.hid hFi
  have HPu := Lib.hid (fun (W : World) (hW : Below w.heap.size w W) (Af Ar At : Option Addr) (nf cf nr cr nt ct : Nat) (hf : SeesL W W.heap.size Af nf hd.fs) (hr : SeesR W W.heap.size Ar nr rs) =>
    put_any hd x0 xl rs t Af Ar At A nf cf nr cr nt ct n c W hO hf hr ((ht.below hW).more hW.size) (hG.below hW) (by omega))
  have hj : ((mkB (putB hd xl rs t)).size : Int) ≤ 4000 := by
    have e : (mkB (putB hd xl rs t)).size = (putB hd xl rs t).length := rfl
    omega
  obtain ⟨P, hP⟩ : ∃ P, P = mkB (putB hd xl rs t) := ⟨_, rfl⟩
  have HPu2 : Hid (∀ (W : World) (hW : Below w.heap.size w W) (Af Ar At : Option Addr) (nf cf nr cr nt ct : Nat) (hf : SeesL W W.heap.size Af nf hd.fs) (hr : SeesR W W.heap.size Ar nr rs),
      Calls Tryz.prog 41 #[.agg #[.slice Af nf cf, .string hd.en, .slice Ar nr cr, .slice At nt ct], .slice A n c] W fun e w' => e = .returned (.string P) ∧ Below W.heap.size W w') := by
    rw [hP]; exact HPu
  rw [← hP] at hj ⊢
  clear hR hp hr hrs hO hF hnm hpl hJ ht hn hc hG hFi HPu hP
  go_enter Tryz.func20, Tryz.ntmps20
  go_wp2_with fail
  (with_reducible refine HR.out.mono ?_)
  rintro e w1 ⟨Ah, Ar, At, nh, ch, nr, cr, ct, ee, rfl, hrd, hb⟩
  obtain ⟨h, t', e1, e2, _, _, _, _, hs1, hs2⟩ := hrd.rows rfl
  injection e1 with e1 e3
  subst e1; subst e3; subst e2
  have hs1' := hs1.sees (B := w1.heap.size) (fun b hb => hb.2)
  have hs2' := hs2.sees (B := w1.heap.size) (fun b hb => hb.2)
  have HS1 := Lib.hid hs1'
  have HS2 := Lib.hid hs2'
  have HB := Lib.hid hb
  clear hs1 hs2 hs1' hs2' hrd hb
  dsimp only
  have hb2 : ∀ o : Obj, Below w.heap.size w (w1.alloc o) := fun o => HB.out.alloc HB.out.size o
  have HB2 := Lib.hid hb2
  clear hb2
  go_wp2_with fail
  (with_reducible refine (HFi.out _ (HB2.out _)).mono ?_)
  rintro e w2 ⟨rfl, hb2⟩
  have hg2 := (hb2.block w1.heap.size (by simp)).trans (heap_alloc_new w1 _)
  have c0 := cell_of_row _ w1.heap.size 0 _ _ _ hg2
  have c1 := cell_of_row _ w1.heap.size 1 _ _ _ hg2
  have c2 := cell_of_row _ w1.heap.size 2 _ _ _ hg2
  have c3 := cell_of_row _ w1.heap.size 3 _ _ _ hg2
  have hw12 : Below w1.heap.size w1 w2 := ((Below.refl w1.heap.size w1).alloc (Nat.le_refl _) _).trans (hb2.mono (by simp))
  have hq2 := HB.out.trans (hw12.mono HB.out.size)
  have HP := Lib.hid (HPu2.out w2 hq2 Ah Ar At nh ch nr cr T.len ct ((HS1.out.below hw12).more hw12.size) (seesR_more (HS2.out.below hw12) hw12.size))
  have Hq2 := Lib.hid hq2
  clear hb2 hg2 hw12 hq2
  go_wp2_with fail
  (with_reducible refine HP.out.mono ?_)
  rintro e w3 ⟨rfl, hb3⟩
  go_wp2_with fail
  refine bodyPost_ret (v := .tuple #[.string P, .int .i64 0]) (by simp [results, Tryz.results20, go_sem]) rfl ?_
  exact ⟨rfl, Hq2.out.trans (hb3.mono Hq2.out.size)⟩
end Go.Proofs.YtlcbhooiinaalaaGreatDoor.Cv
namespace Go.Proofs.YtlcbhooiinaalaaGreatDoor.Cv
open Go.RowKit Go.Sort Go.Proofs.YtlcbhooiinaalaaGreatDoor.Jd Go.Proofs.YtlcbhooiinaalaaGreatDoor.Li Go.Proofs.YtlcbhooiinaalaaGreatDoor.Cl Go.Proofs.YtlcbhooiinaalaaGreatDoor.Pt
set_option maxRecDepth 100000

theorem joinB_le (B : Nat) : ∀ (ls : List Ln), (∀ x ∈ ls, x.1.length ≤ B ∧ x.2.length ≤ 2) → (join ls).length ≤ ls.length * (B + 2)
  | [], _ => by simp [join]
  | x :: r, h => by
    have h1 := h x (by simp)
    have ih := joinB_le B r (fun z hz => h z (by simp [hz]))
    rw [join, List.length_append, List.length_append, List.length_cons, Nat.add_mul]
    omega
theorem endedB {B : Nat} {E : Bs} (hE : E.length ≤ 2) : ∀ (ls : List Ln), (∀ x ∈ ls, x.1.length ≤ B ∧ x.2.length ≤ 2) → ∀ x ∈ ended E ls, x.1.length ≤ B ∧ x.2.length ≤ 2
  | [], _, _, h => by cases h
  | [y], hh, x, h => hh x h
  | y :: z :: r, hh, x, h => by
    rw [ended] at h
    rcases List.mem_cons.1 h with rfl | h
    · refine ⟨(hh y (by simp)).1, ?_⟩
      dsimp only
      split
      · exact hE
      · exact (hh y (by simp)).2
    · exact endedB hE (z :: r) (fun u hu => hh u (by simp [hu])) x h
theorem endB {ls : List Ln} (h : ∀ x ∈ ls, x.2.length ≤ 2) : (endOf ls).length ≤ 2 := by
  cases ls with
  | nil => simp [endOf]
  | cons x r =>
    have h1 := h x (by simp)
    show (if x.2 = [] then [10] else x.2).length ≤ 2
    split
    · simp
    · exact h1
theorem text_le2 {ms : List ByteArray} {fs : List Ln} (hm : ∀ z ∈ ms, z.size ≤ 4000) (hf : ∀ x ∈ fs, x.1.length ≤ 4000) (hc : ms.length ≤ 90001) : (Lib.join (fieldF ms fs) [44]).length ≤ 1080462005 := by
  have h := join_le _ _ (fieldF_le ms fs hm hf)
  rw [fieldF_len] at h
  omega
theorem putB_le {hd : Rw} {x0 : Ln} {xl : List Ln} {rs : List Rw} {t : Tr} (hO : PutOk hd x0 xl rs t) (he : ∀ r ∈ hd :: rs, r.en.data.toList.length ≤ 2) : (putB hd xl rs t).length ≤ 140737488355328 := by
  have hcol : ∀ m ∈ colsP xl t, m.size ≤ 4000 := fun m hm => (hO.cols m hm).1
  have hrow : ∀ (q : ByteArray) (fs : List Ln), q.size ≤ 4000 → (∀ x ∈ fs, x.1.length ≤ 4000) → (Lib.join (fieldF (recF q (colsP xl t) (getT t [q]).1) fs) [44]).length ≤ 1080462005 := by
    intro q fs hq hf
    refine text_le2 (fun z hz => ?_) hf ?_
    · rcases List.mem_cons.1 hz with rfl | hz
      · exact hq
      · obtain ⟨c, _, rfl⟩ := List.mem_map.1 hz
        exact (hO.vals q c).1
    · have := hO.few
      rw [recF, List.length_cons, List.length_map]
      omega
  have hst : ∀ x ∈ stayL hd xl rs t, x.1.length ≤ 1080462005 ∧ x.2.length ≤ 2 := by
    intro x hx
    unfold stayL at hx
    rcases List.mem_append.1 hx with hx | hx
    · obtain rfl := List.mem_singleton.1 hx
      refine ⟨text_le2 (fun z hz => ?_) (hO.fs hd (by simp)).2 ?_, he hd (by simp)⟩
      · rcases List.mem_append.1 hz with hz | hz
        · obtain rfl := List.mem_singleton.1 hz
          decide
        · exact hcol z hz
      · have := hO.few
        rw [List.length_append]
        simp only [List.length_cons, List.length_nil]
        omega
    · obtain ⟨r, hr, e⟩ := List.mem_filterMap.1 hx
      unfold stayF at e
      split at e
      · injection e with e
        subst e
        exact ⟨hrow (nm r) r.fs (hO.nms.1 r hr).1 (hO.fs r (by simp [hr])).2, he r (by simp [hr])⟩
      · cases e
  have hnew : ∀ l ∈ lessF (namesOf t.names) (rs.map nm), (freshB (colsP xl t) t l).length ≤ 1080462005 := by
    intro l hl
    rw [lessF, List.mem_filter, namesOf_mem] at hl
    obtain ⟨s, hs, rfl⟩ := List.mem_map.1 hl.1
    have h2 := (hO.nms.2 s hs).1
    exact hrow (mkB s.data.toList) [] h2 (fun x hx => by cases hx)
  have hE := endB (fun x hx => (hst x hx).2)
  rw [putB, Li.insert]
  refine Nat.le_trans (joinB_le 1080462005 _ (endedB hE _ (fun x hx => ?_))) ?_
  · rcases List.mem_append.1 hx with hx | hx
    · rcases List.mem_append.1 hx with hx | hx
      · exact hst x (List.mem_of_mem_take hx)
      · obtain ⟨u, hu, rfl⟩ := List.mem_map.1 hx
        obtain ⟨l, hl, rfl⟩ := List.mem_map.1 hu
        exact ⟨hnew l hl, hE⟩
    · exact hst x (List.mem_of_mem_drop hx)
  · rw [ended_length, List.take_length, List.drop_length, List.append_nil, List.length_append, List.length_map, List.length_map]
    have h1 : (stayL hd xl rs t).length ≤ 1 + rs.length := by
      unfold stayL
      rw [List.length_append]
      have := List.length_filterMap_le (stayF (colsP xl t) t) rs
      simp only [List.length_cons, List.length_nil]
      omega
    have h2 : (lessF (namesOf t.names) (rs.map nm)).length ≤ (namesOf t.names).length := List.length_filter_le _ _
    have h3 := namesOf_le t.names
    have h4 := names_length t
    have h5 := t.len_size
    have h6 := hO.len
    omega
/-- What was read, of a file that is sound. -/
theorem rowsF_line : ∀ (ls : List Ln) (ahead : List Rw) (i : Nat), (rowsF ahead i ls).2.2 = 0 → (rowsF ahead i ls).2.1 = 0
  | [], _, _, _ => rfl
  | x :: r, ahead, i, h => by
    rw [rowsF] at h ⊢
    split at h
    · rename_i h1; exact absurd h h1
    · rename_i h1
      rw [if_neg h1]
      exact rowsF_line r _ _ h
theorem read_inv {l : Bs} (h : (readF l).2.2 = 0) : l.length ≤ 4000 ∧ (readF l).2.1 = 0 ∧ ∃ hd x0 xl rs, rowsF [] 0 (split l) = (hd :: rs, 0, 0) ∧ hd.fs = x0 :: xl := by
  obtain ⟨R, hR⟩ : ∃ R, R = readF l := ⟨_, rfl⟩
  rw [← hR] at h ⊢
  unfold readF at hR
  by_cases h1 : 4000 < l.length
  · rw [if_pos h1] at hR; subst hR; cases h
  rw [if_neg h1] at hR
  obtain ⟨q, hq⟩ : ∃ q, q = rowsF [] 0 (split l) := ⟨_, rfl⟩
  rw [← hq] at hR
  obtain ⟨rows, i, e⟩ := q
  by_cases h2 : e ≠ 0
  · rw [if_pos h2] at hR; subst hR; exact absurd h h2
  rw [if_neg h2] at hR
  obtain rfl : e = 0 := Decidable.not_not.1 h2
  have hi : i = 0 := by
    have := rowsF_line (split l) [] 0 (by rw [← hq])
    rw [← hq] at this
    exact this
  subst hi
  cases rows with
  | nil => subst hR; cases h
  | cons hd rs =>
    dsimp only at hR
    split at hR
    · subst hR
      rename_i h3
      have h' : (((treeR (hd :: rs)).fault : Nat) : Int) = 0 := h
      exact absurd (by exact_mod_cast h') h3
    · subst hR
      refine ⟨by omega, rfl, hd, ?_⟩
      have hinv := rowsF_inv _ _ _ _ hq.symm
      rw [List.nil_append] at hinv
      cases hs : split l with
      | nil => rw [hs] at hinv; cases hinv
      | cons y ys =>
        rw [hs] at hinv hq
        injection hinv with e1 e2
        rw [rowsF] at hq
        split at hq
        · injection hq with _ hq; injection hq with hq _; omega
        · rename_i h4
          have h5 : faultF [] (rowF y) = 0 := Decidable.not_not.1 h4
          unfold faultF at h5
          split at h5
          · cases h5
          · rename_i h6
            rw [← e1] at h6
            cases hf : hd.fs with
            | nil => exact absurd hf h6
            | cons x0 xl => exact ⟨x0, xl, rs, by rw [← hs]; rw [hs, rowsF, if_neg h4]; exact hq.symm, rfl⟩
/-- What a tree, put into a file, makes. -/
def putR (t : Tr) (l : Bs) : Bs × Int :=
  if (readF l).2.2 ≠ 0 then ([], (readF l).2.2) else if fitsC t ≠ 0 then ([], fitsC t) else
  match (rowsF [] 0 (split l)).1 with
  | [] => ([], 0)
  | hd :: rs => if 4000 < (putB hd hd.fs.tail rs t).length then ([], 5) else (putB hd hd.fs.tail rs t, 0)
/-- The answer is right. -/
theorem putR_back {t : Tr} {l : Bs} (h : (putR t l).2 = 0) : (readF l).2.2 = 0 ∧ fitsC t = 0 ∧ readF (putR t l).1 = (t, 0, 0) ∧ ∃ hd x0 xl rs, rowsF [] 0 (split l) = (hd :: rs, 0, 0) ∧ hd.fs = x0 :: xl ∧ (putR t l).1 = putB hd xl rs t ∧ (putB hd xl rs t).length ≤ 4000 := by
  unfold putR at h ⊢
  split at h
  · rename_i h1; exact absurd h h1
  rename_i h1
  rw [if_neg h1]
  split at h
  · rename_i h2; exact absurd h h2
  rename_i h2
  rw [if_neg h2]
  have h1 : (readF l).2.2 = 0 := Decidable.not_not.1 h1
  have h2 : fitsC t = 0 := Decidable.not_not.1 h2
  obtain ⟨_, _, hd, x0, xl, rs, hr, hh⟩ := read_inv h1
  rw [hr] at h ⊢
  dsimp only at h ⊢
  have e : hd.fs.tail = xl := by rw [hh]; rfl
  rw [e] at h ⊢
  split at h
  · cases h
  · rename_i h3
    rw [if_neg h3]
    have h4 : (putB hd xl rs t).length ≤ 4000 := by omega
    exact ⟨h1, h2, (put_back hr hh h2 (fault_asc (fits_fault h2).1).1 h4).1, hd, x0, xl, rs, rfl, hh, rfl, h4⟩
theorem putR_e (t : Tr) (l : Bs) (h1 : (readF l).2.2 = 0) (h2 : fitsC t = 0) : (putR t l).2 = 0 ∨ (putR t l).2 = 5 := by
  unfold putR
  rw [if_neg (by rw [h1]; decide), if_neg (by rw [h2]; decide)]
  split
  · exact .inl rfl
  · split
    · exact .inr rfl
    · exact .inl rfl
end Go.Proofs.YtlcbhooiinaalaaGreatDoor.Cv
namespace Go.Proofs.YtlcbhooiinaalaaGreatDoor.Cv
open Go.RowKit Go.Sort Go.Proofs.YtlcbhooiinaalaaGreatDoor.Jd Go.Proofs.YtlcbhooiinaalaaGreatDoor.Li Go.Proofs.YtlcbhooiinaalaaGreatDoor.Cl Go.Proofs.YtlcbhooiinaalaaGreatDoor.Pt
set_option maxRecDepth 100000

theorem colsP_nil (xl : List Ln) : colsP xl .nil = mns xl := by
  have e : colsF .nil = [] := by
    unfold colsF
    have h := namesOf_le ((kidsL .nil).flatMap Tr.names)
    have h2 : ((kidsL .nil).flatMap Tr.names).length = 0 := rfl
    exact List.length_eq_zero_iff.1 (by omega)
  rw [colsP, e]
  show mns xl ++ (lessF [] (mns xl)).map mkB = mns xl
  rw [lessF, List.filter_nil, List.map_nil, List.append_nil]
theorem fieldF_self : ∀ fs : List Ln, fieldF (mns fs) fs = fs.map (·.1)
  | [] => rfl
  | x :: r => by
    have e : mns (x :: r) = ⟨x.2.toArray⟩ :: mns r := rfl
    rw [e, fieldF, if_pos (by simp), fieldF_self r]
    rfl
theorem put_nil {l : Bs} {hd : Rw} {x0 : Ln} {xl : List Ln} {rs : List Rw} (h : rowsF [] 0 (split l) = (hd :: rs, 0, 0)) (hh : hd.fs = x0 :: xl) : ∃ x xs, split l = x :: xs ∧ putB hd xl rs .nil = x.1 ++ x.2 := by
  have hi := rowsF_inv _ _ _ _ h
  rw [List.nil_append] at hi
  cases hs : split l with
  | nil => rw [hs] at hi; cases hi
  | cons x xs =>
    rw [hs] at hi
    injection hi with e1 e2
    refine ⟨x, xs, rfl, ?_⟩
    obtain ⟨_, hhf, _, _, _, _⟩ := file_ok h hh
    have em : mns hd.fs = ⟨x0.2.toArray⟩ :: mns xl := by rw [hh]; rfl
    have hk := (head_facts (by rw [← em]; exact hhf : headF (⟨x0.2.toArray⟩ :: mns xl) = 0)).1
    have e3 : [kB] ++ colsP xl .nil = mns hd.fs := by rw [colsP_nil, em, hk]; rfl
    have e4 : rs.filterMap (stayF (colsP xl .nil) .nil) = [] := by
      rw [List.filterMap_eq_nil_iff]
      intro r _
      unfold stayF
      rw [getT_one]
      rfl
    have e5 : lessF (namesOf Tr.nil.names) (rs.map nm) = [] := by
      have h := namesOf_le Tr.nil.names
      have h2 : (Tr.nil.names).length = 0 := rfl
      have h3 : namesOf Tr.nil.names = [] := List.length_eq_zero_iff.1 (by omega)
      rw [h3]
      rfl
    have e6 : stayL hd xl rs .nil = [x] := by
      unfold stayL
      rw [e4, e3, List.append_nil, sayF, fieldF_self]
      have hf : hd.fs = fldsL x.1 := by rw [e1]; rfl
      have he : hd.en.data.toList = x.2 := by rw [e1]; rfl
      have ht : Lib.join (hd.fs.map (·.1)) [44] = x.1 := by
        have hne : hd.fs ≠ [] := by rw [hh]; simp
        rw [hf] at hne ⊢
        rw [fldsL, ← fldsR_eq] at hne ⊢
        cases hq : fldsR (x.1.length + 1) x.1 with
        | none => rw [hq] at hne; exact absurd rfl hne
        | some fs => exact flds_text _ _ _ hq
      rw [ht, he]
    rw [putB, e5, e6, List.map_nil, Li.insert]
    simp [ended, join]
/-- The bytes of the first line, its end aside. -/
def fl (l : Bs) : Bs := l.takeWhile fun b => b != 10
theorem fl_app : ∀ (a r : Bs), fl (a ++ 10 :: r) = fl (a ++ [10])
  | [], r => rfl
  | c :: a, r => by
    have ih := fl_app a r
    unfold fl at ih ⊢
    rw [List.cons_append, List.cons_append, List.takeWhile_cons, List.takeWhile_cons, ih]
theorem fl_split {l : Bs} {x : Ln} {xs : List Ln} (h : split l = x :: xs) : fl (x.1 ++ x.2) = fl l := by
  have hg := split_good l
  have hj := join_split l
  rw [h] at hg hj
  rw [join] at hj
  rw [← hj]
  cases xs with
  | nil => rw [join, List.append_nil]
  | cons y ys =>
    rcases hg.2.1 with e | e
    · rw [e, List.append_assoc]
      exact (fl_app x.1 _).symm
    · rw [e]
      have e1 : x.1 ++ [13, 10] = (x.1 ++ [13]) ++ [10] := by simp
      rw [e1, List.append_assoc (x.1 ++ [13])]
      exact (fl_app (x.1 ++ [13]) _).symm
theorem fits_nil : fitsC .nil = 0 := rfl
/-- What CsvColumns asks. -/
theorem col_law {u : Tr} {l : Bs} (h : (putR u l).2 = 0) :
    (putR .nil (putR u l).1).2 = 0 ∧ fl (putR u l).1 = fl (putR .nil (putR u l).1).1 ∧ (putR u l).1.length ≤ 4000 ∧ (putR .nil (putR u l).1).1.length ≤ 4000 ∧
      ((putR u (putR .nil (putR u l).1).1).2 = 5 ∨ (putR u (putR .nil (putR u l).1).1).2 = 0 ∧ readF (putR u (putR .nil (putR u l).1).1).1 = (u, 0, 0)) := by
  obtain ⟨_, hfu, hr, _, _, _, _, _, _, hp, hl⟩ := putR_back h
  obtain ⟨p, hpp⟩ : ∃ p, p = (putR u l).1 := ⟨_, rfl⟩
  rw [← hpp] at hr hp ⊢
  have hpl : p.length ≤ 4000 := by rw [hp]; exact hl
  have h0 : (readF p).2.2 = 0 := by rw [hr]
  obtain ⟨_, _, hd, x0, xl, rs, hrows, hh⟩ := read_inv h0
  obtain ⟨x, xs, hs, hq⟩ := put_nil hrows hh
  have hlen : (putB hd xl rs .nil).length ≤ 4000 := by
    rw [hq]
    have hj := join_split p
    rw [hs, join] at hj
    have := congrArg List.length hj
    rw [List.length_append] at this
    omega
  have e : hd.fs.tail = xl := by rw [hh]; rfl
  have hput : putR .nil p = (putB hd xl rs .nil, 0) := by
    unfold putR
    rw [if_neg (by rw [h0]; decide), if_neg (by rw [fits_nil]; decide), hrows]
    dsimp only
    rw [e, if_neg (by omega)]
  rw [hput]
  refine ⟨rfl, by rw [hq]; exact (fl_split hs).symm, hpl, hlen, ?_⟩
  have hb := putR_back (t := .nil) (l := p) (by rw [hput])
  rw [hput] at hb
  have hrq : (readF (putB hd xl rs .nil)).2.2 = 0 := by rw [hb.2.2.1]
  rcases putR_e u (putB hd xl rs .nil) hrq hfu with g | g
  · exact .inr ⟨g, (putR_back g).2.2.1⟩
  · exact .inl g
end Go.Proofs.YtlcbhooiinaalaaGreatDoor.Cv
namespace Go.Proofs.YtlcbhooiinaalaaGreatDoor.Cv
open Go.RowKit Go.Sort Go.Proofs.YtlcbhooiinaalaaGreatDoor.Jd Go.Proofs.YtlcbhooiinaalaaGreatDoor.Li Go.Proofs.YtlcbhooiinaalaaGreatDoor.Cl Go.Proofs.YtlcbhooiinaalaaGreatDoor.Pt
set_option maxRecDepth 100000

set_option maxHeartbeats 4000000 in
/-- A file that is not sound. -/
theorem put_bad (s : ByteArray) (R : Tr × Nat × Int) (A : Option Addr) (n c : Nat) (w : World) (hR : readF s.data.toList = R) (he : R.2.2 ≠ 0) (hG : Gl w) :
    Calls Tryz.prog 20 #[.slice A n c, .string s] w fun e w' => e = .returned (.tuple #[.string ⟨#[]⟩, .int .i64 R.2.2]) ∧ Below w.heap.size w w' := by
  have HR := Lib.hid (read_any s w (fun _ _ z _ => pl_all z) hG)
  rw [hR] at HR
  clear hR hG
  go_enter Tryz.func20, Tryz.ntmps20
  go_wp2_with fail
  (with_reducible refine HR.out.mono ?_)
  rintro e w1 ⟨Ah, Ar, At, nh, ch, nr, cr, ct, ee, rfl, hrd, hb⟩
  have HB := Lib.hid hb
  clear hrd hb
  go_wp2_with fail
  refine bodyPost_ret (v := .tuple #[.string ⟨#[]⟩, .int .i64 R.2.2]) (by simp [results, Tryz.results20, go_sem]) rfl ?_
  exact ⟨rfl, HB.out.alloc HB.out.size _⟩
set_option maxHeartbeats 4000000 in
/-- A tree that does not fit. -/
theorem put_unfit (s : ByteArray) (T : Tr) (t : Tr) (A : Option Addr) (n c : Nat) (w : World) (hR : readF s.data.toList = (T, 0, 0)) (he : fitsC t ≠ 0) (hsz : t.size ≤ 17179869184) (hnm : Tr.Nm t)
    (ht : Holds w w.heap.size A n t) (hn : n ≤ c) (hc : c ≤ maxLen) (hG : Gl w) :
    Calls Tryz.prog 20 #[.slice A n c, .string s] w fun e w' => e = .returned (.tuple #[.string ⟨#[]⟩, .int .i64 (fitsC t)]) ∧ Below w.heap.size w w' := by
  have HR := Lib.hid (read_any s w (fun _ _ z _ => pl_all z) hG)
  rw [hR] at HR
  have HFi := Lib.hid (fun (W : World) (hW : Below w.heap.size w W) => fits_any t A n c W ((ht.below hW).more hW.size) hn hc hsz hnm (plT_all t))
  obtain ⟨E, hE⟩ : ∃ E, E = fitsC t := ⟨_, rfl⟩
  rw [← hE] at HFi he ⊢
  clear hR hG hE ht hnm hsz
  go_enter Tryz.func20, Tryz.ntmps20
  go_wp2_with fail
  (with_reducible refine HR.out.mono ?_)
  rintro e w1 ⟨Ah, Ar, At, nh, ch, nr, cr, ct, ee, rfl, hrd, hb⟩
  have HB2 := Lib.hid (fun o : Obj => (hb.alloc hb.size o : Below w.heap.size w (w1.alloc o)))
  clear hrd hb
  dsimp only
  go_wp2_with fail
  (with_reducible refine (HFi.out _ (HB2.out _)).mono ?_)
  rintro e w2 ⟨rfl, hb2⟩
  have hq2 := (HB2.out _).trans (hb2.mono (HB2.out _).size)
  have Hq2 := Lib.hid hq2
  clear hb2 hq2
  go_wp2_with fail
  refine bodyPost_ret (v := .tuple #[.string ⟨#[]⟩, .int .i64 E]) (by simp [results, Tryz.results20, go_sem]) rfl ?_
  exact ⟨rfl, Hq2.out⟩
set_option maxHeartbeats 4000000 in
/-- A tree that fits, put into a file that is sound. -/
theorem put_sound (s : ByteArray) (hd : Rw) (x0 : Ln) (xl : List Ln) (rs : List Rw) (T t : Tr) (A : Option Addr) (n c : Nat) (w : World)
    (hr : readF s.data.toList = (T, 0, 0)) (hrs : (rowsF [] 0 (split s.data.toList)).1 = hd :: rs)
    (hO : PutOk hd x0 xl rs t) (hF : fitsC t = 0) (hnm : Tr.Nm t) (hL : (putB hd xl rs t).length ≤ 140737488355328) (o : Bs × Int)
    (ho : o = if 4000 < (putB hd xl rs t).length then ([], 5) else (putB hd xl rs t, 0))
    (ht : Holds w w.heap.size A n t) (hn : n ≤ c) (hc : c ≤ maxLen) (hG : Gl w) :
    Calls Tryz.prog 20 #[.slice A n c, .string s] w fun e w' => e = .returned (.tuple #[.string (mkB o.1), .int .i64 o.2]) ∧ Below w.heap.size w w' := by
  have hR := read_any s w (fun _ _ z _ => pl_all z) hG
  rw [hr, hrs] at hR
  have HR := Lib.hid hR
  have hFi := fun (W : World) (hW : Below w.heap.size w W) => fits_any t A n c W ((ht.below hW).more hW.size) hn hc (by have := hO.len; omega) hnm (plT_all t)
  rw [hF] at hFi
  have HFi := Lib.hid hFi
  have HPu := Lib.hid (fun (W : World) (hW : Below w.heap.size w W) (Af Ar At : Option Addr) (nf cf nr cr nt ct : Nat) (hf : SeesL W W.heap.size Af nf hd.fs) (hr : SeesR W W.heap.size Ar nr rs) =>
    put_any hd x0 xl rs t Af Ar At A nf cf nr cr nt ct n c W hO hf hr ((ht.below hW).more hW.size) (hG.below hW) hL)
  have e0 : (mkB (putB hd xl rs t)).size = (putB hd xl rs t).length := rfl
  obtain ⟨P, hP⟩ : ∃ P, P = mkB (putB hd xl rs t) := ⟨_, rfl⟩
  have hPo : (4000 < P.size ∧ o = ([], 5)) ∨ (P.size ≤ 4000 ∧ mkB o.1 = P ∧ o.2 = 0) := by
    rw [hP, e0]
    by_cases h4 : 4000 < (putB hd xl rs t).length
    · rw [if_pos h4] at ho; exact .inl ⟨h4, ho⟩
    · rw [if_neg h4] at ho; subst ho; exact .inr ⟨by omega, rfl, rfl⟩
  have HPu2 : Hid (∀ (W : World) (hW : Below w.heap.size w W) (Af Ar At : Option Addr) (nf cf nr cr nt ct : Nat) (hf : SeesL W W.heap.size Af nf hd.fs) (hr : SeesR W W.heap.size Ar nr rs),
      Calls Tryz.prog 41 #[.agg #[.slice Af nf cf, .string hd.en, .slice Ar nr cr, .slice At nt ct], .slice A n c] W fun e w' => e = .returned (.string P) ∧ Below W.heap.size W w') := by
    rw [hP]; exact HPu
  clear hR hr hrs hO hF hnm hL ho ht hn hc hG hFi HPu hP e0
  rcases hPo with ⟨hlong, rfl⟩ | ⟨hshort, ho1, ho2⟩
  · have hj : ¬ ((P.size : Int) ≤ 4000) := by omega
    go_enter Tryz.func20, Tryz.ntmps20
    go_wp2_with fail
    (with_reducible refine HR.out.mono ?_)
    rintro e w1 ⟨Ah, Ar, At, nh, ch, nr, cr, ct, ee, rfl, hrd, hb⟩
    obtain ⟨h, t', e1, e2, _, _, _, _, hs1, hs2⟩ := hrd.rows rfl
    injection e1 with e1 e3
    subst e1; subst e3; subst e2
    have hs1' := hs1.sees (B := w1.heap.size) (fun b hb => hb.2)
    have hs2' := hs2.sees (B := w1.heap.size) (fun b hb => hb.2)
    have HS1 := Lib.hid hs1'
    have HS2 := Lib.hid hs2'
    have HB := Lib.hid hb
    clear hs1 hs2 hs1' hs2' hrd hb
    dsimp only
    have hb2 : ∀ o : Obj, Below w.heap.size w (w1.alloc o) := fun o => HB.out.alloc HB.out.size o
    have HB2 := Lib.hid hb2
    clear hb2
    go_wp2_with fail
    (with_reducible refine (HFi.out _ (HB2.out _)).mono ?_)
    rintro e w2 ⟨rfl, hb2⟩
    have hg2 := (hb2.block w1.heap.size (by simp)).trans (heap_alloc_new w1 _)
    have c0 := cell_of_row _ w1.heap.size 0 _ _ _ hg2
    have c1 := cell_of_row _ w1.heap.size 1 _ _ _ hg2
    have c2 := cell_of_row _ w1.heap.size 2 _ _ _ hg2
    have c3 := cell_of_row _ w1.heap.size 3 _ _ _ hg2
    have hw12 : Below w1.heap.size w1 w2 := ((Below.refl w1.heap.size w1).alloc (Nat.le_refl _) _).trans (hb2.mono (by simp))
    have hq2 := HB.out.trans (hw12.mono HB.out.size)
    have HP := Lib.hid (HPu2.out w2 hq2 Ah Ar At nh ch nr cr T.len ct ((HS1.out.below hw12).more hw12.size) (seesR_more (HS2.out.below hw12) hw12.size))
    have Hq2 := Lib.hid hq2
    clear hb2 hg2 hw12 hq2
    go_wp2_with fail
    (with_reducible refine HP.out.mono ?_)
    rintro e w3 ⟨rfl, hb3⟩
    go_wp2_with fail
    refine bodyPost_ret (v := .tuple #[.string ⟨#[]⟩, .int .i64 5]) (by simp [results, Tryz.results20, go_sem]) rfl ?_
    exact ⟨rfl, Hq2.out.trans (hb3.mono Hq2.out.size)⟩
  · have hj : (P.size : Int) ≤ 4000 := by omega
    rw [ho1, ho2]
    go_enter Tryz.func20, Tryz.ntmps20
    go_wp2_with fail
    (with_reducible refine HR.out.mono ?_)
    rintro e w1 ⟨Ah, Ar, At, nh, ch, nr, cr, ct, ee, rfl, hrd, hb⟩
    obtain ⟨h, t', e1, e2, _, _, _, _, hs1, hs2⟩ := hrd.rows rfl
    injection e1 with e1 e3
    subst e1; subst e3; subst e2
    have hs1' := hs1.sees (B := w1.heap.size) (fun b hb => hb.2)
    have hs2' := hs2.sees (B := w1.heap.size) (fun b hb => hb.2)
    have HS1 := Lib.hid hs1'
    have HS2 := Lib.hid hs2'
    have HB := Lib.hid hb
    clear hs1 hs2 hs1' hs2' hrd hb
    dsimp only
    have hb2 : ∀ o : Obj, Below w.heap.size w (w1.alloc o) := fun o => HB.out.alloc HB.out.size o
    have HB2 := Lib.hid hb2
    clear hb2
    go_wp2_with fail
    (with_reducible refine (HFi.out _ (HB2.out _)).mono ?_)
    rintro e w2 ⟨rfl, hb2⟩
    have hg2 := (hb2.block w1.heap.size (by simp)).trans (heap_alloc_new w1 _)
    have c0 := cell_of_row _ w1.heap.size 0 _ _ _ hg2
    have c1 := cell_of_row _ w1.heap.size 1 _ _ _ hg2
    have c2 := cell_of_row _ w1.heap.size 2 _ _ _ hg2
    have c3 := cell_of_row _ w1.heap.size 3 _ _ _ hg2
    have hw12 : Below w1.heap.size w1 w2 := ((Below.refl w1.heap.size w1).alloc (Nat.le_refl _) _).trans (hb2.mono (by simp))
    have hq2 := HB.out.trans (hw12.mono HB.out.size)
    have HP := Lib.hid (HPu2.out w2 hq2 Ah Ar At nh ch nr cr T.len ct ((HS1.out.below hw12).more hw12.size) (seesR_more (HS2.out.below hw12) hw12.size))
    have Hq2 := Lib.hid hq2
    clear hb2 hg2 hw12 hq2
    go_wp2_with fail
    (with_reducible refine HP.out.mono ?_)
    rintro e w3 ⟨rfl, hb3⟩
    go_wp2_with fail
    refine bodyPost_ret (v := .tuple #[.string P, .int .i64 0]) (by simp [results, Tryz.results20, go_sem]) rfl ?_
    exact ⟨rfl, Hq2.out.trans (hb3.mono Hq2.out.size)⟩
/-- csv.Put. -/
theorem putR_any (s : ByteArray) (t : Tr) (A : Option Addr) (n c : Nat) (w : World) (hsz : t.size ≤ 17179869184) (hnm : Tr.Nm t)
    (ht : Holds w w.heap.size A n t) (hn : n ≤ c) (hc : c ≤ maxLen) (hG : Gl w) :
    Calls Tryz.prog 20 #[.slice A n c, .string s] w fun e w' => e = .returned (.tuple #[.string (mkB (putR t s.data.toList).1), .int .i64 (putR t s.data.toList).2]) ∧ Below w.heap.size w w' := by
  by_cases h1 : (readF s.data.toList).2.2 ≠ 0
  · have e : putR t s.data.toList = ([], (readF s.data.toList).2.2) := by unfold putR; rw [if_pos h1]
    rw [e]
    exact put_bad s _ A n c w rfl h1 hG
  have h1' : (readF s.data.toList).2.2 = 0 := Decidable.not_not.1 h1
  obtain ⟨hl, h0, hd, x0, xl, rs, hr, hh⟩ := read_inv h1'
  obtain ⟨R, hR⟩ : ∃ R, R = readF s.data.toList := ⟨_, rfl⟩
  have h1 : ¬ R.2.2 ≠ 0 := by rw [hR]; exact h1
  rw [← hR] at h1' h0
  obtain ⟨T, i, z⟩ := R
  dsimp only at h1' h0
  subst h1'; subst h0
  by_cases h2 : fitsC t ≠ 0
  · have e : putR t s.data.toList = ([], fitsC t) := by unfold putR; rw [← hR, if_neg h1, if_pos h2]
    rw [e]
    exact put_unfit s T t A n c w hR.symm h2 hsz hnm ht hn hc hG
  have h2' : fitsC t = 0 := Decidable.not_not.1 h2
  have hO := put_ok hl hr hh h2'
  have e : hd.fs.tail = xl := by rw [hh]; rfl
  have hfo := file_ok hr hh
  refine put_sound s hd x0 xl rs T t A n c w hR.symm (by rw [hr]) hO h2' hnm (putB_le hO fun r hr => ?_) _ ?_ ht hn hc hG
  · rcases hfo.ends r hr with (e | e) | e <;> rw [e] <;> decide
  · unfold putR
    rw [← hR, if_neg h1, if_neg h2, hr]
    dsimp only
    rw [e]
end Go.Proofs.YtlcbhooiinaalaaGreatDoor.Cv
namespace Go.Proofs.YtlcbhooiinaalaaGreatDoor.Cv
open Go.RowKit Go.Proofs.YtlcbhooiinaalaaGreatDoor.Jd Go.Proofs.YtlcbhooiinaalaaGreatDoor.Li Go.Proofs.YtlcbhooiinaalaaGreatDoor.Pt Go.Proofs.YtlcbhooiinaalaaGreatDoor.Cl
set_option maxRecDepth 100000

theorem all_len {f : ByteArray → Tr → Bool} (t : Tr) (k : Nat) (h : t.len ≤ k) : allT f (t.dropT k) = true := by
  rw [drop_len t k h]
  rfl
theorem one_tr {k : Tr} (h : k.len = 1) : ∃ a b, k = .cons a b .nil := by
  cases k with
  | nil => cases h
  | cons a b r =>
    cases r with
    | nil => exact ⟨a, b, rfl⟩
    | cons _ _ _ => simp [Tr.len] at h
set_option maxHeartbeats 4000000 in
theorem rfits_any (t : Tr) (A : Option Addr) (n c : Nat) (w : World) (h : Holds w w.heap.size A n t) (hsz : t.size ≤ 17179869184) (hnm : Tr.Nm t) :
    Calls Tryz.prog 19 #[.slice A n c] w fun e w' => e = .returned (.int .i64 (fitsC t)) ∧ Below w.heap.size w w' := by
  have hl := h.len
  have hls := t.len_size
  have HC := Lib.hid (rcheck_any t A n c w.heap.size w h (Nat.le_refl _) (by omega) (low_size _ (by omega)) hnm)
  have HH := Lib.hid h
  have Hl := Lib.hid hl
  have HP := Lib.hid plain_any
  have HCo := Lib.hid rcolumn_any
  have Hnm := Lib.hid hnm
  obtain ⟨f, hf⟩ : ∃ f, f = t.fault := ⟨_, rfl⟩
  have HF : Hid (fitsC t = if f ≠ 0 then (f : Int) else if allT frB t then 0 else 13) := Lib.hid (by rw [hf]; rfl)
  rw [← hf] at HC
  have hnb : n ≤ 17179869184 := by omega
  clear h hnm hl hls hf
  by_cases hf0 : f = 0
  · have HF2 : Hid (fitsC t = if allT frB t then 0 else 13) := Lib.hid (by rw [HF.out, if_neg (by omega)])
    subst hf0
    clear HF
    go_enter Tryz.func19, Tryz.ntmps19
    go_wp2_with fail
    (with_reducible refine HC.out.mono ?_)
    rintro e w1 ⟨rfl, hb1⟩
    have HB1 := Lib.hid hb1
    clear hb1
    go_wp2_with fail
    go_loopw [4] (fun i wr => ∃ (k : Nat), k ≤ n ∧ i = .int .i64 k ∧ Hid (Below w.heap.size w wr) ∧ Hid (allT frB (t.dropT k) = allT frB t)) (fun i _ => n - (intOf i).toNat)
    case atStart => exact ⟨0, by omega, rfl, HB1, Lib.hid (by rw [dropT_zero])⟩
    case round =>
      obtain ⟨k, hk, rfl, HW, He⟩ := hrel
      obtain ⟨wa, rfl⟩ : ∃ x : World, x = wr := ⟨_, rfl⟩
      by_cases hlt : k < n
      · obtain ⟨b, o, s, kt, r, A', n', c', rfl, hb, hs, hc, hn', hc', hk', hr, hd, hd2⟩ := (HH.out.below HW.out).split k hlt
        have hkn : (k : Int) < (n : Int) := by omega
        have hk0 : (0 : Int) ≤ (k : Int) := by omega
        have hnd := nm_drop t k Hnm.out
        rw [hd] at hnd
        have hPs := HP.out s wa hnd.1
        have hsd := size_drop t k
        have HKn := Lib.hid hnd.2.1
        have He2 : Hid (allT frB t = (nB s && allT fcB kt && allT frB (t.dropT (k + 1)))) := Lib.hid (by rw [← He.out, hd, hd2]; rfl)
        obtain ⟨u, hu⟩ : ∃ u, u = nB s := ⟨_, rfl⟩
        rw [← hu] at hPs He2
        have HPs := Lib.hid hPs
        have HK' := Lib.hid hk'
        have hkl := hk'.len
        have hnb' : n' ≤ 17179869184 := by
          have := kt.len_size
          rw [hd, Tr.size] at hsd
          omega
        have HKl := Lib.hid hkl
        clear hkl hnd hsd hd hd2 hr He hu hPs hk'
        cases u with
        | false =>
          have HV : Hid (fitsC t = 13) := Lib.hid (by rw [HF2.out, He2.out]; simp)
          clear HF2 He2
          go_wp2_with fail
          (with_reducible refine HPs.out.mono ?_)
          rintro e w2 ⟨rfl, rfl⟩
          go_wp2_with fail
          go_ret
          exact ⟨by rw [HV.out]; rfl, HW.out⟩
        | true =>
          go_wp2_with fail
          (with_reducible refine HPs.out.mono ?_)
          rintro e w2 ⟨rfl, rfl⟩
          go_wp2_with fail
          go_loopw [5] (fun i wr => ∃ (j : Nat), j ≤ n' ∧ i = .int .i64 j ∧ Hid (Below wa.heap.size wa wr) ∧ Hid (allT fcB (kt.dropT j) = allT fcB kt)) (fun i _ => n' - (intOf i).toNat)
          case atStart => exact ⟨0, by omega, rfl, Lib.hid (Below.refl _ _), Lib.hid (by rw [dropT_zero])⟩
          case round =>
            obtain ⟨j, hj, rfl, HW2, He3⟩ := hrel
            have HBq : Hid (Below w.heap.size w wr) := Lib.hid (HW.out.trans (HW2.out.mono HW.out.size))
            have hcq := (HW2.out.cell (p := ⟨b, o + k * 2 + 1, none⟩) (Nat.lt_of_lt_of_le hb HW.out.size)).trans hc
            by_cases hjt : j < n'
            · obtain ⟨b2, o2, s2, kt2, r2, A2, n2, c2, rfl, hb2, hs2, hc2, hn2, hc2', hk2, hr2, hd3, hd4⟩ := (HK'.out.below (HW2.out.mono HW.out.size)).split j hjt
              have hjn : (j : Int) < (n' : Int) := by omega
              have hj0 : (0 : Int) ≤ (j : Int) := by omega
              have hnd := nm_drop kt j HKn.out
              rw [hd3] at hnd
              have He4 : Hid (allT fcB kt = (fcB s2 kt2 && allT fcB (kt.dropT (j + 1)))) := Lib.hid (by rw [← He3.out, hd3, hd4]; rfl)
              have hsd := size_drop kt j
              have hPc := fun W => HCo.out s2 W hnd.1
              obtain ⟨u, hu⟩ : ∃ u, u = cB s2 := ⟨_, rfl⟩
              rw [← hu] at hPc
              have HPc := Lib.hid hPc
              have hkl2 := hk2.len
              have hHB2 : Hid (∀ o : Obj, Below w.heap.size w (wr.alloc o)) := Lib.hid fun o => HBq.out.alloc HBq.out.size o
              cases u with
              | false =>
                have HV : Hid (fitsC t = 13) := Lib.hid (by rw [HF2.out, He2.out, He4.out, fcB_no hu.symm]; simp)
                clear HF2 He2 He4 hnd hsd hd3 hd4 hr2 He3 hu hPc hk2 hkl2
                go_wp2_with fail
                (with_reducible refine (HPc.out _).mono ?_)
                rintro e w2 ⟨rfl, rfl⟩
                go_wp2_with fail
                go_ret
                exact ⟨by rw [HV.out]; rfl, hHB2.out _⟩
              | true =>
                by_cases h1 : n2 = 1
                · subst h1
                  obtain ⟨s3, k3, rfl⟩ := one_tr hkl2.symm
                  clear hkl2
                  obtain ⟨b3, o3, s3', kt3, r3, A3, n3, c3, rfl, hb3, hs3, hc3, hn3, hc3', hk3, hr3, hd5, hd6⟩ := hk2.split 0 (by omega)
                  rw [dropT_zero] at hd5
                  obtain ⟨rfl, rfl, _⟩ := Tr.cons.inj hd5
                  simp only [Nat.zero_mul, Nat.add_zero] at hs3 hc3
                  have hs3' : ∀ x, (wr.alloc x).cell? ⟨b3, o3, none⟩ = some (.string s3) := fun x => (World.cell?_alloc_lt _ _ _ (Nat.lt_of_lt_of_le hb3 HBq.out.size)).trans hs3
                  have hc3' : ∀ x, (wr.alloc x).cell? ⟨b3, o3 + 1, none⟩ = some (.slice A3 n3 c3) := fun x => (World.cell?_alloc_lt _ _ _ (Nat.lt_of_lt_of_le hb3 HBq.out.size)).trans hc3
                  have hkl3 := hk3.len
                  have hPp := fun W => HP.out s3 W hnd.2.1.1
                  have hfc : fcB s2 (.cons s3 k3 .nil) = (nB s3 && decide (k3.len = 0)) := by rw [fcB_one hu.symm]; rfl
                  rw [hfc] at He4
                  by_cases h3 : n3 = 0
                  · obtain rfl : n3 = 0 := h3
                    rw [decide_eq_true hkl3.symm, Bool.and_true] at He4
                    obtain ⟨v, hv⟩ : ∃ v, v = nB s3 := ⟨_, rfl⟩
                    rw [← hv] at hPp He4
                    have HPp := Lib.hid hPp
                    clear hnd hsd hd3 hd4 hr2 He3 hu hPc hk2 hPp hk3 hr3 hd6 hv hfc hkl3
                    cases v with
                    | false =>
                      have HV : Hid (fitsC t = 13) := Lib.hid (by rw [HF2.out, He2.out, He4.out]; simp)
                      clear HF2 He2 He4
                      go_wp2_with fail
                      (with_reducible refine (HPc.out _).mono ?_)
                      rintro e w2 ⟨rfl, rfl⟩
                      go_wp2_with fail
                      (with_reducible refine (HPp.out _).mono ?_)
                      rintro e w2 ⟨rfl, rfl⟩
                      go_wp2_with fail
                      go_ret
                      exact ⟨by rw [HV.out]; rfl, hHB2.out _⟩
                    | true =>
                      have He5 : Hid (allT fcB (kt.dropT (j + 1)) = allT fcB kt) := Lib.hid (by rw [He4.out]; rfl)
                      clear He4
                      go_wp2_with fail
                      (with_reducible refine (HPc.out _).mono ?_)
                      rintro e w2 ⟨rfl, rfl⟩
                      go_wp2_with fail
                      (with_reducible refine (HPp.out _).mono ?_)
                      rintro e w2 ⟨rfl, rfl⟩
                      go_wp2_with fail
                      go_roundw
                      case rel => exact ⟨j + 1, by omega, by go_num, Lib.hid (HW2.out.alloc HW2.out.size _), He5⟩
                      case measure => simp [intOf]; omega
                  · rw [decide_eq_false (fun e => h3 (by omega))] at He4
                    have hgt : (0 : Int) < (n3 : Int) := by omega
                    have HV : Hid (fitsC t = 13) := Lib.hid (by rw [HF2.out, He2.out, He4.out]; simp)
                    clear HF2 He2 He4 hnd hsd hd3 hd4 hr2 He3 hu hPc hk2 hPp hk3 hr3 hd6 hfc h3 hkl3
                    go_wp2_with fail
                    (with_reducible refine (HPc.out _).mono ?_)
                    rintro e w2 ⟨rfl, rfl⟩
                    go_wp2_with fail
                    go_ret
                    exact ⟨by rw [HV.out]; rfl, hHB2.out _⟩
                · have hne : ((n2 : Int) != 1) = true := by rw [bne_iff_ne]; omega
                  have HV : Hid (fitsC t = 13) := Lib.hid (by rw [HF2.out, He2.out, He4.out, fcB_len (by omega)]; simp)
                  clear HF2 He2 He4 hnd hsd hd3 hd4 hr2 He3 hu hPc hk2 h1 hkl2
                  go_wp2_with fail
                  (with_reducible refine (HPc.out _).mono ?_)
                  rintro e w2 ⟨rfl, rfl⟩
                  go_wp2_with fail
                  go_ret
                  exact ⟨by rw [HV.out]; rfl, hHB2.out _⟩
            · obtain rfl : j = n' := by omega
              have He5 : Hid (allT frB (t.dropT (k + 1)) = allT frB t) := Lib.hid (by
                have := He3.out
                rw [all_len kt j (by have := HKl.out; omega)] at this
                rw [He2.out, ← this]; rfl)
              clear He3 He2
              go_wp2_with fail
              go_roundw
              case rel => exact ⟨k + 1, by omega, by go_num, HBq, He5⟩
              case measure => simp [intOf]; omega
      · obtain rfl : k = n := by omega
        have HV : Hid (fitsC t = 0) := Lib.hid (by rw [HF2.out, ← He.out, all_len t k (by rw [← Hl.out]; exact Nat.le_refl _)]; rfl)
        clear hlt
        go_wp2_with fail
        go_ret
        exact ⟨by rw [HV.out]; rfl, HW.out⟩
  · have HV : Hid (fitsC t = (f : Int)) := Lib.hid (by rw [HF.out, if_pos hf0])
    have hfb : ((f : Int) != 0) = true := bne_iff_ne.2 (by omega)
    clear HF hf0
    go_enter Tryz.func19, Tryz.ntmps19
    go_wp2_with fail
    (with_reducible refine HC.out.mono ?_)
    rintro e w1 ⟨rfl, hb1⟩
    go_wp2_with fail
    go_ret
    exact ⟨by rw [HV.out]; rfl, hb1⟩
end Go.Proofs.YtlcbhooiinaalaaGreatDoor.Cv
namespace Go.Proofs.YtlcbhooiinaalaaGreatDoor.Cv
open Go.RowKit Go.Proofs.YtlcbhooiinaalaaGreatDoor.Jd Go.Proofs.YtlcbhooiinaalaaGreatDoor.Li Go.Proofs.YtlcbhooiinaalaaGreatDoor.Cl Go.Proofs.YtlcbhooiinaalaaGreatDoor.Pt
set_option maxRecDepth 100000

theorem readF_few (l : Bs) : Tn 400 (readF l).1 := by
  by_cases h : (readF l).2.2 = 0
  · rw [← load_same] at h ⊢
    unfold loadR at h ⊢
    by_cases h1 : 4000 < l.length
    · rw [if_pos h1]; exact ⟨Nat.zero_le _, trivial⟩
    · rw [if_neg h1] at h ⊢
      have h2 := (rowsR_ok l (by omega)).1
      split
      · exact ⟨Nat.zero_le _, trivial⟩
      · split
        · exact ⟨Nat.zero_le _, trivial⟩
        · split
          · exact ⟨Nat.zero_le _, trivial⟩
          · rename_i h3
            exact ⟨(fault_asc (Decidable.not_not.1 h3)).2, h2⟩
  · have e : (readF l).1 = .nil := by
      unfold readF at h ⊢
      split
      · rfl
      · split
        · rfl
        · split
          · rfl
          · split
            · rfl
            · rename_i h1 h2 _ _ _ h3 h4
              exfalso
              apply h
              rw [if_neg h1, if_neg h2, h3]
              dsimp only
              rw [if_neg h4]
    rw [e]
    exact ⟨Nat.zero_le _, trivial⟩
theorem mkB_bytes (l : Bs) : (mkB l).data.toList = l := by simp [mkB]
theorem mkB_size (l : Bs) : (mkB l).size = l.length := rfl
theorem fl_le (l : Bs) : (fl l).length ≤ l.length := by
  have := (List.takeWhile_prefix (p := fun b : UInt8 => b != 10) (l := l)).length_le
  exact this
theorem fl_take (l : Bs) : l.take (fl l).length = fl l := (List.prefix_iff_eq_take.1 (List.takeWhile_prefix (p := fun b : UInt8 => b != 10) (l := l))).symm
theorem fl_ext (l : Bs) : (mkB l).extract 0 (fl l).length = mkB (fl l) := by
  apply ByteArray.ext
  rw [ByteArray.data_extract]
  apply Array.ext'
  have e : (mkB l).data.toList = l := mkB_bytes l
  have e2 : (mkB (fl l)).data.toList = fl l := mkB_bytes _
  rw [Array.toList_extract, e, e2]
  simp [List.extract, fl_take]
/-- A step of the search for the line's end. -/
theorem fl_step {s : ByteArray} {k : Nat} (hk : k < s.size) : (fl (s.data.toList.drop k)).length = if s[k] = 10 then 0 else 1 + (fl (s.data.toList.drop (k + 1))).length := by
  rw [drop_at hk]
  unfold fl
  rw [List.takeWhile_cons]
  by_cases h : s[k] = 10
  · rw [if_pos h, if_neg (by simp [h])]; rfl
  · rw [if_neg h, if_pos (by simpa using h), List.length_cons]; omega

set_option maxHeartbeats 8000000 in
theorem columns_walk (A : Option Addr) (n c : Nat) (l : List Int) (A2 : Option Addr) (n2 c2 : Nat) (l2 : List Int) (w : World) (h : SeesV w w.heap.size A n (l.map (Value.int .i64))) (hr : ∀ x ∈ l, -9223372036854775808 ≤ x ∧ x ≤ 9223372036854775807) (hc : n ≤ c) (hm : c ≤ maxLen)
    (h2 : SeesV w w.heap.size A2 n2 (l2.map (Value.int .i64))) (hr2 : ∀ x ∈ l2, -9223372036854775808 ≤ x ∧ x ≤ 9223372036854775807) (_ : n2 ≤ c2) (_ : c2 ≤ maxLen) (hG : Gl w) :
    Calls Tryz.prog 7 #[.slice A n c, .slice A2 n2 c2] w fun e w' => e = .returned (.bool true) ∧ Below w.heap.size w w' := by
  have HKn := Lib.hid (known_any w hG)
  have HG := Lib.hid hG
  have HFile := Lib.hid (fun (W : World) (hW : Below w.heap.size w W) => file_any A n c l W (sees_up (h.below hW) hW.size) hr hc hm)
  have HTurn := Lib.hid (fun (W : World) (hW : Below w.heap.size w W) (t0 : Tr) (B : Option Addr) (m d : Nat) (ht : OkT W B m d t0) (hn : Tn 400 t0) => turn_any t0 B A2 m d n2 c2 l2 W ht hn (sees_up (h2.below hW) hW.size) hr2)
  clear h hr h2 hr2 hG
  go_enter Tryz.func7, Tryz.ntmps7
  go_wp2_with fail
  (with_reducible refine HKn.out.mono ?_)
  rintro e w1 ⟨rfl, hb1⟩
  have HB1 := Lib.hid hb1
  have HF1 := Lib.hid (HFile.out w1 hb1)
  clear hb1
  go_wp2_with fail
  (with_reducible refine HF1.out.mono ?_)
  rintro e w2 ⟨s, hs, rfl, hb2⟩
  have HB2 := Lib.hid (HB1.out.trans (hb2.mono HB1.out.size))
  have HRl := Lib.hid (rload_any s w2 (by omega))
  have HFew := Lib.hid (readF_few s.data.toList)
  obtain ⟨o, ho⟩ : ∃ o, o = readF s.data.toList := ⟨_, rfl⟩
  rw [← ho] at HRl HFew
  obtain ⟨t0, l0, e0⟩ := o
  have Ho := Lib.hid ho
  clear hb2 ho hs
  go_wp2_with fail
  (with_reducible refine HRl.out.mono ?_)
  rintro e w3 ⟨At, nt, ct, rfl, hT, hnt, hct, hb3⟩
  have HB3 := Lib.hid (HB2.out.trans (hb3.mono HB2.out.size))
  have HTu := Lib.hid (HTurn.out w3 HB3.out t0 At nt ct ⟨hT, hnt, hct⟩ HFew.out)
  clear hT hnt hct hb3
  go_wp2_with fail
  (with_reducible refine HTu.out.mono ?_)
  rintro e w4 ⟨u, Au, nu, cu, rfl, hu, htn, hb4⟩
  have HB4 := Lib.hid (HB3.out.trans (hb4.mono HB3.out.size))
  have HU4 := Lib.hid hu
  have HTn := Lib.hid htn
  clear hu htn hb4
  by_cases he : e0 = 0
  case neg =>
    have hvb : (e0 != 0) = true := bne_iff_ne.2 he
    clear he
    go_wp2_with fail
    go_ret
    exact ⟨rfl, HB4.out⟩
  subst he
  have HFi := Lib.hid (rfits_any u Au nu cu w4 HU4.out.holds (by have := HTn.out.1; omega) HTn.out.2)
  obtain ⟨f0, hf0⟩ : ∃ f, f = fitsC u := ⟨_, rfl⟩
  rw [← hf0] at HFi
  by_cases hf : f0 = 0
  case neg =>
    have hvb : (f0 != 0) = true := bne_iff_ne.2 hf
    clear hf hf0
    go_wp2_with fail
    (with_reducible refine HFi.out.mono ?_)
    rintro e w5 ⟨rfl, hb5⟩
    have HB5 := Lib.hid (HB4.out.trans (hb5.mono HB4.out.size))
    clear hb5
    go_wp2_with fail
    go_ret
    exact ⟨rfl, HB5.out⟩
  subst hf
  have Hf0 := Lib.hid hf0.symm
  clear hf0
  go_wp2_with fail
  (with_reducible refine HFi.out.mono ?_)
  rintro e w5 ⟨rfl, hb5⟩
  have HB5 := Lib.hid (HB4.out.trans (hb5.mono HB4.out.size))
  have HU5 := Lib.hid (HU4.out.below hb5)
  clear hb5
  have HPu := Lib.hid (fun (W : World) (x : ByteArray) (hW : Below w.heap.size w W) (hU : OkT W Au nu cu u) => putR_any x u Au nu cu W (by have := HTn.out.1; omega) HTn.out.2 hU.holds hU.cap.1 hU.cap.2 (HG.out.below hW))
  have HP1 := Lib.hid (HPu.out w5 s HB5.out HU5.out)
  have HE1 := Lib.hid (putR_e u s.data.toList (by rw [← Ho.out]) Hf0.out)
  have HCol := Lib.hid (fun h => col_law (u := u) (l := s.data.toList) h)
  obtain ⟨z1, hz1⟩ : ∃ z, z = putR u s.data.toList := ⟨_, rfl⟩
  rw [← hz1] at HP1 HE1 HCol
  obtain ⟨P, e1⟩ := z1
  clear hz1
  dsimp only at HP1 HE1 HCol
  go_wp2_with fail
  (with_reducible refine HP1.out.mono ?_)
  rintro e w6 ⟨rfl, hb6⟩
  have HB6 := Lib.hid (HB5.out.trans (hb6.mono HB5.out.size))
  have HU6 := Lib.hid (HU5.out.below hb6)
  clear hb6
  by_cases he1 : e1 = 0
  case neg =>
    obtain rfl : e1 = 5 := HE1.out.resolve_left he1
    clear he1
    go_wp2_with fail
    go_ret
    exact ⟨rfl, HB6.out⟩
  subst he1
  have hcol := HCol.out rfl
  have hP2 := putR_any (mkB P) .nil none 0 0 w6 (Nat.zero_le _) trivial rfl (Nat.le_refl _) (Nat.zero_le _) (HG.out.below HB6.out)
  rw [mkB_bytes] at hP2
  obtain ⟨z2, hz2⟩ : ∃ z, z = putR .nil P := ⟨_, rfl⟩
  rw [← hz2] at hcol hP2
  obtain ⟨Q, e2⟩ := z2
  dsimp only at hcol hP2
  obtain ⟨rfl, hfl, hPl, hQl, hr3⟩ := hcol
  have HP2 := Lib.hid hP2
  obtain ⟨z3, hz3⟩ : ∃ z, z = putR u Q := ⟨_, rfl⟩
  rw [← hz3] at hr3
  have HP3 := Lib.hid (fun (W : World) (hW : Below w.heap.size w W) (hU : OkT W Au nu cu u) => by
    have := HPu.out W (mkB Q) hW hU
    rw [mkB_bytes, ← hz3] at this
    exact this)
  obtain ⟨R, e3⟩ := z3
  dsimp only at hr3 HP3
  have HR3 := Lib.hid hr3
  have Hfl := Lib.hid hfl
  have HPl := Lib.hid hPl
  have HQl := Lib.hid hQl
  have Hload := Lib.hid (fun (W : World) (hW : Below w.heap.size w W) => by
    have := load_any (mkB R) W (fun _ _ z _ => pl_all z) (HG.out.below hW)
    rw [mkB_bytes] at this
    exact this)
  obtain ⟨o3, ho3⟩ : ∃ o, o = readF R := ⟨_, rfl⟩
  rw [← ho3] at HR3 Hload
  obtain ⟨p, hp⟩ : ∃ p, p = mkB P := ⟨_, rfl⟩
  obtain ⟨q, hq⟩ : ∃ q, q = mkB Q := ⟨_, rfl⟩
  obtain ⟨r, hrr⟩ : ∃ r, r = mkB R := ⟨_, rfl⟩
  rw [← hp, ← hq] at HP2
  rw [← hq, ← hrr] at HP3
  rw [← hrr] at Hload
  rw [← hp]
  have Hpp := Lib.hid hp
  have Hqq := Lib.hid hq
  clear hP2 hz2 hfl hPl hQl hr3 hz3 ho3 hp hq hrr HCol
  go_wp2_with fail
  (with_reducible refine HP2.out.mono ?_)
  rintro e w7 ⟨rfl, hb7⟩
  have HB7 := Lib.hid (HB6.out.trans (hb7.mono HB6.out.size))
  have HU7 := Lib.hid (HU6.out.below hb7)
  have HP3' := Lib.hid (HP3.out w7 HB7.out HU7.out)
  clear hb7
  go_wp2_with fail
  (with_reducible refine HP3'.out.mono ?_)
  rintro e w8 ⟨rfl, hb8⟩
  have HB8 := Lib.hid (HB7.out.trans (hb8.mono HB7.out.size))
  have HU8 := Lib.hid (HU7.out.below hb8)
  have HL8 := Lib.hid (Hload.out w8 HB8.out)
  clear hb8
  go_wp2_with fail
  (with_reducible refine HL8.out.mono ?_)
  rintro e w9 ⟨Ax, cx, rfl, hX, hcx, hb9⟩
  have HB9 := Lib.hid (HB8.out.trans (hb9.mono HB8.out.size))
  have HU9 := Lib.hid (HU8.out.below hb9)
  have HX9 := Lib.hid (hX.to (B := w9.heap.size) fun b hb => hb.2)
  clear hb9 hX hcx
  have hpz : p.size ≤ 4000 := by rw [Hpp.out, mkB_size]; exact HPl.out
  have hqz : q.size ≤ 4000 := by rw [Hqq.out, mkB_size]; exact HQl.out
  go_wp2_with fail
  go_loopw [19] (fun i wr => ∃ (k : Nat), k ≤ p.size ∧ i = .int .i64 k ∧ Hid ((fl p.data.toList).length = k + (fl (p.data.toList.drop k)).length) ∧ Hid (wr = w9)) (fun i _ => p.size - (intOf i).toNat)
  case atStart => exact ⟨0, Nat.zero_le _, rfl, Lib.hid (by simp), Lib.hid rfl⟩
  case round =>
    obtain ⟨k, hk, rfl, HR, HW⟩ := hrel
    obtain rfl : wr = w9 := HW.out
    have hk0 : (0 : Int) ≤ (k : Int) := by omega
    have hks : (k : Int) ≤ (p.size : Int) := by omega
    by_cases hgo : ∃ hlt : k < p.size, p[k] ≠ 10
    · obtain ⟨hlt, h10⟩ := hgo
      have hkn : (k : Int) < (p.size : Int) := by omega
      have n10 : p[k].toNat ≠ 10 := ne_toNat (by decide) h10
      have q1 : ((p[k].toNat : Int) != 10) = true := by rw [bne_iff_ne]; omega
      have HR2 : Hid ((fl p.data.toList).length = k + 1 + (fl (p.data.toList.drop (k + 1))).length) := Lib.hid (by rw [HR.out, fl_step hlt, if_neg h10]; omega)
      have Hlt := Lib.hid hlt
      clear HR h10 n10
      go_wp2_with fail
      go_roundw
      case rel => exact ⟨k + 1, Hlt.out, by go_num, HR2, by first | exact Lib.hid rfl | exact Lib.hid trivial⟩
      case measure => have := Hlt.out; simp [intOf]; omega
    · have HK : Hid (k = (fl P).length) := Lib.hid (by
        have h1 := HR.out
        have e : p.data.toList = P := by rw [Hpp.out, mkB_bytes]
        by_cases hlt : k < p.size
        · have h10 : p[k] = 10 := Classical.byContradiction fun h => hgo ⟨hlt, h⟩
          rw [fl_step hlt, if_pos h10, e] at h1
          omega
        · have hke : k = p.size := by omega
          rw [hke, drop_end, e] at h1
          rw [hke]
          simpa [fl] using h1.symm)
      have hxa : p.extract 0 k = mkB (fl P) := by rw [HK.out, Hpp.out, fl_ext]
      have hend : (∃ hlt : k < p.size, (k : Int) < (p.size : Int) ∧ ((p[k].toNat : Int) != 10) = false) ∨ ¬ (k : Int) < (p.size : Int) := by
        by_cases hlt : k < p.size
        · have h10 : p[k] = 10 := Classical.byContradiction fun h => hgo ⟨hlt, h⟩
          exact .inl ⟨hlt, by omega, by rw [h10]; rfl⟩
        · exact .inr (by omega)
      obtain ⟨X, hX⟩ : ∃ X, X = mkB (fl P) := ⟨_, rfl⟩
      rw [← hX] at hxa
      have HX := Lib.hid hX
      clear HR hgo hX HK
      obtain ⟨wa, rfl⟩ : ∃ x : World, x = wr := ⟨_, rfl⟩
      rcases hend with ⟨hlt, hkn, q1⟩ | hkn
      all_goals
        go_wp2_with fail
        go_loopw [20] (fun i wq => ∃ (j : Nat), j ≤ q.size ∧ i = .int .i64 j ∧ Hid ((fl q.data.toList).length = j + (fl (q.data.toList.drop j)).length) ∧ Hid (wq = wa)) (fun i _ => q.size - (intOf i).toNat)
        case atStart => exact ⟨0, Nat.zero_le _, rfl, Lib.hid (by simp), Lib.hid rfl⟩
        case round =>
          obtain ⟨j, hj, rfl, HR', HW'⟩ := hrel
          obtain rfl : wr = wa := HW'.out
          have hj0 : (0 : Int) ≤ (j : Int) := by omega
          have hjs : (j : Int) ≤ (q.size : Int) := by omega
          by_cases hgo : ∃ hlt : j < q.size, q[j] ≠ 10
          · obtain ⟨hlt', h10⟩ := hgo
            have hjn : (j : Int) < (q.size : Int) := by omega
            have n10 : q[j].toNat ≠ 10 := ne_toNat (by decide) h10
            have q2 : ((q[j].toNat : Int) != 10) = true := by rw [bne_iff_ne]; omega
            have HR2 : Hid ((fl q.data.toList).length = j + 1 + (fl (q.data.toList.drop (j + 1))).length) := Lib.hid (by rw [HR'.out, fl_step hlt', if_neg h10]; omega)
            have Hlt := Lib.hid hlt'
            clear HR' h10 n10
            go_wp2_with fail
            go_roundw
            case rel => exact ⟨j + 1, Hlt.out, by go_num, HR2, by first | exact Lib.hid rfl | exact Lib.hid trivial⟩
            case measure => have := Hlt.out; simp [intOf]; omega
          · have HK : Hid (j = (fl Q).length) := Lib.hid (by
              have h1 := HR'.out
              have e : q.data.toList = Q := by rw [Hqq.out, mkB_bytes]
              by_cases hlt : j < q.size
              · have h10 : q[j] = 10 := Classical.byContradiction fun h => hgo ⟨hlt, h⟩
                rw [fl_step hlt, if_pos h10, e] at h1
                omega
              · have hke : j = q.size := by omega
                rw [hke, drop_end, e] at h1
                rw [hke]
                simpa [fl] using h1.symm)
            have hxb : q.extract 0 j = X := by rw [HK.out, Hqq.out, fl_ext, ← Hfl.out, HX.out]
            have hend : (∃ hlt : j < q.size, (j : Int) < (q.size : Int) ∧ ((q[j].toNat : Int) != 10) = false) ∨ ¬ (j : Int) < (q.size : Int) := by
              by_cases hlt : j < q.size
              · have h10 : q[j] = 10 := Classical.byContradiction fun h => hgo ⟨hlt, h⟩
                exact .inl ⟨hlt, by omega, by rw [h10]; rfl⟩
              · exact .inr (by omega)
            have hr3 := HR3.out
            clear HR' hgo HK
            rcases hend with ⟨hlt', hjn, q2⟩ | hjn
            all_goals
              rcases hr3 with rfl | ⟨rfl, ho3⟩
              · go_wp2_with fail
                go_quiet (fail)
                go_wp2_with fail
                go_ret
                exact ⟨rfl, below_drewN HB9.out _⟩
              · obtain ⟨T3, i3, f3⟩ := o3
                injection ho3 with e1 ho3
                injection ho3 with e2 e3
                subst e1; subst e2; subst e3
                have hls := T3.len_size
                have hu1 := HTn.out.1
                have hul := HU9.out.holds.len
                have HSa := Lib.hid (fun (q : Nat) => rsame_any T3.size T3 T3 Ax Au T3.len nu cx cu wr.heap.size (wr.drewN q) (Nat.le_refl _) (HX9.out.drewN q) (HU9.out.holds.drewN q) (by simp) (by omega) (by omega) (low_size _ (by omega)) (low_size _ (by omega)))
                rw [same_refl] at HSa
                clear hls hu1 hul
                go_wp2_with fail
                go_quiet ((go_at_call 14; exact Calls.quiet_of (HSa.out _)))
                go_wp2_with fail
                go_ret
                exact ⟨rfl, below_drewN HB9.out _⟩
end Go.Proofs.YtlcbhooiinaalaaGreatDoor.Cv
