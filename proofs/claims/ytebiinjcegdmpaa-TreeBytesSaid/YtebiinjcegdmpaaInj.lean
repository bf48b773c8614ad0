/- A tree's text tells the tree; so do its bytes. Conditions: of the bytes: names of at most 65535 bytes, at most 65535 edges beside one another. -/
import Derived.Test.YtebiinjcegdmpaaSame
import Derived.Test.YtebiinjcegdmpaaLaw2
import Derived.Test.YtebiinjcegdmpaaRaws
import Derived.Test.YtebiinjcegdmpaaMake
namespace Go.Proofs.Ytebiinjcegdmpaa
open Go.RowKit

theorem bytes_eq {s t : ByteArray} (h : s.toList = t.toList) : s = t := by
  rw [ByteArray.toList_eq, ByteArray.toList_eq] at h
  exact ByteArray.ext (Array.toList_inj.1 h)
theorem same_eq : ∀ {t u : Tr}, t.same u = true → t = u
  | .nil, .nil, _ => rfl
  | .cons s k r, .cons s' k' r', h => by
    simp only [Tr.same, Bool.and_eq_true, beq_iff_eq] at h
    rw [bytes_eq h.1.1, same_eq h.1.2, same_eq h.2]
  | .nil, .cons _ _ _, h => by simp [Tr.same] at h
  | .cons _ _ _, .nil, h => by simp [Tr.same] at h

theorem dig16_inj {a b : Nat} (ha : a < 16) (hb : b < 16) (h : dig16 a = dig16 b) : a = b := by
  have h := congrArg UInt8.toNat h
  unfold dig16 at h
  rw [UInt8.toNat_ofNat', UInt8.toNat_ofNat'] at h
  split at h <;> split at h <;> omega
theorem quoB_inj {c d : UInt8} {X Y : List UInt8} (h : quoB c ++ X = quoB d ++ Y) : c = d ∧ X = Y := by
  unfold quoB at h
  have hc := c.toNat_lt
  have hd := d.toNat_lt
  by_cases c1 : c.toNat = 34 ∨ c.toNat = 92
  · rw [if_pos c1] at h
    by_cases d1 : d.toNat = 34 ∨ d.toNat = 92
    · rw [if_pos d1] at h
      simpa using h
    · rw [if_neg d1] at h
      by_cases d2 : d.toNat < 32 ∨ 126 < d.toNat
      · rw [if_pos d2] at h
        simp at h
        have := h.1
        subst this
        simp at c1
      · rw [if_neg d2] at h
        simp at h
        have := h.1
        rw [← this] at d1
        simp at d1
  · rw [if_neg c1] at h
    by_cases c2 : c.toNat < 32 ∨ 126 < c.toNat
    · rw [if_pos c2] at h
      by_cases d1 : d.toNat = 34 ∨ d.toNat = 92
      · rw [if_pos d1] at h
        simp at h
        have := h.1
        subst this
        simp at d1
      · rw [if_neg d1] at h
        by_cases d2 : d.toNat < 32 ∨ 126 < d.toNat
        · rw [if_pos d2] at h
          simp only [List.cons_append, List.nil_append, List.cons.injEq, true_and] at h
          have h1 := dig16_inj (by omega) (by omega) h.1
          have h2 := dig16_inj (by omega) (by omega) h.2.1
          exact ⟨UInt8.toNat_inj.1 (by omega), h.2.2⟩
        · rw [if_neg d2] at h
          simp at h
          have := h.1
          rw [← this] at d1
          simp at d1
    · rw [if_neg c2] at h
      by_cases d1 : d.toNat = 34 ∨ d.toNat = 92
      · rw [if_pos d1] at h
        simp at h
        have := h.1
        rw [this] at c1
        simp at c1
      · rw [if_neg d1] at h
        by_cases d2 : d.toNat < 32 ∨ 126 < d.toNat
        · rw [if_pos d2] at h
          simp at h
          have := h.1
          rw [this] at c1
          simp at c1
        · rw [if_neg d2] at h
          simpa using h
theorem quoB_head {c : UInt8} {X Y : List UInt8} (h : quoB c ++ X = 34 :: Y) : False := by
  unfold quoB at h
  split at h
  · simp at h
  · split at h
    · simp at h
    · rename_i h1 _
      simp at h
      rw [h.1] at h1
      simp at h1
theorem quoL_inj : ∀ {l m : List UInt8} {X Y : List UInt8}, quoL l ++ 34 :: X = quoL m ++ 34 :: Y → l = m ∧ X = Y
  | [], [], X, Y, h => by simpa [quoL] using h
  | [], d :: m, X, Y, h => by
    simp only [quoL, List.flatMap_nil, List.flatMap_cons, List.nil_append, List.append_assoc] at h
    exact (quoB_head h.symm).elim
  | c :: l, [], X, Y, h => by
    simp only [quoL, List.flatMap_nil, List.flatMap_cons, List.nil_append, List.append_assoc] at h
    exact (quoB_head h).elim
  | c :: l, d :: m, X, Y, h => by
    simp only [quoL, List.flatMap_cons, List.append_assoc] at h
    obtain ⟨h1, h2⟩ := quoB_inj h
    obtain ⟨h3, h4⟩ := quoL_inj (l := l) (m := m) h2
    exact ⟨by rw [h1, h3], h4⟩
theorem quo_inj {l m X Y : List UInt8} (h : quo l ++ X = quo m ++ Y) : l = m ∧ X = Y := by
  simp only [quo, List.append_assoc, List.cons_append, List.nil_append, List.cons.injEq, true_and] at h
  exact quoL_inj h

theorem body_head {s : ByteArray} {k r : Tr} {X Y : List UInt8} (h : (Tr.cons s k r).body ++ X = 125 :: Y) : False := by
  cases r with
  | nil => simp [Tr.body, quo] at h
  | cons _ _ _ => simp [Tr.body, quo] at h
theorem body_inj : ∀ {t u : Tr} {X Y : List UInt8}, t.body ++ 125 :: X = u.body ++ 125 :: Y → t = u ∧ X = Y
  | .nil, .nil, X, Y, h => by simpa [Tr.body] using h
  | .nil, .cons s k r, X, Y, h => (body_head h.symm).elim
  | .cons s k r, .nil, X, Y, h => (body_head h).elim
  | .cons s k .nil, .cons s' k' .nil, X, Y, h => by
    simp only [Tr.body, List.append_assoc] at h
    obtain ⟨h1, h2⟩ := quo_inj h
    simp only [List.cons_append, List.nil_append, List.cons.injEq, true_and] at h2
    obtain ⟨h3, h4⟩ := body_inj (t := k) (u := k') h2
    simp only [List.cons.injEq, true_and] at h4
    exact ⟨by rw [ByteArray.ext (Array.toList_inj.1 h1), h3], h4⟩
  | .cons s k .nil, .cons s' k' (.cons s2 k2 r2), X, Y, h => by
    simp only [Tr.body, List.append_assoc] at h
    obtain ⟨h1, h2⟩ := quo_inj h
    simp only [List.cons_append, List.nil_append, List.cons.injEq, true_and] at h2
    obtain ⟨h3, h4⟩ := body_inj (t := k) (u := k') h2
    simp at h4
  | .cons s k (.cons s2 k2 r2), .cons s' k' .nil, X, Y, h => by
    simp only [Tr.body, List.append_assoc] at h
    obtain ⟨h1, h2⟩ := quo_inj h
    simp only [List.cons_append, List.nil_append, List.cons.injEq, true_and] at h2
    obtain ⟨h3, h4⟩ := body_inj (t := k) (u := k') h2
    simp at h4
  | .cons s k (.cons s2 k2 r2), .cons s' k' (.cons s3 k3 r3), X, Y, h => by
    rw [Tr.body, Tr.body] at h
    simp only [List.append_assoc] at h
    obtain ⟨h1, h2⟩ := quo_inj h
    simp only [List.cons_append, List.nil_append, List.cons.injEq, true_and] at h2
    obtain ⟨h3, h4⟩ := body_inj (t := k) (u := k') h2
    simp only [List.cons.injEq, true_and] at h4
    obtain ⟨h5, h6⟩ := body_inj (t := .cons s2 k2 r2) (u := .cons s3 k3 r3) h4
    exact ⟨by rw [ByteArray.ext (Array.toList_inj.1 h1), h3, h5], h6⟩
theorem text_same (t u : Tr) : (t.text == u.text) = t.same u := by
  cases h : t.same u with
  | true => rw [same_eq h]; simp
  | false =>
    refine Bool.eq_false_iff.2 fun e => ?_
    have e := beq_iff_eq.1 e
    simp only [Tr.text, List.cons_append, List.nil_append, List.cons.injEq, true_and] at e
    obtain ⟨rfl, _⟩ := body_inj (X := []) (Y := []) e
    rw [same_refl] at h
    cases h

/-- Names and widths that two bytes can tell. -/
def Tr.Slim : Tr → Prop
  | .nil => True
  | .cons s k r => s.size ≤ 65535 ∧ k.len ≤ 65535 ∧ k.Slim ∧ r.Slim
theorem leB2_inj {a b : Nat} (ha : a ≤ 65535) (hb : b ≤ 65535) {X Y : List UInt8} (h : leB 2 a ++ X = leB 2 b ++ Y) : a = b ∧ X = Y := by
  simp only [leB, List.cons_append, List.nil_append, List.cons.injEq] at h
  have h1 := congrArg UInt8.toNat h.1
  have h2 := congrArg UInt8.toNat h.2.1
  rw [UInt8.toNat_ofNat', UInt8.toNat_ofNat'] at h1 h2
  exact ⟨by omega, h.2.2⟩
theorem cnt_inj {a b : Nat} (ha : a ≤ 65535) (hb : b ≤ 65535) {X Y : List UInt8} (h : cnt a ++ X = cnt b ++ Y) : a = b ∧ X = Y := by
  simp only [cnt, leB, List.cons_append, List.nil_append, List.cons.injEq] at h
  have h1 := congrArg UInt8.toNat h.1
  have h2 := congrArg UInt8.toNat h.2.1
  rw [UInt8.toNat_ofNat', UInt8.toNat_ofNat'] at h1 h2
  exact ⟨by omega, h.2.2⟩
theorem textB_inj {s t : ByteArray} (hs : s.size ≤ 65535) (ht : t.size ≤ 65535) {X Y : List UInt8} (h : textB s ++ X = textB t ++ Y) : s = t ∧ X = Y := by
  unfold textB at h
  rw [cutText_short hs, cutText_short ht, List.append_assoc, List.append_assoc] at h
  obtain ⟨h1, h2⟩ := leB2_inj (by simpa using hs) (by simpa using ht) h
  obtain ⟨h3, h4⟩ := List.append_inj h2 h1
  exact ⟨ByteArray.ext (Array.toList_inj.1 h3), h4⟩
theorem kids_inj : ∀ {t u : Tr} {X Y : List UInt8}, t.Slim → u.Slim → t.len = u.len → t.kids ++ X = u.kids ++ Y → t = u ∧ X = Y
  | .nil, .nil, X, Y, _, _, _, h => by simpa [Tr.kids] using h
  | .nil, .cons _ _ _, X, Y, _, _, hl, _ => by simp [Tr.len] at hl
  | .cons _ _ _, .nil, X, Y, _, _, hl, _ => by simp [Tr.len] at hl
  | .cons s k r, .cons s' k' r', X, Y, ht, hu, hl, h => by
    simp only [Tr.kids, List.append_assoc] at h
    obtain ⟨h1, h2⟩ := textB_inj ht.1 hu.1 h
    obtain ⟨h3, h4⟩ := cnt_inj ht.2.1 hu.2.1 h2
    obtain ⟨h5, h6⟩ := kids_inj (t := k) (u := k') ht.2.2.1 hu.2.2.1 h3 h4
    obtain ⟨h7, h8⟩ := kids_inj (t := r) (u := r') ht.2.2.2 hu.2.2.2 (by simpa [Tr.len] using hl) h6
    exact ⟨by rw [h1, h5, h7], h8⟩
theorem bin_same {t u : Tr} (ht : t.Slim) (hu : u.Slim) (h1 : t.len ≤ 65535) (h2 : u.len ≤ 65535) : (t.bin == u.bin) = t.same u := by
  cases h : t.same u with
  | true => rw [same_eq h]; simp
  | false =>
    refine Bool.eq_false_iff.2 fun e => ?_
    have e := beq_iff_eq.1 e
    unfold Tr.bin at e
    obtain ⟨h3, h4⟩ := cnt_inj h1 h2 e
    obtain ⟨rfl, _⟩ := kids_inj (X := []) (Y := []) ht hu h3 (by simpa using h4)
    rw [same_refl] at h
    cases h

/-- What Make makes: names of at most 30 bytes, no more edges than it was given. -/
def Tr.Neat : Tr → Prop
  | .nil => True
  | .cons s k r => s.size ≤ 30 ∧ k.Neat ∧ r.Neat
theorem cut30_le (s : ByteArray) : (cut30 s).size ≤ 30 := by
  unfold cut30
  rw [ByteArray.size_extract]
  omega
theorem withT_neat {name : ByteArray} {x : Tr} (hn : name.size ≤ 30) (hx : x.Neat) : ∀ {t : Tr}, t.Neat → (t.withT name x).Neat
  | .nil, _ => ⟨hn, hx, trivial⟩
  | .cons s k r, h => by
    unfold Tr.withT
    split
    · exact ⟨h.1, h.2.1, withT_neat hn hx h.2.2⟩
    · split
      · exact ⟨hn, hx, h.2.2⟩
      · exact ⟨hn, hx, h⟩
theorem withT_size {name : ByteArray} {x : Tr} : ∀ {t : Tr}, (t.withT name x).size ≤ t.size + x.size + 1
  | .nil => by simp [Tr.withT, Tr.size]
  | .cons s k r => by
    have := withT_size (name := name) (x := x) (t := r)
    unfold Tr.withT
    split
    · simp only [Tr.size]; omega
    · split
      · simp only [Tr.size]; omega
      · simp only [Tr.size]; omega
theorem makeT_neat (W : Nat) : ∀ (t : Tr) (l d : Nat) (acc : Tr), acc.Neat → (t.makeT W l d acc).Neat
  | .nil, _, _, _, h => by simpa [Tr.makeT] using h
  | .cons s k r, l, d, acc, h => by
    unfold Tr.makeT
    split
    · exact h
    · exact makeT_neat W r _ _ _ (withT_neat (cut30_le s) (makeT_neat W k _ _ .nil trivial) h)
theorem makeT_size (W : Nat) : ∀ (t : Tr) (l d : Nat) (acc : Tr), (t.makeT W l d acc).size ≤ acc.size + t.size
  | .nil, _, _, acc => by simp [Tr.makeT]
  | .cons s k r, l, d, acc => by
    unfold Tr.makeT
    split
    · simp only [Tr.size]; omega
    · have h1 := makeT_size W r (l - 1) d (acc.withT (cut30 s) (k.makeT W W (d - 1) .nil))
      have h2 := makeT_size W k W (d - 1) .nil
      have h3 := withT_size (name := cut30 s) (x := k.makeT W W (d - 1) .nil) (t := acc)
      simp only [Tr.size] at h2 ⊢
      omega
theorem Tr.Neat.bulk : ∀ {t : Tr}, t.Neat → t.bulk ≤ 30 * t.size
  | .nil, _ => by simp [Tr.bulk]
  | .cons s k r, h => by
    have h1 := h.2.1.bulk
    have h2 := h.2.2.bulk
    have := h.1
    simp only [Tr.bulk, Tr.size]
    omega
theorem Tr.Neat.slim : ∀ {t : Tr}, t.Neat → t.size ≤ 65535 → t.Slim
  | .nil, _, _ => trivial
  | .cons s k r, h, hs => by
    simp only [Tr.size] at hs
    have := k.len_size
    exact ⟨by have := h.1; omega, by omega, h.2.1.slim (by omega), h.2.2.slim (by omega)⟩
theorem Tr.Slim.low : ∀ {t : Tr}, t.Slim → t.Low
  | .nil, _ => trivial
  | .cons _ _ _, h => ⟨by have := h.2.1; omega, h.2.2.1.low, h.2.2.2.low⟩
theorem Tr.Fit.low : ∀ {t : Tr}, t.Fit → t.Low
  | .nil, _ => trivial
  | .cons _ _ _, h => ⟨h.2.1, h.2.2.1.low, h.2.2.2.low⟩
end Go.Proofs.Ytebiinjcegdmpaa
