/- With of the reference: a tree, with something below a name. Conditions: fewer edges than 2^39. -/
import Derived.Test.YtchoipmfngcdoaaMwWords
namespace Go.Proofs.Ytchoipmfngcdoaa
open Go.RowKit
set_option maxRecDepth 100000

theorem Holds.drew {w : World} {B n : Nat} {A : Option Addr} {t : Tr} (h : Holds w B A n t) : Holds w.drew B A n t := Holds.keep (w := w) (w' := w.drew) (fun _ _ => rfl) h
theorem Holds.drewN {w : World} {B n : Nat} {A : Option Addr} {t : Tr} (h : Holds w B A n t) (q : Nat) : Holds (w.drewN q) B A n t := Holds.keep (w := w) (w' := w.drewN q) (fun _ _ => rfl) h

/-- The cells of a slice of edges read as a tree. -/
def RowT (w : World) (B : Nat) : List Value → Tr → Prop
  | [], .nil => True
  | .string s' :: .slice A n c :: vs, .cons s k r => s' = s ∧ n ≤ c ∧ c ≤ maxLen ∧ Holds w B A n k ∧ RowT w B vs r
  | _, _ => False
section
variable {w w' : World} {B B' : Nat}
theorem RowT.keep (hk : ∀ p : Addr, p.block < B → w'.cell? p = w.cell? p) : ∀ {vs : List Value} {t : Tr}, RowT w B vs t → RowT w' B vs t
  | [], .nil, h => h
  | .string _ :: .slice _ _ _ :: _, .cons _ _ _, ⟨h1, h2, h3, h4, h5⟩ => ⟨h1, h2, h3, h4.keep hk, RowT.keep hk h5⟩
theorem RowT.more (hB : B ≤ B') : ∀ {vs : List Value} {t : Tr}, RowT w B vs t → RowT w B' vs t
  | [], .nil, h => h
  | .string _ :: .slice _ _ _ :: _, .cons _ _ _, ⟨h1, h2, h3, h4, h5⟩ => ⟨h1, h2, h3, h4.more hB, RowT.more hB h5⟩
theorem RowT.length : ∀ {vs : List Value} {t : Tr}, RowT w B vs t → vs.length = t.len * 2
  | [], .nil, _ => rfl
  | .string _ :: .slice _ _ _ :: vs, .cons _ _ _, ⟨_, _, _, _, h5⟩ => by simp only [List.length_cons, Tr.len, RowT.length h5]; omega
theorem RowT.one : ∀ {vs : List Value} {t : Tr}, RowT w B vs t → ∀ u ∈ vs, u.oneCell' = true
  | [], .nil, _, u, hu => by cases hu
  | .string _ :: .slice _ _ _ :: vs, .cons _ _ _, ⟨_, _, _, _, h5⟩, u, hu => by
    simp only [List.mem_cons] at hu
    rcases hu with rfl | rfl | hu
    · rfl
    · rfl
    · exact RowT.one h5 u hu
/-- What lies in memory as a tree has its cells. -/
theorem Holds.rowT : ∀ {t : Tr} {A : Option Addr} {n : Nat}, Holds w B A n t → ∃ vs, RowT w B vs t ∧ (∀ b o, A = some ⟨b, o, none⟩ → ∀ j u, vs[j]? = some u → w.cell? ⟨b, o + j, none⟩ = some u) ∧ (0 < n → ∃ b o, A = some ⟨b, o, none⟩ ∧ b < B)
  | .nil, _, _, h => ⟨[], trivial, fun _ _ _ j u hu => by simp at hu, fun hn => by rw [show _ = 0 from h] at hn; omega⟩
  | .cons s k r, _, _, ⟨b, o, e, hb, hs, ⟨A', n', c', hc, hn, hm, hk⟩, m, hm1, hr⟩ => by
    obtain ⟨vs, h1, h2, _⟩ := hr.rowT
    refine ⟨.string s :: .slice A' n' c' :: vs, ⟨rfl, hn, hm, hk, h1⟩, ?_, fun _ => ⟨b, o, e, hb⟩⟩
    intro b' o' e' j u hu
    rw [e] at e'
    cases e'
    match j with
    | 0 => simp at hu; subst hu; exact hs
    | 1 => simp at hu; subst hu; exact hc
    | j + 2 =>
      have := h2 b (o + 2) rfl j u (by simpa using hu)
      rw [show o + (j + 2) = o + 2 + j by omega]
      exact this
/-- Cells that read as a tree, at an address. -/
theorem RowT.holds : ∀ {vs : List Value} {t : Tr} {b o : Nat}, RowT w B vs t → b < B → (∀ j u, vs[j]? = some u → w.cell? ⟨b, o + j, none⟩ = some u) → Holds w B (some ⟨b, o, none⟩) t.len t
  | [], .nil, _, _, _, _, _ => rfl
  | .string _ :: .slice A n c :: vs, .cons _ k r, b, o, ⟨h1, h2, h3, h4, h5⟩, hb, hc => by
    subst h1
    refine ⟨b, o, rfl, hb, hc 0 _ rfl, ⟨A, n, c, hc 1 _ rfl, h2, h3, h4⟩, r.len, rfl, RowT.holds h5 hb (fun j u hu => ?_)⟩
    have := hc (j + 2) u (by simpa using hu)
    rw [show o + 2 + j = o + (j + 2) by omega]
    exact this
theorem RowT.take : ∀ {vs : List Value} {t : Tr} (i : Nat), RowT w B vs t → i ≤ t.len → ∃ t1, RowT w B (vs.take (i * 2)) t1 ∧ t1.len = i
  | _, .nil, 0, h, _ => ⟨.nil, by cases ‹List Value› <;> simp_all [RowT], rfl⟩
  | _, .nil, _ + 1, _, hi => by simp [Tr.len] at hi
  | _, .cons _ _ _, 0, _, _ => ⟨.nil, by simp [RowT], rfl⟩
  | .string s :: .slice A n c :: vs, .cons _ k r, i + 1, ⟨h1, h2, h3, h4, h5⟩, hi => by
    obtain ⟨t1, ht, hl⟩ := h5.take i (by simp only [Tr.len] at hi; omega)
    refine ⟨.cons s k t1, ?_, by simp only [Tr.len, hl]⟩
    rw [show (i + 1) * 2 = i * 2 + 1 + 1 by omega]
    exact ⟨rfl, h2, h3, h4, ht⟩
end

/-- With. -/
def Tr.withT : Tr → ByteArray → Tr → Tr
  | .nil, name, x => .cons name x .nil
  | .cons s k r, name, x => if Op.bytesLess s.toList name.toList = true then .cons s k (r.withT name x) else if (s.toList == name.toList) = true then .cons name x r else .cons name x (.cons s k r)

/-- The cells of With's answer. -/
theorem RowT.with_ {w : World} {B : Nat} {name : ByteArray} {x : Tr} {Ax : Option Addr} {nx cx : Nat} (hx : Holds w B Ax nx x) (hn : nx ≤ cx) (hm : cx ≤ maxLen) : ∀ {vs : List Value} {t : Tr}, RowT w B vs t →
    RowT w B (vs.take (t.atN name * 2) ++ [.string name, .slice Ax nx cx] ++ vs.drop ((t.atN name + (t.atIs name).toNat) * 2)) (t.withT name x)
  | [], .nil, _ => ⟨rfl, hn, hm, hx, trivial⟩
  | .string s :: .slice A n c :: vs, .cons _ k r, ⟨h1, h2, h3, h4, h5⟩ => by
    subst h1
    by_cases hl : Op.bytesLess s.toList name.toList = true
    · have ih := RowT.with_ (name := name) hx hn hm h5
      have e1 : (Tr.cons s k r).atN name = r.atN name + 1 := by simp only [Tr.atN]; rw [if_pos hl]
      have e2 : (Tr.cons s k r).atIs name = r.atIs name := by unfold Tr.atIs; rw [e1]; rfl
      have e3 : (Tr.cons s k r).withT name x = .cons s k (r.withT name x) := by simp only [Tr.withT]; rw [if_pos hl]
      rw [e1, e2, e3, show (r.atN name + 1) * 2 = r.atN name * 2 + 1 + 1 by omega, show (r.atN name + 1 + (r.atIs name).toNat) * 2 = (r.atN name + (r.atIs name).toNat) * 2 + 1 + 1 by omega]
      exact ⟨rfl, h2, h3, h4, ih⟩
    · have e1 : (Tr.cons s k r).atN name = 0 := by simp only [Tr.atN]; rw [if_neg hl]
      have e2 : (Tr.cons s k r).atIs name = (s.toList == name.toList) := by unfold Tr.atIs; rw [e1]; rfl
      rw [e1, e2]
      by_cases he : (s.toList == name.toList) = true
      · have e3 : (Tr.cons s k r).withT name x = .cons name x r := by simp only [Tr.withT]; rw [if_neg hl, if_pos he]
        rw [he, e3]
        exact ⟨rfl, hn, hm, hx, h5⟩
      · have e3 : (Tr.cons s k r).withT name x = .cons name x (.cons s k r) := by simp only [Tr.withT]; rw [if_neg hl, if_neg he]
        rw [e3]
        have he2 : (s.toList == name.toList) = false := by simpa using he
        rw [he2]
        exact ⟨rfl, hn, hm, hx, rfl, h2, h3, h4, h5⟩
theorem withT_len (name : ByteArray) (x t : Tr) : (t.withT name x).len + (t.atIs name).toNat = t.len + 1 := by
  induction t with
  | nil => rfl
  | cons s k r _ ih =>
    by_cases hl : Op.bytesLess s.toList name.toList = true
    · have e1 : (Tr.cons s k r).atN name = r.atN name + 1 := by simp only [Tr.atN]; rw [if_pos hl]
      have e2 : (Tr.cons s k r).atIs name = r.atIs name := by unfold Tr.atIs; rw [e1]; rfl
      rw [e2]
      simp only [Tr.withT]
      rw [if_pos hl]
      simp only [Tr.len]
      omega
    · have e1 : (Tr.cons s k r).atN name = 0 := by simp only [Tr.atN]; rw [if_neg hl]
      have e2 : (Tr.cons s k r).atIs name = (s.toList == name.toList) := by unfold Tr.atIs; rw [e1]; rfl
      rw [e2]
      simp only [Tr.withT]
      rw [if_neg hl]
      by_cases he : (s.toList == name.toList) = true
      · rw [if_pos he, he]; simp [Tr.len]
      · rw [if_neg he]
        have he2 : (s.toList == name.toList) = false := by simpa using he
        rw [he2]
        simp [Tr.len]
end Go.Proofs.Ytchoipmfngcdoaa
