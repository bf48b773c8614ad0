/- commit: what Commit and Recover do to files; the journal; the mathematics alone. No conditions. -/
import Derived.Test.YtpaaafdnkehmfaaVfMath
import Derived.Test.YtpaaafdnkehmfaaFace
namespace Go.Proofs.Ytpaaafdnkehmfaa.Vf
set_option maxRecDepth 100000

def jN : BS := [106, 111, 117, 114, 110, 97, 108]
def mN : BS := [109, 97, 114, 107]
/-- A text in the journal. -/
def tx (b : BS) : BS := leB 2 b.length ++ b
def wrL : FL → BS
  | [] => []
  | x :: r => tx x.1 ++ (tx x.2 ++ wrL r)
def wr (l : FL) : BS := leB 1 l.length ++ wrL l
theorem wrL_app (a b : FL) : wrL (a ++ b) = wrL a ++ wrL b := by
  induction a with
  | nil => rfl
  | cons x r ih => simp only [List.cons_append, wrL, ih, List.append_assoc]
theorem tx_length (b : BS) : (tx b).length = 2 + b.length := by simp [tx, leB_length]

/-- One file, others ahead of it. -/
def chk1 (pre : FL) (x : BS × BS) : Int := if x.1.length < 1 ∨ 20 < x.1.length ∨ x.1 = jN ∨ x.1 = mN then 12 else if (pre.any fun y => y.1 == x.1) = true then 7 else if 8000 < x.2.length then 5 else 0
def chkL : FL → FL → Int
  | _, [] => 0
  | pre, x :: r => if chk1 pre x = 0 then chkL (pre ++ [x]) r else chk1 pre x
def chk (l : FL) : Int := if l.length < 1 ∨ 8 < l.length then 1 else chkL [] l

/-- Reading back: n files. -/
def rdL : Nat → BS → Int → FL × BS × Int
  | 0, r, e => ([], r, e)
  | n + 1, r, e => (((txStep r e).1, (txStep (txStep r e).2.1 (txStep r e).2.2).1) :: (rdL n (txStep (txStep r e).2.1 (txStep r e).2.2).2.1 (txStep (txStep r e).2.1 (txStep r e).2.2).2.2).1,
      (rdL n (txStep (txStep r e).2.1 (txStep r e).2.2).2.1 (txStep (txStep r e).2.1 (txStep r e).2.2).2.2).2)
def rdA (b : BS) : FL × BS × Int := rdL (rdStep 1 b 0).1 (rdStep 1 b 0).2.1 (rdStep 1 b 0).2.2
def rdOk (b : BS) : Bool := decide ((rdA b).2.2 = 0 ∧ (rdA b).2.1 = [] ∧ chk (rdA b).1 = 0)

/-- What is done step by step. -/
inductive St
  | w (k b : BS)
  | r (k : BS)
  | f
def St.act : St → Vm → Int × Vm
  | .w k b, V => V.write k b
  | .r k, V => V.remove k
  | .f, V => V.flush
def stq (s : Int × Vm) (x : St) : Int × Vm := if s.1 = 0 then x.act s.2 else s
def runs (l : List St) (s : Int × Vm) : Int × Vm := l.foldl stq s
theorem runs_app (a b : List St) (s : Int × Vm) : runs (a ++ b) s = runs b (runs a s) := List.foldl_append
theorem runs_cons (x : St) (b : List St) (s : Int × Vm) : runs (x :: b) s = runs b (stq s x) := rfl
theorem stq_err {s : Int × Vm} (h : s.1 ≠ 0) (x : St) : stq s x = s := by unfold stq; rw [if_neg h]
theorem runs_err {s : Int × Vm} (h : s.1 ≠ 0) : ∀ l : List St, runs l s = s
  | [] => rfl
  | x :: l => by rw [runs_cons, stq_err h]; exact runs_err h l
def wrs (l : FL) : List St := l.map fun x => .w x.1 x.2
def begins (l : FL) : List St := [.w jN (wr l), .f, .w mN [], .f]
def mids (l : FL) : List St := wrs l ++ [.f, .r mN, .f]
def ends : List St := [.r jN, .f]

/-- How many bytes a file will have more than now. -/
def gn (f : FL) (x : BS × BS) : Int := (x.2.length : Int) - (olen (fnd f x.1) : Int)
def gns (f l : FL) : List Int := l.map (gn f)
def sumP : List Int → Int
  | [] => 0
  | n :: r => max n 0 + sumP r
def fitL (room : Int) : Int → List Int → Bool
  | _, [] => true
  | u, n :: r => if room < u + n then false else fitL room (u + n) r
def cmt (V : Vm) (l : FL) : Int × Vm :=
  if chk l ≠ 0 then (chk l, V) else if V.dead = true then (15, V) else if V.room < (used V.now : Int) + ((wr l).length : Int) + sumP (gns V.now l) then (14, V) else runs (begins l ++ (mids l ++ ends)) (0, V)
def agn (V : Vm) (b : BS) : Int × Vm :=
  if rdOk b = true then (if fitL V.room (used V.now) (gns V.now (rdA b).1) = true then runs (mids (rdA b).1 ++ ends) (0, V) else (14, V)) else (10, V)
def rcv (V : Vm) : Int × Vm :=
  if V.dead = true then (15, V) else if (fnd V.now mN).isSome = true then agn V ((fnd V.now jN).getD []) else if (fnd V.now jN).isSome = true then runs ends (0, V) else (0, V)

/-! The journal is read as it was written. -/
theorem rdS_leB (k v : Nat) (l : BS) (h : v < 2 ^ (8 * k)) : rdStep k (leB k v ++ l) 0 = (v, l, 0) := by
  have hl := leB_length k v
  rw [rdStep_yes (by rw [List.length_append]; omega), List.take_left' hl, List.drop_left' hl, valB_leB k v h]
theorem txS_tx (b l : BS) (h : b.length ≤ 65535) : txStep (tx b ++ l) 0 = (b, l, 0) := by
  unfold txStep tx
  rw [List.append_assoc, rdS_leB 2 b.length _ (by omega)]
  rw [txNext_yes (by rw [List.length_append]; omega), List.take_left' rfl, List.drop_left' rfl]
theorem rdL_wrL : ∀ (l : FL) (r : BS), (∀ x ∈ l, x.1.length ≤ 65535 ∧ x.2.length ≤ 65535) → rdL l.length (wrL l ++ r) 0 = (l, r, 0)
  | [], r, _ => rfl
  | x :: l, r, h => by
    obtain ⟨h1, h2⟩ := h x (by simp)
    have e1 : txStep (wrL (x :: l) ++ r) 0 = (x.1, tx x.2 ++ (wrL l ++ r), 0) := by
      simp only [wrL, List.append_assoc]
      exact txS_tx _ _ h1
    have e2 := txS_tx x.2 (wrL l ++ r) h2
    have ih := rdL_wrL l r fun y hy => h y (by simp [hy])
    rw [List.length_cons, rdL, e1]
    simp only [e2, ih]
theorem chkL_each : ∀ (l pre : FL), chkL pre l = 0 → ∀ (i : Nat) (x : BS × BS), l[i]? = some x → chk1 (pre ++ l.take i) x = 0
  | [], _, _, i, x, hx => by simp at hx
  | y :: r, pre, h, i, x, hx => by
    unfold chkL at h
    by_cases h1 : chk1 pre y = 0
    · rw [if_pos h1] at h
      match i, hx with
      | 0, hx =>
        obtain rfl : y = x := by simpa using hx
        simpa using h1
      | i + 1, hx =>
        have := chkL_each r (pre ++ [y]) h i x (by simpa using hx)
        simpa using this
    · rw [if_neg h1] at h
      exact absurd h h1
theorem chk1_ok {pre : FL} {x : BS × BS} (h : chk1 pre x = 0) : (1 ≤ x.1.length ∧ x.1.length ≤ 20 ∧ x.1 ≠ jN ∧ x.1 ≠ mN) ∧ (∀ y ∈ pre, y.1 ≠ x.1) ∧ x.2.length ≤ 8000 := by
  unfold chk1 at h
  by_cases h1 : x.1.length < 1 ∨ 20 < x.1.length ∨ x.1 = jN ∨ x.1 = mN
  · rw [if_pos h1] at h; cases h
  · rw [if_neg h1] at h
    by_cases h2 : (pre.any fun y => y.1 == x.1) = true
    · rw [if_pos h2] at h; cases h
    · rw [if_neg h2] at h
      by_cases h3 : 8000 < x.2.length
      · rw [if_pos h3] at h; cases h
      · refine ⟨⟨by omega, by omega, fun e => h1 (by simp [e]), fun e => h1 (by simp [e])⟩, fun y hy e => h2 ?_, by omega⟩
        exact List.any_eq_true.2 ⟨y, hy, by simp [e]⟩
structure Okl (l : FL) : Prop where
  cnt : 1 ≤ l.length ∧ l.length ≤ 8
  name : ∀ x ∈ l, 1 ≤ x.1.length ∧ x.1.length ≤ 20 ∧ x.1 ≠ jN ∧ x.1 ≠ mN
  size : ∀ x ∈ l, x.2.length ≤ 8000
  two : l.Pairwise fun a b => a.1 ≠ b.1
theorem chk_ok {l : FL} (h : chk l = 0) : Okl l := by
  unfold chk at h
  by_cases h1 : l.length < 1 ∨ 8 < l.length
  · rw [if_pos h1] at h; cases h
  · rw [if_neg h1] at h
    have he := chkL_each l [] h
    refine ⟨by omega, fun x hx => ?_, fun x hx => ?_, List.pairwise_iff_getElem.2 fun i j hi hj hij => ?_⟩
    · obtain ⟨i, hi⟩ := List.getElem?_of_mem hx
      exact (chk1_ok (he i x hi)).1
    · obtain ⟨i, hi⟩ := List.getElem?_of_mem hx
      exact (chk1_ok (he i x hi)).2.2
    · refine (chk1_ok (he j _ (List.getElem?_eq_getElem hj))).2.1 _ ?_
      rw [List.nil_append]
      exact List.mem_take_iff_getElem.2 ⟨i, by omega, rfl⟩
theorem rdA_wr {l : FL} (h : Okl l) : rdA (wr l) = (l, [], 0) := by
  have e1 : rdStep 1 (wr l) 0 = (l.length, wrL l, 0) := rdS_leB 1 _ _ (by have := h.cnt; omega)
  have e2 := rdL_wrL l [] fun x hx => by have := h.name x hx; have := h.size x hx; omega
  unfold rdA
  rw [e1]
  simpa using e2
theorem rdOk_wr {l : FL} (h : chk l = 0) : rdOk (wr l) = true := by
  unfold rdOk
  rw [rdA_wr (chk_ok h)]
  simp [h]
theorem okl_wrL_le {l : FL} : ∀ {m : FL}, (∀ x ∈ m, x.1.length ≤ 20 ∧ x.2.length ≤ 8000) → (wrL m).length ≤ m.length * 8024
  | [], _ => Nat.zero_le _
  | x :: m, h => by
    have h1 := h x (by simp)
    have := okl_wrL_le (l := l) (m := m) fun y hy => h y (by simp [hy])
    simp only [wrL, List.length_append, tx_length, List.length_cons]
    omega
theorem wr_le {l : FL} (h : Okl l) : (wr l).length ≤ 65536 := by
  have := okl_wrL_le (l := l) (m := l) fun x hx => ⟨(h.name x hx).2.1, h.size x hx⟩
  have := h.cnt
  simp only [wr, List.length_append, leB_length]
  omega
end Go.Proofs.Ytpaaafdnkehmfaa.Vf
