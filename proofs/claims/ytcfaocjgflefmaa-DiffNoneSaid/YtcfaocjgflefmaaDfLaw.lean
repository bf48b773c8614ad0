/- Trees and paths as a law's walk hands them on. Conditions: fewer than 2^20 edges. -/
import Derived.Test.YtcfaocjgflefmaaDfPath
import Derived.Test.YtcfaocjgflefmaaSame
import Derived.Test.YtcfaocjgflefmaaRaws
import Derived.Test.YtcfaocjgflefmaaMake
namespace Go.Proofs.Ytcfaocjgflefmaa.Pt
open Go.RowKit
set_option maxRecDepth 100000

theorem low_size : ∀ t : Tr, t.size ≤ 140737488351232 → t.Low
  | .nil, _ => trivial
  | .cons _ k r, h => by
    simp only [Tr.size] at h
    have := k.len_size
    exact ⟨by omega, low_size k (by omega), low_size r (by omega)⟩
structure OkT (W : World) (A : Option Addr) (n c : Nat) (t : Tr) : Prop where
  holds : Holds W W.heap.size A n t
  cap : n ≤ c ∧ c ≤ maxLen
theorem OkT.below {w w' : World} {A : Option Addr} {n c : Nat} {t : Tr} (h : OkT w A n c t) (hb : Below w.heap.size w w') : OkT w' A n c t := ⟨(h.holds.below hb).more hb.size, h.cap⟩
structure Pth (W : World) (A : Option Addr) (n c : Nat) (ps : List ByteArray) : Prop where
  sees : SeesV W W.heap.size A n (ps.map Value.string)
  cap : n ≤ c
  few : ps.length ≤ 6
theorem seesV_more {w : World} {B B' n : Nat} {A : Option Addr} {vs : List Value} (h : SeesV w B A n vs) (hB : B ≤ B') : SeesV w B' A n vs :=
  ⟨h.len, fun j u hu => by
    obtain ⟨b, o, e, hb, hc⟩ := h.cell j u hu
    exact ⟨b, o, e, Nat.lt_of_lt_of_le hb hB, hc⟩⟩
theorem Pth.below {w w' : World} {A : Option Addr} {n c : Nat} {ps : List ByteArray} (h : Pth w A n c ps) (hb : Below w.heap.size w w') : Pth w' A n c ps := ⟨seesV_more (h.sees.below hb) hb.size, h.cap, h.few⟩
theorem Pth.len {w : World} {A : Option Addr} {n c : Nat} {ps : List ByteArray} (h : Pth w A n c ps) : n = ps.length := by have := h.sees.len; rwa [List.length_map] at this

theorem withT_size {name : ByteArray} {x : Tr} : ∀ {t : Tr}, (t.withT name x).size ≤ t.size + x.size + 1
  | .nil => by simp [Tr.withT, Tr.size]
  | .cons s k r => by
    have := withT_size (name := name) (x := x) (t := r)
    unfold Tr.withT
    split
    · simp only [Tr.size]; omega
    · split
      · simp only [Tr.size]; omega
      · simp only [Tr.size]; omega
theorem putT_size {x : Tr} : ∀ (ps : List ByteArray) (t : Tr) (N : Nat), t.size ≤ N → (putT t ps x).size ≤ ps.length * (N + 1) + x.size
  | [], _, _, _ => by simp [putT]
  | p :: ps, t, N, h => by
    have h1 := putT_size (x := x) ps (kidT t p) N (Nat.le_trans (kidT_size t p) h)
    have h2 := withT_size (name := p) (x := putT (kidT t p) ps x) (t := t)
    rw [putT]
    simp only [List.length_cons, Nat.add_mul, Nat.one_mul] at h1 ⊢
    omega
theorem withoutT_size {name : ByteArray} : ∀ {t : Tr}, (withoutT t name).size ≤ t.size
  | .nil => Nat.le_refl _
  | .cons s k r => by
    have := withoutT_size (name := name) (t := r)
    rcases cases3 s name with c1 | ⟨c1, c2⟩ | ⟨c1, c2, _⟩
    · rw [withoutT_lt c1]; simp only [Tr.size]; omega
    · rw [withoutT_eq c1 c2]; simp only [Tr.size]; omega
    · rw [withoutT_gt c1 c2]; exact Nat.le_refl _
theorem dropP_size : ∀ (ps : List ByteArray) (t : Tr) (N : Nat), t.size ≤ N → (dropP t ps).size ≤ ps.length * (N + 1)
  | [], _, _, _ => by simp [dropP, Tr.size]
  | [p], t, N, h => by
    have := withoutT_size (name := p) (t := t)
    unfold dropP
    simp only [List.length_cons, List.length_nil, Nat.zero_add, Nat.one_mul]
    split <;> omega
  | p :: q :: ps, t, N, h => by
    have h1 := dropP_size (q :: ps) (kidT t p) N (Nat.le_trans (kidT_size t p) h)
    have h2 := withT_size (name := p) (x := dropP (kidT t p) (q :: ps)) (t := t)
    unfold dropP
    simp only [List.length_cons, Nat.add_mul, Nat.one_mul] at h1 ⊢
    split <;> omega
theorem mul_few {a b N : Nat} (h : a ≤ 6) (hb : b ≤ N) : a * (b + 1) ≤ 6 * (N + 1) := Nat.mul_le_mul h (by omega)
theorem makeT_ascD (W : Nat) : ∀ (t : Tr) (l d : Nat) (acc : Tr), AscD acc → AscD (t.makeT W l d acc)
  | .nil, _, _, _, h => by simpa [Tr.makeT] using h
  | .cons s k r, l, d, acc, h => by
    unfold Tr.makeT
    split
    · exact h
    · exact makeT_ascD W r _ _ _ (withT_ascD (makeT_ascD W k _ _ .nil trivial) h)
theorem withT_short {s : ByteArray} {x : Tr} (hs : s.size ≤ 30) (hx : Short x) : ∀ {t : Tr}, Short t → Short (t.withT s x)
  | .nil, _ => ⟨hs, hx, trivial⟩
  | .cons s0 k r, ⟨h1, h2, h3⟩ => by
    unfold Tr.withT
    split
    · exact ⟨h1, h2, withT_short hs hx h3⟩
    · split
      · exact ⟨hs, hx, h3⟩
      · exact ⟨hs, hx, h1, h2, h3⟩
theorem cut30_short (s : ByteArray) : (cut30 s).size ≤ 30 := by
  unfold cut30
  rw [ByteArray.size_extract]
  omega
theorem makeT_short (W : Nat) : ∀ (t : Tr) (l d : Nat) (acc : Tr), Short acc → Short (t.makeT W l d acc)
  | .nil, _, _, _, h => by simpa [Tr.makeT] using h
  | .cons s k r, l, d, acc, h => by
    unfold Tr.makeT
    split
    · exact h
    · exact makeT_short W r _ _ _ (withT_short (cut30_short s) (makeT_short W k _ _ .nil trivial) h)

/-! The contracts in these words. -/
section
variable {W : World} {A A2 Ap An : Option Addr} {n c n2 c2 np cp nn cn : Nat} {t u : Tr} {ps : List ByteArray} {ns : List Int}
def OkP (W : World) (t : Tr) (e : Ending) (w' : World) : Prop := ∃ A' n' c', e = .returned (.slice A' n' c') ∧ OkT w' A' n' c' t ∧ Below W.heap.size W w'
def OkG (W : World) (t : Tr) (v : Bool) (e : Ending) (w' : World) : Prop := ∃ A' n' c', e = .returned (.tuple #[.slice A' n' c', .bool v]) ∧ OkT w' A' n' c' t ∧ Below W.heap.size W w'
theorem same_ok (h : OkT W A n c t) (h2 : OkT W A2 n2 c2 u) (hz : t.size ≤ 1000000) (hz2 : u.size ≤ 1000000) {v : Bool} (hv : t.same u = v) : Calls Try.prog 15 #[.slice A n c, .slice A2 n2 c2] W fun e w' => e = .returned (.bool v) ∧ Below W.heap.size W w' := by
  have h1 := h.holds.len
  have h3 := h2.holds.len
  have := t.len_size
  have := u.len_size
  have := rsame_any t.size t u A A2 n n2 c c2 W.heap.size W (Nat.le_refl _) h.holds h2.holds (Nat.le_refl _) (by omega) (by omega) (low_size t (by omega)) (low_size u (by omega))
  rw [hv] at this
  exact this.mono fun _ _ ⟨e, q, hq⟩ => ⟨e, hq ▸ below_drewN (Below.refl _ _) q⟩
def OkN (W : World) (e : Ending) (w' : World) : Prop := ∃ (A' : Option Addr) (n' c' : Nat) (ps : List ByteArray), e = .returned (.slice A' n' c') ∧ Pth w' A' n' c' ps ∧ (∀ s ∈ ps, s.size ≤ 30) ∧ Below W.heap.size W w'
theorem path_ok (h : OkT W A n c t) (hn : SeesV W W.heap.size An nn (ns.map (Value.int .i64))) (hb : ∀ x ∈ ns, -9223372036854775808 ≤ x ∧ x ≤ 9223372036854775807) (hs : Short t) (hz : t.size ≤ 1000) : Calls Try.prog 22 #[.slice A n c, .slice An nn cn] W (OkN W) :=
  (path_any t A An n c nn cn ns W h.holds hn hb hs hz).mono fun _ _ ⟨A', n', c', ps, e, h1, h2, h3, h4, h5⟩ => ⟨A', n', c', ps, e, ⟨h3, h2, h1⟩, h4, h5⟩
theorem make_ok (r : Tr) (D E : Int) (B : Nat) (h : Holds W B A n r) (hB : B ≤ W.heap.size) (hc : n ≤ c ∧ c ≤ maxLen) (hz : r.size < 200) (h1 : 0 ≤ D) (h2 : D ≤ 100) (h3 : 0 ≤ E) (h4 : E ≤ 100) {u : Tr} (hu : u = r.makeT D.toNat D.toNat E.toNat .nil) : Calls Try.prog 14 #[.slice A n c, .int .i64 D, .int .i64 E] W (OkP W u) := by
  subst hu
  exact (make_any r.size r A n c B D E W (Nat.le_refl _) h hB hc.1 hc.2 (by omega) h1 h2 h3 h4).mono fun _ _ ⟨A', n', c', e, h1, h2, h3, h4⟩ => ⟨A', n', c', e, ⟨h1, h2, h3⟩, h4⟩
end
end Go.Proofs.Ytcfaocjgflefmaa.Pt
