/- report.ParsePath. Conditions: texts of at most 2^40 bytes. -/
import Derived.Test.YtclgemkdlgpekaaReNames
import Derived.Test.YtclgemkdlgpekaaRePath
namespace Go.Proofs.Ytclgemkdlgpekaa.Re
open Go.RowKit
set_option maxRecDepth 100000

theorem bytes_eq {s t : ByteArray} (h : s.toList = t.toList) : s = t := by
  rw [ByteArray.toList_eq, ByteArray.toList_eq] at h
  exact ByteArray.ext (Array.toList_inj.1 h)
theorem text_is {X s : ByteArray} (h : X.data.toList = s.data.toList) : (X.toList == s.toList) = true := by rw [ba_eq h]; exact beq_self_eq_true _
theorem text_not {X s : ByteArray} (h : ¬ X.data.toList = s.data.toList) : (X.toList == s.toList) = false := by
  rw [beq_eq_false_iff_ne]
  exact fun e => h (by rw [bytes_eq e])

def PpP (w : World) (s : ByteArray) (e : Ending) (w' : World) : Prop :=
  ∃ (A : Option Addr) (n c : Nat) (q : List ByteArray) (er : Int), e = .returned (.tuple #[.slice A n c, .int .i64 er]) ∧ SeesV w' w'.heap.size A n (q.map Value.string) ∧ n ≤ c ∧ Ans s.data.toList q er ∧ bulk q ≤ 4000 ∧ Below w.heap.size w w'
theorem sees_none (w : World) : SeesV w w.heap.size none 0 (([] : List ByteArray).map Value.string) := ⟨rfl, fun j u hu => by simp at hu⟩
theorem below_grown {w w' : World} {b B : Nat} (h : w.grownBy w' (some b)) (hB : B ≤ w.heap.size) (hb : B ≤ b) : Below B w w' := ⟨h.os, h.tape, h.output, h.size, fun k hk => h.block k (by omega) (fun e => by injection e with e; omega)⟩

set_option maxHeartbeats 2000000 in
theorem parse_any (s : ByteArray) (w : World) (hs : s.size ≤ 1099511627776) :
    Calls Try.prog 11 #[.string s] w (PpP w s) := by
  have hsl : s.data.toList.length = s.size := by rw [Array.length_toList]; rfl
  by_cases hl : 4000 < s.size
  · have HP : Hid (PpP w s (.returned (.tuple #[.slice none 0 0, .int .i64 5])) w) := Lib.hid ⟨none, 0, 0, [], 5, rfl, sees_none w, Nat.le_refl _, .inl ⟨by omega, rfl, rfl⟩, by simp [bulk], Below.refl _ _⟩
    have hl1 : (4000 : Int) < (s.size : Int) := by omega
    clear hsl hl
    go_enter Try.func11, Try.ntmps11
    go_wp2_with fail
    go_ret2
    exact HP.out
  · have hl1 : ¬ ((4000 : Int) < (s.size : Int)) := by omega
    obtain ⟨n, c, W, hcv, hn, hnc, hbW, hszW, hsee⟩ := run_runes s w hs
    have hrl := runesN_len s
    obtain ⟨W1, hW1⟩ : ∃ W1, W1 = W.alloc (Obj.cells #[.slice (some ⟨w.heap.size, 0, none⟩) n c] 56) := ⟨_, rfl⟩
    have hb1 : Below w.heap.size w W1 := by rw [hW1]; exact hbW.alloc hbW.size _
    have hrd : Rd W1 W.heap.size W.heap.size (runesN s) := ⟨_, n, c, by rw [hW1]; exact heap_alloc_new W _, hsee.keep (fun p hp => by rw [hW1]; exact World.cell?_of_block (Below.heap_alloc W _ _ hp)), hnc, Nat.le_refl _, by omega⟩
    have HN := Lib.hid (names_any W.heap.size W.heap.size (runesN s) W1 hrd)
    have HB1 := Lib.hid hb1
    have HZ := Lib.hid hszW
    have HZ1 : Hid (w.heap.size ≤ W1.heap.size) := Lib.hid hb1.size
    have HRL := Lib.hid hrl
    have Hl := Lib.hid hl
    have HSL := Lib.hid hsl
    clear hb1 hrd hsee hszW hrl hl hsl hbW hn hnc
    go_enter Try.func11, Try.ntmps11
    go_wp2_with fail
    rw [← hW1]
    (with_reducible refine HN.out.mono ?_)
    rintro e w2 ⟨A, n2, c2, p, rfl, ho, hg, hbk, htold⟩
    have HB2 := Lib.hid (HB1.out.trans (below_grown hg HZ1.out (by have := HZ.out; omega)))
    have HO := Lib.hid ho
    have HT := Lib.hid htold
    have HP := Lib.hid (path_any p A n2 c2 w2.heap.size w2 (Nat.le_refl _) (OwnS.sees ho) (by have := HRL.out; omega))
    have HBL := Lib.hid hbk
    have HBK := Lib.hid (show bulk p ≤ 4000 by have := HRL.out; have := Hl.out; omega)
    obtain ⟨X, hX⟩ : ∃ X : ByteArray, X = mkB (pathL p) := ⟨_, rfl⟩
    rw [← hX] at HP
    have HX := Lib.hid (show X.data.toList = pathL p by rw [hX])
    clear ho hg htold hbk hX
    go_wp2_with fail
    (with_reducible refine HP.out.mono ?_)
    rintro e w3 ⟨rfl, hb3⟩
    have HB3 := Lib.hid hb3
    clear hb3
    by_cases he : pathL p = s.data.toList
    · have hne : (X.toList == s.toList) = true := text_is (by rw [HX.out, he])
      have hA := Lib.hid (show PpP w s (.returned (.tuple #[.slice A n2 c2, .int .i64 0])) w3 from ⟨A, n2, c2, p, 0, rfl, seesV_more ((OwnS.sees HO.out).below HB3.out) HB3.out.size, (own_cap HO.out).1, .inr ⟨by have := Hl.out; have := HSL.out; omega, .inl ⟨he, rfl⟩⟩, HBK.out, HB2.out.trans (HB3.out.mono HB2.out.size)⟩)
      clear he
      go_wp2_with fail
      go_ret2
      exact hA.out
    · have hne : (X.toList == s.toList) = false := text_not (by rw [HX.out]; exact he)
      have hnone : ∀ q, pathL q ≠ s.data.toList := by
        intro q hq
        have hasc : runesN s = nats s.data.toList := runesN_ascii s (by rw [← hq]; exact pathL_ascii q)
        cases q with
        | nil =>
          have h1 : (runesN s).length = 1 := by rw [hasc, ← hq]; rfl
          have hp : p = [] := List.eq_nil_of_length_eq_zero (by have := HBL.out; have := len_bulk p; omega)
          exact he (by rw [hp]; exact hq)
        | cons x q =>
          have hp : p = x :: q := HT.out _ (by rw [hasc, ← hq]; rfl)
          exact he (by rw [hp]; exact hq)
      have hA := Lib.hid (show PpP w s (.returned (.tuple #[.slice none 0 0, .int .i64 10])) w3 from ⟨none, 0, 0, [], 10, rfl, sees_none w3, Nat.le_refl _, .inr ⟨by have := Hl.out; have := HSL.out; omega, .inr ⟨rfl, rfl, hnone⟩⟩, by simp [bulk], HB2.out.trans (HB3.out.mono HB2.out.size)⟩)
      clear he hnone
      go_wp2_with fail
      go_ret2
      exact hA.out
end Go.Proofs.Ytclgemkdlgpekaa.Re
