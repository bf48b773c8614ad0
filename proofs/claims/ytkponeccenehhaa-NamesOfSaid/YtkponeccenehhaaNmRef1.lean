/- cadenceref3's in, Has, None, Exact. Conditions: fewer than 2^62 names. -/
import Derived.Test.YtkponeccenehhaaNmOpen
import Derived.Deep.QuietTactic
import Derived.BigQuiet
namespace Go.Proofs.Ytkponeccenehhaa.Nm
open Go.RowKit
set_option maxRecDepth 100000

theorem bytes_ne {s t : ByteArray} (h : s.data.toList ≠ t.data.toList) : (s.toList == t.toList) = false := by
  rw [beq_eq_false_iff_ne, tl_eq, tl_eq]
  exact h
theorem bytes_is {s t : ByteArray} (h : s.data.toList = t.data.toList) : (s.toList == t.toList) = true := by
  rw [beq_iff_eq, tl_eq, tl_eq]
  exact h
/-- The name at a place. -/
theorem nth {w : World} {B n j : Nat} {A : Option Addr} {ss : List (List UInt8)} (h : SeesV w B A n (ss.map encs)) (hj : j < n) : ∃ b o s, A = some ⟨b, o, none⟩ ∧ b < B ∧ w.cell? ⟨b, o + j, none⟩ = some (.string s) ∧ ss[j]? = some s.data.toList := by
  have hl := h.len
  rw [List.length_map] at hl
  have hj' : j < ss.length := by omega
  obtain ⟨b, o, e, hb, hc⟩ := h.cell j (encs ss[j]) (by rw [List.getElem?_map, List.getElem?_eq_getElem hj']; rfl)
  exact ⟨b, o, ⟨ss[j].toArray⟩, e, hb, hc, by rw [List.getElem?_eq_getElem hj']⟩
theorem mem_take {ss : List (List UInt8)} {k : Nat} {x y : List UInt8} (h : ss[k]? = some y) : x ∈ ss.take (k + 1) ↔ x ∈ ss.take k ∨ x = y := by
  rw [List.take_add_one, h]
  simp

set_option maxHeartbeats 1000000 in
theorem in_any (ss : List (List UInt8)) (A : Option Addr) (n c B : Nat) (x : ByteArray) (w : World) (h : SeesV w B A n (ss.map encs)) (hn : n ≤ 4611686018427387904) :
    Calls Try.prog 39 #[.slice A n c, .string x] w fun e w' => e = .returned (.bool (decide (x.data.toList ∈ ss))) ∧ w = w' := by
  have hl := h.len
  rw [List.length_map] at hl
  have Hl := Lib.hid hl
  have HN := Lib.hid (fun j (hj : j < n) => nth h hj)
  obtain ⟨d, hd⟩ : ∃ d, d = decide (x.data.toList ∈ ss) := ⟨_, rfl⟩
  have Hd := Lib.hid hd
  rw [← hd]
  clear hl h hd
  go_enter Try.func39, Try.ntmps39
  go_wp2_with fail
  go_loop [5] (fun i => ∃ k : Nat, k ≤ n ∧ i = .int .i64 k ∧ Hid (x.data.toList ∉ ss.take k)) (fun i => n - (intOf i).toNat)
  case atStart => exact ⟨0, Nat.zero_le _, rfl, Lib.hid (by simp)⟩
  case round =>
    obtain ⟨k, hk, rfl, H⟩ := hrel
    by_cases hlt : k < n
    · obtain ⟨b, o, s, rfl, _, hc, hs⟩ := HN.out k hlt
      have Hs := Lib.hid hs
      clear hs
      have hkn : (k : Int) < (n : Int) := by omega
      have hk0 : (0 : Int) ≤ (k : Int) := by omega
      by_cases he : s.data.toList = x.data.toList
      · have hq := bytes_is he
        have Hd2 : d = true := by
          rw [Hd.out, decide_eq_true_iff, ← he]
          exact List.mem_of_getElem? Hs.out
        subst Hd2
        clear he
        go_wp2_with fail
        go_ret
        exact ⟨rfl, rfl⟩
      · have hq := bytes_ne he
        have H2 : Hid (x.data.toList ∉ ss.take (k + 1)) := Lib.hid (by rw [mem_take Hs.out]; exact fun g => g.elim H.out (fun g => he g.symm))
        clear he
        go_wp2_with fail
        go_round
        case rel => exact ⟨k + 1, by omega, by go_num, H2⟩
        case measure => simp [intOf]; omega
    · obtain rfl : k = n := by omega
      have Hd2 : d = false := by
        rw [Hd.out, decide_eq_false_iff_not]
        have := H.out
        rwa [List.take_of_length_le (by rw [← Hl.out]; exact Nat.le_refl _)] at this
      subst Hd2
      go_wp2_with fail
      go_ret
      exact ⟨rfl, rfl⟩

theorem rhas_any (a : St) (A : Option Addr) (n c : Nat) (x : ByteArray) (w : World) (h : In w a A n) (hn : n ≤ 4611686018427387904) :
    Calls Try.prog 27 #[.agg #[.bool a.all, .slice A n c], .string x] w fun e w' => e = .returned (.bool (a.mem x.data.toList)) ∧ Below w.heap.size w w' := by
  unfold St.mem
  have HC : Hid (∀ W, Below w.heap.size w W → Calls Try.prog 39 #[.slice A n c, .string x] W fun e w' => e = .returned (.bool (decide (x.data.toList ∈ a.l))) ∧ W = w') :=
    Lib.hid fun W hb => in_any a.l A n c w.heap.size x W (h.sees.keep fun p hp => hb.cell hp) hn
  obtain ⟨d, hd⟩ : ∃ d, d = decide (x.data.toList ∈ a.l) := ⟨_, rfl⟩
  obtain ⟨y, hy⟩ : ∃ y, y = a.all := ⟨_, rfl⟩
  rw [← hd] at HC ⊢
  rw [← hy]
  clear hd hy h
  obtain ⟨W1, hW1⟩ : ∃ W, W = w.alloc (Obj.cells #[Value.bool y, Value.slice A n c] 25) := ⟨_, rfl⟩
  have g0 : W1.heap[w.heap.size]? = some (Obj.cells #[Value.bool y, Value.slice A n c] 25) := by rw [hW1, heap_alloc_new]
  have hb1 : Below w.heap.size w W1 := by rw [hW1]; exact (Below.refl _ _).alloc (Nat.le_refl _) _
  obtain ⟨q0, q1, _, _⟩ := box2 g0
  have hb0 : Below w.heap.size w W1.drew := hb1.drew
  go_enter Try.func27, Try.ntmps27
  go_wp2_with fail
  rw [← hW1]
  clear hW1
  go_region_held3 (fun w' => w' = W1.drew ∧ w'.cell? ⟨w.heap.size, 0, none⟩ = some (.bool y) ∧ w'.cell? ⟨w.heap.size, 1, none⟩ = some (.slice A n c))
    (exact ⟨rfl, q0, q1⟩)
    ((go_at_call 39; (with_reducible refine (HC.out _ hb0).mono ?_); rintro e w' ⟨rfl, rfl⟩))
  all_goals
    go_wp2_with fail
    go_ret
    refine ⟨?_, hb0⟩
    cases d <;> cases y <;> rfl

set_option maxHeartbeats 1000000 in
/-- Two sets written alike. -/
theorem exact_yes (a b : St) (A A2 : Option Addr) (n c n2 c2 : Nat) (w : World) (ha : In w a A n) (hb : In w b A2 n2) (h0 : a.all = b.all) (hl : a.l = b.l) (hn : n ≤ 4611686018427387904) :
    Calls Try.prog 19 #[.agg #[.bool a.all, .slice A n c], .agg #[.bool b.all, .slice A2 n2 c2]] w fun e w' => e = .returned (.bool true) ∧ Below w.heap.size w w' := by
  obtain ⟨W1, hW1, g0, g1, gs, gb⟩ := two w (Obj.cells #[Value.bool a.all, Value.slice A n c] 25) (Obj.cells #[Value.bool b.all, Value.slice A2 n2 c2] 25)
  have ha1 := (ha.below gb).sees
  have hb1 := (hb.below gb).sees
  have hn2 : n2 = n := by rw [ha.len, hb.len, hl]
  subst hn2
  rw [← hl] at hb1
  rw [← h0] at g1 hW1 ⊢
  obtain ⟨x, hx⟩ : ∃ x, x = a.all := ⟨_, rfl⟩
  rw [← hx] at g0 g1 hW1 ⊢
  clear hx h0 hl ha hb
  have HN := Lib.hid (fun j (hj : j < n2) => nth ha1 hj)
  have HM := Lib.hid (fun j (hj : j < n2) => nth hb1 hj)
  obtain ⟨p0, p1, _, _⟩ := box2 g0
  obtain ⟨p2, p3, _, _⟩ := box2 g1
  clear ha1 hb1 g0 g1
  go_enter Try.func19, Try.ntmps19
  go_wp2_with fail
  rw [← hW1]
  clear hW1
  go_loopw [5] (fun i wr => ∃ (k q : Nat), k ≤ n2 ∧ i = .int .i64 k ∧ wr = W1.drewN q) (fun i _ => n2 - (intOf i).toNat)
  case atStart => exact ⟨0, 0, Nat.zero_le _, rfl, rfl⟩
  case round =>
    obtain ⟨k, q, hk, rfl, rfl⟩ := hrel
    by_cases hlt : k < n2
    · obtain ⟨b1, o1, s1, rfl, _, hc1, hs1⟩ := HN.out k hlt
      obtain ⟨b2, o2, s2, rfl, _, hc2, hs2⟩ := HM.out k hlt
      have he : s1.toList = s2.toList := by
        rw [hs1] at hs2
        injection hs2 with hs2
        rw [tl_eq, tl_eq]
        exact hs2
      have hq := beq_iff_eq.2 he
      have hkn : (k : Int) < (n2 : Int) := by omega
      have hk0 : (0 : Int) ≤ (k : Int) := by omega
      clear hs1 hs2
      go_wp2_with fail
      go_quiet (fail)
      all_goals
        go_wp2_with fail
        go_roundw
        case rel => exact ⟨k + 1, _, by omega, by go_num, rfl⟩
        case measure => simp [intOf]; omega
    · obtain rfl : k = n2 := by omega
      go_wp2_with fail
      go_ret
      exact ⟨rfl, ⟨gb.os, gb.tape, gb.output, gb.size, gb.block⟩⟩
end Go.Proofs.Ytkponeccenehhaa.Nm
