/- schema.Check: fields, definitions, the whole, walked. Conditions: fewer than 4,096 fields, names in each. -/
import Derived.Test.YtagoeededpmdkaaScCheck
namespace Go.Proofs.Ytagoeededpmdkaa.Sc
open Go.RowKit Go.Proofs.Ytagoeededpmdkaa.Nm
set_option maxRecDepth 100000

theorem Fs.take {w : World} {B n : Nat} {A : Option Addr} {fs : List Fld} (h : Fs w B A n fs) {k : Nat} (hk : k ≤ n) : Fs w B A k (fs.take k) := by
  have hl := h.len
  refine ⟨by rw [List.length_take]; omega, fun j f hf => ?_⟩
  have hj : j < k := by
    rcases Nat.lt_or_ge j k with g | g
    · exact g
    · rw [List.getElem?_eq_none (by rw [List.length_take]; omega)] at hf; cases hf
  rw [List.getElem?_take_of_lt hj] at hf
  exact h.cell j f hf
theorem Fit.take {fs : List Fld} (h : Fit fs) (k : Nat) : Fit (fs.take k) := fun f hf => h f (List.mem_of_mem_take hf)

set_option maxHeartbeats 2000000 in
theorem field_any (ahead : List Fld) (f : Fld) (As : Option Addr) (ns cs : Nat) (A2 : Option Addr) (n2 c2 : Nat) (A : Option Addr) (n c B : Nat) (w : World) (hB : B ≤ w.heap.size) (hs : SeesV w B A n (f.n.l.map encs)) (hn : n ≤ 4096) (hF : Fs w B A2 n2 ahead) (hfit : Fit ahead) (hn2 : n2 ≤ 4096) :
    Calls Try.prog 144 #[.slice As ns cs, .slice A2 n2 c2, .agg #[.bool f.n.all, .slice A n c, .int .i64 f.to, .bool f.need]] w fun e w' => e = .returned (.int .i64 (fldC ns ahead f)) ∧ Below w.heap.size w w' := by
  obtain ⟨W1, hW1⟩ : ∃ W, W = w.alloc (Obj.cells #[Value.bool f.n.all, Value.slice A n c, Value.int .i64 f.to, Value.bool f.need] 83) := ⟨_, rfl⟩
  have g0 : W1.heap[w.heap.size]? = some (Obj.cells #[Value.bool f.n.all, Value.slice A n c, Value.int .i64 f.to, Value.bool f.need] 83) := by rw [hW1, heap_alloc_new]
  have hb1 : Below w.heap.size w W1 := by rw [hW1]; exact (Below.refl _ _).alloc (Nat.le_refl _) _
  have HL := Lib.hid (contains_long f.n A n c B W1 (hs.below (hb1.mono hB)) (by omega))
  have HN := Lib.hid (numbered_any As ns cs f.to W1)
  have HT := Lib.hid (contains_twice f ahead A A2 n c n2 c2 B w.heap.size W1 (Nat.le_trans hB hb1.size) g0 (hs.below (hb1.mono hB)) (hF.below (hb1.mono hB)) hfit hn hn2)
  have hlen := hs.len
  rw [List.length_map] at hlen
  obtain ⟨r, hr⟩ : ∃ r, r = fldC ns ahead f := ⟨_, rfl⟩
  have Hr : Hid (r = if 20 < n then 4 else if long f.n = true then 5 else if 0 ≤ f.to ∧ f.to < (ns : Int) then (if (f.need && f.n.all) = true then 3 else if ahead.any (twice f) = true then 7 else 0) else 1) := Lib.hid (by rw [hr, hlen]; rfl)
  rw [← hr]
  obtain ⟨v1, hv1⟩ : ∃ v, v = long f.n := ⟨_, rfl⟩
  obtain ⟨v2, hv2⟩ : ∃ v, v = decide (0 ≤ f.to ∧ f.to < (ns : Int)) := ⟨_, rfl⟩
  obtain ⟨v3, hv3⟩ : ∃ v, v = ahead.any (twice f) := ⟨_, rfl⟩
  obtain ⟨v4, hv4⟩ : ∃ v, v = f.need := ⟨_, rfl⟩
  obtain ⟨v5, hv5⟩ : ∃ v, v = f.n.all := ⟨_, rfl⟩
  rw [← hv1] at HL Hr
  rw [← hv2] at HN
  rw [← hv3] at HT Hr
  rw [← hv4] at g0 hW1 Hr ⊢
  rw [← hv5] at g0 hW1 Hr ⊢
  have Hv2 := Lib.hid hv2
  obtain ⟨q0, q1, q2, q3⟩ := box4 g0
  have HB1 := Lib.hid hb1
  clear hv1 hv2 hv3 hv4 hv5 hr hs hF hfit hlen hb1 g0
  by_cases c1 : 20 < n
  · have hr : r = 4 := by rw [Hr.out, if_pos c1]
    subst hr
    have c1' : (20 : Int) < (n : Int) := by omega
    go_enter Try.func144, Try.ntmps144
    go_wp2_with fail
    go_ret
    exact ⟨rfl, by rw [← hW1]; exact HB1.out⟩
  · have c1' : (n : Int) ≤ 20 := by omega
    cases v1 with
    | true =>
      have hr : r = 5 := by rw [Hr.out, if_neg c1, if_pos rfl]
      subst hr
      go_enter Try.func144, Try.ntmps144
      go_wp2_with fail
      rw [← hW1]
      clear hW1
      (with_reducible refine HL.out.mono ?_)
      rintro e w1 ⟨rfl, rfl⟩
      go_wp2_with fail
      go_ret
      exact ⟨rfl, HB1.out⟩
    | false =>
      cases v2 with
      | false =>
        have hr : r = 1 := by
          rw [Hr.out, if_neg c1, if_neg (by simp), if_neg (fun h => by rw [decide_eq_true h] at Hv2; exact absurd Hv2.out (by simp))]
        subst hr
        go_enter Try.func144, Try.ntmps144
        go_wp2_with fail
        rw [← hW1]
        clear hW1
        (with_reducible refine HL.out.mono ?_)
        rintro e w1 ⟨rfl, rfl⟩
        go_wp2_with fail
        (with_reducible refine HN.out.mono ?_)
        rintro e w1 ⟨rfl, rfl⟩
        go_wp2_with fail
        go_ret
        exact ⟨rfl, HB1.out⟩
      | true =>
        have hin := of_decide_eq_true Hv2.out.symm
        have Hr2 : Hid (r = if (v4 && v5) = true then 3 else if v3 = true then 7 else 0) := Lib.hid (by rw [Hr.out, if_neg c1, if_neg (by simp), if_pos hin])
        clear hin
        by_cases c4 : (v4 && v5) = true
        · have hr : r = 3 := by rw [Hr2.out, if_pos c4]
          subst hr
          obtain ⟨rfl, rfl⟩ : v4 = true ∧ v5 = true := by simpa using c4
          clear c4
          go_enter Try.func144, Try.ntmps144
          go_wp2_with fail
          rw [← hW1]
          clear hW1
          (with_reducible refine HL.out.mono ?_)
          rintro e w1 ⟨rfl, rfl⟩
          go_wp2_with fail
          (with_reducible refine HN.out.mono ?_)
          rintro e w1 ⟨rfl, rfl⟩
          go_wp2_with fail
          go_ret
          exact ⟨rfl, HB1.out⟩
        · have Hr3 : Hid (r = if v3 = true then 7 else 0) := Lib.hid (by rw [Hr2.out, if_neg c4])
          cases v4 <;> cases v5 <;> cases v3 <;> first
            | (exact absurd rfl c4)
            | (have hr : r = 7 := (by rw [Hr3.out]; rfl)
               subst hr
               clear c4
               go_enter Try.func144, Try.ntmps144
               go_wp2_with fail
               rw [← hW1]
               clear hW1
               (with_reducible refine HL.out.mono ?_)
               rintro e w1 ⟨rfl, rfl⟩
               go_wp2_with fail
               (with_reducible refine HN.out.mono ?_)
               rintro e w1 ⟨rfl, rfl⟩
               go_wp2_with fail
               (with_reducible refine HT.out.mono ?_)
               rintro e w2 ⟨rfl, hb2⟩
               go_wp2_with fail
               go_ret
               exact ⟨rfl, HB1.out.trans (hb2.mono HB1.out.size)⟩)
            | (have hr : r = 0 := (by rw [Hr3.out]; rfl)
               subst hr
               clear c4
               go_enter Try.func144, Try.ntmps144
               go_wp2_with fail
               rw [← hW1]
               clear hW1
               (with_reducible refine HL.out.mono ?_)
               rintro e w1 ⟨rfl, rfl⟩
               go_wp2_with fail
               (with_reducible refine HN.out.mono ?_)
               rintro e w1 ⟨rfl, rfl⟩
               go_wp2_with fail
               (with_reducible refine HT.out.mono ?_)
               rintro e w2 ⟨rfl, hb2⟩
               go_wp2_with fail
               go_ret
               exact ⟨rfl, HB1.out.trans (hb2.mono HB1.out.size)⟩)
end Go.Proofs.Ytagoeededpmdkaa.Sc
