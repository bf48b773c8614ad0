/- schema.numbered, counted, To; Level's closures; every of edges, of fields. Conditions: slices no longer than slices can be. -/
import Derived.Test.YtagoeededpmdkaaScEdge
import Derived.Deep.RegionHeld3
namespace Go.Proofs.Ytagoeededpmdkaa.Sc
open Go.RowKit Go.Proofs.Ytagoeededpmdkaa.Nm
set_option maxRecDepth 100000

theorem numbered_any (A : Option Addr) (n c : Nat) (d : Int) (w : World) :
    Calls Try.prog 102 #[.slice A n c, .int .i64 d] w fun e w' => e = .returned (.bool (decide (0 ≤ d ∧ d < (n : Int)))) ∧ w = w' := by
  by_cases h0 : 0 ≤ d
  · by_cases h1 : d < (n : Int)
    · have H : Hid (decide (0 ≤ d ∧ d < (n : Int)) = true) := Lib.hid (decide_eq_true ⟨h0, h1⟩)
      rw [H.out]
      go_enter Try.func102, Try.ntmps102
      go_wp2
      go_ret
      exact ⟨rfl, rfl⟩
    · have H : Hid (decide (0 ≤ d ∧ d < (n : Int)) = false) := Lib.hid (decide_eq_false (fun h => h1 h.2))
      rw [H.out]
      go_enter Try.func102, Try.ntmps102
      go_wp2
      go_ret
      exact ⟨rfl, rfl⟩
  · have H : Hid (decide (0 ≤ d ∧ d < (n : Int)) = false) := Lib.hid (decide_eq_false (fun h => h0 h.1))
    rw [H.out]
    go_enter Try.func102, Try.ntmps102
    go_wp2
    go_ret
    exact ⟨rfl, rfl⟩

theorem counted_any (d : Df) (A : Option Addr) (n c k : Nat) (w : World) :
    Calls Try.prog 103 #[.agg #[.slice A n c, .bool d.one, .bool d.some], .int .i64 k] w fun e w' => e = .returned (.bool (counts d k)) ∧ Below w.heap.size w w' := by
  have hb : ∀ o : Obj, Below w.heap.size w (w.alloc o) := fun o => (Below.refl _ _).alloc (Nat.le_refl _) o
  have HB := Lib.hid hb
  clear hb
  obtain ⟨p, q, hp⟩ : ∃ p q : Bool, p = d.one ∧ q = d.some := ⟨_, _, rfl, rfl⟩
  have H : Hid (counts d k = ((!p || decide (k = 1)) && (!q || decide (1 ≤ k)))) := Lib.hid (by rw [hp.1, hp.2]; rfl)
  rw [H.out, ← hp.1, ← hp.2]
  clear H hp
  obtain ⟨r, hr⟩ : ∃ r, r = ((!p || decide (k = 1)) && (!q || decide (1 ≤ k))) := ⟨_, rfl⟩
  have Hr := Lib.hid hr
  rw [← hr]
  clear hr
  by_cases h1 : k = 1
  · have hq1 : ((k : Int) == 1) = true := by rw [h1]; rfl
    have hq2 : (1 : Int) ≤ (k : Int) := by omega
    have hr2 : r = true := by rw [Hr.out, h1]; cases p <;> cases q <;> rfl
    subst hr2
    clear h1
    cases p <;> cases q <;> (go_enter Try.func103, Try.ntmps103; go_wp2; go_ret; exact ⟨rfl, HB.out _⟩)
  · have hq1 : ((k : Int) == 1) = false := by rw [beq_eq_false_iff_ne]; omega
    by_cases h2 : 1 ≤ k
    · have hq2 : (1 : Int) ≤ (k : Int) := by omega
      have hr2 : r = !p := by rw [Hr.out, decide_eq_false h1, decide_eq_true h2]; cases p <;> cases q <;> rfl
      subst hr2
      clear h1
      cases p <;> cases q <;> (go_enter Try.func103, Try.ntmps103; go_wp2; go_ret; exact ⟨rfl, HB.out _⟩)
    · have hq2 : ¬ (1 : Int) ≤ (k : Int) := by omega
      have hq3 : (k : Int) < 1 := by omega
      have hr2 : r = (!p && !q) := by rw [Hr.out, decide_eq_false h1, decide_eq_false h2]; cases p <;> cases q <;> rfl
      subst hr2
      clear h1
      cases p <;> cases q <;> (go_enter Try.func103, Try.ntmps103; go_wp2; go_ret; exact ⟨rfl, HB.out _⟩)

theorem box3 {w : World} {g : Nat} {u v x : Value} {T : TypeId} (h : w.heap[g]? = some (.cells #[u, v, x] T (0, 0))) : w.cell? ⟨g, 0, none⟩ = some u ∧ w.cell? ⟨g, 1, none⟩ = some v ∧ w.cell? ⟨g, 2, none⟩ = some x :=
  ⟨by rw [cell_of_row w g 0 _ _ _ h]; rfl, by rw [cell_of_row w g 1 _ _ _ h]; rfl, by rw [cell_of_row w g 2 _ _ _ h]; rfl⟩
theorem box4 {w : World} {g : Nat} {u v x y : Value} {T : TypeId} (h : w.heap[g]? = some (.cells #[u, v, x, y] T (0, 0))) : w.cell? ⟨g, 0, none⟩ = some u ∧ w.cell? ⟨g, 1, none⟩ = some v ∧ w.cell? ⟨g, 2, none⟩ = some x ∧ w.cell? ⟨g, 3, none⟩ = some y :=
  ⟨by rw [cell_of_row w g 0 _ _ _ h]; rfl, by rw [cell_of_row w g 1 _ _ _ h]; rfl, by rw [cell_of_row w g 2 _ _ _ h]; rfl, by rw [cell_of_row w g 3 _ _ _ h]; rfl⟩
theorem toF_drop {x : List UInt8} {fs : List Fld} {k : Nat} {f : Fld} (h : fs[k]? = some f) : toF x (fs.drop k) = if f.n.mem x = true then f.to else toF x (fs.drop (k + 1)) := by
  have hk : k < fs.length := (List.getElem?_eq_some_iff.1 h).1
  rw [List.drop_eq_getElem_cons hk]
  have : fs[k] = f := by rw [List.getElem?_eq_getElem hk] at h; exact Option.some.inj h
  rw [this]
  rfl

/-- A definition's fields: how a schema's cell leads there. -/
theorem Ds.at {w : World} {B n : Nat} {A : Option Addr} {s : List Df} (h : Ds w B A n s) {k : Nat} (hk : k < n) : ∃ b o D A2 n2 c2, A = some ⟨b, o, none⟩ ∧ b < B ∧ s[k]? = some D ∧ w.cell? ⟨b, o + k * 3, none⟩ = some (.slice A2 n2 c2) ∧ w.cell? ⟨b, o + k * 3 + 1, none⟩ = some (.bool D.one) ∧ w.cell? ⟨b, o + k * 3 + 2, none⟩ = some (.bool D.some) ∧ Fs w B A2 n2 D.fs ∧ n2 ≤ c2 ∧ c2 ≤ maxLen := by
  have hl : k < s.length := by rw [← h.len]; exact hk
  obtain ⟨b, o, e, hb, A2, n2, c2, h1, h2, h3, h4, h5, h6⟩ := h.cell k s[k] (List.getElem?_eq_getElem hl)
  exact ⟨b, o, s[k], A2, n2, c2, e, hb, List.getElem?_eq_getElem hl, h1, h2, h3, h4, h5, h6⟩
theorem Fs.at {w : World} {B n : Nat} {A : Option Addr} {fs : List Fld} (h : Fs w B A n fs) {k : Nat} (hk : k < n) : ∃ b o f A2 n2 c2, A = some ⟨b, o, none⟩ ∧ b < B ∧ fs[k]? = some f ∧ w.cell? ⟨b, o + k * 4, none⟩ = some (.bool f.n.all) ∧ w.cell? ⟨b, o + k * 4 + 1, none⟩ = some (.slice A2 n2 c2) ∧ w.cell? ⟨b, o + k * 4 + 2, none⟩ = some (.int .i64 f.to) ∧ w.cell? ⟨b, o + k * 4 + 3, none⟩ = some (.bool f.need) ∧ SeesV w B A2 n2 (f.n.l.map encs) ∧ n2 ≤ maxLen ∧ 0 ≤ c2 := by
  have hl : k < fs.length := by rw [← h.len]; exact hk
  obtain ⟨b, o, e, hb, A2, n2, c2, h1, h2, h3, h4, h5, h6, h7⟩ := h.cell k fs[k] (List.getElem?_eq_getElem hl)
  exact ⟨b, o, fs[k], A2, n2, c2, e, hb, List.getElem?_eq_getElem hl, h1, h2, h3, h4, h5, h6, h7⟩

set_option maxHeartbeats 2000000 in
theorem to_any (s : List Df) (A : Option Addr) (n c B : Nat) (d : Int) (x : ByteArray) (w : World) (h : Ds w B A n s) (hB : B ≤ w.heap.size) (_ : n ≤ 9223372036854775807) :
    Calls Try.prog 57 #[.slice A n c, .int .i64 d, .string x] w fun e w' => e = .returned (.int .i64 (toS s d x.data.toList)) ∧ Below w.heap.size w w' := by
  have Hn := Lib.hid h.len
  have HN := Lib.hid (fun W => numbered_any A n c d W)
  by_cases hin : 0 ≤ d ∧ d < (n : Int)
  · rw [decide_eq_true hin] at HN
    obtain ⟨k, rfl⟩ : ∃ k : Nat, d = k := ⟨d.toNat, by omega⟩
    have hk : k < n := by omega
    obtain ⟨b, o, D, A2, n2, c2, rfl, hb, hD, h1, h2, h3, hF, h5, h6⟩ := h.at hk
    have HT : Hid (toS s k x.data.toList = toF x.data.toList D.fs) := Lib.hid (toS_in hD _)
    rw [HT.out]
    have Hn2 := Lib.hid hF.len
    unfold maxLen at h6
    have hkn : (k : Int) < (n : Int) := by omega
    have hk0 : (0 : Int) ≤ (k : Int) := by omega
    obtain ⟨r, hr⟩ : ∃ r, r = toF x.data.toList D.fs := ⟨_, rfl⟩
    have Hr := Lib.hid hr
    rw [← hr]
    clear hr HT hin h2 h3 h hD
    go_enter Try.func57, Try.ntmps57
    go_wp2_with fail
    (with_reducible refine (HN.out _).mono ?_)
    rintro e w' ⟨rfl, rfl⟩
    go_wp2_with fail
    go_loopw [19] (fun i wr => ∃ j : Nat, j ≤ n2 ∧ i = .int .i64 j ∧ Hid (toF x.data.toList (D.fs.drop j) = r) ∧ Below w.heap.size w wr) (fun i _ => n2 - (intOf i).toNat)
    case atStart => exact ⟨0, Nat.zero_le _, rfl, Lib.hid (by rw [List.drop_zero, Hr.out]), Below.refl _ _⟩
    case round =>
      obtain ⟨j, hj, rfl, H, hbw⟩ := hrel
      by_cases hlt : j < n2
      · obtain ⟨b2, o2, f, A3, n3, c3, rfl, hb2, hf, f1, f2, f3, f4, hS, f5, f6⟩ := (hF.below (hbw.mono hB)).at hlt
        unfold maxLen at f5
        have hjn : (j : Int) < (n2 : Int) := by omega
        have hj0 : (0 : Int) ≤ (j : Int) := by omega
        have hsz := hbw.size
        obtain ⟨W1, hW1⟩ : ∃ W, W = wr.alloc (Obj.cells #[Value.bool f.n.all, Value.slice A3 n3 c3, Value.int .i64 f.to, Value.bool f.need] 83) := ⟨_, rfl⟩
        have g0 : W1.heap[wr.heap.size]? = some (Obj.cells #[Value.bool f.n.all, Value.slice A3 n3 c3, Value.int .i64 f.to, Value.bool f.need] 83) := by rw [hW1, heap_alloc_new]
        have hb1 : Below wr.heap.size wr W1 := by rw [hW1]; exact (Below.refl _ _).alloc (Nat.le_refl _) _
        have hIn : In W1 f.n A3 n3 := ⟨SeesV.more (Nat.le_trans (Nat.le_trans hB hsz) hb1.size) (hS.below (hb1.mono (Nat.le_trans hB hsz)))⟩
        have HC := Lib.hid (has_name f.n A3 n3 c3 x W1 hIn (by omega))
        have HD := Lib.hid (toF_drop (x := x.data.toList) hf)
        have HB1 := Lib.hid hb1
        have HG := Lib.hid g0
        obtain ⟨q0, q1, q2, q3⟩ := box4 g0
        obtain ⟨m, hm⟩ : ∃ m, m = f.n.mem x.data.toList := ⟨_, rfl⟩
        rw [← hm] at HC HD
        clear hm hb1 g0 hf hS hIn
        cases m with
        | true =>
          have hr2 : r = f.to := by rw [← H.out, HD.out, if_pos rfl]
          subst hr2
          go_wp2_with fail
          rw [← hW1]
          go_wp2_with fail
          (with_reducible refine HC.out.mono ?_)
          rintro e w1 ⟨rfl, hb3⟩
          obtain ⟨p0, p1, p2, p3⟩ := box4 (Below.box hb3 HG.out)
          go_wp2_with fail
          go_ret
          exact ⟨rfl, hbw.trans ((HB1.out.trans (hb3.mono HB1.out.size)).mono hsz)⟩
        | false =>
          have H2 : Hid (toF x.data.toList (D.fs.drop (j + 1)) = r) := Lib.hid (by rw [← H.out, HD.out]; rfl)
          go_wp2_with fail
          rw [← hW1]
          go_wp2_with fail
          (with_reducible refine HC.out.mono ?_)
          rintro e w1 ⟨rfl, hb3⟩
          go_wp2_with fail
          go_roundw
          case rel => exact ⟨j + 1, by omega, by go_num, H2, hbw.trans ((HB1.out.trans (hb3.mono HB1.out.size)).mono hsz)⟩
          case measure => simp [intOf]; omega
      · obtain rfl : j = n2 := by omega
        have hr2 : r = -1 := by
          rw [← H.out, List.drop_of_length_le (by rw [← Hn2.out]; exact Nat.le_refl _)]
          rfl
        subst hr2
        go_wp2_with fail
        go_ret
        exact ⟨rfl, hbw⟩
  · rw [decide_eq_false hin] at HN
    have HT : Hid (toS s d x.data.toList = -1) := Lib.hid (toS_out (by rw [← Hn.out]; exact hin) _)
    rw [HT.out]
    clear h hin
    go_enter Try.func57, Try.ntmps57
    go_wp2_with fail
    (with_reducible refine (HN.out _).mono ?_)
    rintro e w' ⟨rfl, rfl⟩
    go_wp2_with fail
    go_ret
    exact ⟨rfl, Below.refl _ _⟩
end Go.Proofs.Ytagoeededpmdkaa.Sc
