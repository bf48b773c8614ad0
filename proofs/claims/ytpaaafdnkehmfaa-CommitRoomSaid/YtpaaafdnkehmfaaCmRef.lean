/- commit's laws: the reference's journal. No conditions but that there are few bytes. -/
import Derived.Test.YtpaaafdnkehmfaaCmTwiceW
import Derived.Test.YtpaaafdnkehmfaaRefPut
namespace Go.Proofs.Ytpaaafdnkehmfaa.Vf
open Go.RowKit
set_option maxRecDepth 100000

/-- The reference's files. -/
structure Fq (w : World) (A : Option Addr) (n : Nat) (l : FL) : Prop where
  len : n = l.length
  at_ : ∀ (k : Nat) (x : BS × BS), l[k]? = some x → ∃ g o, A = some ⟨g, o, none⟩ ∧ g < w.heap.size ∧ w.cell? ⟨g, o + k * 2, none⟩ = some (.string ⟨x.1.toArray⟩) ∧ w.cell? ⟨g, o + k * 2 + 1, none⟩ = some (.string ⟨x.2.toArray⟩)
theorem Fq.below {w w' : World} {A : Option Addr} {n : Nat} {l : FL} (h : Fq w A n l) (hb : Below w.heap.size w w') : Fq w' A n l :=
  ⟨h.len, fun k x hx => by
    obtain ⟨g, o, e, hg, h1, h2⟩ := h.at_ k x hx
    exact ⟨g, o, e, Nat.lt_of_lt_of_le hg hb.size, (hb.cell (p := ⟨g, o + k * 2, none⟩) hg).trans h1, (hb.cell (p := ⟨g, o + k * 2 + 1, none⟩) hg).trans h2⟩⟩
def vq : FL → List Value
  | [] => []
  | x :: r => .string ⟨x.1.toArray⟩ :: .string ⟨x.2.toArray⟩ :: vq r
theorem vq_app (a b : FL) : vq (a ++ b) = vq a ++ vq b := by
  induction a with
  | nil => rfl
  | cons x r ih => simp only [List.cons_append, vq, ih]
theorem vq_get : ∀ (l : FL) (k : Nat) {x : BS × BS}, l[k]? = some x → (vq l)[k * 2]? = some (.string ⟨x.1.toArray⟩) ∧ (vq l)[k * 2 + 1]? = some (.string ⟨x.2.toArray⟩)
  | [], k, x, h => by simp at h
  | y :: r, 0, x, h => by
    obtain rfl : y = x := by simpa using h
    exact ⟨rfl, rfl⟩
  | y :: r, k + 1, x, h => by
    have := vq_get r k (x := x) (by simpa using h)
    refine ⟨?_, ?_⟩
    · rw [show (k + 1) * 2 = k * 2 + 2 by omega]; simpa [vq] using this.1
    · rw [show (k + 1) * 2 + 1 = k * 2 + 1 + 2 by omega]; simpa [vq] using this.2
theorem own_fq {w : World} {base n c : Nat} {A : Option Addr} {l : FL} (ho : w.ownsRow base 105 2 (.slice A n c) n (vq l)) (hn : n = l.length) : Fq w A n l := by
  refine ⟨hn, fun k x hk => ?_⟩
  obtain ⟨g1, g2⟩ := vq_get l k hk
  have hkl : k < l.length := (List.getElem?_eq_some_iff.1 hk).1
  rcases ho.2 with ⟨e, hn⟩ | ⟨g, cap, cur, e, hg, hh, h1, h2, h3, h4⟩
  · omega
  · injection e with e1 e2 e3
    have ht : ∀ j u, (vq l)[j]? = some u → w.cell? ⟨g, 0 + j, none⟩ = some u := fun j u hu => by
      rw [cell_of_row _ _ _ _ _ _ hh, Nat.zero_add]
      have h5 : (cur.toList.take (n * 2))[j]? = some u := by rw [h4]; exact hu
      rw [List.getElem?_take] at h5
      split at h5
      · simpa using h5
      · cases h5
    exact ⟨g, 0, e1, (Array.getElem?_eq_some_iff.1 hh).1, ht _ _ g1, ht _ _ g2⟩
theorem elem_rfile : Elem Try.prog 61 105 (.agg #[.string ⟨#[]⟩, .string ⟨#[]⟩]) 2 32 := ⟨Try.underlying61, by kernel_rfl, rfl, by omega⟩
theorem src_rfile {V : World} {a b : Value} {g : Nat} (hV : V.heap[g]? = some (.cells #[a, b] 105 (0, 0))) (ha : a.oneCell' = true) (hb : b.oneCell' = true) :
    Src Try.prog 2 61 (.slice (some ⟨g, 0, none⟩) 1 1) 1 [a, b] V :=
  Src.laid Try.underlying61 rfl (fun j u hu => by rw [cell_of_row _ _ _ _ _ _ hV, ← hu]; simp) (fun u hu => by
    simp only [List.mem_cons, List.not_mem_nil, or_false] at hu
    rcases hu with rfl | rfl
    · exact ha
    · exact hb)
set_option maxHeartbeats 8000000 in
theorem of_any (l : FL) (A : Option Addr) (n c : Nat) (w : World) (h : Fr w (fun g => g < w.heap.size) A n l) (hn : n ≤ 100) :
    Calls Try.prog 34 #[.slice A n c] w fun e w' => ∃ A' c', e = .returned (.slice A' n c') ∧ Fq w' A' n l ∧ Below w.heap.size w w' := by
  have HH := Lib.hid h
  have hnl := h.len
  have HNL := Lib.hid hnl
  clear h hnl
  go_enter Try.func34, Try.ntmps34
  go_wp2_with fail
  go_loopw [3, 4] (fun s i wr => ∃ (k : Nat) (A' : Option Addr) (c' : Nat), k ≤ n ∧ i = .int .i64 (k : Int) ∧ s = .slice A' k c' ∧ Hid (wr.ownsRow w.heap.size 105 2 (.slice A' k c') k (vq (l.take k)) ∧ Below w.heap.size w wr)) (fun _ i _ => n - (intOf i).toNat)
  case atStart => exact ⟨0, none, 0, Nat.zero_le _, rfl, rfl, Lib.hid ⟨World.ownsRow_nil _ _ _ _, Below.refl _ _⟩⟩
  case round =>
    obtain ⟨k, A', c', hk, rfl, rfl, HG⟩ := hrel
    by_cases hlt : k < n
    · obtain ⟨⟨s, xb⟩, hx⟩ : ∃ x, l[k]? = some x := ⟨_, List.getElem?_eq_getElem (by have := HNL.out; omega)⟩
      obtain ⟨b, o, Af, nf, cf, rfl, hbl, hc1, hc2, hsf, hnc, hcm⟩ := (HH.out.below HG.out.2).at_ k (s, xb) hx
      have hlen : nf = xb.length := hsf.len
      subst hlen
      simp only at hc1 hc2 hsf
      have hkn : (k : Int) < (n : Int) := by omega
      have hk0 : (0 : Int) ≤ (k : Int) := by omega
      have hcv0 : (convert 31 9 (.slice Af xb.length cf)).run Try.prog wr.drew = .ok (.string ⟨xb.toArray⟩) wr.drew := seesP_text (hsf.keep fun g _ => rfl)
      have q1 : wr.drew.cell? ⟨b, o + k * 2, none⟩ = some (.string ⟨s.toArray⟩) := hc1
      have q2 : wr.drew.cell? ⟨b, o + k * 2 + 1, none⟩ = some (.slice Af xb.length cf) := hc2
      have htk : l.take (k + 1) = l.take k ++ [(s, xb)] := by
        obtain ⟨hl, e⟩ := List.getElem?_eq_some_iff.1 hx
        rw [List.take_succ_eq_append_getElem hl, e]
      have hsrc := src_rfile (V := (wr.alloc (Obj.cells #[.string ⟨s.toArray⟩, .string ⟨xb.toArray⟩] 105)).drew) (g := wr.heap.size) (a := .string ⟨s.toArray⟩) (b := .string ⟨xb.toArray⟩) (heap_alloc_new wr _) rfl rfl
      obtain ⟨A5, c5, w5, hr5, ho5, hg5, _⟩ := run_append_row 61 elem_rfile ((HG.out.1.alloc _).drew) hsrc (by omega) (by have := HG.out.2.size; simp; omega)
      have hb5 : Below w.heap.size w w5 := by
        refine HG.out.2.trans ?_
        have hb2 : Below w.heap.size wr (wr.alloc (Obj.cells #[.string ⟨s.toArray⟩, .string ⟨xb.toArray⟩] 105)).drew := ((Below.refl w.heap.size wr).alloc HG.out.2.size _).drew
        exact hb2.trans ((Below.refl _ _).grown hg5 (by have := HG.out.2.size; simp; omega) fun g hg => (HG.out.1.lt g hg).1)
      have ho5' : w5.ownsRow w.heap.size 105 2 (.slice A5 (k + 1) c5) (k + 1) (vq (l.take (k + 1))) := by
        rw [htk, vq_app]; exact ho5
      have HN := Lib.hid (And.intro ho5' hb5)
      have HLT := Lib.hid hlt
      clear hx hsf hcm hnc hlt hsrc ho5 hg5 htk hb5 ho5' hc1 hc2
      go_wp2_with fail
      go_region_law (refine step_append_run (vs := .slice A' k c') (vx := .slice (some ⟨wr.heap.size, 0, none⟩) 1 1) (v := .slice A5 (k + 1) c5) (w' := w5) rfl (.tmp 11) (.tmp 24) 61 61 rfl rfl rfl hr5 ?_)
      all_goals
        go_wp2_with fail
        go_roundw
        case rel => exact ⟨k + 1, A5, c5, HLT.out, by go_num, rfl, HN⟩
        case measure => have := HLT.out; simp [intOf]; omega
    · obtain rfl : k = n := by omega
      have hkn : ¬ (k : Int) < (k : Int) := by omega
      have hfq := own_fq HG.out.1 (by rw [List.length_take]; have := HNL.out; omega)
      rw [List.take_of_length_le (by have := HNL.out; omega)] at hfq
      have HFQ := Lib.hid hfq
      clear hfq
      go_wp2_with fail
      go_ret
      exact ⟨A', ⟨c', rfl⟩, HFQ.out, HG.out.2⟩
theorem wrL_small {l : FL} (h : Few100 l) (k : Nat) : (wrL (l.take k)).length ≤ 2040 := by
  have h0 : ∀ m : FL, (∀ x ∈ m, x.1.length ≤ 100 ∧ x.2.length ≤ 100) → (wrL m).length ≤ m.length * 204 := by
    intro m
    induction m with
    | nil => exact fun _ => Nat.zero_le _
    | cons x m ih =>
      intro h
      have h1 := h x (by simp)
      have := ih fun y hy => h y (by simp [hy])
      simp only [wrL, List.length_append, tx_length, List.length_cons]
      omega
  have h1 := h0 (l.take k) fun x hx => h.size x (List.mem_of_mem_take hx)
  have h2 : (l.take k).length ≤ 10 := by rw [List.length_take]; have := h.cnt; omega
  omega
set_option maxHeartbeats 8000000 in
theorem bytes16_any (l : FL) (A : Option Addr) (n c : Nat) (w : World) (h : Fq w A n l) (hf : Few100 l) :
    Calls Try.prog 33 #[.slice A n c] w fun e w' => e = .returned (.string ⟨(wr l).toArray⟩) ∧ Below w.heap.size w w' := by
  have HH := Lib.hid h
  have hnl := h.len
  have hn10 : n ≤ 10 := by have := hf.cnt; omega
  have hby := rputByte_any none 0 0 w.heap.size [] (n : Int) w (Own.nil _ _) (Nat.le_refl _) (by decide)
  rw [show (((n : Int) % 256).toNat) = n by omega] at hby
  have HBY := Lib.hid hby
  have HNL := Lib.hid hnl
  have HF := Lib.hid hf
  clear h hnl hf hby
  go_enter Try.func33, Try.ntmps33
  go_wp2_with (go_at_call 35; (with_reducible refine HBY.out.mono ?_); rintro e w1 ⟨⟨A1, n1, c1, rfl, ho1⟩, _, hg1⟩; have HO1 := Lib.hid ho1; have HB1 := Lib.hid ((Below.refl w.heap.size w).grown hg1 (Nat.le_refl _) (fun k e => by cases e)); clear ho1 hg1)
  go_loopw [3, 4] (fun s i wr => ∃ (k : Nat) (A' : Option Addr) (N c' : Nat), k ≤ n ∧ i = .int .i64 (k : Int) ∧ s = .slice A' N c' ∧ Hid (Own wr w.heap.size A' N c' (leB 1 n ++ wrL (l.take k)) ∧ Below w.heap.size w wr)) (fun _ i _ => n - (intOf i).toNat)
  case atStart => exact ⟨0, A1, n1, c1, Nat.zero_le _, rfl, rfl, Lib.hid ⟨by rw [show wrL (l.take 0) = [] from rfl, List.append_nil]; exact HO1.out, HB1.out⟩⟩
  case round =>
    obtain ⟨k, A', N, c', hk, rfl, rfl, HG⟩ := hrel
    by_cases hlt : k < n
    · obtain ⟨⟨s, xb⟩, hx⟩ : ∃ x, l[k]? = some x := ⟨_, List.getElem?_eq_getElem (by have := HNL.out; omega)⟩
      obtain ⟨b, o, rfl, hbl, hc1, hc2⟩ := HH.out.at_ k (s, xb) hx
      simp only at hc1 hc2
      have hsz := HF.out.size (s, xb) (List.mem_of_getElem? hx)
      simp only at hsz
      have hkn : (k : Int) < (n : Int) := by omega
      have hk0 : (0 : Int) ≤ (k : Int) := by omega
      have hnx := wr_next hx
      simp only at hnx
      have hle := wrL_small HF.out k
      have hNl := HG.out.1.len
      rw [List.length_append, leB_length] at hNl
      have p1 : wr.drew.cell? ⟨b, o + k * 2, none⟩ = some (.string ⟨s.toArray⟩) := (HG.out.2.cell (p := ⟨b, o + k * 2, none⟩) hbl).trans hc1
      have p2 : wr.drew.cell? ⟨b, o + k * 2 + 1, none⟩ = some (.string ⟨xb.toArray⟩) := (HG.out.2.cell (p := ⟨b, o + k * 2 + 1, none⟩) hbl).trans hc2
      have ht1 := rputText_any A' N c' w.heap.size (leB 1 n ++ wrL (l.take k)) ⟨s.toArray⟩ wr.drew HG.out.1.drew HG.out.2.size (by omega) (by show s.toArray.size ≤ _; rw [List.size_toArray]; omega)
      rw [textB_tx (by omega)] at ht1
      have ht2 : ∀ W A2 N2 c2, w.heap.size ≤ W.heap.size → Own W w.heap.size A2 N2 c2 (leB 1 n ++ wrL (l.take k) ++ tx s) → Calls Try.prog 61 #[.slice A2 N2 c2, .string ⟨xb.toArray⟩] W fun en w' => PutGot en W w' w.heap.size A2 N2 c2 (leB 1 n ++ wrL (l.take k) ++ tx s) (tx xb) := fun W A2 N2 c2 hW ho => by
        have hN2 := ho.len
        simp only [List.length_append, leB_length, tx_length] at hN2
        have h := rputText_any A2 N2 c2 w.heap.size _ ⟨xb.toArray⟩ W ho hW (by omega) (by show xb.toArray.size ≤ _; rw [List.size_toArray]; omega)
        rw [textB_tx (by omega)] at h
        exact h
      have HT1 := Lib.hid ht1
      have HT2 := Lib.hid ht2
      have HNX := Lib.hid hnx
      have HLT := Lib.hid hlt
      have HBL := Lib.hid hbl
      clear ht1 ht2 hnx hlt hx hc1 hc2 hle hNl hsz
      go_wp2_with fail
      go_region_held3 (fun W => W.cell? ⟨b, o + k * 2, none⟩ = some (.string ⟨s.toArray⟩) ∧ W.cell? ⟨b, o + k * 2 + 1, none⟩ = some (.string ⟨xb.toArray⟩)) (first | exact ⟨p1, p2⟩ | exact ⟨p3, p4⟩ | exact ⟨p5, p6⟩)
        (first
        | (go_at_call 61; (with_reducible refine HT1.out.mono ?_); rintro e w2 ⟨⟨A2, N2, c2, rfl, ho2⟩, _, hg2⟩; have hbb2 : Below w.heap.size wr.drew w2 := (Below.refl _ _).grown hg2 HG.out.2.size (fun g e => (HG.out.1.lt g e).1); have p3 := (hbb2.cell (p := ⟨b, o + k * 2, none⟩) HBL.out).trans p1; have p4 := (hbb2.cell (p := ⟨b, o + k * 2 + 1, none⟩) HBL.out).trans p2; have HO2 := Lib.hid ho2; have HB2 := Lib.hid (HG.out.2.trans (below_und hbb2)); clear ho2 hg2)
        | (go_at_call 61; (with_reducible refine (HT2.out _ _ _ _ HB2.out.size HO2.out).mono ?_); rintro e w3 ⟨⟨A3, N3, c3, rfl, ho3⟩, _, hg3⟩; have hbb3 : Below w.heap.size w2 w3 := (Below.refl _ _).grown hg3 HB2.out.size (fun g e => (HO2.out.lt g e).1); have p5 := (hbb3.cell (p := ⟨b, o + k * 2, none⟩) HBL.out).trans p3; have p6 := (hbb3.cell (p := ⟨b, o + k * 2 + 1, none⟩) HBL.out).trans p4; have HO3 := Lib.hid ho3; have HB3 := Lib.hid (HB2.out.trans hbb3); clear ho3 hg3))
      all_goals
        go_wp2_with fail
        go_roundw
        case rel => exact ⟨k + 1, A3, N3, c3, HLT.out, by go_num, rfl, Lib.hid ⟨by rw [HNX.out]; simpa only [List.append_assoc] using HO3.out, HB3.out⟩⟩
        case measure => have := HLT.out; simp [intOf]; omega
    · obtain rfl : k = n := by omega
      have hkn : ¬ (k : Int) < (k : Int) := by omega
      have e : leB 1 k ++ wrL (l.take k) = Vf.wr l := by rw [List.take_of_length_le (by have := HNL.out; omega), Vf.wr, ← HNL.out]
      have ho := HG.out.1
      rw [e] at ho
      have hcv := text_run (c := c') ho.sees
      have HB := Lib.hid HG.out.2
      clear e ho
      go_wp2_with fail
      go_ret
      exact ⟨rfl, HB.out⟩
end Go.Proofs.Ytpaaafdnkehmfaa.Vf
