/- cadenceref3's put: names in order with one more. Conditions: a row in order, fewer than 2^39 names. -/
import Derived.Test.YtagoeededpmdkaaNmRef1
namespace Go.Proofs.Ytagoeededpmdkaa.Nm
open Go.RowKit
set_option maxRecDepth 100000

theorem lt_of_not {x y : List UInt8} (h1 : ¬ y < x) (h2 : y ≠ x) : x < y := by
  rcases List.le_total x y with h | h
  · by_cases h3 : y ≤ x
    · exact absurd (List.le_antisymm h3 h) h2
    · simpa using h3
  · by_cases h3 : x ≤ y
    · exact absurd (List.le_antisymm h h3) h2
    · exact absurd (by simpa using h3) h1
theorem ins_facts {ss : List (List UInt8)} {x : List UInt8} {p : Nat} (hs : ss.Pairwise (· < ·)) (hp : p ≤ ss.length) (hc : ∀ t y, ss[t]? = some y → (y < x ↔ t < p)) (hx : x ∉ ss) :
    (ss.take p ++ [x] ++ ss.drop p).Pairwise (· < ·) ∧ (∀ y, y ∈ ss.take p ++ [x] ++ ss.drop p ↔ y = x ∨ y ∈ ss) ∧ (ss.take p ++ [x] ++ ss.drop p).length = ss.length + 1 := by
  have h1 : ∀ y ∈ ss.take p, y < x := by
    intro y hy
    obtain ⟨t, ht, e⟩ := List.getElem_of_mem hy
    rw [List.getElem_take] at e
    rw [List.length_take] at ht
    exact (hc t y (by rw [List.getElem?_eq_getElem (by omega), e])).2 (by omega)
  have h2 : ∀ y ∈ ss.drop p, x < y := by
    intro y hy
    obtain ⟨t, ht, e⟩ := List.getElem_of_mem hy
    rw [List.getElem_drop] at e
    rw [List.length_drop] at ht
    refine lt_of_not (fun g => ?_) (fun g => hx (g ▸ List.mem_of_mem_drop hy))
    have := (hc (p + t) y (by rw [List.getElem?_eq_getElem (by omega), e])).1 g
    omega
  refine ⟨?_, fun y => ?_, ?_⟩
  · rw [List.append_assoc, List.pairwise_append]
    refine ⟨hs.sublist (List.take_sublist _ _), ?_, fun a ha b hb => ?_⟩
    · rw [List.singleton_append, List.pairwise_cons]
      exact ⟨h2, hs.sublist (List.drop_sublist _ _)⟩
    · rw [List.singleton_append, List.mem_cons] at hb
      rcases hb with rfl | hb
      · exact h1 a ha
      · exact List.lt_trans (h1 a ha) (h2 b hb)
  · conv => rhs; rw [← List.take_append_drop p ss]
    simp only [List.mem_append, List.mem_singleton]
    constructor
    · rintro ((h | h) | h)
      · exact .inr (.inl h)
      · exact .inl h
      · exact .inr (.inr h)
    · rintro (h | h | h)
      · exact .inl (.inr h)
      · exact .inl (.inl h)
      · exact .inr h
  · simp only [List.length_append, List.length_take, List.length_drop, List.length_cons, List.length_nil]
    omega

def Put (ss : List (List UInt8)) (x : List UInt8) (w : World) (e : Ending) (w' : World) : Prop :=
  ∃ (A' : Option Addr) (c' : Nat) (ss' : List (List UInt8)), e = .returned (.slice A' ss'.length c') ∧ (A' = none ∧ c' = 0 ∨ ∃ b o, A' = some ⟨b, o, none⟩) ∧ SeesV w' w'.heap.size A' ss'.length (ss'.map encs) ∧ ss'.length ≤ c' ∧ ss'.Pairwise (· < ·) ∧ (∀ y, y ∈ ss' ↔ y = x ∨ y ∈ ss) ∧ ss'.length ≤ ss.length + 1 ∧ Below w.heap.size w w'

theorem own_cap' {w : World} {base n c size : Nat} {A : Option Addr} {e : TypeId} {vs : List Value} (ho : w.ownsRow base e size (.slice A n c) n vs) : n ≤ c ∧ (A = none ∧ c = 0 ∨ ∃ b o, A = some ⟨b, o, none⟩) := by
  rcases ho.2 with ⟨e1, hn0⟩ | ⟨g, cap, cur, e1, _, _, h1, h2, _⟩
  · injection e1 with e0 e2 e3
    subst e0; subst e2; subst e3
    exact ⟨Nat.le_refl _, .inl ⟨rfl, rfl⟩⟩
  · injection e1 with e0 _ e3
    subst e0; subst e3
    exact ⟨h1, .inr ⟨_, _, rfl⟩⟩

set_option maxHeartbeats 2000000 in
theorem put_any (ss : List (List UInt8)) (hs : ss.Pairwise (· < ·)) (A : Option Addr) (n c : Nat) (x : ByteArray) (w : World) (h : SeesV w w.heap.size A n (ss.map encs)) (hnc : n ≤ c) (hA : A = none ∧ c = 0 ∨ ∃ b o, A = some ⟨b, o, none⟩) (hn : n ≤ 549755813888) :
    Calls Try.prog 141 #[.slice A n c, .string x] w (Put ss x.data.toList w) := by
  obtain ⟨p, hpn, hlt, hmem⟩ := cut ss x.data.toList hs
  have hl := h.len
  rw [List.length_map] at hl
  have HC : Hid (∀ t, t < n → ∃ b o s, A = some ⟨b, o, none⟩ ∧ w.cell? ⟨b, o + t, none⟩ = some (.string s) ∧ Op.bytesLess s.toList x.toList = decide (t < p) ∧ (t = p → (s.toList == x.toList) = decide (x.data.toList ∈ ss))) := by
    intro t ht
    obtain ⟨b, o, s, e, _, hc, hst⟩ := nth h ht
    refine ⟨b, o, s, e, hc, ?_, fun hp' => ?_⟩
    · rw [Bool.eq_iff_iff, less_iff, decide_eq_true_iff]
      exact hlt t _ hst
    · subst hp'
      rw [Bool.eq_iff_iff, decide_eq_true_iff, hmem, beq_iff_eq, tl_eq, tl_eq, hst, Option.some.injEq]
  have HN : Hid (p = n → x.data.toList ∉ ss) := by
    intro e
    rw [hmem, List.getElem?_eq_none (by omega)]
    simp
  have hpn2 : p ≤ n := by omega
  have HF := Lib.hid (fun hx => ins_facts hs hpn hlt hx)
  have HA := Lib.hid hA
  have HH := Lib.hid h
  have Hl := Lib.hid hl
  have HS := Lib.hid hs
  clear hmem hlt hs hl hpn h hA
  go_enter Try.func141, Try.ntmps141
  go_wp2_with fail
  go_loop [5] (fun i => ∃ k : Nat, i = .int .i64 k ∧ k ≤ p) (fun i => p - (intOf i).toNat)
  case atStart => exact ⟨0, rfl, Nat.zero_le _⟩
  case round =>
    obtain ⟨k, rfl, hkp⟩ := hrel
    by_cases hk : k < p
    · obtain ⟨b, o, s, rfl, hc, hls, _⟩ := HC.out k (by omega)
      rw [decide_eq_true hk] at hls
      have hkn : (k : Int) < (n : Int) := by omega
      have hk0 : (0 : Int) ≤ (k : Int) := by omega
      have Hk := Lib.hid hk
      clear hk
      go_wp2_with fail
      go_round
      case rel => exact ⟨k + 1, by go_num, by have := Hk.out; omega⟩
      case measure => have := Hk.out; simp [intOf]; omega
    · obtain rfl : k = p := by omega
      have hk0 : (0 : Int) ≤ (k : Int) := by omega
      by_cases hx : x.data.toList ∈ ss
      · have hkn' : k < n := by
          rcases Nat.lt_or_ge k n with g | g
          · exact g
          · exact absurd hx (HN.out (by omega))
        obtain ⟨b, o, s, rfl, hc, hls, heq⟩ := HC.out k hkn'
        have heq := heq rfl
        rw [decide_eq_true hx] at heq
        rw [decide_eq_false hk] at hls
        have hkn : (k : Int) < (n : Int) := by omega
        have Hx := Lib.hid hx
        clear hx hk
        go_wp2_with fail
        go_ret
        refine ⟨_, c, ss, by rw [← Hl.out]; rfl, HA.out, by rw [← Hl.out]; exact HH.out, by rw [← Hl.out]; exact hnc, HS.out, fun y => ⟨Or.inr, fun g => g.elim (fun g => g ▸ Hx.out) id⟩, by omega, Below.refl _ _⟩
      · have hcond : Hid (∀ t, t < n → t = k → ∃ b o s, A = some ⟨b, o, none⟩ ∧ w.cell? ⟨b, o + t, none⟩ = some (.string s) ∧ Op.bytesLess s.toList x.toList = false ∧ (s.toList == x.toList) = false) := by
          refine Lib.hid fun t ht e => ?_
          obtain ⟨b, o, s, e1, hc, hls, heq⟩ := HC.out t ht
          rw [decide_eq_false (by omega)] at hls
          have heq := heq e
          rw [decide_eq_false hx] at heq
          exact ⟨b, o, s, e1, hc, hls, heq⟩
        have H1 : Hid (∀ W : World, Below w.heap.size w W → Src Try.prog 1 49 (.slice A k c) k ((ss.take k).map encs) W) := by
          refine Lib.hid fun W hW => src_strs (B := w.heap.size) ⟨by have := Hl.out; simp; omega, fun j u hu => ?_⟩
          rw [List.map_take, List.getElem?_take] at hu
          split at hu
          · obtain ⟨b, o, e, hb, hc⟩ := HH.out.cell j u hu
            exact ⟨b, o, e, hb, (hW.cell (p := ⟨b, o + j, none⟩) hb).trans hc⟩
          · cases hu
        have H3 : Hid (∀ W : World, Below w.heap.size w W → ∀ A', (c ≠ k → ∀ b o, A = some ⟨b, o, none⟩ → A' = some ⟨b, o + k, none⟩) → Src Try.prog 1 49 (.slice A' (n - k) (c - k)) (n - k) ((ss.drop k).map encs) W) := by
          refine Lib.hid fun W hW A' hA => ?_
          by_cases e : n = k
          · subst e
            have e0 : n - n = 0 := by omega
            rw [e0, List.drop_of_length_le (by have := Hl.out; omega)]
            exact src_strs (B := w.heap.size) ⟨rfl, fun j u hu => by simp at hu⟩
          · refine src_strs (B := w.heap.size) ⟨by have := Hl.out; simp; omega, fun j u hu => ?_⟩
            rw [List.map_drop, List.getElem?_drop] at hu
            obtain ⟨b, o, e1, hb, hc⟩ := HH.out.cell (k + j) u hu
            refine ⟨b, o + k, hA (by omega) b o e1, hb, ?_⟩
            rw [show o + k + j = o + (k + j) by omega]
            exact (hW.cell (p := ⟨b, o + (k + j), none⟩) hb).trans hc
        have HF2 := Lib.hid (HF.out hx)
        have hkn : (k : Int) ≤ (n : Int) := by omega
        have hcn : (n : Int) ≤ (c : Int) := by omega
        have hkc : (k : Int) ≤ (c : Int) := by omega
        clear hx hk HC HN HF
        by_cases hkn' : k < n
        · obtain ⟨b, o, s, rfl, hc, hls, heq⟩ := hcond.out k hkn' rfl
          have hkl : (k : Int) < (n : Int) := by omega
          clear hkn'
          go_wp2_with (first
            | (at_builtin; refine wpList_append_row rfl (.tmp 34) (.tmp 37) _ _ rfl elem_s rfl rfl (World.ownsRow_nil _ w.heap.size _ _) (H1.out _ (Below.refl _ _)) (by omega) (Nat.le_refl _) ?_; intro A1 c1 w1 ho1 hg1 hat1; simp only [Nat.zero_add, List.nil_append] at ho1)
            | (at_builtin; refine wpList_append_row rfl (.tmp 39) (.tmp 41) _ _ rfl elem_s rfl rfl (ho1.alloc _) (src_lit _ _ _ (by simp)) (by omega) (by have := hg1.size; simp at this ⊢; omega) ?_; intro A2 c2 w2 ho2 hg2 hat2; have hz2 : w.heap.size ≤ w2.heap.size := (by have h1 := hg1.size; have h2 := hg2.size; simp at h1 h2; omega); have hb1 : Below w.heap.size w w1 := (Below.refl _ w).grown hg1 (Nat.le_refl _) (by simp [Value.ownBlock]); have hb2 : Below w.heap.size w w2 := (hb1.alloc hb1.size _).grown hg2 (by have := hb1.size; simp; omega) (fun k hk => (ho1.lt k hk).1); have hs3 := H3.out w2 hb2)
            | (at_builtin; refine wpList_append_row rfl (.tmp 43) (.tmp 46) _ _ rfl elem_s rfl rfl ho2 (hs3 _ (by intro h b o e; first | (cases e; exact if_neg h) | (cases e; rfl) | cases e)) (by omega) hz2 ?_; intro A3 c3 w3 ho3 hg3 hat3))
          go_ret
          have hb3 : Below w.heap.size w w3 := hb2.grown hg3 hz2 (fun k hk => (ho2.lt k hk).1)
          have hcap := own_cap' ho3
          rw [← List.map_append, ← List.map_append] at ho3
          have hlen : (ss.take k ++ [x.data.toList] ++ ss.drop k).length = k + 1 + (n - k) := by have h1 := HF2.out.2.2; have h2 := Hl.out; omega
          exact ⟨A3, c3, _, by rw [hlen]; rfl, hcap.2, by rw [hlen]; exact sees_own ho3, by rw [hlen]; exact hcap.1, HF2.out.1, HF2.out.2.1, by rw [HF2.out.2.2]; exact Nat.le_refl _, hb3⟩
        · have hnn : ¬ ((k : Int) < (n : Int)) := by omega
          rcases HA.out with ⟨rfl, rfl⟩ | ⟨b, o, rfl⟩
          · obtain rfl : n = 0 := by omega
            obtain rfl : k = 0 := by omega
            go_wp2_with (first
              | (at_builtin; refine wpList_append_row rfl (.tmp 34) (.tmp 37) _ _ rfl elem_s rfl rfl (World.ownsRow_nil _ w.heap.size _ _) (H1.out _ (Below.refl _ _)) (by omega) (Nat.le_refl _) ?_; intro A1 c1 w1 ho1 hg1 hat1; simp only [Nat.zero_add, List.nil_append] at ho1)
              | (at_builtin; refine wpList_append_row rfl (.tmp 39) (.tmp 41) _ _ rfl elem_s rfl rfl (ho1.alloc _) (src_lit _ _ _ (by simp)) (by omega) (by have := hg1.size; simp at this ⊢; omega) ?_; intro A2 c2 w2 ho2 hg2 hat2; have hz2 : w.heap.size ≤ w2.heap.size := (by have h1 := hg1.size; have h2 := hg2.size; simp at h1 h2; omega); have hb1 : Below w.heap.size w w1 := (Below.refl _ w).grown hg1 (Nat.le_refl _) (by simp [Value.ownBlock]); have hb2 : Below w.heap.size w w2 := (hb1.alloc hb1.size _).grown hg2 (by have := hb1.size; simp; omega) (fun k hk => (ho1.lt k hk).1); have hs3 := H3.out w2 hb2)
              | (at_builtin; refine wpList_append_row rfl (.tmp 43) (.tmp 46) _ _ rfl elem_s rfl rfl ho2 (hs3 _ (by intro h b o e; first | (cases e; exact if_neg h) | (cases e; rfl) | cases e)) (by omega) hz2 ?_; intro A3 c3 w3 ho3 hg3 hat3))
            go_ret
            have hb3 : Below w.heap.size w w3 := hb2.grown hg3 hz2 (fun k hk => (ho2.lt k hk).1)
            have hcap := own_cap' ho3
            rw [← List.map_append, ← List.map_append] at ho3
            have hlen : (ss.take 0 ++ [x.data.toList] ++ ss.drop 0).length = 0 + 1 + (0 - 0) := by have h1 := HF2.out.2.2; have h2 := Hl.out; omega
            exact ⟨A3, c3, _, by rw [hlen]; rfl, hcap.2, by rw [hlen]; exact sees_own ho3, by rw [hlen]; exact hcap.1, HF2.out.1, HF2.out.2.1, by rw [HF2.out.2.2]; exact Nat.le_refl _, hb3⟩
          · go_wp2_with (first
              | (at_builtin; refine wpList_append_row rfl (.tmp 34) (.tmp 37) _ _ rfl elem_s rfl rfl (World.ownsRow_nil _ w.heap.size _ _) (H1.out _ (Below.refl _ _)) (by omega) (Nat.le_refl _) ?_; intro A1 c1 w1 ho1 hg1 hat1; simp only [Nat.zero_add, List.nil_append] at ho1)
              | (at_builtin; refine wpList_append_row rfl (.tmp 39) (.tmp 41) _ _ rfl elem_s rfl rfl (ho1.alloc _) (src_lit _ _ _ (by simp)) (by omega) (by have := hg1.size; simp at this ⊢; omega) ?_; intro A2 c2 w2 ho2 hg2 hat2; have hz2 : w.heap.size ≤ w2.heap.size := (by have h1 := hg1.size; have h2 := hg2.size; simp at h1 h2; omega); have hb1 : Below w.heap.size w w1 := (Below.refl _ w).grown hg1 (Nat.le_refl _) (by simp [Value.ownBlock]); have hb2 : Below w.heap.size w w2 := (hb1.alloc hb1.size _).grown hg2 (by have := hb1.size; simp; omega) (fun k hk => (ho1.lt k hk).1); have hs3 := H3.out w2 hb2)
              | (at_builtin; refine wpList_append_row rfl (.tmp 43) (.tmp 46) _ _ rfl elem_s rfl rfl ho2 (hs3 _ (by intro h b o e; first | (cases e; exact if_neg h) | (cases e; rfl) | cases e)) (by omega) hz2 ?_; intro A3 c3 w3 ho3 hg3 hat3))
            all_goals
              go_ret
              have hb3 : Below w.heap.size w w3 := hb2.grown hg3 hz2 (fun k hk => (ho2.lt k hk).1)
              have hcap := own_cap' ho3
              rw [← List.map_append, ← List.map_append] at ho3
              have hlen : (ss.take k ++ [x.data.toList] ++ ss.drop k).length = k + 1 + (n - k) := by have h1 := HF2.out.2.2; have h2 := Hl.out; omega
              exact ⟨A3, c3, _, by rw [hlen]; rfl, hcap.2, by rw [hlen]; exact sees_own ho3, by rw [hlen]; exact hcap.1, HF2.out.1, HF2.out.2.1, by rw [HF2.out.2.2]; exact Nat.le_refl _, hb3⟩
end Go.Proofs.Ytagoeededpmdkaa.Nm
