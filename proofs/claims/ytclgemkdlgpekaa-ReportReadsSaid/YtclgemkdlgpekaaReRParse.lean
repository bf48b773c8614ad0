/- The reference's ParsePath. Conditions: texts of at most 2^30 bytes. -/
import Derived.Test.YtclgemkdlgpekaaReRNameW
namespace Go.Proofs.Ytclgemkdlgpekaa.Re
open Go.RowKit
set_option maxRecDepth 100000

structure RqI (s : ByteArray) (k : Nat) (w wr : World) (A : Option Addr) (N c : Nat) (p : List ByteArray) : Prop where
  own : OwnS wr w.heap.size A N c p
  below : Below w.heap.size w wr
  le : k ≤ s.size
  few : bulk p + p.length + (s.size - k) ≤ s.size
  told : ∀ q, q ≠ [] → pathT q = s.data.toList → ∃ q', q = p ++ q' ∧ s.data.toList.drop k = pathT q'
section
variable {s : ByteArray} {k : Nat} {w wr : World} {A : Option Addr} {N c : Nat} {p : List ByteArray}
theorem RqI.push {w2 w3 : World} {x : ByteArray} {k' : Nat} {A' : Option Addr} {N' c' : Nat} (h : RqI s k w wr A N c p) (hl : k + 1 < s.size) (hb : Below wr.heap.size wr w2) (hg : w2.grownBy w3 (Value.slice A N c).ownBlock) (ho : OwnS w3 w.heap.size A' N' c' (p ++ [x]))
    (hk : k' ≤ s.size) (hlen : x.size + (s.size - k') ≤ s.size - (k + 2)) (ht : ∀ l t0, s.data.toList.drop (k + 2) = quoL l ++ 34 :: t0 → x.data.toList = l ∧ s.data.toList.drop k' = t0) : RqI s k' w w3 A' N' c' (p ++ [x]) := by
  have hsz := h.below.size
  refine ⟨ho, (h.below.trans (hb.mono hsz)).grown hg (Nat.le_trans hsz hb.size) (fun q hq => (h.own.lt q hq).1), hk, ?_, fun q hq he => ?_⟩
  · have := h.few
    rw [bulk_snoc, List.length_append, List.length_cons, List.length_nil]
    omega
  · obtain ⟨q', h3, h4⟩ := h.told q hq he
    cases q' with
    | nil =>
      rw [drop_at s k (by omega), pathT_nil] at h4
      cases h4
    | cons y q' =>
      rw [drop_at s k (by omega), drop_at s (k + 1) hl, pathT_cons] at h4
      injection h4 with _ h4
      injection h4 with _ h4
      obtain ⟨h5, h6⟩ := ht _ _ h4
      exact ⟨q', by rw [h3, ba_eq h5]; simp, h6⟩
theorem RqI.bad (h : RqI s k w wr A N c p) (hl : k + 1 < s.size) (hn : ∀ l t0, ¬ s.data.toList.drop (k + 2) = quoL l ++ 34 :: t0) : ∀ q, q ≠ [] → pathT q ≠ s.data.toList := by
  intro q hq he
  obtain ⟨q', h3, h4⟩ := h.told q hq he
  cases q' with
  | nil =>
    rw [drop_at s k (by omega), pathT_nil] at h4
    cases h4
  | cons y q' =>
    rw [drop_at s k (by omega), drop_at s (k + 1) hl, pathT_cons] at h4
    injection h4 with _ h4
    injection h4 with _ h4
    exact hn _ _ h4
/-- At the loop's end: a path's text was read whole. -/
theorem RqI.last (h : RqI s k w wr A N c p) (hn : ∀ d, ¬ s.data.toList.drop k = 47 :: 34 :: d) : ∀ q, q ≠ [] → pathT q = s.data.toList → q = p ∧ k = s.size := by
  intro q hq he
  obtain ⟨q', h3, h4⟩ := h.told q hq he
  cases q' with
  | nil =>
    have h5 := congrArg List.length h4
    rw [List.length_drop, Array.length_toList, pathT_nil, List.length_nil] at h5
    have e : s.data.size = s.size := rfl
    have := h.le
    exact ⟨by rw [h3, List.append_nil], by omega⟩
  | cons y q' => exact absurd (by rw [h4, pathT_cons]) (hn _)
end
theorem text_lit {s : ByteArray} {l : Bs} (h : s.data.toList = l) : (s.toList == l) = true := by rw [ByteArray.toList_eq, h]; exact beq_self_eq_true _
theorem text_lit_not {s : ByteArray} {l : Bs} (h : ¬ s.data.toList = l) : (s.toList == l) = false := by rw [ByteArray.toList_eq, beq_eq_false_iff_ne]; exact h
theorem none_path {s : ByteArray} (h1 : ¬ s.data.toList = [47]) (h : ∀ q, q ≠ [] → pathT q ≠ s.data.toList) : ∀ q, pathL q ≠ s.data.toList := by
  intro q hq
  cases q with
  | nil => exact h1 hq.symm
  | cons x q => exact h _ (by simp) hq
theorem bad_ans {s : ByteArray} {w w' : World} (hl : s.data.toList.length ≤ 4000) (h : ∀ q, pathL q ≠ s.data.toList) (hb : Below w.heap.size w w') : PpP w s (.returned (.tuple #[.slice none 0 0, .int .i64 10])) w' :=
  ⟨none, 0, 0, [], 10, rfl, sees_none w', Nat.le_refl _, .inr ⟨hl, .inr ⟨rfl, rfl, h⟩⟩, by simp [bulk], hb⟩

set_option maxHeartbeats 4000000 in
theorem rparse_any (s : ByteArray) (w : World) (hs : s.size ≤ 1073741824) :
    Calls Try.prog 15 #[.string s] w (PpP w s) := by
  have hsl : s.data.toList.length = s.size := by rw [Array.length_toList]; rfl
  by_cases hl : 4000 < s.size
  · have HP : Hid (PpP w s (.returned (.tuple #[.slice none 0 0, .int .i64 5])) w) := Lib.hid ⟨none, 0, 0, [], 5, rfl, sees_none w, Nat.le_refl _, .inl ⟨by omega, rfl, rfl⟩, by simp [bulk], Below.refl _ _⟩
    have hl1 : (4000 : Int) < (s.size : Int) := by omega
    clear hsl hl
    go_enter Try.func15, Try.ntmps15
    go_wp2_with fail
    go_ret2
    exact HP.out
  · have hl1 : ¬ ((4000 : Int) < (s.size : Int)) := by omega
    have hl4 : s.data.toList.length ≤ 4000 := by omega
    have HL4 := Lib.hid hl4
    have hs4 : s.size ≤ 4000 := by omega
    clear hl
    by_cases h47 : s.data.toList = [47]
    · have hE : (s.toList == [47]) = true := text_lit h47
      have HP : Hid (PpP w s (.returned (.tuple #[.slice none 0 0, .int .i64 0])) w) := Lib.hid ⟨none, 0, 0, [], 0, rfl, sees_none w, Nat.le_refl _, .inr ⟨hl4, .inl ⟨h47.symm, rfl⟩⟩, by simp [bulk], Below.refl _ _⟩
      clear h47 hsl hl4
      go_enter Try.func15, Try.ntmps15
      go_wp2_with fail
      go_ret2
      exact HP.out
    · have hE : (s.toList == [47]) = false := text_lit_not h47
      have H47 := Lib.hid h47
      have HI0 := Lib.hid (show RqI s 0 w w none 0 0 [] from ⟨OwnS.nil w _, Below.refl _ _, Nat.zero_le _, by simp [bulk], fun q _ he => ⟨q, rfl, he.symm⟩⟩)
      have HSL := Lib.hid hsl
      clear h47 hsl hl4
      go_enter Try.func15, Try.ntmps15
      go_wp2_with fail
      generalize (s.toList == [47]) = bz
      go_loopw [4, 5] (fun o i wr => ∃ (k : Nat) (A : Option Addr) (N c : Nat) (p : List ByteArray), i = .int .i64 k ∧ o = .slice A N c ∧ Hid (RqI s k w wr A N c p)) (fun _ i _ => s.size - (intOf i).toNat)
      case atStart => exact ⟨0, none, 0, 0, [], rfl, rfl, HI0⟩
      case round =>
        obtain ⟨k, A, N, c, p, rfl, rfl, HI⟩ := hrel
        have hks := HI.out.le
        have hNp := OwnS.len HI.out.own
        have hN : N ≤ 1073741824 := by have := HI.out.few; omega
        have HNP := Lib.hid hNp
        clear hNp
        have hbw : w.heap.size ≤ wr.heap.size := HI.out.below.size
        have hk0 : (0 : Int) ≤ (k : Int) := by omega
        by_cases hc : ∃ hl : k + 1 < s.size, s[k] = 47 ∧ s[k + 1] = 34
        · obtain ⟨hl, e1, e2⟩ := hc
          have q1 : (k : Int) + 1 < (s.size : Int) := by omega
          have hkl : k < s.size := by omega
          have t1 : ((k : Int) + 1).toNat = k + 1 := by omega
          have t1' : (0 : Int) ≤ (k : Int) + 1 := by omega
          have b1 : ((s[k].toNat : Int) == 47) = true := by rw [e1]; rfl
          have b2 : ((s[k + 1].toNat : Int) == 34) = true := by rw [e2]; rfl
          have HN := Lib.hid (rname_any s (k + 2) wr hs (by omega))
          have c2 : ((k : Int) + 2) = ((k + 2 : Nat) : Int) := by omega
          have HN2 : Hid (Calls Try.prog 24 #[.string s, .int .i64 ((k : Int) + 2)] wr (RnP s (k + 2) wr)) := by rw [c2]; exact HN
          clear e1 e2 HN c2
          go_wp2_with fail
          (with_reducible refine HN2.out.mono ?_)
          rintro e w1 ⟨x, y, v, rfl, hb1, hv, ht⟩
          have HB1 := Lib.hid hb1
          have HT := Lib.hid ht
          have HV := Lib.hid hv
          clear hb1 ht hv
          cases v with
          | false =>
            have HP := Lib.hid (bad_ans HL4.out (none_path H47.out (HI.out.bad hl (fun l t0 h => by have := (HT.out l t0 h).1; cases this))) (HI.out.below.trans (HB1.out.mono hbw)))
            go_wp2_with fail
            go_ret2
            exact HP.out
          | true =>
            obtain ⟨k', rfl, hk', hkk, hlen⟩ := HV.out rfl
            have HT2 : Hid (∀ l t0, s.data.toList.drop (k + 2) = quoL l ++ 34 :: t0 → x.data.toList = l ∧ s.data.toList.drop k' = t0) := Lib.hid fun l t0 h => by
              obtain ⟨_, h1, k2, h2, h3⟩ := HT.out l t0 h
              obtain rfl : k' = k2 := by omega
              exact ⟨h1, h3⟩
            have HO1 := Lib.hid (OwnS.below HI.out.own HB1.out)
            have hb2 : w.heap.size ≤ (w1.alloc (.cells #[.string x] 9)).heap.size := by have := HB1.out.size; simp; omega
            have Hlen := Lib.hid hlen
            have HX := Lib.hid (fun (w3 : World) (A' : Option Addr) (N' c' : Nat) (hg : (w1.alloc (.cells #[.string x] 9)).grownBy w3 (Value.slice A N c).ownBlock) (ho : OwnS w3 w.heap.size A' N' c' (p ++ [x])) => HI.out.push hl (HB1.out.alloc HB1.out.size _) hg ho hk' Hlen.out HT2.out)
            clear hlen HV HT
            go_wp2_with (at_builtin; refine wpList_append_row rfl (.tmp 42) (.tmp 44) _ _ rfl elem_str rfl rfl (HO1.out.alloc _) (src_str _ x _ rfl) (by omega) hb2 ?_; intro A3 c3 w3 ho3 hg3 hat3)
            have ho3' : OwnS w3 w.heap.size A3 (N + 1) c3 (p ++ [x]) := by unfold OwnS; rw [strs_app]; exact ho3
            have HI3 := Lib.hid (HX.out w3 A3 (N + 1) c3 hg3 ho3')
            go_roundw
            case rel => exact ⟨k', A3, N + 1, c3, _, rfl, rfl, HI3⟩
            case measure => simp [intOf]; omega
        · have HL := Lib.hid (HI.out.last (fun d hd => hc (by
            have h3 := congrArg List.length hd
            rw [List.length_drop, Array.length_toList] at h3
            simp only [List.length_cons] at h3
            have e : s.data.size = s.size := rfl
            have hl : k + 1 < s.size := by omega
            rw [drop_at s k (by omega), drop_at s (k + 1) hl] at hd
            injection hd with h5 h6
            injection h6 with h6 _
            exact ⟨hl, h5, h6⟩)))
          by_cases hl : k + 1 < s.size
          · have q1 : (k : Int) + 1 < (s.size : Int) := by omega
            have hkl : k < s.size := by omega
            have t1 : ((k : Int) + 1).toNat = k + 1 := by omega
            have t1' : (0 : Int) ≤ (k : Int) + 1 := by omega
            have u0 := s[k].toNat_lt
            have u1 := s[k + 1].toNat_lt
            by_cases e1 : s[k] = 47
            · have b1 : ((s[k].toNat : Int) == 47) = true := by rw [e1]; rfl
              have b2 : ((s[k + 1].toNat : Int) == 34) = false := by
                rw [beq_eq_false_iff_ne]
                exact fun e => hc ⟨hl, e1, UInt8.toNat_inj.1 (by show s[k + 1].toNat = 34; omega)⟩
              clear e1 hc
              by_cases hks2 : k = s.size
              · have n1 : ((k : Int) != (s.size : Int)) = false := by rw [hks2]; simp
                by_cases hN0 : N = 0
                · have hp0 : p = [] := List.eq_nil_of_length_eq_zero (by have := HNP.out; omega)
                  have HP := Lib.hid (bad_ans HL4.out (none_path H47.out (fun q hq he => hq (by rw [(HL.out q hq he).1, hp0]))) HI.out.below)
                  have n2 : ((N : Int) == 0) = true := by rw [hN0]; rfl
                  clear hN0 hks2 hp0
                  go_wp2_with fail
                  go_ret2
                  exact HP.out
                · have n2 : ((N : Int) == 0) = false := by rw [beq_eq_false_iff_ne]; omega
                  have hpne : p ≠ [] := by
                    rintro rfl
                    exact hN0 HNP.out
                  have hbp : bulk p ≤ 4000 := by have := HI.out.few; omega
                  have HR := Lib.hid (rpath_any p A N c wr.heap.size wr (OwnS.sees HI.out.own) (by omega))
                  obtain ⟨X, hX⟩ : ∃ X : ByteArray, X = mkB (pathL p) := ⟨_, rfl⟩
                  rw [← hX] at HR
                  have HX := Lib.hid (show X.data.toList = pathL p by rw [hX])
                  have Hpne := Lib.hid hpne
                  have HBP := Lib.hid hbp
                  clear hX hN0 hks2 hpne hbp
                  by_cases he : pathL p = s.data.toList
                  · have hne : (X.toList == s.toList) = true := text_is (by rw [HX.out, he])
                    have HA := Lib.hid (fun q => show PpP w s (.returned (.tuple #[.slice A N c, .int .i64 0])) (wr.drewN q) from ⟨A, N, c, p, 0, rfl, (OwnS.sees HI.out.own).keep (fun _ _ => rfl), (own_cap HI.out.own).1, .inr ⟨HL4.out, .inl ⟨he, rfl⟩⟩, HBP.out, below_drewN HI.out.below q⟩)
                    clear he
                    go_wp2_with fail
                    (with_reducible refine HR.out.mono ?_)
                    rintro e w1 ⟨rfl, q, rfl⟩
                    go_wp2_with fail
                    go_ret2
                    exact HA.out q
                  · have hne : (X.toList == s.toList) = false := text_not (by rw [HX.out]; exact he)
                    have HA := Lib.hid (fun q => bad_ans (w' := wr.drewN q) HL4.out (none_path H47.out (fun q hq he2 => he (by rw [← (HL.out q hq he2).1, pathL_ne hq]; exact he2))) (below_drewN HI.out.below q))
                    clear he
                    go_wp2_with fail
                    (with_reducible refine HR.out.mono ?_)
                    rintro e w1 ⟨rfl, q, rfl⟩
                    go_wp2_with fail
                    go_ret2
                    exact HA.out q
              · have n1 : ((k : Int) != (s.size : Int)) = true := by rw [bne_iff_ne]; omega
                have HP := Lib.hid (bad_ans HL4.out (none_path H47.out (fun q hq he => hks2 (HL.out q hq he).2)) HI.out.below)
                clear hks2
                go_wp2_with fail
                go_ret2
                exact HP.out
            · have b1 : ((s[k].toNat : Int) == 47) = false := by
                rw [beq_eq_false_iff_ne]
                exact fun e => e1 (UInt8.toNat_inj.1 (by show s[k].toNat = 47; omega))
              clear e1 hc
              by_cases hks2 : k = s.size
              · have n1 : ((k : Int) != (s.size : Int)) = false := by rw [hks2]; simp
                by_cases hN0 : N = 0
                · have hp0 : p = [] := List.eq_nil_of_length_eq_zero (by have := HNP.out; omega)
                  have HP := Lib.hid (bad_ans HL4.out (none_path H47.out (fun q hq he => hq (by rw [(HL.out q hq he).1, hp0]))) HI.out.below)
                  have n2 : ((N : Int) == 0) = true := by rw [hN0]; rfl
                  clear hN0 hks2 hp0
                  go_wp2_with fail
                  go_ret2
                  exact HP.out
                · have n2 : ((N : Int) == 0) = false := by rw [beq_eq_false_iff_ne]; omega
                  have hpne : p ≠ [] := by
                    rintro rfl
                    exact hN0 HNP.out
                  have hbp : bulk p ≤ 4000 := by have := HI.out.few; omega
                  have HR := Lib.hid (rpath_any p A N c wr.heap.size wr (OwnS.sees HI.out.own) (by omega))
                  obtain ⟨X, hX⟩ : ∃ X : ByteArray, X = mkB (pathL p) := ⟨_, rfl⟩
                  rw [← hX] at HR
                  have HX := Lib.hid (show X.data.toList = pathL p by rw [hX])
                  have Hpne := Lib.hid hpne
                  have HBP := Lib.hid hbp
                  clear hX hN0 hks2 hpne hbp
                  by_cases he : pathL p = s.data.toList
                  · have hne : (X.toList == s.toList) = true := text_is (by rw [HX.out, he])
                    have HA := Lib.hid (fun q => show PpP w s (.returned (.tuple #[.slice A N c, .int .i64 0])) (wr.drewN q) from ⟨A, N, c, p, 0, rfl, (OwnS.sees HI.out.own).keep (fun _ _ => rfl), (own_cap HI.out.own).1, .inr ⟨HL4.out, .inl ⟨he, rfl⟩⟩, HBP.out, below_drewN HI.out.below q⟩)
                    clear he
                    go_wp2_with fail
                    (with_reducible refine HR.out.mono ?_)
                    rintro e w1 ⟨rfl, q, rfl⟩
                    go_wp2_with fail
                    go_ret2
                    exact HA.out q
                  · have hne : (X.toList == s.toList) = false := text_not (by rw [HX.out]; exact he)
                    have HA := Lib.hid (fun q => bad_ans (w' := wr.drewN q) HL4.out (none_path H47.out (fun q hq he2 => he (by rw [← (HL.out q hq he2).1, pathL_ne hq]; exact he2))) (below_drewN HI.out.below q))
                    clear he
                    go_wp2_with fail
                    (with_reducible refine HR.out.mono ?_)
                    rintro e w1 ⟨rfl, q, rfl⟩
                    go_wp2_with fail
                    go_ret2
                    exact HA.out q
              · have n1 : ((k : Int) != (s.size : Int)) = true := by rw [bne_iff_ne]; omega
                have HP := Lib.hid (bad_ans HL4.out (none_path H47.out (fun q hq he => hks2 (HL.out q hq he).2)) HI.out.below)
                clear hks2
                go_wp2_with fail
                go_ret2
                exact HP.out
          · have q1 : ¬ ((k : Int) + 1 < (s.size : Int)) := by omega
            clear hc
            by_cases hks2 : k = s.size
            · have n1 : ((k : Int) != (s.size : Int)) = false := by rw [hks2]; simp
              by_cases hN0 : N = 0
              · have hp0 : p = [] := List.eq_nil_of_length_eq_zero (by have := HNP.out; omega)
                have HP := Lib.hid (bad_ans HL4.out (none_path H47.out (fun q hq he => hq (by rw [(HL.out q hq he).1, hp0]))) HI.out.below)
                have n2 : ((N : Int) == 0) = true := by rw [hN0]; rfl
                clear hN0 hks2 hp0
                go_wp2_with fail
                go_ret2
                exact HP.out
              · have n2 : ((N : Int) == 0) = false := by rw [beq_eq_false_iff_ne]; omega
                have hpne : p ≠ [] := by
                  rintro rfl
                  exact hN0 HNP.out
                have hbp : bulk p ≤ 4000 := by have := HI.out.few; omega
                have HR := Lib.hid (rpath_any p A N c wr.heap.size wr (OwnS.sees HI.out.own) (by omega))
                obtain ⟨X, hX⟩ : ∃ X : ByteArray, X = mkB (pathL p) := ⟨_, rfl⟩
                rw [← hX] at HR
                have HX := Lib.hid (show X.data.toList = pathL p by rw [hX])
                have Hpne := Lib.hid hpne
                have HBP := Lib.hid hbp
                clear hX hN0 hks2 hpne hbp
                by_cases he : pathL p = s.data.toList
                · have hne : (X.toList == s.toList) = true := text_is (by rw [HX.out, he])
                  have HA := Lib.hid (fun q => show PpP w s (.returned (.tuple #[.slice A N c, .int .i64 0])) (wr.drewN q) from ⟨A, N, c, p, 0, rfl, (OwnS.sees HI.out.own).keep (fun _ _ => rfl), (own_cap HI.out.own).1, .inr ⟨HL4.out, .inl ⟨he, rfl⟩⟩, HBP.out, below_drewN HI.out.below q⟩)
                  clear he
                  go_wp2_with fail
                  (with_reducible refine HR.out.mono ?_)
                  rintro e w1 ⟨rfl, q, rfl⟩
                  go_wp2_with fail
                  go_ret2
                  exact HA.out q
                · have hne : (X.toList == s.toList) = false := text_not (by rw [HX.out]; exact he)
                  have HA := Lib.hid (fun q => bad_ans (w' := wr.drewN q) HL4.out (none_path H47.out (fun q hq he2 => he (by rw [← (HL.out q hq he2).1, pathL_ne hq]; exact he2))) (below_drewN HI.out.below q))
                  clear he
                  go_wp2_with fail
                  (with_reducible refine HR.out.mono ?_)
                  rintro e w1 ⟨rfl, q, rfl⟩
                  go_wp2_with fail
                  go_ret2
                  exact HA.out q
            · have n1 : ((k : Int) != (s.size : Int)) = true := by rw [bne_iff_ne]; omega
              have HP := Lib.hid (bad_ans HL4.out (none_path H47.out (fun q hq he => hks2 (HL.out q hq he).2)) HI.out.below)
              clear hks2
              go_wp2_with fail
              go_ret2
              exact HP.out
end Go.Proofs.Ytclgemkdlgpekaa.Re
