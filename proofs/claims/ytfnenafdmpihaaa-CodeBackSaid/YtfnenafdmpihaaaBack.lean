/- CodeBack: what was written, one behind the other, is read as it was, and there is an end; a byte less is cut, one more is more. -/
import Derived.Test.YtfnenafdmpihaaaBackWords
import Derived.Deep.RegionWith
namespace Go.Proofs.Ytfnenafdmpihaaa
open Go.RowKit

set_option maxHeartbeats 1000000 in
theorem back_far (A B : Option Addr) (n c m d : Nat) (w : World) (h : 20 < n ∨ 10 < m) (hn : n ≤ maxLen) (hm : m ≤ maxLen) :
    Calls Try.prog 5 #[.slice A n c, .slice B m d] w fun e w' => e = .returned (.bool true) ∧ Below w.heap.size w w' := by
  unfold maxLen at hn hm
  by_cases h1 : 20 < n
  · go_enter Try.func5, Try.ntmps5
    go_wp2_with fail
    refine (known_any w).mono ?_
    rintro e w1 ⟨rfl, hb1⟩
    go_wp2_with fail
    go_ret
    exact ⟨rfl, hb1⟩
  · have h2 : 10 < m := by omega
    go_enter Try.func5, Try.ntmps5
    go_wp2_with fail
    refine (known_any w).mono ?_
    rintro e w1 ⟨rfl, hb1⟩
    go_wp2_with fail
    go_ret
    exact ⟨rfl, hb1⟩

set_option maxRecDepth 100000 in
set_option maxHeartbeats 8000000 in
theorem back_near (A B : Option Addr) (n c m d : Nat) (ns : List Int) (ss : List ByteArray) (w : World) (hns : SeesV w w.heap.size A n (ns.map (Value.int .i64))) (hbd : ∀ x ∈ ns, -9223372036854775808 ≤ x ∧ x ≤ 9223372036854775807)
    (hss : SeesV w w.heap.size B m (ss.map Value.string)) (hsz : ∀ x ∈ ss, x.size ≤ maxLen) (hn : n ≤ 20) (hm : m ≤ 10) :
    Calls Try.prog 5 #[.slice A n c, .slice B m d] w fun e w' => e = .returned (.bool true) ∧ Below w.heap.size w w' := by
  have hn' : ¬ 20 < n := by omega
  have hm' : ¬ 10 < m := by omega
  have Hn := Lib.hid (show n = ns.length by rw [hns.len, List.length_map])
  have Hm := Lib.hid (show m = ss.length by rw [hss.len, List.length_map])
  have Hbd := Lib.hid (show ∀ k, k < n → -9223372036854775808 ≤ ns.getD k 0 ∧ ns.getD k 0 ≤ 9223372036854775807 by
    intro k hk
    have hl : k < ns.length := by rw [← Hn.out]; exact hk
    have e : ns.getD k 0 = ns[k] := by simp [List.getD, List.getElem?_eq_getElem hl]
    rw [e]
    exact hbd _ (List.getElem_mem hl))
  have Hsz := Lib.hid (show ∀ k, k < m → (ss.getD k ⟨#[]⟩).size ≤ 9223372036854775807 by
    intro k hk
    have hl : k < ss.length := by rw [← Hm.out]; exact hk
    have e : ss.getD k ⟨#[]⟩ = ss[k] := by simp [List.getD, List.getElem?_eq_getElem hl]
    rw [e]
    exact hsz _ (List.getElem_mem hl))
  clear hbd hsz
  go_enter Try.func5, Try.ntmps5
  go_wp2_with fail
  refine (known_any w).mono ?_
  rintro e w1 ⟨rfl, hb1⟩
  go_wp2_with fail
  refine (putByte_any none 0 0 [] n w1 (Sees.none_ _ _ _) (by omega)).mono ?_
  rintro e w2 ⟨A2, N2, c2, rfl, ho2, hb2⟩
  have hb02 : Below w.heap.size w w2 := hb1.trans (hb2.mono hb1.size)
  have hN2 : N2 = 1 := by rw [ho2.len]; rfl
  subst hN2
  have hs2 := ho2.sees
  have hcap2 := ho2.cap.1
  rw [List.nil_append, show ((n : Int) % 256).toNat = n % 256 by omega] at hs2
  clear ho2
  go_wp2_with fail
  go_loopw [5, 6] (fun v i wr => ∃ (k : Nat) (A5 : Option Addr) (N c5 : Nat), k ≤ n ∧ i = .int .i64 k ∧ v = .slice A5 N c5 ∧ N ≤ 1 + 8 * k ∧ N ≤ c5 ∧ Sees wr wr.heap.size A5 N (leB 1 (n % 256) ++ ints (ns.take k)) ∧ Below w.heap.size w wr) (fun _ i _ => n - (intOf i).toNat)
  case atStart => exact ⟨0, A2, 1, c2, by omega, rfl, rfl, by omega, hcap2, by simpa [ints] using hs2, hb02⟩
  case round =>
    obtain ⟨k, A5, N, c5, hk, rfl, rfl, hN, hcap, hs, hbr⟩ := hrel
    by_cases hlt : k < n
    · obtain ⟨b, o, rfl, hbw, hc⟩ := (hns.below hbr).int hlt
      have HE := Lib.hid (ints_succ (vs := ns) (k := k) (by rw [← Hn.out]; exact hlt))
      obtain ⟨x, hx⟩ : ∃ x, x = ns.getD k 0 := ⟨_, rfl⟩
      rw [← hx] at hc HE
      clear hx
      have hN3 : N ≤ 200 := by omega
      go_wp2_with fail
      refine (putInt_any A5 N c5 _ x wr hs (by omega)).mono ?_
      rintro e w3 ⟨A3, N3, c3, rfl, ho3, hb3⟩
      go_wp2_with fail
      go_roundw
      case rel => exact ⟨k + 1, A3, N3, c3, by omega, by go_num, rfl, by rw [ho3.len, List.length_append, leB_length, ← hs.len]; omega, ho3.cap.1, by rw [HE.out, ← List.append_assoc]; exact ho3.sees, hbr.trans (hb3.mono hbr.size)⟩
      case measure => simp [intOf]; omega
    · obtain rfl : n = k := by omega
      rw [show ns.take n = ns from List.take_of_length_le (by rw [← Hn.out]; exact Nat.le_refl _)] at hs
      have hN3 : N ≤ 161 := by omega
      go_wp2_with fail
      clear hN hs2 hb2 hlt hk
      go_loopw [5, 7] (fun v i wr => ∃ (k : Nat) (A5 : Option Addr) (N c5 : Nat), k ≤ m ∧ i = .int .i64 k ∧ v = .slice A5 N c5 ∧ N ≤ 161 + 202 * k ∧ N ≤ c5 ∧ Sees wr wr.heap.size A5 N (leB 1 (n % 256) ++ ints ns ++ texts (ss.take k)) ∧ Below w.heap.size w wr ∧ Hid (∀ i, i < k → (ss.getD i ⟨#[]⟩).size ≤ 200)) (fun _ i _ => m - (intOf i).toNat)
      case atStart => exact ⟨0, A5, N, c5, by omega, rfl, rfl, by omega, hcap, by simpa [texts] using hs, hbr, fun i hi => absurd hi (Nat.not_lt_zero _)⟩
      case round =>
        clear hs hbr hN3 hcap
        obtain ⟨k, A5, N, c5, hk, rfl, rfl, hN, hcap, hs, hbr, HS⟩ := hrel
        by_cases hlt : k < m
        · obtain ⟨b, o, rfl, hbw, hc⟩ := (hss.below hbr).str hlt
          have HE := Lib.hid (texts_succ (ss := ss) (k := k) (by rw [← Hm.out]; exact hlt))
          have hz := Hsz.out k hlt
          have HS2 := Lib.hid (show ∀ (h : (ss.getD k ⟨#[]⟩).size ≤ 200), ∀ i, i < k + 1 → (ss.getD i ⟨#[]⟩).size ≤ 200 by
            intro h i hi
            rcases Nat.lt_or_ge i k with g | g
            · exact HS.out i g
            · obtain rfl : i = k := by omega
              exact h)
          obtain ⟨x, hx⟩ : ∃ x, x = ss.getD k ⟨#[]⟩ := ⟨_, rfl⟩
          rw [← hx] at hc HE hz HS2
          clear hx
          have hN3 : N ≤ 2181 := by omega
          by_cases h200 : x.size ≤ 200
          · have h200' : ¬ 200 < x.size := by omega
            go_wp2_with fail
            refine (putText_any A5 N c5 _ x wr hs (by omega) (by unfold maxLen; omega)).mono ?_
            rintro e w3 ⟨A3, N3, c3, rfl, ho3, hb3⟩
            go_wp2_with fail
            go_roundw
            case rel => exact ⟨k + 1, A3, N3, c3, by omega, by go_num, rfl, by rw [ho3.len, List.length_append, textB_length x (by omega), ← hs.len]; omega, ho3.cap.1, by rw [HE.out, ← List.append_assoc]; exact ho3.sees, hbr.trans (hb3.mono hbr.size), HS2.out h200⟩
            case measure => simp [intOf]; omega
          · have h200' : 200 < x.size := by omega
            go_wp2_with fail
            go_ret
            exact ⟨rfl, hbr⟩
        · obtain rfl : m = k := by omega
          rw [show ss.take m = ss from List.take_of_length_le (by rw [← Hm.out]; exact Nat.le_refl _)] at hs
          have hN1 : 1 ≤ N := by rw [hs.len, List.length_append, List.length_append, leB_length]; omega
          have hN2 : N ≤ 2181 := by omega
          clear hN hlt hk Hsz
          have hN0 : ((N : Int) == 0) = false := by simp; omega
          go_wp2_with fail
          obtain ⟨W2, hW2⟩ : ∃ W : World, W = wr := ⟨_, rfl⟩
          subst hW2
          go_loopw [8] (fun v wq => ∃ k : Nat, k ≤ 3 ∧ v = .int .i64 k ∧ Below W2.heap.size W2 wq) (fun v _ => 3 - (intOf v).toNat)
          case atStart => exact ⟨0, by omega, rfl, Below.refl _ _⟩
          case round =>
            obtain ⟨k, hk, rfl, hb3⟩ := hrel
            rcases (show k = 0 ∨ k = 1 ∨ k = 2 ∨ k = 3 by omega) with rfl | rfl | rfl | rfl
            · have hse := hs.below hb3
              go_wp2_with fail
              refine (new_any N c5 A5 _ wr (hse.more hb3.size) (by omega)).mono ?_
              rintro e w6 ⟨g, rfl, hg, hr6, hb6⟩
              have hb36 : Below W2.heap.size W2 w6 := hb3.trans (hb6.mono hb3.size)
              have hgW : W2.heap.size ≤ g := Nat.le_trans hb3.size hg
              have hr6' : Rds w6 g (leB 1 (n % 256) ++ (ints ns ++ (texts ss ++ []))) 0 := by simpa using hr6
              clear hr6
              go_wp2_with fail
              refine (byte_n g n _ w6 hr6' (by omega)).mono ?_
              rintro e w10 ⟨rfl, hp10⟩
              have hr10 := hp10.rds
              have hb10 : Below W2.heap.size W2 w10 := hb36.trans (hp10.below hgW hb36.size)
              go_wp2_with fail
              obtain ⟨wo, hwo⟩ : ∃ wo : World, wo = wr := ⟨_, rfl⟩
              subst hwo
              go_loopw [11, 12] (fun okv i wq => ∃ j : Nat, j ≤ n ∧ i = .int .i64 j ∧ okv = .bool true ∧ Rds wq g (ints (ns.drop j) ++ (texts ss ++ [])) 0 ∧ Below W2.heap.size W2 wq) (fun _ i _ => n - (intOf i).toNat)
              case atStart => exact ⟨0, by omega, rfl, rfl, hr10, hb10⟩
              case round =>
                obtain ⟨j, hj, rfl, rfl, hrq, hbq⟩ := hrel
                by_cases hlt : j < n
                · obtain ⟨b, o, rfl, hbw, hc⟩ := (hns.below (hbr.trans (hbq.mono hbr.size))).int hlt
                  have HE := Lib.hid (ints_drop (vs := ns) (k := j) (by rw [← Hn.out]; exact hlt))
                  obtain ⟨hx1, hx2⟩ := Hbd.out j hlt
                  obtain ⟨x, hx⟩ : ∃ x, x = ns.getD j 0 := ⟨_, rfl⟩
                  rw [← hx] at hc HE hx1 hx2
                  rw [HE.out, List.append_assoc] at hrq
                  clear hx HE
                  have hj0 : (0 : Int) ≤ (j : Int) := by omega
                  have hjn : (j : Int) < (n : Int) := by omega
                  go_wp2
                  go_region_held3 (fun w' => w'.cell? ⟨b, o + j, none⟩ = some (.int .i64 x)) (first | exact hc | exact hc11)
                    (first
                    | (go_at_call 21; refine (int_full g x _ _ (hrq.keep (Below.refl _ _).drew) hx1 hx2).mono ?_; rintro e w11 ⟨rfl, hp11⟩; have hb11 := hp11.below hgW (by exact hbq.size); have hr11 := hp11.rds; have hc11 := (hb11.cell (p := ⟨b, o + j, none⟩) (Nat.lt_of_lt_of_le hbw hbr.size)).trans hc))
                  go_wp2
                  go_roundw
                  case rel => exact ⟨j + 1, by omega, by go_num, rfl, hr11, hbq.drew.trans hb11⟩
                  case measure => simp [intOf]; omega
                · obtain rfl : n = j := by omega
                  rw [show ns.drop n = [] from List.drop_of_length_le (by rw [← Hn.out]; exact Nat.le_refl _), show ints [] = [] from rfl, List.nil_append] at hrq
                  clear hj hlt hr10 hb10 hp10 hr6' hb36
                  go_wp2_with fail
                  have hrq0 := hrq
                  have hbq0 := hbq
                  clear hrq hbq
                  go_loopw [11, 13] (fun okv i wq => ∃ j : Nat, j ≤ m ∧ i = .int .i64 j ∧ okv = .bool true ∧ Rds wq g (texts (ss.drop j) ++ []) 0 ∧ Below W2.heap.size W2 wq) (fun _ i _ => m - (intOf i).toNat)
                  case atStart => exact ⟨0, by omega, rfl, rfl, hrq0, hbq0⟩
                  case round =>
                    obtain ⟨j, hj, rfl, rfl, hrq, hbq⟩ := hrel
                    by_cases hlt : j < m
                    · obtain ⟨b, o, rfl, hbw, hc⟩ := (hss.below (hbr.trans (hbq.mono hbr.size))).str hlt
                      have HE := Lib.hid (texts_drop (ss := ss) (k := j) (by rw [← Hm.out]; exact hlt))
                      have hz := HS.out j hlt
                      obtain ⟨x, hx⟩ : ∃ x, x = ss.getD j ⟨#[]⟩ := ⟨_, rfl⟩
                      rw [← hx] at hc HE hz
                      rw [HE.out, List.append_assoc] at hrq
                      clear hx HE
                      have hj0 : (0 : Int) ≤ (j : Int) := by omega
                      have hjm : (j : Int) < (m : Int) := by omega
                      go_wp2
                      go_region_held3 (fun w' => w'.cell? ⟨b, o + j, none⟩ = some (.string x)) (first | exact hc | exact hc11)
                        (first
                        | (go_at_call 25; refine (text_one g x _ _ (hrq.keep (Below.refl _ _).drew) (by omega)).mono ?_; rintro e w11 ⟨rfl, hp11⟩; have hb11 := hp11.below hgW (by exact hbq.size); have hr11 := hp11.rds; have hc11 := (hb11.cell (p := ⟨b, o + j, none⟩) (Nat.lt_of_lt_of_le hbw hbr.size)).trans hc))
                      go_wp2
                      go_roundw
                      case rel => exact ⟨j + 1, by omega, by go_num, rfl, hr11, hbq.drew.trans hb11⟩
                      case measure => simp [intOf]; omega
                    · obtain rfl : m = j := by omega
                      rw [show ss.drop m = [] from List.drop_of_length_le (by rw [← Hm.out]; exact Nat.le_refl _), show texts [] = [] from rfl, List.nil_append] at hrq
                      clear hj hlt hrq0 hbq0
                      go_wp2_with fail
                      refine (end_nil g _ hrq).mono ?_
                      rintro e w' ⟨rfl, rfl⟩
                      go_wp2
                      go_roundw
                      case rel => first | exact ⟨0 + 1, by omega, rfl, hbq⟩ | ((repeat apply Exists.intro); exact ⟨⟨0 + 1, by omega, rfl, hbq⟩, rfl⟩)
                      case measure => simp [intOf]
            · have hse := hs.below hb3
              have ho7 := Own.made wr wr.heap.size (Nat.le_refl _)
              have hx7 := From.sees (c := c5) (hse.alloc hb3.size (.cells #[] 5))
              go_wp2_with (first
                | (at_builtin
                   refine wpList_append_from rfl (.tmp 68) (.tmp 69) _ rfl rfl rfl ho7 hx7 (by omega) (by simp) ?_
                   intro A8 N8 c8 w8 ho8 hg8 hat8
                   have hb8 : Below wr.heap.size wr w8 := ((Below.refl _ _).alloc (Nat.le_refl _) _).grown hg8 (by simp) (fun q hq => (ho7.lt q hq).1)
                   have hN8 : N8 ≤ 2181 := by rw [ho8.len, List.nil_append, ← hse.len]; exact hN2
                   have ho9 : Own (w8.alloc (.cells #[.int .u8 7] 5)) w8.heap.size (some ⟨w8.heap.size, 0, none⟩) 1 1 [7] := Own.lit w8 [7] 1 (Nat.le_refl _) (by simp [maxLen]) rfl
                   have hx9 := From.sees (c := 1) ho9.sees
                   have ho8' := ho8.alloc (.cells #[.int .u8 7] 5)
                   have hle9 : wr.heap.size ≤ (w8.alloc (.cells #[.int .u8 7] 5)).heap.size := by have := hb8.size; simp; omega)
                | (at_builtin
                   refine wpList_append_from rfl (.tmp 70) (.tmp 71) _ rfl rfl rfl ho8' hx9 (by omega) hle9 ?_
                   intro A9 N9 c9 w9 ho9' hg9 hat9))
              have hb9 : Below wr.heap.size wr w9 := (hb8.alloc hb8.size _).trans (ho8'.below hg9 hle9)
              have hN9 : N9 ≤ 2182 := by rw [ho9'.len, List.length_append, ← ho8'.len]; simp; omega
              refine (new_any N9 c9 A9 _ w9 ho9'.sees (by omega)).mono ?_
              rintro e w6 ⟨g, rfl, hg, hr6, hb6⟩
              have hb36 : Below W2.heap.size W2 w6 := hb3.trans ((hb9.trans (hb6.mono hb9.size)).mono hb3.size)
              have hgW : W2.heap.size ≤ g := Nat.le_trans hb3.size (Nat.le_trans hb9.size hg)
              have hr6' : Rds w6 g (leB 1 (n % 256) ++ (ints ns ++ (texts ss ++ [7]))) 0 := by simpa using hr6
              clear hr6
              go_wp2_with fail
              refine (byte_n g n _ w6 hr6' (by omega)).mono ?_
              rintro e w10 ⟨rfl, hp10⟩
              have hr10 := hp10.rds
              have hb10 : Below W2.heap.size W2 w10 := hb36.trans (hp10.below hgW hb36.size)
              go_wp2_with fail
              obtain ⟨wo, hwo⟩ : ∃ wo : World, wo = wr := ⟨_, rfl⟩
              subst hwo
              go_loopw [11, 12] (fun okv i wq => ∃ j : Nat, j ≤ n ∧ i = .int .i64 j ∧ okv = .bool true ∧ Rds wq g (ints (ns.drop j) ++ (texts ss ++ [7])) 0 ∧ Below W2.heap.size W2 wq) (fun _ i _ => n - (intOf i).toNat)
              case atStart => exact ⟨0, by omega, rfl, rfl, hr10, hb10⟩
              case round =>
                obtain ⟨j, hj, rfl, rfl, hrq, hbq⟩ := hrel
                by_cases hlt : j < n
                · obtain ⟨b, o, rfl, hbw, hc⟩ := (hns.below (hbr.trans (hbq.mono hbr.size))).int hlt
                  have HE := Lib.hid (ints_drop (vs := ns) (k := j) (by rw [← Hn.out]; exact hlt))
                  obtain ⟨hx1, hx2⟩ := Hbd.out j hlt
                  obtain ⟨x, hx⟩ : ∃ x, x = ns.getD j 0 := ⟨_, rfl⟩
                  rw [← hx] at hc HE hx1 hx2
                  rw [HE.out, List.append_assoc] at hrq
                  clear hx HE
                  have hj0 : (0 : Int) ≤ (j : Int) := by omega
                  have hjn : (j : Int) < (n : Int) := by omega
                  go_wp2
                  go_region_held3 (fun w' => w'.cell? ⟨b, o + j, none⟩ = some (.int .i64 x)) (first | exact hc | exact hc11)
                    (first
                    | (go_at_call 21; refine (int_full g x _ _ (hrq.keep (Below.refl _ _).drew) hx1 hx2).mono ?_; rintro e w11 ⟨rfl, hp11⟩; have hb11 := hp11.below hgW (by exact hbq.size); have hr11 := hp11.rds; have hc11 := (hb11.cell (p := ⟨b, o + j, none⟩) (Nat.lt_of_lt_of_le hbw hbr.size)).trans hc))
                  go_wp2
                  go_roundw
                  case rel => exact ⟨j + 1, by omega, by go_num, rfl, hr11, hbq.drew.trans hb11⟩
                  case measure => simp [intOf]; omega
                · obtain rfl : n = j := by omega
                  rw [show ns.drop n = [] from List.drop_of_length_le (by rw [← Hn.out]; exact Nat.le_refl _), show ints [] = [] from rfl, List.nil_append] at hrq
                  clear hj hlt hr10 hb10 hp10 hr6' hb36
                  go_wp2_with fail
                  have hrq0 := hrq
                  have hbq0 := hbq
                  clear hrq hbq
                  go_loopw [11, 13] (fun okv i wq => ∃ j : Nat, j ≤ m ∧ i = .int .i64 j ∧ okv = .bool true ∧ Rds wq g (texts (ss.drop j) ++ [7]) 0 ∧ Below W2.heap.size W2 wq) (fun _ i _ => m - (intOf i).toNat)
                  case atStart => exact ⟨0, by omega, rfl, rfl, hrq0, hbq0⟩
                  case round =>
                    obtain ⟨j, hj, rfl, rfl, hrq, hbq⟩ := hrel
                    by_cases hlt : j < m
                    · obtain ⟨b, o, rfl, hbw, hc⟩ := (hss.below (hbr.trans (hbq.mono hbr.size))).str hlt
                      have HE := Lib.hid (texts_drop (ss := ss) (k := j) (by rw [← Hm.out]; exact hlt))
                      have hz := HS.out j hlt
                      obtain ⟨x, hx⟩ : ∃ x, x = ss.getD j ⟨#[]⟩ := ⟨_, rfl⟩
                      rw [← hx] at hc HE hz
                      rw [HE.out, List.append_assoc] at hrq
                      clear hx HE
                      have hj0 : (0 : Int) ≤ (j : Int) := by omega
                      have hjm : (j : Int) < (m : Int) := by omega
                      go_wp2
                      go_region_held3 (fun w' => w'.cell? ⟨b, o + j, none⟩ = some (.string x)) (first | exact hc | exact hc11)
                        (first
                        | (go_at_call 25; refine (text_one g x _ _ (hrq.keep (Below.refl _ _).drew) (by omega)).mono ?_; rintro e w11 ⟨rfl, hp11⟩; have hb11 := hp11.below hgW (by exact hbq.size); have hr11 := hp11.rds; have hc11 := (hb11.cell (p := ⟨b, o + j, none⟩) (Nat.lt_of_lt_of_le hbw hbr.size)).trans hc))
                      go_wp2
                      go_roundw
                      case rel => exact ⟨j + 1, by omega, by go_num, rfl, hr11, hbq.drew.trans hb11⟩
                      case measure => simp [intOf]; omega
                    · obtain rfl : m = j := by omega
                      rw [show ss.drop m = [] from List.drop_of_length_le (by rw [← Hm.out]; exact Nat.le_refl _), show texts [] = [] from rfl, List.nil_append] at hrq
                      clear hj hlt hrq0 hbq0
                      go_wp2_with fail
                      refine (end_more g [7] _ hrq (by simp)).mono ?_
                      rintro e w' ⟨rfl, rfl⟩
                      go_wp2
                      go_roundw
                      case rel => first | exact ⟨1 + 1, by omega, rfl, hbq⟩ | ((repeat apply Exists.intro); exact ⟨⟨1 + 1, by omega, rfl, hbq⟩, rfl⟩)
                      case measure => simp [intOf]
            · have hN1i : (1 : Int) ≤ (N : Int) := by omega
              have hse := (hs.below hb3).take (k := N - 1) (by omega)
              have HD := Lib.hid (show (leB 1 (n % 256) ++ ints ns ++ texts ss).take (N - 1) = (leB 1 (n % 256) ++ (ints ns ++ texts ss)).dropLast by rw [hs.len, List.dropLast_eq_take, List.append_assoc])
              rw [HD.out] at hse
              go_wp2_with fail
              refine (new_any (N - 1) c5 A5 _ wr (hse.more hb3.size) (by omega)).mono ?_
              rintro e w6 ⟨g, rfl, hg, hr6, hb6⟩
              have hb36 : Below W2.heap.size W2 w6 := hb3.trans (hb6.mono hb3.size)
              have hgW : W2.heap.size ≤ g := Nat.le_trans hb3.size hg
              obtain ⟨v, hv⟩ := cut_byte g n _ w6 hr6
              have Hv := Lib.hid hv
              clear hv
              obtain ⟨t, ht⟩ : ∃ t : Bool, (v == (n : Int)) = t := ⟨_, rfl⟩
              go_wp2_with fail
              refine Hv.out.mono ?_
              rintro e w10 ⟨rfl, hr10, hg10⟩
              have hb10 : Below W2.heap.size W2 w10 := hb36.trans ((Below.refl _ _).grown hg10 hb36.size (fun q hq => by injection hq with hq; omega))
              go_wp2_with fail
              clear ht
              obtain ⟨wo, hwo⟩ : ∃ wo : World, wo = wr := ⟨_, rfl⟩
              subst hwo
              clear Hv HD
              go_loopw [11, 12] (fun okv i wq => ∃ (j : Nat) (t : Bool), j ≤ n ∧ i = .int .i64 j ∧ okv = .bool t ∧ CutSt wq g (ints (ns.drop j) ++ texts ss) ∧ Below W2.heap.size W2 wq) (fun _ i _ => n - (intOf i).toNat)
              case atStart => exact ⟨0, _, by omega, rfl, rfl, hr10, hb10⟩
              case round =>
                obtain ⟨j, t2, hj, rfl, rfl, hrq, hbq⟩ := hrel
                by_cases hlt : j < n
                · obtain ⟨b, o, rfl, hbw, hc⟩ := (hns.below (hbr.trans (hbq.mono hbr.size))).int hlt
                  have HE := Lib.hid (ints_drop (vs := ns) (k := j) (by rw [← Hn.out]; exact hlt))
                  obtain ⟨hx1, hx2⟩ := Hbd.out j hlt
                  obtain ⟨x, hx⟩ : ∃ x, x = ns.getD j 0 := ⟨_, rfl⟩
                  rw [← hx] at hc HE hx1 hx2
                  rw [HE.out, List.append_assoc] at hrq
                  clear hx HE
                  obtain ⟨y, hy⟩ := cut_int g x _ _ (hrq.keep (Below.refl _ _).drew) hx1 hx2
                  have Hy := Lib.hid hy
                  clear hy hrq
                  have hj0 : (0 : Int) ≤ (j : Int) := by omega
                  have hjn : (j : Int) < (n : Int) := by omega
                  by_cases hyx : y = x
                  · subst hyx
                    go_wp2
                    go_region_held3 (fun w' => w'.cell? ⟨b, o + j, none⟩ = some (.int .i64 y)) (first | exact hc | exact hc11)
                      (first
                      | (go_at_call 21; refine Hy.out.mono ?_; rintro e w11 ⟨rfl, hr11, hg11⟩; have hb11 := (Below.refl W2.heap.size _).grown hg11 (by exact hbq.size) (fun q hq => by injection hq with hq; omega); have hc11 := (hb11.cell (p := ⟨b, o + j, none⟩) (Nat.lt_of_lt_of_le hbw hbr.size)).trans hc))
                    go_wp2
                    go_roundw
                    case rel => exact ⟨j + 1, _, by omega, by go_num, rfl, hr11, hbq.drew.trans hb11⟩
                    case measure => simp [intOf]; omega
                  · have hne : (y == x) = false := by first | exact beq_eq_false_iff_ne.2 hyx | simp [hyx]
                    clear hyx
                    go_wp2
                    first
                    | go_region_with (first | (go_at_call 21; refine Hy.out.mono ?_; rintro e w11 ⟨rfl, hr11, hg11⟩; have hb11 := (Below.refl W2.heap.size _).grown hg11 (by exact hbq.size) (fun q hq => by injection hq with hq; omega); have hc11 := (hb11.cell (p := ⟨b, o + j, none⟩) (Nat.lt_of_lt_of_le hbw hbr.size)).trans hc))
                    | fail
                    all_goals
                      go_wp2
                      go_roundw
                      case rel => exact ⟨j + 1, _, by omega, by go_num, rfl, hr11, hbq.drew.trans hb11⟩
                      case measure => simp [intOf]; omega
                · obtain rfl : n = j := by omega
                  rw [show ns.drop n = [] from List.drop_of_length_le (by rw [← Hn.out]; exact Nat.le_refl _), show ints [] = [] from rfl, List.nil_append] at hrq
                  clear hj hlt hr10 hb10 hr6 hb36
                  go_wp2_with fail
                  have hrq0 := hrq
                  have hbq0 := hbq
                  clear hrq hbq
                  go_loopw [11, 13] (fun okv i wq => ∃ (j : Nat) (t : Bool), j ≤ m ∧ i = .int .i64 j ∧ okv = .bool t ∧ CutSt wq g (texts (ss.drop j)) ∧ Below W2.heap.size W2 wq) (fun _ i _ => m - (intOf i).toNat)
                  case atStart => exact ⟨0, _, by omega, rfl, rfl, hrq0, hbq0⟩
                  case round =>
                    obtain ⟨j, t3, hj, rfl, rfl, hrq, hbq⟩ := hrel
                    by_cases hlt : j < m
                    · obtain ⟨b, o, rfl, hbw, hc⟩ := (hss.below (hbr.trans (hbq.mono hbr.size))).str hlt
                      have HE := Lib.hid (texts_drop (ss := ss) (k := j) (by rw [← Hm.out]; exact hlt))
                      have hz := HS.out j hlt
                      obtain ⟨x, hx⟩ : ∃ x, x = ss.getD j ⟨#[]⟩ := ⟨_, rfl⟩
                      rw [← hx] at hc HE hz
                      rw [HE.out] at hrq
                      clear hx HE
                      obtain ⟨y, hy⟩ := cut_text g x _ _ (hrq.keep (Below.refl _ _).drew) (by omega)
                      have Hy := Lib.hid hy
                      clear hy hrq
                      have hj0 : (0 : Int) ≤ (j : Int) := by omega
                      have hjm : (j : Int) < (m : Int) := by omega
                      by_cases hyx : y.toList = x.toList
                      · go_wp2
                        go_region_held3 (fun w' => w'.cell? ⟨b, o + j, none⟩ = some (.string x)) (first | exact hc | exact hc11)
                          (first
                          | (go_at_call 25; refine Hy.out.mono ?_; rintro e w11 ⟨rfl, hr11, hg11⟩; have hb11 := (Below.refl W2.heap.size _).grown hg11 (by exact hbq.size) (fun q hq => by injection hq with hq; omega); have hc11 := (hb11.cell (p := ⟨b, o + j, none⟩) (Nat.lt_of_lt_of_le hbw hbr.size)).trans hc))
                        go_wp2
                        go_roundw
                        case rel => exact ⟨j + 1, _, by omega, by go_num, rfl, hr11, hbq.drew.trans hb11⟩
                        case measure => simp [intOf]; omega
                      · have hne : (y.toList == x.toList) = false := by simpa using hyx
                        clear hyx
                        go_wp2
                        first
                        | go_region_with (first | (go_at_call 25; refine Hy.out.mono ?_; rintro e w11 ⟨rfl, hr11, hg11⟩; have hb11 := (Below.refl W2.heap.size _).grown hg11 (by exact hbq.size) (fun q hq => by injection hq with hq; omega); have hc11 := (hb11.cell (p := ⟨b, o + j, none⟩) (Nat.lt_of_lt_of_le hbw hbr.size)).trans hc))
                        | fail
                        all_goals
                          go_wp2
                          go_roundw
                          case rel => exact ⟨j + 1, _, by omega, by go_num, rfl, hr11, hbq.drew.trans hb11⟩
                          case measure => simp [intOf]; omega
                    · obtain rfl : m = j := by omega
                      rw [show ss.drop m = [] from List.drop_of_length_le (by rw [← Hm.out]; exact Nat.le_refl _), show texts [] = [] from rfl] at hrq
                      clear hj hlt hrq0 hbq0
                      go_wp2_with fail
                      refine (end_cut g _ hrq).mono ?_
                      rintro e w' ⟨rfl, rfl⟩
                      go_wp2
                      go_roundw
                      case rel => first | exact ⟨3, by omega, rfl, hbq⟩ | ((repeat apply Exists.intro); exact ⟨⟨3, by omega, rfl, hbq⟩, rfl⟩)
                      case measure => simp [intOf]
            · go_wp2_with fail
              go_ret
              exact ⟨rfl, hbr.trans (hb3.mono hbr.size)⟩
end Go.Proofs.Ytfnenafdmpihaaa
