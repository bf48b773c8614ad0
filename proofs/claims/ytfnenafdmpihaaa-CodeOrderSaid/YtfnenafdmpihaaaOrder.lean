/- CodeOrder: what is put stands behind what was put ahead of it, in its order: for whatever bytes, numbers, text. -/
import Derived.Test.YtfnenafdmpihaaaKnown
namespace Go.Proofs.Ytfnenafdmpihaaa
open Go.RowKit

set_option maxHeartbeats 1000000 in
theorem order_far (A : Option Addr) (n c : Nat) (v m : Int) (s : ByteArray) (w : World) (hsz : s.size ≤ maxLen) (h : 50 < n ∨ 200 < s.size) (hn : n ≤ maxLen) :
    Calls Try.prog 10 #[.slice A n c, .int .i64 v, .int .i64 m, .string s] w fun e w' => e = .returned (.bool true) ∧ Below w.heap.size w w' := by
  unfold maxLen at hsz hn
  by_cases h1 : 50 < n
  · go_enter Try.func10, Try.ntmps10
    go_wp2_with fail
    refine (known_any w).mono ?_
    rintro e w1 ⟨rfl, hb1⟩
    go_wp2_with fail
    go_ret
    exact ⟨rfl, hb1⟩
  · have h2 : 200 < s.size := by omega
    go_enter Try.func10, Try.ntmps10
    go_wp2_with fail
    refine (known_any w).mono ?_
    rintro e w1 ⟨rfl, hb1⟩
    go_wp2_with fail
    go_ret
    exact ⟨rfl, hb1⟩

set_option maxHeartbeats 1000000 in
theorem order_near (A : Option Addr) (n c : Nat) (l : List UInt8) (v m : Int) (s : ByteArray) (w : World) (hs : Sees w w.heap.size A n l) (h1 : n ≤ 50) (h2 : s.size ≤ 200) :
    Calls Try.prog 10 #[.slice A n c, .int .i64 v, .int .i64 m, .string s] w fun e w' => e = .returned (.bool true) ∧ Below w.heap.size w w' := by
  have h1' : ¬ 50 < n := by omega
  have h2' : ¬ 200 < s.size := by omega
  have h3 : s.size ≤ maxLen := by unfold maxLen; omega
  have H3 := Lib.hid h3
  clear h3
  go_enter Try.func10, Try.ntmps10
  go_wp2_with fail
  refine (known_any w).mono ?_
  rintro e w1 ⟨rfl, hb1⟩
  have ho1 := Own.made w1 w1.heap.size (Nat.le_refl _)
  have hs1 := hs.below hb1
  have hx1 := From.sees (c := c) (hs1.alloc hb1.size (.cells #[] 5))
  go_wp2_with (at_builtin; refine wpList_append_from rfl _ _ _ rfl rfl rfl ho1 hx1 (by omega) (by simp) ?_; intro A2 N2 c2 w2 ho2 hg2 hat2)
  have hb2 : Below w1.heap.size w1 w2 := ((Below.refl _ _).alloc (Nat.le_refl _) _).grown hg2 (by simp) (fun q hq => (ho1.lt q hq).1)
  have hn2 : N2 ≤ 50 := by rw [ho2.len, List.nil_append, ← hs.len]; exact h1
  refine (putInt_any A2 N2 c2 _ v w2 ho2.sees (by omega)).mono ?_
  rintro e w3 ⟨A3, N3, c3, rfl, ho3, hb3⟩
  have hn3 : N3 ≤ 58 := by rw [ho3.len, List.length_append, ← ho2.len, leB_length]; omega
  go_wp2_with fail
  refine (putByte_any A3 N3 c3 _ m w3 ho3.sees (by omega)).mono ?_
  rintro e w4 ⟨A4, N4, c4, rfl, ho4, hb4⟩
  have hn4 : N4 ≤ 59 := by rw [ho4.len, List.length_append, ← ho3.len, leB_length]; omega
  go_wp2_with fail
  refine (putText_any A4 N4 c4 _ s w4 ho4.sees (by omega) H3.out).mono ?_
  rintro e w5 ⟨A5, N5, c5, rfl, ho5, hb5⟩
  have hb25 : Below w2.heap.size w2 w5 := (hb3.trans (hb4.mono hb3.size)).trans (hb5.mono (Nat.le_trans hb3.size hb4.size))
  have hb15 : Below w1.heap.size w1 w5 := hb2.trans (hb25.mono hb2.size)
  have hb05 : Below w.heap.size w w5 := hb1.trans (hb15.mono hb1.size)
  have hos := Own.made w5 w5.heap.size (Nat.le_refl _)
  have hxs := From.sees (c := c) ((hs.below hb05).alloc hb05.size (.cells #[] 5))
  go_wp2_with (at_builtin; refine wpList_append_from rfl _ _ _ rfl rfl rfl hos hxs (by omega) (by simp) ?_; intro A6 N6 c6 w6 ho6 hg6 hat6)
  have hb6 : Below w5.heap.size w5 w6 := ((Below.refl _ _).alloc (Nat.le_refl _) _).grown hg6 (by simp) (fun q hq => (hos.lt q hq).1)
  have hn6 : N6 ≤ 50 := by rw [ho6.len, List.nil_append, ← hs.len]; exact h1
  refine (putInt_any none 0 0 [] v w6 (Sees.none_ _ _ _) (by omega)).mono ?_
  rintro e w7 ⟨A7, N7, c7, rfl, ho7, hb7⟩
  have hn7 : N7 ≤ 8 := by rw [ho7.len, List.nil_append, leB_length]; omega
  have ho67 := ho6.keep hb7
  have hx7 := From.sees (c := c7) ho7.sees
  have hle7 : w5.heap.size ≤ w7.heap.size := Nat.le_trans hb6.size hb7.size
  go_wp2_with (at_builtin; refine wpList_append_from rfl _ _ _ rfl rfl rfl ho67 hx7 (by omega) hle7 ?_; intro A8 N8 c8 w8 ho8 hg8 hat8)
  have hb8 : Below w5.heap.size w7 w8 := ho67.below hg8 hle7
  have hn8 : N8 ≤ 58 := by rw [ho8.len, List.length_append, ← ho67.len, ← ho7.len]; omega
  refine (putByte_any none 0 0 [] m w8 (Sees.none_ _ _ _) (by omega)).mono ?_
  rintro e w9 ⟨A9, N9, c9, rfl, ho9, hb9⟩
  have hn9 : N9 ≤ 1 := by rw [ho9.len, List.nil_append, leB_length]; omega
  have ho89 := ho8.keep hb9
  have hx9 := From.sees (c := c9) ho9.sees
  have hle9 : w5.heap.size ≤ w9.heap.size := Nat.le_trans hle7 (Nat.le_trans hb8.size hb9.size)
  go_wp2_with (at_builtin; refine wpList_append_from rfl _ _ _ rfl rfl rfl ho89 hx9 (by omega) hle9 ?_; intro A10 N10 c10 w10 ho10 hg10 hat10)
  have hb10 : Below w5.heap.size w9 w10 := ho89.below hg10 hle9
  have hn10 : N10 ≤ 59 := by rw [ho10.len, List.length_append, ← ho89.len, ← ho9.len]; omega
  refine (putText_any none 0 0 [] s w10 (Sees.none_ _ _ _) (by omega) H3.out).mono ?_
  rintro e w11 ⟨A11, N11, c11, rfl, ho11, hb11⟩
  have hlt : (textB s).length = 2 + s.size := by
    unfold textB
    rw [cutText_short (by omega), List.length_append, leB_length]
    rfl
  have hn11 : N11 ≤ 202 := by rw [ho11.len, List.nil_append, hlt]; omega
  have ho1011 := ho10.keep hb11
  have hx11 := From.sees (c := c11) ho11.sees
  have hle11 : w5.heap.size ≤ w11.heap.size := Nat.le_trans hle9 (Nat.le_trans hb10.size hb11.size)
  have Hlt := Lib.hid hlt
  clear hlt
  go_wp2_with (at_builtin; refine wpList_append_from rfl _ _ _ rfl rfl rfl ho1011 hx11 (by omega) hle11 ?_; intro A12 N12 c12 w12 ho12 hg12 hat12)
  have hb12 : Below w5.heap.size w11 w12 := ho1011.below hg12 hle11
  have hb5e : Below w5.heap.size w5 w12 := hb6.trans ((hb7.mono hb6.size).trans (hb8.trans ((hb9.mono (Nat.le_trans hle7 hb8.size)).trans (hb10.trans ((hb11.mono (Nat.le_trans hle9 hb10.size)).trans hb12)))))
  have hx := (ho5.keep hb5e).sees
  have hy := ho12.sees
  have Hn5 := Lib.hid ho5.len
  have hl0 : l.length = n := hs.len.symm
  have hN5 : N5 = n + 8 + 1 + 2 + s.size := by
    have := Hn5.out
    simp only [List.length_append, List.length_nil, leB_length, Hlt.out, hl0] at this
    omega
  have HE := Lib.hid (show ((([] ++ l) ++ ([] ++ leB 8 (v % 18446744073709551616).toNat)) ++ ([] ++ leB 1 (m % 256).toNat)) ++ ([] ++ textB s) = ((([] ++ l) ++ leB 8 (v % 18446744073709551616).toNat) ++ leB 1 (m % 256).toNat) ++ textB s by simp)
  rw [HE.out] at hy
  have hcx := run_text 22 9 5 Try.underlying22 Try.underlying5 Try.underlying9 (c := c5) hx
  have hcy := run_text 22 9 5 Try.underlying22 Try.underlying5 Try.underlying9 (c := c12) hy
  generalize (⟨(((([] ++ l) ++ leB 8 (v % 18446744073709551616).toNat) ++ leB 1 (m % 256).toNat) ++ textB s).toArray⟩ : ByteArray) = X at hcx hcy
  clear hl0 Hn5
  subst hN5
  rw [hcx]
  go_simp
  go_wp2_with fail
  go_ret
  exact ⟨rfl, hb05.trans (hb5e.mono hb05.size)⟩
end Go.Proofs.Ytfnenafdmpihaaa
