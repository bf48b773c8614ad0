/- CodeLess: a text that says it is longer than what is left is cut, and so is a number of less than eight bytes. -/
import Derived.Test.YtfnenafdmpihaaaFace
namespace Go.Proofs.Ytfnenafdmpihaaa
open Go.RowKit

theorem text_short (g k : Nat) (l : List UInt8) (w : World) (h : Rds w g (leB 2 k ++ l) 0) (hk : k < 65536) (hl : l.length < k) : Calls Try.prog 25 #[.pointer (some ⟨g, 0, none⟩)] w fun en w' => en = .returned (.string ⟨#[]⟩) ∧ ReadPost w w' g l 8 := by
  have hr := text_any g _ 0 w h
  have e : rdStep 2 (leB 2 k ++ l) 0 = (k, l, 0) := by
    rw [rdStep_yes (by rw [List.length_append, leB_length]; omega)]
    have ht : (leB 2 k ++ l).take 2 = leB 2 k := List.take_left' (leB_length 2 k)
    have hd : (leB 2 k ++ l).drop 2 = l := List.drop_left' (leB_length 2 k)
    rw [ht, hd, valB_leB 2 k hk]
  unfold txStep at hr
  rw [e, txNext_short hl] at hr
  exact hr

theorem two_lit {k : Nat} (h : k < 65536) : (byts (leB 2 k)).toArray = #[.int .u8 ((k : Int) % 256), .int .u8 ((k : Int) / 256)] := by
  have e : k / 256 % 2 ^ 8 = k / 256 := by omega
  simp only [leB, byts, byt, List.map_cons, List.map_nil, UInt8.toNat_ofNat', e]
  rfl

set_option maxHeartbeats 1000000 in
theorem less_far (A : Option Addr) (n c : Nat) (a : Int) (w : World) (h1 : 200 < n) (hn : n ≤ maxLen) :
    Calls Try.prog 9 #[.int .i64 a, .slice A n c] w fun e w' => e = .returned (.bool true) ∧ Below w.heap.size w w' := by
  unfold maxLen at hn
  go_enter Try.func9, Try.ntmps9
  go_wp2_with fail
  refine (known_any w).mono ?_
  rintro e w1 ⟨rfl, hb1⟩
  go_wp2_with fail
  go_ret
  exact ⟨rfl, hb1⟩

set_option maxHeartbeats 4000000 in
theorem less_near (A : Option Addr) (n c : Nat) (l : List UInt8) (a : Int) (w : World) (hs : Sees w w.heap.size A n l) (h1 : n ≤ 200) (hnc : n ≤ c) (hcm : c ≤ maxLen) (ha : (Lit.int .i64 a).wf = true) :
    Calls Try.prog 9 #[.int .i64 a, .slice A n c] w fun e w' => e = .returned (.bool true) ∧ Below w.heap.size w w' := by
  have HA := Lib.hid ha
  have Hnl := Lib.hid hs.len
  clear ha
  have h1' : ¬ 200 < n := by omega
  unfold maxLen at hcm
  go_enter Try.func9, Try.ntmps9
  go_wp2_with fail
  refine (known_any w).mono ?_
  rintro e w1 ⟨rfl, hb1⟩
  go_wp2_with fail
  refine (within_any a 300 (by omega) (by omega) HA.out _).mono ?_
  rintro e w' ⟨rfl, rfl⟩
  obtain ⟨E, hE⟩ : ∃ E : Nat, a % 300 = (E : Int) := ⟨(a % 300).toNat, by omega⟩
  have hE2 : E < 300 := by omega
  rw [hE]
  clear hE
  have ho1 := Own.lit (base := w1.heap.size) w1 (leB 2 (n + 1 + E)) 2 (Nat.le_refl _) (by simp [maxLen]) (leB_length _ _)
  rw [two_lit (by omega : n + 1 + E < 65536), show ((n + 1 + E : Nat) : Int) = (n : Int) + 1 + E by omega] at ho1
  have hs1 := (hs.below hb1).alloc hb1.size (.cells #[.int .u8 (((n : Int) + 1 + E) % 256), .int .u8 (((n : Int) + 1 + E) / 256)] 5)
  have hx1 := From.sees (c := c) hs1
  go_wp2_with (at_builtin; refine wpList_append_from rfl _ _ _ rfl rfl rfl ho1 hx1 (by omega) (by simp) ?_; intro A2 N2 c2 w2 ho2 hg2 hat2)
  have hb2 : Below w1.heap.size w1 w2 := ((Below.refl _ _).alloc (Nat.le_refl _) _).grown hg2 (by simp) (fun q hq => (ho1.lt q hq).1)
  have hn2 : N2 ≤ 202 := by rw [ho2.len, List.length_append, leB_length, ← hs.len]; omega
  refine (new_any N2 c2 A2 _ w2 ho2.sees (by omega)).mono ?_
  rintro e w3 ⟨g, rfl, hg, hr3, hb3⟩
  have hg' : w1.heap.size ≤ g := Nat.le_trans hb2.size hg
  go_wp2_with fail
  refine (text_short g (n + 1 + E) l w3 hr3 (by omega) (by rw [← Hnl.out]; omega)).mono ?_
  rintro e w4 ⟨rfl, hp4⟩
  have hr4 := hp4.rds
  have hb4 := hp4.below hg' (Nat.le_trans hb2.size hb3.size)
  have hb14 : Below w1.heap.size w1 w4 := (hb2.trans (hb3.mono hb2.size)).trans hb4
  have hs4 := (hs.below hb1).below (hb14.mono hb1.size)
  have hle4 : w.heap.size ≤ w4.heap.size := Nat.le_trans hb1.size hb14.size
  by_cases h7 : n ≤ 7
  · go_wp2_with fail
    refine (new_any n c A l w4 (hs4.more hle4) (by omega)).mono ?_
    rintro e w5 ⟨g2, rfl, hg2, hx5, hb5⟩
    have hr5 := hr4.keep hb5
    have hgg : g < g2 := Nat.lt_of_lt_of_le hr4.lt hg2
    go_wp2_with fail
    refine (int_short g2 l w5 hx5 (by rw [← Hnl.out]; omega)).mono ?_
    rintro e w6 ⟨rfl, hp6⟩
    have hx6 := hp6.rds
    have hr6 := hr5.far hp6.2 hgg
    have hb6 := hp6.below hg2 hb5.size
    go_wp2_with fail
    refine (end_some g l 8 w6 hr6 (by omega)).mono ?_
    rintro e w' ⟨rfl, rfl⟩
    go_wp2_with fail
    refine (end_some g2 l 8 w6 hx6 (by omega)).mono ?_
    rintro e w' ⟨rfl, rfl⟩
    go_wp2_with fail
    go_ret
    exact ⟨rfl, hb1.trans ((hb14.trans ((hb5.trans hb6).mono hb14.size)).mono hb1.size)⟩
  · go_wp2_with fail
    have Ht := Lib.hid (show (l.take 7).length < 8 by rw [List.length_take]; omega)
    have hst := hs4.take (k := 7) (by omega)
    generalize l.take 7 = l7 at *
    refine (new_any 7 c A l7 w4 (hst.more hle4) (by omega)).mono ?_
    rintro e w5 ⟨g2, rfl, hg2, hx5, hb5⟩
    have hr5 := hr4.keep hb5
    have hgg : g < g2 := Nat.lt_of_lt_of_le hr4.lt hg2
    go_wp2_with fail
    refine (int_short g2 l7 w5 hx5 Ht.out).mono ?_
    rintro e w6 ⟨rfl, hp6⟩
    have hx6 := hp6.rds
    have hr6 := hr5.far hp6.2 hgg
    have hb6 := hp6.below hg2 hb5.size
    go_wp2_with fail
    refine (end_some g l 8 w6 hr6 (by omega)).mono ?_
    rintro e w' ⟨rfl, rfl⟩
    go_wp2_with fail
    refine (end_some g2 l7 8 w6 hx6 (by omega)).mono ?_
    rintro e w' ⟨rfl, rfl⟩
    go_wp2_with fail
    go_ret
    exact ⟨rfl, hb1.trans ((hb14.trans ((hb5.trans hb6).mono hb14.size)).mono hb1.size)⟩
end Go.Proofs.Ytfnenafdmpihaaa
