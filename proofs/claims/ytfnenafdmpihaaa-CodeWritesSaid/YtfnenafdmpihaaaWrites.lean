/- CodeWrites: any number, byte, text, behind any bytes, is written as the document says. -/
import Derived.Test.YtfnenafdmpihaaaRefPut
import Derived.Deep.RegionWith
namespace Go.Proofs.Ytfnenafdmpihaaa
open Go.RowKit

/-- What holds between the calls: the bytes that came in; the row of one's own that reads as they; all else as it was. -/
structure St (w0 W : World) (base : Nat) (A : Option Addr) (n : Nat) (l : List UInt8) (B : Option Addr) (m d : Nat) : Prop where
  sees : Sees W w0.heap.size A n l
  own : Own W base B m d l
  le0 : w0.heap.size ≤ base
  le1 : base ≤ W.heap.size
  below : Below w0.heap.size w0 W
theorem St.drew {w0 W : World} {base n m d : Nat} {A B : Option Addr} {l : List UInt8} (h : St w0 W base A n l B m d) : St w0 W.drew base A n l B m d := ⟨h.sees.drew, h.own.drew, h.le0, h.le1, h.below.drew⟩

def CodeGot (en : Ending) (w0 W W' : World) (base : Nat) (A : Option Addr) (n : Nat) (l : List UInt8) (B : Option Addr) (m d : Nat) (M : List UInt8) (X : ByteArray) : Prop :=
  ∃ A3 N3 c3, en = .returned (.slice A3 N3 c3) ∧ (convert 22 9 (.slice A3 N3 c3)).run Try.prog W' = .ok (.string X) W' ∧ Own W' W.heap.size A3 N3 c3 M ∧ St w0 W' base A n l B m d ∧ W.heap.size ≤ W'.heap.size
def RefGot (en : Ending) (w0 W' : World) (base : Nat) (A : Option Addr) (n : Nat) (l : List UInt8) (B : Option Addr) (m d : Nat) (A3 : Option Addr) (N3 c3 : Nat) (X : ByteArray) : Prop :=
  ∃ A4 N4 c4, en = .returned (.slice A4 N4 c4) ∧ (convert 22 9 (.slice A4 N4 c4)).run Try.prog W' = .ok (.string X) W' ∧ (convert 22 9 (.slice A3 N3 c3)).run Try.prog W' = .ok (.string X) W' ∧ St w0 W' base A n l B m d

theorem conv_own {w : World} {base n c : Nat} {A : Option Addr} {l : List UInt8} {X : ByteArray} (h : Own w base A n c l) (hX : X = ⟨l.toArray⟩) : (convert 22 9 (.slice A n c)).run Try.prog w = .ok (.string X) w := by
  rw [hX]
  exact run_text 22 9 5 Try.underlying22 Try.underlying5 Try.underlying9 h.sees

theorem st_code {w0 W : World} {base n m d c f : Nat} {A B : Option Addr} {l M : List UInt8} {arg : Value} {X : ByteArray} (hst : St w0 W base A n l B m d) (hX : X = ⟨(l ++ M).toArray⟩)
    (hcall : Sees W W.heap.size A n l → Calls Try.prog f #[.slice A n c, arg] W fun e w' => ∃ A' N c', e = .returned (.slice A' N c') ∧ Own w' W.heap.size A' N c' (l ++ M) ∧ Below W.heap.size W w') :
    Calls Try.prog f #[.slice A n c, arg] W fun en W' => CodeGot en w0 W W' base A n l B m d (l ++ M) X := by
  have h0 : w0.heap.size ≤ W.heap.size := Nat.le_trans hst.le0 hst.le1
  refine (hcall (hst.sees.more h0)).mono ?_
  rintro e w' ⟨A', N, c', rfl, ho, hb⟩
  exact ⟨A', N, c', rfl, conv_own ho hX, ho, ⟨hst.sees.below (hb.mono h0), hst.own.keep hb, hst.le0, Nat.le_trans hst.le1 hb.size, hst.below.trans (hb.mono h0)⟩, hb.size⟩

theorem st_ref {w0 W : World} {base n m d f N3 c3 F : Nat} {A B A3 : Option Addr} {l M : List UInt8} {arg : Value} {X : ByteArray} (hst : St w0 W base A n l B m d) (hX : X = ⟨(l ++ M).toArray⟩) (h3 : Own W F A3 N3 c3 (l ++ M))
    (hF : ∀ k, (Value.slice B m d).ownBlock = some k → k < F)
    (hcall : Calls Try.prog f #[.slice B m d, arg] W fun en w' => PutGot en W w' base B m d l M) :
    Calls Try.prog f #[.slice B m d, arg] W fun en W' => RefGot en w0 W' base A n l B m d A3 N3 c3 X := by
  refine hcall.mono ?_
  rintro e w' ⟨⟨A', N, c', rfl, ho⟩, hk, hg⟩
  have hb : Below base W w' := (Below.refl _ _).grown hg hst.le1 (fun k hk => (hst.own.lt k hk).1)
  have ho3 : Own w' F A3 N3 c3 (l ++ M) := by
    refine ⟨h3.row.kept hg ?_⟩
    cases hv : (Value.slice A3 N3 c3).ownBlock with
    | none => exact .inl rfl
    | some k =>
      refine .inr fun e => ?_
      have h1 := (h3.lt k hv).1
      have h2 := hF k e.symm
      omega
  exact ⟨A', N, c', rfl, conv_own ho hX, conv_own ho3 hX, ⟨hst.sees.below (hb.mono hst.le0), hk, hst.le0, Nat.le_trans hst.le1 hg.size, hst.below.trans (hb.mono hst.le0)⟩⟩

set_option maxHeartbeats 1000000 in
theorem writes_far (A : Option Addr) (n c : Nat) (v : Int) (s : ByteArray) (w : World) (hsz : s.size ≤ maxLen) (h : 300 < n ∨ 500 < s.size) (hn : n ≤ maxLen) :
    Calls Try.prog 3 #[.slice A n c, .int .i64 v, .string s] w fun e w' => e = .returned (.bool true) ∧ Below w.heap.size w w' := by
  unfold maxLen at hsz hn
  by_cases h1 : 300 < n
  · go_enter Try.func3, Try.ntmps3
    go_wp2_with fail
    refine (known_any w).mono ?_
    rintro e w1 ⟨rfl, hb1⟩
    go_wp2_with fail
    go_ret
    exact ⟨rfl, hb1⟩
  · have h2 : 500 < s.size := by omega
    go_enter Try.func3, Try.ntmps3
    go_wp2_with fail
    refine (known_any w).mono ?_
    rintro e w1 ⟨rfl, hb1⟩
    go_wp2_with fail
    go_ret
    exact ⟨rfl, hb1⟩

set_option maxRecDepth 100000 in
set_option maxHeartbeats 100000000 in
theorem writes_near (A : Option Addr) (n c : Nat) (l : List UInt8) (v : Int) (s : ByteArray) (w : World) (hs : Sees w w.heap.size A n l) (h1 : n ≤ 300) (h2 : s.size ≤ 500) :
    Calls Try.prog 3 #[.slice A n c, .int .i64 v, .string s] w fun e w' => e = .returned (.bool true) ∧ Below w.heap.size w w' := by
  have h1' : ¬ 300 < n := by omega
  have h2' : ¬ 500 < s.size := by omega
  have H3 := Lib.hid (show s.size ≤ maxLen by unfold maxLen; omega)
  obtain ⟨XI, hXI⟩ : ∃ X : ByteArray, X = ⟨(l ++ leB 8 (v % 18446744073709551616).toNat).toArray⟩ := ⟨_, rfl⟩
  obtain ⟨XB, hXB⟩ : ∃ X : ByteArray, X = ⟨(l ++ leB 1 (v % 256).toNat).toArray⟩ := ⟨_, rfl⟩
  obtain ⟨XT, hXT⟩ : ∃ X : ByteArray, X = ⟨(l ++ textB s).toArray⟩ := ⟨_, rfl⟩
  have HI := Lib.hid hXI
  have HB := Lib.hid hXB
  have HT := Lib.hid hXT
  clear hXI hXB hXT
  go_enter Try.func3, Try.ntmps3
  go_wp2_with fail
  refine (known_any w).mono ?_
  rintro e w1 ⟨rfl, hb1⟩
  have ho1 := Own.made w1 w1.heap.size (Nat.le_refl _)
  have hx1 := From.sees (c := c) ((hs.below hb1).alloc hb1.size (.cells #[] 5))
  go_wp2_with (at_builtin; refine wpList_append_from rfl _ _ _ rfl rfl rfl ho1 hx1 (by omega) (by simp) ?_; intro B m d w2 ho2 hg2 hat2)
  have hb2 : Below w1.heap.size w1 w2 := ((Below.refl _ _).alloc (Nat.le_refl _) _).grown hg2 (by simp) (fun q hq => (ho1.lt q hq).1)
  have hm : m ≤ 300 := by rw [ho2.len, List.nil_append, ← hs.len]; exact h1
  rw [List.nil_append] at ho2
  have hst : St w w2 w1.heap.size A n l B m d := ⟨(hs.below hb1).below (hb2.mono hb1.size), ho2, hb1.size, hb2.size, hb1.trans (hb2.mono hb1.size)⟩
  have hlt := ho2.lt
  have Hlt := Lib.hid hlt
  clear hlt ho2 hb2 hx1 ho1 hg2 hat2 hs
  have hst0 := hst.drew
  have hF0 := Lib.hid (show ∀ k, (Value.slice B m d).ownBlock = some k → k < w2.drew.heap.size from fun k hk => (Hlt.out k hk).2)
  clear hst
  go_region_with (first
    | (go_at_call 12; refine (st_code hst0 HI.out (fun h => putInt_any A n c l v _ h (by omega))).mono ?_; rintro e W1 ⟨A3, N3, c3, rfl, hT1, ho3, hst1, hz1⟩)
    | (go_at_call 13; refine (st_ref hst1 HI.out ho3 hF0.out (rputInt_any B m d _ l v _ hst1.own hst1.le1 (by omega))).mono ?_; rintro e W2 ⟨A4, N4, c4, rfl, hT2, hT3, hst2⟩; have hF2 := Lib.hid (fun k hk => Nat.lt_of_lt_of_le (hst2.own.lt k hk).2 (Nat.le_refl _)))
    | (go_at_call 14; refine (st_code hst2 HB.out (fun h => putByte_any A n c l v _ h (by omega))).mono ?_; rintro e W3 ⟨A5, N5, c5, rfl, hT4, ho5, hst3, hz3⟩; clear hT1 hT2 hT3 ho3 hst0 hst1 hst2 hz1)
    | (go_at_call 15; refine (st_ref hst3 HB.out ho5 hF2.out (rputByte_any B m d _ l v _ hst3.own hst3.le1 (by omega))).mono ?_; rintro e W4 ⟨A6, N6, c6, rfl, hT5, hT6, hst4⟩; have hF4 := Lib.hid (fun k hk => Nat.lt_of_lt_of_le (hst4.own.lt k hk).2 (Nat.le_refl _)))
    | (go_at_call 16; refine (st_code hst4 HT.out (fun h => putText_any A n c l s _ h (by omega) H3.out)).mono ?_; rintro e W5 ⟨A7, N7, c7, rfl, hT7, ho7, hst5, hz5⟩; clear hT4 hT5 hT6 ho5 hst3 hst4 hz3)
    | (go_at_call 17; refine (st_ref hst5 HT.out ho7 hF4.out (rputText_any B m d _ l s _ hst5.own hst5.le1 (by omega) h2)).mono ?_; rintro e W6 ⟨A8, N8, c8, rfl, hT8, hT9, hst6⟩))
  all_goals
    go_wp2_with fail
    go_ret
    exact ⟨rfl, hst6.below⟩
end Go.Proofs.Ytfnenafdmpihaaa
