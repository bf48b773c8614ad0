/- The second writer: Int, Byte, Text. -/
import Derived.Test.YtpaaafdnkehmfaaKeep
namespace Go.Proofs.Ytpaaafdnkehmfaa
open Go.RowKit

/-- What the second writer leaves, called on a row of one's own. -/
def PutGot (en : Ending) (w w' : World) (base : Nat) (A : Option Addr) (n c : Nat) (l m : List UInt8) : Prop :=
  (∃ A' N c', en = .returned (.slice A' N c') ∧ Own w' base A' N c' (l ++ m)) ∧ Own w' base A n c l ∧ w.grownBy w' (Value.slice A n c).ownBlock

theorem grown_new {w w' : World} (o : Obj) {row : Option Nat} (h : (w.alloc o).grownBy w' row) : w.grownBy w' row :=
  ⟨h.os, h.tape, h.output, Nat.le_trans (by simp) h.size, fun i hi hne => (h.block i (by simp; omega) hne).trans (Below.heap_alloc w o i hi)⟩

theorem Grow2.alloc1 {a w : World} {row : Option Nat} (h : a.grownBy w row) (o : Obj) : a.grownBy (w.alloc o) row :=
  ⟨h.os, h.tape, h.output, Nat.le_trans h.size (by simp), fun i hi hne => (Below.heap_alloc w o i (Nat.lt_of_lt_of_le hi h.size)).trans (h.block i hi hne)⟩

set_option maxHeartbeats 1000000 in
theorem rputByte_any (A : Option Addr) (n c base : Nat) (l : List UInt8) (v : Int) (w : World) (ho : Own w base A n c l) (hb : base ≤ w.heap.size) (hn : n ≤ 65536) : Calls Try.prog 35 #[.slice A n c, .int .i64 v] w fun en w' =>
    PutGot en w w' base A n c l (leB 1 (v % 256).toNat) := by
  obtain ⟨u, hu⟩ : ∃ u : Nat, u = (v % 256).toNat := ⟨_, rfl⟩
  have hw : IntKind.u8.wrap v = (u : Int) := by rw [IntKind.wrap_u8', hu]; omega
  have hlt : u < 256 := by omega
  rw [← hu]
  clear hu
  have h1 : Own (w.alloc (.cells #[.int .u8 (u : Int)] 5)) w.heap.size (some ⟨w.heap.size, 0, none⟩) 1 1 (leB 1 u) := by
    have h := Own.lit (base := w.heap.size) w (leB 1 u) 1 (Nat.le_refl _) (by simp [maxLen]) (leB_length 1 u)
    have e : (byts (leB 1 u)).toArray = #[.int .u8 (u : Int)] := by
      simp only [leB, byts, byt, List.map_cons, List.map_nil, UInt8.toNat_ofNat', Nat.mod_eq_of_lt hlt]
    rwa [e] at h
  have hx := From.sees (c := 1) h1.sees
  have ho1 := ho.alloc (.cells #[.int .u8 (u : Int)] 5)
  have hb1 : base ≤ (w.alloc (.cells #[.int .u8 (u : Int)] 5)).heap.size := by simp; omega
  go_enter Try.func35, Try.ntmps35
  go_wp2_with (at_builtin; refine wpList_append_keep rfl _ _ _ rfl rfl rfl ho1 hx (by omega) hb1 ?_; intro A' N c' w' ho' hg' hat' hk')
  go_ret
  exact ⟨⟨A', N, c', rfl, ho'⟩, hk', grown_new _ hg'⟩

set_option maxHeartbeats 2000000 in
theorem two_bytes {k : Nat} (h : k < 65536) : (byts (leB 2 k)).toArray = #[.int .u8 ((k : Int) % 256), .int .u8 ((k : Int) / 256)] := by
  have e : k / 256 % 2 ^ 8 = k / 256 := by omega
  simp only [leB, byts, byt, List.map_cons, List.map_nil, UInt8.toNat_ofNat', e]
  rfl

set_option maxHeartbeats 2000000 in
theorem rputText_any (A : Option Addr) (n c base : Nat) (l : List UInt8) (s : ByteArray) (w : World) (ho : Own w base A n c l) (hb : base ≤ w.heap.size) (hn : n ≤ 65536) (hsz : s.size ≤ 500) : Calls Try.prog 61 #[.slice A n c, .string s] w fun en w' =>
    PutGot en w w' base A n c l (textB s) := by
  have Ht := Lib.hid (show textB s = leB 2 s.size ++ s.data.toList by unfold textB; rw [cutText_short (by omega)]; rfl)
  rw [Ht.out]
  have h1 := Own.lit (base := w.heap.size) w (leB 2 s.size) 2 (Nat.le_refl _) (by simp [maxLen]) (leB_length 2 s.size)
  rw [two_bytes (by omega)] at h1
  have hx := From.sees (c := 2) h1.sees
  have ho1 := ho.alloc (.cells #[.int .u8 ((s.size : Int) % 256), .int .u8 ((s.size : Int) / 256)] 5)
  have hb1 : base ≤ (w.alloc (.cells #[.int .u8 ((s.size : Int) % 256), .int .u8 ((s.size : Int) / 256)] 5)).heap.size := by simp; omega
  have hsm : ¬ 65535 < s.size := by omega
  go_enter Try.func61, Try.ntmps61
  go_wp2_with (first
    | (at_builtin
       refine wpList_append_keep rfl (.tmp 10) (.tmp 18) _ rfl rfl rfl ho1 hx (by omega) hb1 ?_
       intro A1 N1 c1 w1 ho1' hg1 hat1 hk1
       obtain ⟨s1, s2, s3⟩ := near_step ho (ho.alloc _) (.inl ⟨rfl, rfl⟩) (Grow2.alloc1 (World.grownBy.refl w _) _) hg1 hat1 (l1 := []) (by rw [List.append_nil]; exact hk1)
       have hN1 : N1 ≤ 65538 := by rw [ho1'.len, List.length_append, ← ho.len, leB_length]; omega
       have hbw : base ≤ w1.heap.size := Nat.le_trans hb s3.size
       have hx2 := From.text w1 s)
    | (at_builtin
       refine wpList_append_keep rfl (.tmp 19) (.tmp 20) _ rfl rfl rfl ho1' hx2 (by omega) hbw ?_
       intro A2 N2 c2 w2 ho2 hg2 hat2 hk2))
  obtain ⟨r1, r2, r3⟩ := near_step ho s1 s2 s3 hg2 hat2 hk2
  go_ret
  exact ⟨⟨A2, N2, c2, rfl, by rw [← List.append_assoc]; exact ho2⟩, r1, r3⟩
end Go.Proofs.Ytpaaafdnkehmfaa
