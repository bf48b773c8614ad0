/- The second writer: Int, Byte, Text. -/
import Derived.Test.YtfnenafdmpihaaaKeep
namespace Go.Proofs.Ytfnenafdmpihaaa
open Go.RowKit

/-- What the second writer leaves, called on a row of one's own. -/
def PutGot (en : Ending) (w w' : World) (base : Nat) (A : Option Addr) (n c : Nat) (l m : List UInt8) : Prop :=
  (∃ A' N c', en = .returned (.slice A' N c') ∧ Own w' base A' N c' (l ++ m)) ∧ Own w' base A n c l ∧ w.grownBy w' (Value.slice A n c).ownBlock

theorem grown_new {w w' : World} (o : Obj) {row : Option Nat} (h : (w.alloc o).grownBy w' row) : w.grownBy w' row :=
  ⟨h.os, h.tape, h.output, Nat.le_trans (by simp) h.size, fun i hi hne => (h.block i (by simp; omega) hne).trans (Below.heap_alloc w o i hi)⟩

theorem Grow2.alloc1 {a w : World} {row : Option Nat} (h : a.grownBy w row) (o : Obj) : a.grownBy (w.alloc o) row :=
  ⟨h.os, h.tape, h.output, Nat.le_trans h.size (by simp), fun i hi hne => (Below.heap_alloc w o i (Nat.lt_of_lt_of_le hi h.size)).trans (h.block i hi hne)⟩

set_option maxHeartbeats 1000000 in
theorem rputByte_any (A : Option Addr) (n c base : Nat) (l : List UInt8) (v : Int) (w : World) (ho : Own w base A n c l) (hb : base ≤ w.heap.size) (hn : n ≤ 65536) : Calls Try.prog 15 #[.slice A n c, .int .i64 v] w fun en w' =>
    PutGot en w w' base A n c l (leB 1 (v % 256).toNat) := by
  obtain ⟨u, hu⟩ : ∃ u : Nat, u = (v % 256).toNat := ⟨_, rfl⟩
  have hw : IntKind.u8.wrap v = (u : Int) := by rw [IntKind.wrap_u8', hu]; omega
  have hlt : u < 256 := by omega
  rw [← hu]
  clear hu
  have h1 : Own (w.alloc (.cells #[.int .u8 (u : Int)] 5)) w.heap.size (some ⟨w.heap.size, 0, none⟩) 1 1 (leB 1 u) := by
    have h := Own.lit (base := w.heap.size) w (leB 1 u) 1 (Nat.le_refl _) (by simp [maxLen]) (leB_length 1 u)
    have e : (byts (leB 1 u)).toArray = #[.int .u8 (u : Int)] := by
      simp only [leB, byts, byt, List.map_cons, List.map_nil, UInt8.toNat_ofNat', Nat.mod_eq_of_lt hlt]
    rwa [e] at h
  have hx := From.sees (c := 1) h1.sees
  have ho1 := ho.alloc (.cells #[.int .u8 (u : Int)] 5)
  have hb1 : base ≤ (w.alloc (.cells #[.int .u8 (u : Int)] 5)).heap.size := by simp; omega
  go_enter Try.func15, Try.ntmps15
  go_wp2_with (at_builtin; refine wpList_append_keep rfl _ _ _ rfl rfl rfl ho1 hx (by omega) hb1 ?_; intro A' N c' w' ho' hg' hat' hk')
  go_ret
  exact ⟨⟨A', N, c', rfl, ho'⟩, hk', grown_new _ hg'⟩

set_option maxHeartbeats 2000000 in
theorem rputInt_any (A : Option Addr) (n c base : Nat) (l : List UInt8) (v : Int) (w : World) (ho : Own w base A n c l) (hb : base ≤ w.heap.size) (hn : n ≤ 65536) : Calls Try.prog 13 #[.slice A n c, .int .i64 v] w fun en w' =>
    PutGot en w w' base A n c l (leB 8 (v % 18446744073709551616).toNat) := by
  obtain ⟨u, hu⟩ : ∃ u : Nat, u = (v % 18446744073709551616).toNat := ⟨_, rfl⟩
  have hw : IntKind.u64.wrap v = (u : Int) := by rw [IntKind.wrap_u64, hu]; omega
  rw [← hu]
  have Hlen := Lib.hid ho.len
  clear hu
  go_enter Try.func13, Try.ntmps13
  go_wp2_with fail
  go_loopw [0, 5] (fun b i wr => ∃ (k : Nat) (A1 : Option Addr) (N1 c1 : Nat), k ≤ 8 ∧ i = .int .i64 k ∧ b = .slice A1 N1 c1 ∧ N1 ≤ n + k ∧ Own wr base A1 N1 c1 (l ++ (leB 8 u).take k) ∧ Own wr base A n c l ∧ Near w A c A1 c1 ∧ w.grownBy wr (Value.slice A n c).ownBlock) (fun _ i _ => 8 - (intOf i).toNat)
  case atStart => exact ⟨0, A, n, c, by omega, rfl, rfl, by omega, by simpa using ho, ho, .inl ⟨rfl, rfl⟩, World.grownBy.refl w _⟩
  case round =>
    obtain ⟨k, A1, N1, c1, hk, rfl, rfl, hN, ho1, ho2, hnear, hgr⟩ := hrel
    by_cases hlt : k < 8
    · have h1 : Own (wr.alloc (.cells #[.int .u8 ((u : Int) / 2 ^ (8 * k) % 256)] 5)) wr.heap.size (some ⟨wr.heap.size, 0, none⟩) 1 1 [UInt8.ofNat (u / 2 ^ (8 * k))] := by
        have h := Own.lit (base := wr.heap.size) wr [UInt8.ofNat (u / 2 ^ (8 * k))] 1 (Nat.le_refl _) (by simp [maxLen]) rfl
        have e : (byts [UInt8.ofNat (u / 2 ^ (8 * k))]).toArray = #[.int .u8 ((u : Int) / 2 ^ (8 * k) % 256)] := by
          simp only [byts, byt, List.map_cons, List.map_nil, UInt8.toNat_ofNat']
          rw [show ((u / 2 ^ (8 * k) % 2 ^ 8 : Nat) : Int) = (u : Int) / 2 ^ (8 * k) % 256 by rw [Int.natCast_emod, Int.natCast_ediv, Int.natCast_pow]; rfl]
        rwa [e] at h
      have hx := From.sees (c := 1) h1.sees
      have ho1' := ho1.alloc (.cells #[.int .u8 ((u : Int) / 2 ^ (8 * k) % 256)] 5)
      have hbr : base ≤ (wr.alloc (.cells #[.int .u8 ((u : Int) / 2 ^ (8 * k) % 256)] 5)).heap.size := by have := hgr.size; simp; omega
      have Htk := Lib.hid (show (leB 8 u).take (k + 1) = (leB 8 u).take k ++ [UInt8.ofNat (u / 2 ^ (8 * k))] by rw [List.take_add_one, leB_get 8 u k hlt]; rfl)
      go_wp2_with (at_builtin; refine wpList_append_keep rfl _ _ _ rfl rfl rfl ho1' hx (by omega) hbr ?_; intro A' N c' w' ho' hg' hat' hk')
      obtain ⟨s1, s2, s3⟩ := near_step ho (ho2.alloc _) hnear (Grow2.alloc1 hgr _) hg' hat' hk'
      go_roundw
      case rel => exact ⟨k + 1, A', N, c', by omega, by go_num, rfl, by rw [ho'.len, List.length_append, ← ho1.len]; simp; omega, by rw [Htk.out, ← List.append_assoc]; exact ho', s1, s2, s3⟩
      case measure => simp [intOf]; omega
    · obtain rfl : k = 8 := by omega
      rw [List.take_of_length_le (by rw [leB_length]; omega)] at ho1
      go_wp2_with fail
      go_ret
      exact ⟨⟨A1, N1, c1, rfl, ho1⟩, ho2, hgr⟩

theorem two_bytes {k : Nat} (h : k < 65536) : (byts (leB 2 k)).toArray = #[.int .u8 ((k : Int) % 256), .int .u8 ((k : Int) / 256)] := by
  have e : k / 256 % 2 ^ 8 = k / 256 := by omega
  simp only [leB, byts, byt, List.map_cons, List.map_nil, UInt8.toNat_ofNat', e]
  rfl

set_option maxHeartbeats 2000000 in
theorem rputText_any (A : Option Addr) (n c base : Nat) (l : List UInt8) (s : ByteArray) (w : World) (ho : Own w base A n c l) (hb : base ≤ w.heap.size) (hn : n ≤ 65536) (hsz : s.size ≤ 500) : Calls Try.prog 17 #[.slice A n c, .string s] w fun en w' =>
    PutGot en w w' base A n c l (textB s) := by
  have Ht := Lib.hid (show textB s = leB 2 s.size ++ s.data.toList by unfold textB; rw [cutText_short (by omega)]; rfl)
  rw [Ht.out]
  have h1 := Own.lit (base := w.heap.size) w (leB 2 s.size) 2 (Nat.le_refl _) (by simp [maxLen]) (leB_length 2 s.size)
  rw [two_bytes (by omega)] at h1
  have hx := From.sees (c := 2) h1.sees
  have ho1 := ho.alloc (.cells #[.int .u8 ((s.size : Int) % 256), .int .u8 ((s.size : Int) / 256)] 5)
  have hb1 : base ≤ (w.alloc (.cells #[.int .u8 ((s.size : Int) % 256), .int .u8 ((s.size : Int) / 256)] 5)).heap.size := by simp; omega
  have hsm : ¬ 65535 < s.size := by omega
  go_enter Try.func17, Try.ntmps17
  go_wp2_with (first
    | (at_builtin
       refine wpList_append_keep rfl (.tmp 10) (.tmp 18) _ rfl rfl rfl ho1 hx (by omega) hb1 ?_
       intro A1 N1 c1 w1 ho1' hg1 hat1 hk1
       obtain ⟨s1, s2, s3⟩ := near_step ho (ho.alloc _) (.inl ⟨rfl, rfl⟩) (Grow2.alloc1 (World.grownBy.refl w _) _) hg1 hat1 (l1 := []) (by rw [List.append_nil]; exact hk1)
       have hN1 : N1 ≤ 65538 := by rw [ho1'.len, List.length_append, ← ho.len, leB_length]; omega
       have hbw : base ≤ w1.heap.size := Nat.le_trans hb s3.size
       have hx2 := From.text w1 s)
    | (at_builtin
       refine wpList_append_keep rfl (.tmp 19) (.tmp 20) _ rfl rfl rfl ho1' hx2 (by omega) hbw ?_
       intro A2 N2 c2 w2 ho2 hg2 hat2 hk2))
  obtain ⟨r1, r2, r3⟩ := near_step ho s1 s2 s3 hg2 hat2 hk2
  go_ret
  exact ⟨⟨A2, N2, c2, rfl, by rw [← List.append_assoc]; exact ho2⟩, r1, r3⟩
end Go.Proofs.Ytfnenafdmpihaaa
