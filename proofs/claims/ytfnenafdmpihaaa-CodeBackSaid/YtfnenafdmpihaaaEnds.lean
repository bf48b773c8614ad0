/- CodeEnds: numbers at the ends, and bytes of any number, are read as they must. -/
import Derived.Test.YtfnenafdmpihaaaLess
import Derived.Deep.RegionHeld3
namespace Go.Proofs.Ytfnenafdmpihaaa
open Go.RowKit

theorem int_full (g : Nat) (v : Int) (l : List UInt8) (w : World) (h : Rds w g (leB 8 (v % 18446744073709551616).toNat ++ l) 0) (h1 : -9223372036854775808 ≤ v) (h2 : v ≤ 9223372036854775807) :
    Calls Try.prog 21 #[.pointer (some ⟨g, 0, none⟩)] w fun en w' => en = .returned (.int .i64 v) ∧ ReadPost w w' g l 0 := by
  have hr := int_any g _ 0 w h
  rw [rdStep_yes (by rw [List.length_append, leB_length]; omega), List.take_left' (leB_length 8 _), List.drop_left' (leB_length 8 _), valB_leB 8 _ (by omega)] at hr
  refine hr.mono fun en w' ⟨h1, h2⟩ => ⟨h1.trans ?_, h2⟩
  have e : wrap64 (((v % 18446744073709551616).toNat : Nat) : Int) = v := by unfold wrap64; omega
  rw [e]
theorem byte_full (g : Nat) (v : Int) (l : List UInt8) (w : World) (h : Rds w g (leB 1 (v % 256).toNat ++ l) 0) :
    Calls Try.prog 23 #[.pointer (some ⟨g, 0, none⟩)] w fun en w' => en = .returned (.int .i64 (v % 256)) ∧ ReadPost w w' g l 0 := by
  have hr := byte_any g _ 0 w h
  rw [rdStep_yes (by rw [List.length_append, leB_length]; omega), List.take_left' (leB_length 1 _), List.drop_left' (leB_length 1 _), valB_leB 1 _ (by omega)] at hr
  refine hr.mono fun en w' ⟨h1, h2⟩ => ⟨h1.trans ?_, h2⟩
  have e : (((v % 256).toNat : Nat) : Int) = v % 256 := by omega
  rw [e]

/-- A number, and its lowest byte, behind it. -/
def enc9 (v : Int) : List UInt8 := leB 8 (v % 18446744073709551616).toNat ++ leB 1 (v % 256).toNat
def encs (vs : List Int) : List UInt8 := (vs.map enc9).flatten
theorem encs_length : ∀ vs, (encs vs).length = 9 * vs.length
  | [] => rfl
  | v :: r => by
    have h := encs_length r
    simp only [encs, List.map_cons, List.flatten_cons, List.length_append, enc9, leB_length, List.length_cons] at h ⊢
    omega
theorem encs_succ {vs : List Int} {k : Nat} (h : k < vs.length) : encs (vs.take (k + 1)) = (encs (vs.take k) ++ leB 8 (vs.getD k 0 % 18446744073709551616).toNat) ++ leB 1 (vs.getD k 0 % 256).toNat := by
  have e : vs.getD k 0 = vs[k] := by simp [List.getD, List.getElem?_eq_getElem h]
  rw [List.take_succ_eq_append_getElem h, e, encs, encs, List.map_append, List.flatten_append]
  simp only [List.map_cons, List.map_nil, List.flatten_cons, List.flatten_nil, List.append_nil, enc9, List.append_assoc]
theorem encs_drop {vs : List Int} {k : Nat} (h : k < vs.length) : encs (vs.drop k) = leB 8 (vs.getD k 0 % 18446744073709551616).toNat ++ (leB 1 (vs.getD k 0 % 256).toNat ++ encs (vs.drop (k + 1))) := by
  have e : vs.getD k 0 = vs[k] := by simp [List.getD, List.getElem?_eq_getElem h]
  rw [List.drop_eq_getElem_cons h, e, encs, List.map_cons, List.flatten_cons, enc9, List.append_assoc]
  rfl

theorem and_255 (x : Int) : bits .and .i64 x 255 = x % 256 := by
  show IntKind.i64.wrap (((BitVec.ofInt 64 x &&& BitVec.ofInt 64 255).toNat : Nat) : Int) = _
  have e : (BitVec.ofInt 64 255).toNat = 2 ^ 8 - 1 := by decide
  have h : ((BitVec.ofInt 64 x).toNat : Int) = x % 18446744073709551616 := by
    rw [BitVec.toNat_ofInt]
    omega
  rw [BitVec.toNat_and, e, Nat.and_two_pow_sub_one_eq_mod, IntKind.wrap_i64]
  omega
theorem wrap_in (x : Int) : -9223372036854775808 ≤ wrap64 x ∧ wrap64 x ≤ 9223372036854775807 := by unfold wrap64; omega
theorem six_bd {a b c d e f lo hi : Int} (h0 : lo ≤ a ∧ a ≤ hi) (h1 : lo ≤ b ∧ b ≤ hi) (h2 : lo ≤ c ∧ c ≤ hi) (h3 : lo ≤ d ∧ d ≤ hi) (h4 : lo ≤ e ∧ e ≤ hi) (h5 : lo ≤ f ∧ f ≤ hi) (k : Nat) : lo ≤ [a, b, c, d, e, f].getD k d ∧ [a, b, c, d, e, f].getD k d ≤ hi := by
  match k with
  | 0 => exact h0
  | 1 => exact h1
  | 2 => exact h2
  | 3 => exact h3
  | 4 => exact h4
  | 5 => exact h5
  | k + 6 => exact h3
theorem six_cells (w : World) (a b c d e f : Int) (t : TypeId) (k : Nat) (hk : k < 6) : (w.alloc (.cells #[.int .i64 a, .int .i64 b, .int .i64 c, .int .i64 d, .int .i64 e, .int .i64 f] t)).cell? ⟨w.heap.size, k, none⟩ = some (.int .i64 ([a, b, c, d, e, f].getD k 0)) := by
  rw [cell_of_row _ _ _ _ _ _ (at_new w _)]
  match k, hk with
  | 0, _ => rfl
  | 1, _ => rfl
  | 2, _ => rfl
  | 3, _ => rfl
  | 4, _ => rfl
  | 5, _ => rfl

set_option maxHeartbeats 4000000 in
theorem ends_any (n a : Int) (w : World) (hn : (Lit.int .i64 n).wf = true) (ha : (Lit.int .i64 a).wf = true) :
    Calls Try.prog 7 #[.int .i64 n, .int .i64 a] w fun e w' => e = .returned (.bool true) ∧ Below w.heap.size w w' := by
  have HA := Lib.hid ha
  have HN := Lib.hid hn
  clear ha hn
  go_enter Try.func7, Try.ntmps7
  go_wp2_with fail
  refine (known_any w).mono ?_
  rintro e w1 ⟨rfl, hb1⟩
  go_wp2_with fail
  refine (within_any a 62 (by omega) (by omega) HA.out _).mono ?_
  rintro e w' ⟨rfl, rfl⟩
  obtain ⟨E, hE⟩ : ∃ E : Nat, a % 62 = (E : Int) := ⟨(a % 62).toNat, by omega⟩
  have hE2 : E < 62 := by omega
  rw [hE]
  clear hE
  go_wp2_with fail
  obtain ⟨vs, hvs⟩ : ∃ vs : List Int, vs = [n, 9223372036854775807, -9223372036854775808, 0, -1, wrap64 (2 ^ E)] := ⟨_, rfl⟩
  have hlen : vs.length = 6 := by rw [hvs]; rfl
  have hn1 : -9223372036854775808 ≤ n ∧ n ≤ 9223372036854775807 := by simpa [Lit.wf, IntKind.min, IntKind.max, IntKind.signed, IntKind.bits] using HN.out
  have hw : -9223372036854775808 ≤ wrap64 (2 ^ E) ∧ wrap64 (2 ^ E) ≤ 9223372036854775807 := wrap_in _
  have hbd : ∀ k, -9223372036854775808 ≤ vs.getD k 0 ∧ vs.getD k 0 ≤ 9223372036854775807 := by
    rw [hvs]
    exact six_bd hn1 ⟨by omega, by omega⟩ ⟨by omega, by omega⟩ ⟨by omega, by omega⟩ ⟨by omega, by omega⟩ hw
  have hcell := six_cells w1 n 9223372036854775807 (-9223372036854775808) 0 (-1) (wrap64 (2 ^ E)) 3
  rw [← hvs] at hcell
  have hb0 : Below w.heap.size w (w1.alloc (.cells #[.int .i64 n, .int .i64 9223372036854775807, .int .i64 (-9223372036854775808), .int .i64 0, .int .i64 (-1), .int .i64 (wrap64 (2 ^ E))] 3)) := hb1.alloc hb1.size _
  have hg0 : w1.heap.size < (w1.alloc (.cells #[.int .i64 n, .int .i64 9223372036854775807, .int .i64 (-9223372036854775808), .int .i64 0, .int .i64 (-1), .int .i64 (wrap64 (2 ^ E))] 3)).heap.size := by simp
  have Hlen := Lib.hid hlen
  have Hbd := Lib.hid hbd
  have Hcell := Lib.hid hcell
  clear hlen hbd hcell hvs hn1 hw
  generalize (w1.alloc (.cells #[.int .i64 n, .int .i64 9223372036854775807, .int .i64 (-9223372036854775808), .int .i64 0, .int .i64 (-1), .int .i64 (wrap64 (2 ^ E))] 3)) = W0 at *
  generalize w1.heap.size = g0 at *
  go_loopw [6, 7] (fun v i wr => ∃ (k : Nat) (A : Option Addr) (N c : Nat), k ≤ 6 ∧ i = .int .i64 k ∧ v = .slice A N c ∧ N ≤ 9 * k ∧ Sees wr wr.heap.size A N (encs (vs.take k)) ∧ Below W0.heap.size W0 wr) (fun _ i _ => 6 - (intOf i).toNat)
  case atStart => exact ⟨0, none, 0, 0, by omega, rfl, rfl, by omega, Sees.none_ _ _ _, Below.refl _ _⟩
  case round =>
    obtain ⟨k, A, N, c, hk, rfl, rfl, hN, hs, hbr⟩ := hrel
    by_cases hlt : k < 6
    · have hc0 := (hbr.cell (p := ⟨g0, k, none⟩) hg0).trans (Hcell.out k hlt)
      have hk0 : (0 : Int) ≤ (k : Int) := by omega
      have hk6 : (k : Int) < 6 := by omega
      have HE := Lib.hid (encs_succ (vs := vs) (k := k) (by rw [Hlen.out]; exact hlt))
      obtain ⟨x, hx⟩ : ∃ x, x = vs.getD k 0 := ⟨_, rfl⟩
      rw [← hx] at hc0 HE
      clear hx
      have hN2 : N ≤ 54 := by omega
      go_wp2
      go_region_held3 (fun w' => w'.cell? ⟨g0, k, none⟩ = some (.int .i64 x)) (first | exact hc0 | exact hc3 | exact hc4)
        (first
        | (go_at_call 12; refine (putInt_any A N c _ x _ hs.drew (by omega)).mono ?_; rintro e w3 ⟨A3, N3, c3, rfl, ho3, hb3⟩; have hc3 := (hb3.cell (p := ⟨g0, k, none⟩) (Nat.lt_of_lt_of_le hg0 hbr.size)).trans hc0)
        | (go_at_call 14; refine (putByte_any A3 N3 c3 _ x _ ho3.sees (by rw [ho3.len, List.length_append, ← hs.len, leB_length]; omega)).mono ?_; rintro e w4 ⟨A4, N4, c4, rfl, ho4, hb4⟩; have hc4 := (hb4.cell (p := ⟨g0, k, none⟩) (Nat.lt_of_lt_of_le hg0 (Nat.le_trans hbr.size hb3.size))).trans hc3))
      go_wp2
      go_roundw
      case rel => exact ⟨k + 1, A4, N4, c4, by omega, by go_num, rfl, by rw [ho4.len, List.length_append, List.length_append, leB_length, leB_length, ← hs.len]; omega, by rw [HE.out]; exact ho4.sees, hbr.drew.trans ((hb3.trans (hb4.mono hb3.size)).mono hbr.size)⟩
      case measure => simp [intOf]; omega
    · obtain rfl : k = 6 := by omega
      have hall : encs (vs.take 6) = encs vs := by rw [List.take_of_length_le (by rw [Hlen.out]; exact Nat.le_refl _)]
      rw [hall] at hs
      have hN6 : N = 54 := by rw [hs.len, encs_length, Hlen.out]
      subst hN6
      clear hall
      go_wp2_with fail
      refine (new_any 54 c A _ wr hs (by omega)).mono ?_
      rintro e w5 ⟨g, rfl, hg, hr5, hb5⟩
      have hbw5 : Below W0.heap.size W0 w5 := hbr.trans (hb5.mono hbr.size)
      have hgW : W0.heap.size ≤ g := Nat.le_trans hbr.size hg
      go_wp2_with fail
      go_loopw [9] (fun i wr => ∃ (k : Nat), k ≤ 6 ∧ i = .int .i64 k ∧ Rds wr g (encs (vs.drop k)) 0 ∧ Below W0.heap.size W0 wr) (fun i _ => 6 - (intOf i).toNat)
      case atStart => exact ⟨0, by omega, rfl, hr5, hbw5⟩
      case round =>
        obtain ⟨k, hk2, rfl, hr, hbr2⟩ := hrel
        by_cases hlt2 : k < 6
        · have hc0 := (hbr2.cell (p := ⟨g0, k, none⟩) hg0).trans (Hcell.out k hlt2)
          have hk0 : (0 : Int) ≤ (k : Int) := by omega
          have hk6 : (k : Int) < 6 := by omega
          have HE := Lib.hid (encs_drop (vs := vs) (k := k) (by rw [Hlen.out]; exact hlt2))
          obtain ⟨hx1, hx2⟩ := Hbd.out k
          obtain ⟨x, hx⟩ : ∃ x, x = vs.getD k 0 := ⟨_, rfl⟩
          rw [← hx] at hc0 HE hx1 hx2
          rw [HE.out] at hr
          clear hx HE
          have hand := and_255 x
          go_wp2
          go_region_held3 (fun w' => w'.cell? ⟨g0, k, none⟩ = some (.int .i64 x)) (first | exact hc0 | exact hc6 | exact hc7)
            (first
            | (go_at_call 21; refine (int_full g x _ _ (hr.keep (Below.refl _ _).drew) hx1 hx2).mono ?_; rintro e w6 ⟨rfl, hp6⟩; have hb6 := hp6.below hgW (by exact hbr2.size); have hr6 := hp6.rds; have hc6 := (hb6.cell (p := ⟨g0, k, none⟩) hg0).trans hc0)
            | (go_at_call 23; refine (byte_full g x _ _ hr6).mono ?_; rintro e w7 ⟨rfl, hp7⟩; have hb7 := hp7.below hgW (Nat.le_trans hbr2.size hb6.size); have hr7 := hp7.rds; have hc7 := (hb7.cell (p := ⟨g0, k, none⟩) hg0).trans hc6))
          clear hand
          go_wp2
          go_roundw
          case rel => exact ⟨k + 1, by omega, by go_num, hr7, hbr2.drew.trans (hb6.trans hb7)⟩
          case measure => simp [intOf]; omega
        · obtain rfl : k = 6 := by omega
          have hdr : vs.drop 6 = [] := List.drop_of_length_le (by rw [Hlen.out]; exact Nat.le_refl _)
          rw [hdr] at hr
          clear hdr
          go_wp2_with fail
          refine (end_nil g _ hr).mono ?_
          rintro e w' ⟨rfl, rfl⟩
          go_wp2_with fail
          go_ret
          exact ⟨rfl, hb0.trans (hbr2.mono hb0.size)⟩
end Go.Proofs.Ytfnenafdmpihaaa
