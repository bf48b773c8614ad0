/- slices.BinarySearch of strings in order, names.set's has: whether a name is in a set. Conditions: the set's list is in order, fewer than 2^40 strings. -/
import Derived.Test.YtkponeccenehhaaNmOrd
namespace Go.Proofs.Ytkponeccenehhaa.Nm
open Go.RowKit
set_option maxRecDepth 100000

def Found (d : Bool) (w : World) (e : Ending) (w' : World) : Prop := ∃ i : Int, e = .returned (.tuple #[.int .i64 i, .bool d]) ∧ w = w'

theorem tl_eq (s : ByteArray) : s.toList = s.data.toList := ByteArray.toList_eq _

set_option maxHeartbeats 2000000 in
theorem bs_any (ss : List (List UInt8)) (hp : ss.Pairwise (· < ·)) (A : Option Addr) (n c B : Nat) (x : ByteArray) (w : World) (h : SeesV w B A n (ss.map encs)) (hn : n ≤ 1099511627776) :
    Calls Try.prog 38 #[.slice A n c, .string x] w (Found (decide (x.data.toList ∈ ss)) w) := by
  obtain ⟨p, hpn, hlt, hmem⟩ := cut ss x.data.toList hp
  have hl := h.len
  rw [List.length_map] at hl
  obtain ⟨d, hd⟩ : ∃ d, d = decide (x.data.toList ∈ ss) := ⟨_, rfl⟩
  rw [← hd]
  have HC : Hid (∀ t, t < n → ∃ b o s, A = some ⟨b, o, none⟩ ∧ w.cell? ⟨b, o + t, none⟩ = some (.string s) ∧ Op.bytesLess s.toList x.toList = decide (t < p) ∧ (t = p → (s.toList == x.toList) = d)) := by
    intro t ht
    have ht' : t < ss.length := by omega
    obtain ⟨b, o, e, _, hc⟩ := h.cell t (encs ss[t]) (by rw [List.getElem?_map, List.getElem?_eq_getElem ht']; rfl)
    refine ⟨b, o, ⟨ss[t].toArray⟩, e, hc, ?_, fun hp' => ?_⟩
    · rw [Bool.eq_iff_iff, less_iff, decide_eq_true_iff]
      exact hlt t ss[t] (List.getElem?_eq_getElem ht')
    · subst hp'
      rw [hd, Bool.eq_iff_iff, decide_eq_true_iff, hmem, beq_iff_eq, tl_eq, tl_eq, List.getElem?_eq_getElem ht', Option.some.injEq]
  have HN : Hid (p = n → d = false) := by
    intro e
    rw [hd, decide_eq_false_iff_not, hmem, List.getElem?_eq_none (by omega)]
    simp
  have hpn2 : p ≤ n := by omega
  clear hd hmem hlt hp hl hpn h
  go_enter Try.func38, Try.ntmps38
  go_wp2_with fail
  go_loop [7, 8] (fun i j => ∃ lo hi : Nat, i = .int .i64 lo ∧ j = .int .i64 hi ∧ lo ≤ p ∧ p ≤ hi ∧ hi ≤ n) (fun i j => (intOf j - intOf i).toNat)
  case atStart => exact ⟨0, n, rfl, rfl, Nat.zero_le _, hpn2, Nat.le_refl _⟩
  case round =>
    obtain ⟨lo, hi, rfl, rfl, hlo, hhi, hin⟩ := hrel
    by_cases hlh : lo < hi
    · obtain ⟨b, o, s, rfl, cm, hls, _⟩ := HC.out ((lo + hi) / 2) (by omega)
      by_cases hm : (lo + hi) / 2 < p
      · rw [decide_eq_true hm] at hls
        have Hm := Lib.hid hm
        clear hm
        go_wp2_with (go_at_call 48; refine (less_any _ _ _).mono ?_; rintro e w' ⟨rfl, rfl⟩)
        go_round
        case rel => exact ⟨(lo + hi) / 2 + 1, hi, by rw [show ((lo : Int) + (hi : Int)) / 2 + 1 = (((lo + hi) / 2 + 1 : Nat) : Int) by omega], rfl, by have := Hm.out; omega, hhi, hin⟩
        case measure => simp [intOf]; omega
      · rw [decide_eq_false hm] at hls
        have Hm := Lib.hid hm
        clear hm
        go_wp2_with (go_at_call 48; refine (less_any _ _ _).mono ?_; rintro e w' ⟨rfl, rfl⟩)
        go_round
        case rel => exact ⟨lo, (lo + hi) / 2, rfl, by rw [show ((lo : Int) + (hi : Int)) / 2 = (((lo + hi) / 2 : Nat) : Int) by omega], hlo, by have := Hm.out; omega, by omega⟩
        case measure => simp [intOf]; omega
    · obtain rfl : lo = p := by omega
      obtain rfl : hi = lo := by omega
      by_cases hpn3 : hi < n
      · obtain ⟨b, o, s, rfl, cm, _, hds⟩ := HC.out hi hpn3
        have hds := hds rfl
        clear hhi hlo
        cases d with
        | true =>
          go_wp2_with fail
          go_ret2
          exact ⟨_, rfl, rfl⟩
        | false =>
          go_wp2_with (go_at_call 49; refine (isNaN_slices _ _).mono ?_; rintro e w' ⟨rfl, rfl⟩)
          go_ret2
          exact ⟨_, rfl, rfl⟩
      · obtain rfl := HN.out (by omega)
        go_wp2_with fail
        go_ret2
        exact ⟨_, rfl, rfl⟩

theorem has_any (s : St) (hp : s.l.Pairwise (· < ·)) (A : Option Addr) (n c B : Nat) (x : ByteArray) (w : World) (h : SeesV w B A n (s.l.map encs)) (hB : B ≤ w.heap.size) (hn : n ≤ 1099511627776) :
    Calls Try.prog 26 #[.agg #[.bool s.all, .slice A n c], .string x] w fun e w' => e = .returned (.bool (s.mem x.data.toList)) ∧ Below w.heap.size w w' := by
  unfold St.mem
  have HB := Lib.hid (fun W (hb : Below w.heap.size w W) => bs_any s.l hp A n c B x W (h.keep fun p hp => hb.cell (Nat.lt_of_lt_of_le hp hB)) hn)
  obtain ⟨d, hd⟩ : ∃ d, d = decide (x.data.toList ∈ s.l) := ⟨_, rfl⟩
  obtain ⟨a, ha⟩ : ∃ a, a = s.all := ⟨_, rfl⟩
  rw [← hd] at HB ⊢
  rw [← ha]
  clear hd ha h hp
  go_enter Try.func26, Try.ntmps26
  go_wp2_with (go_at_call 38; refine (HB.out _ ((Below.refl _ _).alloc (Nat.le_refl _) _)).mono ?_; rintro e w' ⟨i, rfl, rfl⟩)
  go_ret
  refine ⟨?_, (Below.refl _ _).alloc (Nat.le_refl _) _⟩
  cases d <;> cases a <;> rfl
end Go.Proofs.Ytkponeccenehhaa.Nm
