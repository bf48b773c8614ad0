/- The reference's name. Conditions: texts of at most 2^30 bytes. -/
import Derived.Test.YtclgemkdlgpekaaReRName
namespace Go.Proofs.Ytclgemkdlgpekaa.Re
open Go.RowKit
set_option maxRecDepth 100000

theorem drop_at (s : ByteArray) (k : Nat) (h : k < s.size) : s.data.toList.drop k = s[k] :: s.data.toList.drop (k + 1) := by
  rw [List.drop_eq_getElem_cons (i := k) (by rw [Array.length_toList]; exact h)]; rfl
structure RtI (s : ByteArray) (at0 k : Nat) (w wr : World) (A : Option Addr) (N c : Nat) (out : Bs) : Prop where
  own : Own wr w.heap.size A N c out
  below : Below w.heap.size w wr
  le : at0 ≤ k ∧ k ≤ s.size
  few : out.length + (s.size - k) ≤ s.size - at0
  told : ∀ l t0, s.data.toList.drop at0 = quoL l ++ 34 :: t0 → ∃ l', l = out ++ l' ∧ s.data.toList.drop k = quoL l' ++ 34 :: t0
def RnP (s : ByteArray) (at0 : Nat) (w : World) (e : Ending) (w' : World) : Prop :=
  ∃ (x : ByteArray) (y : Int) (v : Bool), e = .returned (.tuple #[.string x, .int .i64 y, .bool v]) ∧ Below w.heap.size w w' ∧ (v = true → ∃ k : Nat, y = (k : Int) ∧ k ≤ s.size ∧ at0 < k ∧ x.size + (s.size - k) ≤ s.size - at0) ∧
    (∀ l t0, s.data.toList.drop at0 = quoL l ++ 34 :: t0 → v = true ∧ x.data.toList = l ∧ ∃ k : Nat, y = (k : Int) ∧ s.data.toList.drop k = t0)
section
variable {s : ByteArray} {at0 k : Nat} {w wr : World} {A : Option Addr} {N c : Nat} {out : Bs}
theorem RtI.push {A' : Option Addr} {N' c' k' : Nat} {w2 w3 : World} {x : UInt8} (h : RtI s at0 k w wr A N c out) (hb : Below wr.heap.size wr w2) (hg : w2.grownBy w3 (Value.slice A N c).ownBlock) (ho : Own w3 w.heap.size A' N' c' (out ++ [x])) (hk : k < k') (hk' : k' ≤ s.size)
    (hst : ∀ l t0, s.data.toList.drop k = quoL l ++ 34 :: t0 → ∃ l', l = [x] ++ l' ∧ s.data.toList.drop k' = quoL l' ++ 34 :: t0) : RtI s at0 k' w w3 A' N' c' (out ++ [x]) := by
  have hsz := h.below.size
  refine ⟨ho, (h.below.trans (hb.mono hsz)).grown hg (Nat.le_trans hsz hb.size) (fun q hq => (h.own.lt q hq).1), ⟨by have := h.le.1; omega, hk'⟩, ?_, fun l t0 hl => ?_⟩
  · have := h.few
    rw [List.length_append, List.length_cons, List.length_nil]
    omega
  · obtain ⟨l', h1, h2⟩ := h.told l t0 hl
    obtain ⟨l2, h3, h4⟩ := hst l' t0 h2
    exact ⟨l2, by rw [h1, h3, List.append_assoc], h4⟩
/-- None: it is no quoted name. -/
theorem RtI.bad (h : RtI s at0 k w wr A N c out) (hn : ∀ l t0, ¬ s.data.toList.drop k = quoL l ++ 34 :: t0) {w' : World} (hb : Below wr.heap.size wr w') (x : ByteArray) (y : Int) : RnP s at0 w (.returned (.tuple #[.string x, .int .i64 y, .bool false])) w' :=
  ⟨x, y, false, rfl, h.below.trans (hb.mono h.below.size), fun e => (by cases e), fun l t0 hl => by
    obtain ⟨l', _, h2⟩ := h.told l t0 hl
    exact absurd h2 (hn _ _)⟩
theorem RtI.good (h : RtI s at0 k w wr A N c out) (hk : k < s.size) (hq : s[k] = 34) {w' : World} (hb : Below wr.heap.size wr w') : RnP s at0 w (.returned (.tuple #[.string (mkB out), .int .i64 ((k + 1 : Nat) : Int), .bool true])) w' := by
  refine ⟨mkB out, ((k + 1 : Nat) : Int), true, rfl, h.below.trans (hb.mono h.below.size), fun _ => ⟨k + 1, rfl, hk, by have := h.le.1; omega, by have := h.few; rw [size_mk]; omega⟩, fun l t0 hl => ?_⟩
  obtain ⟨l', h1, h2⟩ := h.told l t0 hl
  rw [drop_at s k hk, hq] at h2
  rcases quoL_sorts h2 with ⟨e1, e2⟩ | ⟨y, l2, e1, e2⟩
  · refine ⟨rfl, by rw [h1, e1, List.append_nil], k + 1, rfl, ?_⟩
    injection e2
  · obtain ⟨g, t, e, hg⟩ := quoB_head y
    rw [e] at e2
    injection e2 with e2 _
    exact absurd e2.symm hg
end

set_option maxHeartbeats 4000000 in
theorem rname_any (s : ByteArray) (at0 : Nat) (w : World) (hs : s.size ≤ 1073741824) (ha : at0 ≤ s.size) :
    Calls Try.prog 24 #[.string s, .int .i64 (at0 : Int)] w (RnP s at0 w) := by
  have HI0 := Lib.hid (show RtI s at0 at0 w w none 0 0 [] from ⟨Own.nil w _, Below.refl _ _, ⟨Nat.le_refl _, ha⟩, by simp, fun l t0 hl => ⟨l, rfl, hl⟩⟩)
  have Ha := Lib.hid ha
  clear ha
  go_enter Try.func24, Try.ntmps24
  go_wp2_with fail
  go_loopw [1, 7] (fun i o wr => ∃ (k : Nat) (A : Option Addr) (N c : Nat) (out : Bs), i = .int .i64 k ∧ o = .slice A N c ∧ Hid (RtI s at0 k w wr A N c out)) (fun i _ _ => s.size - (intOf i).toNat)
  case atStart => exact ⟨at0, none, 0, 0, [], rfl, rfl, HI0⟩
  case round =>
    obtain ⟨k, A, N, c, out, rfl, rfl, HI⟩ := hrel
    have hks := HI.out.le.2
    have hN : N ≤ 1073741824 := by have := HI.out.own.len; have := HI.out.few; omega
    have hk0 : (0 : Int) ≤ (k : Int) := by omega
    have hbw : w.heap.size ≤ wr.heap.size := HI.out.below.size
    by_cases hlt : k < s.size
    · have q0 : (k : Int) < (s.size : Int) := by omega
      have hcq := s[k].toNat_lt
      by_cases h34 : s[k] = 34
      · have e34 : ((s[k].toNat : Int) != 34) = false := by rw [h34]; rfl
        have HG := Lib.hid (HI.out.good hlt h34 (Below.refl _ _))
        have hsee := HI.out.own.sees
        have hcv := run_text 31 9 5 Try.underlying31 Try.underlying5 Try.underlying9 (c := c) hsee
        have hlt' := Lib.hid hlt
        clear h34
        go_wp2_with fail
        go_ret3
        exact HG.out
      · have e34 : ((s[k].toNat : Int) != 34) = true := by
          rw [bne_iff_ne]
          exact fun e => h34 (UInt8.toNat_inj.1 (by show s[k].toNat = 34; omega))
        by_cases h92 : s[k] = 92
        · have e92 : ((s[k].toNat : Int) != 92) = false := by rw [h92]; rfl
          have hd1 := drop_at s k hlt
          rw [h92] at hd1
          by_cases hl2 : k + 1 < s.size
          · have q1 : ¬ ((s.size : Int) ≤ (k : Int) + 1) := by omega
            have q1' : (k : Int) + 1 < (s.size : Int) := by omega
            have t1 : ((k : Int) + 1).toNat = k + 1 := by omega
            have t1' : (0 : Int) ≤ (k : Int) + 1 := by omega
            have hcq1 := s[k + 1].toNat_lt
            have hd2 := drop_at s (k + 1) hl2
            by_cases h120 : s[k + 1] = 120
            · have e120 : ((s[k + 1].toNat : Int) != 120) = false := by rw [h120]; rfl
              rw [h120] at hd2
              by_cases hl4 : k + 3 < s.size
              · have q3 : ¬ ((s.size : Int) ≤ (k : Int) + 3) := by omega
                have q3' : (k : Int) + 3 < (s.size : Int) := by omega
                have q2' : (k : Int) + 2 < (s.size : Int) := by omega
                have t2 : ((k : Int) + 2).toNat = k + 2 := by omega
                have t2' : (0 : Int) ≤ (k : Int) + 2 := by omega
                have t3 : ((k : Int) + 3).toNat = k + 3 := by omega
                have t3' : (0 : Int) ≤ (k : Int) + 3 := by omega
                have hl3 : k + 2 < s.size := by omega
                have hd3 := drop_at s (k + 2) hl3
                have hd4 := drop_at s (k + 3) hl4
                have hdd : s.data.toList.drop k = 92 :: 120 :: s[k + 2] :: s[k + 3] :: s.data.toList.drop (k + 4) := by rw [hd1, hd2, hd3, hd4]
                have HDD := Lib.hid hdd
                obtain ⟨a, ha⟩ : ∃ a, a = dgR s[k + 2] := ⟨_, rfl⟩
                obtain ⟨b, hb⟩ : ∃ b, b = dgR s[k + 3] := ⟨_, rfl⟩
                have HA1 := Lib.hid (fun W => rdigit_any s[k + 2] W)
                have HA2 := Lib.hid (fun W => rdigit_any s[k + 3] W)
                rw [← ha] at HA1
                rw [← hb] at HA2
                have hal := dgR_le s[k + 2]
                have hbl := dgR_le s[k + 3]
                rw [← ha] at hal
                rw [← hb] at hbl
                have Ha1 := Lib.hid ha
                have Hb1 := Lib.hid hb
                clear hd1 hd2 hd3 hd4 hdd ha hb h34 h92 h120
                by_cases ha0 : a < 0
                · have HB := Lib.hid (fun (w' : World) (hb : Below wr.heap.size wr w') => HI.out.bad (fun l t0 hl => by
                    rw [HDD.out] at hl
                    obtain ⟨i, j, d2, y, l', hi, hj, he, _⟩ := told_hex hl
                    injection he with he _
                    have := Ha1.out
                    rw [he, dgR_dig i hi] at this
                    omega) hb ⟨#[]⟩ 0)
                  go_wp2_with fail
                  (with_reducible refine (HA1.out _).mono ?_)
                  rintro e _ ⟨rfl, rfl⟩
                  go_wp2_with fail
                  go_ret3
                  exact HB.out _ (Below.refl _ _)
                · by_cases hb0 : b < 0
                  · have HB := Lib.hid (fun (w' : World) (hb : Below wr.heap.size wr w') => HI.out.bad (fun l t0 hl => by
                      rw [HDD.out] at hl
                      obtain ⟨i, j, d2, y, l', hi, hj, he, _⟩ := told_hex hl
                      injection he with _ he
                      injection he with he _
                      have := Hb1.out
                      rw [he, dgR_dig j hj] at this
                      omega) hb ⟨#[]⟩ 0)
                    go_wp2_with fail
                    (with_reducible refine (HA1.out _).mono ?_)
                    rintro e _ ⟨rfl, rfl⟩
                    go_wp2_with fail
                    (with_reducible refine (HA2.out _).mono ?_)
                    rintro e _ ⟨rfl, rfl⟩
                    go_wp2_with fail
                    go_ret3
                    exact HB.out _ (Below.refl _ _)
                  · obtain ⟨x, hx⟩ : ∃ x : UInt8, x = UInt8.ofNat (16 * a + b).toNat := ⟨_, rfl⟩
                    have hxv : IntKind.u8.wrap (16 * a + b) = (x.toNat : Int) := by rw [hx, UInt8.toNat_ofNat', IntKind.wrap_u8]; omega
                    have HST : Hid (∀ l t0, s.data.toList.drop k = quoL l ++ 34 :: t0 → ∃ l', l = [x] ++ l' ∧ s.data.toList.drop (k + 4) = quoL l' ++ 34 :: t0) := Lib.hid fun l t0 hl => by
                      rw [HDD.out] at hl
                      obtain ⟨i, j, d2, y, l', hi, hj, he, hy, h1, h2⟩ := told_hex hl
                      injection he with e1 he
                      injection he with e2 he
                      have k1 := Ha1.out
                      have k2 := Hb1.out
                      rw [e1, dgR_dig i hi] at k1
                      rw [e2, dgR_dig j hj] at k2
                      have hxy : x = y := UInt8.toNat_inj.1 (by rw [hx, UInt8.toNat_ofNat', hy, k1, k2]; omega)
                      exact ⟨l', by rw [hxy]; exact h1, by rw [he]; exact h2⟩
                    have hw2 : IntKind.i64.wrap ((k : Int) + 2) = (k : Int) + 2 := by rw [IntKind.wrap_i64]; omega
                    have hw3 : IntKind.i64.wrap ((k : Int) + 3) = (k : Int) + 3 := by rw [IntKind.wrap_i64]; omega
                    have hmul : IntKind.i64.wrap (16 * a) = 16 * a := by rw [IntKind.wrap_i64]; omega
                    have hsum : IntKind.i64.wrap (16 * a + b) = 16 * a + b := by rw [IntKind.wrap_i64]; omega
                    have hr2 : Own (wr.alloc (.cells #[.int .u8 (IntKind.u8.wrap (16 * a + b))] 5)).drew w.heap.size A N c out := (HI.out.own.alloc _).drew
                    have hx2 : From Try.prog (wr.alloc (.cells #[.int .u8 (IntKind.u8.wrap (16 * a + b))] 5)).drew 31 (.slice (some ⟨wr.heap.size, 0, none⟩) 1 1) 1 [x] := by
                      rw [hxv]
                      exact From.sees (Own.lit wr [x] 1 (Nat.le_refl _) (by simp [maxLen]) rfl).sees.drew
                    have hb2 : w.heap.size ≤ (wr.alloc (.cells #[.int .u8 (IntKind.u8.wrap (16 * a + b))] 5)).drew.heap.size := by simp; omega
                    have hN1 : N + 1 ≤ 70368744177664 := by omega
                    have Hx := Lib.hid hx
                    clear hx hal hbl hxv
                    go_wp2_with fail
                    (with_reducible refine (HA1.out _).mono ?_)
                    rintro e _ ⟨rfl, rfl⟩
                    go_wp2_with fail
                    (with_reducible refine (HA2.out _).mono ?_)
                    rintro e _ ⟨rfl, rfl⟩
                    go_wp2_with fail
                    go_region_held3 (fun _ => True) (trivial) (first
                      | (go_at_call 32; (with_reducible refine (HA1.out _).mono ?_); rintro e _ ⟨rfl, rfl⟩)
                      | (go_at_call 32; (with_reducible refine (HA2.out _).mono ?_); rintro e _ ⟨rfl, rfl⟩)
                      | (refine step_append_from rfl (.tmp 70) (.tmp 84) _ rfl rfl rfl hr2 hx2 hN1 hb2 ?_; intro A3 N3 c3 w3 ho3 hg3 hat3))
                    all_goals
                      have HI3 := Lib.hid (HI.out.push (x := x) (k' := k + 4) (((Below.refl _ _).alloc (Nat.le_refl _) _).drew) hg3 ho3 (by omega) (by omega) HST.out)
                      go_wp2_with fail
                      go_roundw
                      case rel => exact ⟨k + 4, A3, N3, c3, _, by go_num, rfl, HI3⟩
                      case measure => simp [intOf]; omega
              · have q3 : (s.size : Int) ≤ (k : Int) + 3 := by omega
                have HB := Lib.hid (fun (w' : World) (hb : Below wr.heap.size wr w') => HI.out.bad (fun l t0 hl => by
                  rw [hd1, hd2] at hl
                  obtain ⟨i, j, d2, y, l', hi, hj, he, _⟩ := told_hex hl
                  have := congrArg List.length he
                  rw [List.length_drop, Array.length_toList] at this
                  simp only [List.length_cons] at this
                  have e : s.data.size = s.size := rfl
                  omega) hb ⟨#[]⟩ 0)
                clear hd1 hd2 h34 h92 h120
                go_wp2_with fail
                go_ret3
                exact HB.out _ (Below.refl _ _)
            · have e120 : ((s[k + 1].toNat : Int) != 120) = true := by
                rw [bne_iff_ne]
                exact fun e => h120 (UInt8.toNat_inj.1 (by show s[k + 1].toNat = 120; omega))
              obtain ⟨x, hx⟩ : ∃ x, x = s[k + 1] := ⟨_, rfl⟩
              have HST : Hid (∀ l t0, s.data.toList.drop k = quoL l ++ 34 :: t0 → ∃ l', l = [x] ++ l' ∧ s.data.toList.drop (k + 2) = quoL l' ++ 34 :: t0) := Lib.hid fun l t0 hl => by
                rw [hd1, hd2] at hl
                rw [hx]
                exact told_slash hl h120
              clear hd1 hd2 h34 h92 h120
              have hr2 := HI.out.own.alloc (.cells #[.int .u8 (s[k + 1].toNat : Int)] 5)
              have hx2 : From Try.prog (wr.alloc (.cells #[.int .u8 (s[k + 1].toNat : Int)] 5)) 31 (.slice (some ⟨wr.heap.size, 0, none⟩) 1 1) 1 [s[k + 1]] := From.sees (Own.lit wr [s[k + 1]] 1 (Nat.le_refl _) (by simp [maxLen]) rfl).sees
              have hb2 : w.heap.size ≤ (wr.alloc (.cells #[.int .u8 (s[k + 1].toNat : Int)] 5)).heap.size := by simp; omega
              go_wp2_with (at_builtin; refine wpList_append_from rfl (.tmp 40) (.tmp 45) _ rfl rfl rfl hr2 hx2 (by omega) hb2 ?_; intro A3 N3 c3 w3 ho3 hg3 hat3)
              have HI3 := Lib.hid (HI.out.push (x := s[k + 1]) (k' := k + 2) ((Below.refl _ _).alloc (Nat.le_refl _) _) hg3 ho3 (by omega) (by omega) (by rw [← hx]; exact HST.out))
              go_roundw
              case rel => exact ⟨k + 2, A3, N3, c3, _, by go_num, rfl, HI3⟩
              case measure => simp [intOf]; omega
          · have q1 : (s.size : Int) ≤ (k : Int) + 1 := by omega
            have HB := Lib.hid (fun (w' : World) (hb : Below wr.heap.size wr w') => HI.out.bad (fun l t0 hl => by
              rw [hd1, List.drop_eq_nil_of_le (by rw [Array.length_toList]; show s.size ≤ k + 1; omega)] at hl
              exact told_end hl) hb ⟨#[]⟩ 0)
            clear hd1 h34 h92
            go_wp2_with fail
            go_ret3
            exact HB.out _ (Below.refl _ _)
        · have e92 : ((s[k].toNat : Int) != 92) = true := by
            rw [bne_iff_ne]
            exact fun e => h92 (UInt8.toNat_inj.1 (by show s[k].toNat = 92; omega))
          have HST : Hid (∀ l t0, s.data.toList.drop k = quoL l ++ 34 :: t0 → ∃ l', l = [s[k]] ++ l' ∧ s.data.toList.drop (k + 1) = quoL l' ++ 34 :: t0) := Lib.hid fun l t0 hl => by
            rw [drop_at s k hlt] at hl
            exact told_plain hl h34 h92
          clear h34 h92
          have hr2 := HI.out.own.alloc (.cells #[.int .u8 (s[k].toNat : Int)] 5)
          have hx2 : From Try.prog (wr.alloc (.cells #[.int .u8 (s[k].toNat : Int)] 5)) 31 (.slice (some ⟨wr.heap.size, 0, none⟩) 1 1) 1 [s[k]] := From.sees (Own.lit wr [s[k]] 1 (Nat.le_refl _) (by simp [maxLen]) rfl).sees
          have hb2 : w.heap.size ≤ (wr.alloc (.cells #[.int .u8 (s[k].toNat : Int)] 5)).heap.size := by simp; omega
          go_wp2_with (at_builtin; refine wpList_append_from rfl (.tmp 22) (.tmp 26) _ rfl rfl rfl hr2 hx2 (by omega) hb2 ?_; intro A3 N3 c3 w3 ho3 hg3 hat3)
          have HI3 := Lib.hid (HI.out.push (x := s[k]) (k' := k + 1) ((Below.refl _ _).alloc (Nat.le_refl _) _) hg3 ho3 (by omega) (by omega) HST.out)
          go_roundw
          case rel => exact ⟨k + 1, A3, N3, c3, _, by go_num, rfl, HI3⟩
          case measure => simp [intOf]; omega
    · have q0 : ¬ ((k : Int) < (s.size : Int)) := by omega
      have HB := Lib.hid (HI.out.bad (fun l t0 hl => by
        rw [List.drop_eq_nil_of_le (by rw [Array.length_toList]; show s.size ≤ k; omega)] at hl
        have := congrArg List.length hl
        simp at this) (Below.refl _ _) (mkB out) ((k + 1 : Nat) : Int))
      have hsee := HI.out.own.sees
      have hcv := run_text 31 9 5 Try.underlying31 Try.underlying5 Try.underlying9 (c := c) hsee
      clear hlt
      go_wp2_with fail
      go_ret3
      exact HB.out
end Go.Proofs.Ytclgemkdlgpekaa.Re
