/- ReportLong. No conditions. -/
import Derived.Test.YtclgemkdlgpekaaRePathsW
namespace Go.Proofs.Ytclgemkdlgpekaa.Re
open Go.RowKit
set_option maxRecDepth 100000

theorem quo_rep (x : UInt8) (h : quoB x = [x]) : ∀ j : Nat, quoL (List.replicate j x) = List.replicate j x
  | 0 => rfl
  | j + 1 => by rw [List.replicate_succ, quoL_cons, h, quo_rep x h j]; rfl
theorem rep_path (x : UInt8) (h : quoB x = [x]) (j : Nat) : pathL [mkB (List.replicate j x)] = [47, 34] ++ List.replicate j x ++ [34] := by
  rw [pathL_ne (by simp), pathT_cons, pathT_nil]
  show 47 :: 34 :: (quoL (List.replicate j x) ++ [34]) = _
  rw [quo_rep x h]
  rfl

set_option maxHeartbeats 2000000 in
theorem long_walk (a b : Int) (w : World) (ha : (Lit.int .i64 a).wf = true) (hb : (Lit.int .i64 b).wf = true) :
    Calls Try.prog 7 #[.int .i64 a, .int .i64 b] w fun e w' => e = .returned (.bool true) ∧ Below w.heap.size w w' := by
  have HK := Lib.hid (known_any w)
  have HA := Lib.hid (fun W => within14_any a 30 (by decide) (by decide) ha W)
  have HB := Lib.hid (fun W => within14_any b 3 (by decide) (by decide) hb W)
  obtain ⟨n, hn⟩ : ∃ n : Nat, a % 30 = (n : Int) := ⟨(a % 30).toNat, by omega⟩
  have hn30 : n < 30 := by omega
  obtain ⟨m, hm⟩ : ∃ m : Nat, b % 3 = (m : Int) := ⟨(b % 3).toNat, by omega⟩
  have hm3 : m < 3 := by omega
  rw [hn] at HA
  rw [hm] at HB
  obtain ⟨x, hx1, hx2⟩ : ∃ x : UInt8, quoB x = [x] ∧ (97 : Int) + (m : Int) = (x.toNat : Int) := by
    have : m = 0 ∨ m = 1 ∨ m = 2 := by omega
    rcases this with rfl | rfl | rfl
    · exact ⟨97, by decide, rfl⟩
    · exact ⟨98, by decide, rfl⟩
    · exact ⟨99, by decide, rfl⟩
  have HX1 := Lib.hid hx1
  have hxl := x.toNat_lt
  have HX2 := Lib.hid hx2
  clear hn hm ha hb hx1 hx2
  go_enter Try.func7, Try.ntmps7
  go_wp2_with fail
  (with_reducible refine HK.out.mono ?_)
  rintro e w1 ⟨rfl, hb1⟩
  have HB1 := Lib.hid hb1
  clear hb1
  go_wp2_with fail
  (with_reducible refine (HA.out _).mono ?_)
  rintro e _ ⟨rfl, rfl⟩
  go_wp2_with fail
  (with_reducible refine (HB.out _).mono ?_)
  rintro e _ ⟨rfl, rfl⟩
  go_wp2_with fail
  go_loopg [5] (3983 + n) (fun g s wr => ∃ (j : Nat) (S : ByteArray), s = .string S ∧ S.size = j + 2 ∧ j + g = 3983 + n ∧ Hid (S.data.toList = [47, 34] ++ List.replicate j x) ∧ Hid (Below w.heap.size w wr))
  case atStart => exact ⟨0, ⟨#[47, 34]⟩, rfl, rfl, by omega, Lib.hid rfl, HB1⟩
  case round =>
    obtain ⟨j, S, rfl, hS, hj, HS, HW⟩ := hrel
    by_cases hlt : j + 2 < 3985 + n
    · have q1 : (S.size : Int) < 3985 + (n : Int) := by omega
      have hsee : Sees (wr.alloc (.cells #[.int .u8 (97 + (m : Int))] 5)) (wr.heap.size + 1) (some ⟨wr.heap.size, 0, none⟩) 1 [x] := by
        rw [HX2.out]
        have h := (Own.lit (base := 0) wr [x] 1 (Nat.zero_le _) (by simp [maxLen]) rfl).sees
        rw [World.size_alloc] at h
        exact h
      have hcv := run_text 31 9 5 Try.underlying31 Try.underlying5 Try.underlying9 (c := 1) hsee
      obtain ⟨Y, hY⟩ : ∃ Y : ByteArray, Y = ⟨[x].toArray⟩ := ⟨_, rfl⟩
      rw [← hY] at hcv
      have hYs : Y.size = 1 := by rw [hY]; rfl
      have hadd := fun W => run_string_add_sum (P := Try.prog) W S Y (by omega)
      obtain ⟨S2, hS2⟩ : ∃ x, x = S ++ Y := ⟨_, rfl⟩
      rw [← hS2] at hadd
      have hS2s : S2.size = j + 1 + 2 := by rw [hS2, ByteArray.size_append, hYs]; omega
      have HS2 := Lib.hid (show S2.data.toList = [47, 34] ++ List.replicate (j + 1) x by rw [hS2, app_mk, HS.out, hY, List.append_assoc]; simp [List.replicate_succ'])
      have HW2 := Lib.hid (HW.out.alloc HW.out.size (.cells #[.int .u8 (97 + (m : Int))] 5))
      have HZ := Lib.hid hS2s
      clear hsee hY hYs hS2 hS2s hS
      go_wp2_with fail
      go_roundg (gk - 1)
      case measure => omega
      case rel => exact ⟨j + 1, S2, rfl, HZ.out, by omega, HS2, HW2⟩
    · have q1 : ¬ ((S.size : Int) < 3985 + (n : Int)) := by omega
      have hj2 : j = 3983 + n := by omega
      obtain ⟨T, hT⟩ : ∃ T : ByteArray, T = S ++ ⟨#[34]⟩ := ⟨_, rfl⟩
      have hadd := fun W => run_string_add_sum (P := Try.prog) W S ⟨#[34]⟩ (by have : (ByteArray.mk #[34]).size = 1 := rfl; omega)
      rw [← hT] at hadd
      have hTs : T.size = n + 3986 := by rw [hT, ByteArray.size_append]; show S.size + 1 = _; omega
      have hTl : T.data.toList = pathL [mkB (List.replicate j x)] := by rw [rep_path x HX1.out, hT, app_mk, HS.out]
      have HTl := Lib.hid hTl
      have HTs := Lib.hid hTs
      have HP := Lib.hid (parse_any T wr (by omega))
      have hTi : (T.size : Int) = (n : Int) + 3986 := by omega
      have HTi := Lib.hid hTi
      have Hj2 := Lib.hid hj2
      clear hTl hTi hj2 hTs hS hT
      go_wp2_with fail
      (with_reducible refine HP.out.mono ?_)
      rintro e w2 ⟨A4, n4, c4, q, er, rfl, hs4, hc4, hans, hbq, hb4⟩
      have HB4 := Lib.hid (HW.out.trans (hb4.mono HW.out.size))
      have HS4 := Lib.hid hs4
      have hTlen : T.data.toList.length = T.size := by rw [Array.length_toList]; rfl
      have hTs := HTs.out
      by_cases hbig : 4000 < T.size
      · have q4 : (4000 : Int) < (T.size : Int) := by omega
        have hq : q = [] ∧ er = 5 := by
          rcases hans with ⟨_, h2, h3⟩ | ⟨h1, _⟩
          · exact ⟨h2, h3⟩
          · omega
        obtain ⟨rfl, rfl⟩ := hq
        obtain rfl : n4 = 0 := by simpa using hs4.len
        clear hans hTlen hbig hs4 hb4 hbq
        go_wp2_with fail
        go_ret
        exact ⟨rfl, HB4.out⟩
      · have q4 : ¬ ((4000 : Int) < (T.size : Int)) := by omega
        rw [HTl.out] at hans
        obtain ⟨rfl, rfl⟩ := hans.back (by rw [← HTl.out]; omega)
        obtain rfl : n4 = 1 := by simpa using hs4.len
        obtain ⟨b4, o4, rfl, hb4l, hc4'⟩ := hs4.cell 0 (.string (mkB (List.replicate j x))) rfl
        rw [Nat.add_zero] at hc4'
        obtain ⟨U, hU⟩ : ∃ U : ByteArray, U = mkB (List.replicate j x) := ⟨_, rfl⟩
        rw [← hU] at hc4'
        have hUs : U.size = j := by rw [hU, size_mk, List.length_replicate]
        have hTs := HTs.out
        have e3 : ((U.size : Int) == (n : Int) + 3986 - 3) = true := by rw [beq_iff_eq]; have := Hj2.out; omega
        clear hans hTlen hbig hs4 hb4 hbq hU hUs
        go_wp2_with fail
        go_ret
        exact ⟨rfl, HB4.out⟩
end Go.Proofs.Ytclgemkdlgpekaa.Re
