/- LinesTrim's walk. No conditions. -/
import Derived.Test.YtcnadiddgllejaaDoorTrTrim
namespace Go.Proofs.YtcnadiddgllejaaDoor.Li
open Go.RowKit
set_option maxRecDepth 100000

set_option maxHeartbeats 4000000 in
theorem trims_walk (A : Option Addr) (n c : Nat) (l : List Int) (r : ByteArray) (w : World) (h : SeesV w w.heap.size A n (l.map (Value.int .i64))) (hr : ∀ x ∈ l, -9223372036854775808 ≤ x ∧ x ≤ 9223372036854775807) (hc : n ≤ c) (hm : c ≤ maxLen) (hrs : r.size ≤ maxLen) :
    Calls Tryd.prog 3 #[.slice A n c, .string r] w fun e w' => e = .returned (.bool true) ∧ Below w.heap.size w w' := by
  have HT := Lib.hid (fun W (hb : Below w.heap.size w W) => text_any A n c l W (SeesV.more hb.size (h.below hb)) hr hc hm)
  unfold maxLen at hrs
  have HK := Lib.hid (fun W => known_any W)
  clear h hr hc hm
  by_cases hbig : 200 < r.size
  · have q0 : (200 : Int) < (r.size : Int) := by omega
    go_enter Tryd.func3, Tryd.ntmps3
    go_wp2_with fail
    (with_reducible refine (HK.out _).mono ?_)
    rintro e w1 ⟨rfl, hb1⟩
    go_wp2_with fail
    go_ret
    exact ⟨rfl, hb1⟩
  · have q0 : (r.size : Int) ≤ 200 := by omega
    go_enter Tryd.func3, Tryd.ntmps3
    go_wp2_with fail
    (with_reducible refine (HK.out _).mono ?_)
    rintro e w1 ⟨rfl, hb1⟩
    go_wp2_with fail
    (with_reducible refine (HT.out _ hb1).mono ?_)
    rintro e w2 ⟨t, ht, rfl, hb2⟩
    have hb12 := hb1.trans (hb2.mono hb1.size)
    clear hb1 hb2
    go_wp2_with fail
    go_loopw [6] (fun i wr => ∃ k : Nat, k ≤ 4 ∧ i = .int .i64 k ∧ Below (w2.heap.size + 1) (w2.alloc (.cells #[.string t, .string r, .string ⟨#[]⟩, .string ⟨#[32, 9, 32]⟩] 9)) wr) (fun i _ => 4 - (intOf i).toNat)
    case atStart => exact ⟨0, by omega, rfl, Below.refl _ _⟩
    case round =>
      obtain ⟨k, hk, rfl, hw⟩ := hrel
      have hws : w2.heap.size + 1 ≤ wr.heap.size := by have := hw.size; simpa using this
      have hwb : Below w.heap.size w wr := (hb12.alloc hb12.size _).trans (hw.mono (by have := hb12.size; omega))
      by_cases hlt : k < 4
      · have q1 : (k : Int) < 4 := by omega
        have q2 : (0 : Int) ≤ (k : Int) := by omega
        obtain ⟨s, hs, hcell⟩ : ∃ s : ByteArray, s.size ≤ 200 ∧ wr.cell? ⟨w2.heap.size, k, none⟩ = some (.string s) := by
          have hc0 := fun j => (hw.cell (p := ⟨w2.heap.size, j, none⟩) (by simp)).trans (cell_of_row _ _ j _ _ _ (heap_alloc_new w2 (.cells #[.string t, .string r, .string ⟨#[]⟩, .string ⟨#[32, 9, 32]⟩] 9)))
          have hk2 : k = 0 ∨ k = 1 ∨ k = 2 ∨ k = 3 := by omega
          rcases hk2 with rfl | rfl | rfl | rfl
          · exact ⟨t, by omega, hc0 0⟩
          · exact ⟨r, by omega, hc0 1⟩
          · exact ⟨⟨#[]⟩, by decide, hc0 2⟩
          · exact ⟨⟨#[32, 9, 32]⟩, by decide, hc0 3⟩
        have HR1 := Lib.hid (fun W => trim_any s W (by omega))
        have HR2 := Lib.hid (fun W => rtrim_any s W (by omega))
        have hall := parts_all s
        have hens := en_le s.data.toList
        have hmget := mi_get s
        have hmsz := mi_size s
        have hsz1 : (fr s ++ mi s).size = (fr s).size + (mi s).size := ByteArray.size_append
        have hsz2 : s.size = (fr s ++ mi s).size + (ba s).size := by
          have := congrArg ByteArray.size hall
          rw [ByteArray.size_append] at this
          exact this.symm
        have hm0 : 0 < (mi s).size → ∃ h : 0 < (mi s).size, bl ((mi s)[0]'h) = false := by
          intro h0
          obtain ⟨g1, g2⟩ := hmget 0 h0
          refine ⟨h0, ?_⟩
          rw [g2]
          exact tl_out s.data.toList g1
        have hm1 : 0 < (mi s).size → ∃ h : (mi s).size - 1 < (mi s).size, bl ((mi s)[(mi s).size - 1]'h) = false := by
          intro h0
          obtain ⟨g1, g2⟩ := hmget ((mi s).size - 1) (by omega)
          refine ⟨by omega, ?_⟩
          rw [g2]
          have e : tl s.data.toList + ((mi s).size - 1) = en s.data.toList - 1 := by omega
          simp only [e]
          exact en_out s.data.toList (by omega) (by omega)
        unfold Trimmed at HR1 HR2
        generalize fr s = f at *
        generalize mi s = m at *
        generalize ba s = g at *
        have ha1 := fun W => run_string_add_sum (P := Tryd.prog) (w := W) f m (by omega)
        have ha2 := fun W => run_string_add_sum (P := Tryd.prog) (w := W) (f ++ m) g (by omega)
        rw [hall] at ha2
        have hlw : w2.heap.size < wr.heap.size := by omega
        have hmI : (0 : Int) ≤ (m.size : Int) := by omega
        have hmI2 : (m.size : Int) ≤ 200 := by omega
        by_cases hpos : 0 < m.size
        · obtain ⟨p0, p1⟩ := hm0 hpos
          obtain ⟨p2, p3⟩ := hm1 hpos
          obtain ⟨x0, x1⟩ := bl_ne p1
          obtain ⟨x2, x3⟩ := bl_ne p3
          have y0 : (0 : Int) < (m.size : Int) := by omega
          have y1 : (0 : Int) ≤ (m.size : Int) - 1 := by omega
          have y2 : ((m.size : Int) - 1).toNat = m.size - 1 := by omega
          have y3 : (m.size : Int) - 1 < (m.size : Int) := by omega
          clear hall hens hmget hmsz hsz1 hsz2 hm0 hm1 p1 p3
          go_wp2_with fail
          (with_reducible refine (HR1.out _).mono ?_)
          rintro e w3 ⟨rfl, hb3⟩
          have hcell3 := (hb3.cell (p := ⟨w2.heap.size, k, none⟩) hlw).trans hcell
          go_wp2_with fail
          (with_reducible refine (HR2.out _).mono ?_)
          rintro e w4 ⟨rfl, hb4⟩
          have hcell4 := (hb4.cell (p := ⟨w2.heap.size, k, none⟩) (Nat.lt_of_lt_of_le hlw hb3.size)).trans hcell3
          go_wp2_with fail
          go_roundw
          case rel => exact ⟨k + 1, by omega, by go_num, hw.trans ((hb3.trans (hb4.mono hb3.size)).mono hws)⟩
          case measure => simp [intOf]; omega
        · have y0 : (m.size : Int) ≤ 0 := by omega
          clear hall hens hmget hmsz hsz1 hsz2 hm0 hm1
          go_wp2_with fail
          (with_reducible refine (HR1.out _).mono ?_)
          rintro e w3 ⟨rfl, hb3⟩
          have hcell3 := (hb3.cell (p := ⟨w2.heap.size, k, none⟩) hlw).trans hcell
          go_wp2_with fail
          (with_reducible refine (HR2.out _).mono ?_)
          rintro e w4 ⟨rfl, hb4⟩
          have hcell4 := (hb4.cell (p := ⟨w2.heap.size, k, none⟩) (Nat.lt_of_lt_of_le hlw hb3.size)).trans hcell3
          go_wp2_with fail
          go_roundw
          case rel => exact ⟨k + 1, by omega, by go_num, hw.trans ((hb3.trans (hb4.mono hb3.size)).mono hws)⟩
          case measure => simp [intOf]; omega
      · have q1 : (4 : Int) ≤ (k : Int) := by omega
        go_wp2_with fail
        go_ret
        exact ⟨rfl, hwb⟩
end Go.Proofs.YtcnadiddgllejaaDoor.Li
