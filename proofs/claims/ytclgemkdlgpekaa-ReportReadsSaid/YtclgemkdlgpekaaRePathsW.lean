/- ReportPaths. No conditions. -/
import Derived.Test.YtclgemkdlgpekaaReLaw
namespace Go.Proofs.Ytclgemkdlgpekaa.Re
open Go.RowKit
set_option maxRecDepth 100000

set_option maxHeartbeats 2000000 in
theorem paths_walk (p : List ByteArray) (A : Option Addr) (n c : Nat) (w : World) (h : SeesV w w.heap.size A n (p.map Value.string)) (hc : n ≤ c) (hm : c ≤ maxLen) :
    Calls Try.prog 3 #[.slice A n c] w fun e w' => e = .returned (.bool true) ∧ Below w.heap.size w w' := by
  have HK := Lib.hid (known_any w)
  have Hs := Lib.hid h
  have Hm := Lib.hid (Nat.le_trans hc hm)
  clear h hc hm
  go_enter Try.func3, Try.ntmps3
  go_wp2_with fail
  (with_reducible refine HK.out.mono ?_)
  rintro e w1 ⟨rfl, hb1⟩
  have HB1 := Lib.hid hb1
  have HF := Lib.hid (few_any p A n c w.heap.size w1 (Hs.out.below hb1) Hm.out)
  clear hb1
  go_wp2_with fail
  (with_reducible refine HF.out.mono ?_)
  rintro e w2 ⟨⟨v, rfl, hv⟩, rfl⟩
  cases v with
  | false =>
    clear hv
    go_wp2_with fail
    go_ret
    exact ⟨rfl, HB1.out⟩
  | true =>
    obtain ⟨hv1, hv2⟩ := hv rfl
    have hbk := bulk_few hv1 hv2
    have hpl := pathL_len p
    have hnl := Hs.out.len
    rw [List.length_map] at hnl
    have hn30 : n ≤ 1073741824 := by omega
    have HP := Lib.hid (path_any p A n c w.heap.size w2 HB1.out.size (Hs.out.below HB1.out) (by omega))
    obtain ⟨X, hX⟩ : ∃ X : ByteArray, X = mkB (pathL p) := ⟨_, rfl⟩
    have hXs : X.size = (pathL p).length := by rw [hX, size_mk]
    rw [← hX] at HP
    have HX := Lib.hid hX
    have HXl := Lib.hid (show X.data.toList = pathL p by rw [hX])
    have HL := Lib.hid (show (pathL p).length ≤ 4000 by omega)
    have HQ := Lib.hid (fun (W : World) (_ : Below w.heap.size w W) => parse_any X W (by omega))
    have HR := Lib.hid (fun (W : World) (hW : Below w.heap.size w W) => rpath_any p A n c w.heap.size W (Hs.out.below hW) (by omega))
    rw [← hX] at HR
    have hXX : (X.toList == X.toList) = true := beq_self_eq_true _
    have hn4 : n ≤ 1073741824 := by omega
    clear hv hv1 hv2 hbk hpl hnl hX hXs
    go_wp2_with fail
    (with_reducible refine HP.out.mono ?_)
    rintro e w3 ⟨rfl, hb3⟩
    have HB3 := Lib.hid (HB1.out.trans (hb3.mono HB1.out.size))
    clear hb3
    go_wp2_with fail
    (with_reducible refine (HQ.out _ HB3.out).mono ?_)
    rintro e w4 ⟨A4, n4, c4, q, er, rfl, hs4, hc4, hans, hbq, hb4⟩
    rw [HXl.out] at hans
    obtain ⟨rfl, rfl⟩ := hans.back HL.out
    have HB4 := Lib.hid (HB3.out.trans (hb4.mono HB3.out.size))
    have HS4 := Lib.hid hs4
    clear hb4 hs4 hans hbq
    go_wp2_with fail
    (with_reducible refine (HR.out _ HB4.out).mono ?_)
    rintro e w5 ⟨rfl, qd, rfl⟩
    have HSm := Lib.hid (same_any q q A A4 n c n4 c4 w4.heap.size (w4.drewN qd) ((seesV_more (Hs.out.below HB4.out) HB4.out.size).keep (fun _ _ => rfl)) (HS4.out.keep (fun _ _ => rfl)) hn30)
    rw [decide_eq_true (rfl : q = q)] at HSm
    go_wp2_with fail
    (with_reducible refine HSm.out.mono ?_)
    rintro e w6 ⟨rfl, qe, rfl⟩
    go_wp2_with fail
    go_ret
    exact ⟨rfl, below_drewN HB4.out _⟩
end Go.Proofs.Ytclgemkdlgpekaa.Re
