/- ReportReads. No conditions. -/
import Derived.Test.YtclgemkdlgpekaaReUnlikeW
import Derived.Laws.IdiomStrings
import Derived.StillTailTactics
namespace Go.Proofs.Ytclgemkdlgpekaa.Re
open Go.RowKit
set_option maxRecDepth 100000

/-- The bytes of a text, in a row of their own. -/
theorem conv_bytes (s : ByteArray) (w : World) : ∃ (Wb : World) (cap : Nat), (convert 9 31 (.string s)).run Try.prog w = .ok (.slice (some ⟨w.heap.size, 0, none⟩) s.size cap) Wb ∧ s.size ≤ cap ∧ Below w.heap.size w Wb ∧ w.heap.size < Wb.heap.size ∧
    Sees Wb Wb.heap.size (some ⟨w.heap.size, 0, none⟩) s.size s.data.toList ∧ ∀ j, j < s.size → Wb.frozen? ⟨w.heap.size, j, none⟩ = false := by
  have h := run_bytes_of_string (P := Try.prog) w 9 31 5 s Try.underlying9 Try.underlying31 Try.underlying5
  have hge := grownCap_ge w s.size 0 5
  generalize hc : grownCap w s.size 0 5 = cap at h hge
  have hbr : (bytesRow s cap).size = cap := by
    unfold bytesRow
    rw [Array.size_append, Array.size_map, Array.size_replicate]
    have : s.data.size = s.size := rfl
    omega
  rw [hbr] at h
  have hg : (w.drew.alloc (.cells (bytesRow s cap) 5 (cap, cap + 1))).heap[w.heap.size]? = some (.cells (bytesRow s cap) 5 (cap, cap + 1)) := heap_alloc_new w.drew _
  have hgl := (Array.getElem?_eq_some_iff.1 hg).1
  refine ⟨_, cap, h, hge, ((Below.refl w.heap.size w).drew).alloc (Nat.le_refl _) _, hgl, ⟨rfl, fun j u hj => ⟨_, rfl, hgl, ?_⟩⟩, fun j hj => ?_⟩
  · rw [Addr.add_lit, cell_of_row _ _ _ _ _ _ hg, Nat.zero_add]
    have hjs : j < s.data.size := (List.getElem?_eq_some_iff.1 hj).1
    have hu : s.data[j] = u := by
      have := (List.getElem?_eq_some_iff.1 hj).2
      simpa using this
    unfold bytesRow
    rw [Array.getElem?_append_left (by rw [Array.size_map]; exact hjs), Array.getElem?_map, Array.getElem?_eq_getElem hjs, hu]
    rfl
  · unfold World.frozen?
    have e : (w.drew.alloc (.cells (bytesRow s cap) 5 (cap, cap + 1))).heap[w.heap.size]? = some (.cells (bytesRow s cap) 5 (cap, cap + 1)) := hg
    rw [e]
    simp
    omega
/-- A byte in a row of bytes, written over. -/
theorem sees_set {w : World} {g n j : Nat} {l : List UInt8} (h : Sees w w.heap.size (some ⟨g, 0, none⟩) n l) (hj : j < n) (v : UInt8) : Sees (w.setCell ⟨g, j, none⟩ (.int .u8 (v.toNat : Int))) (w.setCell ⟨g, j, none⟩ (.int .u8 (v.toNat : Int))).heap.size (some ⟨g, 0, none⟩) n (l.set j v) := by
  have hs : (w.setCell ⟨g, j, none⟩ (.int .u8 (v.toNat : Int))).heap.size = w.heap.size := by simp
  refine ⟨by rw [List.length_set]; exact h.len, fun q u hq => ⟨_, rfl, ?_, ?_⟩⟩
  · obtain ⟨a, ha, hb, _⟩ := h.cell j (l[j]'(by rw [← h.len]; exact hj)) (List.getElem?_eq_getElem _)
    injection ha with ha
    rw [hs]
    subst ha
    exact hb
  · rw [Addr.add_lit, Nat.zero_add]
    by_cases hqj : j = q
    · subst hqj
      have e : u = v := by
        rw [List.getElem?_set_self (by rw [← h.len]; exact hj)] at hq
        injection hq with hq
        exact hq.symm
      obtain ⟨a, ha, hb, hc⟩ := h.cell j (l[j]'(by rw [← h.len]; exact hj)) (List.getElem?_eq_getElem _)
      injection ha with ha
      subst ha
      rw [Addr.add_lit, Nat.zero_add] at hc
      rw [e]
      exact World.cell?_setCell_same (a := ⟨g, j, none⟩) (v := .int .u8 (v.toNat : Int)) w hc
    · rw [List.getElem?_set_ne hqj] at hq
      obtain ⟨a, ha, hb, hc⟩ := h.cell q u hq
      injection ha with ha
      subst ha
      rw [Addr.add_lit, Nat.zero_add] at hc
      exact (World.cell?_setCell_other (a := ⟨g, j, none⟩) (b := ⟨g, q, none⟩) (v := .int .u8 (v.toNat : Int)) w (fun e => hqj (by injection e))).trans hc

/-- One of eleven texts. -/
theorem piece_at (m : Nat) (hm : m < 11) : ∃ y : ByteArray, y.size ≤ 4 ∧ ∀ W : World, (W.alloc (.cells #[.string ⟨#[47]⟩, .string ⟨#[34]⟩, .string ⟨#[92]⟩, .string ⟨#[92, 120, 52, 49]⟩, .string ⟨#[92, 120, 48, 97]⟩, .string ⟨#[92, 113]⟩, .string ⟨#[92, 120, 48, 65]⟩, .string ⟨#[47, 47]⟩, .string ⟨#[92, 34]⟩, .string ⟨#[47, 34, 34]⟩, .string ⟨#[32]⟩] 9)).cell? ⟨W.heap.size, m, none⟩ = some (.string y) := by
  have : m = 0 ∨ m = 1 ∨ m = 2 ∨ m = 3 ∨ m = 4 ∨ m = 5 ∨ m = 6 ∨ m = 7 ∨ m = 8 ∨ m = 9 ∨ m = 10 := by omega
  rcases this with rfl | rfl | rfl | rfl | rfl | rfl | rfl | rfl | rfl | rfl | rfl
  · exact ⟨⟨#[47]⟩, by decide, fun W => by rw [cell_of_row _ _ _ _ _ _ (heap_alloc_new W _)]; rfl⟩
  · exact ⟨⟨#[34]⟩, by decide, fun W => by rw [cell_of_row _ _ _ _ _ _ (heap_alloc_new W _)]; rfl⟩
  · exact ⟨⟨#[92]⟩, by decide, fun W => by rw [cell_of_row _ _ _ _ _ _ (heap_alloc_new W _)]; rfl⟩
  · exact ⟨⟨#[92, 120, 52, 49]⟩, by decide, fun W => by rw [cell_of_row _ _ _ _ _ _ (heap_alloc_new W _)]; rfl⟩
  · exact ⟨⟨#[92, 120, 48, 97]⟩, by decide, fun W => by rw [cell_of_row _ _ _ _ _ _ (heap_alloc_new W _)]; rfl⟩
  · exact ⟨⟨#[92, 113]⟩, by decide, fun W => by rw [cell_of_row _ _ _ _ _ _ (heap_alloc_new W _)]; rfl⟩
  · exact ⟨⟨#[92, 120, 48, 65]⟩, by decide, fun W => by rw [cell_of_row _ _ _ _ _ _ (heap_alloc_new W _)]; rfl⟩
  · exact ⟨⟨#[47, 47]⟩, by decide, fun W => by rw [cell_of_row _ _ _ _ _ _ (heap_alloc_new W _)]; rfl⟩
  · exact ⟨⟨#[92, 34]⟩, by decide, fun W => by rw [cell_of_row _ _ _ _ _ _ (heap_alloc_new W _)]; rfl⟩
  · exact ⟨⟨#[47, 34, 34]⟩, by decide, fun W => by rw [cell_of_row _ _ _ _ _ _ (heap_alloc_new W _)]; rfl⟩
  · exact ⟨⟨#[32]⟩, by decide, fun W => by rw [cell_of_row _ _ _ _ _ _ (heap_alloc_new W _)]; rfl⟩

set_option maxHeartbeats 4000000 in
theorem reads_walk (p : List ByteArray) (a by_ wd : Int) (raw : ByteArray) (A : Option Addr) (n c : Nat) (w : World) (h : SeesV w w.heap.size A n (p.map Value.string)) (hc : n ≤ c) (hm : c ≤ maxLen) (ha : (Lit.int .i64 a).wf = true) (_ : (Lit.int .u8 by_).wf = true) (hw : (Lit.int .i64 wd).wf = true) :
    Calls Try.prog 4 #[.slice A n c, .int .i64 a, .int .u8 by_, .int .i64 wd, .string raw] w fun e w' => e = .returned (.bool true) ∧ Below w.heap.size w w' := by
  have HK := Lib.hid (known_any w)
  have Hs := Lib.hid h
  have Hm := Lib.hid (Nat.le_trans hc hm)
  clear h hc hm
  go_enter Try.func4, Try.ntmps4
  go_wp2_with fail
  (with_reducible refine HK.out.mono ?_)
  rintro e w1 ⟨rfl, hb1⟩
  have HB1 := Lib.hid hb1
  have HF := Lib.hid (few_any p A n c w.heap.size w1 (Hs.out.below hb1) Hm.out)
  clear hb1
  go_wp2_with fail
  (with_reducible refine HF.out.mono ?_)
  rintro e w2 ⟨⟨v, rfl, hv⟩, rfl⟩
  cases v with
  | false =>
    clear hv
    go_wp2_with fail
    go_ret
    exact ⟨rfl, HB1.out⟩
  | true =>
    obtain ⟨hv1, hv2⟩ := hv rfl
    have hbk := bulk_few hv1 hv2
    clear hv hv1 hv2
    by_cases h200 : raw.size ≤ 200
    · have h200' : ¬ ((200 : Int) < (raw.size : Int)) := by omega
      have hpl := pathL_len p
      have HR := Lib.hid (rpath_any p A n c w.heap.size w2 (Hs.out.below HB1.out) (by omega))
      obtain ⟨X, hX⟩ : ∃ X : ByteArray, X = mkB (pathL p) := ⟨_, rfl⟩
      rw [← hX] at HR
      have hXs : X.size ≤ 2929 := by rw [hX, size_mk]; omega
      have hXp : 1 ≤ X.size := by
        rw [hX, size_mk]
        cases p with
        | nil => exact Nat.le_refl _
        | cons x p => rw [pathL_ne (by simp), pathT_cons]; simp
      obtain ⟨k, hk⟩ : ∃ k : Nat, a % ((X.size : Int) + 1) = (k : Int) := ⟨(a % ((X.size : Int) + 1)).toNat, by have := Int.emod_nonneg a (show (X.size : Int) + 1 ≠ 0 by omega); omega⟩
      have hkX : k ≤ X.size := by have := Int.emod_lt_of_pos a (show (0 : Int) < (X.size : Int) + 1 by omega); omega
      obtain ⟨j, hj⟩ : ∃ j : Nat, a % (X.size : Int) = (j : Int) := ⟨(a % (X.size : Int)).toNat, by have := Int.emod_nonneg a (show (X.size : Int) ≠ 0 by omega); omega⟩
      have hjX : j < X.size := by have := Int.emod_lt_of_pos a (show (0 : Int) < (X.size : Int) by omega); omega
      obtain ⟨m, hm⟩ : ∃ m : Nat, wd % 11 = (m : Int) := ⟨(wd % 11).toNat, by omega⟩
      have hm11 : m < 11 := by omega
      have HW1 := Lib.hid (fun W => within14_any a ((X.size : Int) + 1) (by omega) (by omega) ha W)
      have HW2 := Lib.hid (fun W => within14_any a (X.size : Int) (by omega) (by omega) ha W)
      have HW3 := Lib.hid (fun W => within14_any wd 11 (by omega) (by omega) hw W)
      rw [hk] at HW1
      rw [hj] at HW2
      rw [hm] at HW3
      clear hX hk hj hm hpl hbk h200
      go_wp2_with fail
      (with_reducible refine HR.out.mono ?_)
      rintro e w3 ⟨rfl, hq⟩
      have HB3 := Lib.hid (show Below w.heap.size w w3 from HB1.out.trans (below_dn hq))
      clear hq
      go_wp2_with fail
      (with_reducible refine (HW1.out _).mono ?_)
      rintro e _ ⟨rfl, rfl⟩
      obtain ⟨Wb, cap, hcv, hcap, hbb, hbl, hsee, hfz⟩ := conv_bytes X w3
      have HBb := Lib.hid (HB3.out.trans (hbb.mono HB3.out.size))
      have HSee := Lib.hid hsee
      have HFz := Lib.hid hfz
      have Hbl := Lib.hid hbl
      clear hbb hsee hfz hbl
      go_wp2_with fail
      (with_reducible refine (HW2.out _).mono ?_)
      rintro e _ ⟨rfl, rfl⟩
      obtain ⟨aj, haj, hajb, hcj⟩ := HSee.out.at_ hjX
      injection haj with haj
      subst haj
      rw [Addr.add_lit, Nat.zero_add] at hcj
      obtain ⟨u8, hu8⟩ : ∃ u8 : UInt8, u8 = X.data.toList.getD j 0 := ⟨_, rfl⟩
      rw [← hu8] at hcj
      have hfj := HFz.out j hjX
      have hj0 : (0 : Int) ≤ (j : Int) := by omega
      have hjXi : (j : Int) < (X.size : Int) := by omega
      have HBl := Lib.hid (hajb : w3.heap.size < Wb.heap.size)
      clear hajb hu8
      go_upto_region 9 with (fail)
      obtain ⟨xn, hxn⟩ : ∃ xn : UInt8, ((u8.toNat : Int) + by_) % 256 = (xn.toNat : Int) := ⟨UInt8.ofNat (((u8.toNat : Int) + by_) % 256).toNat, by rw [UInt8.toNat_ofNat']; omega⟩
      rw [hxn]
      have hse9 := sees_set HSee.out hjX xn
      have hB9 := HBb.out.setCell (p := ⟨w3.heap.size, j, none⟩) HB3.out.size (.int .u8 (xn.toNat : Int))
      obtain ⟨W9, hW9⟩ : ∃ W, W = Wb.setCell ⟨w3.heap.size, j, none⟩ (.int .u8 (xn.toNat : Int)) := ⟨_, rfl⟩
      rw [← hW9] at hse9 hB9 ⊢
      have HSe9 := Lib.hid hse9
      have HB9 := Lib.hid hB9
      clear hcj hfj hse9 hB9 hW9 hcv hxn
      obtain ⟨y, hy4, hyc⟩ := piece_at m hm11
      have hyc9 := hyc W9
      have hm0 : (0 : Int) ≤ (m : Int) := by omega
      have hm11i : (m : Int) < 11 := by omega
      go_wp2_with fail
      (with_reducible refine (HW3.out _).mono ?_)
      rintro e _ ⟨rfl, rfl⟩
      go_upto_region 10 with (fail)
      have hB10 := HB9.out.alloc HB9.out.size (.cells #[.string ⟨#[47]⟩, .string ⟨#[34]⟩, .string ⟨#[92]⟩, .string ⟨#[92, 120, 52, 49]⟩, .string ⟨#[92, 120, 48, 97]⟩, .string ⟨#[92, 113]⟩, .string ⟨#[92, 120, 48, 65]⟩, .string ⟨#[47, 47]⟩, .string ⟨#[92, 34]⟩, .string ⟨#[47, 34, 34]⟩, .string ⟨#[32]⟩] 9)
      have hse10 := HSe9.out.alloc (Nat.le_refl _) (.cells #[.string ⟨#[47]⟩, .string ⟨#[34]⟩, .string ⟨#[92]⟩, .string ⟨#[92, 120, 52, 49]⟩, .string ⟨#[92, 120, 48, 97]⟩, .string ⟨#[92, 113]⟩, .string ⟨#[92, 120, 48, 65]⟩, .string ⟨#[47, 47]⟩, .string ⟨#[92, 34]⟩, .string ⟨#[47, 34, 34]⟩, .string ⟨#[32]⟩] 9)
      obtain ⟨W10, hW10⟩ : ∃ W, W = W9.alloc (.cells #[.string ⟨#[47]⟩, .string ⟨#[34]⟩, .string ⟨#[92]⟩, .string ⟨#[92, 120, 52, 49]⟩, .string ⟨#[92, 120, 48, 97]⟩, .string ⟨#[92, 113]⟩, .string ⟨#[92, 120, 48, 65]⟩, .string ⟨#[47, 47]⟩, .string ⟨#[92, 34]⟩, .string ⟨#[47, 34, 34]⟩, .string ⟨#[32]⟩] 9) := ⟨_, rfl⟩
      rw [← hW10] at hB10 hse10 ⊢
      have HB10 := Lib.hid hB10
      have hcv := fun (W : World) (hW : W = W10 ∨ W = W10.drew) => (show (convert 31 9 (.slice (some ⟨w3.heap.size, 0, none⟩) X.size cap)).run Try.prog W = .ok (.string (mkB (X.data.toList.set j xn))) W from by
        rcases hW with rfl | rfl
        · exact run_text 31 9 5 Try.underlying31 Try.underlying5 Try.underlying9 (c := cap) hse10
        · exact run_text 31 9 5 Try.underlying31 Try.underlying5 Try.underlying9 (c := cap) hse10.drew)
      obtain ⟨T1, hT1⟩ : ∃ T, T = mkB (X.data.toList.set j xn) := ⟨_, rfl⟩
      have z1 : T1.size ≤ 2929 := by rw [hT1, size_mk, List.length_set, Array.length_toList]; exact hXs
      rw [← hT1] at hcv
      have hcv1 := hcv W10 (.inl rfl)
      have hcv2 := hcv W10.drew (.inr rfl)
      have hk0 : (0 : Int) ≤ (k : Int) := by omega
      have hkXi : (k : Int) ≤ (X.size : Int) := by omega
      obtain ⟨T2, hT2⟩ : ∃ T, T = X.extract 0 k := ⟨_, rfl⟩
      have z2 : T2.size ≤ 2929 := by rw [hT2, ByteArray.size_extract]; omega
      obtain ⟨T6, hT6⟩ : ∃ T, T = X.extract k X.size := ⟨_, rfl⟩
      have z6 : T6.size ≤ 2929 := by rw [hT6, ByteArray.size_extract]; omega
      have hsl1 : ∀ W, (Instr.slice 9 (.string X) none (some (.int .i64 (k : Int))) none).run Try.prog W = .ok (.string T2) W := by
        intro W
        have := run_slice_string_h (P := Try.prog) W 9 X rfl .i64 (k : Int) hk0 hkXi
        rw [this, hT2, Int.toNat_natCast]
      have hsl2 : ∀ W, (Instr.slice 9 (.string X) (some (.int .i64 (k : Int))) none none).run Try.prog W = .ok (.string T6) W := by
        intro W
        have := run_slice_string_l (P := Try.prog) W 9 X rfl .i64 (k : Int) hk0 hkXi
        rw [this, hT6, Int.toNat_natCast]
      have hadd1 := fun W => run_string_add_sum (P := Try.prog) W T2 y (by omega)
      obtain ⟨T7, hT7⟩ : ∃ T, T = T2 ++ y := ⟨_, rfl⟩
      rw [← hT7] at hadd1
      have z7 : T7.size ≤ 2933 := by rw [hT7, ByteArray.size_append]; omega
      have hadd2 := fun W => run_string_add_sum (P := Try.prog) W T7 T6 (by omega)
      obtain ⟨T3, hT3⟩ : ∃ T, T = T7 ++ T6 := ⟨_, rfl⟩
      rw [← hT3] at hadd2
      have z3 : T3.size ≤ 5862 := by rw [hT3, ByteArray.size_append]; omega
      have hadd3 := fun W => run_string_add_sum (P := Try.prog) W ⟨#[47, 34]⟩ raw (by have : (ByteArray.mk #[47, 34]).size = 2 := rfl; omega)
      obtain ⟨T8, hT8⟩ : ∃ T, T = (⟨#[47, 34]⟩ : ByteArray) ++ raw := ⟨_, rfl⟩
      rw [← hT8] at hadd3
      have z8 : T8.size ≤ 202 := by rw [hT8, ByteArray.size_append]; have : (ByteArray.mk #[47, 34]).size = 2 := rfl; omega
      have hadd4 := fun W => run_string_add_sum (P := Try.prog) W T8 ⟨#[34]⟩ (by have : (ByteArray.mk #[34]).size = 1 := rfl; omega)
      obtain ⟨T5, hT5⟩ : ∃ T, T = T8 ++ ⟨#[34]⟩ := ⟨_, rfl⟩
      rw [← hT5] at hadd4
      have z5 : T5.size ≤ 203 := by rw [hT5, ByteArray.size_append]; have : (ByteArray.mk #[34]).size = 1 := rfl; omega
      have HZ := Lib.hid (show T1.size ≤ 10000 ∧ T2.size ≤ 10000 ∧ T3.size ≤ 10000 ∧ raw.size ≤ 10000 ∧ T5.size ≤ 10000 ∧ y.size ≤ 10000 by omega)
      clear hcv hse10 hB10 hW10 hT1 hT2 hT6 hT7 hT3 hT8 hT5 z1 z2 z6 z7 z3 z8 z5 hyc hyc9
      go_still_tail 19, (by kernel_rfl)
      change wpList _ _ _ _ _ W10.drew
      have HBc0 := Lib.hid HB10.out.drew
      have HBc : Hid (Below w.heap.size w W10.drew) := HBc0
      clear hcv1 hcv2
      generalize W10.drew = Wc at HBc ⊢
      obtain ⟨TL, hTL⟩ : ∃ TL : List ByteArray, TL = [T1, T2, T3, raw, T5, y, ⟨#[]⟩] := ⟨_, rfl⟩
      have hTz : ∀ t ∈ TL, t.size ≤ 10000 := by
        obtain ⟨y1, y2, y3, y4, y5, y6⟩ := HZ.out
        intro t ht
        rw [hTL] at ht
        simp only [List.mem_cons, List.not_mem_nil, or_false] at ht
        rcases ht with rfl | rfl | rfl | rfl | rfl | rfl | rfl
        · exact y1
        · exact y2
        · exact y3
        · exact y4
        · exact y5
        · exact y6
        · exact Nat.zero_le _
      have hTn : TL.length = 7 := by rw [hTL]; rfl
      have hBd := HBc.out.alloc HBc.out.size (.cells #[.string T1, .string T2, .string T3, .string raw, .string T5, .string y, .string ⟨#[]⟩] 9)
      have hSd : SeesV (Wc.alloc (.cells #[.string T1, .string T2, .string T3, .string raw, .string T5, .string y, .string ⟨#[]⟩] 9)) (Wc.heap.size + 1) (some ⟨Wc.heap.size, 0, none⟩) 7 (TL.map Value.string) := by
        refine ⟨by rw [List.length_map, hTn], fun j u hu => ⟨Wc.heap.size, 0, rfl, Nat.lt_succ_self _, ?_⟩⟩
        rw [Nat.zero_add, cell_of_row _ _ _ _ _ _ (heap_alloc_new Wc _), ← hu, hTL]
        simp
      obtain ⟨Wd, hWd⟩ : ∃ W, W = Wc.alloc (.cells #[.string T1, .string T2, .string T3, .string raw, .string T5, .string y, .string ⟨#[]⟩] 9) := ⟨_, rfl⟩
      have hzd : Wc.heap.size + 1 = Wd.heap.size := by rw [hWd]; simp
      rw [← hWd, hzd] at hSd
      rw [← hWd] at hBd
      have HSd := Lib.hid hSd
      have HBd := Lib.hid hBd
      have HTz := Lib.hid hTz
      have HTn := Lib.hid hTn
      have HWd := Lib.hid hWd
      clear hSd hBd hTz hTn hWd hTL hzd
      go_wp2_with fail
      rw [← HWd.out]
      go_loopw [16] (fun i wr => ∃ q : Nat, q ≤ 7 ∧ i = .int .i64 q ∧ Hid (Below Wd.heap.size Wd wr)) (fun i _ => 7 - (intOf i).toNat)
      case atStart => exact ⟨0, Nat.zero_le _, rfl, Lib.hid (Below.refl _ _)⟩
      case round =>
        obtain ⟨q, hq7, rfl, HW⟩ := hrel
        have hbw : Below w.heap.size w wr := HBd.out.trans (HW.out.mono HBd.out.size)
        by_cases hlt : q < 7
        · obtain ⟨t, b, o, ht, hA, hbl, hct⟩ := strs_at (HSd.out.below HW.out) hlt
          injection hA with hA
          injection hA with hA1 hA2
          subst hA1
          subst hA2
          rw [Nat.zero_add] at hct
          have htz := HTz.out t (List.mem_of_getElem? ht)
          have q0 : (0 : Int) ≤ (q : Int) := by omega
          have q1 : (q : Int) < 7 := by omega
          have HP := Lib.hid (parse_any t wr (by omega))
          have HR := Lib.hid (fun (W : World) => rparse_any t W (by omega))
          have hbw2 : Wc.heap.size < wr.heap.size := by have := HW.out.size; omega
          have HBw := Lib.hid hbw
          have HBl := Lib.hid hbl
          clear ht htz hbw
          go_wp2_with fail
          (with_reducible refine HP.out.mono ?_)
          rintro e w4 ⟨A4, n4, c4, x4, er, rfl, hs4, hc4, hans, hbq, hb4⟩
          have hct4 := (hb4.cell (p := ⟨Wc.heap.size, q, none⟩) hbw2).trans hct
          have HB4 := Lib.hid (HBw.out.trans (hb4.mono HBw.out.size))
          have HD4 := Lib.hid (HW.out.trans (hb4.mono HW.out.size))
          have HS4 := Lib.hid hs4
          have HA4 := Lib.hid hans
          have HQ4 := Lib.hid hbq
          have hw4l : Wc.heap.size < w4.heap.size := by have := hb4.size; omega
          have hr4 := HR.out w4
          have HR4 := Lib.hid hr4
          clear hb4 hs4 hans hbq hr4
          go_wp2_with fail
          (with_reducible refine HR4.out.mono ?_)
          rintro e w5 ⟨A5, n5, c5, x5, er5, rfl, hs5, hc5, hans, hbq, hb5⟩
          obtain ⟨hxx, hee⟩ := HA4.out.same hans
          subst hxx
          subst hee
          have hct5 := (hb5.cell (p := ⟨Wc.heap.size, q, none⟩) hw4l).trans hct4
          have HB5 := Lib.hid (HB4.out.trans (hb5.mono HB4.out.size))
          have HD5 := Lib.hid (HD4.out.trans (hb5.mono HD4.out.size))
          have hn4 : n4 ≤ 4000 := by
            have h1 := HS4.out.len
            rw [List.length_map] at h1
            have h2 := len_bulk x4
            have h3 := HQ4.out
            omega
          have HSm0 : Hid (∀ W, Below w5.heap.size w5 W → Calls Try.prog 13 #[.slice A4 n4 c4, .slice A5 n5 c5] W fun e w' => e = .returned (.bool true) ∧ ∃ q, w' = W.drewN q) := Lib.hid fun W hW => by
            have h := same_any x4 x4 A4 A5 n4 c4 n5 c5 w5.heap.size W ((seesV_more (HS4.out.below hb5) hb5.size).below hW) (hs5.below hW) (by omega)
            rw [decide_eq_true (rfl : x4 = x4)] at h
            exact h
          have HPa := Lib.hid (fun (W : World) (hW : Below w5.heap.size w5 W) => path_any x4 A4 n4 c4 w5.heap.size W hW.size ((seesV_more (HS4.out.below hb5) hb5.size).below hW) (by have := HQ4.out; omega))
          have hw5l : Wc.heap.size < w5.heap.size := by have := hb5.size; omega
          have hene : (er != er) = false := by simp
          clear hb5 hs5 hans hbq
          by_cases he0 : er = 0
          · subst he0
            have HPt : Hid (∀ W, Below w5.heap.size w5 W → Calls Try.prog 10 #[.slice A4 n4 c4] W fun e w' => e = .returned (.string t) ∧ Below W.heap.size W w') := Lib.hid fun W hW => by
              have h := HPa.out W hW
              have e : pathL x4 = t.data.toList := by
                rcases HA4.out with ⟨_, _, h3⟩ | ⟨_, ⟨h2, _⟩ | ⟨_, h3, _⟩⟩
                · cases h3
                · exact h2
                · cases h3
              rw [show mkB (pathL x4) = t from ba_eq e] at h
              exact h
            have htt : (t.toList == t.toList) = true := beq_self_eq_true _
            have hr5 := Below.refl w5.heap.size w5
            have hct5d : w5.drew.cell? ⟨Wc.heap.size, q, none⟩ = some (.string t) := hct5
            go_upto_region 16 with (fail)
            go_region_held3 (fun W => W.cell? ⟨Wc.heap.size, q, none⟩ = some (.string t)) (first | with_reducible exact hct5 | with_reducible exact hct5d | with_reducible exact hct6 | with_reducible exact hct7)
              (first
                | (go_at_call 13; (with_reducible refine (HSm0.out _ (by first | exact hr5.drew | exact hr5)).mono ?_); rintro e w6 ⟨rfl, hw6⟩; have hb6 : Below w5.heap.size w5 w6 := (by first | exact hr5.drew.trans (below_dn hw6) | exact below_dn hw6); have hct6 := (hb6.cell (p := ⟨Wc.heap.size, q, none⟩) hw5l).trans hct5)
                | (go_at_call 10; (with_reducible refine (HPt.out _ hb6).mono ?_); rintro e w7 ⟨rfl, hb7⟩; have hb7' : Below w5.heap.size w5 w7 := hb6.trans (hb7.mono hb6.size); have hct7 := (hb7'.cell (p := ⟨Wc.heap.size, q, none⟩) hw5l).trans hct5))
            all_goals
              go_wp2_with fail
              go_roundw
              case rel => exact ⟨q + 1, by omega, by go_num, Lib.hid (HD5.out.trans (hb7'.mono HD5.out.size))⟩
              case measure => simp [intOf]; omega
          · have he5 : er = 5 ∨ er = 10 := by
              rcases HA4.out with ⟨_, _, h3⟩ | ⟨_, ⟨_, h3⟩ | ⟨_, h3, _⟩⟩
              · exact .inl h3
              · exact absurd h3 he0
              · exact .inr h3
            clear he0
            rcases he5 with rfl | rfl
            all_goals
              have HD6 := Lib.hid (fun (d : Nat) => (below_drewN HD5.out d : Below Wd.heap.size Wd (w5.drewN d)))
              have HSq : Hid (∀ d, Calls Try.prog 13 #[.slice A4 n4 c4, .slice A5 n5 c5] (w5.drewN d) fun e w' => e = .returned (.bool true) ∧ ∃ q, w' = (w5.drewN d).drewN q) := Lib.hid fun d => HSm0.out _ (below_drewN (Below.refl _ _) d)
              go_upto_region 16 with (fail)
              go_quiet ((go_at_call 13; with_reducible exact Calls.quiet_of (HSq.out _)))
              go_wp2_with fail
              go_roundw
              case rel => exact ⟨q + 1, by omega, by go_num, Lib.hid (HD6.out _)⟩
              case measure => simp [intOf]; omega
        · obtain rfl : q = 7 := by omega
          clear hlt
          go_wp2_with fail
          go_ret
          exact ⟨rfl, hbw⟩
    · have h200' : (200 : Int) < (raw.size : Int) := by omega
      clear h200
      go_wp2_with fail
      go_ret
      exact ⟨rfl, HB1.out⟩
end Go.Proofs.Ytclgemkdlgpekaa.Re
