/- IniNames' walk. Conditions: MaxLen's cell. -/
import Derived.Test.YtgefoehpdiiomaaGreatDoorIniWrW
namespace Go.Proofs.YtgefoehpdiiomaaGreatDoor.In
open Go.RowKit Go.Proofs.YtgefoehpdiiomaaGreatDoor.Jd Go.Proofs.YtgefoehpdiiomaaGreatDoor.Li Go.Proofs.YtgefoehpdiiomaaGreatDoor.Cl Go.Proofs.YtgefoehpdiiomaaGreatDoor.Cv
set_option maxRecDepth 100000
attribute [local go_sem ↓] Go.wp_at_zero Go.wp_at_succ

def z81 : ByteArray := ⟨(List.replicate 81 (0 : UInt8)).toArray⟩
def Z81 : Array Value := Array.replicate 81 (.int .u8 0)
theorem make81 (W : World) : (Instr.makeSlice 26 (.int .i64 81) (.int .i64 81)).run Tryz.prog W = .ok (.slice (some ⟨W.heap.size, 0, none⟩) 81 81) (W.alloc (.cells Z81 5)) := by
  obtain ⟨i, hi, hz, hs, hb⟩ := info_parts info_u8
  have h := run_make (P := Tryz.prog) W 26 5 i (.int .u8 0) Tryz.underlying26 hi hz .i64 .i64 81 81 (by decide) (by decide) (by rw [hb]; decide) (by decide)
  rw [hs] at h
  rw [h]
  have e : madeCells (Value.int .u8 0).cells ((81 : Int).toNat * 1) = Z81 := by
    apply Array.ext
    · simp [madeCells, Z81]
    · intro i h1 h2
      simp [madeCells, Z81, Value.cells, Nat.mod_one]
  rw [e]
  rfl
theorem conv81 (W : World) (g : Nat) (h : W.heap[g]? = some (.cells Z81 5 (0, 0))) : (convert 26 9 (.slice (some ⟨g, 0, none⟩) 81 81)).run Tryz.prog W = .ok (.string z81) W := by
  have h2 := run_convert_bytes_back (P := Tryz.prog) W 26 9 5 ⟨g, 0, none⟩ 81 (List.replicate 81 (0 : UInt8)) Tryz.underlying26 Tryz.underlying5 Tryz.underlying9 (fun j hj => by
    rw [List.getElem_replicate]
    rw [List.length_replicate] at hj
    rw [Addr.add_lit, cell_of_row _ _ _ _ _ _ h, Nat.zero_add, Z81, Array.getElem?_replicate, if_pos hj]
    rfl)
  rw [List.length_replicate] at h2
  exact h2
def nBad : Array Value := #[.string ⟨#[]⟩, .string ⟨#[32, 97]⟩, .string ⟨#[97, 9]⟩, .string ⟨#[97, 10, 98]⟩, .string ⟨#[13]⟩, .string z81, .string ⟨#[91, 97]⟩, .string ⟨#[35, 97]⟩, .string ⟨#[59]⟩, .string ⟨#[97, 61, 98]⟩]
def nVs : Array Value := #[.string ⟨#[32, 97]⟩, .string ⟨#[97, 32]⟩, .string ⟨#[97, 10, 98]⟩, .string ⟨#[13]⟩, .string ⟨#[91, 97, 93]⟩, .string ⟨#[]⟩, .string ⟨#[97, 61, 98, 59, 99]⟩]
abbrev ok : ByteArray := ⟨#[111, 107]⟩
abbrev kT (k v : ByteArray) : Tr := .cons k (.cons v .nil .nil) .nil
theorem bad10 (k : Nat) (hk : k < 10) : ∃ b : ByteArray, b.size ≤ 81 ∧ nBad[k]? = some (.string b) ∧ fitsM (.cons ok (kT b ⟨#[118]⟩) .nil) = (if k = 5 then 5 else 13) ∧ fitsM (.cons b (kT ⟨#[107]⟩ ⟨#[118]⟩) .nil) = (if k = 5 then 5 else if 7 ≤ k then 0 else 13) := by
  match k, hk with
  | 0, _ => exact ⟨⟨#[]⟩, by decide, rfl, by decide +kernel, by decide +kernel⟩
  | 1, _ => exact ⟨⟨#[32, 97]⟩, by decide, rfl, by decide +kernel, by decide +kernel⟩
  | 2, _ => exact ⟨⟨#[97, 9]⟩, by decide, rfl, by decide +kernel, by decide +kernel⟩
  | 3, _ => exact ⟨⟨#[97, 10, 98]⟩, by decide, rfl, by decide +kernel, by decide +kernel⟩
  | 4, _ => exact ⟨⟨#[13]⟩, by decide, rfl, by decide +kernel, by decide +kernel⟩
  | 5, _ => exact ⟨z81, by decide, rfl, by decide +kernel, by decide +kernel⟩
  | 6, _ => exact ⟨⟨#[91, 97]⟩, by decide, rfl, by decide +kernel, by decide +kernel⟩
  | 7, _ => exact ⟨⟨#[35, 97]⟩, by decide, rfl, by decide +kernel, by decide +kernel⟩
  | 8, _ => exact ⟨⟨#[59]⟩, by decide, rfl, by decide +kernel, by decide +kernel⟩
  | 9, _ => exact ⟨⟨#[97, 61, 98]⟩, by decide, rfl, by decide +kernel, by decide +kernel⟩
  | k + 10, hk => exact absurd hk (by omega)
theorem vs7 (k : Nat) (hk : k < 7) : ∃ b : ByteArray, b.size ≤ 81 ∧ nVs[k]? = some (.string b) ∧ fitsM (.cons ok (kT ⟨#[107]⟩ b) .nil) = (if 3 < k then 0 else 13) := by
  match k, hk with
  | 0, _ => exact ⟨⟨#[32, 97]⟩, by decide, rfl, by decide +kernel⟩
  | 1, _ => exact ⟨⟨#[97, 32]⟩, by decide, rfl, by decide +kernel⟩
  | 2, _ => exact ⟨⟨#[97, 10, 98]⟩, by decide, rfl, by decide +kernel⟩
  | 3, _ => exact ⟨⟨#[13]⟩, by decide, rfl, by decide +kernel⟩
  | 4, _ => exact ⟨⟨#[91, 97, 93]⟩, by decide, rfl, by decide +kernel⟩
  | 5, _ => exact ⟨⟨#[]⟩, by decide, rfl, by decide +kernel⟩
  | 6, _ => exact ⟨⟨#[97, 61, 98, 59, 99]⟩, by decide, rfl, by decide +kernel⟩
  | k + 7, hk => exact absurd hk (by omega)
/-- keyOf answers a tree. -/
theorem keyOf_holds (k v : ByteArray) (w : World) : Calls Tryz.prog 29 #[.string k, .string v] w fun e w' => ∃ g, e = .returned (.slice (some ⟨g, 0, none⟩) 1 1) ∧ Holds w' w'.heap.size (some ⟨g, 0, none⟩) 1 (kT k v) ∧ Below w.heap.size w w' := by
  refine (keyOf_laid k v w).mono ?_
  rintro e w' ⟨rfl, rfl⟩
  have h1 := allocs_get [.cells #[.string v, .slice none 0 0] 59, .cells #[.string k, .slice (some ⟨w.heap.size, 0, none⟩) 1 1] 59] w
  have hb := allocs_below [.cells #[.string v, .slice none 0 0] 59, .cells #[.string k, .slice (some ⟨w.heap.size, 0, none⟩) 1 1] 59] w
  refine ⟨w.heap.size + 1, rfl, ?_, hb⟩
  exact holds_one (h1 1 _ rfl) (by simp) (Nat.le_refl _) (by simp [maxLen]) (holds_one (h1 0 _ rfl) (by simp; omega) (Nat.le_refl _) (by simp [maxLen]) rfl)
/-- An edge above a tree. -/
theorem edge_holds {W : World} {g : Nat} {s : ByteArray} {k : Tr} (h : Holds W W.heap.size (some ⟨g, 0, none⟩) 1 k) : Holds (eb W s (some ⟨g, 0, none⟩) 1 1) (eb W s (some ⟨g, 0, none⟩) 1 1).heap.size (some ⟨W.heap.size, 0, none⟩) 1 (.cons s k .nil) := by
  have hb : Below W.heap.size W (eb W s (some ⟨g, 0, none⟩) 1 1) := (Below.refl _ _).alloc (Nat.le_refl _) _
  exact holds_one (heap_alloc_new W _) (by simp) (Nat.le_refl _) (by simp [maxLen]) ((h.below hb).more hb.size)
theorem nm_two {a b c : ByteArray} (ha : a.size ≤ 81) (hb : b.size ≤ 81) (hc : c.size ≤ 81) : Tr.Nm (.cons a (kT b c) .nil) := ⟨by omega, ⟨by omega, ⟨by omega, trivial, trivial⟩, trivial⟩, trivial⟩

set_option maxHeartbeats 16000000 in
theorem names_walk (a : Int) (sec : Bool) (b : Int) (w : World) (ha : -9223372036854775808 ≤ a ∧ a ≤ 9223372036854775807) (hb : -9223372036854775808 ≤ b ∧ b ≤ 9223372036854775807) (hG : Gl w) :
    Calls Tryz.prog 9 #[.int .i64 a, .bool sec, .int .i64 b] w fun e w' => e = .returned (.bool true) ∧ Below w.heap.size w w' := by
  have HK := Lib.hid (known_any w hG)
  obtain ⟨k, hk, HJ'⟩ := within_nat a 10 (by omega) (by omega) ha
  have HJ0 : Hid (∀ w, Calls Tryz.prog 13 #[.int .i64 a, .int .i64 10] w fun e w' => e = .returned (.int .i64 k) ∧ w = w') := Lib.hid HJ'
  obtain ⟨j, hj, HJ''⟩ := within_nat b 7 (by omega) (by omega) hb
  have HJ1 : Hid (∀ w, Calls Tryz.prog 13 #[.int .i64 b, .int .i64 7] w fun e w' => e = .returned (.int .i64 j) ∧ w = w') := Lib.hid HJ''
  obtain ⟨bk, hbs, hbk, hf1, hf2⟩ := bad10 k hk
  obtain ⟨vj, hvs, hvj, hf3⟩ := vs7 j hj
  have HKe := Lib.hid (fun (k v : ByteArray) (w : World) => keyOf_holds k v w)
  have H1 := Lib.hid hf1
  have H2 := Lib.hid hf2
  have H3 := Lib.hid hf3
  have hmk := fun W => make81 W
  have hcv := fun (W : World) => conv81 (W.alloc (.cells Z81 5)) W.heap.size (heap_alloc_new W _)
  obtain ⟨z, hz⟩ : ∃ z, z = z81 := ⟨_, rfl⟩
  obtain ⟨ZZ, hZZ⟩ : ∃ ZZ, ZZ = Z81 := ⟨_, rfl⟩
  rw [← hZZ] at hmk
  rw [← hz, ← hZZ] at hcv
  have hbad : nBad = #[.string ⟨#[]⟩, .string ⟨#[32, 97]⟩, .string ⟨#[97, 9]⟩, .string ⟨#[97, 10, 98]⟩, .string ⟨#[13]⟩, .string z, .string ⟨#[91, 97]⟩, .string ⟨#[35, 97]⟩, .string ⟨#[59]⟩, .string ⟨#[97, 61, 98]⟩] := by rw [hz]; rfl
  have b1 : (0 : Int) ≤ (k : Int) := by omega
  have b2 : (k : Int) < 10 := by omega
  have b3 : (0 : Int) ≤ (j : Int) := by omega
  have b4 : (j : Int) < 7 := by omega
  rw [hbad] at hbk
  have Hbk := Lib.hid hbk
  have Hvj := Lib.hid hvj
  clear HJ' HJ'' hG hz hZZ hbad hbk hvj hf1 hf2 hf3 ha hb
  go_enter Tryz.func9, Tryz.ntmps9
  go_upto_region 3 with (go_at_call 11; (with_reducible refine HK.out.mono ?_); rintro e w1 ⟨rfl, hb1⟩)
  go_upto_region 4 with (fail)
  obtain ⟨V2, hV2⟩ : ∃ W, W = (w1.alloc (Obj.cells ZZ 5)).alloc (Obj.cells #[.string ⟨#[]⟩, .string ⟨#[32, 97]⟩, .string ⟨#[97, 9]⟩, .string ⟨#[97, 10, 98]⟩, .string ⟨#[13]⟩, .string z, .string ⟨#[91, 97]⟩, .string ⟨#[35, 97]⟩, .string ⟨#[59]⟩, .string ⟨#[97, 61, 98]⟩] 9) := ⟨_, rfl⟩
  have hbV : Below w1.heap.size w1 V2 := by rw [hV2]; exact ((Below.refl _ _).alloc (Nat.le_refl _) _).alloc (by simp) _
  have hgV : V2.heap[w1.heap.size + 1]? = some (Obj.cells #[.string ⟨#[]⟩, .string ⟨#[32, 97]⟩, .string ⟨#[97, 9]⟩, .string ⟨#[97, 10, 98]⟩, .string ⟨#[13]⟩, .string z, .string ⟨#[91, 97]⟩, .string ⟨#[35, 97]⟩, .string ⟨#[59]⟩, .string ⟨#[97, 61, 98]⟩] 9) := by
    rw [hV2]
    have := heap_alloc_new (w1.alloc (Obj.cells ZZ 5)) (Obj.cells #[.string ⟨#[]⟩, .string ⟨#[32, 97]⟩, .string ⟨#[97, 9]⟩, .string ⟨#[97, 10, 98]⟩, .string ⟨#[13]⟩, .string z, .string ⟨#[91, 97]⟩, .string ⟨#[35, 97]⟩, .string ⟨#[59]⟩, .string ⟨#[97, 61, 98]⟩] 9)
    simpa using this
  have hlV := (Array.getElem?_eq_some_iff.1 hgV).1
  have HBd := Lib.hid (fun (W : World) (hW : Below V2.heap.size V2 W) => ((hW.cell (p := ⟨w1.heap.size + 1, k, none⟩) hlV).trans (by rw [cell_of_row _ _ _ _ _ _ hgV]; exact Hbk.out) : W.cell? ⟨w1.heap.size + 1, k, none⟩ = some (.string bk)))
  have HBV := Lib.hid (hb1.trans (hbV.mono hb1.size))
  rw [← hV2]
  clear hV2 hgV hlV hbV hb1 hmk hcv
  go_upto_region 5 with (go_at_call 13; (with_reducible refine (HJ0.out _).mono ?_); rintro e3 w3 ⟨rfl, rfl⟩)
  have hd2 := HBd.out V2 (Below.refl _ _)
  go_upto_region 6 with (go_at_call 29; (with_reducible refine (HKe.out _ _ _).mono ?_); rintro e4 w4 ⟨g, rfl, hh4, hb4⟩)
  obtain ⟨W5, hW5⟩ : ∃ W, W = eb w4 ok (some ⟨g, 0, none⟩) 1 1 := ⟨_, rfl⟩
  have hT5 := edge_holds (s := ok) hh4
  rw [← hW5] at hT5
  have hb5 : Below w4.heap.size w4 W5 := by rw [hW5]; exact (Below.refl _ _).alloc (Nat.le_refl _) _
  unfold eb at hW5
  rw [← hW5]
  clear hW5
  have hb25 := hb4.trans (hb5.mono hb4.size)
  have HT5 := Lib.hid hT5
  have HB25 := Lib.hid hb25
  have HB5 := Lib.hid (HBV.out.trans (hb25.mono HBV.out.size))
  have hd5 := HBd.out W5 hb25
  clear hh4 hb4 hT5 hb5 hb25
  cases sec with
  | false =>
    have HT := HT5
    have HBc := HB5
    by_cases h5 : k = 5
    · have K5 : ((k : Int) == 5) = true := by rw [h5]; rfl
      have hF : fitsM (.cons ok (kT bk ⟨#[118]⟩) .nil) = 5 := by rw [H1.out, if_pos h5]
      clear h5
      go_upto_region 14 with (fail)
      obtain ⟨V8, hV8⟩ : ∃ W, W = W5.alloc (Obj.cells #[.string ⟨#[32, 97]⟩, .string ⟨#[97, 32]⟩, .string ⟨#[97, 10, 98]⟩, .string ⟨#[13]⟩, .string ⟨#[91, 97, 93]⟩, .string ⟨#[]⟩, .string ⟨#[97, 61, 98, 59, 99]⟩] 9) := ⟨_, rfl⟩
      have hb8 : Below W5.heap.size W5 V8 := by rw [hV8]; exact (Below.refl _ _).alloc (Nat.le_refl _) _
      have hg8 : V8.heap[W5.heap.size]? = some (Obj.cells #[.string ⟨#[32, 97]⟩, .string ⟨#[97, 32]⟩, .string ⟨#[97, 10, 98]⟩, .string ⟨#[13]⟩, .string ⟨#[91, 97, 93]⟩, .string ⟨#[]⟩, .string ⟨#[97, 61, 98, 59, 99]⟩] 9) := by rw [hV8]; exact heap_alloc_new W5 _
      have hl8 := (Array.getElem?_eq_some_iff.1 hg8).1
      have hc8 : V8.cell? ⟨W5.heap.size, j, none⟩ = some (.string vj) := by rw [cell_of_row _ _ _ _ _ _ hg8]; exact Hvj.out
      rw [← hV8]
      clear hV8
      go_upto_region 15 with (go_at_call 13; (with_reducible refine (HJ1.out _).mono ?_); rintro e8 w8 ⟨rfl, rfl⟩)
      go_upto_region 16 with (go_at_call 29; (with_reducible refine (HKe.out _ _ _).mono ?_); rintro e9 w9 ⟨g9, rfl, hh9, hb9⟩)
      obtain ⟨W10, hW10⟩ : ∃ W, W = eb w9 ok (some ⟨g9, 0, none⟩) 1 1 := ⟨_, rfl⟩
      have hu10 := edge_holds (s := ok) hh9
      rw [← hW10] at hu10
      have hb10 : Below w9.heap.size w9 W10 := by rw [hW10]; exact (Below.refl _ _).alloc (Nat.le_refl _) _
      unfold eb at hW10
      rw [← hW10]
      clear hW10
      have hb810 := hb8.trans ((hb9.trans (hb10.mono hb9.size)).mono hb8.size)
      have HB10 := Lib.hid (HBc.out.trans (hb810.mono HBc.out.size))
      have hF1 := fits_any _ _ 1 1 W10 ((HT.out.below hb810).more hb810.size) (Nat.le_refl _) (by simp [maxLen]) (by simp [Tr.size]) (nm_two (by decide) hbs (by decide))
      rw [hF] at hF1
      have hF2 := fun (W : World) (hW : Below W10.heap.size W10 W) => fits_any _ _ 1 1 W ((hu10.below hW).more hW.size) (Nat.le_refl _) (by simp [maxLen]) (by simp [Tr.size]) (nm_two (by decide) (by decide) hvs)
      have HF1 := Lib.hid hF1
      clear hF1 hb8 hg8 hl8 hc8 hh9 hb9 hb10 hb810
      by_cases hj3 : 3 < j
      · have HF2 := Lib.hid (fun W hW => by have := hF2 W hW; rw [H3.out, if_pos hj3] at this; exact this)
        have hji : (3 : Int) < (j : Int) := by omega
        have hji2 : (j : Int) > 3 := hji
        clear hF2 hu10 hj3
        go_wp2_with (first
          | (go_at_call 21; (with_reducible refine HF1.out.mono ?_); rintro e11 w11 ⟨rfl, hb11⟩)
          | (go_at_call 21; (with_reducible refine (HF2.out _ hb11).mono ?_); rintro e12 w12 ⟨rfl, hb12⟩; have hb112 := hb11.trans (hb12.mono hb11.size))
          | (go_at_call 21; (with_reducible refine (HF2.out _ hb112).mono ?_); rintro e13 w13 ⟨rfl, hb13⟩; have hb113 := hb112.trans (hb13.mono hb112.size)))
        go_ret
        exact ⟨rfl, HB10.out.trans (hb112.mono HB10.out.size)⟩
      · have HF2 := Lib.hid (fun W hW => by have := hF2 W hW; rw [H3.out, if_neg hj3] at this; exact this)
        have hji : ¬ (3 : Int) < (j : Int) := by omega
        have hji2 : ¬ (j : Int) > 3 := hji
        clear hF2 hu10 hj3
        go_wp2_with (first
          | (go_at_call 21; (with_reducible refine HF1.out.mono ?_); rintro e11 w11 ⟨rfl, hb11⟩)
          | (go_at_call 21; (with_reducible refine (HF2.out _ hb11).mono ?_); rintro e12 w12 ⟨rfl, hb12⟩; have hb112 := hb11.trans (hb12.mono hb11.size))
          | (go_at_call 21; (with_reducible refine (HF2.out _ hb112).mono ?_); rintro e13 w13 ⟨rfl, hb13⟩; have hb113 := hb112.trans (hb13.mono hb112.size)))
        go_ret
        exact ⟨by show Ending.returned (Value.bool (!decide ((3 : Int) < (j : Int)))) = _; rw [decide_eq_false (Int.not_lt.mpr hji)]; rfl, HB10.out.trans (hb113.mono HB10.out.size)⟩
    · have K5 : ((k : Int) == 5) = false := by rw [beq_eq_false_iff_ne]; omega
      have hF : fitsM (.cons ok (kT bk ⟨#[118]⟩) .nil) = 13 := by rw [H1.out, if_neg h5]
      clear h5
      go_upto_region 14 with (fail)
      obtain ⟨V8, hV8⟩ : ∃ W, W = W5.alloc (Obj.cells #[.string ⟨#[32, 97]⟩, .string ⟨#[97, 32]⟩, .string ⟨#[97, 10, 98]⟩, .string ⟨#[13]⟩, .string ⟨#[91, 97, 93]⟩, .string ⟨#[]⟩, .string ⟨#[97, 61, 98, 59, 99]⟩] 9) := ⟨_, rfl⟩
      have hb8 : Below W5.heap.size W5 V8 := by rw [hV8]; exact (Below.refl _ _).alloc (Nat.le_refl _) _
      have hg8 : V8.heap[W5.heap.size]? = some (Obj.cells #[.string ⟨#[32, 97]⟩, .string ⟨#[97, 32]⟩, .string ⟨#[97, 10, 98]⟩, .string ⟨#[13]⟩, .string ⟨#[91, 97, 93]⟩, .string ⟨#[]⟩, .string ⟨#[97, 61, 98, 59, 99]⟩] 9) := by rw [hV8]; exact heap_alloc_new W5 _
      have hl8 := (Array.getElem?_eq_some_iff.1 hg8).1
      have hc8 : V8.cell? ⟨W5.heap.size, j, none⟩ = some (.string vj) := by rw [cell_of_row _ _ _ _ _ _ hg8]; exact Hvj.out
      rw [← hV8]
      clear hV8
      go_upto_region 15 with (go_at_call 13; (with_reducible refine (HJ1.out _).mono ?_); rintro e8 w8 ⟨rfl, rfl⟩)
      go_upto_region 16 with (go_at_call 29; (with_reducible refine (HKe.out _ _ _).mono ?_); rintro e9 w9 ⟨g9, rfl, hh9, hb9⟩)
      obtain ⟨W10, hW10⟩ : ∃ W, W = eb w9 ok (some ⟨g9, 0, none⟩) 1 1 := ⟨_, rfl⟩
      have hu10 := edge_holds (s := ok) hh9
      rw [← hW10] at hu10
      have hb10 : Below w9.heap.size w9 W10 := by rw [hW10]; exact (Below.refl _ _).alloc (Nat.le_refl _) _
      unfold eb at hW10
      rw [← hW10]
      clear hW10
      have hb810 := hb8.trans ((hb9.trans (hb10.mono hb9.size)).mono hb8.size)
      have HB10 := Lib.hid (HBc.out.trans (hb810.mono HBc.out.size))
      have hF1 := fits_any _ _ 1 1 W10 ((HT.out.below hb810).more hb810.size) (Nat.le_refl _) (by simp [maxLen]) (by simp [Tr.size]) (nm_two (by decide) hbs (by decide))
      rw [hF] at hF1
      have hF2 := fun (W : World) (hW : Below W10.heap.size W10 W) => fits_any _ _ 1 1 W ((hu10.below hW).more hW.size) (Nat.le_refl _) (by simp [maxLen]) (by simp [Tr.size]) (nm_two (by decide) (by decide) hvs)
      have HF1 := Lib.hid hF1
      clear hF1 hb8 hg8 hl8 hc8 hh9 hb9 hb10 hb810
      by_cases hj3 : 3 < j
      · have HF2 := Lib.hid (fun W hW => by have := hF2 W hW; rw [H3.out, if_pos hj3] at this; exact this)
        have hji : (3 : Int) < (j : Int) := by omega
        have hji2 : (j : Int) > 3 := hji
        clear hF2 hu10 hj3
        go_wp2_with (first
          | (go_at_call 21; (with_reducible refine HF1.out.mono ?_); rintro e11 w11 ⟨rfl, hb11⟩)
          | (go_at_call 21; (with_reducible refine (HF2.out _ hb11).mono ?_); rintro e12 w12 ⟨rfl, hb12⟩; have hb112 := hb11.trans (hb12.mono hb11.size))
          | (go_at_call 21; (with_reducible refine (HF2.out _ hb112).mono ?_); rintro e13 w13 ⟨rfl, hb13⟩; have hb113 := hb112.trans (hb13.mono hb112.size)))
        go_ret
        exact ⟨rfl, HB10.out.trans (hb112.mono HB10.out.size)⟩
      · have HF2 := Lib.hid (fun W hW => by have := hF2 W hW; rw [H3.out, if_neg hj3] at this; exact this)
        have hji : ¬ (3 : Int) < (j : Int) := by omega
        have hji2 : ¬ (j : Int) > 3 := hji
        clear hF2 hu10 hj3
        go_wp2_with (first
          | (go_at_call 21; (with_reducible refine HF1.out.mono ?_); rintro e11 w11 ⟨rfl, hb11⟩)
          | (go_at_call 21; (with_reducible refine (HF2.out _ hb11).mono ?_); rintro e12 w12 ⟨rfl, hb12⟩; have hb112 := hb11.trans (hb12.mono hb11.size))
          | (go_at_call 21; (with_reducible refine (HF2.out _ hb112).mono ?_); rintro e13 w13 ⟨rfl, hb13⟩; have hb113 := hb112.trans (hb13.mono hb112.size)))
        go_ret
        exact ⟨by show Ending.returned (Value.bool (!decide ((3 : Int) < (j : Int)))) = _; rw [decide_eq_false (Int.not_lt.mpr hji)]; rfl, HB10.out.trans (hb113.mono HB10.out.size)⟩
  | true =>
    by_cases h5 : k = 5
    · have K5 : ((k : Int) == 5) = true := by rw [h5]; rfl
      have K7 : ¬ (k : Int) ≥ 7 := by omega
      have hF : fitsM (.cons bk (kT ⟨#[107]⟩ ⟨#[118]⟩) .nil) = 5 := by rw [H2.out, if_pos h5]
      clear h5
      go_upto_region 10 with (fail)
      have hq0 : Below W5.heap.size W5 W5.drew := (Below.refl _ _).drew
      have hd5d : W5.drew.cell? ⟨w1.heap.size + 1, k, none⟩ = some (.string bk) := hd5
      have HB5q := Lib.hid (fun (W : World) (hW : Below W5.heap.size W5 W) => HBd.out W (HB25.out.trans (hW.mono HB25.out.size)))
      go_region_held3 (fun W => W.cell? ⟨w1.heap.size + 1, k, none⟩ = some (.string bk))
        (first | exact hd5d | exact HB5q.out _ hq6 | exact HB5q.out _ (hq6.alloc hq6.size _))
        (first | (go_at_call 29; (with_reducible refine (HKe.out _ _ _).mono ?_); rintro e6 w6 ⟨g6, rfl, hh6, hb6⟩; have hq6 := hq0.trans (hb6.mono hq0.size)))
      obtain ⟨W7, hW7⟩ : ∃ W, W = eb w6 bk (some ⟨g6, 0, none⟩) 1 1 := ⟨_, rfl⟩
      have hT7 := edge_holds (s := bk) hh6
      rw [← hW7] at hT7
      have hb7 : Below w6.heap.size w6 W7 := by rw [hW7]; exact (Below.refl _ _).alloc (Nat.le_refl _) _
      unfold eb at hW7
      rw [← hW7]
      clear hW7
      have hb57 := hq6.trans (hb7.mono hq6.size)
      have HT := Lib.hid hT7
      have HBc := Lib.hid (HB5.out.trans (hb57.mono HB5.out.size))
      clear hh6 hb6 hT7 hb7 hb57 hq6 hq0 hd5d
      go_upto_region 14 with (fail)
      obtain ⟨V8, hV8⟩ : ∃ W, W = W7.alloc (Obj.cells #[.string ⟨#[32, 97]⟩, .string ⟨#[97, 32]⟩, .string ⟨#[97, 10, 98]⟩, .string ⟨#[13]⟩, .string ⟨#[91, 97, 93]⟩, .string ⟨#[]⟩, .string ⟨#[97, 61, 98, 59, 99]⟩] 9) := ⟨_, rfl⟩
      have hb8 : Below W7.heap.size W7 V8 := by rw [hV8]; exact (Below.refl _ _).alloc (Nat.le_refl _) _
      have hg8 : V8.heap[W7.heap.size]? = some (Obj.cells #[.string ⟨#[32, 97]⟩, .string ⟨#[97, 32]⟩, .string ⟨#[97, 10, 98]⟩, .string ⟨#[13]⟩, .string ⟨#[91, 97, 93]⟩, .string ⟨#[]⟩, .string ⟨#[97, 61, 98, 59, 99]⟩] 9) := by rw [hV8]; exact heap_alloc_new W7 _
      have hl8 := (Array.getElem?_eq_some_iff.1 hg8).1
      have hc8 : V8.cell? ⟨W7.heap.size, j, none⟩ = some (.string vj) := by rw [cell_of_row _ _ _ _ _ _ hg8]; exact Hvj.out
      rw [← hV8]
      clear hV8
      go_upto_region 15 with (go_at_call 13; (with_reducible refine (HJ1.out _).mono ?_); rintro e8 w8 ⟨rfl, rfl⟩)
      go_upto_region 16 with (go_at_call 29; (with_reducible refine (HKe.out _ _ _).mono ?_); rintro e9 w9 ⟨g9, rfl, hh9, hb9⟩)
      obtain ⟨W10, hW10⟩ : ∃ W, W = eb w9 ok (some ⟨g9, 0, none⟩) 1 1 := ⟨_, rfl⟩
      have hu10 := edge_holds (s := ok) hh9
      rw [← hW10] at hu10
      have hb10 : Below w9.heap.size w9 W10 := by rw [hW10]; exact (Below.refl _ _).alloc (Nat.le_refl _) _
      unfold eb at hW10
      rw [← hW10]
      clear hW10
      have hb810 := hb8.trans ((hb9.trans (hb10.mono hb9.size)).mono hb8.size)
      have HB10 := Lib.hid (HBc.out.trans (hb810.mono HBc.out.size))
      have hF1 := fits_any _ _ 1 1 W10 ((HT.out.below hb810).more hb810.size) (Nat.le_refl _) (by simp [maxLen]) (by simp [Tr.size]) (nm_two hbs (by decide) (by decide))
      rw [hF] at hF1
      have hF2 := fun (W : World) (hW : Below W10.heap.size W10 W) => fits_any _ _ 1 1 W ((hu10.below hW).more hW.size) (Nat.le_refl _) (by simp [maxLen]) (by simp [Tr.size]) (nm_two (by decide) (by decide) hvs)
      have HF1 := Lib.hid hF1
      clear hF1 hb8 hg8 hl8 hc8 hh9 hb9 hb10 hb810
      by_cases hj3 : 3 < j
      · have HF2 := Lib.hid (fun W hW => by have := hF2 W hW; rw [H3.out, if_pos hj3] at this; exact this)
        have hji : (3 : Int) < (j : Int) := by omega
        have hji2 : (j : Int) > 3 := hji
        clear hF2 hu10 hj3
        go_wp2_with (first
          | (go_at_call 21; (with_reducible refine HF1.out.mono ?_); rintro e11 w11 ⟨rfl, hb11⟩)
          | (go_at_call 21; (with_reducible refine (HF2.out _ hb11).mono ?_); rintro e12 w12 ⟨rfl, hb12⟩; have hb112 := hb11.trans (hb12.mono hb11.size))
          | (go_at_call 21; (with_reducible refine (HF2.out _ hb112).mono ?_); rintro e13 w13 ⟨rfl, hb13⟩; have hb113 := hb112.trans (hb13.mono hb112.size)))
        go_ret
        exact ⟨rfl, HB10.out.trans (hb112.mono HB10.out.size)⟩
      · have HF2 := Lib.hid (fun W hW => by have := hF2 W hW; rw [H3.out, if_neg hj3] at this; exact this)
        have hji : ¬ (3 : Int) < (j : Int) := by omega
        have hji2 : ¬ (j : Int) > 3 := hji
        clear hF2 hu10 hj3
        go_wp2_with (first
          | (go_at_call 21; (with_reducible refine HF1.out.mono ?_); rintro e11 w11 ⟨rfl, hb11⟩)
          | (go_at_call 21; (with_reducible refine (HF2.out _ hb11).mono ?_); rintro e12 w12 ⟨rfl, hb12⟩; have hb112 := hb11.trans (hb12.mono hb11.size))
          | (go_at_call 21; (with_reducible refine (HF2.out _ hb112).mono ?_); rintro e13 w13 ⟨rfl, hb13⟩; have hb113 := hb112.trans (hb13.mono hb112.size)))
        go_ret
        exact ⟨by show Ending.returned (Value.bool (!decide ((3 : Int) < (j : Int)))) = _; rw [decide_eq_false (Int.not_lt.mpr hji)]; rfl, HB10.out.trans (hb113.mono HB10.out.size)⟩
    · have K5 : ((k : Int) == 5) = false := by rw [beq_eq_false_iff_ne]; omega
      by_cases h7 : 7 ≤ k
      · have K7 : (k : Int) ≥ 7 := by omega
        have hF : fitsM (.cons bk (kT ⟨#[107]⟩ ⟨#[118]⟩) .nil) = 0 := by rw [H2.out, if_neg h5, if_pos h7]
        clear h5 h7
        go_upto_region 10 with (fail)
        have hq0 : Below W5.heap.size W5 W5.drew := (Below.refl _ _).drew
        have hd5d : W5.drew.cell? ⟨w1.heap.size + 1, k, none⟩ = some (.string bk) := hd5
        have HB5q := Lib.hid (fun (W : World) (hW : Below W5.heap.size W5 W) => HBd.out W (HB25.out.trans (hW.mono HB25.out.size)))
        go_region_held3 (fun W => W.cell? ⟨w1.heap.size + 1, k, none⟩ = some (.string bk))
          (first | exact hd5d | exact HB5q.out _ hq6 | exact HB5q.out _ (hq6.alloc hq6.size _))
          (first | (go_at_call 29; (with_reducible refine (HKe.out _ _ _).mono ?_); rintro e6 w6 ⟨g6, rfl, hh6, hb6⟩; have hq6 := hq0.trans (hb6.mono hq0.size)))
        obtain ⟨W7, hW7⟩ : ∃ W, W = eb w6 bk (some ⟨g6, 0, none⟩) 1 1 := ⟨_, rfl⟩
        have hT7 := edge_holds (s := bk) hh6
        rw [← hW7] at hT7
        have hb7 : Below w6.heap.size w6 W7 := by rw [hW7]; exact (Below.refl _ _).alloc (Nat.le_refl _) _
        unfold eb at hW7
        rw [← hW7]
        clear hW7
        have hb57 := hq6.trans (hb7.mono hq6.size)
        have HT := Lib.hid hT7
        have HBc := Lib.hid (HB5.out.trans (hb57.mono HB5.out.size))
        clear hh6 hb6 hT7 hb7 hb57 hq6 hq0 hd5d
        go_upto_region 14 with (fail)
        obtain ⟨V8, hV8⟩ : ∃ W, W = W7.alloc (Obj.cells #[.string ⟨#[32, 97]⟩, .string ⟨#[97, 32]⟩, .string ⟨#[97, 10, 98]⟩, .string ⟨#[13]⟩, .string ⟨#[91, 97, 93]⟩, .string ⟨#[]⟩, .string ⟨#[97, 61, 98, 59, 99]⟩] 9) := ⟨_, rfl⟩
        have hb8 : Below W7.heap.size W7 V8 := by rw [hV8]; exact (Below.refl _ _).alloc (Nat.le_refl _) _
        have hg8 : V8.heap[W7.heap.size]? = some (Obj.cells #[.string ⟨#[32, 97]⟩, .string ⟨#[97, 32]⟩, .string ⟨#[97, 10, 98]⟩, .string ⟨#[13]⟩, .string ⟨#[91, 97, 93]⟩, .string ⟨#[]⟩, .string ⟨#[97, 61, 98, 59, 99]⟩] 9) := by rw [hV8]; exact heap_alloc_new W7 _
        have hl8 := (Array.getElem?_eq_some_iff.1 hg8).1
        have hc8 : V8.cell? ⟨W7.heap.size, j, none⟩ = some (.string vj) := by rw [cell_of_row _ _ _ _ _ _ hg8]; exact Hvj.out
        rw [← hV8]
        clear hV8
        go_upto_region 15 with (go_at_call 13; (with_reducible refine (HJ1.out _).mono ?_); rintro e8 w8 ⟨rfl, rfl⟩)
        go_upto_region 16 with (go_at_call 29; (with_reducible refine (HKe.out _ _ _).mono ?_); rintro e9 w9 ⟨g9, rfl, hh9, hb9⟩)
        obtain ⟨W10, hW10⟩ : ∃ W, W = eb w9 ok (some ⟨g9, 0, none⟩) 1 1 := ⟨_, rfl⟩
        have hu10 := edge_holds (s := ok) hh9
        rw [← hW10] at hu10
        have hb10 : Below w9.heap.size w9 W10 := by rw [hW10]; exact (Below.refl _ _).alloc (Nat.le_refl _) _
        unfold eb at hW10
        rw [← hW10]
        clear hW10
        have hb810 := hb8.trans ((hb9.trans (hb10.mono hb9.size)).mono hb8.size)
        have HB10 := Lib.hid (HBc.out.trans (hb810.mono HBc.out.size))
        have hF1 := fits_any _ _ 1 1 W10 ((HT.out.below hb810).more hb810.size) (Nat.le_refl _) (by simp [maxLen]) (by simp [Tr.size]) (nm_two hbs (by decide) (by decide))
        rw [hF] at hF1
        have hF2 := fun (W : World) (hW : Below W10.heap.size W10 W) => fits_any _ _ 1 1 W ((hu10.below hW).more hW.size) (Nat.le_refl _) (by simp [maxLen]) (by simp [Tr.size]) (nm_two (by decide) (by decide) hvs)
        have HF1 := Lib.hid hF1
        clear hF1 hb8 hg8 hl8 hc8 hh9 hb9 hb10 hb810
        by_cases hj3 : 3 < j
        · have HF2 := Lib.hid (fun W hW => by have := hF2 W hW; rw [H3.out, if_pos hj3] at this; exact this)
          have hji : (3 : Int) < (j : Int) := by omega
          have hji2 : (j : Int) > 3 := hji
          clear hF2 hu10 hj3
          go_wp2_with (first
            | (go_at_call 21; (with_reducible refine HF1.out.mono ?_); rintro e11 w11 ⟨rfl, hb11⟩)
            | (go_at_call 21; (with_reducible refine (HF2.out _ hb11).mono ?_); rintro e12 w12 ⟨rfl, hb12⟩; have hb112 := hb11.trans (hb12.mono hb11.size))
            | (go_at_call 21; (with_reducible refine (HF2.out _ hb112).mono ?_); rintro e13 w13 ⟨rfl, hb13⟩; have hb113 := hb112.trans (hb13.mono hb112.size)))
          go_ret
          exact ⟨rfl, HB10.out.trans (hb112.mono HB10.out.size)⟩
        · have HF2 := Lib.hid (fun W hW => by have := hF2 W hW; rw [H3.out, if_neg hj3] at this; exact this)
          have hji : ¬ (3 : Int) < (j : Int) := by omega
          have hji2 : ¬ (j : Int) > 3 := hji
          clear hF2 hu10 hj3
          go_wp2_with (first
            | (go_at_call 21; (with_reducible refine HF1.out.mono ?_); rintro e11 w11 ⟨rfl, hb11⟩)
            | (go_at_call 21; (with_reducible refine (HF2.out _ hb11).mono ?_); rintro e12 w12 ⟨rfl, hb12⟩; have hb112 := hb11.trans (hb12.mono hb11.size))
            | (go_at_call 21; (with_reducible refine (HF2.out _ hb112).mono ?_); rintro e13 w13 ⟨rfl, hb13⟩; have hb113 := hb112.trans (hb13.mono hb112.size)))
          go_ret
          exact ⟨by show Ending.returned (Value.bool (!decide ((3 : Int) < (j : Int)))) = _; rw [decide_eq_false (Int.not_lt.mpr hji)]; rfl, HB10.out.trans (hb113.mono HB10.out.size)⟩
      · have K7 : ¬ (k : Int) ≥ 7 := by omega
        have hF : fitsM (.cons bk (kT ⟨#[107]⟩ ⟨#[118]⟩) .nil) = 13 := by rw [H2.out, if_neg h5, if_neg h7]
        clear h5 h7
        go_upto_region 10 with (fail)
        have hq0 : Below W5.heap.size W5 W5.drew := (Below.refl _ _).drew
        have hd5d : W5.drew.cell? ⟨w1.heap.size + 1, k, none⟩ = some (.string bk) := hd5
        have HB5q := Lib.hid (fun (W : World) (hW : Below W5.heap.size W5 W) => HBd.out W (HB25.out.trans (hW.mono HB25.out.size)))
        go_region_held3 (fun W => W.cell? ⟨w1.heap.size + 1, k, none⟩ = some (.string bk))
          (first | exact hd5d | exact HB5q.out _ hq6 | exact HB5q.out _ (hq6.alloc hq6.size _))
          (first | (go_at_call 29; (with_reducible refine (HKe.out _ _ _).mono ?_); rintro e6 w6 ⟨g6, rfl, hh6, hb6⟩; have hq6 := hq0.trans (hb6.mono hq0.size)))
        obtain ⟨W7, hW7⟩ : ∃ W, W = eb w6 bk (some ⟨g6, 0, none⟩) 1 1 := ⟨_, rfl⟩
        have hT7 := edge_holds (s := bk) hh6
        rw [← hW7] at hT7
        have hb7 : Below w6.heap.size w6 W7 := by rw [hW7]; exact (Below.refl _ _).alloc (Nat.le_refl _) _
        unfold eb at hW7
        rw [← hW7]
        clear hW7
        have hb57 := hq6.trans (hb7.mono hq6.size)
        have HT := Lib.hid hT7
        have HBc := Lib.hid (HB5.out.trans (hb57.mono HB5.out.size))
        clear hh6 hb6 hT7 hb7 hb57 hq6 hq0 hd5d
        go_upto_region 14 with (fail)
        obtain ⟨V8, hV8⟩ : ∃ W, W = W7.alloc (Obj.cells #[.string ⟨#[32, 97]⟩, .string ⟨#[97, 32]⟩, .string ⟨#[97, 10, 98]⟩, .string ⟨#[13]⟩, .string ⟨#[91, 97, 93]⟩, .string ⟨#[]⟩, .string ⟨#[97, 61, 98, 59, 99]⟩] 9) := ⟨_, rfl⟩
        have hb8 : Below W7.heap.size W7 V8 := by rw [hV8]; exact (Below.refl _ _).alloc (Nat.le_refl _) _
        have hg8 : V8.heap[W7.heap.size]? = some (Obj.cells #[.string ⟨#[32, 97]⟩, .string ⟨#[97, 32]⟩, .string ⟨#[97, 10, 98]⟩, .string ⟨#[13]⟩, .string ⟨#[91, 97, 93]⟩, .string ⟨#[]⟩, .string ⟨#[97, 61, 98, 59, 99]⟩] 9) := by rw [hV8]; exact heap_alloc_new W7 _
        have hl8 := (Array.getElem?_eq_some_iff.1 hg8).1
        have hc8 : V8.cell? ⟨W7.heap.size, j, none⟩ = some (.string vj) := by rw [cell_of_row _ _ _ _ _ _ hg8]; exact Hvj.out
        rw [← hV8]
        clear hV8
        go_upto_region 15 with (go_at_call 13; (with_reducible refine (HJ1.out _).mono ?_); rintro e8 w8 ⟨rfl, rfl⟩)
        go_upto_region 16 with (go_at_call 29; (with_reducible refine (HKe.out _ _ _).mono ?_); rintro e9 w9 ⟨g9, rfl, hh9, hb9⟩)
        obtain ⟨W10, hW10⟩ : ∃ W, W = eb w9 ok (some ⟨g9, 0, none⟩) 1 1 := ⟨_, rfl⟩
        have hu10 := edge_holds (s := ok) hh9
        rw [← hW10] at hu10
        have hb10 : Below w9.heap.size w9 W10 := by rw [hW10]; exact (Below.refl _ _).alloc (Nat.le_refl _) _
        unfold eb at hW10
        rw [← hW10]
        clear hW10
        have hb810 := hb8.trans ((hb9.trans (hb10.mono hb9.size)).mono hb8.size)
        have HB10 := Lib.hid (HBc.out.trans (hb810.mono HBc.out.size))
        have hF1 := fits_any _ _ 1 1 W10 ((HT.out.below hb810).more hb810.size) (Nat.le_refl _) (by simp [maxLen]) (by simp [Tr.size]) (nm_two hbs (by decide) (by decide))
        rw [hF] at hF1
        have hF2 := fun (W : World) (hW : Below W10.heap.size W10 W) => fits_any _ _ 1 1 W ((hu10.below hW).more hW.size) (Nat.le_refl _) (by simp [maxLen]) (by simp [Tr.size]) (nm_two (by decide) (by decide) hvs)
        have HF1 := Lib.hid hF1
        clear hF1 hb8 hg8 hl8 hc8 hh9 hb9 hb10 hb810
        by_cases hj3 : 3 < j
        · have HF2 := Lib.hid (fun W hW => by have := hF2 W hW; rw [H3.out, if_pos hj3] at this; exact this)
          have hji : (3 : Int) < (j : Int) := by omega
          have hji2 : (j : Int) > 3 := hji
          clear hF2 hu10 hj3
          go_wp2_with (first
            | (go_at_call 21; (with_reducible refine HF1.out.mono ?_); rintro e11 w11 ⟨rfl, hb11⟩)
            | (go_at_call 21; (with_reducible refine (HF2.out _ hb11).mono ?_); rintro e12 w12 ⟨rfl, hb12⟩; have hb112 := hb11.trans (hb12.mono hb11.size))
            | (go_at_call 21; (with_reducible refine (HF2.out _ hb112).mono ?_); rintro e13 w13 ⟨rfl, hb13⟩; have hb113 := hb112.trans (hb13.mono hb112.size)))
          go_ret
          exact ⟨rfl, HB10.out.trans (hb112.mono HB10.out.size)⟩
        · have HF2 := Lib.hid (fun W hW => by have := hF2 W hW; rw [H3.out, if_neg hj3] at this; exact this)
          have hji : ¬ (3 : Int) < (j : Int) := by omega
          have hji2 : ¬ (j : Int) > 3 := hji
          clear hF2 hu10 hj3
          go_wp2_with (first
            | (go_at_call 21; (with_reducible refine HF1.out.mono ?_); rintro e11 w11 ⟨rfl, hb11⟩)
            | (go_at_call 21; (with_reducible refine (HF2.out _ hb11).mono ?_); rintro e12 w12 ⟨rfl, hb12⟩; have hb112 := hb11.trans (hb12.mono hb11.size))
            | (go_at_call 21; (with_reducible refine (HF2.out _ hb112).mono ?_); rintro e13 w13 ⟨rfl, hb13⟩; have hb113 := hb112.trans (hb13.mono hb112.size)))
          go_ret
          exact ⟨by show Ending.returned (Value.bool (!decide ((3 : Int) < (j : Int)))) = _; rw [decide_eq_false (Int.not_lt.mpr hji)]; rfl, HB10.out.trans (hb113.mono HB10.out.size)⟩
end Go.Proofs.YtgefoehpdiiomaaGreatDoor.In
