/- strings.IndexRune in the text of the sixteen digits, at any rune. No conditions. -/
import Derived.Test.YtclgemkdlgpekaaReMath
import Derived.Test.YtclgemkdlgpekaaShelf
import Derived.Outline
import Derived.Laws.RangeAny
import Derived.Laws.Runes
import Derived.WalkMore
import Derived.BigQuiet
import Derived.Shelf.Small.Utf8
namespace Go.Proofs.Ytclgemkdlgpekaa.Re
open Go.RowKit
set_option maxRecDepth 100000

def HEXD : ByteArray := ⟨#[48, 49, 50, 51, 52, 53, 54, 55, 56, 57, 97, 98, 99, 100, 101, 102]⟩
theorem hexd_ascii : ∀ i, ∀ h : i < HEXD.size, (HEXD[i]'h).toNat < 128 := by
  intro i h
  have main : ∀ u ∈ HEXD.data.toList, u.toNat < 128 := by decide
  exact main _ (Array.getElem_mem_toList (xs := HEXD.data) h)
theorem valid_same (r : Int) : Lib.validRune r = Utf8.valid r := by
  unfold Lib.validRune Utf8.valid
  rw [Bool.eq_iff_iff]
  simp only [decide_eq_true_eq, Bool.or_eq_true, Bool.and_eq_true]
  omega
theorem below_drewN {B : Nat} {a w : World} (h : Below B a w) (n : Nat) : Below B a (w.drewN n) := ⟨h.os, h.tape, h.output, h.size, h.block⟩
/-- Where the digit stands. -/
def hexI (r : Int) : Int := if r < 128 then Lib.indexByte HEXD.data.toList r.toNat.toUInt8 else -1
theorem hexI_dig : ∀ d, d < 16 → hexI ((dig16 d).toNat : Nat) = d := by decide
/-- No digit is a byte from 128 on. -/
theorem none_of : ∀ (l : List UInt8) (b : UInt8), (∀ u ∈ l, u.toNat < 128) → 128 ≤ b.toNat → Lib.indexByte l b = -1
  | [], _, _, _ => rfl
  | c :: l, b, h, hb => by
    have h1 := h c (List.mem_cons_self ..)
    have h2 := none_of l b (fun x hx => h x (List.mem_cons_of_mem _ hx)) hb
    have h3 : (c == b) = false := by
      rw [beq_eq_false_iff_ne]
      rintro rfl
      omega
    unfold Lib.indexByte
    rw [h3, h2]
    rfl
theorem encode_sorts {r : Int} (h : 128 ≤ r) (hv : Utf8.valid r = true) : (∃ a b : UInt8, Utf8.encode r = ⟨#[a, b]⟩ ∧ 128 ≤ b.toNat) ∨ (∃ a b c : UInt8, Utf8.encode r = ⟨#[a, b, c]⟩ ∧ 128 ≤ c.toNat) ∨ (∃ a b c d : UInt8, Utf8.encode r = ⟨#[a, b, c, d]⟩ ∧ 128 ≤ d.toNat) := by
  have hm : ∀ n : Nat, 128 ≤ (UInt8.ofNat (128 + n % 64)).toNat := by
    intro n
    have := Nat.mod_lt n (show 0 < 64 by decide)
    rw [UInt8.toNat_ofNat']
    omega
  unfold Utf8.encode
  rw [if_pos hv]
  have h1 : ¬ r.toNat < 128 := by omega
  rw [if_neg h1]
  by_cases h2 : r.toNat < 2048
  · rw [if_pos h2]
    exact .inl ⟨_, _, rfl, hm _⟩
  · rw [if_neg h2]
    by_cases h3 : r.toNat < 65536
    · rw [if_pos h3]; exact .inr (.inl ⟨_, _, _, rfl, hm _⟩)
    · rw [if_neg h3]; exact .inr (.inr ⟨_, _, _, _, rfl, hm _⟩)
theorem validR (r : Int) (w : World) : Calls Try.prog 58 #[.int .i32 r] w fun e w' => e = .returned (.bool (Utf8.valid r)) ∧ w' = w := by
  have h := Try.utf8_ValidRune r w
  rw [valid_same] at h
  exact h

set_option maxHeartbeats 1000000 in
theorem hexRune_high (r : Int) (w : World) (h : 128 ≤ r) : Calls Try.prog 55 #[.string ⟨#[48, 49, 50, 51, 52, 53, 54, 55, 56, 57, 97, 98, 99, 100, 101, 102]⟩, .int .i32 r] w fun e w' => e = .returned (.int .i64 (-1)) ∧ Below w.heap.size w w' := by
  by_cases he : r = 65533
  · subst he
    have HB : ∀ i, Below w.heap.size w (w.iter HEXD i) := fun i => (Below.refl _ _).alloc (Nat.le_refl _) _
    have n1 := fun i (hi : i < 16) ty => run_next_ascii (P := Try.prog) w HEXD i ty hi (hexd_ascii i hi)
    have n2 := fun ty => run_next_end (P := Try.prog) w HEXD 16 ty (by decide)
    have hne := fun i (hi : i < 16) => (show (((HEXD[i]'hi).toNat : Int) == 65533) = false from by have := hexd_ascii i hi; rw [beq_eq_false_iff_ne]; omega)
    obtain ⟨X, hX⟩ : ∃ X, X = HEXD := ⟨_, rfl⟩
    have hXs : X = ⟨#[48, 49, 50, 51, 52, 53, 54, 55, 56, 57, 97, 98, 99, 100, 101, 102]⟩ := hX
    have hsz : X.size = 16 := by rw [hX]; rfl
    have N1 := Lib.hid n1
    have N2 := Lib.hid n2
    have HN := Lib.hid hne
    clear n1 n2 hne
    go_enter Try.func55, Try.ntmps55
    go_wp2_with fail
    go_loopg [5, 6] 16 (fun g _ _ wx => ∃ i : Nat, i + g = 16 ∧ wx = w.iter HEXD i)
    case atStart => exact ⟨0, by omega, rfl⟩
    case round =>
      obtain ⟨i, hig, rfl⟩ := hrel
      cases gk with
      | zero =>
        obtain rfl : i = 16 := by omega
        have n2 := N2.out
        go_wp2_with fail
        go_ret
        exact ⟨rfl, HB _⟩
      | succ g =>
        have hi : i < 16 := by omega
        have n1 := N1.out i hi
        have hn := HN.out i hi
        go_wp2_with fail
        go_roundg g
        case measure => omega
        case rel => exact ⟨i + 1, by omega, rfl⟩
  · have he' : ((r : Int) == 65533) = false := beq_eq_false_iff_ne.2 he
    have H0 : ((0 : Int) ≤ r) := by omega
    have H1 : ¬ (r < 128) := by omega
    cases hv : Utf8.valid r
    · have HV := Lib.hid (validR r w)
      rw [hv] at HV
      go_enter Try.func55, Try.ntmps55
      go_wp2_with fail
      (with_reducible refine HV.out.mono ?_)
      rintro e w1 ⟨rfl, rfl⟩
      go_wp2_with fail
      go_ret
      exact ⟨rfl, Below.refl _ _⟩
    · have HV := Lib.hid (validR r w)
      rw [hv] at HV
      have hcv : ∀ W, (convert 21 9 (.int .i32 r)).run Try.prog W = .ok (.string (Utf8.encode r)) W := fun W => run_convert_int_string W 21 9 .i32 r rfl rfl
      rcases encode_sorts h hv with ⟨a, b, hab, hb⟩ | ⟨a, b, c, hab, hb⟩ | ⟨a, b, c, d, hab, hb⟩
      · rw [hab] at hcv
        have HI : Hid (∀ W, Calls Try.prog 57 #[.string ⟨#[50, 51, 52, 53, 54, 55, 56, 57, 97, 98, 99, 100, 101, 102]⟩, .int .u8 b.toNat] W fun e w' => e = .returned (.int .i64 (-1)) ∧ w' = W) := Lib.hid fun W => by
          have := Try.strings_IndexByte ⟨#[50, 51, 52, 53, 54, 55, 56, 57, 97, 98, 99, 100, 101, 102]⟩ b.toNat W
          rwa [show (((b.toNat : Int)).toNat.toUInt8) = b by rw [Int.toNat_natCast]; exact UInt8.ofNat_toNat, none_of _ _ (by decide) hb] at this
        have hsl : ∀ W, (Instr.slice 9 (.string ⟨#[48, 49, 50, 51, 52, 53, 54, 55, 56, 57, 97, 98, 99, 100, 101, 102]⟩) (some (.int .i64 2)) none none).run Try.prog W = .ok (.string ⟨#[50, 51, 52, 53, 54, 55, 56, 57, 97, 98, 99, 100, 101, 102]⟩) W := by
          intro W
          exact run_slice_string_l (P := Try.prog) W 9 ⟨#[48, 49, 50, 51, 52, 53, 54, 55, 56, 57, 97, 98, 99, 100, 101, 102]⟩ rfl .i64 2 (by decide) (by decide)
        have hne : ((((ByteArray.mk #[48, 49, 50, 51, 52, 53, 54, 55, 56, 57, 97, 98, 99, 100, 101, 102])[1]'(by decide)).toNat : Int) != (((ByteArray.mk #[a, b])[1]'(by show 1 < 2; decide)).toNat : Int)) = true := by
          show ((49 : Int) != (b.toNat : Int)) = true
          exact bne_iff_ne.2 (by omega)
        go_enter Try.func55, Try.ntmps55
        go_wp2_with fail
        (with_reducible refine HV.out.mono ?_)
        rintro e w1 ⟨rfl, rfl⟩
        go_wp2_with fail
        go_step3
        go_wp2_with fail
        go_loopg [9] 1 (fun g i wx => g = 1 ∧ i = .int .i64 1 ∧ wx = w1)
        case atStart => exact ⟨rfl, rfl, rfl⟩
        case round =>
          obtain ⟨rfl, rfl, rfl⟩ := hrel
          go_wp2_with fail
          go_step3
          go_wp2_with fail
          go_quiet (fail)
          go_wp2_with fail
          go_quiet ((refine Calls.mono (HI.out _) ?_; rintro e w' ⟨rfl, rfl⟩; exact ⟨rfl, _, rfl⟩))
          go_wp2_with fail
          rw [Exit.noGoto_ret]
          simp only [Exit.inBlock, Exit.then, Exit.noGoto_ret]
          go_ret
          exact ⟨rfl, below_drewN (Below.refl _ _) _⟩
      · rw [hab] at hcv
        have HI : Hid (∀ W, Calls Try.prog 57 #[.string ⟨#[51, 52, 53, 54, 55, 56, 57, 97, 98, 99, 100, 101, 102]⟩, .int .u8 c.toNat] W fun e w' => e = .returned (.int .i64 (-1)) ∧ w' = W) := Lib.hid fun W => by
          have := Try.strings_IndexByte ⟨#[51, 52, 53, 54, 55, 56, 57, 97, 98, 99, 100, 101, 102]⟩ c.toNat W
          rwa [show (((c.toNat : Int)).toNat.toUInt8) = c by rw [Int.toNat_natCast]; exact UInt8.ofNat_toNat, none_of _ _ (by decide) hb] at this
        have hsl : ∀ W, (Instr.slice 9 (.string ⟨#[48, 49, 50, 51, 52, 53, 54, 55, 56, 57, 97, 98, 99, 100, 101, 102]⟩) (some (.int .i64 3)) none none).run Try.prog W = .ok (.string ⟨#[51, 52, 53, 54, 55, 56, 57, 97, 98, 99, 100, 101, 102]⟩) W := by
          intro W
          exact run_slice_string_l (P := Try.prog) W 9 ⟨#[48, 49, 50, 51, 52, 53, 54, 55, 56, 57, 97, 98, 99, 100, 101, 102]⟩ rfl .i64 3 (by decide) (by decide)
        have hne : ((((ByteArray.mk #[48, 49, 50, 51, 52, 53, 54, 55, 56, 57, 97, 98, 99, 100, 101, 102])[2]'(by decide)).toNat : Int) != (((ByteArray.mk #[a, b, c])[2]'(by show 2 < 3; decide)).toNat : Int)) = true := by
          show ((50 : Int) != (c.toNat : Int)) = true
          exact bne_iff_ne.2 (by omega)
        go_enter Try.func55, Try.ntmps55
        go_wp2_with fail
        (with_reducible refine HV.out.mono ?_)
        rintro e w1 ⟨rfl, rfl⟩
        go_wp2_with fail
        go_step3
        go_wp2_with fail
        go_loopg [9] 1 (fun g i wx => g = 1 ∧ i = .int .i64 2 ∧ wx = w1)
        case atStart => exact ⟨rfl, rfl, rfl⟩
        case round =>
          obtain ⟨rfl, rfl, rfl⟩ := hrel
          go_wp2_with fail
          go_step3
          go_wp2_with fail
          go_quiet (fail)
          go_wp2_with fail
          go_quiet ((refine Calls.mono (HI.out _) ?_; rintro e w' ⟨rfl, rfl⟩; exact ⟨rfl, _, rfl⟩))
          go_wp2_with fail
          rw [Exit.noGoto_ret]
          simp only [Exit.inBlock, Exit.then, Exit.noGoto_ret]
          go_ret
          exact ⟨rfl, below_drewN (Below.refl _ _) _⟩
      · rw [hab] at hcv
        have HI : Hid (∀ W, Calls Try.prog 57 #[.string ⟨#[52, 53, 54, 55, 56, 57, 97, 98, 99, 100, 101, 102]⟩, .int .u8 d.toNat] W fun e w' => e = .returned (.int .i64 (-1)) ∧ w' = W) := Lib.hid fun W => by
          have := Try.strings_IndexByte ⟨#[52, 53, 54, 55, 56, 57, 97, 98, 99, 100, 101, 102]⟩ d.toNat W
          rwa [show (((d.toNat : Int)).toNat.toUInt8) = d by rw [Int.toNat_natCast]; exact UInt8.ofNat_toNat, none_of _ _ (by decide) hb] at this
        have hsl : ∀ W, (Instr.slice 9 (.string ⟨#[48, 49, 50, 51, 52, 53, 54, 55, 56, 57, 97, 98, 99, 100, 101, 102]⟩) (some (.int .i64 4)) none none).run Try.prog W = .ok (.string ⟨#[52, 53, 54, 55, 56, 57, 97, 98, 99, 100, 101, 102]⟩) W := by
          intro W
          exact run_slice_string_l (P := Try.prog) W 9 ⟨#[48, 49, 50, 51, 52, 53, 54, 55, 56, 57, 97, 98, 99, 100, 101, 102]⟩ rfl .i64 4 (by decide) (by decide)
        have hne : ((((ByteArray.mk #[48, 49, 50, 51, 52, 53, 54, 55, 56, 57, 97, 98, 99, 100, 101, 102])[3]'(by decide)).toNat : Int) != (((ByteArray.mk #[a, b, c, d])[3]'(by show 3 < 4; decide)).toNat : Int)) = true := by
          show ((51 : Int) != (d.toNat : Int)) = true
          exact bne_iff_ne.2 (by omega)
        go_enter Try.func55, Try.ntmps55
        go_wp2_with fail
        (with_reducible refine HV.out.mono ?_)
        rintro e w1 ⟨rfl, rfl⟩
        go_wp2_with fail
        go_step3
        go_wp2_with fail
        go_loopg [9] 1 (fun g i wx => g = 1 ∧ i = .int .i64 3 ∧ wx = w1)
        case atStart => exact ⟨rfl, rfl, rfl⟩
        case round =>
          obtain ⟨rfl, rfl, rfl⟩ := hrel
          go_wp2_with fail
          go_step3
          go_wp2_with fail
          go_quiet (fail)
          go_wp2_with fail
          go_quiet ((refine Calls.mono (HI.out _) ?_; rintro e w' ⟨rfl, rfl⟩; exact ⟨rfl, _, rfl⟩))
          go_wp2_with fail
          rw [Exit.noGoto_ret]
          simp only [Exit.inBlock, Exit.then, Exit.noGoto_ret]
          go_ret
          exact ⟨rfl, below_drewN (Below.refl _ _) _⟩

theorem hexRune_any (r : Int) (w : World) (h0 : 0 ≤ r) : Calls Try.prog 55 #[.string ⟨#[48, 49, 50, 51, 52, 53, 54, 55, 56, 57, 97, 98, 99, 100, 101, 102]⟩, .int .i32 r] w fun e w' => e = .returned (.int .i64 (hexI r)) ∧ Below w.heap.size w w' := by
  unfold hexI
  by_cases h : r < 128
  · rw [if_pos h]
    exact (Try.strings_IndexRune_ascii _ r w h0 h).mono fun _ _ ⟨e, hw⟩ => ⟨e, hw ▸ Below.refl _ _⟩
  · rw [if_neg h]
    exact hexRune_high r w (by omega)
end Go.Proofs.Ytclgemkdlgpekaa.Re
