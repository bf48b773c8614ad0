/- strings.IndexRune in the text of a quote and a comma at a rune from 128 on: there is none. · strings.IndexAny of a quote or a comma in a text of any bytes, eight at most: where the first one stands, or there is none. · csv: a field written anew; all of a row's. Conditions: texts of ASCII bytes; MaxLen's cell. · csv.each: a new list of what is made of each one. Conditions: a function that answers so at each one; fewer than 100000 of them. · csv.textOf: a line's text that means these. Conditions: texts of ASCII bytes, of at most 4000; MaxLen's cell. · csv's row: the line that now means these. Conditions: as textOf's. -/
import Derived.Test.YtlcbhooiinaalaaGreatDoorCvAny
import Derived.Outline
import Derived.Laws.RangeAny
import Derived.Laws.Runes
import Derived.WalkMore
import Derived.BigQuiet
import Derived.Shelf.Small.Utf8
import Derived.Lib.OthersKept
import Derived.Lib.IndexAny
import Derived.Shelf.Strings.IndexAnyAll
import Derived.Test.YtlcbhooiinaalaaGreatDoorMwCvMeans
import Derived.Test.YtlcbhooiinaalaaGreatDoorMwCvRows
import Derived.Deep.RegionWith
import Derived.Deep.DeepFit
import Derived.Test.YtlcbhooiinaalaaGreatDoorDelLay
namespace Go.Proofs.YtlcbhooiinaalaaGreatDoor.Cv
open Go.RowKit
set_option maxRecDepth 100000

theorem ascii_qc : ∀ (j : Nat) b, (ByteArray.mk #[34, 44]).data.toList[j]? = some b → b.toNat < 128 := by
  intro j b h
  match j, h with
  | 0, h => simp at h; subst h; decide
  | 1, h => simp at h; subst h; decide
  | j + 2, h => simp at h
set_option maxHeartbeats 1000000 in
theorem indexRune_qc (r : Int) (w : World) (h : 128 ≤ r) : Calls Tryz.prog 172 #[.string ⟨#[34, 44]⟩, .int .i32 r] w fun e w' => e = .returned (.int .i64 (-1)) ∧ Below w.heap.size w w' := by
  by_cases he : r = 65533
  · subst he
    have HB : ∀ i, Below w.heap.size w (w.iter ⟨#[34, 44]⟩ i) := fun i => (Below.refl _ _).alloc (Nat.le_refl _) _
    have n0 := fun ty => run_next_ascii (P := Tryz.prog) w ⟨#[34, 44]⟩ 0 ty (by decide) (by decide)
    have n1 := fun ty => run_next_ascii (P := Tryz.prog) w ⟨#[34, 44]⟩ 1 ty (by decide) (by decide)
    have n2 := fun ty => run_next_end (P := Tryz.prog) w ⟨#[34, 44]⟩ 2 ty (by decide)
    go_enter Tryz.func172, Tryz.ntmps172
    go_wp2_with fail
    go_loopg [5, 6] 2 (fun g _ _ wx => ∃ i : Nat, i + g = 2 ∧ wx = w.iter ⟨#[34, 44]⟩ i)
    case atStart => exact ⟨0, by omega, rfl⟩
    case round =>
      obtain ⟨i, hig, rfl⟩ := hrel
      cases gk with
      | zero =>
        obtain rfl : i = 2 := by omega
        go_wp2_with fail
        go_ret
        exact ⟨rfl, HB _⟩
      | succ g =>
        by_cases h0 : i = 0
        · subst h0
          go_wp2_with fail
          go_roundg g
          case measure => omega
          case rel => exact ⟨1, by omega, rfl⟩
        · obtain rfl : i = 1 := by omega
          go_wp2_with fail
          go_roundg g
          case measure => omega
          case rel => exact ⟨2, by omega, rfl⟩
  · have he' : ((r : Int) == 65533) = false := beq_eq_false_iff_ne.2 he
    have H0 : ((0 : Int) ≤ r) := by omega
    have H1 : ¬ (r < 128) := by omega
    cases hv : Utf8.valid r
    · have HV := Lib.hid (validR r w)
      rw [hv] at HV
      go_enter Tryz.func172, Tryz.ntmps172
      go_wp2_with fail
      (with_reducible refine HV.out.mono ?_)
      rintro e w1 ⟨rfl, rfl⟩
      go_wp2_with fail
      go_ret
      exact ⟨rfl, Below.refl _ _⟩
    · have HV := Lib.hid (validR r w)
      rw [hv] at HV
      have hcv : ∀ W, (convert 21 9 (.int .i32 r)).run Tryz.prog W = .ok (.string (Utf8.encode r)) W := fun W => run_convert_int_string W 21 9 .i32 r rfl rfl
      rcases encode_sorts h hv with ⟨a, b, hab, hb⟩ | ⟨a, b, c, hab⟩ | ⟨a, b, c, d, hab⟩
      · rw [hab] at hcv
        have HI : Hid (∀ W, Calls Tryz.prog 191 #[.string ⟨#[]⟩, .int .u8 b.toNat] W fun e w' => e = .returned (.int .i64 (-1)) ∧ w' = W) := Lib.hid fun W => byteAt ⟨#[]⟩ b.toNat W
        have hsl : ∀ W, (Instr.slice 9 (.string ⟨#[34, 44]⟩) (some (.int .i64 2)) none none).run Tryz.prog W = .ok (.string ⟨#[]⟩) W := by
          intro W
          first | rfl | exact run_slice_string_l (P := Tryz.prog) W 9 ⟨#[34, 44]⟩ rfl .i64 2 (by decide) (by decide) | simp
        have hne : ((((ByteArray.mk #[34, 44])[1]'(by decide)).toNat : Int) != (((ByteArray.mk #[a, b])[1]'(by show 1 < 2; decide)).toNat : Int)) = true := by
          show ((44 : Int) != (b.toNat : Int)) = true
          exact bne_iff_ne.2 (by omega)
        go_enter Tryz.func172, Tryz.ntmps172
        go_wp2_with fail
        (with_reducible refine HV.out.mono ?_)
        rintro e w1 ⟨rfl, rfl⟩
        go_wp2_with fail
        go_step3
        go_wp2_with fail
        go_loopg [9] 1 (fun g i wx => g = 1 ∧ i = .int .i64 1 ∧ wx = w1)
        case atStart => exact ⟨rfl, rfl, rfl⟩
        case round =>
          obtain ⟨rfl, rfl, rfl⟩ := hrel
          go_wp2_with fail
          go_step3
          go_wp2_with fail
          go_quiet (fail)
          go_wp2_with fail
          go_quiet ((refine Calls.mono (HI.out _) ?_; rintro e w' ⟨rfl, rfl⟩; exact ⟨rfl, _, rfl⟩))
          go_wp2_with fail
          rw [Exit.noGoto_ret]
          simp only [Exit.inBlock, Exit.then, Exit.noGoto_ret]
          go_ret
          exact ⟨rfl, below_drewN (Below.refl _ _) _⟩
      · rw [hab] at hcv
        go_enter Tryz.func172, Tryz.ntmps172
        go_wp2_with fail
        (with_reducible refine HV.out.mono ?_)
        rintro e w1 ⟨rfl, rfl⟩
        go_wp2_with fail
        go_step3
        go_wp2_with fail
        go_loopg [9] 1 (fun g i wx => g = 1 ∧ i = .int .i64 2 ∧ wx = w1)
        case atStart => exact ⟨rfl, rfl, rfl⟩
        case round =>
          obtain ⟨rfl, rfl, rfl⟩ := hrel
          go_wp2_with fail
          rw [Exit.noGoto_ret]
          go_ret
          exact ⟨rfl, Below.refl _ _⟩
      · rw [hab] at hcv
        go_enter Tryz.func172, Tryz.ntmps172
        go_wp2_with fail
        (with_reducible refine HV.out.mono ?_)
        rintro e w1 ⟨rfl, rfl⟩
        go_wp2_with fail
        go_step3
        go_wp2_with fail
        go_loopg [9] 1 (fun g i wx => g = 1 ∧ i = .int .i64 3 ∧ wx = w1)
        case atStart => exact ⟨rfl, rfl, rfl⟩
        case round =>
          obtain ⟨rfl, rfl, rfl⟩ := hrel
          go_wp2_with fail
          rw [Exit.noGoto_ret]
          go_ret
          exact ⟨rfl, Below.refl _ _⟩
end Go.Proofs.YtlcbhooiinaalaaGreatDoor.Cv
namespace Go.Proofs.YtlcbhooiinaalaaGreatDoor.Cv
open Go.RowKit Go.Lib
set_option maxRecDepth 100000

theorem qc_high {b : UInt8} (h : 128 ≤ b.toNat) : ([34, 44] : List UInt8).contains b = false := by
  rw [Bool.eq_false_iff]
  intro hc
  simp at hc
  rcases hc with rfl | rfl <;> simp at h
theorem noAny_jump_qc {s : ByteArray} {i : Nat} (h : NoAny s.data.toList [34, 44] i) (hi : i < s.size) (hx : 128 ≤ (s[i]'hi).toNat) : NoAny s.data.toList [34, 44] (i + (Utf8.decode s i).2) := by
  intro j b hj hb
  rcases Nat.lt_trichotomy j i with hl | rfl | hg
  · exact h j b hl hb
  · have := Lib.data_getElem? s j hi
    rw [this] at hb; cases hb
    exact qc_high hx
  · obtain ⟨hs, hh⟩ := decode_skip s i j hg hj
    have := Lib.data_getElem? s j hs
    rw [this] at hb; cases hb
    refine qc_high ?_
    have e : s.get! j = s[j]'hs := by simp [ByteArray.get!, getElem!_pos, hs]; rfl
    rwa [e] at hh

set_option maxHeartbeats 1000000 in
theorem indexAny_qc (s : ByteArray) (w : World) (h8 : s.size ≤ 8) : Calls Tryz.prog 145 #[.string s, .string ⟨#[34, 44]⟩] w fun e w' => e = .returned (.int .i64 (Lib.indexAny s.data.toList [34, 44])) ∧ Below w.heap.size w w' := by
  have HU : Hid (∀ W, Calls Tryz.prog 173 #[.int .i64 s.size] W fun e w' => e = .returned (.bool (decide ((8 : Int) < (s.size : Int)))) ∧ w' = W) := Lib.hid fun W => Any.strings_shouldUseASCIISet (ρ := Tryz.lays150_ren) { Tryz.lays150 with } s.size W
  have h8z : decide ((8 : Int) < (s.size : Int)) = false := decide_eq_false (by omega)
  rw [h8z] at HU
  go_enter Tryz.func145, Tryz.ntmps145
  go_wp2_with fail
  (with_reducible refine (HU.out _).mono ?_)
  rintro e w1 ⟨rfl, rfl⟩
  go_wp2_with fail
  go_loopg [9, 10] s.size (fun g _ _ wx => ∃ i : Nat, i + g = s.size ∧ Hid (wx.heap[w1.heap.size]? = some (.stringIter s i)) ∧ Hid (Below w1.heap.size w1 wx) ∧ Hid (NoAny s.data.toList [34, 44] i))
  case atStart => exact ⟨0, by omega, Lib.hid (World.iter_heap w1 s 0), Lib.hid ((Below.refl _ _).alloc (Nat.le_refl _) _), Lib.hid (NoAny.zero _ _)⟩
  case round =>
    obtain ⟨i, hig, HK, HB, HN⟩ := hrel
    cases gk with
    | zero =>
      obtain rfl : i = s.size := by omega
      have hnx := fun ty => run_next_end_at (P := Tryz.prog) wr w1.heap.size s s.size ty HK.out (by omega)
      go_wp2_with fail
      go_ret
      exact ⟨by rw [Lib.indexAny_none (by rw [← Lib.size_eq]; exact HN.out)]; rfl, HB.out⟩
    | succ g =>
      have hi : i < s.size := by omega
      obtain ⟨x, hx⟩ : ∃ x : UInt8, s[i]'hi = x := ⟨_, rfl⟩
      have Hx : Hid (s.data.toList[i]? = some x) := Lib.hid (by rw [← hx]; exact Lib.data_getElem? s i hi)
      by_cases hlt : x.toNat < 128
      · have hnx := fun ty => run_next_ascii_at (P := Tryz.prog) wr w1.heap.size s i ty HK.out hi (by rw [hx]; exact hlt)
        rw [hx] at hnx
        have HK2 := Lib.hid (Lib.iterAt_heap wr w1.heap.size s i (i + 1) HK.out)
        have HB2 := Lib.hid (Lib.below_iterAt HB.out (k := w1.heap.size) (Nat.le_refl _) s (i + 1))
        obtain ⟨W, hW⟩ : ∃ W, wr.iterAt w1.heap.size s (i + 1) = W := ⟨_, rfl⟩
        rw [hW] at hnx HK2 HB2
        have HR : Hid (Calls Tryz.prog 172 #[.string ⟨#[34, 44]⟩, .int .i32 x.toNat] W fun e w' => e = .returned (.int .i64 (Lib.indexByte [34, 44] x)) ∧ w' = W) := Lib.hid (by
          have h := Any.strings_IndexRune_ascii (ρ := Tryz.lays150_ren) { Tryz.lays150 with } ⟨#[34, 44]⟩ x.toNat W (by omega) (by omega)
          have hb : ((x.toNat : Int)).toNat.toUInt8 = x := by simp
          rw [hb] at h; exact h)
        have hcon := Lib.contains_iff_indexByte [34, 44] x
        clear hx hW
        cases hin : ([34, 44] : List UInt8).contains x
        · rw [hin] at hcon
          have hge : ¬ ((0 : Int) ≤ Lib.indexByte [34, 44] x) := of_decide_eq_false hcon.symm
          clear hcon
          go_wp2_with fail
          (with_reducible refine HR.out.mono ?_)
          rintro e w2 ⟨rfl, rfl⟩
          go_wp2_with fail
          go_roundg g
          case measure => omega
          case rel => exact ⟨i + 1, by omega, HK2, HB2, Lib.hid (HN.out.succ Hx.out hin)⟩
        · rw [hin] at hcon
          have hge : (0 : Int) ≤ Lib.indexByte [34, 44] x := of_decide_eq_true hcon.symm
          clear hcon
          go_wp2_with fail
          (with_reducible refine HR.out.mono ?_)
          rintro e w2 ⟨rfl, rfl⟩
          go_wp2_with fail
          go_ret
          exact ⟨by rw [Lib.indexAny_hit HN.out Hx.out hin]; rfl, HB2.out⟩
      · have hnx := fun ty => run_next_any_at (P := Tryz.prog) wr w1.heap.size s i ty HK.out hi
        have hhi := decode_high s i hi (by rw [hx]; omega)
        have HN2 := Lib.hid (noAny_jump_qc HN.out hi (by rw [hx]; omega))
        have hle : i + (Utf8.decode s i).2 ≤ s.size := by
          by_cases h1 : (Utf8.decode s i).2 = 1
          · omega
          · have := (decode_skip s i (i + (Utf8.decode s i).2 - 1) (by omega) (by omega)).1; omega
        obtain ⟨r, hr⟩ : ∃ r : Nat, (Utf8.decode s i).1 = r := ⟨_, rfl⟩
        obtain ⟨k, hk⟩ : ∃ k : Nat, (Utf8.decode s i).2 = k := ⟨_, rfl⟩
        rw [hr, hk] at hnx hhi
        rw [hk] at HN2 hle
        obtain ⟨hr128, hk1⟩ := hhi
        have HK2 := Lib.hid (Lib.iterAt_heap wr w1.heap.size s i (i + k) HK.out)
        have HB2 := Lib.hid (Lib.below_iterAt HB.out (k := w1.heap.size) (Nat.le_refl _) s (i + k))
        obtain ⟨W, hW⟩ : ∃ W, wr.iterAt w1.heap.size s (i + k) = W := ⟨_, rfl⟩
        rw [hW] at hnx HK2 HB2
        have HR := Lib.hid (indexRune_qc (r : Int) W (by omega))
        clear hx hW hr hk
        go_wp2_with fail
        (with_reducible refine HR.out.mono ?_)
        rintro e w2 ⟨rfl, hb2⟩
        go_wp2_with fail
        go_roundg (s.size - (i + k))
        case measure => omega
        case rel => exact ⟨i + k, by omega, Lib.hid ((hb2.block _ (Array.getElem?_eq_some_iff.1 HK2.out).1).trans HK2.out), Lib.hid (HB2.out.trans (hb2.mono HB2.out.size)), HN2⟩

theorem indexAny_all_qc (s : ByteArray) (w : World) (hs : s.size < 4294967281) : Calls Tryz.prog 145 #[.string s, .string ⟨#[34, 44]⟩] w fun e w' => e = .returned (.int .i64 (Lib.indexAny s.data.toList [34, 44])) ∧ Below w.heap.size w w' := by
  by_cases h8 : s.size ≤ 8
  · exact indexAny_qc s w h8
  · have h116 : (Tryz.prog.info? (Tryz.lays150_ren.t 116)).map (fun i => (i.zero, i.size)) = some (some (.agg (Array.replicate 256 (.bool false))), 256) := by kernel_rfl
    have h := Any.strings_IndexAny_long (ρ := Tryz.lays150_ren) { Tryz.lays150 with } (zero_of_info h116).1 (zero_of_info h116).2 s ⟨#[34, 44]⟩ w (by decide) (by omega) hs (by decide) ascii_qc
    exact h.mono fun e w' k => ⟨k.1, by rw [k.2]; exact ((Below.refl _ _).alloc (Nat.le_refl _) _).alloc (by show w.heap.size ≤ (w.heap.push _).size; simp) _⟩

/-- strings.ContainsAny of a quote or a comma, in any bytes. -/
theorem containsAny_qc (s : ByteArray) (w : World) (hs : s.size < 4294967281) : Calls Tryz.prog 127 #[.string s, .string ⟨#[34, 44]⟩] w fun e w' => e = .returned (.bool (Lib.containsAny s.data.toList [34, 44])) ∧ Below w.heap.size w w' := by
  have H := Lib.hid (indexAny_all_qc s w hs)
  have HV : Lib.containsAny s.data.toList [34, 44] = decide ((0 : Int) ≤ Lib.indexAny s.data.toList [34, 44]) := rfl
  rw [HV]
  clear HV hs
  obtain ⟨v, hv⟩ : ∃ v, v = Lib.indexAny s.data.toList [34, 44] := ⟨_, rfl⟩
  rw [← hv] at H ⊢
  go_enter Tryz.func127, Tryz.ntmps127
  go_wp2_with fail
  (with_reducible refine H.out.mono ?_)
  rintro e w1 ⟨rfl, hb⟩
  go_wp2_with fail
  go_ret
  exact ⟨by rw [hv]; rfl, hb⟩
end Go.Proofs.YtlcbhooiinaalaaGreatDoor.Cv
namespace Go.Proofs.YtlcbhooiinaalaaGreatDoor.Cv
open Go.RowKit Go.Proofs.YtlcbhooiinaalaaGreatDoor.Jd Go.Proofs.YtlcbhooiinaalaaGreatDoor.Li
set_option maxRecDepth 100000

/-- A field, written anew. -/
def qF (l : Bs) : Bs := if Lib.containsAny l [34, 44] = true then [34] ++ Lib.replaceAll l [34] [34, 34] ++ [34] else l
theorem replaceK_len (old new : Bs) : ∀ (k : Nat) (s : Bs), (Lib.replaceK old new k s).length ≤ s.length + k * new.length
  | 0, s => by rw [Lib.replaceK]; omega
  | k + 1, s => by
    rw [Lib.replaceK]
    split
    · omega
    · have := replaceK_len old new k (s.drop ((Lib.index s old).toNat + old.length))
      simp only [List.length_append, List.length_take, List.length_drop, Nat.add_mul] at this ⊢
      omega
theorem replaceAll_len (s old new : Bs) : (Lib.replaceAll s old new).length ≤ s.length + (s.length + 1) * new.length := by
  have hc := Lib.count_le s old
  unfold Lib.replaceAll Lib.replace Lib.replaceNum
  split
  · omega
  · rw [if_pos (.inl (by decide))]
    have h := replaceK_len old new (Lib.count s old) s
    have := Nat.mul_le_mul_right new.length hc
    omega
theorem qF_len (l : Bs) : (qF l).length ≤ 3 * l.length + 4 := by
  unfold qF
  have := replaceAll_len l [34] [34, 34]
  simp only [List.length_cons, List.length_nil] at this
  split
  · simp only [List.length_append, List.length_cons, List.length_nil]; omega
  · omega
set_option maxHeartbeats 2000000 in
theorem quoted_any (s : ByteArray) (w : World) (hz : s.size ≤ 4000) (_ : Pl s) (hG : Gl w) : Calls Tryz.prog 105 #[.string s] w fun e w' => e = .returned (.string ⟨(qF s.data.toList).toArray⟩) ∧ Below w.heap.size w w' := by
  have HC := Lib.hid (containsAny_qc s w (by omega))
  obtain ⟨v, hv⟩ : ∃ v, v = Lib.containsAny s.data.toList [34, 44] := ⟨_, rfl⟩
  rw [← hv] at HC
  have HV : Hid (qF s.data.toList = if v = true then [34] ++ Lib.replaceAll s.data.toList [34] [34, 34] ++ [34] else s.data.toList) := Lib.hid (by rw [hv]; rfl)
  have hR : ∀ (W : World), Gl W → Calls Tryz.prog 135 #[.string s, .string ⟨#[34]⟩, .string ⟨#[34, 34]⟩] W fun e w' => e = .returned (.string ⟨(Lib.replaceAll s.data.toList [34] [34, 34]).toArray⟩) ∧ Below W.heap.size W w' := by
    intro W hW
    obtain ⟨m, hm⟩ := hW
    have hcb := Lib.countB_le ⟨#[34]⟩ (by decide) s.size s (Nat.le_refl _)
    have h := Tryz.strings_ReplaceAll s ⟨#[34]⟩ ⟨#[34, 34]⟩ m W (by omega) hm (by decide) (by have e : (ByteArray.mk #[34, 34]).size = 2 := rfl; rw [e]; omega)
    exact h
  obtain ⟨r, hr⟩ : ∃ r, r = ByteArray.mk (Lib.replaceAll s.data.toList [34] [34, 34]).toArray := ⟨_, rfl⟩
  have hrz : r.size ≤ 12010 := by
    have := replaceAll_len s.data.toList [34] [34, 34]
    have e : r.size = (Lib.replaceAll s.data.toList [34] [34, 34]).length := by rw [hr]; rfl
    have es : s.size = s.data.toList.length := rfl
    simp only [List.length_cons, List.length_nil] at this
    omega
  have e1 : (ByteArray.mk #[34]).size = 1 := rfl
  have ha1 := fun W => run_string_add_sum (P := Tryz.prog) (w := W) ⟨#[34]⟩ r (by omega)
  have ha2 := fun W => run_string_add_sum (P := Tryz.prog) (w := W) (⟨#[34]⟩ ++ r) ⟨#[34]⟩ (by rw [ByteArray.size_append]; omega)
  rw [← hr] at hR
  have HE : Hid ((⟨#[34]⟩ ++ r) ++ ⟨#[34]⟩ = ByteArray.mk ([34] ++ Lib.replaceAll s.data.toList [34] [34, 34] ++ [34]).toArray) := Lib.hid (by rw [hr]; exact ByteArray.ext (by simp))
  clear hr hrz
  have HR := Lib.hid (fun W (hb : Below w.heap.size w W) => hR W (hG.below hb))
  clear hG hR hv
  cases v with
  | false =>
    go_enter Tryz.func105, Tryz.ntmps105
    go_wp2_with fail
    (with_reducible refine HC.out.mono ?_)
    rintro e w1 ⟨rfl, hb1⟩
    go_wp2_with fail
    go_ret
    exact ⟨by rw [HV.out]; rfl, hb1⟩
  | true =>
    go_enter Tryz.func105, Tryz.ntmps105
    go_wp2_with fail
    (with_reducible refine HC.out.mono ?_)
    rintro e w1 ⟨rfl, hb1⟩
    go_wp2_with fail
    (with_reducible refine (HR.out _ hb1).mono ?_)
    rintro e w2 ⟨rfl, hb2⟩
    have hb12 := hb1.trans (hb2.mono hb1.size)
    clear hb1 hb2
    go_wp2_with fail
    go_ret
    exact ⟨by rw [HV.out, if_pos True.intro, ← HE.out]; rfl, hb12⟩
end Go.Proofs.YtlcbhooiinaalaaGreatDoor.Cv
namespace Go.Proofs.YtlcbhooiinaalaaGreatDoor.Cv
open Go.RowKit Go.Proofs.YtlcbhooiinaalaaGreatDoor.Jd Go.Proofs.YtlcbhooiinaalaaGreatDoor.Li
set_option maxRecDepth 100000

/-- So many of a row are made. -/
def partV (vs : List Value) (z : Value) (n k : Nat) : Array Value := (vs.take k ++ List.replicate (n - k) z).toArray
theorem partV_zero (vs : List Value) (z : Value) (n : Nat) : madeCells #[z] n = partV vs z n 0 := by
  apply Array.ext
  · simp [madeCells, partV]
  · intro i h1 h2
    simp [madeCells, partV, Nat.mod_one]
theorem partV_size {vs : List Value} {z : Value} {n k : Nat} (hn : n = vs.length) (hk : k ≤ n) : (partV vs z n k).size = n := by
  unfold partV
  simp only [List.size_toArray, List.length_append, List.length_take, List.length_replicate]
  omega
theorem partV_set {vs : List Value} {z : Value} {n k : Nat} {x : Value} (hn : n = vs.length) (h : vs[k]? = some x) : (partV vs z n k).setIfInBounds k x = partV vs z n (k + 1) := by
  have hk : k < vs.length := (List.getElem?_eq_some_iff.1 h).1
  unfold partV
  rw [List.setIfInBounds_toArray]
  congr 1
  rw [List.take_add_one, h]
  obtain ⟨j, hj⟩ : ∃ j, n - k = j + 1 := ⟨n - k - 1, by omega⟩
  rw [hj, show n - (k + 1) = j by omega, List.replicate_succ]
  have hl : (vs.take k).length = k := by rw [List.length_take]; omega
  rw [List.set_append_right _ _ (by omega), hl, Nat.sub_self]
  simp
theorem partV_all {vs : List Value} {z : Value} {n : Nat} (hn : n = vs.length) : partV vs z n n = vs.toArray := by
  unfold partV
  rw [hn, List.take_length, Nat.sub_self]
  simp
/-- A new row of these. -/
def NwP (w : World) (T : TypeId) (vs : List Value) (n : Nat) (en : Ending) (w' : World) : Prop := ∃ g, en = .returned (.slice (some ⟨g, 0, none⟩) n n) ∧ w.heap.size ≤ g ∧ w'.heap[g]? = some (.cells vs.toArray T (0, 0)) ∧ Below w.heap.size w w'

set_option maxHeartbeats 4000000 in
theorem eachQ_any (ms : List ByteArray) (rs : List ByteArray) (A : Option Addr) (n c B : Nat)  (w : World) (hB : B ≤ w.heap.size) (hn : n ≤ 100000) (hl : n = rs.length) (h : SeesV w B A n (ms.map Value.string)) (hml : n = ms.length)
    (HF : ∀ (k : Nat) r, rs[k]? = some r → ∀ m, ms[k]? = some m → ∀ W, Below w.heap.size w W → Calls Tryz.prog 105 #[.string m] W fun e w' => e = .returned (.string r) ∧ Below W.heap.size W w') :
    Calls Tryz.prog 100 #[.slice A n c, .func (.func 105) #[] #[]] w (NwP w 9 (rs.map Value.string) n) := by
  obtain ⟨vs, hvs⟩ : ∃ vs, vs = rs.map Value.string := ⟨_, rfl⟩
  rw [← hvs]
  obtain ⟨i0, hi, hz0, hz1, hz2⟩ := info_parts elem_str.info
  have hmk := fun W : World => run_make_row' (P := Tryz.prog) 28 9 (.string ⟨#[]⟩) 16 Tryz.underlying28 elem_str.info rfl .i64 .i64 n (by omega) (by omega) W
  rw [partV_zero vs (.string ⟨#[]⟩) n] at hmk
  have Hl := Lib.hid (show n = vs.length by rw [hvs, List.length_map]; exact hl)
  have Hv := Lib.hid hvs
  have Hr := Lib.hid hl
  have HH := Lib.hid HF
  have Hml := Lib.hid hml
  clear HF hi hz0 hz1 hz2 hl hvs hml
  go_enter Tryz.func100, Tryz.ntmps100
  go_wp2_with fail
  go_loopw [13] (fun i wr => ∃ (k : Nat), k ≤ n ∧ i = .int .i64 k ∧ Hid (wr.heap[w.heap.size]? = some (.cells (partV vs (.string ⟨#[]⟩) n k) 9 (0, 0))) ∧ Hid (Below w.heap.size w wr)) (fun i _ => n - (intOf i).toNat)
  case atStart => exact ⟨0, Nat.zero_le _, rfl, Lib.hid (heap_alloc_new w _), Lib.hid ((Below.refl _ _).alloc (Nat.le_refl _) _)⟩
  case round =>
    obtain ⟨k, hk, rfl, HG, HW⟩ := hrel
    by_cases hlt : k < n
    · obtain ⟨r, hr⟩ : ∃ r, rs[k]? = some r := ⟨_, List.getElem?_eq_getElem (by have := Hr.out; omega)⟩
      have hy : vs[k]? = some (.string r) := by rw [Hv.out, List.getElem?_map, hr]; rfl
      obtain ⟨m, hm⟩ : ∃ m, ms[k]? = some m := ⟨_, List.getElem?_eq_getElem (by have := Hml.out; omega)⟩
      obtain ⟨b, o, rfl, hbl, hc1⟩ := h.cell k (.string m) (by rw [List.getElem?_map, hm]; rfl)
      have hc2 := (HW.out.cell (p := ⟨b, o + k, none⟩) (Nat.lt_of_lt_of_le hbl hB)).trans hc1
      have hkn : (k : Int) < (n : Int) := by omega
      have hk0 : (0 : Int) ≤ (k : Int) := by omega
      have hgl := (Array.getElem?_eq_some_iff.1 HG.out).1
      have Hlt := Lib.hid hlt
      have HPs := Lib.hid (partV_set (z := .string ⟨#[]⟩) Hl.out hy)
      have hsz : k < (partV vs (.string ⟨#[]⟩) n k).size := by rw [partV_size Hl.out hk]; exact hlt
      have Hsz := Lib.hid hsz
      have HM := Lib.hid (HH.out k r hr m hm wr HW.out)
      clear hm hc1
      clear hy hr hlt hsz
      go_wp2_with fail
      (with_reducible refine HM.out.mono ?_)
      rintro e w2 ⟨rfl, hb2⟩
      have hb12 : Below wr.heap.size wr w2 := hb2
      have hg2 : w2.heap[w.heap.size]? = some (.cells (partV vs (.string ⟨#[]⟩) n k) 9 (0, 0)) := (hb12.block _ hgl).trans HG.out
      have hcg : w2.cell? ⟨w.heap.size, k, none⟩ = some ((partV vs (.string ⟨#[]⟩) n k)[k]'Hsz.out) := by
        rw [cell_of_row _ _ _ _ _ _ hg2]
        exact Array.getElem?_eq_getElem Hsz.out
      obtain ⟨y0, hy0⟩ : ∃ y0, y0 = (partV vs (.string ⟨#[]⟩) n k)[k]'Hsz.out := ⟨_, rfl⟩
      rw [← hy0] at hcg
      have hfg : w2.frozen? ⟨w.heap.size, k, none⟩ = false := by simp [World.frozen?, hg2]
      have hg3 : (w2.setCell ⟨w.heap.size, k, none⟩ (.string r)).heap[w.heap.size]? = some (.cells (partV vs (.string ⟨#[]⟩) n (k + 1)) 9 (0, 0)) := by
        rw [heap_setCell_same w2 _ k _ _ _ hg2, HPs.out]
      have HG3 := Lib.hid hg3
      have HB3 := Lib.hid (((HW.out.trans (hb12.mono HW.out.size)).setCell (p := ⟨w.heap.size, k, none⟩) (Nat.le_refl _) (.string r)))
      clear hb2 hb12 hg2 hy0 hg3
      go_wp2_with fail
      go_roundw
      case rel => exact ⟨k + 1, Hlt.out, by go_num, HG3, HB3⟩
      case measure => have := Hlt.out; simp [intOf]; omega
    · obtain rfl : k = n := by omega
      have hg := HG.out
      rw [partV_all Hl.out] at hg
      have HG2 := Lib.hid hg
      clear hlt hg HG
      go_wp2_with fail
      go_ret
      exact ⟨w.heap.size, rfl, Nat.le_refl _, HG2.out, HW.out⟩

set_option maxHeartbeats 4000000 in
theorem eachV_any (ms : List ByteArray) (rs : List ByteArray) (A : Option Addr) (n c B : Nat) (gb : Nat) (w : World) (hB : B ≤ w.heap.size) (hn : n ≤ 100000) (hl : n = rs.length) (h : SeesV w B A n (ms.map Value.string)) (hml : n = ms.length)
    (HF : ∀ (k : Nat) r, rs[k]? = some r → ∀ m, ms[k]? = some m → ∀ W, Below w.heap.size w W → Calls Tryz.prog 101 #[.string m, .pointer (some ⟨gb, 0, none⟩)] W fun e w' => e = .returned (.string r) ∧ Below W.heap.size W w') :
    Calls Tryz.prog 100 #[.slice A n c, .func (.func 101) #[] #[.pointer (some ⟨gb, 0, none⟩)]] w (NwP w 9 (rs.map Value.string) n) := by
  obtain ⟨vs, hvs⟩ : ∃ vs, vs = rs.map Value.string := ⟨_, rfl⟩
  rw [← hvs]
  obtain ⟨i0, hi, hz0, hz1, hz2⟩ := info_parts elem_str.info
  have hmk := fun W : World => run_make_row' (P := Tryz.prog) 28 9 (.string ⟨#[]⟩) 16 Tryz.underlying28 elem_str.info rfl .i64 .i64 n (by omega) (by omega) W
  rw [partV_zero vs (.string ⟨#[]⟩) n] at hmk
  have Hl := Lib.hid (show n = vs.length by rw [hvs, List.length_map]; exact hl)
  have Hv := Lib.hid hvs
  have Hr := Lib.hid hl
  have HH := Lib.hid HF
  have Hml := Lib.hid hml
  clear HF hi hz0 hz1 hz2 hl hvs hml
  go_enter Tryz.func100, Tryz.ntmps100
  go_wp2_with fail
  go_loopw [13] (fun i wr => ∃ (k : Nat), k ≤ n ∧ i = .int .i64 k ∧ Hid (wr.heap[w.heap.size]? = some (.cells (partV vs (.string ⟨#[]⟩) n k) 9 (0, 0))) ∧ Hid (Below w.heap.size w wr)) (fun i _ => n - (intOf i).toNat)
  case atStart => exact ⟨0, Nat.zero_le _, rfl, Lib.hid (heap_alloc_new w _), Lib.hid ((Below.refl _ _).alloc (Nat.le_refl _) _)⟩
  case round =>
    obtain ⟨k, hk, rfl, HG, HW⟩ := hrel
    by_cases hlt : k < n
    · obtain ⟨r, hr⟩ : ∃ r, rs[k]? = some r := ⟨_, List.getElem?_eq_getElem (by have := Hr.out; omega)⟩
      have hy : vs[k]? = some (.string r) := by rw [Hv.out, List.getElem?_map, hr]; rfl
      obtain ⟨m, hm⟩ : ∃ m, ms[k]? = some m := ⟨_, List.getElem?_eq_getElem (by have := Hml.out; omega)⟩
      obtain ⟨b, o, rfl, hbl, hc1⟩ := h.cell k (.string m) (by rw [List.getElem?_map, hm]; rfl)
      have hc2 := (HW.out.cell (p := ⟨b, o + k, none⟩) (Nat.lt_of_lt_of_le hbl hB)).trans hc1
      have hkn : (k : Int) < (n : Int) := by omega
      have hk0 : (0 : Int) ≤ (k : Int) := by omega
      have hgl := (Array.getElem?_eq_some_iff.1 HG.out).1
      have Hlt := Lib.hid hlt
      have HPs := Lib.hid (partV_set (z := .string ⟨#[]⟩) Hl.out hy)
      have hsz : k < (partV vs (.string ⟨#[]⟩) n k).size := by rw [partV_size Hl.out hk]; exact hlt
      have Hsz := Lib.hid hsz
      have HM := Lib.hid (HH.out k r hr m hm wr HW.out)
      clear hm hc1
      clear hy hr hlt hsz
      go_wp2_with fail
      (with_reducible refine HM.out.mono ?_)
      rintro e w2 ⟨rfl, hb2⟩
      have hb12 : Below wr.heap.size wr w2 := hb2
      have hg2 : w2.heap[w.heap.size]? = some (.cells (partV vs (.string ⟨#[]⟩) n k) 9 (0, 0)) := (hb12.block _ hgl).trans HG.out
      have hcg : w2.cell? ⟨w.heap.size, k, none⟩ = some ((partV vs (.string ⟨#[]⟩) n k)[k]'Hsz.out) := by
        rw [cell_of_row _ _ _ _ _ _ hg2]
        exact Array.getElem?_eq_getElem Hsz.out
      obtain ⟨y0, hy0⟩ : ∃ y0, y0 = (partV vs (.string ⟨#[]⟩) n k)[k]'Hsz.out := ⟨_, rfl⟩
      rw [← hy0] at hcg
      have hfg : w2.frozen? ⟨w.heap.size, k, none⟩ = false := by simp [World.frozen?, hg2]
      have hg3 : (w2.setCell ⟨w.heap.size, k, none⟩ (.string r)).heap[w.heap.size]? = some (.cells (partV vs (.string ⟨#[]⟩) n (k + 1)) 9 (0, 0)) := by
        rw [heap_setCell_same w2 _ k _ _ _ hg2, HPs.out]
      have HG3 := Lib.hid hg3
      have HB3 := Lib.hid (((HW.out.trans (hb12.mono HW.out.size)).setCell (p := ⟨w.heap.size, k, none⟩) (Nat.le_refl _) (.string r)))
      clear hb2 hb12 hg2 hy0 hg3
      go_wp2_with fail
      go_roundw
      case rel => exact ⟨k + 1, Hlt.out, by go_num, HG3, HB3⟩
      case measure => have := Hlt.out; simp [intOf]; omega
    · obtain rfl : k = n := by omega
      have hg := HG.out
      rw [partV_all Hl.out] at hg
      have HG2 := Lib.hid hg
      clear hlt hg HG
      go_wp2_with fail
      go_ret
      exact ⟨w.heap.size, rfl, Nat.le_refl _, HG2.out, HW.out⟩

end Go.Proofs.YtlcbhooiinaalaaGreatDoor.Cv
namespace Go.Proofs.YtlcbhooiinaalaaGreatDoor.Cv
open Go.RowKit Go.Proofs.YtlcbhooiinaalaaGreatDoor.Jd Go.Proofs.YtlcbhooiinaalaaGreatDoor.Li
set_option maxRecDepth 100000

theorem seesV_more {w : World} {B B' n : Nat} {A : Option Addr} {vs : List Value} (h : SeesV w B A n vs) (hB : B ≤ B') : SeesV w B' A n vs :=
  ⟨h.len, fun j u hu => by
    obtain ⟨b, o, ha, hb, hc⟩ := h.cell j u hu
    exact ⟨b, o, ha, Nat.lt_of_lt_of_le hb hB, hc⟩⟩
/-- The fields of a line that means these, and was so. -/
def fieldF : List ByteArray → List Ln → List Bs
  | [], _ => []
  | m :: ms, [] => qF m.data.toList :: fieldF ms []
  | m :: ms, x :: xs => (if ((ByteArray.mk x.2.toArray).toList == m.toList) = true then x.1 else qF m.data.toList) :: fieldF ms xs
theorem fieldF_len : ∀ (ms : List ByteArray) (ws : List Ln), (fieldF ms ws).length = ms.length
  | [], _ => by simp [fieldF]
  | m :: ms, [] => by simp [fieldF, fieldF_len ms []]
  | m :: ms, x :: xs => by simp [fieldF, fieldF_len ms xs]
theorem fieldF_none : ∀ ms : List ByteArray, fieldF ms [] = ms.map fun m => qF m.data.toList
  | [] => rfl
  | m :: ms => by simp [fieldF, fieldF_none ms]
theorem fieldF_step : ∀ (ms : List ByteArray) (ws : List Ln) (k : Nat) (x : Ln) (m : ByteArray), ws[k]? = some x → ms[k]? = some m →
    fieldF ms (ws.take (k + 1)) = if ((ByteArray.mk x.2.toArray).toList == m.toList) = true then (fieldF ms (ws.take k)).set k x.1 else fieldF ms (ws.take k)
  | [], _, _, _, _, _, h => by simp at h
  | _ :: _, [], _, _, _, h, _ => by simp at h
  | m0 :: ms, x0 :: xs, 0, x, m, h1, h2 => by
    simp only [List.getElem?_cons_zero, Option.some.injEq] at h1 h2
    subst h1; subst h2
    simp only [Nat.zero_add, List.take_succ_cons, List.take_zero, fieldF]
    split <;> rfl
  | m0 :: ms, x0 :: xs, k + 1, x, m, h1, h2 => by
    simp only [List.getElem?_cons_succ] at h1 h2
    have ih := fieldF_step ms xs k x m h1 h2
    simp only [List.take_succ_cons, fieldF, ih]
    generalize (if ((ByteArray.mk x0.2.toArray).toList == m0.toList) = true then x0.1 else qF m0.data.toList) = y
    split <;> rfl

theorem fieldF_le : ∀ (ms : List ByteArray) (ws : List Ln), (∀ m ∈ ms, m.size ≤ 4000) → (∀ x ∈ ws, x.1.length ≤ 4000) → ∀ l ∈ fieldF ms ws, l.length ≤ 12004
  | [], _, _, _, l, h => by simp [fieldF] at h
  | m :: ms, [], hm, hw, l, h => by
    rw [fieldF] at h
    rcases List.mem_cons.1 h with rfl | h
    · have := qF_len m.data.toList
      have := hm m (by simp)
      have e : m.size = m.data.toList.length := rfl
      omega
    · exact fieldF_le ms [] (fun x hx => hm x (by simp [hx])) hw l h
  | m :: ms, x :: xs, hm, hw, l, h => by
    rw [fieldF] at h
    rcases List.mem_cons.1 h with rfl | h
    · have := qF_len m.data.toList
      have := hm m (by simp)
      have := hw x (by simp)
      have e : m.size = m.data.toList.length := rfl
      split <;> omega
    · exact fieldF_le ms xs (fun x hx => hm x (by simp [hx])) (fun y hy => hw y (by simp [hy])) l h
theorem join_two (sep x y : Bs) (r : List Bs) : Lib.join (x :: y :: r) sep = x ++ (sep ++ Lib.join (y :: r) sep) := by
  simp [Lib.join, List.intercalate, List.intersperse]
theorem join_len (sep : Bs) (N : Nat) : ∀ l : List Bs, (∀ x ∈ l, x.length ≤ N) → (Lib.join l sep).length ≤ l.length * (N + sep.length)
  | [], _ => by rw [Lib.join_nil]; exact Nat.zero_le _
  | [x], h => by
    have := h x (by simp)
    rw [Lib.join_one]
    simp only [List.length_cons, List.length_nil, Nat.zero_add, Nat.one_mul]
    omega
  | x :: y :: r, h => by
    have h1 := h x (by simp)
    have h2 := join_len sep N (y :: r) (fun z hz => h z (List.mem_cons_of_mem _ hz))
    rw [join_two]
    simp only [List.length_append, List.length_cons, Nat.add_mul] at h2 ⊢
    omega

set_option maxHeartbeats 4000000 in
theorem textOf_any (ms : List ByteArray) (ws : List Ln) (A Aw : Option Addr) (n c nw cw : Nat) (w : World) (h : SeesV w w.heap.size A n (ms.map Value.string)) (hw : SeesL w w.heap.size Aw nw ws) (hle : nw ≤ n) (hn : n ≤ 100000) (hz : ∀ m ∈ ms, m.size ≤ 4000 ∧ Pl m) (hwz : ∀ x ∈ ws, x.1.length ≤ 4000) (hG : Gl w) :
    Calls Tryz.prog 72 #[.slice A n c, .slice Aw nw cw] w fun e w' => e = .returned (.string ⟨(Lib.join (fieldF ms ws) [44]).toArray⟩) ∧ Below w.heap.size w w' := by
  have hml : n = ms.length := by have := h.len; rwa [List.length_map] at this
  have hwl := hw.len
  have HE := Lib.hid (eachQ_any ms (ms.map fun m => ByteArray.mk (qF m.data.toList).toArray) A n c w.heap.size w (Nat.le_refl _) hn (by rw [List.length_map]; exact hml) h hml (fun k r hr m hm W hW => by
    rw [List.getElem?_map, hm] at hr
    simp only [Option.map_some, Option.some.injEq] at hr
    subst hr
    have hq := hz m (List.mem_of_getElem? hm)
    exact quoted_any m W hq.1 hq.2 (hG.below hW)))
  have HLe := Lib.hid (join_len [44] 12004 (fieldF ms ws) (fieldF_le ms ws (fun m hm => (hz m hm).1) hwz))
  have HH := Lib.hid h
  have HW := Lib.hid hw
  have Hml := Lib.hid hml
  have Hwl := Lib.hid hwl
  clear h hw hz hwz hG hml hwl
  go_enter Tryz.func72, Tryz.ntmps72
  go_wp2_with fail
  (with_reducible refine HE.out.mono ?_)
  rintro e w1 ⟨g, rfl, hgb, hgc, hb1⟩
  have hg0 : w1.heap[g]? = some (.cells ((fieldF ms (ws.take 0)).map encs).toArray 9 (0, 0)) := by
    rw [hgc, List.take_zero, fieldF_none, List.map_map, List.map_map]; rfl
  have HG0 := Lib.hid hg0
  have HB1 := Lib.hid hb1
  clear hgc hb1 hg0
  go_wp2_with fail
  go_loopw [12] (fun i wr => ∃ (k : Nat), k ≤ nw ∧ i = .int .i64 k ∧ Hid (wr.heap[g]? = some (.cells ((fieldF ms (ws.take k)).map encs).toArray 9 (0, 0))) ∧ Hid (Below w.heap.size w wr)) (fun i _ => nw - (intOf i).toNat)
  case atStart => exact ⟨0, Nat.zero_le _, rfl, HG0, HB1⟩
  case round =>
    obtain ⟨k, hk, rfl, HG, HB⟩ := hrel
    by_cases hlt : k < nw
    · obtain ⟨x, hx⟩ : ∃ x, ws[k]? = some x := ⟨_, List.getElem?_eq_getElem (by have := Hwl.out; omega)⟩
      obtain ⟨m, hm⟩ : ∃ m, ms[k]? = some m := ⟨_, List.getElem?_eq_getElem (by have := Hml.out; omega)⟩
      obtain ⟨b, o, rfl, hbl, hc1, hc2⟩ := (HW.out.below HB.out).at_ hx
      obtain ⟨b', o', rfl, hbl', hc3⟩ := HH.out.cell k (.string m) (by rw [List.getElem?_map, hm]; rfl)
      have hc4 := (HB.out.cell (p := ⟨b', o' + k, none⟩) hbl').trans hc3
      have hc5 := fun oo : Obj => (((Below.refl wr.heap.size wr).alloc (Nat.le_refl _) oo).cell (p := ⟨b', o' + k, none⟩) (Nat.lt_of_lt_of_le hbl' HB.out.size)).trans hc4
      obtain ⟨x1, hx1⟩ : ∃ x1 : ByteArray, encs x.1 = .string x1 := ⟨_, rfl⟩
      obtain ⟨x2, hx2⟩ : ∃ x2 : ByteArray, encs x.2 = .string x2 := ⟨_, rfl⟩
      rw [hx1] at hc1
      rw [hx2] at hc2
      have hst := fieldF_step ms ws k x m hx hm
      have hx2' : ByteArray.mk x.2.toArray = x2 := by injection hx2
      rw [hx2'] at hst
      obtain ⟨u, hu⟩ : ∃ u, u = (x2.toList == m.toList) := ⟨_, rfl⟩
      rw [← hu] at hst
      have hu' : (x2.toList == m.toList) = u := hu.symm
      have hkn : (k : Int) < (nw : Int) := by omega
      have hkm : (k : Int) < (n : Int) := by omega
      have hk0 : (0 : Int) ≤ (k : Int) := by omega
      have hgl := (Array.getElem?_eq_some_iff.1 HG.out).1
      have Hlt := Lib.hid hlt
      have HSt := Lib.hid hst
      have hg1 := fun oo : Obj => (((Below.refl wr.heap.size wr).alloc (Nat.le_refl _) oo).block g hgl).trans HG.out
      have hb1 := fun oo : Obj => (HB.out.alloc (HB.out.size) oo)
      have HG1 := Lib.hid hg1
      have HB2 := Lib.hid hb1
      have Hx1 := Lib.hid hx1
      clear hlt hst hx2' hx hm hu hx1 hx2 hc3 hg1 hb1
      cases u with
      | true =>
        have hkf : k < (fieldF ms (ws.take k)).length := by rw [fieldF_len, ← Hml.out]; omega
        have hcg : ∃ y, ∀ oo : Obj, (wr.alloc oo).cell? ⟨g, k, none⟩ = some y := ⟨encs ((fieldF ms (ws.take k))[k]'hkf), fun oo => by
          rw [cell_of_row _ _ _ _ _ _ (HG1.out oo)]
          simp [hkf]⟩
        obtain ⟨y, hcg⟩ := hcg
        have hfg : ∀ oo : Obj, (wr.alloc oo).frozen? ⟨g, k, none⟩ = false := fun oo => by simp [World.frozen?, HG1.out oo]
        have hg2 : (wr.setCell ⟨g, k, none⟩ (.string x1)).heap[g]? = some (.cells ((fieldF ms (ws.take (k + 1))).map encs).toArray 9 (0, 0)) := by
          rw [heap_setCell_same _ g k _ _ _ HG.out, HSt.out, if_pos rfl, ← Hx1.out, List.map_set]
          simp
        have hg3 := fun oo : Obj => (((Below.refl (wr.setCell ⟨g, k, none⟩ (.string x1)).heap.size (wr.setCell ⟨g, k, none⟩ (.string x1))).alloc (Nat.le_refl _) oo).drew.block g (Array.getElem?_eq_some_iff.1 hg2).1).trans hg2
        have hb3 := HB.out.setCell (p := ⟨g, k, none⟩) hgb (.string x1)
        have HG3 := Lib.hid hg3
        have HB3 := Lib.hid (fun oo : Obj => (hb3.alloc hb3.size oo).drew)
        clear hg2 hb3
        clear hg3
        go_wp2_with fail
        go_region_with (fail)
        all_goals
          go_wp2_with fail
          go_roundw
          case rel => exact ⟨k + 1, Hlt.out, by go_num, Lib.hid (HG3.out _), Lib.hid (HB3.out _)⟩
          case measure => have := Hlt.out; simp [intOf]; omega
      | false =>
        go_wp2_with fail
        go_region_with (fail)
        all_goals
          go_wp2_with fail
          go_roundw
          case rel => exact ⟨k + 1, Hlt.out, by go_num, Lib.hid (by rw [HSt.out, if_neg (by simp)]; exact HG1.out _), Lib.hid (HB2.out _).drew⟩
          case measure => have := Hlt.out; simp [intOf]; omega
    · obtain rfl : k = nw := by omega
      have hfl : n = (fieldF ms ws).length := by rw [fieldF_len]; exact Hml.out
      have hg := HG.out
      rw [List.take_of_length_le (by have := Hwl.out; omega)] at hg
      have hjl : (Lib.join (fieldF ms ws) [44]).length ≤ 140737488355328 := by
        have := HLe.out
        rw [← hfl] at this
        have h2 : n * (12004 + ([44] : Bs).length) ≤ 100000 * 12005 := Nat.mul_le_mul hn (by simp)
        omega
      have HJ := Tryz.strings_Join g 0 n ((fieldF ms ws).map fun l => ByteArray.mk l.toArray) ⟨#[44]⟩ wr (fun j x hx => by
        rw [cell_of_row _ _ _ _ _ _ hg]
        rw [List.getElem?_map] at hx
        cases hf : (fieldF ms ws)[j]? with
        | none => rw [hf] at hx; cases hx
        | some l =>
          rw [hf] at hx
          simp only [Option.map_some, Option.some.injEq] at hx
          subst hx
          simp [hf, encs]) (Array.getElem?_eq_some_iff.1 hg).1
      rw [List.length_map, ← hfl, List.map_map, show ((fun x : ByteArray => x.data.toList) ∘ fun l : Bs => ByteArray.mk l.toArray) = id from funext fun l => by simp, List.map_id] at HJ
      have HJ2 := Lib.hid (HJ (by omega) (Nat.le_refl _) hjl)
      clear HJ hjl hg hfl hlt
      go_wp2_with fail
      (with_reducible refine HJ2.out.mono ?_)
      rintro e w2 ⟨rfl, hb2⟩
      go_wp2_with fail
      go_ret
      exact ⟨rfl, HB.out.trans (hb2.mono HB.out.size)⟩
end Go.Proofs.YtlcbhooiinaalaaGreatDoor.Cv
namespace Go.Proofs.YtlcbhooiinaalaaGreatDoor.Cv
open Go.RowKit Go.Proofs.YtlcbhooiinaalaaGreatDoor.Jd Go.Proofs.YtlcbhooiinaalaaGreatDoor.Li
set_option maxRecDepth 100000

/-- The line of a row that now means these. -/
def sayF (ms : List ByteArray) (r : Rw) : Ln := (Lib.join (fieldF ms r.fs) [44], r.en.data.toList)

set_option maxHeartbeats 4000000 in
theorem saying_any (ms : List ByteArray) (r : Rw) (A Aw : Option Addr) (n c nw cw : Nat) (w : World) (h : SeesV w w.heap.size A n (ms.map Value.string)) (hw : SeesL w w.heap.size Aw nw r.fs) (hle : nw ≤ n) (hn : n ≤ 100000) (hz : ∀ m ∈ ms, m.size ≤ 4000 ∧ Pl m) (hwz : ∀ x ∈ r.fs, x.1.length ≤ 4000) (hG : Gl w) :
    Calls Tryz.prog 66 #[.agg #[.slice Aw nw cw, .string r.en], .slice A n c] w fun e w' => e = .returned (.agg #[encs (sayF ms r).1, encs (sayF ms r).2]) ∧ Below w.heap.size w w' := by
  have HT := Lib.hid (fun (W : World) (hW : Below w.heap.size w W) => textOf_any ms r.fs A Aw n c nw cw W (seesV_more (h.below hW) hW.size) ((hw.below hW).more hW.size) hle hn hz hwz (hG.below hW))
  clear h hw hz hwz hG
  have he : encs (sayF ms r).2 = .string r.en := by simp [sayF, encs]
  have He := Lib.hid he
  clear he
  go_enter Tryz.func66, Tryz.ntmps66
  go_wp2_with fail
  have hq0 : Below w.heap.size w ((w.alloc (Obj.cells #[.slice Aw nw cw, .string r.en] 62)).alloc (Obj.cells #[.string ⟨#[]⟩, .string ⟨#[]⟩] 88)).drew := (((Below.refl _ _).alloc (Nat.le_refl _) _).alloc (by simp) _).drew
  have hg : ((w.alloc (Obj.cells #[.slice Aw nw cw, .string r.en] 62)).alloc (Obj.cells #[.string ⟨#[]⟩, .string ⟨#[]⟩] 88)).heap[w.heap.size]? = some (Obj.cells #[.slice Aw nw cw, .string r.en] 62) := (((Below.refl _ _).alloc (Nat.le_refl _) _).block w.heap.size (by simp)).trans (heap_alloc_new w _)
  have hr : ((w.alloc (Obj.cells #[.slice Aw nw cw, .string r.en] 62)).alloc (Obj.cells #[.string ⟨#[]⟩, .string ⟨#[]⟩] 88)).heap[w.heap.size + 1]? = some (Obj.cells #[.string ⟨#[]⟩, .string ⟨#[]⟩] 88) := by
    have := heap_alloc_new (w.alloc (Obj.cells #[.slice Aw nw cw, .string r.en] 62)) (Obj.cells #[.string ⟨#[]⟩, .string ⟨#[]⟩] 88)
    simpa using this
  have hs : ((w.alloc (Obj.cells #[.slice Aw nw cw, .string r.en] 62)).alloc (Obj.cells #[.string ⟨#[]⟩, .string ⟨#[]⟩] 88)).drew.heap.size = w.heap.size + 2 := by simp
  have HQ := Lib.hid hq0
  have HX := Lib.hid (fun (W : World) (hW : Below ((w.alloc (Obj.cells #[.slice Aw nw cw, .string r.en] 62)).alloc (Obj.cells #[.string ⟨#[]⟩, .string ⟨#[]⟩] 88)).drew.heap.size ((w.alloc (Obj.cells #[.slice Aw nw cw, .string r.en] 62)).alloc (Obj.cells #[.string ⟨#[]⟩, .string ⟨#[]⟩] 88)).drew W) =>
    And.intro ((hW.block w.heap.size (by omega)).trans hg) ((hW.block (w.heap.size + 1) (by omega)).trans hr))
  clear hg hr hs hq0
  go_region_with
    (first
    | (go_at_call 72; (with_reducible refine (HT.out _ HQ.out).mono ?_); rintro e v1 ⟨rfl, hb1⟩; have hx := HX.out _ hb1; go_must (have c0 := cell_of_row v1 w.heap.size 0 _ _ _ hx.1); go_must (have c1 := cell_of_row v1 w.heap.size 1 _ _ _ hx.1); go_must (have d0 := cell_of_row v1 (w.heap.size + 1) 0 _ _ _ hx.2); go_must (have z0 : v1.frozen? ⟨w.heap.size + 1, 0, none⟩ = false := by simp [World.frozen?, hx.2]); go_must (have d1 := cell_of_row v1 (w.heap.size + 1) 1 _ _ _ hx.2); go_must (have z1 : v1.frozen? ⟨w.heap.size + 1, 1, none⟩ = false := by simp [World.frozen?, hx.2])))
  all_goals
    have hx := HX.out _ hb1
    have hset : ((v1.setCell ⟨w.heap.size + 1, 0, none⟩ (.string ⟨(Lib.join (fieldF ms r.fs) [44]).toArray⟩)).setCell ⟨w.heap.size + 1, 1, none⟩ (.string r.en)).heap[w.heap.size + 1]? = some (Obj.cells #[.string ⟨(Lib.join (fieldF ms r.fs) [44]).toArray⟩, .string r.en] 88) := by
      rw [heap_setCell_same _ (w.heap.size + 1) 1 _ _ _ (heap_setCell_same v1 (w.heap.size + 1) 0 _ _ _ hx.2)]
      rfl
    have k0 := cell_of_row _ (w.heap.size + 1) 0 _ _ _ hset
    have k1 := cell_of_row _ (w.heap.size + 1) 1 _ _ _ hset
    have HB := Lib.hid (((HQ.out.trans (hb1.mono HQ.out.size)).setCell (p := ⟨w.heap.size + 1, 0, none⟩) (Nat.le_succ _) (.string ⟨(Lib.join (fieldF ms r.fs) [44]).toArray⟩)).setCell (p := ⟨w.heap.size + 1, 1, none⟩) (Nat.le_succ _) (.string r.en))
    clear hx hb1 hset
    go_wp2_with fail
    refine bodyPost_ret (v := .agg #[.string ⟨(Lib.join (fieldF ms r.fs) [44]).toArray⟩, .string r.en]) (by simp [results, Tryz.results66, go_sem, k0, k1]) rfl ?_
    exact ⟨by rw [He.out]; rfl, HB.out⟩
end Go.Proofs.YtlcbhooiinaalaaGreatDoor.Cv
