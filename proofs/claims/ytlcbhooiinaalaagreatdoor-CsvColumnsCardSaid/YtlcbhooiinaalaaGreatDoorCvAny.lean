/- strings.IndexAny of a line's end in a text of any bytes, eight at most: where the first one stands, or there is none. -/
import Derived.Test.YtlcbhooiinaalaaGreatDoorMwChkP
import Derived.Lib.OthersKept
import Derived.Lib.IndexAny
import Derived.Shelf.Strings.IndexAnyAll
namespace Go.Proofs.YtlcbhooiinaalaaGreatDoor.Cv
open Go.RowKit Go.Lib
set_option maxRecDepth 100000

theorem decode_skip (s : ByteArray) (pos j : Nat) (h1 : pos < j) (h2 : j < pos + (Utf8.decode s pos).2) : j < s.size ∧ 128 ≤ (s.get! j).toNat := by
  have hw : (Utf8.decode s pos).2 ≤ 4 ∧ (2 ≤ (Utf8.decode s pos).2 → pos + 1 < s.size ∧ (s.get! (pos + 1)).toNat / 64 = 2) ∧ (3 ≤ (Utf8.decode s pos).2 → pos + 2 < s.size ∧ (s.get! (pos + 2)).toNat / 64 = 2) ∧ (4 ≤ (Utf8.decode s pos).2 → pos + 3 < s.size ∧ (s.get! (pos + 3)).toNat / 64 = 2) := by
    simp only [Utf8.decode]
    repeat' split
    all_goals simp_all
  obtain ⟨k4, k1, k2, k3⟩ := hw
  have hj : j = pos + 1 ∨ j = pos + 2 ∨ j = pos + 3 := by omega
  rcases hj with rfl | rfl | rfl
  · obtain ⟨a, b⟩ := k1 (by omega); exact ⟨a, by omega⟩
  · obtain ⟨a, b⟩ := k2 (by omega); exact ⟨a, by omega⟩
  · obtain ⟨a, b⟩ := k3 (by omega); exact ⟨a, by omega⟩
theorem nr_high {b : UInt8} (h : 128 ≤ b.toNat) : ([10, 13] : List UInt8).contains b = false := by
  rw [Bool.eq_false_iff]
  intro hc
  simp at hc
  rcases hc with rfl | rfl <;> simp at h
theorem noAny_jump {s : ByteArray} {i : Nat} (h : NoAny s.data.toList [10, 13] i) (hi : i < s.size) (hx : 128 ≤ (s[i]'hi).toNat) : NoAny s.data.toList [10, 13] (i + (Utf8.decode s i).2) := by
  intro j b hj hb
  rcases Nat.lt_trichotomy j i with hl | rfl | hg
  · exact h j b hl hb
  · have := Lib.data_getElem? s j hi
    rw [this] at hb; cases hb
    exact nr_high hx
  · obtain ⟨hs, hh⟩ := decode_skip s i j hg hj
    have := Lib.data_getElem? s j hs
    rw [this] at hb; cases hb
    refine nr_high ?_
    have e : s.get! j = s[j]'hs := by simp [ByteArray.get!, getElem!_pos, hs]; rfl
    rwa [e] at hh

set_option maxHeartbeats 1000000 in
theorem indexAny_nr (s : ByteArray) (w : World) (h8 : s.size ≤ 8) : Calls Tryz.prog 145 #[.string s, .string ⟨#[10, 13]⟩] w fun e w' => e = .returned (.int .i64 (Lib.indexAny s.data.toList [10, 13])) ∧ Below w.heap.size w w' := by
  have HU : Hid (∀ W, Calls Tryz.prog 173 #[.int .i64 s.size] W fun e w' => e = .returned (.bool (decide ((8 : Int) < (s.size : Int)))) ∧ w' = W) := Lib.hid fun W => Any.strings_shouldUseASCIISet (ρ := Tryz.lays150_ren) { Tryz.lays150 with } s.size W
  have h8z : decide ((8 : Int) < (s.size : Int)) = false := decide_eq_false (by omega)
  rw [h8z] at HU
  go_enter Tryz.func145, Tryz.ntmps145
  go_wp2_with fail
  (with_reducible refine (HU.out _).mono ?_)
  rintro e w1 ⟨rfl, rfl⟩
  go_wp2_with fail
  go_loopg [9, 10] s.size (fun g _ _ wx => ∃ i : Nat, i + g = s.size ∧ Hid (wx.heap[w1.heap.size]? = some (.stringIter s i)) ∧ Hid (Below w1.heap.size w1 wx) ∧ Hid (NoAny s.data.toList [10, 13] i))
  case atStart => exact ⟨0, by omega, Lib.hid (World.iter_heap w1 s 0), Lib.hid ((Below.refl _ _).alloc (Nat.le_refl _) _), Lib.hid (NoAny.zero _ _)⟩
  case round =>
    obtain ⟨i, hig, HK, HB, HN⟩ := hrel
    cases gk with
    | zero =>
      obtain rfl : i = s.size := by omega
      have hnx := fun ty => run_next_end_at (P := Tryz.prog) wr w1.heap.size s s.size ty HK.out (by omega)
      go_wp2_with fail
      go_ret
      exact ⟨by rw [Lib.indexAny_none (by rw [← Lib.size_eq]; exact HN.out)]; rfl, HB.out⟩
    | succ g =>
      have hi : i < s.size := by omega
      obtain ⟨x, hx⟩ : ∃ x : UInt8, s[i]'hi = x := ⟨_, rfl⟩
      have Hx : Hid (s.data.toList[i]? = some x) := Lib.hid (by rw [← hx]; exact Lib.data_getElem? s i hi)
      by_cases hlt : x.toNat < 128
      · have hnx := fun ty => run_next_ascii_at (P := Tryz.prog) wr w1.heap.size s i ty HK.out hi (by rw [hx]; exact hlt)
        rw [hx] at hnx
        have HK2 := Lib.hid (Lib.iterAt_heap wr w1.heap.size s i (i + 1) HK.out)
        have HB2 := Lib.hid (Lib.below_iterAt HB.out (k := w1.heap.size) (Nat.le_refl _) s (i + 1))
        obtain ⟨W, hW⟩ : ∃ W, wr.iterAt w1.heap.size s (i + 1) = W := ⟨_, rfl⟩
        rw [hW] at hnx HK2 HB2
        have HR : Hid (Calls Tryz.prog 172 #[.string ⟨#[10, 13]⟩, .int .i32 x.toNat] W fun e w' => e = .returned (.int .i64 (Lib.indexByte [10, 13] x)) ∧ w' = W) := Lib.hid (by
          have h := Any.strings_IndexRune_ascii (ρ := Tryz.lays150_ren) { Tryz.lays150 with } ⟨#[10, 13]⟩ x.toNat W (by omega) (by omega)
          have hb : ((x.toNat : Int)).toNat.toUInt8 = x := by simp
          rw [hb] at h; exact h)
        have hcon := Lib.contains_iff_indexByte [10, 13] x
        clear hx hW
        cases hin : ([10, 13] : List UInt8).contains x
        · rw [hin] at hcon
          have hge : ¬ ((0 : Int) ≤ Lib.indexByte [10, 13] x) := of_decide_eq_false hcon.symm
          clear hcon
          go_wp2_with fail
          (with_reducible refine HR.out.mono ?_)
          rintro e w2 ⟨rfl, rfl⟩
          go_wp2_with fail
          go_roundg g
          case measure => omega
          case rel => exact ⟨i + 1, by omega, HK2, HB2, Lib.hid (HN.out.succ Hx.out hin)⟩
        · rw [hin] at hcon
          have hge : (0 : Int) ≤ Lib.indexByte [10, 13] x := of_decide_eq_true hcon.symm
          clear hcon
          go_wp2_with fail
          (with_reducible refine HR.out.mono ?_)
          rintro e w2 ⟨rfl, rfl⟩
          go_wp2_with fail
          go_ret
          exact ⟨by rw [Lib.indexAny_hit HN.out Hx.out hin]; rfl, HB2.out⟩
      · have hnx := fun ty => run_next_any_at (P := Tryz.prog) wr w1.heap.size s i ty HK.out hi
        have hhi := decode_high s i hi (by rw [hx]; omega)
        have HN2 := Lib.hid (noAny_jump HN.out hi (by rw [hx]; omega))
        have hle : i + (Utf8.decode s i).2 ≤ s.size := by
          by_cases h1 : (Utf8.decode s i).2 = 1
          · omega
          · have := (decode_skip s i (i + (Utf8.decode s i).2 - 1) (by omega) (by omega)).1; omega
        obtain ⟨r, hr⟩ : ∃ r : Nat, (Utf8.decode s i).1 = r := ⟨_, rfl⟩
        obtain ⟨k, hk⟩ : ∃ k : Nat, (Utf8.decode s i).2 = k := ⟨_, rfl⟩
        rw [hr, hk] at hnx hhi
        rw [hk] at HN2 hle
        obtain ⟨hr128, hk1⟩ := hhi
        have HK2 := Lib.hid (Lib.iterAt_heap wr w1.heap.size s i (i + k) HK.out)
        have HB2 := Lib.hid (Lib.below_iterAt HB.out (k := w1.heap.size) (Nat.le_refl _) s (i + k))
        obtain ⟨W, hW⟩ : ∃ W, wr.iterAt w1.heap.size s (i + k) = W := ⟨_, rfl⟩
        rw [hW] at hnx HK2 HB2
        have HR := Lib.hid (indexRune_nr (r : Int) W (by omega))
        clear hx hW hr hk
        go_wp2_with fail
        (with_reducible refine HR.out.mono ?_)
        rintro e w2 ⟨rfl, hb2⟩
        go_wp2_with fail
        go_roundg (s.size - (i + k))
        case measure => omega
        case rel => exact ⟨i + k, by omega, Lib.hid ((hb2.block _ (Array.getElem?_eq_some_iff.1 HK2.out).1).trans HK2.out), Lib.hid (HB2.out.trans (hb2.mono HB2.out.size)), HN2⟩

theorem indexAny_all (s : ByteArray) (w : World) (hs : s.size < 4294967281) : Calls Tryz.prog 145 #[.string s, .string ⟨#[10, 13]⟩] w fun e w' => e = .returned (.int .i64 (Lib.indexAny s.data.toList [10, 13])) ∧ Below w.heap.size w w' := by
  by_cases h8 : s.size ≤ 8
  · exact indexAny_nr s w h8
  · have h116 : (Tryz.prog.info? (Tryz.lays150_ren.t 116)).map (fun i => (i.zero, i.size)) = some (some (.agg (Array.replicate 256 (.bool false))), 256) := by kernel_rfl
    have h := Any.strings_IndexAny_long (ρ := Tryz.lays150_ren) { Tryz.lays150 with } (zero_of_info h116).1 (zero_of_info h116).2 s ⟨#[10, 13]⟩ w (by decide) (by omega) hs (by decide) ascii_nl
    exact h.mono fun e w' k => ⟨k.1, by rw [k.2]; exact ((Below.refl _ _).alloc (Nat.le_refl _) _).alloc (by show w.heap.size ≤ (w.heap.push _).size; simp) _⟩

/-- strings.ContainsAny of a line's end, in any bytes. -/
theorem containsAny_nr (s : ByteArray) (w : World) (hs : s.size < 4294967281) : Calls Tryz.prog 127 #[.string s, .string ⟨#[10, 13]⟩] w fun e w' => e = .returned (.bool (Lib.containsAny s.data.toList [10, 13])) ∧ Below w.heap.size w w' := by
  have H := Lib.hid (indexAny_all s w hs)
  have HV : Lib.containsAny s.data.toList [10, 13] = decide ((0 : Int) ≤ Lib.indexAny s.data.toList [10, 13]) := rfl
  rw [HV]
  clear HV hs
  obtain ⟨v, hv⟩ : ∃ v, v = Lib.indexAny s.data.toList [10, 13] := ⟨_, rfl⟩
  rw [← hv] at H ⊢
  go_enter Tryz.func127, Tryz.ntmps127
  go_wp2_with fail
  (with_reducible refine H.out.mono ?_)
  rintro e w1 ⟨rfl, hb⟩
  go_wp2_with fail
  go_ret
  exact ⟨by rw [hv]; rfl, hb⟩
end Go.Proofs.YtlcbhooiinaalaaGreatDoor.Cv
