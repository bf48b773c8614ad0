/- report's quoted and Path; the reference's Path. Conditions: names of at most 2^28 bytes together. -/
import Derived.Test.YtclgemkdlgpekaaReStrs
import Derived.Test.YtclgemkdlgpekaaReWithin
import Derived.Test.YtclgemkdlgpekaaText
import Derived.Test.YtclgemkdlgpekaaLiBuild
import Derived.Test.YtclgemkdlgpekaaRQuote
namespace Go.Proofs.Ytclgemkdlgpekaa.Re
open Go.RowKit Go.Proofs.Ytclgemkdlgpekaa.Li
set_option maxRecDepth 100000

abbrev mkB (l : Bs) : ByteArray := ⟨l.toArray⟩
theorem trim_quo (q : Bs) : Lib.trimSuffix (Lib.trimPrefix (123 :: (q ++ [58, 32, 123, 125, 125])) [123]) [58, 32, 123, 125, 125] = q := by
  have e1 : Lib.trimPrefix (123 :: (q ++ [58, 32, 123, 125, 125])) [123] = q ++ [58, 32, 123, 125, 125] := by
    unfold Lib.trimPrefix Lib.hasPrefix
    rw [if_pos (by simp [List.isPrefixOf])]
    rfl
  rw [e1]
  unfold Lib.trimSuffix Lib.hasSuffix
  rw [if_pos (by rw [List.isSuffixOf_iff_suffix]; exact List.suffix_append _ _)]
  simp
theorem text_leaf (s : ByteArray) : (Tr.cons s .nil .nil).text = 123 :: (quo s.data.toList ++ [58, 32, 123, 125, 125]) := by
  simp [Tr.text, Tr.body]

set_option maxHeartbeats 1000000 in
theorem quoted_any (s : ByteArray) (w : World) (hs : s.size ≤ 1073741824) :
    Calls Try.prog 21 #[.string s] w fun e w' => e = .returned (.string (mkB (quo s.data.toList))) ∧ Below w.heap.size w w' := by
  obtain ⟨W1, hW1⟩ : ∃ W, W = w.alloc (Obj.cells #[.string s, .slice none 0 0] 65) := ⟨_, rfl⟩
  have hb1 : Below w.heap.size w W1 := by rw [hW1]; exact (Below.refl _ _).alloc (Nat.le_refl _) _
  have hh : W1.heap[w.heap.size]? = some (Obj.cells #[.string s, .slice none 0 0] 65) := by rw [hW1]; exact heap_alloc_new w _
  have hl : Holds W1 W1.heap.size (some ⟨w.heap.size, 0, none⟩) 1 (.cons s .nil .nil) :=
    Holds.leaf (n := 0) (Array.getElem?_eq_some_iff.1 hh).1 (by rw [cell_of_row _ _ _ _ _ _ hh]; rfl) (by rw [cell_of_row _ _ _ _ _ _ hh]; rfl) rfl
  have HT := Lib.hid (text_any (some ⟨w.heap.size, 0, none⟩) 1 (.cons s .nil .nil) W1 hl (Nat.le_refl _) (by simp [maxLen]) (by simp [Tr.size]) (by simp only [Tr.bulk]; omega))
  rw [text_leaf] at HT
  have hql := quo_len s
  obtain ⟨X, hX⟩ : ∃ X : ByteArray, X = mkB (123 :: (quo s.data.toList ++ [58, 32, 123, 125, 125])) := ⟨_, rfl⟩
  have HT2 : Hid (Calls Try.prog 27 #[.slice (some ⟨w.heap.size, 0, none⟩) 1 1] W1 fun e w' => e = .returned (.string X) ∧ Below W1.heap.size W1 w') := by rw [hX]; exact HT
  obtain ⟨Y, hY⟩ : ∃ Y : ByteArray, Y = mkB (Lib.trimPrefix X.data.toList [123]) := ⟨_, rfl⟩
  have HP := Lib.hid (fun W => Try.strings_TrimPrefix X ⟨#[123]⟩ W)
  have hYs : Y.size ≤ 9223372036854775807 := by
    rw [hY, hX]
    show (Lib.trimPrefix (123 :: (quo s.data.toList ++ [58, 32, 123, 125, 125])) [123]).toArray.size ≤ _
    rw [List.size_toArray]
    unfold Lib.trimPrefix
    split
    · simp only [List.length_drop, List.length_cons, List.length_append, List.length_nil]; omega
    · simp only [List.length_cons, List.length_append, List.length_nil]; omega
  have HS := Lib.hid (fun W => Try.strings_TrimSuffix Y ⟨#[58, 32, 123, 125, 125]⟩ W hYs)
  have HY : Hid (∀ W, Calls Try.prog 29 #[.string X, .string ⟨#[123]⟩] W fun e w' => e = .returned (.string Y) ∧ w' = W) := by rw [hY]; exact HP
  have HZ : Hid (∀ W, Calls Try.prog 28 #[.string Y, .string ⟨#[58, 32, 123, 125, 125]⟩] W fun e w' => e = .returned (.string (mkB (quo s.data.toList))) ∧ w' = W) := by
    have e : Lib.trimSuffix Y.data.toList [58, 32, 123, 125, 125] = quo s.data.toList := by
      rw [hY, hX]
      exact trim_quo _
    have := HS.out
    refine Lib.hid fun W => ?_
    have h := this W
    rw [e] at h
    exact h
  have HB1 := Lib.hid hb1
  clear hb1 hh hl hql hX hY hYs HT HP HS
  go_enter Try.func21, Try.ntmps21
  go_wp2_with fail
  rw [← hW1]
  (with_reducible refine HT2.out.mono ?_)
  rintro e w2 ⟨rfl, hb2⟩
  have HB2 := Lib.hid (HB1.out.trans (hb2.mono HB1.out.size))
  clear hb2
  go_wp2_with fail
  (with_reducible refine (HY.out _).mono ?_)
  rintro e _ ⟨rfl, rfl⟩
  go_wp2_with fail
  (with_reducible refine (HZ.out _).mono ?_)
  rintro e _ ⟨rfl, rfl⟩
  go_wp2_with fail
  go_ret
  exact ⟨rfl, HB2.out⟩

theorem strs_at {w : World} {B n j : Nat} {A : Option Addr} {p : List ByteArray} (h : SeesV w B A n (p.map Value.string)) (hj : j < n) : ∃ (s : ByteArray) (b o : Nat), p[j]? = some s ∧ A = some ⟨b, o, none⟩ ∧ b < B ∧ w.cell? ⟨b, o + j, none⟩ = some (.string s) := by
  have hl : j < p.length := by rw [h.len, List.length_map] at hj; exact hj
  obtain ⟨b, o, e, hb, hc⟩ := h.cell j (.string p[j]) (by rw [List.getElem?_map, List.getElem?_eq_getElem hl]; rfl)
  exact ⟨p[j], b, o, List.getElem?_eq_getElem hl, e, hb, hc⟩
theorem path_step {p : List ByteArray} {k : Nat} {s : ByteArray} (h : p[k]? = some s) : pathT (p.take (k + 1)) = pathT (p.take k) ++ 47 :: quo s.data.toList ∧ bulk (p.take k) + s.size + 1 ≤ bulk p := by
  obtain ⟨hk, e⟩ := List.getElem?_eq_some_iff.1 h
  refine ⟨by rw [List.take_succ_eq_append_getElem hk, pathT_snoc, e], ?_⟩
  have := bulk_take hk
  have := bulk_take_le p (k + 1)
  rw [e] at *
  omega

set_option maxHeartbeats 4000000 in
theorem path_any (p : List ByteArray) (A : Option Addr) (n c B : Nat) (w : World) (hB : B ≤ w.heap.size) (h : SeesV w B A n (p.map Value.string)) (hz : bulk p ≤ 268435456) :
    Calls Try.prog 10 #[.slice A n c] w fun e w' => e = .returned (.string (mkB (pathL p))) ∧ Below w.heap.size w w' := by
  have hlen := h.len
  rw [List.length_map] at hlen
  have hlb := len_bulk p
  by_cases hn : n = 0
  · subst hn
    have hp : p = [] := List.eq_nil_of_length_eq_zero hlen.symm
    subst hp
    clear h hlen hlb hz
    go_enter Try.func10, Try.ntmps10
    go_wp2_with fail
    go_ret
    exact ⟨rfl, Below.refl _ _⟩
  · have hn0 : ¬ ((n : Int) = 0) := by omega
    have hpne : p ≠ [] := by
      rintro rfl
      exact hn hlen
    have hnb : n ≤ 268435456 := by omega
    have HL := Lib.hid hlen
    have HN := Lib.hid hpne
    clear hlen hlb hpne
    go_enter Try.func10, Try.ntmps10
    go_wp2_with fail
    generalize ((n : Int) == 0) = bz
    go_loopw [11] (fun i wr => ∃ k : Nat, k ≤ n ∧ i = .int .i64 k ∧ Bld w.heap.size w.heap.size (pathT (p.take k)) wr ∧ Below w.heap.size w wr) (fun i _ => n - (intOf i).toNat)
    case atStart => exact ⟨0, Nat.zero_le _, rfl, Lib.fresh_isBuilder 48 5 w, (Below.refl _ _).alloc (Nat.le_refl _) _⟩
    case round =>
      obtain ⟨k, hk, rfl, hb, hw⟩ := hrel
      have hw1 := hw.size
      by_cases hlt : k < n
      · have q0 : (k : Int) < (n : Int) := by omega
        have q1 : (0 : Int) ≤ (k : Int) := by omega
        obtain ⟨s, b, o, hs, rfl, hbB, hc⟩ := strs_at (h.keep (w' := wr) (fun a ha => hw.cell (Nat.lt_of_lt_of_le ha hB))) hlt
        obtain ⟨hst, hsz⟩ := path_step hs
        have hpl := pathT_len (p.take k)
        have hql := quo_len s
        have HQ := Lib.hid (quoted_any s wr (by omega))
        obtain ⟨Q, hQ⟩ : ∃ Q : ByteArray, Q = mkB (quo s.data.toList) := ⟨_, rfl⟩
        rw [← hQ] at HQ
        have hQs : Q.size = (quo s.data.toList).length := by rw [hQ]; show (quo s.data.toList).toArray.size = _; rw [List.size_toArray]
        have hadd := fun W => run_string_add_sum (P := Try.prog) W ⟨#[47]⟩ Q (by have : (ByteArray.mk #[47]).size = 1 := rfl; omega)
        obtain ⟨R, hR⟩ : ∃ R : ByteArray, R = (⟨#[47]⟩ : ByteArray) ++ Q := ⟨_, rfl⟩
        rw [← hR] at hadd
        have hRl : R.data.toList = 47 :: quo s.data.toList := by rw [hR, hQ]; simp
        have hRs : R.size = (quo s.data.toList).length + 1 := by rw [hR, ByteArray.size_append, hQs]; show 1 + _ = _; omega
        have HRs := Lib.hid (show (pathT (p.take k)).length + R.size ≤ 140737488355328 by omega)
        have HST := Lib.hid hst
        have HR := Lib.hid hRl
        have HB := Lib.hid hb
        have HW := Lib.hid hw
        clear hs hst hsz hpl hql hQ hQs hR hRl hRs hb hw h
        go_wp2_with fail
        (with_reducible refine HQ.out.mono ?_)
        rintro e w2 ⟨rfl, hb2⟩
        have HB2 := Lib.hid hb2
        have HBd := Lib.hid (HB.out.keep hb2)
        clear hb2
        go_wp2_with fail
        (with_reducible refine (write_any w.heap.size w.heap.size (pathT (p.take k)) R w2 HBd.out HRs.out (by have := HB2.out.size; omega)).mono ?_)
        rintro e w3 ⟨rfl, hb3, hw3, ho3⟩
        have HB3 := Lib.hid hb3
        clear hb3 ho3
        go_wp2_with fail
        go_roundw
        case rel =>
          refine ⟨k + 1, by omega, by go_num, ?_, ?_⟩
          · rw [HST.out, ← HR.out]
            exact HB3.out
          · exact HW.out.trans ((HB2.out.mono HW.out.size).trans hw3)
        case measure => simp [intOf]; omega
      · have hkn : (n : Int) ≤ (k : Int) := by omega
        obtain rfl : k = n := by omega
        have e : p.take k = p := List.take_of_length_le (by have := HL.out; omega)
        rw [e] at hb
        have HB := Lib.hid (Try.Builder_String_any w.heap.size w.heap.size (pathT p) wr hb hw1)
        clear e
        go_wp2_with (go_at_call 22; (with_reducible refine HB.out.mono ?_); rintro e w2 ⟨rfl, hb2⟩)
        go_ret
        exact ⟨by rw [pathL_ne HN.out]; rfl, hw.trans hb2⟩
end Go.Proofs.Ytclgemkdlgpekaa.Re
