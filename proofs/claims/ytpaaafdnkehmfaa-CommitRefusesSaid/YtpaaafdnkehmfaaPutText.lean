/- code.Text: what it writes behind whatever slice, of a text below 2^45 bytes. -/
import Derived.Test.YtpaaafdnkehmfaaPut
namespace Go.Proofs.Ytpaaafdnkehmfaa
open Go.RowKit

/-- []byte(s): new memory that reads as s. -/
theorem run_bytes_new (w : World) (s : ByteArray) (n : Nat) (hn : s.size = n) : ∃ c w1, (convert 9 31 (.string s)).run Try.prog w = .ok (.slice (some ⟨w.heap.size, 0, none⟩) n c) w1 ∧
    Sees w1 w1.heap.size (some ⟨w.heap.size, 0, none⟩) n s.data.toList ∧ Below w.heap.size w w1 := by
  subst hn
  refine ⟨_, _, run_bytes_of_string (P := Try.prog) w 9 31 5 s Try.underlying9 Try.underlying31 Try.underlying5, ⟨by simp, fun j u hu => ⟨_, rfl, by simp, ?_⟩⟩, (Below.refl _ _).drew.alloc (Nat.le_refl _) _⟩
  have hj : j < s.data.size := by
    rcases Nat.lt_or_ge j s.data.size with g | g
    · exact g
    · rw [List.getElem?_eq_none (by simpa using g)] at hu; cases hu
  have hu' : s.data[j] = u := by
    rw [List.getElem?_eq_getElem (by simpa using hj)] at hu
    simpa using hu
  have h := at_new w.drew (.cells (bytesRow s (grownCap w s.size 0 5)) 5 ((bytesRow s (grownCap w s.size 0 5)).size, (bytesRow s (grownCap w s.size 0 5)).size + 1))
  rw [show w.drew.heap.size = w.heap.size from rfl] at h
  rw [Addr.add_lit]
  simp only [World.cell?, h, Nat.zero_add]
  rw [bytesRow_at s _ j hj, hu']
  rfl

/-- What is written of a text: its first 65535 bytes. -/
def cutText (s : ByteArray) : List UInt8 := s.data.toList.take 65535
def textB (s : ByteArray) : List UInt8 := leB 2 (cutText s).length ++ cutText s
theorem cutText_short {s : ByteArray} (h : s.size ≤ 65535) : cutText s = s.data.toList := List.take_of_length_le (by simpa using h)
theorem cutText_long {s : ByteArray} (_ : 65535 < s.size) : (s.extract 0 65535).data.toList = cutText s := by
  unfold cutText
  simp
theorem size_cut {s : ByteArray} (h : 65535 < s.size) : (s.extract 0 65535).size = 65535 := by
  simp; omega

set_option maxHeartbeats 800000 in
theorem putText_any (A : Option Addr) (n c : Nat) (l : List UInt8) (s : ByteArray) (w : World) (hs : Sees w w.heap.size A n l) (hn : n ≤ 35184372088832) (hsz : s.size ≤ maxLen) : Calls Try.prog 70 #[.slice A n c, .string s] w fun e w' =>
    ∃ A' N c', e = .returned (.slice A' N c') ∧ Own w' w.heap.size A' N c' (l ++ textB s) ∧ Below w.heap.size w w' := by
  unfold maxLen at hsz
  by_cases hk : s.size ≤ 65535
  · have Hfin := Lib.hid (show textB s = leB 2 s.size ++ s.data.toList by unfold textB; rw [cutText_short hk]; rfl)
    go_enter Try.func70, Try.ntmps70
    go_wp2_with fail
    refine (bytes16 s.size (by omega) w).mono ?_
    rintro e w1 ⟨g, rfl, ho1, hb1⟩
    obtain ⟨c2, w2, hcv, hs2, hb2⟩ := run_bytes_new w1 s _ rfl
    go_wp2_with fail
    clear hcv
    have hs0 := (hs.below hb1).below (hb2.mono hb1.size)
    have ho2 := ho1.keep hb2
    have hp := Parts.three (at_new w2 (.cells #[.slice A n c, .slice (some ⟨g, 0, none⟩) 2 2, .slice (some ⟨w1.heap.size, 0, none⟩) s.size c2] 31))
      ((hs0.alloc (Nat.le_trans hb1.size hb2.size) _).more (Nat.le_trans hb1.size (Nat.le_trans hb2.size (by simp)))) ((ho2.sees.alloc (Nat.le_refl _) _).more (by simp)) ((hs2.alloc (Nat.le_refl _) _).more (by simp))
    refine (concat_any w2.heap.size 3 _ _ _ hp rfl (by omega) ?_ (by simp)).mono ?_
    · simp only [List.flatten_cons, List.flatten_nil, List.length_append, List.append_nil, ← hs.len, leB_length, ← hs2.len]
      omega
    rintro e w3 ⟨A2, N, c3, rfl, ho3, hb3⟩
    go_wp2_with fail
    go_ret
    have hle : w.heap.size ≤ (w2.alloc (.cells #[.slice A n c, .slice (some ⟨g, 0, none⟩) 2 2, .slice (some ⟨w1.heap.size, 0, none⟩) s.size c2] 31)).heap.size := by
      have := hb1.size; have := hb2.size; simp; omega
    refine ⟨A2, N, c3, rfl, ?_, ?_⟩
    · rw [Hfin.out]
      simpa using ho3.less hle
    · exact ((hb1.trans (hb2.mono hb1.size)).alloc (Nat.le_trans hb1.size hb2.size) _).trans (hb3.mono hle)
  · have hk' : 65535 < s.size := by omega
    have hl := cutText_long hk'
    have hz := size_cut hk'
    have Hfin := Lib.hid (show textB s = leB 2 65535 ++ (s.extract 0 65535).data.toList by unfold textB; rw [← hl]; rw [show (s.extract 0 65535).data.toList.length = (s.extract 0 65535).size from rfl, hz])
    have Hz := Lib.hid hz
    clear hl hz
    go_enter Try.func70, Try.ntmps70
    go_wp2_with fail
    rw [show min 65535 s.size = 65535 by omega]
    refine (bytes16 65535 (by omega) w).mono ?_
    rintro e w1 ⟨g, rfl, ho1, hb1⟩
    obtain ⟨c2, w2, hcv, hs2, hb2⟩ := run_bytes_new w1 (s.extract 0 65535) 65535 Hz.out
    go_wp2_with fail
    clear hcv
    have hs0 := (hs.below hb1).below (hb2.mono hb1.size)
    have ho2 := ho1.keep hb2
    have hp := Parts.three (at_new w2 (.cells #[.slice A n c, .slice (some ⟨g, 0, none⟩) 2 2, .slice (some ⟨w1.heap.size, 0, none⟩) 65535 c2] 31))
      ((hs0.alloc (Nat.le_trans hb1.size hb2.size) _).more (Nat.le_trans hb1.size (Nat.le_trans hb2.size (by simp)))) ((ho2.sees.alloc (Nat.le_refl _) _).more (by simp)) ((hs2.alloc (Nat.le_refl _) _).more (by simp))
    refine (concat_any w2.heap.size 3 _ _ _ hp rfl (by omega) ?_ (by simp)).mono ?_
    · simp only [List.flatten_cons, List.flatten_nil, List.length_append, List.append_nil, ← hs.len, leB_length, ← hs2.len]
      omega
    rintro e w3 ⟨A2, N, c3, rfl, ho3, hb3⟩
    go_wp2_with fail
    go_ret
    have hle : w.heap.size ≤ (w2.alloc (.cells #[.slice A n c, .slice (some ⟨g, 0, none⟩) 2 2, .slice (some ⟨w1.heap.size, 0, none⟩) 65535 c2] 31)).heap.size := by
      have := hb1.size; have := hb2.size; simp; omega
    refine ⟨A2, N, c3, rfl, ?_, ?_⟩
    · rw [Hfin.out]
      simpa using ho3.less hle
    · exact ((hb1.trans (hb2.mono hb1.size)).alloc (Nat.le_trans hb1.size hb2.size) _).trans (hb3.mono hle)
end Go.Proofs.Ytpaaafdnkehmfaa
