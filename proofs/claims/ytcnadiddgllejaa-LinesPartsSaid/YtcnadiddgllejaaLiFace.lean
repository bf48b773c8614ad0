/- lines.Join, lines.End, cmp.Or, the document's own End and Same. Conditions: lengths below 2^40. -/
import Derived.Test.YtcnadiddgllejaaLiBuild
import Derived.Test.YtcnadiddgllejaaLiSplit
import Derived.Deep.LoopGhost
import Derived.BigQuiet
import Derived.Deep.QuietTactic
import Derived.Outline
namespace Go.Proofs.Ytcnadiddgllejaa.Li
open Go.RowKit
set_option maxRecDepth 100000

theorem join_le {ls : List Ln} {j : Nat} {x : Ln} (h : ls[j]? = some x) : (join (ls.take j)).length + x.1.length + x.2.length ≤ (join ls).length := by
  have e : ls = ls.take j ++ (x :: ls.drop (j + 1)) := by
    conv => lhs; rw [← List.take_append_drop j ls]
    obtain ⟨hj, hx⟩ := List.getElem?_eq_some_iff.1 h
    rw [List.drop_eq_getElem_cons hj, hx]
  conv => rhs; rw [e]
  rw [join_append, join, List.length_append, List.length_append, List.length_append]
  omega
theorem join_snoc {ls : List Ln} {j : Nat} {x : Ln} (h : ls[j]? = some x) : join (ls.take (j + 1)) = join (ls.take j) ++ x.1 ++ x.2 := by
  obtain ⟨hj, hx⟩ := List.getElem?_eq_some_iff.1 h
  rw [List.take_succ_eq_append_getElem hj, join_append, hx]
  simp [join]
theorem box2 {w : World} {g : Nat} {u v : Value} {T : TypeId} (h : w.heap[g]? = some (.cells #[u, v] T (0, 0))) : w.cell? ⟨g, 0, none⟩ = some u ∧ w.cell? ⟨g, 1, none⟩ = some v := by
  constructor <;> (rw [cell_of_row _ _ _ _ _ _ h]; rfl)

set_option maxHeartbeats 4000000 in
theorem join_any (ls : List Ln) (A : Option Addr) (n c B : Nat) (w : World) (hB : B ≤ w.heap.size) (h : SeesL w B A n ls) (hn : n ≤ 1099511627776) (hl : (join ls).length ≤ 140737488355328) :
    Calls Try.prog 13 #[.slice A n c] w fun e w' => e = .returned (encs (join ls)) ∧ Below w.heap.size w w' := by
  have hlen := h.len
  have HL := Lib.hid hlen
  clear hlen
  go_enter Try.func13, Try.ntmps13
  go_wp2
  go_loopw [8] (fun i wr => ∃ k : Nat, k ≤ n ∧ i = .int .i64 k ∧ Bld w.heap.size w.heap.size (join (ls.take k)) wr ∧ Below w.heap.size w wr) (fun i _ => n - (intOf i).toNat)
  case atStart => exact ⟨0, Nat.zero_le _, rfl, Lib.fresh_isBuilder 42 5 w, (Below.refl _ _).alloc (Nat.le_refl _) _⟩
  case round =>
    obtain ⟨k, hk, rfl, hb, hw⟩ := hrel
    have hw1 := hw.size
    by_cases hlt : k < n
    · have q0 : (k : Int) < (n : Int) := by omega
      have q1 : (0 : Int) ≤ (k : Int) := by omega
      obtain ⟨x, hx⟩ : ∃ x, ls[k]? = some x := ⟨_, List.getElem?_eq_getElem (by have := HL.out; omega)⟩
      have hle := join_le hx
      obtain ⟨b, o, rfl, hbB, hc1, hc2⟩ := (h.keep (w' := wr) (fun p hp => hw.cell (Nat.lt_of_lt_of_le hp hB))).at_ hx
      have hsz1 : (⟨x.1.toArray⟩ : ByteArray).size = x.1.length := List.size_toArray
      have hsz2 : (⟨x.2.toArray⟩ : ByteArray).size = x.2.length := List.size_toArray
      obtain ⟨s1, hs1⟩ : ∃ s : ByteArray, s = ⟨x.1.toArray⟩ := ⟨_, rfl⟩
      obtain ⟨s2, hs2⟩ : ∃ s : ByteArray, s = ⟨x.2.toArray⟩ := ⟨_, rfl⟩
      have e1 : s1.data.toList = x.1 := by rw [hs1]
      have e2 : s2.data.toList = x.2 := by rw [hs2]
      rw [encs, ← hs1] at hc1
      rw [encs, ← hs2] at hc2
      rw [← hs1] at hsz1
      rw [← hs2] at hsz2
      obtain ⟨W1, hW1⟩ : ∃ W, W = wr.alloc (Obj.cells #[.string s1, .string s2] 34) := ⟨_, rfl⟩
      have hbb : Below wr.heap.size wr W1 := by rw [hW1]; exact (Below.refl _ _).alloc (Nat.le_refl _) _
      have hd1 := hb.keep hbb
      have hg1 : W1.heap[wr.heap.size]? = some (.cells #[.string s1, .string s2] 34 (0, 0)) := by rw [hW1]; exact heap_alloc_new _ _
      have hz1 : W1.heap.size = wr.heap.size + 1 := by rw [hW1]; simp
      have hwl : w.heap.size < wr.heap.size := by
        rcases hb with hb | hb <;> exact hb.lt
      have HX := Lib.hid hx
      have H1 := Lib.hid e1
      have H2 := Lib.hid e2
      have HG := Lib.hid hg1
      have HZ := Lib.hid hz1
      have HS1 := Lib.hid hsz1
      have HS2 := Lib.hid hsz2
      have HE := Lib.hid hle
      have HD := Lib.hid hd1
      have HWW := Lib.hid hW1
      clear hx e1 e2 hg1 hz1 hsz1 hsz2 hle hd1 hs1 hs2 h hb hW1
      go_wp2_with fail
      rw [← HWW.out]
      obtain ⟨p1, p2⟩ := box2 HG.out
      (with_reducible refine (write_any w.heap.size w.heap.size (join (ls.take k)) s1 W1 HD.out (by have := HS1.out; have := HE.out; omega) (by have := HZ.out; omega)).mono ?_)
      rintro e w2 ⟨rfl, hb2, hw2, ho2⟩
      have hg2 : w2.heap[wr.heap.size]? = some (.cells #[.string s1, .string s2] 34 (0, 0)) := (ho2 _ (by have := HZ.out; omega) (by omega) (fun cs fr e => by rw [HG.out] at e; simp at e)).trans HG.out
      obtain ⟨r1, r2⟩ := box2 hg2
      have HO := Lib.hid ho2
      have HB2 := Lib.hid hb2
      clear ho2 hg2 p1 p2 hb2
      go_wp2_with fail
      (with_reducible refine (write_any w.heap.size w.heap.size _ s2 w2 HB2.out (by have := HS1.out; have := HS2.out; have := HE.out; rw [List.length_append, H1.out]; omega) (by have := hw2.size; have := HZ.out; omega)).mono ?_)
      rintro e w3 ⟨rfl, hb3, hw3, ho3⟩
      have HB3 := Lib.hid hb3
      clear hb3 ho3
      go_wp2_with fail
      go_roundw
      case rel =>
        refine ⟨k + 1, by omega, by go_num, ?_, ?_⟩
        · rw [join_snoc HX.out]
          have := HB3.out
          rw [H1.out, H2.out] at this
          exact this
        · exact (hw.trans (hbb.mono hw1)).trans (hw2.trans hw3)
      case measure => simp [intOf]; omega
    · have hkn : (n : Int) ≤ (k : Int) := by omega
      obtain rfl : k = n := by omega
      have e : ls.take k = ls := List.take_of_length_le (by have := HL.out; omega)
      rw [e] at hb
      have HB := Lib.hid (Try.Builder_String_any w.heap.size w.heap.size (join ls) wr hb hw1)
      clear e
      go_wp2_with (go_at_call 19; (with_reducible refine HB.out.mono ?_); rintro e w2 ⟨rfl, hb2⟩)
      go_ret
      exact ⟨rfl, hw.trans hb2⟩
end Go.Proofs.Ytcnadiddgllejaa.Li
