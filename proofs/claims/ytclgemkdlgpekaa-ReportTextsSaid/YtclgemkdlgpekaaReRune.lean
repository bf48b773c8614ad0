/- []rune(s): the runes of a text; of bytes below 128 they are the bytes. Conditions: at most 2^40 bytes. -/
import Derived.Test.YtclgemkdlgpekaaReMath
import Derived.Test.YtclgemkdlgpekaaLists
import Derived.Laws.IdiomStrings
import Derived.Laws.RangeString
namespace Go.Proofs.Ytclgemkdlgpekaa.Re
open Go.RowKit
set_option maxRecDepth 100000

def rv (c : Nat) : Value := .int .i32 (c : Int)
def rnF (s : ByteArray) : (bound i : Nat) → List Nat
  | 0, _ => []
  | bound + 1, i => if i < s.size then (Utf8.decode s i).1 :: rnF s bound (i + (Utf8.decode s i).2) else []
def runesN (s : ByteArray) : List Nat := rnF s s.size 0
theorem rnF_eq (s : ByteArray) : ∀ (bound i : Nat) (acc : Array Value), Conv.runesFrom s bound i acc = acc ++ ((rnF s bound i).map rv).toArray
  | 0, i, acc => by simp [Conv.runesFrom, rnF]
  | bound + 1, i, acc => by
    unfold Conv.runesFrom rnF
    split
    · show Conv.runesFrom s bound (i + (Utf8.decode s i).2) (acc.push (Value.int IntKind.i32 (Int.ofNat (Utf8.decode s i).1))) = _
      rw [rnF_eq s bound]
      simp [rv]
    · simp
theorem rnF_len (s : ByteArray) : ∀ (bound i : Nat), (rnF s bound i).length ≤ bound
  | 0, _ => Nat.le_refl _
  | bound + 1, i => by
    unfold rnF
    split
    · have := rnF_len s bound (i + (Utf8.decode s i).2)
      rw [List.length_cons]; omega
    · exact Nat.zero_le _
theorem runesN_len (s : ByteArray) : (runesN s).length ≤ s.size := rnF_len s _ _
theorem rnF_ascii (s : ByteArray) (h : ∀ u ∈ s.data.toList, u.toNat < 128) : ∀ (bound i : Nat), s.size ≤ i + bound → rnF s bound i = nats (s.data.toList.drop i)
  | 0, i, hb => by
    rw [List.drop_eq_nil_of_le (by rw [Array.length_toList]; show s.size ≤ i; omega)]
    rfl
  | bound + 1, i, hb => by
    unfold rnF
    by_cases hi : i < s.size
    · have ha : (s[i]'hi).toNat < 128 := h _ (Array.getElem_mem_toList (xs := s.data) hi)
      rw [if_pos hi, decode_ascii s i hi ha, rnF_ascii s h bound (i + 1) (by omega)]
      rw [List.drop_eq_getElem_cons (i := i) (by rw [Array.length_toList]; exact hi)]
      rfl
    · rw [if_neg hi, List.drop_eq_nil_of_le (by rw [Array.length_toList]; show s.size ≤ i; omega)]
      rfl
theorem runesN_ascii (s : ByteArray) (h : ∀ u ∈ s.data.toList, u.toNat < 128) : runesN s = nats s.data.toList := by
  rw [runesN, rnF_ascii s h s.size 0 (by omega), List.drop_zero]

/-- The conversion: a new row. -/
theorem run_runes (s : ByteArray) (w : World) (hs : s.size ≤ 1099511627776) : ∃ (n c : Nat) (W : World), (convert 9 54 (.string s)).run Try.prog w = .ok (.slice (some ⟨w.heap.size, 0, none⟩) n c) W ∧
    n = (runesN s).length ∧ n ≤ c ∧ Below w.heap.size w W ∧ W.heap.size = w.heap.size + 1 ∧ SeesV W W.heap.size (some ⟨w.heap.size, 0, none⟩) n ((runesN s).map rv) := by
  have hl := runesN_len s
  have e := rnF_eq s s.size 0 #[]
  rw [Array.empty_append] at e
  have hz : (Conv.runesFrom s s.size 0 #[]).size = (runesN s).length := by rw [e]; simp [runesN]
  have h := run_runes_of_string (P := Try.prog) w 9 54 21 s Try.underlying9 Try.underlying54 Try.underlying21 (by rw [hz]; omega)
  rw [hz] at h
  refine ⟨_, _, _, h, rfl, grownCap_ge _ _ _ _, ((Below.refl _ w).drew).alloc (Nat.le_refl _) _, by simp, ⟨by simp, fun j u hu => ?_⟩⟩
  refine ⟨w.heap.size, 0, rfl, by simp, ?_⟩
  have hnew : (w.drew.alloc (.cells (Conv.runesFrom s s.size 0 #[] ++ Array.replicate (grownCap w (runesN s).length 0 21 - (runesN s).length) (.int .i32 0)) 21)).heap[w.heap.size]? = some _ := heap_alloc_new w.drew _
  rw [Nat.zero_add]
  rw [cell_of_row _ _ _ _ _ _ hnew, e]
  have hj : j < ((runesN s).map rv).length := by
    rcases Nat.lt_or_ge j ((runesN s).map rv).length with g | g
    · exact g
    · rw [List.getElem?_eq_none g] at hu; cases hu
  rw [Array.getElem?_append_left (by simpa [runesN] using hj)]
  simpa [runesN] using hu
end Go.Proofs.Ytclgemkdlgpekaa.Re
