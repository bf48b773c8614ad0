/- CodeBack, the plain part: what is written, one behind the other; what a reader of all of it, or of all but the last byte, answers. -/
import Derived.Test.YtfnenafdmpihaaaLists
import Derived.Test.YtfnenafdmpihaaaEnds
import Derived.Test.YtfnenafdmpihaaaLong
namespace Go.Proofs.Ytfnenafdmpihaaa
open Go.RowKit

def encI (x : Int) : List UInt8 := leB 8 (x % 18446744073709551616).toNat
def ints (vs : List Int) : List UInt8 := (vs.map encI).flatten
def texts (ss : List ByteArray) : List UInt8 := (ss.map textB).flatten
theorem encI_length (x : Int) : (encI x).length = 8 := leB_length _ _
theorem ints_length : ∀ vs, (ints vs).length = 8 * vs.length
  | [] => rfl
  | v :: r => by
    have h := ints_length r
    simp only [ints, List.map_cons, List.flatten_cons, List.length_append, encI_length, List.length_cons] at h ⊢
    omega
theorem ints_succ {vs : List Int} {k : Nat} (h : k < vs.length) : ints (vs.take (k + 1)) = ints (vs.take k) ++ leB 8 (vs.getD k 0 % 18446744073709551616).toNat := by
  have e : vs.getD k 0 = vs[k] := by simp [List.getD, List.getElem?_eq_getElem h]
  rw [List.take_succ_eq_append_getElem h, e, ints, ints, List.map_append, List.flatten_append]
  simp only [List.map_cons, List.map_nil, List.flatten_cons, List.flatten_nil, List.append_nil, encI]
theorem ints_drop {vs : List Int} {k : Nat} (h : k < vs.length) : ints (vs.drop k) = leB 8 (vs.getD k 0 % 18446744073709551616).toNat ++ ints (vs.drop (k + 1)) := by
  have e : vs.getD k 0 = vs[k] := by simp [List.getD, List.getElem?_eq_getElem h]
  rw [List.drop_eq_getElem_cons h, e, ints, List.map_cons, List.flatten_cons]
  rfl
theorem texts_succ {ss : List ByteArray} {k : Nat} (h : k < ss.length) : texts (ss.take (k + 1)) = texts (ss.take k) ++ textB (ss.getD k ⟨#[]⟩) := by
  have e : ss.getD k ⟨#[]⟩ = ss[k] := by simp [List.getD, List.getElem?_eq_getElem h]
  rw [List.take_succ_eq_append_getElem h, e, texts, texts, List.map_append, List.flatten_append]
  simp only [List.map_cons, List.map_nil, List.flatten_cons, List.flatten_nil, List.append_nil]
theorem texts_drop {ss : List ByteArray} {k : Nat} (h : k < ss.length) : texts (ss.drop k) = textB (ss.getD k ⟨#[]⟩) ++ texts (ss.drop (k + 1)) := by
  have e : ss.getD k ⟨#[]⟩ = ss[k] := by simp [List.getD, List.getElem?_eq_getElem h]
  rw [List.drop_eq_getElem_cons h, e, texts, List.map_cons, List.flatten_cons]
  rfl
theorem textB_length (s : ByteArray) (h : s.size ≤ 65535) : (textB s).length = 2 + s.size := by
  unfold textB
  rw [List.length_append, leB_length, cutText_short h]
  rfl

theorem text_one (g : Nat) (s : ByteArray) (l : List UInt8) (w : World) (h : Rds w g (textB s ++ l) 0) (hs : s.size ≤ 65535) : Calls Try.prog 25 #[.pointer (some ⟨g, 0, none⟩)] w fun en w' => en = .returned (.string s) ∧ ReadPost w w' g l 0 := by
  unfold textB at h
  rw [cutText_short hs, List.append_assoc] at h
  have hr := text_full g s.data.toList.length s.data.toList l w h (by have : s.data.toList.length = s.size := rfl; omega) rfl
  exact hr

/-- All but the last byte of L is left, or it was cut. -/
def CutSt (w : World) (g : Nat) (L : List UInt8) : Prop := (L ≠ [] ∧ Rds w g L.dropLast 0) ∨ ∃ M, Rds w g M 8
theorem CutSt.keep {w w' : World} {g : Nat} {L : List UInt8} (h : CutSt w g L) (hb : Below w.heap.size w w') : CutSt w' g L := by
  rcases h with ⟨h1, h2⟩ | ⟨M, h2⟩
  · exact .inl ⟨h1, h2.keep hb⟩
  · exact .inr ⟨M, h2.keep hb⟩
theorem dropLast_app {C R : List UInt8} (h : R ≠ []) : (C ++ R).dropLast = C ++ R.dropLast := List.dropLast_append_of_ne_nil h

theorem cut_int (g : Nat) (x : Int) (R : List UInt8) (w : World) (h : CutSt w g (leB 8 (x % 18446744073709551616).toNat ++ R)) (h1 : -9223372036854775808 ≤ x) (h2 : x ≤ 9223372036854775807) :
    ∃ v : Int, Calls Try.prog 21 #[.pointer (some ⟨g, 0, none⟩)] w fun en w' => en = .returned (.int .i64 v) ∧ CutSt w' g R ∧ w.grownBy w' (some g) := by
  rcases h with ⟨_, hr⟩ | ⟨M, hr⟩
  · by_cases hR : R = []
    · subst hR
      rw [List.append_nil] at hr
      exact ⟨0, (int_short g _ w hr (by rw [List.length_dropLast, leB_length]; omega)).mono fun en w' ⟨a, b⟩ => ⟨a, .inr ⟨_, b.1⟩, b.2⟩⟩
    · rw [dropLast_app hR] at hr
      exact ⟨x, (int_full g x _ w hr h1 h2).mono fun en w' ⟨a, b⟩ => ⟨a, .inl ⟨hR, b.1⟩, b.2⟩⟩
  · exact ⟨0, (int_err g M 8 w hr (by omega)).mono fun en w' ⟨a, b⟩ => ⟨a, .inr ⟨_, b.1⟩, b.2⟩⟩

theorem text_short2 (g : Nat) (l : List UInt8) (w : World) (h : Rds w g l 0) (hl : l.length < 2) : Calls Try.prog 25 #[.pointer (some ⟨g, 0, none⟩)] w fun en w' => en = .returned (.string ⟨#[]⟩) ∧ ReadPost w w' g l 8 := by
  have hr := text_any g l 0 w h
  unfold txStep at hr
  rw [rdStep_short hl, txNext_err (e := 8) (by omega)] at hr
  exact hr

theorem cut_text (g : Nat) (s : ByteArray) (R : List UInt8) (w : World) (h : CutSt w g (textB s ++ R)) (hs : s.size ≤ 65535) :
    ∃ V : ByteArray, Calls Try.prog 25 #[.pointer (some ⟨g, 0, none⟩)] w fun en w' => en = .returned (.string V) ∧ CutSt w' g R ∧ w.grownBy w' (some g) := by
  rcases h with ⟨_, hr⟩ | ⟨M, hr⟩
  · by_cases hR : R = []
    · subst hR
      rw [List.append_nil] at hr
      have hl : s.data.toList.length = s.size := rfl
      refine ⟨⟨#[]⟩, ?_⟩
      by_cases h0 : s.size = 0
      · exact (text_short2 g _ w hr (by rw [List.length_dropLast, textB_length s hs]; omega)).mono fun en w' ⟨a, b⟩ => ⟨a, .inr ⟨_, b.1⟩, b.2⟩
      · unfold textB at hr
        rw [cutText_short hs, dropLast_app (by intro e; rw [e] at hl; simp at hl; omega)] at hr
        exact (text_short g _ _ w hr (by omega) (by rw [List.length_dropLast]; omega)).mono fun en w' ⟨a, b⟩ => ⟨a, .inr ⟨_, b.1⟩, b.2⟩
    · rw [dropLast_app hR] at hr
      exact ⟨s, (text_one g s _ w hr hs).mono fun en w' ⟨a, b⟩ => ⟨a, .inl ⟨hR, b.1⟩, b.2⟩⟩
  · exact ⟨⟨#[]⟩, (text_err g M 8 w hr (by omega)).mono fun en w' ⟨a, b⟩ => ⟨a, .inr ⟨_, b.1⟩, b.2⟩⟩

theorem cut_byte (g n : Nat) (R : List UInt8) (w : World) (h : Rds w g (leB 1 (n % 256) ++ R).dropLast 0) :
    ∃ v : Int, Calls Try.prog 23 #[.pointer (some ⟨g, 0, none⟩)] w fun en w' => en = .returned (.int .i64 v) ∧ CutSt w' g R ∧ w.grownBy w' (some g) := by
  by_cases hR : R = []
  · subst hR
    have e : (leB 1 (n % 256) ++ []).dropLast = [] := rfl
    rw [e] at h
    have hr := byte_any g [] 0 w h
    rw [rdStep_short (by simp)] at hr
    exact ⟨_, hr.mono fun en w' ⟨a, b⟩ => ⟨a, .inr ⟨_, b.1⟩, b.2⟩⟩
  · rw [dropLast_app hR] at h
    have hr := byte_any g _ 0 w h
    rw [rdStep_yes (by rw [List.length_append, leB_length]; omega), List.drop_left' (leB_length 1 _)] at hr
    exact ⟨_, hr.mono fun en w' ⟨a, b⟩ => ⟨a, .inl ⟨hR, b.1⟩, b.2⟩⟩
theorem byte_n (g n : Nat) (l : List UInt8) (w : World) (h : Rds w g (leB 1 (n % 256) ++ l) 0) (hn : n < 256) :
    Calls Try.prog 23 #[.pointer (some ⟨g, 0, none⟩)] w fun en w' => en = .returned (.int .i64 n) ∧ ReadPost w w' g l 0 := by
  have e : n % 256 = ((n : Int) % 256).toNat := by omega
  rw [e] at h
  refine (byte_full g n l w h).mono fun en w' ⟨h1, h2⟩ => ⟨h1.trans ?_, h2⟩
  rw [show (n : Int) % 256 = n by omega]
theorem end_cut (g : Nat) (w : World) (h : CutSt w g []) : Calls Try.prog 29 #[.pointer (some ⟨g, 0, none⟩)] w fun en w' => en = .returned (.int .i64 8) ∧ w = w' := by
  rcases h with ⟨h, _⟩ | ⟨M, h⟩
  · exact absurd rfl h
  · exact end_some g M 8 w h (by omega)
end Go.Proofs.Ytfnenafdmpihaaa
