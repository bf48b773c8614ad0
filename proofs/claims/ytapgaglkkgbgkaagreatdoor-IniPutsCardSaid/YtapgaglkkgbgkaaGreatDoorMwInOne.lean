/- strings.ContainsAny of "[;#" in a text of one byte. · Lines of a text, joined, their ends; one line put among others: plain mathematics. No conditions. · Rows of lines in memory; a scope in which the run jumps back to labels. No conditions. · The blanks at the front of a text, those at its end: plain mathematics. No conditions. · strings.Builder.WriteString at a builder of the call's own. Conditions: at most 2^47 bytes. -/
import Derived.Test.YtapgaglkkgbgkaaGreatDoorMwEdg
import Derived.Test.YtapgaglkkgbgkaaGreatDoorRows
import Derived.Test.YtapgaglkkgbgkaaGreatDoorMwWords
import Derived.Test.YtapgaglkkgbgkaaGreatDoorMwLists
import Derived.ScopeJumps
import Derived.WalkMore
import Derived.Lib.Strings
import Derived.Test.YtapgaglkkgbgkaaGreatDoorShelf
import Derived.Test.YtapgaglkkgbgkaaGreatDoorTrimLay
import Derived.Lib.Builder
import Derived.Lib.AppendStr
import Derived.Laws.Externs
import Derived.Outline
namespace Go.Proofs.YtapgaglkkgbgkaaGreatDoor.Cv
open Go.RowKit Go.Lib
set_option maxRecDepth 100000

theorem c3_high {b : UInt8} (h : 128 ≤ b.toNat) : ([91, 59, 35] : List UInt8).contains b = false := by
  rw [Bool.eq_false_iff]
  intro hc
  simp at hc
  rcases hc with rfl | rfl | rfl <;> simp at h
theorem decode_alone (s : ByteArray) (h1 : s.size = 1) (hx : 128 ≤ (s[0]'(by omega)).toNat) : Utf8.decode s 0 = (65533, 1) := by
  have hg : ∀ j, 1 ≤ j → ¬ j < s.size := fun j hj => by omega
  have e : s.get! 0 = s[0]'(by omega) := by simp [ByteArray.get!, getElem!_pos, h1]; rfl
  simp only [Utf8.decode, e]
  repeat' split
  all_goals first | rfl | (exfalso; omega) | simp_all
set_option maxHeartbeats 1000000 in
theorem indexRune_3 (w : World) : Calls Tryz.prog 116 #[.string ⟨#[91, 59, 35]⟩, .int .i32 65533] w fun e w' => e = .returned (.int .i64 (-1)) ∧ Below w.heap.size w w' := by
  have HB : ∀ i, Below w.heap.size w (w.iter ⟨#[91, 59, 35]⟩ i) := fun i => (Below.refl _ _).alloc (Nat.le_refl _) _
  have n0 := fun ty => run_next_ascii (P := Tryz.prog) w ⟨#[91, 59, 35]⟩ 0 ty (by decide) (by decide)
  have n1 := fun ty => run_next_ascii (P := Tryz.prog) w ⟨#[91, 59, 35]⟩ 1 ty (by decide) (by decide)
  have n2 := fun ty => run_next_ascii (P := Tryz.prog) w ⟨#[91, 59, 35]⟩ 2 ty (by decide) (by decide)
  have n3 := fun ty => run_next_end (P := Tryz.prog) w ⟨#[91, 59, 35]⟩ 3 ty (by decide)
  go_enter Tryz.func116, Tryz.ntmps116
  go_wp2_with fail
  go_loopg [5, 6] 3 (fun g _ _ wx => ∃ i : Nat, i + g = 3 ∧ wx = w.iter ⟨#[91, 59, 35]⟩ i)
  case atStart => exact ⟨0, by omega, rfl⟩
  case round =>
    obtain ⟨i, hig, rfl⟩ := hrel
    cases gk with
    | zero =>
      obtain rfl : i = 3 := by omega
      go_wp2_with fail
      go_ret
      exact ⟨rfl, HB _⟩
    | succ g =>
      by_cases h0 : i = 0
      · subst h0
        go_wp2_with fail
        go_roundg g
        case measure => omega
        case rel => exact ⟨1, by omega, rfl⟩
      · by_cases h1 : i = 1
        · subst h1
          go_wp2_with fail
          go_roundg g
          case measure => omega
          case rel => exact ⟨2, by omega, rfl⟩
        · obtain rfl : i = 2 := by omega
          go_wp2_with fail
          go_roundg g
          case measure => omega
          case rel => exact ⟨3, by omega, rfl⟩

set_option maxHeartbeats 1000000 in
theorem indexAny_one (s : ByteArray) (w : World) (h1 : s.size = 1) : Calls Tryz.prog 99 #[.string s, .string ⟨#[91, 59, 35]⟩] w fun e w' => e = .returned (.int .i64 (Lib.indexAny s.data.toList [91, 59, 35])) ∧ Below w.heap.size w w' := by
  have HU : Hid (∀ W, Calls Tryz.prog 117 #[.int .i64 s.size] W fun e w' => e = .returned (.bool (decide ((8 : Int) < (s.size : Int)))) ∧ w' = W) := Lib.hid fun W => Any.strings_shouldUseASCIISet (ρ := Tryz.lays150_ren) { Tryz.lays150 with } s.size W
  have h8z : decide ((8 : Int) < (s.size : Int)) = false := decide_eq_false (by omega)
  rw [h8z] at HU
  have H1 := Lib.hid h1
  have hs0 : ¬ s.size = 0 := by omega
  clear h1
  go_enter Tryz.func99, Tryz.ntmps99
  go_wp2_with fail
  (with_reducible refine (HU.out _).mono ?_)
  rintro e w1 ⟨rfl, rfl⟩
  go_wp2_with fail
  go_loopg [9, 10] s.size (fun g _ _ wx => ∃ i : Nat, i + g = s.size ∧ Hid (wx.heap[w1.heap.size]? = some (.stringIter s i)) ∧ Hid (Below w1.heap.size w1 wx) ∧ Hid (NoAny s.data.toList [91, 59, 35] i))
  case atStart => exact ⟨0, by omega, Lib.hid (World.iter_heap w1 s 0), Lib.hid ((Below.refl _ _).alloc (Nat.le_refl _) _), Lib.hid (NoAny.zero _ _)⟩
  case round =>
    obtain ⟨i, hig, HK, HB, HN⟩ := hrel
    cases gk with
    | zero =>
      obtain rfl : i = s.size := by omega
      have hnx := fun ty => run_next_end_at (P := Tryz.prog) wr w1.heap.size s s.size ty HK.out (by omega)
      go_wp2_with fail
      go_ret
      exact ⟨by rw [Lib.indexAny_none (by rw [← Lib.size_eq]; exact HN.out)]; rfl, HB.out⟩
    | succ g =>
      have hi : i < s.size := by omega
      obtain ⟨x, hx⟩ : ∃ x : UInt8, s[i]'hi = x := ⟨_, rfl⟩
      have Hx : Hid (s.data.toList[i]? = some x) := Lib.hid (by rw [← hx]; exact Lib.data_getElem? s i hi)
      by_cases hlt : x.toNat < 128
      · have hnx := fun ty => run_next_ascii_at (P := Tryz.prog) wr w1.heap.size s i ty HK.out hi (by rw [hx]; exact hlt)
        rw [hx] at hnx
        have HK2 := Lib.hid (Lib.iterAt_heap wr w1.heap.size s i (i + 1) HK.out)
        have HB2 := Lib.hid (Lib.below_iterAt HB.out (k := w1.heap.size) (Nat.le_refl _) s (i + 1))
        obtain ⟨W, hW⟩ : ∃ W, wr.iterAt w1.heap.size s (i + 1) = W := ⟨_, rfl⟩
        rw [hW] at hnx HK2 HB2
        have HR : Hid (Calls Tryz.prog 116 #[.string ⟨#[91, 59, 35]⟩, .int .i32 x.toNat] W fun e w' => e = .returned (.int .i64 (Lib.indexByte [91, 59, 35] x)) ∧ w' = W) := Lib.hid (by
          have h := Any.strings_IndexRune_ascii (ρ := Tryz.lays150_ren) { Tryz.lays150 with } ⟨#[91, 59, 35]⟩ x.toNat W (by omega) (by omega)
          have hb : ((x.toNat : Int)).toNat.toUInt8 = x := by simp
          rw [hb] at h; exact h)
        have hcon := Lib.contains_iff_indexByte [91, 59, 35] x
        clear hx hW
        cases hin : ([91, 59, 35] : List UInt8).contains x
        · rw [hin] at hcon
          have hge : ¬ ((0 : Int) ≤ Lib.indexByte [91, 59, 35] x) := of_decide_eq_false hcon.symm
          clear hcon
          go_wp2_with fail
          (with_reducible refine HR.out.mono ?_)
          rintro e w2 ⟨rfl, rfl⟩
          go_wp2_with fail
          go_roundg g
          case measure => omega
          case rel => exact ⟨i + 1, by omega, HK2, HB2, Lib.hid (HN.out.succ Hx.out hin)⟩
        · rw [hin] at hcon
          have hge : (0 : Int) ≤ Lib.indexByte [91, 59, 35] x := of_decide_eq_true hcon.symm
          clear hcon
          go_wp2_with fail
          (with_reducible refine HR.out.mono ?_)
          rintro e w2 ⟨rfl, rfl⟩
          go_wp2_with fail
          go_ret
          exact ⟨by rw [Lib.indexAny_hit HN.out Hx.out hin]; rfl, HB2.out⟩
      · obtain rfl : i = 0 := by have := H1.out; omega
        have hnx := fun ty => run_next_any_at (P := Tryz.prog) wr w1.heap.size s 0 ty HK.out hi
        have hd := decode_alone s H1.out (by rw [hx]; omega)
        rw [hd] at hnx
        have HN2 : Hid (NoAny s.data.toList [91, 59, 35] (0 + 1)) := Lib.hid (HN.out.succ Hx.out (c3_high (by omega)))
        have HK2 := Lib.hid (Lib.iterAt_heap wr w1.heap.size s 0 (0 + 1) HK.out)
        have HB2 := Lib.hid (Lib.below_iterAt HB.out (k := w1.heap.size) (Nat.le_refl _) s (0 + 1))
        dsimp only at hnx
        obtain ⟨W, hW⟩ : ∃ W, wr.iterAt w1.heap.size s (0 + 1) = W := ⟨_, rfl⟩
        rw [hW] at hnx HK2 HB2
        have HR := Lib.hid (indexRune_3 W)
        clear hx hW hd
        go_wp2_with fail
        (with_reducible refine HR.out.mono ?_)
        rintro e w2 ⟨rfl, hb2⟩
        go_wp2_with fail
        go_roundg (s.size - (0 + 1))
        case measure => omega
        case rel => exact ⟨0 + 1, by omega, Lib.hid ((hb2.block _ (Array.getElem?_eq_some_iff.1 HK2.out).1).trans HK2.out), Lib.hid (HB2.out.trans (hb2.mono HB2.out.size)), HN2⟩
theorem containsAny_one (s : ByteArray) (w : World) (hs : s.size = 1) : Calls Tryz.prog 78 #[.string s, .string ⟨#[91, 59, 35]⟩] w fun e w' => e = .returned (.bool (Lib.containsAny s.data.toList [91, 59, 35])) ∧ Below w.heap.size w w' := by
  have H := Lib.hid (indexAny_one s w hs)
  have HV : Lib.containsAny s.data.toList [91, 59, 35] = decide ((0 : Int) ≤ Lib.indexAny s.data.toList [91, 59, 35]) := rfl
  rw [HV]
  clear HV hs
  obtain ⟨v, hv⟩ : ∃ v, v = Lib.indexAny s.data.toList [91, 59, 35] := ⟨_, rfl⟩
  rw [← hv] at H ⊢
  go_enter Tryz.func78, Tryz.ntmps78
  go_wp2_with fail
  (with_reducible refine H.out.mono ?_)
  rintro e w1 ⟨rfl, hb⟩
  go_wp2_with fail
  go_ret
  exact ⟨by rw [hv]; rfl, hb⟩
end Go.Proofs.YtapgaglkkgbgkaaGreatDoor.Cv
namespace Go.Proofs.YtapgaglkkgbgkaaGreatDoor.Li
set_option maxRecDepth 100000

abbrev Bs := List UInt8
abbrev Ln := Bs × Bs
def cut (cur : Bs) : Ln := if cur.getLast? = some 13 then (cur.dropLast, [13, 10]) else (cur, [10])
def spl : Bs → Bs → List Ln
  | cur, [] => if cur = [] then [] else [(cur, [])]
  | cur, c :: r => if c = 10 then cut cur :: spl [] r else spl (cur ++ [c]) r
def split (s : Bs) : List Ln := spl [] s
def join : List Ln → Bs
  | [] => []
  | x :: r => x.1 ++ x.2 ++ join r
def endOf : List Ln → Bs
  | [] => [10]
  | x :: _ => if x.2 = [] then [10] else x.2

theorem join_append (a b : List Ln) : join (a ++ b) = join a ++ join b := by
  induction a with
  | nil => rfl
  | cons x r ih => simp [join, ih]
theorem cut_join (cur : Bs) : (cut cur).1 ++ (cut cur).2 = cur ++ [10] := by
  unfold cut
  by_cases h : cur.getLast? = some 13
  · rw [if_pos h]
    obtain ⟨x, rfl⟩ := List.getLast?_eq_some_iff.1 h
    simp
  · rw [if_neg h]
theorem join_spl : ∀ (r cur : Bs), join (spl cur r) = cur ++ r
  | [], cur => by
    by_cases h : cur = []
    · subst h; rfl
    · simp only [spl]
      rw [if_neg h]
      simp [join]
  | c :: r, cur => by
    by_cases h : c = 10
    · subst h
      have := cut_join cur
      simp only [spl, if_true, join, join_spl r []]
      rw [this]
      simp
    · simp only [spl]
      rw [if_neg h, join_spl r]
      simp
theorem join_split (s : Bs) : join (split s) = s := by
  rw [split, join_spl]; rfl
theorem spl_append : ∀ (a cur b : Bs), spl cur (a ++ 10 :: b) = spl cur (a ++ [10]) ++ spl [] b
  | [], cur, b => by simp [spl]
  | c :: a, cur, b => by
    by_cases h : c = 10
    · subst h
      simp only [List.cons_append, spl, if_true, spl_append a [] b]
    · simp only [List.cons_append, spl]
      rw [if_neg h, if_neg h, spl_append a _ b]
theorem split_append (a b : Bs) : split (a ++ 10 :: b) = split (a ++ [10]) ++ split b := spl_append a [] b

def Fin (e : Bs) : Prop := e = [10] ∨ e = [13, 10]
theorem cut_fin (cur : Bs) : Fin (cut cur).2 := by
  unfold cut
  by_cases h : cur.getLast? = some 13
  · rw [if_pos h]; exact .inr rfl
  · rw [if_neg h]; exact .inl rfl
theorem cut_no (cur : Bs) (h : (10 : UInt8) ∉ cur) : (10 : UInt8) ∉ (cut cur).1 := by
  unfold cut
  by_cases hc : cur.getLast? = some 13
  · rw [if_pos hc]; exact fun hm => h ((List.dropLast_sublist _).subset hm)
  · rw [if_neg hc]; exact h
def Good : List Ln → Prop
  | [] => True
  | [x] => (10 : UInt8) ∉ x.1 ∧ (Fin x.2 ∨ (x.2 = [] ∧ x.1 ≠ []))
  | x :: y :: r => (10 : UInt8) ∉ x.1 ∧ Fin x.2 ∧ Good (y :: r)
theorem Good.cons {x : Ln} {r : List Ln} (h1 : (10 : UInt8) ∉ x.1) (h2 : Fin x.2) (h : Good r) : Good (x :: r) := by
  cases r with
  | nil => exact ⟨h1, .inl h2⟩
  | cons y r => exact ⟨h1, h2, h⟩
theorem spl_good : ∀ (r cur : Bs), (10 : UInt8) ∉ cur → Good (spl cur r)
  | [], cur, h => by
    by_cases hc : cur = []
    · subst hc; trivial
    · simp only [spl]
      rw [if_neg hc]
      exact ⟨h, .inr ⟨rfl, hc⟩⟩
  | c :: r, cur, h => by
    by_cases hc : c = 10
    · subst hc
      simp only [spl, if_true]
      exact Good.cons (cut_no cur h) (cut_fin cur) (spl_good r [] (by simp))
    · simp only [spl]
      rw [if_neg hc]
      exact spl_good r _ (by simp [h, Ne.symm hc])
theorem split_good (s : Bs) : Good (split s) := spl_good s [] (by simp)
theorem spl_one : ∀ (a cur : Bs), (10 : UInt8) ∉ a → (spl cur (a ++ [10])).length = 1
  | [], cur, _ => rfl
  | c :: a, cur, h => by
    rw [List.mem_cons, not_or] at h
    simp only [List.cons_append, spl]
    rw [if_neg (Ne.symm h.1), spl_one a _ h.2]
theorem spl_none : ∀ (a cur : Bs), (10 : UInt8) ∉ a → spl cur a = spl (cur ++ a) []
  | [], cur, _ => by rw [List.append_nil]
  | c :: a, cur, h => by
    rw [List.mem_cons, not_or] at h
    simp only [spl]
    rw [if_neg (Ne.symm h.1), spl_none a _ h.2]
    simp [spl]
theorem split_line {t e : Bs} (b : Bs) (h : (10 : UInt8) ∉ t) (he : Fin e) : (split (t ++ e ++ b)).length = 1 + (split b).length := by
  rcases he with rfl | rfl
  · rw [List.append_assoc, List.singleton_append, split_append, List.length_append, split, spl_one t [] h]
  · have := split_append (t ++ [13]) b
    simp only [List.append_assoc, List.cons_append, List.nil_append] at this ⊢
    rw [this, List.length_append]
    have h2 := spl_one (t ++ [13]) [] (by simp [h])
    simp only [List.append_assoc, List.cons_append, List.nil_append] at h2
    rw [split, h2]
theorem Good.count : ∀ (l : List Ln), Good l → (split (join l)).length = l.length
  | [], _ => rfl
  | [x], ⟨h1, h2⟩ => by
    rcases h2 with h2 | ⟨h2, h3⟩
    · rw [join, split_line _ h1 h2]; rfl
    · rw [join, h2, join, List.append_nil, List.append_nil, split, spl_none _ _ h1, List.nil_append, spl, if_neg h3]; rfl
  | x :: y :: r, ⟨h1, h2, h3⟩ => by
    rw [join, split_line _ h1 h2, Good.count (y :: r) h3, List.length_cons (a := x)]
    omega

def ended (e : Bs) : List Ln → List Ln
  | [] => []
  | [x] => [x]
  | x :: y :: r => (x.1, if x.2 = [] then e else x.2) :: ended e (y :: r)
theorem Good.ended (e : Bs) : ∀ (l : List Ln), Good l → ended e l = l
  | [], _ => rfl
  | [x], _ => rfl
  | x :: y :: r, ⟨_, h2, h3⟩ => by
    rw [Li.ended, Good.ended e (y :: r) h3, if_neg]
    rcases h2 with h | h <;> rw [h] <;> simp
def insert (l : List Ln) (k : Nat) (ts : List Bs) : List Ln := ended (endOf l) (l.take k ++ ts.map (fun t => (t, endOf l)) ++ l.drop k)
theorem endOf_fin {l : List Ln} (h : Good l) : Fin (endOf l) := by
  cases l with
  | nil => exact .inl rfl
  | cons x r =>
    unfold endOf
    by_cases h0 : x.2 = []
    · simp only; rw [if_pos h0]; exact .inl rfl
    · simp only; rw [if_neg h0]
      cases r with
      | nil =>
        rcases h.2 with g | ⟨g, _⟩
        · exact g
        · exact absurd g h0
      | cons y r => exact h.2.1
theorem insert_none {l : List Ln} (h : Good l) (k : Nat) : insert l k [] = l := by
  rw [insert, List.map_nil, List.append_nil, List.take_append_drop, h.ended]
theorem ended_good {e : Bs} (he : Fin e) : ∀ (l : List Ln), (∀ x ∈ l, (10 : UInt8) ∉ x.1 ∧ (Fin x.2 ∨ (x.2 = [] ∧ x.1 ≠ []))) → Good (ended e l)
  | [], _ => trivial
  | [x], h => h x List.mem_cons_self
  | x :: y :: r, h => by
    rw [Li.ended]
    refine Good.cons (h x List.mem_cons_self).1 ?_ (ended_good he (y :: r) fun z hz => h z (List.mem_cons_of_mem _ hz))
    rcases (h x List.mem_cons_self).2 with g | ⟨g, _⟩
    · simp only
      rw [if_neg]
      · exact g
      · rcases g with g | g <;> rw [g] <;> simp
    · simp only
      rw [if_pos g]
      exact he
theorem Good.each : ∀ {l : List Ln}, Good l → ∀ x ∈ l, (10 : UInt8) ∉ x.1 ∧ (Fin x.2 ∨ (x.2 = [] ∧ x.1 ≠ []))
  | [], _, x, hx => by cases hx
  | [y], h, x, hx => by rw [List.mem_singleton] at hx; subst hx; exact h
  | y :: z :: r, ⟨h1, h2, h3⟩, x, hx => by
    rw [List.mem_cons] at hx
    rcases hx with rfl | hx
    · exact ⟨h1, .inl h2⟩
    · exact Good.each h3 x hx
def sl (s : Bs) (a b : Nat) : Bs := (s.take b).drop a
theorem sl_self (s : Bs) (a : Nat) : sl s a a = [] := by
  rw [sl, List.drop_eq_nil_iff, List.length_take]; omega
theorem sl_snoc {s : Bs} {a k : Nat} (ha : a ≤ k) (hk : k < s.length) : sl s a k ++ [s[k]] = sl s a (k + 1) := by
  rw [sl, sl, List.take_succ_eq_append_getElem hk, List.drop_append_of_le_length (by rw [List.length_take]; omega)]
theorem sl_length {s : Bs} {a b : Nat} (hb : b ≤ s.length) : (sl s a b).length = b - a := by
  rw [sl, List.length_drop, List.length_take]; omega
def cr (s : Bs) (a k : Nat) : Bool := decide ((sl s a k).getLast? = some 13)
theorem cr_self (s : Bs) (a : Nat) : cr s a a = false := by simp [cr, sl_self]
theorem cr_snoc {s : Bs} {a k : Nat} (ha : a ≤ k) (hk : k < s.length) : cr s a (k + 1) = decide (s[k] = 13) := by
  rw [cr, ← sl_snoc ha hk]; simp
theorem cr_pos {s : Bs} {a k : Nat} (h : cr s a k = true) : a < k := by
  have h2 := of_decide_eq_true h
  rcases Nat.lt_or_ge a k with g | g
  · exact g
  · have : sl s a k = [] := by rw [sl, List.drop_eq_nil_iff, List.length_take]; omega
    rw [this] at h2
    simp at h2
def lo (s : Bs) (a k : Nat) : Nat := if cr s a k = true then k - 1 else k
theorem lo_le (s : Bs) (a k : Nat) (h : a ≤ k) : a ≤ lo s a k ∧ lo s a k ≤ k := by
  unfold lo
  by_cases g : cr s a k = true
  · rw [if_pos g]; have := cr_pos g; omega
  · rw [if_neg g]; omega
theorem cut_sl {s : Bs} {a k : Nat} (ha : a ≤ k) (hk : k < s.length) (h10 : s[k] = 10) : cut (sl s a k) = (sl s a (lo s a k), sl s (lo s a k) (k + 1)) := by
  unfold cut lo
  by_cases g : cr s a k = true
  · have g2 := of_decide_eq_true g
    have hp := cr_pos g
    rw [if_pos g2, if_pos g]
    obtain ⟨j, rfl⟩ : ∃ j, k = j + 1 := ⟨k - 1, by omega⟩
    have h1 := sl_snoc (s := s) (a := a) (k := j) (by omega) (by omega)
    have h13 : s[j] = 13 := by rw [← h1] at g2; simpa using g2
    have e1 : (sl s a (j + 1)).dropLast = sl s a j := by rw [← h1]; simp
    have e2 : sl s j (j + 1 + 1) = [13, 10] := by
      rw [← sl_snoc (s := s) (a := j) (k := j + 1) (by omega) hk, ← sl_snoc (s := s) (a := j) (k := j) (by omega) (by omega), sl_self, h13, h10]
      rfl
    rw [e1, Nat.add_sub_cancel, e2]
  · have g2 : ¬ (sl s a k).getLast? = some 13 := fun e => g (decide_eq_true e)
    rw [if_neg g2, if_neg g, ← sl_snoc (s := s) (a := k) (k := k) (Nat.le_refl _) hk, sl_self, h10]
    rfl
def Inv (s : Bs) (a k : Nat) (done : List Ln) : Prop := a ≤ k ∧ k ≤ s.length ∧ split s = done ++ spl (sl s a k) (s.drop k)
theorem Inv.start (s : Bs) : Inv s 0 0 [] := ⟨Nat.le_refl _, Nat.zero_le _, by rw [sl_self]; rfl⟩
theorem Inv.other {s : Bs} {a k : Nat} {done : List Ln} (h : Inv s a k done) (hk : k < s.length) (hne : s[k] ≠ 10) : Inv s a (k + 1) done := by
  obtain ⟨h1, h2, h3⟩ := h
  refine ⟨by omega, by omega, ?_⟩
  rw [h3, List.drop_eq_getElem_cons hk, spl, if_neg hne, sl_snoc h1 hk]
theorem Inv.line {s : Bs} {a k : Nat} {done : List Ln} (h : Inv s a k done) (hk : k < s.length) (he : s[k] = 10) : Inv s (k + 1) (k + 1) (done ++ [(sl s a (lo s a k), sl s (lo s a k) (k + 1))]) := by
  obtain ⟨h1, h2, h3⟩ := h
  refine ⟨Nat.le_refl _, by omega, ?_⟩
  rw [h3, List.drop_eq_getElem_cons hk, spl, if_pos he, cut_sl h1 hk he, sl_self]
  simp
theorem Inv.last {s : Bs} {a k : Nat} {done : List Ln} (h : Inv s a k done) (hk : k = s.length) : split s = if a < s.length then done ++ [(sl s a s.length, [])] else done := by
  obtain ⟨h1, h2, h3⟩ := h
  subst hk
  rw [h3, List.drop_length, spl]
  by_cases g : a < s.length
  · rw [if_pos g, if_neg]
    intro e
    have := sl_length (s := s) (a := a) (b := s.length) (Nat.le_refl _)
    rw [e] at this
    simp at this
    omega
  · obtain rfl : a = s.length := by omega
    rw [if_neg g, sl_self, if_pos rfl, List.append_nil]
theorem split_le (s : Bs) : (split s).length ≤ s.length := by
  have main : ∀ (r cur : Bs), (spl cur r).length ≤ cur.length + r.length := by
    intro r
    induction r with
    | nil =>
      intro cur
      rw [spl]
      by_cases h : cur = []
      · rw [if_pos h]; simp
      · rw [if_neg h]
        have := List.length_pos_iff.2 h
        simp; omega
    | cons c r ih =>
      intro cur
      rw [spl]
      by_cases h : c = 10
      · rw [if_pos h, List.length_cons, List.length_cons]
        have := ih []
        simp only [List.length_nil] at this
        omega
      · rw [if_neg h, List.length_cons]
        have := ih (cur ++ [c])
        simp only [List.length_append, List.length_cons, List.length_nil] at this
        omega
  have := main s []
  simpa [split] using this
theorem Inv.le {s : Bs} {a k : Nat} {done : List Ln} (h : Inv s a k done) : done.length ≤ s.length := by
  have := split_le s
  rw [h.2.2, List.length_append] at this
  omega
theorem Inv.le2 {s : Bs} {a k : Nat} {done : List Ln} (h : Inv s a k done) : done.length ≤ (split s).length := by
  rw [h.2.2, List.length_append]
  omega
end Go.Proofs.YtapgaglkkgbgkaaGreatDoor.Li
namespace Go.Proofs.YtapgaglkkgbgkaaGreatDoor.Li
open Go.RowKit
set_option maxRecDepth 100000

def encs (l : Bs) : Value := .string ⟨l.toArray⟩
def lcells : List Ln → List Value
  | [] => []
  | x :: r => encs x.1 :: encs x.2 :: lcells r
theorem lcells_append (a b : List Ln) : lcells (a ++ b) = lcells a ++ lcells b := by
  induction a with
  | nil => rfl
  | cons x r ih => simp [lcells, ih]
theorem lcells_length (l : List Ln) : (lcells l).length = l.length * 2 := by
  induction l with
  | nil => rfl
  | cons x r ih => simp only [lcells, List.length_cons, ih]; omega
theorem lcells_one (l : List Ln) : ∀ u ∈ lcells l, u.oneCell' = true := by
  induction l with
  | nil => intro u hu; cases hu
  | cons x r ih =>
    intro u hu
    simp only [lcells, List.mem_cons] at hu
    rcases hu with rfl | rfl | hu
    · rfl
    · rfl
    · exact ih u hu
theorem lcells_get : ∀ {l : List Ln} {j : Nat} {x : Ln}, l[j]? = some x → (lcells l)[j * 2]? = some (encs x.1) ∧ (lcells l)[j * 2 + 1]? = some (encs x.2)
  | [], j, x, h => by simp at h
  | y :: r, 0, x, h => by
    simp only [List.getElem?_cons_zero, Option.some.injEq] at h
    subst h
    exact ⟨rfl, rfl⟩
  | y :: r, j + 1, x, h => by
    simp only [List.getElem?_cons_succ] at h
    rw [show (j + 1) * 2 = j * 2 + 1 + 1 by omega]
    exact lcells_get h
theorem lcells_drop : ∀ (l : List Ln) (k : Nat), lcells (l.drop k) = (lcells l).drop (k * 2)
  | [], k => by simp [lcells]
  | y :: r, 0 => rfl
  | y :: r, k + 1 => by
    rw [List.drop_succ_cons, lcells_drop r k, show (k + 1) * 2 = k * 2 + 1 + 1 by omega]
    rfl
theorem lcells_take : ∀ (l : List Ln) (k : Nat), lcells (l.take k) = (lcells l).take (k * 2)
  | [], k => by simp [lcells]
  | y :: r, 0 => rfl
  | y :: r, k + 1 => by
    rw [List.take_succ_cons, lcells, lcells_take r k, show (k + 1) * 2 = k * 2 + 1 + 1 by omega]
    rfl

structure SeesL (w : World) (B : Nat) (A : Option Addr) (n : Nat) (ls : List Ln) : Prop where
  len : n = ls.length
  cell : ∀ (j : Nat) (u : Value), (lcells ls)[j]? = some u → ∃ b o, A = some ⟨b, o, none⟩ ∧ b < B ∧ w.cell? ⟨b, o + j, none⟩ = some u
section
variable {w w' : World} {B B' n : Nat} {A : Option Addr} {ls : List Ln}
theorem SeesL.nil (w : World) (B : Nat) (A : Option Addr) : SeesL w B A 0 [] := ⟨rfl, fun j u h => by simp [lcells] at h⟩
theorem SeesL.keep (h : SeesL w B A n ls) (hk : ∀ p : Addr, p.block < B → w'.cell? p = w.cell? p) : SeesL w' B A n ls :=
  ⟨h.len, fun j u hu => by
    obtain ⟨b, o, ha, hb, hc⟩ := h.cell j u hu
    exact ⟨b, o, ha, hb, (hk _ hb).trans hc⟩⟩
theorem SeesL.below (h : SeesL w B A n ls) (hb : Below B w w') : SeesL w' B A n ls := h.keep fun _ hp => hb.cell hp
theorem SeesL.more (h : SeesL w B A n ls) (hB : B ≤ B') : SeesL w B' A n ls :=
  ⟨h.len, fun j u hu => by
    obtain ⟨b, o, ha, hb, hc⟩ := h.cell j u hu
    exact ⟨b, o, ha, Nat.lt_of_lt_of_le hb hB, hc⟩⟩
theorem SeesL.at_ (h : SeesL w B A n ls) {j : Nat} {x : Ln} (hj : ls[j]? = some x) : ∃ b o, A = some ⟨b, o, none⟩ ∧ b < B ∧ w.cell? ⟨b, o + j * 2, none⟩ = some (encs x.1) ∧ w.cell? ⟨b, o + j * 2 + 1, none⟩ = some (encs x.2) := by
  obtain ⟨g1, g2⟩ := lcells_get hj
  obtain ⟨b, o, ha, hb, hc⟩ := h.cell _ _ g1
  obtain ⟨b2, o2, ha2, hb2, hc2⟩ := h.cell _ _ g2
  rw [ha] at ha2
  injection ha2 with ha2
  injection ha2 with e1 e2
  subst e1; subst e2
  exact ⟨b, o, ha, hb, hc, by rw [Nat.add_assoc]; exact hc2⟩
theorem SeesL.addr (h : SeesL w B A n ls) (h0 : 0 < n) : ∃ b o, A = some ⟨b, o, none⟩ ∧ b < B := by
  have hl := h.len
  have hj : ls[0]? = some ls[0] := List.getElem?_eq_getElem (by omega)
  obtain ⟨b, o, ha, hb, _⟩ := h.at_ hj
  exact ⟨b, o, ha, hb⟩
theorem SeesL.take (h : SeesL w B A n ls) {k : Nat} (hk : k ≤ n) : SeesL w B A k (ls.take k) := by
  have hl := h.len
  refine ⟨by rw [List.length_take]; omega, fun j u hu => ?_⟩
  rw [lcells_take, List.getElem?_take] at hu
  split at hu
  · exact h.cell j u hu
  · cases hu
theorem SeesL.drop {b o : Nat} (h : SeesL w B (some ⟨b, o, none⟩) n ls) {k : Nat} (hk : k ≤ n) : SeesL w B (some ⟨b, o + k * 2, none⟩) (n - k) (ls.drop k) := by
  have hl := h.len
  refine ⟨by rw [List.length_drop]; omega, fun j u hu => ?_⟩
  rw [lcells_drop, List.getElem?_drop] at hu
  obtain ⟨b', o', e, hb, hc⟩ := h.cell _ u hu
  injection e with e
  injection e with e1 e2
  subst e1; subst e2
  exact ⟨_, _, rfl, hb, by rw [Nat.add_assoc]; exact hc⟩
end
theorem own_form {w : World} {base n c size : Nat} {A : Option Addr} {e : TypeId} {vs : List Value} (h : w.ownsRow base e size (.slice A n c) n vs) : (A = none ∧ n = 0 ∧ vs = []) ∨ ∃ g, A = some ⟨g, 0, none⟩ ∧ base ≤ g ∧ g < w.heap.size ∧ n ≤ c ∧ c ≤ maxLen ∧ ∀ j u, vs[j]? = some u → w.cell? ⟨g, 0 + j, none⟩ = some u := by
  obtain ⟨h1, hr⟩ := h
  rcases hr with ⟨e1, e2⟩ | ⟨g, cap, cur, e1, hg, hh, hcap, hmx, hsz, htk⟩
  · injection e1 with e1 _ _
    subst e2
    exact .inl ⟨e1, rfl, List.eq_nil_of_length_eq_zero (by omega)⟩
  · injection e1 with e1 _ e3
    subst e1; subst e3
    refine .inr ⟨g, rfl, hg, (Array.getElem?_eq_some_iff.1 hh).1, hcap, hmx, fun j u hu => ?_⟩
    rw [cell_of_row w g _ cur _ _ hh, Nat.zero_add]
    rw [← htk, List.getElem?_take] at hu
    split at hu
    · simpa using hu
    · cases hu
abbrev OwnL (w : World) (base : Nat) (A : Option Addr) (n c : Nat) (ls : List Ln) : Prop := w.ownsRow base 85 2 (.slice A n c) n (lcells ls)
theorem OwnL.sees {w : World} {base n c : Nat} {A : Option Addr} {ls : List Ln} (h : OwnL w base A n c ls) : SeesL w w.heap.size A n ls := by
  have h1 := h.1
  rw [lcells_length] at h1
  have hn : n = ls.length := by omega
  rcases own_form h with ⟨rfl, rfl, hl⟩ | ⟨g, rfl, hg, hgl, _, _, hc⟩
  · have : ls = [] := List.eq_nil_of_length_eq_zero (by omega)
    subst this
    exact SeesL.nil _ _ _
  · exact ⟨hn, fun j u hu => ⟨g, 0, rfl, hgl, hc j u hu⟩⟩
theorem OwnL.cap {w : World} {base n c : Nat} {A : Option Addr} {ls : List Ln} (h : OwnL w base A n c ls) : n ≤ c ∧ c ≤ maxLen := by
  rcases h.2 with ⟨e, _⟩ | ⟨g, cap, cur, e, _, _, hn, hm, _⟩
  · injection e with _ h1 h2
    subst h1; subst h2
    exact ⟨Nat.le_refl _, Nat.zero_le _⟩
  · injection e with _ _ h2
    subst h2
    exact ⟨hn, hm⟩
theorem OwnL.below {w w' : World} {base n c : Nat} {A : Option Addr} {ls : List Ln} (h : OwnL w base A n c ls) (hb : Below w.heap.size w w') : OwnL w' base A n c ls :=
  h.kept (row := none) ⟨hb.os, hb.tape, hb.output, hb.size, fun i hi _ => hb.block i hi⟩ (by cases hv : (Value.slice A n c).ownBlock <;> simp)
theorem elem_line : Elem Tryz.prog 65 85 (.agg #[.string ⟨#[]⟩, .string ⟨#[]⟩]) 2 32 := ⟨Tryz.underlying65, by kernel_rfl, rfl, by omega⟩
theorem SeesL.src {w : World} {B n c : Nat} {A : Option Addr} {ls : List Ln} (h : SeesL w B A n ls) : Src Tryz.prog 2 65 (.slice A n c) n (lcells ls) w := by
  have hl := h.len
  cases A with
  | none =>
    have : ls = [] := by
      cases ls with
      | nil => rfl
      | cons x r => obtain ⟨b, o, e, _⟩ := h.cell 0 (encs x.1) rfl; cases e
    subst this
    subst hl
    exact Src.ofNil w Tryz.underlying65 c
  | some a =>
    refine Src.ofSlice w Tryz.underlying65 a n c (lcells ls) (by rw [lcells_length, hl]) (fun j u hu => ?_) (lcells_one ls)
    obtain ⟨b, o, e, _, hc⟩ := h.cell j u hu
    injection e with e
    subst e
    rw [Addr.add_lit]
    exact hc
theorem src_line (W : World) (t e : Bs) (arr : Array Value) (harr : arr = #[encs t, encs e]) (g : Nat) (hg : g = W.heap.size) : Src Tryz.prog 2 65 (.slice (some ⟨g, 0, none⟩) 1 1) 1 [encs t, encs e] (W.alloc (Obj.cells arr 85)) := by
  subst hg; subst harr
  refine Src.ofSlice _ Tryz.underlying65 ⟨W.heap.size, 0, none⟩ 1 1 [encs t, encs e] rfl (fun j u hu => ?_) (by intro u hu; simp at hu; rcases hu with rfl | rfl <;> rfl)
  rw [Addr.add_lit, cell_of_row _ _ _ _ _ _ (heap_alloc_new W _), ← hu, Nat.zero_add]
  simp
theorem src_line_d (W : World) (t e : Bs) (arr : Array Value) (harr : arr = #[encs t, encs e]) (g : Nat) (hg : g = W.heap.size) : Src Tryz.prog 2 65 (.slice (some ⟨g, 0, none⟩) 1 1) 1 [encs t, encs e] (W.alloc (Obj.cells arr 85)).drew := by
  subst hg; subst harr
  refine Src.ofSlice _ Tryz.underlying65 ⟨W.heap.size, 0, none⟩ 1 1 [encs t, encs e] rfl (fun j u hu => ?_) (by intro u hu; simp at hu; rcases hu with rfl | rfl <;> rfl)
  show (W.alloc (Obj.cells #[encs t, encs e] 85)).cell? _ = _
  rw [Addr.add_lit, cell_of_row _ _ _ _ _ _ (heap_alloc_new W _), ← hu, Nat.zero_add]
  simp
theorem grown_undrew {W w4 : World} {row : Option Nat} (h : W.drew.grownBy w4 row) : W.grownBy w4 row := ⟨h.os, h.tape, h.output, h.size, h.block⟩
theorem ext_sl (b : ByteArray) (a k : Nat) : Value.string (b.extract a k) = encs (sl b.data.toList a k) := by
  rw [encs, sl, Lib.extract_eq, List.drop_take]
theorem below_box {w w' : World} {g : Nat} {o : Obj} (hb : Below w.heap.size w w') (h : w.heap[g]? = some o) : w'.heap[g]? = some o :=
  (hb.block g (Array.getElem?_eq_some_iff.1 h).1).trans h

def ups (J : Nat → Act → World → Nat → Prop) (m : Nat) (Q : Exit → Act → World → Prop) : Exit → Act → World → Prop
  | .goto l, a, w => ∃ k, k < m ∧ J l a w k
  | e, a, w => Q e a w
section
variable {P : Program} {a : Act} {w : World} {Q : Exit → Act → World → Prop}
theorem wp_scope_ups {c : Code} (J : Nat → Act → World → Nat → Prop) (m : Nat) (first : c.wp P (ups J m Q) a w)
    (pass : ∀ l a w k, J l a w k → ∃ rest, findLabel c l = some rest ∧ rest.wp P (ups J k Q) a w) : (Code.scope c).wp P Q a w := by
  intro b k cs
  have hg : ∀ l rest, findLabel c l = some rest → gotoIn l (.inScope c :: k) = some (.code rest :: .inScope c :: k) := fun l rest hf => by simp [gotoIn, hf]
  have key : ∀ n l a w, J l a w n → ∃ rest, findLabel c l = some rest ∧ ∃ e a' w', Q e a' w' ∧ Arrives P (lone (b.at a (.code rest :: .inScope c :: k)) cs w) b k cs e a' w' := by
    intro n
    induction n using Nat.strongRecOn with
    | _ n ih =>
      intro l a w hJ
      obtain ⟨rest, hf, hwp⟩ := pass l a w n hJ
      refine ⟨rest, hf, ?_⟩
      obtain ⟨e, a₁, w₁, hq, harr⟩ := hwp b (.inScope c :: k) cs
      cases e with
      | normal => exact ⟨.normal, a₁, w₁, hq, Steps.trans harr (.one step_inScope)⟩
      | exit id => exact ⟨.exit id, a₁, w₁, hq, fun k' hk => harr k' (by simp [exitTo, hk])⟩
      | goto l' =>
        obtain ⟨j, hlt, hJ'⟩ := hq
        obtain ⟨r2, hf2, e₂, a₂, w₂, hq₂, harr₂⟩ := ih j hlt l' a₁ w₁ hJ'
        exact ⟨e₂, a₂, w₂, hq₂, .of_steps (harr _ (hg l' r2 hf2)) harr₂⟩
      | ret => exact ⟨_, a₁, w₁, hq, harr⟩
      | panic ch => exact ⟨_, a₁, w₁, hq, harr⟩
      | outgrown => exact ⟨_, a₁, w₁, hq, harr⟩
  obtain ⟨e, a₁, w₁, hq, harr⟩ := first b (.inScope c :: k) cs
  cases e with
  | normal => exact ⟨.normal, a₁, w₁, hq, .head step_scope (Steps.trans harr (.one step_inScope))⟩
  | exit id => exact ⟨.exit id, a₁, w₁, hq, fun k' hk => .head step_scope (harr k' (by simp [exitTo, hk]))⟩
  | goto l' =>
    obtain ⟨j, _, hJ'⟩ := hq
    obtain ⟨r2, hf2, e₂, a₂, w₂, hq₂, harr₂⟩ := key j l' a₁ w₁ hJ'
    exact ⟨e₂, a₂, w₂, hq₂, .of_steps (.head step_scope (harr _ (hg l' r2 hf2))) harr₂⟩
  | ret => exact ⟨_, a₁, w₁, hq, .of_steps (.one step_scope) harr⟩
  | panic ch => exact ⟨_, a₁, w₁, hq, .of_steps (.one step_scope) harr⟩
  | outgrown => exact ⟨_, a₁, w₁, hq, .of_steps (.one step_scope) harr⟩
end
end Go.Proofs.YtapgaglkkgbgkaaGreatDoor.Li
namespace Go.Proofs.YtapgaglkkgbgkaaGreatDoor.Li
set_option maxRecDepth 100000

def bl (c : UInt8) : Bool := ([32, 9] : Bs).contains c
def tl (l : Bs) : Nat := (l.takeWhile bl).length
theorem tl_le (l : Bs) : tl l ≤ l.length := by
  induction l with
  | nil => exact Nat.le_refl _
  | cons c r ih =>
    unfold tl at ih ⊢
    rw [List.takeWhile_cons]
    cases bl c <;> simp <;> omega
theorem tl_in : ∀ (l : Bs) (i : Nat) (h : i < l.length), i < tl l → bl l[i] = true
  | [], i, h, _ => by simp at h
  | c :: r, i, h, hi => by
    unfold tl at hi
    rw [List.takeWhile_cons] at hi
    cases hc : bl c with
    | false => rw [hc] at hi; simp at hi
    | true =>
      cases i with
      | zero => exact hc
      | succ i =>
        rw [hc] at hi
        simp at hi
        exact tl_in r i (by simpa using h) hi
theorem tl_out : ∀ (l : Bs) (h : tl l < l.length), bl (l[tl l]'h) = false
  | [], h => by simp at h
  | c :: r, h => by
    cases hc : bl c with
    | false =>
      have e : tl (c :: r) = 0 := by unfold tl; rw [List.takeWhile_cons, hc]; rfl
      simp only [e]
      exact hc
    | true =>
      have e : tl (c :: r) = tl r + 1 := by unfold tl; rw [List.takeWhile_cons, hc]; rfl
      simp only [e]
      exact tl_out r (by rw [e] at h; simpa using h)
theorem tl_drop : ∀ l : Bs, l.dropWhile bl = l.drop (tl l)
  | [] => rfl
  | c :: r => by
    cases hc : bl c with
    | false =>
      have e : tl (c :: r) = 0 := by unfold tl; rw [List.takeWhile_cons, hc]; rfl
      rw [e, List.dropWhile_cons, hc]; rfl
    | true =>
      have e : tl (c :: r) = tl r + 1 := by unfold tl; rw [List.takeWhile_cons, hc]; rfl
      rw [e, List.dropWhile_cons, hc, List.drop_succ_cons]
      exact tl_drop r
def tr (l : Bs) : Nat := l.length - tl l.reverse
theorem tr_le (l : Bs) : tr l ≤ l.length := Nat.sub_le _ _
theorem tr_take (l : Bs) : (l.reverse.dropWhile bl).reverse = l.take (tr l) := by
  rw [tl_drop, List.drop_reverse, List.reverse_reverse]; rfl
theorem tr_in (l : Bs) (i : Nat) (h : i < l.length) (hi : tr l ≤ i) : bl l[i] = true := by
  have h1 := tl_le l.reverse
  rw [List.length_reverse] at h1
  unfold tr at hi
  have := tl_in l.reverse (l.length - 1 - i) (by rw [List.length_reverse]; omega) (by omega)
  rw [List.getElem_reverse] at this
  have e : l.length - 1 - (l.length - 1 - i) = i := by omega
  simpa only [e] using this
theorem tr_out (l : Bs) (h0 : 0 < tr l) (h : tr l - 1 < l.length) : bl (l[tr l - 1]'h) = false := by
  have h1 := tl_le l.reverse
  rw [List.length_reverse] at h1
  have h2 := tl_out l.reverse (by rw [List.length_reverse]; unfold tr at h0; omega)
  rw [List.getElem_reverse] at h2
  have e : l.length - 1 - tl l.reverse = tr l - 1 := by unfold tr; omega
  simpa only [e] using h2
def en (s : Bs) : Nat := tl s + tr (s.drop (tl s))
theorem en_le (s : Bs) : tl s ≤ en s ∧ en s ≤ s.length := by
  have h1 := tl_le s
  have h2 := tr_le (s.drop (tl s))
  rw [List.length_drop] at h2
  unfold en
  omega
theorem en_in (s : Bs) (i : Nat) (h : i < s.length) (hi : en s ≤ i) : bl s[i] = true := by
  have h1 := en_le s
  unfold en at hi
  have := tr_in (s.drop (tl s)) (i - tl s) (by rw [List.length_drop]; omega) (by omega)
  rw [List.getElem_drop] at this
  have e : tl s + (i - tl s) = i := by omega
  simpa only [e] using this
theorem en_out (s : Bs) (h0 : tl s < en s) (h : en s - 1 < s.length) : bl (s[en s - 1]'h) = false := by
  have h1 := en_le s
  have h2 : 0 < tr (s.drop (tl s)) := by unfold en at h0; omega
  have h3 := tr_out (s.drop (tl s)) h2 (by rw [List.length_drop]; unfold en at h; omega)
  rw [List.getElem_drop] at h3
  have e : tl s + (tr (s.drop (tl s)) - 1) = en s - 1 := by unfold en; omega
  simpa only [e] using h3
def fr (b : ByteArray) : ByteArray := ⟨(sl b.data.toList 0 (tl b.data.toList)).toArray⟩
def mi (b : ByteArray) : ByteArray := ⟨(sl b.data.toList (tl b.data.toList) (en b.data.toList)).toArray⟩
def ba (b : ByteArray) : ByteArray := ⟨(sl b.data.toList (en b.data.toList) b.data.toList.length).toArray⟩
theorem mi_size (b : ByteArray) : (mi b).size = en b.data.toList - tl b.data.toList := by
  have h1 := en_le b.data.toList
  show (sl _ _ _).toArray.size = _
  rw [List.size_toArray, sl_length h1.2]
end Go.Proofs.YtapgaglkkgbgkaaGreatDoor.Li
namespace Go.Proofs.YtapgaglkkgbgkaaGreatDoor.Li
open Go.RowKit
set_option maxRecDepth 100000

theorem size_b : (Tryz.prog.info? 139).map (·.size) = some 2 := by kernel_rfl
theorem lies_b : liesAt Tryz.prog Tryz.prog.depth 139 (2 / Tryz.prog.cellsOf 139) 0 139 1 = true := by kernel_rfl
abbrev Bld (B b : Nat) (l : Bs) (w : World) : Prop := Lib.IsBuilder 139 5 B b (Lib.byteCells l) w

set_option maxHeartbeats 1000000 in
theorem used_any (b : Nat) (w : World) (h0 : w.cell? ⟨b, 0, none⟩ = some (.pointer (some ⟨b, 0, none⟩))) :
    Calls Tryz.prog 105 #[.pointer (some ⟨b, 0, none⟩)] w fun e w' => e = .returned (.tuple #[]) ∧ w = w' := by
  obtain ⟨j, hj, _⟩ := Option.map_eq_some_iff.1 size_b
  have hq := Lib.run_neq_ptr_same (P := Tryz.prog) w ⟨b, 0, none⟩ Tryz.underlying137 hj
  go_enter Tryz.func105, Tryz.ntmps105
  go_wp2
  go_end0
  exact ⟨rfl, rfl⟩

set_option maxHeartbeats 1000000 in
theorem fresh_any (b : Nat) (w : World) (h0 : w.cell? ⟨b, 0, none⟩ = some (.pointer none)) (hsh : w.shape? b = some (139, 2)) (hfz : w.frozen? ⟨b, 0, none⟩ = false) :
    Calls Tryz.prog 105 #[.pointer (some ⟨b, 0, none⟩)] w fun e w' => e = .returned (.tuple #[]) ∧ w' = w.setCell ⟨b, 0, none⟩ (.pointer (some ⟨b, 0, none⟩)) := by
  obtain ⟨j, hj, hjs⟩ := Option.map_eq_some_iff.1 size_b
  have k1 := Lib.run_to_unsafe (P := Tryz.prog) w ⟨b, 0, none⟩ Tryz.underlying137 Tryz.underlying178 hj (by rw [hjs]; decide) hsh (Nat.zero_lt_succ 1)
  have k2 := Lib.run_from_unsafe (P := Tryz.prog) w ⟨b, 0, none⟩ Tryz.underlying178 Tryz.underlying137 hj hsh lies_b
  go_enter Tryz.func105, Tryz.ntmps105
  go_wp2
  rw [run_callFunc_extern Tryz.func124 (by kernel_rfl) (by kernel_rfl) (by kernel_rfl) (e := Extern.AbiNoEscape.same) (by kernel_rfl)]
  rw [Lib.run_noEscape]
  simp only [Result.andThen]
  rw [Oper.upon_value]
  go_wp2
  go_end0
  exact ⟨rfl, rfl⟩
theorem check_any (B b : Nat) (bs : List Value) (w : World) (h : Lib.IsBuilder 139 5 B b bs w) :
    Calls Tryz.prog 105 #[.pointer (some ⟨b, 0, none⟩)] w fun e w' => e = .returned (.tuple #[]) ∧ Lib.BuilderAt 139 5 B b (.pointer (some ⟨b, 0, none⟩)) bs w' ∧ Below B w w' ∧ (∀ g, g ≠ b → w'.heap[g]? = w.heap[g]?) ∧ w.heap.size ≤ w'.heap.size := by
  rcases h with h | h
  · refine (fresh_any b w h.cell0 h.shape h.frozen0).mono ?_
    rintro e w' ⟨rfl, rfl⟩
    exact ⟨rfl, h.used _, (Below.refl B w).setCell (p := ⟨b, 0, none⟩) h.1 _, fun g hg => heap_setCell_other _ _ _ _ hg, by simp [World.setCell]⟩
  · refine (used_any b w h.cell0).mono ?_
    rintro e w' ⟨rfl, rfl⟩
    exact ⟨rfl, h, Below.refl B _, fun _ _ => rfl, Nat.le_refl _⟩

def Others (b : Nat) (w w' : World) : Prop := ∀ g, g < w.heap.size → g ≠ b → (∀ cs fr, w.heap[g]? ≠ some (.cells cs 5 fr)) → w'.heap[g]? = w.heap[g]?
set_option maxHeartbeats 2000000 in
theorem write_any (B b : Nat) (l : Bs) (s : ByteArray) (w : World) (h : Bld B b l w) (hlen : l.length + s.size ≤ 140737488355328) (hBw : B ≤ w.heap.size) :
    Calls Tryz.prog 85 #[.pointer (some ⟨b, 0, none⟩), .string s] w fun e w' => e = .returned (.tuple #[.int .i64 s.size, .nilIface]) ∧ Bld B b (l ++ s.data.toList) w' ∧ Below B w w' ∧ Others b w w' := by
  obtain ⟨i0, hi, hz0, hz1, hz2⟩ := info_parts info_u8
  have hll := Lib.byteCells_length l
  have HB := Lib.hid hll
  clear hll
  go_enter Tryz.func85, Tryz.ntmps85
  go_wp2_with (go_at_call 105; (with_reducible refine (check_any B b _ _ h).mono ?_))
  rintro e w1 ⟨rfl, h1, hb1, ho1, hz⟩
  have Ho1 := Lib.hid ho1
  clear ho1
  obtain ⟨hB, v, hbk, hown, hne⟩ := h1
  have c0 : w1.cell? ⟨b, 0, none⟩ = some (.pointer (some ⟨b, 0, none⟩)) := by rw [Lib.cell_of_heap hbk]; rfl
  have c1 : w1.cell? ⟨b, 1, none⟩ = some v := by rw [Lib.cell_of_heap hbk]; rfl
  have hlt : b < w1.heap.size := (Array.getElem?_eq_some_iff.1 hbk).1
  have hB1 : B ≤ w1.heap.size := Nat.le_trans hBw hb1.size
  have HK := Lib.hid hbk
  clear hbk
  go_wp2_with (at_builtin; refine Lib.wpList_append_own_string _ rfl _ _ 26 9 rfl B 5 i0 Tryz.underlying26 Tryz.underlying9 hi hz0 hz1 hz2 _ _ _ rfl hown s rfl ?c3 ?c4 ?c5 ?_)
  case c3 => have := HB.out; unfold maxLen; omega
  case c4 => have := HB.out; omega
  case c5 => exact hB1
  intro v' w2 hown' hgrow _
  have hb2 : w2.heap[b]? = some (.cells #[.pointer (some ⟨b, 0, none⟩), v] 139 (0, 0)) := by
    rw [hgrow.block b hlt (fun e => hne e.symm)]
    exact HK.out
  have d0 : w2.cell? ⟨b, 0, none⟩ = some (.pointer (some ⟨b, 0, none⟩)) := by rw [Lib.cell_of_heap hb2]; rfl
  have d1 : w2.cell? ⟨b, 1, none⟩ = some v := by rw [Lib.cell_of_heap hb2]; rfl
  have f1 : w2.frozen? ⟨b, 1, none⟩ = false := Lib.frozen_of_heap hb2 1
  obtain ⟨ao, n', cap, rfl⟩ : ∃ ao n' cap, v' = .slice ao n' cap := by
    rcases hown'.2 with ⟨hv, _⟩ | ⟨g, cap, cur, hv, _⟩
    · exact ⟨_, _, _, hv⟩
    · exact ⟨_, _, _, hv⟩
  have HK2 := Lib.hid hb2
  have HO := Lib.hid hown'
  clear hb2 hown'
  go_wp2_with fail
  go_ret2
  refine ⟨rfl, ?_, ?_, ?_⟩
  · right
    have hc : Lib.byteCells (l ++ s.data.toList) = Lib.byteCells l ++ Lib.strCells s := by rw [Lib.strCells_eq]; simp [Lib.byteCells]
    rw [hc]
    exact Lib.BuilderAt.put (T := 139) (e := 5) hB HK2.out (bs' := Lib.byteCells l ++ Lib.strCells s) (by simpa [Lib.strCells_length] using HO.out) (by decide)
  · exact (hb1.grown hgrow hB1 (fun k hk => (hown.lt k hk).1)).setCell (p := ⟨b, 1, none⟩) hB _
  · intro g hg hgb hgc
    rw [heap_setCell_other _ _ _ _ hgb, hgrow.block g (by omega) (fun e => ?_), Ho1.out g hgb]
    rcases hown.2 with ⟨e1, _⟩ | ⟨g', cap', cur, e1, _, hh, _⟩
    · rw [e1] at e; cases e
    · rw [e1] at e
      injection e with e
      simp only at e
      subst e
      rw [Ho1.out g hgb] at hh
      exact hgc _ _ hh
theorem Bld.keep {B b : Nat} {l : Bs} {w w' : World} (h : Bld B b l w) (hb : Below w.heap.size w w') : Bld B b l w' := by
  have main : ∀ p, Lib.BuilderAt 139 5 B b p (Lib.byteCells l) w → Lib.BuilderAt 139 5 B b p (Lib.byteCells l) w' := by
    rintro p ⟨h1, v, h2, h3, h4⟩
    exact ⟨h1, v, below_box hb h2, h3.kept (row := none) ⟨hb.os, hb.tape, hb.output, hb.size, fun i hi _ => hb.block i hi⟩ (by cases hv : v.ownBlock <;> simp), h4⟩
  rcases h with h | h
  · exact .inl (main _ h)
  · exact .inr (main _ h)
end Go.Proofs.YtapgaglkkgbgkaaGreatDoor.Li
