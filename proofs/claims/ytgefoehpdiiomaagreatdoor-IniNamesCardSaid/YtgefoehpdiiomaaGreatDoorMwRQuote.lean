/- Quoted of the reference: a name, quoted. Conditions: names below 2^40 bytes. · Text of the reference: a tree, written. Conditions: the text is below 2^40 bytes. · csv.Load: what a file is loaded as; the closed readings. Conditions: texts of ASCII bytes in its fields; MaxLen's cell. · copy between rows whose elements have any number of cells; append of zero values that makes a new row. Conditions: what is copied fits. · Cells laid over a row: what stands there then. No conditions. · slices.Insert of lines into a row of lines of one's own. Conditions: fewer than 2^38 lines each; the place is within the row. · slices.Insert of lines of one's own among lines of one's own, any number. Conditions: fewer than 2^37 lines each. · ini: what some files read as: closed readings. No conditions. · A row's frame where the row lists variables and the walk asks the world's shape. No conditions. -/
import Derived.Test.YtgefoehpdiiomaaGreatDoorMwJudge
import Derived.Deep.QuietTactic
import Derived.BigQuiet
import Derived.IntWalk
import Derived.Laws.Concat
import Derived.Outline
import Derived.Test.YtgefoehpdiiomaaGreatDoorWith
import Derived.Test.YtgefoehpdiiomaaGreatDoorCvRead
import Derived.Test.YtgefoehpdiiomaaGreatDoorMwWords
import Derived.Test.YtgefoehpdiiomaaGreatDoorStack
import Derived.Laws.CopyRow
import Derived.Laws.CopyOwn
import Derived.Lib.AppendZerosOnto
import Derived.Deep.RegionLaw
import Derived.Test.YtgefoehpdiiomaaGreatDoorMwRcMath
import Derived.Test.YtgefoehpdiiomaaGreatDoorMwLiMath
import Derived.Lib.Overlaps
import Derived.Laws.Externs
import Derived.Test.YtgefoehpdiiomaaGreatDoorMwCvOrdM
import Derived.Test.YtgefoehpdiiomaaGreatDoorMwLiSplit
import Derived.Handed
import Derived.ShapedOpen
import Derived.Shelf.LaysM
namespace Go.Proofs.YtgefoehpdiiomaaGreatDoor.Pt
open Go.RowKit
set_option maxRecDepth 100000

theorem extract_one (s : ByteArray) (k : Nat) (h : k < s.size) : (s.extract k (k + 1)).data.toList = [s[k]] := by
  have e : (s.extract k (k + 1)).data = s.data.extract k (k + 1) := by simp [ByteArray.data_extract]
  rw [e, Array.toList_extract, List.extract_eq_take_drop]
  rw [show k + 1 - k = 1 by omega, List.drop_eq_getElem_cons (by rw [Array.length_toList]; exact h)]
  rfl
theorem extract_one_size (s : ByteArray) (k : Nat) (h : k < s.size) : (s.extract k (k + 1)).size = 1 := by
  rw [ByteArray.size_extract]; omega
def HEX : ByteArray := ⟨#[48, 49, 50, 51, 52, 53, 54, 55, 56, 57, 97, 98, 99, 100, 101, 102]⟩
theorem hex_one : ∀ a : Nat, a < 16 → (HEX.extract a (a + 1)).data.toList = [dig16 a] := by decide
theorem hex_size (a : Nat) (h : a < 16) : (HEX.extract a (a + 1)).size = 1 := extract_one_size HEX a h
theorem app_list (a b : ByteArray) : (a ++ b).data.toList = a.data.toList ++ b.data.toList := by simp

set_option maxHeartbeats 2000000 in
theorem rquoted_any (s : ByteArray) (w : World) (hs : s.size ≤ 1099511627776) :
    Calls Tryz.prog 52 #[.string s] w fun e w' => (∃ O : ByteArray, e = .returned (.string O) ∧ O.data.toList = quo s.data.toList) ∧ ∃ q, w' = w.drewN q := by
  go_enter Tryz.func52, Tryz.ntmps52
  go_wp2_with fail
  go_loopw [4, 5] (fun o i wr => ∃ (k : Nat) (O : ByteArray) (q : Nat), k ≤ s.size ∧ i = .int .i64 k ∧ o = .string O ∧ Hid (O.data.toList = [34] ++ quoL (s.data.toList.take k)) ∧ Hid (wr = w.drewN q)) (fun _ i _ => s.size - (intOf i).toNat)
  case atStart => exact ⟨0, ⟨#[34]⟩, 0, by omega, rfl, rfl, Lib.hid (by simp [quoL]), Lib.hid rfl⟩
  case round =>
    obtain ⟨k, O, q0, hk, rfl, rfl, HO, HW⟩ := hrel
    have hOl : O.size ≤ 4 * s.size + 1 := by
      have h1 := congrArg List.length HO.out
      have h2 := quoL_le (s.data.toList.take k)
      simp only [List.length_append, List.length_cons, List.length_nil, List.length_take, Array.length_toList] at h1 h2
      have : O.data.size = O.size := rfl
      omega
    by_cases hlt : k < s.size
    · have hts := take_snoc_ s k hlt
      have HS : Hid (quoL (s.data.toList.take (k + 1)) = quoL (s.data.toList.take k) ++ quoB s[k]) := by rw [hts]; exact quoL_snoc _ _
      have hu := s[k].toNat_lt
      have hx1 := extract_one s k hlt
      have hxz := extract_one_size s k hlt
      have Hx1 := Lib.hid hx1
      have Hxz := Lib.hid hxz
      clear hts hx1 hxz
      obtain ⟨c, hc⟩ : ∃ c, c = s[k] := ⟨_, rfl⟩
      by_cases h1 : s[k].toNat = 34 ∨ s[k].toNat = 92
      · have hB : quoB s[k] = [92, s[k]] := by unfold quoB; rw [if_pos h1]
        have HB := Lib.hid hB
        have hadd1 := fun W => run_string_add_sum (P := Tryz.prog) W O ⟨#[92]⟩ (by have : (ByteArray.mk #[92]).size = 1 := rfl; omega)
        obtain ⟨O1, hO1⟩ : ∃ x, x = O ++ ⟨#[92]⟩ := ⟨_, rfl⟩
        rw [← hO1] at hadd1
        have hO1s : O1.size = O.size + 1 := by rw [hO1, ByteArray.size_append]; rfl
        have hadd2 := fun W => run_string_add_sum (P := Tryz.prog) W O1 (s.extract k (k + 1)) (by have := Hxz.out; omega)
        obtain ⟨O2, hO2⟩ : ∃ x, x = O1 ++ s.extract k (k + 1) := ⟨_, rfl⟩
        rw [← hO2] at hadd2
        have hO3 : O2.data.toList = [34] ++ quoL (s.data.toList.take (k + 1)) := by
          rw [hO2, hO1, app_list, app_list, HO.out, HS.out, HB.out, Hx1.out]; simp
        have HO3 := Lib.hid hO3
        have Hlt := Lib.hid hlt
        clear hB hO1 hO2 hO1s hO3 hc
        by_cases h34 : s[k].toNat = 34
        · have h34' : (s[k].toNat : Int) = 34 := by omega
          clear h1 h34
          go_wp2_with fail
          go_roundw
          case rel => exact ⟨k + 1, O2, q0, Hlt.out, by go_num, rfl, HO3, HW⟩
          case measure => have := Hlt.out; simp [intOf]; omega
        · have h34' : ¬ (s[k].toNat : Int) = 34 := by omega
          have h92' : (s[k].toNat : Int) = 92 := by omega
          have h34b : ((s[k].toNat : Int) == 34) = false := by simp; omega
          have h92b : ((s[k].toNat : Int) == 92) = true := by simp; omega
          clear h1 h34
          go_wp2_with fail
          go_roundw
          case rel => exact ⟨k + 1, O2, q0, Hlt.out, by go_num, rfl, HO3, HW⟩
          case measure => have := Hlt.out; simp [intOf]; omega
          all_goals (exfalso; simp_all <;> omega)
      · have h34 : ((s[k].toNat : Int) == 34) = false := by simp; omega
        have h92 : ((s[k].toNat : Int) == 92) = false := by simp; omega
        by_cases h4 : s[k].toNat < 32 ∨ 126 < s[k].toNat
        · have hB : quoB s[k] = [92, 120, dig16 (s[k].toNat / 16), dig16 (s[k].toNat % 16)] := by unfold quoB; rw [if_neg h1, if_pos h4]
          have HB := Lib.hid hB
          obtain ⟨a, ha⟩ : ∃ a, a = s[k].toNat / 16 := ⟨_, rfl⟩
          obtain ⟨b, hb⟩ : ∃ b, b = s[k].toNat % 16 := ⟨_, rfl⟩
          have ha16 : a < 16 := by omega
          have hb16 : b < 16 := by omega
          have hxa := hex_one a ha16
          have hxas := hex_size a ha16
          have hxb := hex_one b hb16
          have hxbs := hex_size b hb16
          have hadd1 := fun W => run_string_add_sum (P := Tryz.prog) W O ⟨#[92, 120]⟩ (by have : (ByteArray.mk #[92, 120]).size = 2 := rfl; omega)
          obtain ⟨O1, hO1⟩ : ∃ x, x = O ++ ⟨#[92, 120]⟩ := ⟨_, rfl⟩
          rw [← hO1] at hadd1
          have hO1s : O1.size = O.size + 2 := by rw [hO1, ByteArray.size_append]; rfl
          have hadd2 := fun W => run_string_add_sum (P := Tryz.prog) W O1 (HEX.extract a (a + 1)) (by omega)
          obtain ⟨O2, hO2⟩ : ∃ x, x = O1 ++ HEX.extract a (a + 1) := ⟨_, rfl⟩
          rw [← hO2] at hadd2
          have hO2s : O2.size = O1.size + 1 := by rw [hO2, ByteArray.size_append, hxas]
          have hadd3 := fun W => run_string_add_sum (P := Tryz.prog) W O2 (HEX.extract b (b + 1)) (by omega)
          obtain ⟨O3, hO3⟩ : ∃ x, x = O2 ++ HEX.extract b (b + 1) := ⟨_, rfl⟩
          rw [← hO3] at hadd3
          have hO4 : O3.data.toList = [34] ++ quoL (s.data.toList.take (k + 1)) := by
            rw [hO3, hO2, hO1, app_list, app_list, app_list, HO.out, HS.out, HB.out, hxa, hxb, ha, hb]; simp
          have hd : IntKind.u8.wrap ((s[k].toNat : Int) / 16) = a := by rw [IntKind.wrap_u8]; omega
          have hm : (s[k].toNat : Int).tmod 16 = b := by rw [Int.tmod_eq_emod_of_nonneg (by omega)]; omega
          have hd2 : IntKind.u8.wrap ((a : Int) + 1) = (a : Int) + 1 := by rw [IntKind.wrap_u8]; omega
          have hm2 : IntKind.u8.wrap ((b : Int) + 1) = (b : Int) + 1 := by rw [IntKind.wrap_u8]; omega
          have hd3 : ((a : Int) + 1).toNat = a + 1 := by omega
          have hm3 : ((b : Int) + 1).toNat = b + 1 := by omega
          have hd4 : (a : Int) + 1 ≤ 16 := by omega
          have hm4 : (b : Int) + 1 ≤ 16 := by omega
          have hd5 : (0 : Int) ≤ (a : Int) + 1 := by omega
          have hm5 : (0 : Int) ≤ (b : Int) + 1 := by omega
          have hd6 : (a : Int) ≤ (a : Int) + 1 := by omega
          have hm6 : (b : Int) ≤ (b : Int) + 1 := by omega
          have hor : (s[k].toNat : Int) < 32 ∨ ¬ (s[k].toNat : Int) < 32 ∧ 126 < (s[k].toNat : Int) := by omega
          have HO4 := Lib.hid hO4
          have Hlt := Lib.hid hlt
          unfold HEX at hadd2 hadd3
          clear hB hO1 hO2 hO3 hO4 hO1s hO2s h1 h4 hc hxa hxas hxb hxbs ha hb
          rcases hor with hor | ⟨hor, hor2⟩
          · go_wp2_with fail
            go_quiet (fail)
            go_wp2_with fail
            go_roundw
            case rel => exact ⟨k + 1, O3, _, Hlt.out, by go_num, rfl, HO4, Lib.hid (by rw [HW.out, World.drewN_drewN])⟩
            case measure => have := Hlt.out; simp [intOf]; omega
          · go_wp2_with fail
            go_quiet (fail)
            go_wp2_with fail
            go_roundw
            case rel => exact ⟨k + 1, O3, _, Hlt.out, by go_num, rfl, HO4, Lib.hid (by rw [HW.out, World.drewN_drewN])⟩
            case measure => have := Hlt.out; simp [intOf]; omega
        · have hB : quoB s[k] = [s[k]] := by unfold quoB; rw [if_neg h1, if_neg h4]
          have HB := Lib.hid hB
          have h5 : (32 : Int) ≤ (s[k].toNat : Int) := by omega
          have h6 : (s[k].toNat : Int) ≤ 126 := by omega
          have hadd2 := fun W => run_string_add_sum (P := Tryz.prog) W O (s.extract k (k + 1)) (by have := Hxz.out; omega)
          obtain ⟨O2, hO2⟩ : ∃ x, x = O ++ s.extract k (k + 1) := ⟨_, rfl⟩
          rw [← hO2] at hadd2
          have hO3 : O2.data.toList = [34] ++ quoL (s.data.toList.take (k + 1)) := by
            rw [hO2, app_list, HO.out, HS.out, HB.out, Hx1.out]; simp
          have HO3 := Lib.hid hO3
          have Hlt := Lib.hid hlt
          clear hB hO2 hO3 h1 h4 hc
          go_wp2_with fail
          go_roundw
          case rel => exact ⟨k + 1, O2, q0, Hlt.out, by go_num, rfl, HO3, HW⟩
          case measure => have := Hlt.out; simp [intOf]; omega
    · obtain rfl : k = s.size := by omega
      have hall : s.data.toList.take s.size = s.data.toList := List.take_of_length_le (by rw [Array.length_toList]; exact Nat.le_refl _)
      have hadd1 := fun W => run_string_add_sum (P := Tryz.prog) W O ⟨#[34]⟩ (by have : (ByteArray.mk #[34]).size = 1 := rfl; omega)
      obtain ⟨O1, hO1⟩ : ∃ x, x = O ++ ⟨#[34]⟩ := ⟨_, rfl⟩
      rw [← hO1] at hadd1
      have hO3 : O1.data.toList = quo s.data.toList := by rw [hO1, app_list, HO.out, hall]; rfl
      have HO3 := Lib.hid hO3
      clear hlt hall hO1 hO3
      go_wp2_with fail
      go_ret
      exact ⟨⟨O1, rfl, HO3.out⟩, q0, HW.out⟩
end Go.Proofs.YtgefoehpdiiomaaGreatDoor.Pt
namespace Go.Proofs.YtgefoehpdiiomaaGreatDoor.Pt
open Go.RowKit
set_option maxRecDepth 100000

theorem drewN_zero (w : World) : w.drewN 0 = w := rfl
def Tr.sepB : Nat → Tr → List UInt8
  | _, .nil => []
  | 0, t => t.body
  | _ + 1, t => [44, 32] ++ t.body
theorem body_cons (s : ByteArray) (k r : Tr) : (Tr.cons s k r).body = quo s.data.toList ++ [58, 32] ++ k.text ++ Tr.sepB 1 r := by
  cases r with
  | nil => simp [Tr.body, Tr.text, Tr.sepB]
  | cons s2 k2 r2 => simp [Tr.body, Tr.text, Tr.sepB]
theorem sepB_succ (i : Nat) (t : Tr) : Tr.sepB (i + 1) t = Tr.sepB 1 t := by cases t <;> rfl
theorem sepB_cons (i : Nat) (s : ByteArray) (k r : Tr) : Tr.sepB (i + 1) (.cons s k r) = [44, 32] ++ (quo s.data.toList ++ [58, 32] ++ k.text ++ Tr.sepB (i + 2) r) := by
  rw [sepB_succ (i + 1) r, ← body_cons]
  rfl
theorem sepB_zero (t : Tr) : Tr.sepB 0 t = t.body := by cases t <;> rfl
theorem len_body : ∀ t : Tr, t.len ≤ t.body.length
  | .nil => Nat.zero_le _
  | .cons s k r => by
    rw [body_cons]
    have := len_body r
    have h2 : r.body.length ≤ (Tr.sepB 1 r).length := by cases r with
      | nil => simp [Tr.sepB, Tr.body]
      | cons _ _ _ => simp only [Tr.sepB, List.length_append]; omega
    simp only [Tr.len, List.length_append, List.length_cons, List.length_nil]
    omega
theorem quoB_pos (c : UInt8) : 1 ≤ (quoB c).length := by
  unfold quoB
  split
  · simp
  · split <;> simp
theorem quoL_ge (l : List UInt8) : l.length ≤ (quoL l).length := by
  induction l with
  | nil => exact Nat.le_refl _
  | cons c l ih =>
    have := quoB_pos c
    simp only [quoL, List.flatMap_cons, List.length_append, List.length_cons] at ih ⊢
    omega
theorem quo_ge (s : ByteArray) : s.size + 2 ≤ (quo s.data.toList).length := by
  have h := quoL_ge s.data.toList
  have : s.data.toList.length = s.size := rfl
  simp only [quo, List.length_append, List.length_cons, List.length_nil]
  omega
def ba (l : List UInt8) : ByteArray := ⟨l.toArray⟩
theorem ba_list (l : List UInt8) : (ba l).data.toList = l := by simp [ba]
theorem ba_of {O : ByteArray} {l : List UInt8} (h : O.data.toList = l) : O = ba l := by
  apply ByteArray.ext
  apply Array.toList_inj.1
  rw [h, ba_list]
theorem size_list (O : ByteArray) : O.data.toList.length = O.size := rfl
theorem ba_size (l : List UInt8) : (ba l).size = l.length := by rw [← size_list, ba_list]
theorem rquoted_ba (s : ByteArray) (w : World) (hs : s.size ≤ 1099511627776) :
    Calls Tryz.prog 52 #[.string s] w fun e w' => e = .returned (.string (ba (quo s.data.toList))) ∧ ∃ q, w' = w.drewN q :=
  (rquoted_any s w hs).mono fun _ _ ⟨⟨O, e, h⟩, q⟩ => ⟨by rw [e, ba_of h], q⟩

set_option maxHeartbeats 4000000 in
theorem rtext_any (N : Nat) : ∀ (t : Tr) (A : Option Addr) (n c B : Nat) (w : World), t.size ≤ N → Holds w B A n t → B ≤ w.heap.size → t.size ≤ 549755813888 → t.text.length ≤ 1099511627776 →
    Calls Tryz.prog 28 #[.slice A n c] w fun e w' => e = .returned (.string (ba t.text)) ∧ ∃ q, w' = w.drewN q := by
  induction N with
  | zero =>
    intro t A n c B w hN h hB hsz hlen
    cases t with
    | cons s k r => simp [Tr.size] at hN
    | nil =>
      obtain rfl : n = 0 := h
      have hadd := fun W => run_string_add_sum (P := Tryz.prog) W ⟨#[123]⟩ ⟨#[125]⟩ (by have : (ByteArray.mk #[123]).size = 1 := rfl; have : (ByteArray.mk #[125]).size = 1 := rfl; omega)
      rw [show (⟨#[123]⟩ : ByteArray) ++ ⟨#[125]⟩ = ba (Tr.text .nil) from ba_of (by simp [Tr.text, Tr.body])] at hadd
      go_enter Tryz.func28, Tryz.ntmps28
      go_wp2_with fail
      go_loopw [3, 4] (fun a i wr => a = .string ⟨#[123]⟩ ∧ i = .int .i64 0 ∧ Hid (wr = w)) (fun _ _ _ => 0)
      case atStart => exact ⟨rfl, rfl, Lib.hid rfl⟩
      case round =>
        obtain ⟨rfl, rfl, HW⟩ := hrel
        go_wp2_with fail
        go_ret
        exact ⟨rfl, 0, HW.out⟩
  | succ N ih =>
    intro t A n c B w hN h hB hsz hlen
    have hnl := h.len
    have hls := t.len_size
    have hnb : n ≤ 549755813888 := by omega
    have Hnl := Lib.hid hnl
    have Hlen := Lib.hid hlen
    have HszN := Lib.hid hN
    have Hsz := Lib.hid hsz
    clear hnl hls hlen hN hsz
    go_enter Tryz.func28, Tryz.ntmps28
    go_wp2_with fail
    go_loopw [3, 4] (fun a i wr => ∃ (k : Nat) (O : ByteArray) (q : Nat), k ≤ n ∧ i = .int .i64 k ∧ a = .string O ∧ Hid (O.data.toList ++ Tr.sepB k (t.dropT k) = [123] ++ t.body) ∧ Hid (wr = w.drewN q)) (fun _ i _ => n - (intOf i).toNat)
    case atStart => exact ⟨0, ⟨#[123]⟩, 0, Nat.zero_le _, rfl, rfl, by rw [dropT_zero, sepB_zero]; exact Lib.hid (by simp), Lib.hid rfl⟩
    case round =>
      obtain ⟨k, O, q0, hk, rfl, rfl, HO, HW⟩ := hrel
      by_cases hlt : k < n
      · obtain ⟨b, o, s, kt, r, A', n', c', rfl, hb, hs, hc, hn', hc', hk', hr, hd, hd2⟩ := h.split k hlt
        have hkn : (k : Int) < (n : Int) := by omega
        have hk0 : (0 : Int) ≤ (k : Int) := by omega
        have hsz2 := size_drop t k
        rw [hd] at hsz2
        simp only [Tr.size] at hsz2
        have hO := HO.out
        rw [hd] at hO
        -- the text ahead of the edge
        obtain ⟨O', hO', hO2⟩ : ∃ O' : ByteArray, (k = 0 ∧ O' = O ∨ 0 < k ∧ O' = O ++ ⟨#[44, 32]⟩) ∧ O'.data.toList ++ (quo s.data.toList ++ [58, 32] ++ kt.text ++ Tr.sepB (k + 1) (t.dropT (k + 1))) = [123] ++ t.body := by
          rw [hd2]
          cases k with
          | zero => exact ⟨O, .inl ⟨rfl, rfl⟩, by rw [← hO, sepB_zero, body_cons]⟩
          | succ i => exact ⟨O ++ ⟨#[44, 32]⟩, .inr ⟨by omega, rfl⟩, by rw [← hO, sepB_cons, app_list]; simp⟩
        have hl := congrArg List.length hO2
        have hq := quo_ge s
        have hT := Hlen.out
        simp only [Tr.text, List.length_append, List.length_cons, List.length_nil, size_list] at hl hT
        have hlk : kt.text.length = kt.body.length + 2 := by simp [Tr.text]
        have hs40 : s.size ≤ 1099511627776 := by omega
        have HQ := Lib.hid (fun W => rquoted_ba s W hs40)
        have HC := Lib.hid (fun W (hW : Holds W B A' n' kt) (hBW : B ≤ W.heap.size) => ih kt A' n' c' B W (by have := HszN.out; omega) hW hBW (by have := Hsz.out; omega) (by omega))
        have hadd1 := fun W => run_string_add_sum (P := Tryz.prog) W O' (ba (quo s.data.toList)) (by rw [ba_size]; omega)
        obtain ⟨O1, hO1⟩ : ∃ x, x = O' ++ ba (quo s.data.toList) := ⟨_, rfl⟩
        rw [← hO1] at hadd1
        have hl1 : O1.size = O'.size + (quo s.data.toList).length := by rw [hO1, ByteArray.size_append, ba_size]
        have hadd2 := fun W => run_string_add_sum (P := Tryz.prog) W O1 ⟨#[58, 32]⟩ (by have : (ByteArray.mk #[58, 32]).size = 2 := rfl; omega)
        obtain ⟨O2, hO2'⟩ : ∃ x, x = O1 ++ ⟨#[58, 32]⟩ := ⟨_, rfl⟩
        rw [← hO2'] at hadd2
        have hl2 : O2.size = O1.size + 2 := by rw [hO2', ByteArray.size_append]; rfl
        have hadd3 := fun W => run_string_add_sum (P := Tryz.prog) W O2 (ba kt.text) (by rw [ba_size]; omega)
        obtain ⟨O3, hO3⟩ : ∃ x, x = O2 ++ ba kt.text := ⟨_, rfl⟩
        rw [← hO3] at hadd3
        have HO3 : Hid (O3.data.toList ++ Tr.sepB (k + 1) (t.dropT (k + 1)) = [123] ++ t.body) := by
          refine Lib.hid ?_
          rw [← hO2, hO3, hO2', hO1, app_list, app_list, app_list, ba_list, ba_list]
          simp
        have hle0 : O.size ≤ O'.size := by
          rcases hO' with ⟨_, e⟩ | ⟨_, e⟩
          · rw [e]; exact Nat.le_refl _
          · rw [e, ByteArray.size_append]; omega
        have hadd0 := fun W => run_string_add_sum (P := Tryz.prog) W O ⟨#[44, 32]⟩ (by have : (ByteArray.mk #[44, 32]).size = 2 := rfl; omega)
        have hBr : ∀ m, B ≤ (wr.drewN m).heap.size := fun m => by rw [HW.out]; exact hB
        have hkm : ∀ m, Holds (wr.drewN m) B A' n' kt := fun m => by rw [HW.out]; exact (hk'.drewN q0).drewN m
        have hs' : wr.cell? ⟨b, o + k * 2, none⟩ = some (.string s) := by rw [HW.out]; exact hs
        have hc' : wr.cell? ⟨b, o + k * 2 + 1, none⟩ = some (.slice A' n' c') := by rw [HW.out]; exact hc
        clear hs hc
        have Hl := Lib.hid hlt
        obtain ⟨V1, hV1⟩ : ∃ v, v = ba (quo s.data.toList) := ⟨_, rfl⟩
        obtain ⟨V2, hV2⟩ : ∃ v, v = ba kt.text := ⟨_, rfl⟩
        rw [← hV1] at hadd1 HQ
        rw [← hV2] at hadd3 HC
        have HB := Lib.hid hBr
        have HK := Lib.hid hkm
        clear hle0 hd hd2 hsz2 hlt HO hO hO2 hl hq hT hlk hO1 hO2' hO3 hl1 hl2 hV1 hV2 hBr hkm
        rcases hO' with ⟨rfl, rfl⟩ | ⟨h0, rfl⟩
        · clear hadd0
          simp only [Nat.zero_mul, Nat.add_zero] at hs' hc'
          go_wp2_with fail
          go_quiet ((first | (go_at_call 52; exact Calls.quiet_of (HQ.out _)) | (go_at_call 28; exact Calls.quiet_of (HC.out _ (HK.out _) (HB.out _)))))
          go_wp2_with fail
          go_roundw
          case rel => exact ⟨0 + 1, O3, _, by have := Hl.out; omega, by go_num, rfl, HO3, Lib.hid (by rw [HW.out, World.drewN_drewN])⟩
          case measure => have := Hl.out; simp [intOf]; omega
        · have hgt : (0 : Int) < (k : Int) := by omega
          clear h0
          generalize hOO : O ++ ⟨#[44, 32]⟩ = OO at hadd0 hadd1
          clear hOO
          go_wp2_with fail
          go_quiet ((first | (go_at_call 52; exact Calls.quiet_of (HQ.out _)) | (go_at_call 28; exact Calls.quiet_of (HC.out _ (HK.out _) (HB.out _)))))
          go_wp2_with fail
          go_roundw
          case rel => exact ⟨k + 1, O3, _, by have := Hl.out; omega, by go_num, rfl, HO3, Lib.hid (by rw [HW.out, World.drewN_drewN])⟩
          case measure => have := Hl.out; simp [intOf]; omega
      · obtain rfl : k = n := by omega
        have hO := HO.out
        rw [drop_len t k (by rw [← Hnl.out]; exact Nat.le_refl _)] at hO
        have hO2 : O.data.toList = [123] ++ t.body := by
          rw [← hO]; cases k <;> simp [Tr.sepB]
        have hl := congrArg List.length hO2
        have hT := Hlen.out
        simp only [Tr.text, List.length_append, List.length_cons, List.length_nil, size_list] at hl hT
        have hadd := fun W => run_string_add_sum (P := Tryz.prog) W O ⟨#[125]⟩ (by have : (ByteArray.mk #[125]).size = 1 := rfl; omega)
        rw [show O ++ ⟨#[125]⟩ = ba t.text from ba_of (by rw [app_list, hO2]; simp [Tr.text])] at hadd
        clear HO hO hO2 hl hT hlt
        go_wp2_with fail
        go_ret
        exact ⟨rfl, q0, HW.out⟩
end Go.Proofs.YtgefoehpdiiomaaGreatDoor.Pt
namespace Go.Proofs.YtgefoehpdiiomaaGreatDoor.Cv
open Go.RowKit Go.Proofs.YtgefoehpdiiomaaGreatDoor.Jd Go.Proofs.YtgefoehpdiiomaaGreatDoor.Li Go.Proofs.YtgefoehpdiiomaaGreatDoor.Cl
set_option maxRecDepth 100000

/-- What Load answers. -/
def LoadP (w : World) (o : Tr × Nat × Int) (en : Ending) (w' : World) : Prop :=
  ∃ At ct, en = .returned (.tuple #[.slice At o.1.len ct, .int .i64 (o.2.1 : Nat), .int .i64 o.2.2]) ∧ HoldsP w' (fun b => w.heap.size ≤ b ∧ b < w'.heap.size) At o.1.len o.1 ∧ (o.1.len ≤ ct ∧ ct ≤ maxLen) ∧ Below w.heap.size w w'

/-- Its fields are of ASCII bytes. -/
def plB (l : Bs) : Bool := (split l).all fun x => (mns (fldsL x.1)).all fun z => z.data.toList.all fun b => decide (b.toNat < 256)
theorem plB_pl {l : Bs} (h : plB l = true) : ∀ x ∈ split l, ∀ z ∈ mns (fldsL x.1), Pl z := fun x hx z hz j b hb => by
  have h1 := List.all_eq_true.1 h x hx
  have h2 := List.all_eq_true.1 h1 z hz
  have h3 := List.all_eq_true.1 h2 b (List.mem_of_getElem? hb)
  simpa using h3
theorem readF_ok {l : Bs} {T : Tr} {h : Rw} {t : List Rw} (h1 : l.length ≤ 4000) (h2 : rowsF [] 0 (split l) = (h :: t, 0, 0)) (h3 : treeR (h :: t) = T) (h4 : T.fault = 0) : readF l = (T, 0, 0) := by
  unfold readF
  rw [if_neg (by omega), h2, if_neg (by simp)]
  simp only
  rw [h3, if_neg (by simp [h4])]
theorem readF_no {l : Bs} {q : List Rw} {i : Nat} {e : Int} (h1 : l.length ≤ 4000) (h2 : rowsF [] 0 (split l) = (q, i, e)) (h3 : e ≠ 0) : readF l = (.nil, i, e) := by
  unfold readF
  rw [if_neg (by omega), h2, if_pos h3]
theorem tree0 (h : Rw) : treeR [h] = .nil := srtE_one (by simp [recsT, Tr.len])
theorem tree1 (h r : Rw) (hl : (rawB (colsR h) (mns r.fs.tail)).len ≤ 1) : treeR [h, r] = .cons (nm r) (rawB (colsR h) (mns r.fs.tail)) .nil := by
  show srtE (recsT srtE (colsR h) [r]) = _
  rw [srtE_one (by simp [recsT, Tr.len])]
  simp only [recsT]
  rw [srtE_one hl]
end Go.Proofs.YtgefoehpdiiomaaGreatDoor.Cv
namespace Go.Proofs.YtgefoehpdiiomaaGreatDoor.Cl
open Go.RowKit
set_option maxRecDepth 100000

theorem run_copy_k {P : Program} (w : World) (dT sT ty elem : TypeId) (size g o dLen dCap : Nat) (a : Addr) (sLen sCap k : Nat) (cur : Array Value) (t : TypeId) (cs : List Value)
    (hu : P.underlying dT = some (.slice elem)) (hs : (P.info? elem).map (·.size) = some size) (hg : w.heap[g]? = some (.cells cur t (0, 0))) (hk : k = Nat.min sLen dLen) (hn : cs.length = k * size)
    (hsrc : ∀ j v, cs[j]? = some v → w.cell? (a.add j) = some v) (hfit : o + cs.length ≤ cur.size) (h1 : ∀ v ∈ cs, v.oneCell' = true) :
    (Builtin.copy_ #[dT, sT] ty #[.slice (some ⟨g, o, none⟩) dLen dCap, .slice (some a) sLen sCap]).run P w = .ok (goInt k) (w.setRow g (splice cur.toList o cs).toArray) := by
  have e1 := run_loadCells_list (P := P) w a cs hsrc
  have e2 := run_storeCells_at P g o t cs 0 cur w hg (by simpa using hfit) h1
  obtain ⟨i, hi, hz⟩ := Option.map_eq_some_iff.1 hs
  subst hz
  rw [hn] at e1
  simp only [Nat.add_zero, List.append_assoc] at e2
  rw [splice]
  simp [Builtin.copy_, run_underlying hu, Builtin.lenOf, Builtin.firstCells, sizeOf, typeInfo, hi, ← hk, e1, e2]

theorem grown_setRow (w : World) (g : Nat) (cs : Array Value) : w.grownBy (w.setRow g cs) (some g) :=
  ⟨rfl, rfl, rfl, by simp [World.setRow], fun k _ hk => setRow_other w g k cs (fun e => hk (by rw [e]))⟩

section
variable {P : Program} {w : World} {ops : Array Oper} {o : Oper} {a : Act} {Q : Exit → Act → World → Prop}
theorem wpList_copy_k {rest : List Oper} (hgd : o.guard = none) (d s : Operand) (dT sT : TypeId) (hop : o.op = .call { callee := .builtin .copy, args := #[d, s], argTypes := #[dT, sT] }) (elem : TypeId) (size g off dLen dCap : Nat) (ad : Addr) (sLen sCap k : Nat) (cur : Array Value) (t : TypeId) (cs : List Value)
    (hu : P.underlying dT = some (.slice elem)) (hsz : (P.info? elem).map (·.size) = some size) (hd : a.eval d = .slice (some ⟨g, off, none⟩) dLen dCap) (hs : a.eval s = .slice (some ad) sLen sCap)
    (hg : w.heap[g]? = some (.cells cur t (0, 0))) (hk : k = Nat.min sLen dLen) (hn : cs.length = k * size) (hsrc : ∀ j v, cs[j]? = some v → w.cell? (ad.add j) = some v) (hfit : off + cs.length ≤ cur.size) (h1 : ∀ v ∈ cs, v.oneCell' = true)
    (h : ∀ w', Hid (w'.heap[g]? = some (.cells (splice cur.toList off cs).toArray t (0, 0))) → w.grownBy w' (some g) → wpList P ops Q rest (a.put o.dst (goInt k)) w') : wpList P ops Q (o :: rest) a w := by
  refine wpList_plain hgd fun K hK => ?_
  have hr := run_copy_k (P := P) w dT sT o.type elem size g off dLen dCap ad sLen sCap k cur t cs hu hsz hg hk hn hsrc hfit h1
  unfold Oper.wp
  simp [execOp, hop, resolve, invoke, builtin, hd, hs, hr, Result.andThen]
  exact hK _ _ (h _ (Lib.hid (setRow_heap w g _ _ t _ hg)) (grown_setRow w g _))
theorem step_copy_k {K : Act → World → Prop} {E : Prop} (hgd : o.guard = none) (d s : Operand) (dT sT : TypeId) (hop : o.op = .call { callee := .builtin .copy, args := #[d, s], argTypes := #[dT, sT] }) (elem : TypeId) (size g off dLen dCap : Nat) (ad : Addr) (sLen sCap k : Nat) (cur : Array Value) (t : TypeId) (cs : List Value)
    (hu : P.underlying dT = some (.slice elem)) (hsz : (P.info? elem).map (·.size) = some size) (hd : a.eval d = .slice (some ⟨g, off, none⟩) dLen dCap) (hs : a.eval s = .slice (some ad) sLen sCap)
    (hg : w.heap[g]? = some (.cells cur t (0, 0))) (hk : k = Nat.min sLen dLen) (hn : cs.length = k * size) (hsrc : ∀ j v, cs[j]? = some v → w.cell? (ad.add j) = some v) (hfit : off + cs.length ≤ cur.size) (h1 : ∀ v ∈ cs, v.oneCell' = true)
    (h : ∀ w', Hid (w'.heap[g]? = some (.cells (splice cur.toList off cs).toArray t (0, 0))) → w.grownBy w' (some g) → K (a.put o.dst (goInt k)) w') : if Region.wanted o (yielded ops a.tmps) = true then Oper.wp P o a w K Q else E := by
  have hr := run_copy_k (P := P) w dT sT o.type elem size g off dLen dCap ad sLen sCap k cur t cs hu hsz hg hk hn hsrc hfit h1
  rw [if_pos (by simp [Region.wanted, hgd])]
  unfold Oper.wp
  simp [execOp, hop, resolve, invoke, builtin, hd, hs, hr, Result.andThen]
  exact h _ (Lib.hid (setRow_heap w g _ _ t _ hg)) (grown_setRow w g _)
/-- append of k zero values where there is no room for them: a new row. -/
theorem wpList_append_zeros {rest : List Oper} (hgd : o.guard = none) (s x : Operand) (t tn : TypeId) (hop : o.op = .call { callee := .builtin .append, args := #[s, x], argTypes := #[t, tn] }) {size bytes n c k m : Nat} {A : Option Addr} {e : TypeId} {z : Value} {kq kn : IntKind} {olds : List Value}
    (he : Elem P t e z size bytes) (htn : P.underlying tn = some (.int kn)) (hs : a.eval s = .slice A n c) (hx : a.eval x = .int kq (k : Int)) (hk : 0 < k) (hm : n + k = m) (hsz : 0 < size) (hg : c < n + k) (h40 : n + k ≤ 1099511627776)
    (hold : (Builtin.firstCells size n (.slice A n c)).run P w.drew = .ok olds.toArray w.drew) (hol : olds.length = n * size)
    (h : ∀ w' c' (cur : Array Value), Hid (w'.heap[w.heap.size]? = some (.cells cur e (0, 0)) ∧ cur.size = c' * size ∧ cur.toList.take (n * size) = olds) → m ≤ c' → c' ≤ maxLen → w.grownBy w' none → w'.heap.size = w.heap.size + 1 → wpList P ops Q rest (a.put o.dst (.slice (some ⟨w.heap.size, 0, none⟩) m c')) w') :
    wpList P ops Q (o :: rest) a w := by
  subst hm
  obtain ⟨i, hi, hz, hsi, hb⟩ := info_parts he.info
  have hbb : (n + k) * bytes ≤ 1099511627776 * 64 := Nat.mul_le_mul h40 he.small
  have hkb : k * bytes ≤ 1099511627776 * 64 := Nat.mul_le_mul (by omega) he.small
  have hr := Lib.run_append_grow_zeros w t tn o.type e i z kq kn he.slice htn hi hz A n c olds (by rw [hsi]; exact hold) k hk (by rw [hsi]; exact hsz) hg (by omega) (by rw [hb]; omega) (by rw [hb]; exact growslice_fits hg (by omega))
  have hge := grownCap_ge w (n + k) c e
  have hcm := grownCap_le_maxLen w (n + k) c e (by simp only [maxLen]; omega)
  refine Lib.wpList_append_run w hgd s x _ _ hop _ _ hs hx _ _ hr (h _ _ _ (Lib.hid ⟨heap_alloc_new w.drew _, ?_, ?_⟩) hge hcm ⟨rfl, rfl, rfl, by simp, fun q hq _ => heap_alloc_old w.drew _ hq⟩ (by simp))
  · have hzs := he.cells
    simp only [Array.size_append, List.size_toArray, size_zeroCells, hzs, hol]
    rw [← Nat.add_mul, ← Nat.add_mul]
    congr 1
    omega
  · simp only [Array.toList_append, List.append_assoc]
    rw [List.take_append_of_le_length (by simp [hol]), List.take_of_length_le (by simp [hol])]
end
end Go.Proofs.YtgefoehpdiiomaaGreatDoor.Cl
namespace Go.Proofs.YtgefoehpdiiomaaGreatDoor.Cl
open Go.RowKit

theorem ins_b {α : Type} (cur p x d : List α) (i : Nat) (hp : cur.take i = p) (hi : p.length = i) (_ : i + x.length + d.length ≤ cur.length) :
    (splice (splice cur i x) (i + x.length) d).take (i + x.length + d.length) = p ++ (x ++ d) := by
  unfold splice
  rw [hp]
  have e1 : (p ++ (x ++ cur.drop (i + x.length))).take (i + x.length) = p ++ x := by
    rw [← List.append_assoc, List.take_append_of_le_length (by simp [hi]), List.take_of_length_le (by simp [hi])]
  rw [e1, ← List.append_assoc (p ++ x) d, List.take_append_of_le_length (by simp [hi]; omega), List.take_of_length_le (by simp [hi]; omega)]
  simp
theorem ins_c {α : Type} (cur p x d : List α) (i : Nat) (hp : cur.take i = p) (hi : p.length = i) (hl : i + x.length + d.length ≤ cur.length) :
    (splice (splice cur (i + x.length) d) i x).take (i + x.length + d.length) = p ++ (x ++ d) := by
  unfold splice
  have e1 : (cur.take (i + x.length) ++ (d ++ cur.drop (i + x.length + d.length))).take i = p := by
    rw [List.take_append_of_le_length (by rw [List.length_take]; omega), List.take_take, Nat.min_eq_left (by omega), hp]
  have e2 : (cur.take (i + x.length) ++ (d ++ cur.drop (i + x.length + d.length))).drop (i + x.length) = d ++ cur.drop (i + x.length + d.length) := by
    rw [List.drop_append_of_le_length (by rw [List.length_take]; omega), List.drop_of_length_le (by rw [List.length_take]; omega), List.nil_append]
  rw [e1, e2, ← List.append_assoc x d, ← List.append_assoc p, List.take_append_of_le_length (by simp [hi]; omega), List.take_of_length_le (by simp [hi]; omega)]
theorem splice_size {α : Type} (cur cs : List α) (o n : Nat) (h : o + cs.length ≤ cur.length) (hn : cur.length = n) : (splice cur o cs).toArray.size = n := by
  rw [List.size_toArray, length_splice cur o cs h, hn]
end Go.Proofs.YtgefoehpdiiomaaGreatDoor.Cl
namespace Go.Proofs.YtgefoehpdiiomaaGreatDoor.In
open Go.RowKit Go.Proofs.YtgefoehpdiiomaaGreatDoor.Li Go.Proofs.YtgefoehpdiiomaaGreatDoor.Cl
set_option maxRecDepth 100000

theorem info_line : (Tryz.prog.info? 88).map (·.size) = some 2 := by
  have := elem_line.info
  obtain ⟨i, hi, hz, hs, hb⟩ := info_parts this
  rw [hi]; simp [hs]
theorem size_line (w : World) : (Go.sizeOf 88).run Tryz.prog w = .ok 2 w := by
  obtain ⟨i, hi, hz, hs, hb⟩ := info_parts elem_line.info
  simp [Go.sizeOf, typeInfo, hi, hs]
theorem grown_undrewI {W w4 : World} {row : Option Nat} (h : W.drew.grownBy w4 row) : W.grownBy w4 row := ⟨h.os, h.tape, h.output, h.size, h.block⟩

/-- A row of lines with more. -/
def InsL (w : World) (base : Nat) (A : Option Addr) (n c N : Nat) (ws : List Value) (e : Ending) (w' : World) : Prop :=
  ∃ A' c', e = .returned (.slice A' N c') ∧ w'.ownsRow base 88 2 (.slice A' N c') N ws ∧ w.grownBy w' (Value.slice A n c).ownBlock ∧ (∀ a, A' = some a → w.heap.size ≤ a.block ∨ some a.block = (Value.slice A n c).ownBlock)

set_option maxHeartbeats 4000000 in
theorem insert_any (w : World) (base n c i m cv vb : Nat) (A : Option Addr) (vs ys : List Value) (cw : Array Value) (hrow : w.ownsRow base 88 2 (.slice A n c) n vs) (hv : w.heap[vb]? = some (.cells cw 88 (0, 0))) (hcw : cw.size = cv * 2) (hys : ys.length = m * 2) (hyt : cw.toList.take (m * 2) = ys) (hv1 : ∀ u ∈ ys, u.oneCell' = true)
    (hvb : (Value.slice A n c).ownBlock ≠ some vb) (hi : i ≤ n) (hn : n ≤ 274877906944) (hm : m ≤ 274877906944) (hm0 : 0 < m) (hbase : base ≤ w.heap.size) (hone : ∀ v ∈ vs, v.oneCell' = true) :
    Calls Tryz.prog 88 #[.slice A n c, .int .i64 i, .slice (some ⟨vb, 0, none⟩) m cv] w (InsL w base A n c (n + m) (vs.take (i * 2) ++ (ys ++ vs.drop (i * 2)))) := by
  have hvc : ∀ j u, ys[j]? = some u → w.cell? ⟨vb, j, none⟩ = some u := fun j u hu => by
    rw [cell_of_row w vb j _ _ _ hv]
    rw [← hyt, List.getElem?_take] at hu
    split at hu
    · simpa using hu
    · cases hu
  have hsrc : Src Tryz.prog 2 69 (.slice (some ⟨vb, 0, none⟩) m cv) m ys w := Src.ofSlice w Tryz.underlying69 ⟨vb, 0, none⟩ m cv ys (by rw [hys]) (fun j u hu => by rw [Addr.add_lit, Nat.zero_add]; exact hvc j u hu) hv1
  have hmb : ((m : Int) == 0) = false := by rw [beq_eq_false_iff_ne]; omega
  have hmn : ¬ (m : Int) = 0 := by omega
  have hlen := hrow.1
  by_cases hin : i = n
  · subst hin
    have e1 : vs.take (i * 2) ++ (ys ++ vs.drop (i * 2)) = vs ++ ys := by
      rw [List.take_of_length_le (by omega), List.drop_of_length_le (by omega)]; simp
    rw [e1]
    have hcap : (A = none ∧ i = 0 ∧ c = 0) ∨ ∃ g, A = some ⟨g, 0, none⟩ ∧ i ≤ c ∧ c ≤ maxLen := by
      rcases hrow.2 with ⟨e1, e2⟩ | ⟨g, cap, cu, e1, hg, hh, hcap, hmx, hsz, htk⟩
      · injection e1 with a1 a2 a3
        exact .inl ⟨a1, a2, a3⟩
      · injection e1 with a1 a2 a3
        exact .inr ⟨g, a1, a3 ▸ hcap, a3 ▸ hmx⟩
    have hi1 : i + m ≤ 1099511627776 := by omega
    clear hlen e1
    rcases hcap with ⟨rfl, rfl, rfl⟩ | ⟨g, rfl, hic, hcm⟩
    all_goals
      go_enter Tryz.func88, Tryz.ntmps88
      go_wp2_with (at_builtin; refine wpList_append_row rfl (.tmp 23) (.tmp 24) _ _ rfl elem_line rfl rfl hrow hsrc (by omega) hbase ?_; intro A2 c2 w2 ho2 hg2 hat2)
      all_goals (go_ret; exact ⟨A2, c2, (by first | rfl | (rw [Nat.zero_add]; rfl)), ho2, hg2, fun a ha => (hat2 a ha).imp (fun e => Nat.le_of_eq e.symm) id⟩)
  · have hin2 : i < n := by omega
    rcases hrow.2 with ⟨e1, e2⟩ | ⟨g, cap, cur, e1, hg, hh, hcap, hmx, hsz, htk⟩
    · omega
    injection e1 with a1 a2 a3
    subst a1; subst a3
    have hgl : g < w.heap.size := (Array.getElem?_eq_some_iff.1 hh).1
    have hvl : vb < w.heap.size := (Array.getElem?_eq_some_iff.1 hv).1
    have hgv : vb ≠ g := fun e => hvb (by rw [e]; rfl)
    have hdl : (vs.drop (i * 2)).length = (n - i) * 2 := by rw [List.length_drop]; omega
    have hpl : (vs.take (i * 2)).length = i * 2 := by rw [List.length_take]; omega
    have hpc : cur.toList.take (i * 2) = vs.take (i * 2) := by
      rw [← htk, List.take_take]
      congr 1
      omega
    have hd1 : ∀ v ∈ vs.drop (i * 2), v.oneCell' = true := fun v hv => hone v (List.mem_of_mem_drop hv)
    have hcell : ∀ j u, vs[j]? = some u → w.cell? ⟨g, j, none⟩ = some u := fun j u hu => by
      have := rowCells hrow j u hu
      rw [Addr.add_lit, Nat.zero_add] at this
      exact this
    have hz1 : ¬ ((i : Int) = (n : Int)) := by omega
    have hci : ¬ (c = i) := by omega
    obtain ⟨d, hd⟩ : ∃ d, d = vs.drop (i * 2) := ⟨_, rfl⟩
    obtain ⟨p, hp⟩ : ∃ p, p = vs.take (i * 2) := ⟨_, rfl⟩
    have hdc : ∀ j u, d[j]? = some u → w.cell? ⟨g, i * 2 + j, none⟩ = some u := fun j u hu => by
      rw [hd, List.getElem?_drop] at hu
      exact hcell _ _ hu
    rw [← hd] at hdl hd1 ⊢
    rw [← hp] at hpl hpc ⊢
    clear hd hp hcell
    have hck : n * 2 ≤ c * 2 := Nat.mul_le_mul_right _ hcap
    by_cases hroom : n + m ≤ c
    · have hrm : (n + m) * 2 ≤ c * 2 := Nat.mul_le_mul_right _ hroom
      have hov : ∀ off lb cb, (callFunc 109 #[.slice (some ⟨vb, 0, none⟩) m cv, .slice (some ⟨g, off, none⟩) lb cb]).run Tryz.prog w = .ok (.value (.bool false)) w := fun off lb cb => by
        rw [run_callFunc_extern Tryz.func109 (by kernel_rfl) (by kernel_rfl) (by kernel_rfl) (e := Extern.SlicesOverlaps.overlaps #[69, 69] #[4]) (by kernel_rfl),
          Lib.run_overlaps_apart w 69 4 88 Tryz.underlying69 2 size_line ⟨vb, 0, none⟩ ⟨g, off, none⟩ m cv lb cb hgv 88 88 (cv * 2) (c * 2) (by simp [World.shape?, hv, hcw]) (by simp [World.shape?, hh, hsz]) (by omega) (by simp [World.frozen?, hv]) (by simp [World.frozen?, hv])]
        rfl
      have hb2 : ¬ (c = i + m) := by omega
      have hb3 : (i : Int) ≤ (n : Int) + (m : Int) := by omega
      have hb4 : ¬ ((c : Int) < (n : Int) + (m : Int)) := by omega
      have hwn : IntKind.i64.wrap ((n : Int) + (m : Int)) = (n : Int) + (m : Int) := IntWalk.i64_in _ (by omega)
      have hwn0 : (0 : Int) ≤ (n : Int) + (m : Int) := by omega
      have hwn1 : (n : Int) + (m : Int) ≤ (c : Int) := by omega
      have hwn2 : ((n : Int) + (m : Int)).toNat = n + m := by omega
      have hw1 : IntKind.i64.wrap ((i : Int) + (m : Int)) = (i : Int) + (m : Int) := IntWalk.i64_in _ (by omega)
      have hw2 : (0 : Int) ≤ (i : Int) + (m : Int) := by omega
      have hw3 : ((i : Int) + (m : Int)).toNat = i + m := by omega
      have hw4 : (i : Int) + (m : Int) ≤ (n : Int) + (m : Int) := by omega
      have Hpc := Lib.hid hpc
      have Hdl := Lib.hid hdl
      have Hpl := Lib.hid hpl
      have Hsz := Lib.hid hsz
      have Hdc := Lib.hid hdc
      have Hh := Lib.hid hh
      have Hv := Lib.hid hv
      have Hvc := Lib.hid hvc
      have Htk := Lib.hid htk
      clear hpc hdl hpl hsz hdc hh hv hvc htk hlen hsrc
      go_enter Tryz.func88, Tryz.ntmps88
      go_wp2_with (simp only [hov])
      go_region_law (refine step_copy_k rfl (.tmp 73) (.tmp 76) _ _ rfl 88 2 g ((i + m) * 2) (n + m - (i + m)) (c - (i + m)) ⟨g, i * 2, none⟩ (n + m - i) (c - i) (n - i) cur 88 d Tryz.underlying69 info_line (by simp [Act.eval, Act.put]; done) (by simp [Act.eval, Act.put]; done) Hh.out (by simp only [Nat.min_def]; split <;> omega) Hdl.out (fun j u hu => by rw [Addr.add_lit]; exact Hdc.out j u hu) (by have := Hdl.out; have := Hsz.out; omega) hd1 ?_; intro w2 HG2 hg2)
      have hv2 : ∀ j u, (ys : List Value)[j]? = some u → w2.cell? ((⟨vb, 0, none⟩ : Addr).add j) = some u := fun j u hu => by
        rw [Addr.add_lit, Nat.zero_add, World.cell?_of_block (w := w.drew) (w' := w2) (hg2.block vb hvl (fun e => by injection e with e; exact hgv e))]
        exact Hvc.out j u hu
      have hcl : cur.toList.length = c * 2 := by rw [Array.length_toList]; exact Hsz.out
      have hfit2 : (i + m) * 2 + d.length ≤ cur.toList.length := by rw [hcl, Hdl.out]; omega
      have hsp : ((splice cur.toList ((i + m) * 2) d).toArray).size = c * 2 := splice_size _ _ _ _ hfit2 hcl
      have Hcl := Lib.hid hcl
      have Hfit2 := Lib.hid hfit2
      clear hcl hfit2
      have Hsp := Lib.hid hsp
      have Hv2 := Lib.hid hv2
      clear hsp hv2
      go_wp2_with (with_reducible refine wpList_copy_k rfl (.tmp 80) (.tmp 81) 69 69 rfl 88 2 g (i * 2) (n + m - i) (c - i) ⟨vb, 0, none⟩ m cv m (splice cur.toList ((i + m) * 2) d).toArray 88 ys Tryz.underlying69 info_line rfl rfl HG2.out (by simp only [Nat.min_def]; split <;> omega) hys Hv2.out (by rw [Hsp.out, hys]; omega) hv1 ?_; intro w3 HG3 hg3)
      go_ret
      have hall := ins_c cur.toList p ys d (i * 2) Hpc.out Hpl.out (by have := Hfit2.out; rw [hys]; omega)
      have hrow3 := HG3.out
      have ei : i * 2 + (ys : List Value).length = (i + m) * 2 := by rw [hys]; omega
      rw [ei] at hall
      refine ⟨some ⟨g, 0, none⟩, c, rfl, ⟨?_, .inr ⟨g, c, _, rfl, hg, hrow3, by omega, hmx, ?_, ?_⟩⟩, (grown_undrewI hg2).trans hg3, fun a ha => .inr (by injection ha with ha; rw [← ha]; rfl)⟩
      · simp only [List.length_append, Hpl.out, Hdl.out, hys]
        omega
      · have hsl := Hsp.out
        rw [List.size_toArray] at hsl
        refine splice_size (splice cur.toList ((i + m) * 2) d) ys (i * 2) (c * 2) ?_ hsl
        rw [hsl, hys]
        omega
      · rw [show (n + m) * 2 = (i + m) * 2 + d.length by rw [Hdl.out]; omega]
        exact hall
    · have hkk : (n : Int) + (m : Int) - (i : Int) = ((n + m - i : Nat) : Int) := by omega
      have hwk : IntKind.i64.wrap ((n : Int) + (m : Int) - (i : Int)) = ((n + m - i : Nat) : Int) := by rw [IntKind.wrap_i64]; omega
      have hb4 : ((c : Int) < (n : Int) + (m : Int)) := by omega
      have hwn : IntKind.i64.wrap ((n : Int) + (m : Int)) = (n : Int) + (m : Int) := IntWalk.i64_in _ (by omega)
      have hic : (i : Int) ≤ (c : Int) := by omega
      have hold : (Builtin.firstCells 2 i (.slice (some ⟨g, 0, none⟩) i c)).run Tryz.prog w.drew = .ok p.toArray w.drew :=
        run_firstCells_some w.drew 2 i ⟨g, 0, none⟩ i c p (by rw [hpl]) (fun j u hu => by
          rw [Addr.add_lit, Nat.zero_add, World.cell?_drew, cell_of_row w g j cur _ _ hh]
          rw [← hpc, List.getElem?_take] at hu
          split at hu
          · simpa using hu
          · cases hu)
      have hb3 : (i : Int) ≤ (n : Int) + (m : Int) := by omega
      have hw1 : IntKind.i64.wrap ((i : Int) + (m : Int)) = (i : Int) + (m : Int) := IntWalk.i64_in _ (by omega)
      have hw2 : (0 : Int) ≤ (i : Int) + (m : Int) := by omega
      have hw3 : ((i : Int) + (m : Int)).toNat = i + m := by omega
      have hw4 : (i : Int) + (m : Int) ≤ (n : Int) + (m : Int) := by omega
      have Hpc := Lib.hid hpc
      have Hdl := Lib.hid hdl
      have Hpl := Lib.hid hpl
      have Hsz := Lib.hid hsz
      have Hdc := Lib.hid hdc
      have Hh := Lib.hid hh
      have Hv := Lib.hid hv
      have Hvc := Lib.hid hvc
      have Htk := Lib.hid htk
      have Hold := Lib.hid hold
      clear hpc hdl hpl hsz hdc hh hv hvc htk hlen hsrc hold
      go_enter Tryz.func88, Tryz.ntmps88
      go_wp2_with (first
        | (at_builtin; refine wpList_append_zeros rfl (.tmp 34) (.tmp 39) 69 3 rfl elem_line Tryz.underlying3 rfl (kq := .i64) (k := n + m - i) rfl (by omega) (m := n + m) (by omega) (by omega) (by omega) (by omega) Hold.out Hpl.out ?_; intro w2 c2 cu2 HZ hz1c hz2c hg2 hs2; have hc2i : ¬ (c2 = i) := (by omega); have hc2j : ¬ (c2 = i + m) := (by omega); have Hv2 := Lib.hid (show ∀ j u, (ys : List Value)[j]? = some u → w2.cell? ((⟨vb, 0, none⟩ : Addr).add j) = some u from fun j u hu => (by rw [Addr.add_lit, Nat.zero_add, World.cell?_of_block (w := w) (w' := w2) (hg2.block vb hvl (fun e => by cases e))]; exact Hvc.out j u hu)); have Hz2 := Lib.hid (Nat.mul_le_mul_right 2 hz1c))
        | (with_reducible refine wpList_copy_k rfl (.tmp 43) (.tmp 44) 69 69 rfl 88 2 w.heap.size (i * 2) (n + m - i) (c2 - i) ⟨vb, 0, none⟩ m cv m cu2 88 ys Tryz.underlying69 info_line rfl rfl HZ.out.1 (by simp only [Nat.min_def]; split <;> omega) hys Hv2.out (by rw [HZ.out.2.1, hys]; have := Hz2.out; omega) hv1 ?_; intro w3 HG3 hg3))
      have hg23 : w.grownBy w3 none := ⟨hg3.os.trans hg2.os, hg3.tape.trans hg2.tape, hg3.output.trans hg2.output, Nat.le_trans hg2.size hg3.size, fun q hq _ => (hg3.block q (by omega) (fun e => by injection e with e; omega)).trans (hg2.block q hq (fun e => by cases e))⟩
      have Hd3 := Lib.hid (show ∀ j u, d[j]? = some u → w3.cell? ((⟨g, i * 2, none⟩ : Addr).add j) = some u from fun j u hu => by
        rw [Addr.add_lit, World.cell?_of_block (w := w) (w' := w3) (hg23.block g hgl (fun e => by cases e))]
        exact Hdc.out j u hu)
      have hcl2 : cu2.toList.length = c2 * 2 := by rw [Array.length_toList]; exact HZ.out.2.1
      have hf2 : i * 2 + (ys : List Value).length ≤ cu2.toList.length := by rw [hcl2, hys]; have := Hz2.out; omega
      have hcu : (splice cu2.toList (i * 2) ys).toArray.size = c2 * 2 := splice_size _ _ _ _ hf2 hcl2
      have Hcl2 := Lib.hid hcl2
      clear hcl2 hf2
      have Hcu := Lib.hid hcu
      clear hcu
      go_region_law (refine step_copy_k rfl (.tmp 50) (.tmp 53) _ _ rfl 88 2 w.heap.size ((i + m) * 2) (n + m - (i + m)) (c2 - (i + m)) ⟨g, i * 2, none⟩ (n - i) (c - i) (n - i) (splice cu2.toList (i * 2) ys).toArray 88 d Tryz.underlying69 info_line (by simp [Act.eval, Act.put]; done) (by simp [Act.eval, Act.put]; done) HG3.out (by simp only [Nat.min_def]; split <;> omega) Hdl.out Hd3.out (by rw [Hcu.out]; have := Hdl.out; have := Hz2.out; omega) hd1 ?_; intro w4 HG4 hg4)
      go_wp2_with fail
      go_ret
      have ei : i * 2 + (ys : List Value).length = (i + m) * 2 := by rw [hys]; omega
      have hall := ins_b cu2.toList p ys d (i * 2) HZ.out.2.2 Hpl.out (by rw [ei, Hcl2.out, Hdl.out]; have := Hz2.out; omega)
      rw [ei] at hall
      have hsl := Hcu.out
      rw [List.size_toArray] at hsl
      have hN : ∀ q, some q ≠ some w.heap.size → q < w.heap.size → w4.heap[q]? = w.heap[q]? := fun q hq hl =>
        (hg4.block q (Nat.lt_of_lt_of_le hl hg23.size) hq).trans (hg23.block q hl (fun e => by cases e))
      refine ⟨some ⟨w.heap.size, 0, none⟩, c2, rfl, ⟨?_, .inr ⟨w.heap.size, c2, _, rfl, hbase, HG4.out, hz1c, hz2c, ?_, ?_⟩⟩, ⟨hg4.os.trans hg23.os, hg4.tape.trans hg23.tape, hg4.output.trans hg23.output, Nat.le_trans hg23.size hg4.size, fun q hq _ => hN q (fun e => by injection e with e; omega) hq⟩, fun a ha => .inl (by injection ha with ha; rw [← ha]; exact Nat.le_refl _)⟩
      · simp only [List.length_append, Hpl.out, Hdl.out, hys]
        omega
      · exact splice_size (splice cu2.toList (i * 2) ys) d ((i + m) * 2) (c2 * 2) (by rw [hsl, Hdl.out]; have := Hz2.out; omega) hsl
      · rw [show (n + m) * 2 = (i + m) * 2 + d.length by rw [Hdl.out]; omega]
        exact hall
end Go.Proofs.YtgefoehpdiiomaaGreatDoor.In
namespace Go.Proofs.YtgefoehpdiiomaaGreatDoor.In
open Go.RowKit Go.Proofs.YtgefoehpdiiomaaGreatDoor.Li Go.Proofs.YtgefoehpdiiomaaGreatDoor.Cl
set_option maxRecDepth 100000

set_option maxHeartbeats 2000000 in
theorem insert_none (A A2 : Option Addr) (n c c2 i : Nat) (w : World) (hA : (A = none ∧ n = 0 ∧ c = 0) ∨ ∃ g, A = some ⟨g, 0, none⟩) (hi : i ≤ n) (hn : n ≤ c) :
    Calls Tryz.prog 88 #[.slice A n c, .int .i64 i, .slice A2 0 c2] w fun e w' => e = .returned (.slice A n c) ∧ w' = w := by
  have h1 : (0 : Int) ≤ (i : Int) := by omega
  have h2 : (i : Int) ≤ (n : Int) := by omega
  have h3 : (i : Int) ≤ (c : Int) := by omega
  rcases hA with ⟨rfl, rfl, rfl⟩ | ⟨g, rfl⟩
  · obtain rfl : i = 0 := by omega
    go_enter Tryz.func88, Tryz.ntmps88
    go_wp2_with fail
    go_ret
    exact ⟨rfl, rfl⟩
  · by_cases hc : c = i
    · go_enter Tryz.func88, Tryz.ntmps88
      go_wp2_with fail
      go_ret
      exact ⟨rfl, rfl⟩
    · go_enter Tryz.func88, Tryz.ntmps88
      go_wp2_with fail
      go_ret
      exact ⟨rfl, rfl⟩
theorem insertL_any (ls ms : List Ln) (A A2 : Option Addr) (n c m c2 i base base2 : Nat) (w : World) (h : OwnL w base A n c ls) (h2 : OwnL w base2 A2 m c2 ms) (hap : ∀ g, (Value.slice A2 m c2).ownBlock = some g → (Value.slice A n c).ownBlock ≠ some g) (hi : i ≤ n) (hn : n ≤ 100000000) (hm : m ≤ 100000000) (hb : base ≤ w.heap.size) :
    Calls Tryz.prog 88 #[.slice A n c, .int .i64 i, .slice A2 m c2] w fun e w' => ∃ A' c', e = .returned (.slice A' (n + m) c') ∧ OwnL w' base A' (n + m) c' (ls.take i ++ ms ++ ls.drop i) ∧ Below base w w' := by
  have hcap := h.cap
  have hl2 := h2.sees.len
  by_cases hm0 : m = 0
  · subst hm0
    have hms : ms = [] := List.eq_nil_of_length_eq_zero hl2.symm
    subst hms
    refine (insert_none A A2 n c c2 i w ?_ hi hcap.1).mono ?_
    · rcases h.2 with ⟨e, _⟩ | ⟨g, cap, cur, e, _⟩
      · injection e with e1 e2 e3
        exact .inl ⟨e1, e2, e3⟩
      · injection e with e1 _ _
        exact .inr ⟨g, e1⟩
    · rintro e w' ⟨rfl, rfl⟩
      exact ⟨A, c, by simp, by simpa using h, Below.refl _ _⟩
  · rcases h2.2 with ⟨_, e2⟩ | ⟨vb, cv, cw, e, _, hv, hmc, _, hcw, htk⟩
    · exact absurd e2 hm0
    · injection e with e1 _ e3
      subst e1; subst e3
      refine (insert_any w base n c i m c2 vb A (lcells ls) (lcells ms) cw h hv hcw (by rw [lcells_length, ← hl2]) htk (lcells_one ms) (hap vb rfl) hi (by omega) (by omega) (by omega) hb (lcells_one ls)).mono ?_
      rintro e w' ⟨A', c', rfl, ho, hg, _⟩
      refine ⟨A', c', rfl, ?_, (Below.refl base w).grown hg hb (fun q hq => (h.lt q hq).1)⟩
      rw [OwnL, lcells_append, lcells_append, lcells_take, lcells_drop, List.append_assoc]
      exact ho
end Go.Proofs.YtgefoehpdiiomaaGreatDoor.In
namespace Go.Proofs.YtgefoehpdiiomaaGreatDoor.In
open Go.RowKit Go.Proofs.YtgefoehpdiiomaaGreatDoor.Li Go.Proofs.YtgefoehpdiiomaaGreatDoor.Cv
set_option maxRecDepth 100000

def eqT : Tr → Tr → Bool
  | .nil, .nil => true
  | .cons s k r, .cons s' k' r' => s.data.toList == s'.data.toList && eqT k k' && eqT r r'
  | _, _ => false
theorem eqT_eq : ∀ {t u : Tr}, eqT t u = true → t = u
  | .nil, .nil, _ => rfl
  | .cons s k r, .cons s' k' r', h => by
    rw [eqT, Bool.and_eq_true, Bool.and_eq_true] at h
    have e : s = s' := by
      apply ByteArray.ext
      apply Array.ext'
      simpa using h.1.1
    rw [e, eqT_eq h.1.2, eqT_eq h.2]
  | .nil, .cons _ _ _, h => by cases h
  | .cons _ _ _, .nil, h => by cases h
theorem rd_of {l : Bs} {T : Tr} {i : Nat} {e : Int} (h : (eqT (readI l).1 T && (readI l).2.1 == i && (readI l).2.2 == e) = true) : readI l = (T, i, e) := by
  rw [Bool.and_eq_true, Bool.and_eq_true] at h
  obtain ⟨⟨h1, h2⟩, h3⟩ := h
  generalize readI l = z at h1 h2 h3 ⊢
  obtain ⟨a, b, c⟩ := z
  rw [show a = T from eqT_eq h1, show b = i from eq_of_beq h2, show c = e from eq_of_beq h3]
theorem rd_0 : readI [] = ((Tr.nil), 0, 0) := rd_of (by decide +kernel)
theorem rd_1 : readI [10, 32, 59, 32, 120, 10, 35, 121, 10] = ((Tr.nil), 0, 0) := rd_of (by decide +kernel)
theorem rd_2 : readI [91, 97, 93, 10, 98, 61, 99, 10] = ((Tr.cons ⟨#[97]⟩ (Tr.cons ⟨#[98]⟩ (Tr.cons ⟨#[99]⟩ (Tr.nil) (Tr.nil)) (Tr.nil)) (Tr.nil)), 0, 0) := rd_of (by decide +kernel)
theorem rd_3 : readI [32, 91, 97, 32, 98, 93, 9, 13, 10, 32, 32, 107, 32, 108, 9, 32, 61, 32, 118, 32, 119, 32, 59, 122, 32, 13, 10] = ((Tr.cons ⟨#[97, 32, 98]⟩ (Tr.cons ⟨#[107, 32, 108]⟩ (Tr.cons ⟨#[118, 32, 119, 32, 59, 122]⟩ (Tr.nil) (Tr.nil)) (Tr.nil)) (Tr.nil)), 0, 0) := rd_of (by decide +kernel)
theorem rd_4 : readI [91, 97, 93, 10, 61, 98, 10] = (Tr.nil, 2, 6) := rd_of (by decide +kernel)
theorem rd_5 : readI [97, 61, 98, 10] = (Tr.nil, 1, 6) := rd_of (by decide +kernel)
theorem rd_6 : readI [91, 97, 93, 10, 91, 97, 93, 10] = (Tr.nil, 2, 7) := rd_of (by decide +kernel)
theorem rd_7 : readI [91, 97, 93, 10, 98, 61, 49, 10, 98, 61, 50, 10] = (Tr.nil, 3, 7) := rd_of (by decide +kernel)
theorem rd_8 : readI [91, 97, 93, 10, 120, 10] = (Tr.nil, 2, 6) := rd_of (by decide +kernel)
theorem rd_9 : readI [91, 32, 97, 93, 10] = (Tr.nil, 1, 6) := rd_of (by decide +kernel)
theorem rd_10 : readI [91, 97, 93, 93, 10] = (Tr.nil, 1, 6) := rd_of (by decide +kernel)
theorem rd_11 : readI [91, 93, 10] = (Tr.nil, 1, 6) := rd_of (by decide +kernel)
theorem rd_12 : readI [91, 97, 93, 10, 98, 61, 10] = ((Tr.cons ⟨#[97]⟩ (Tr.cons ⟨#[98]⟩ (Tr.cons ⟨#[]⟩ (Tr.nil) (Tr.nil)) (Tr.nil)) (Tr.nil)), 0, 0) := rd_of (by decide +kernel)
theorem rd_13 : readI [91, 97, 93, 10, 98, 61, 61, 99, 10] = ((Tr.cons ⟨#[97]⟩ (Tr.cons ⟨#[98]⟩ (Tr.cons ⟨#[61, 99]⟩ (Tr.nil) (Tr.nil)) (Tr.nil)) (Tr.nil)), 0, 0) := rd_of (by decide +kernel)
theorem rd_14 : readI [91, 97, 93, 10, 98, 61, 99, 13, 100, 10] = (Tr.nil, 2, 6) := rd_of (by decide +kernel)
theorem rd_15 : readI [91, 97, 93] = ((Tr.cons ⟨#[97]⟩ (Tr.nil) (Tr.nil)), 0, 0) := rd_of (by decide +kernel)
theorem rd_16 : readI [91, 97, 93, 10, 98, 61, 99] = ((Tr.cons ⟨#[97]⟩ (Tr.cons ⟨#[98]⟩ (Tr.cons ⟨#[99]⟩ (Tr.nil) (Tr.nil)) (Tr.nil)) (Tr.nil)), 0, 0) := rd_of (by decide +kernel)
end Go.Proofs.YtgefoehpdiiomaaGreatDoor.In
namespace Go.Proofs.YtgefoehpdiiomaaGreatDoor.Cv
open Go.RowKit Go.ChangeShapes Go.WideShapes Go.ChangeAt

theorem of_shape {H : Type} {enc : TypeId × Value → H} {a : Assume} {C : Checked} {os : Os} {f : FuncId} {fn : Func} {s : ChangeSpec} {conds : List PathCond} {apart fresh handsOn again : Bool} {X : World → Prop}
    (own : ownKnob C.prog.godebug = none) (started : os.Started) (noInit : C.prog.inits.idxOf? f = none) (hfn : C.prog.funcs[f]? = some fn)
    (witness : ∃ (w : World) (tape : Tape) (i : Input), w.os = os ∧ (w.forCall tape i).Shaped C.prog ∧ i.vars = [] ∧ Input.okWide C.prog (w.forCall tape i) .any w.heap.size f i ∧
      ((s.pre enc C.prog fn conds apart (w.forCall tape i).memory i.args ∧ X (w.forCall tape i).memory) ∧ sizedMet enc C.prog fn (OpenSpec.ofChange s) apart (w.forCall tape i).memory i.args) ∧ a.holds C.prog (lone (Frame.enter C.prog f i.args .normal) [] (w.forCall tape i)))
    (walk : ∀ (W : World) (base : Nat) (args : Array Value) (ds gs : List (DataW H)) (before : List MemPlace),
      (∀ (j : Nat) t v, fn.params[j]? = some t → args[j]? = some v → Value.okWide C.prog W .any base t v) →
      DataW.Whole enc C.prog fn.params.toList s.vars apart W args.toList ds gs before → W.ShapedOpen C.prog →
      Calls C.prog f args W fun e W' => ∃ v, e = .returned v ∧ s.post enc C.prog fn apart fresh handsOn again W args v W') :
    ReturnsInHanded a C os f .any (fun w args => (s.pre enc C.prog fn conds apart w args ∧ X w) ∧ sizedMet enc C.prog fn (OpenSpec.ofChange s) apart w args) (s.post enc C.prog fn apart fresh handsOn again) := by
  refine returnsInHanded_of_calls own started noInit witness ?_
  intro w tape i _ hsh _ hok hpre _
  obtain ⟨_, _, _, g, hg, _, _, _, _, hval⟩ := hok
  obtain rfl : g = fn := Option.some.inj (hg.symm.trans hfn)
  obtain ⟨⟨⟨ds, gs, before, hw, _⟩, _⟩, _⟩ := hpre
  refine (walk (w.forCall tape i) w.heap.size i.args ds gs before hval (DataW.Whole.of_heap (w' := w.forCall tape i) (by rfl) hw) hsh).mono fun e W' ⟨v, he, hp⟩ => ?_
  subst he
  exact ChangeSpec.post_blind hp
/-- MaxLen's cell out of the world's shape. -/
theorem gl_of {w : World} (h : w.ShapedOpen Tryz.prog) : Gl w := Tryz.laysM219.s1_3 w h
end Go.Proofs.YtgefoehpdiiomaaGreatDoor.Cv
