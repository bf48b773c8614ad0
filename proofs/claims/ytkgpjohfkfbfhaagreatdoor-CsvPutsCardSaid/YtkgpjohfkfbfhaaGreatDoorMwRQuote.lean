/- Quoted of the reference: a name, quoted. Conditions: names below 2^40 bytes. · Text of the reference: a tree, written. Conditions: the text is below 2^40 bytes. · csv.Load: what a file is loaded as; the closed readings. Conditions: texts of ASCII bytes in its fields; MaxLen's cell. · csv's closed readings. No conditions. · csv's laws: a number within a bound; the chapter's example; what a tree's text is. Conditions: MaxLen's cell. -/
import Derived.Test.YtkgpjohfkfbfhaaGreatDoorMwJudge
import Derived.Deep.QuietTactic
import Derived.BigQuiet
import Derived.IntWalk
import Derived.Laws.Concat
import Derived.Outline
import Derived.Test.YtkgpjohfkfbfhaaGreatDoorWith
import Derived.Test.YtkgpjohfkfbfhaaGreatDoorCvRead
import Derived.Test.YtkgpjohfkfbfhaaGreatDoorWithW
import Derived.Deep.RegionHeld3
import Derived.Deep.CutRange
namespace Go.Proofs.YtkgpjohfkfbfhaaGreatDoor.Pt
open Go.RowKit
set_option maxRecDepth 100000

theorem extract_one (s : ByteArray) (k : Nat) (h : k < s.size) : (s.extract k (k + 1)).data.toList = [s[k]] := by
  have e : (s.extract k (k + 1)).data = s.data.extract k (k + 1) := by simp [ByteArray.data_extract]
  rw [e, Array.toList_extract, List.extract_eq_take_drop]
  rw [show k + 1 - k = 1 by omega, List.drop_eq_getElem_cons (by rw [Array.length_toList]; exact h)]
  rfl
theorem extract_one_size (s : ByteArray) (k : Nat) (h : k < s.size) : (s.extract k (k + 1)).size = 1 := by
  rw [ByteArray.size_extract]; omega
def HEX : ByteArray := ⟨#[48, 49, 50, 51, 52, 53, 54, 55, 56, 57, 97, 98, 99, 100, 101, 102]⟩
theorem hex_one : ∀ a : Nat, a < 16 → (HEX.extract a (a + 1)).data.toList = [dig16 a] := by decide
theorem hex_size (a : Nat) (h : a < 16) : (HEX.extract a (a + 1)).size = 1 := extract_one_size HEX a h
theorem app_list (a b : ByteArray) : (a ++ b).data.toList = a.data.toList ++ b.data.toList := by simp

set_option maxHeartbeats 2000000 in
theorem rquoted_any (s : ByteArray) (w : World) (hs : s.size ≤ 1099511627776) :
    Calls Tryz.prog 45 #[.string s] w fun e w' => (∃ O : ByteArray, e = .returned (.string O) ∧ O.data.toList = quo s.data.toList) ∧ ∃ q, w' = w.drewN q := by
  go_enter Tryz.func45, Tryz.ntmps45
  go_wp2_with fail
  go_loopw [4, 5] (fun o i wr => ∃ (k : Nat) (O : ByteArray) (q : Nat), k ≤ s.size ∧ i = .int .i64 k ∧ o = .string O ∧ Hid (O.data.toList = [34] ++ quoL (s.data.toList.take k)) ∧ Hid (wr = w.drewN q)) (fun _ i _ => s.size - (intOf i).toNat)
  case atStart => exact ⟨0, ⟨#[34]⟩, 0, by omega, rfl, rfl, Lib.hid (by simp [quoL]), Lib.hid rfl⟩
  case round =>
    obtain ⟨k, O, q0, hk, rfl, rfl, HO, HW⟩ := hrel
    have hOl : O.size ≤ 4 * s.size + 1 := by
      have h1 := congrArg List.length HO.out
      have h2 := quoL_le (s.data.toList.take k)
      simp only [List.length_append, List.length_cons, List.length_nil, List.length_take, Array.length_toList] at h1 h2
      have : O.data.size = O.size := rfl
      omega
    by_cases hlt : k < s.size
    · have hts := take_snoc_ s k hlt
      have HS : Hid (quoL (s.data.toList.take (k + 1)) = quoL (s.data.toList.take k) ++ quoB s[k]) := by rw [hts]; exact quoL_snoc _ _
      have hu := s[k].toNat_lt
      have hx1 := extract_one s k hlt
      have hxz := extract_one_size s k hlt
      have Hx1 := Lib.hid hx1
      have Hxz := Lib.hid hxz
      clear hts hx1 hxz
      obtain ⟨c, hc⟩ : ∃ c, c = s[k] := ⟨_, rfl⟩
      by_cases h1 : s[k].toNat = 34 ∨ s[k].toNat = 92
      · have hB : quoB s[k] = [92, s[k]] := by unfold quoB; rw [if_pos h1]
        have HB := Lib.hid hB
        have hadd1 := fun W => run_string_add_sum (P := Tryz.prog) W O ⟨#[92]⟩ (by have : (ByteArray.mk #[92]).size = 1 := rfl; omega)
        obtain ⟨O1, hO1⟩ : ∃ x, x = O ++ ⟨#[92]⟩ := ⟨_, rfl⟩
        rw [← hO1] at hadd1
        have hO1s : O1.size = O.size + 1 := by rw [hO1, ByteArray.size_append]; rfl
        have hadd2 := fun W => run_string_add_sum (P := Tryz.prog) W O1 (s.extract k (k + 1)) (by have := Hxz.out; omega)
        obtain ⟨O2, hO2⟩ : ∃ x, x = O1 ++ s.extract k (k + 1) := ⟨_, rfl⟩
        rw [← hO2] at hadd2
        have hO3 : O2.data.toList = [34] ++ quoL (s.data.toList.take (k + 1)) := by
          rw [hO2, hO1, app_list, app_list, HO.out, HS.out, HB.out, Hx1.out]; simp
        have HO3 := Lib.hid hO3
        have Hlt := Lib.hid hlt
        clear hB hO1 hO2 hO1s hO3 hc
        by_cases h34 : s[k].toNat = 34
        · have h34' : (s[k].toNat : Int) = 34 := by omega
          clear h1 h34
          go_wp2_with fail
          go_roundw
          case rel => exact ⟨k + 1, O2, q0, Hlt.out, by go_num, rfl, HO3, HW⟩
          case measure => have := Hlt.out; simp [intOf]; omega
        · have h34' : ¬ (s[k].toNat : Int) = 34 := by omega
          have h92' : (s[k].toNat : Int) = 92 := by omega
          have h34b : ((s[k].toNat : Int) == 34) = false := by simp; omega
          have h92b : ((s[k].toNat : Int) == 92) = true := by simp; omega
          clear h1 h34
          go_wp2_with fail
          go_roundw
          case rel => exact ⟨k + 1, O2, q0, Hlt.out, by go_num, rfl, HO3, HW⟩
          case measure => have := Hlt.out; simp [intOf]; omega
          all_goals (exfalso; simp_all <;> omega)
      · have h34 : ((s[k].toNat : Int) == 34) = false := by simp; omega
        have h92 : ((s[k].toNat : Int) == 92) = false := by simp; omega
        by_cases h4 : s[k].toNat < 32 ∨ 126 < s[k].toNat
        · have hB : quoB s[k] = [92, 120, dig16 (s[k].toNat / 16), dig16 (s[k].toNat % 16)] := by unfold quoB; rw [if_neg h1, if_pos h4]
          have HB := Lib.hid hB
          obtain ⟨a, ha⟩ : ∃ a, a = s[k].toNat / 16 := ⟨_, rfl⟩
          obtain ⟨b, hb⟩ : ∃ b, b = s[k].toNat % 16 := ⟨_, rfl⟩
          have ha16 : a < 16 := by omega
          have hb16 : b < 16 := by omega
          have hxa := hex_one a ha16
          have hxas := hex_size a ha16
          have hxb := hex_one b hb16
          have hxbs := hex_size b hb16
          have hadd1 := fun W => run_string_add_sum (P := Tryz.prog) W O ⟨#[92, 120]⟩ (by have : (ByteArray.mk #[92, 120]).size = 2 := rfl; omega)
          obtain ⟨O1, hO1⟩ : ∃ x, x = O ++ ⟨#[92, 120]⟩ := ⟨_, rfl⟩
          rw [← hO1] at hadd1
          have hO1s : O1.size = O.size + 2 := by rw [hO1, ByteArray.size_append]; rfl
          have hadd2 := fun W => run_string_add_sum (P := Tryz.prog) W O1 (HEX.extract a (a + 1)) (by omega)
          obtain ⟨O2, hO2⟩ : ∃ x, x = O1 ++ HEX.extract a (a + 1) := ⟨_, rfl⟩
          rw [← hO2] at hadd2
          have hO2s : O2.size = O1.size + 1 := by rw [hO2, ByteArray.size_append, hxas]
          have hadd3 := fun W => run_string_add_sum (P := Tryz.prog) W O2 (HEX.extract b (b + 1)) (by omega)
          obtain ⟨O3, hO3⟩ : ∃ x, x = O2 ++ HEX.extract b (b + 1) := ⟨_, rfl⟩
          rw [← hO3] at hadd3
          have hO4 : O3.data.toList = [34] ++ quoL (s.data.toList.take (k + 1)) := by
            rw [hO3, hO2, hO1, app_list, app_list, app_list, HO.out, HS.out, HB.out, hxa, hxb, ha, hb]; simp
          have hd : IntKind.u8.wrap ((s[k].toNat : Int) / 16) = a := by rw [IntKind.wrap_u8]; omega
          have hm : (s[k].toNat : Int).tmod 16 = b := by rw [Int.tmod_eq_emod_of_nonneg (by omega)]; omega
          have hd2 : IntKind.u8.wrap ((a : Int) + 1) = (a : Int) + 1 := by rw [IntKind.wrap_u8]; omega
          have hm2 : IntKind.u8.wrap ((b : Int) + 1) = (b : Int) + 1 := by rw [IntKind.wrap_u8]; omega
          have hd3 : ((a : Int) + 1).toNat = a + 1 := by omega
          have hm3 : ((b : Int) + 1).toNat = b + 1 := by omega
          have hd4 : (a : Int) + 1 ≤ 16 := by omega
          have hm4 : (b : Int) + 1 ≤ 16 := by omega
          have hd5 : (0 : Int) ≤ (a : Int) + 1 := by omega
          have hm5 : (0 : Int) ≤ (b : Int) + 1 := by omega
          have hd6 : (a : Int) ≤ (a : Int) + 1 := by omega
          have hm6 : (b : Int) ≤ (b : Int) + 1 := by omega
          have hor : (s[k].toNat : Int) < 32 ∨ ¬ (s[k].toNat : Int) < 32 ∧ 126 < (s[k].toNat : Int) := by omega
          have HO4 := Lib.hid hO4
          have Hlt := Lib.hid hlt
          unfold HEX at hadd2 hadd3
          clear hB hO1 hO2 hO3 hO4 hO1s hO2s h1 h4 hc hxa hxas hxb hxbs ha hb
          rcases hor with hor | ⟨hor, hor2⟩
          · go_wp2_with fail
            go_quiet (fail)
            go_wp2_with fail
            go_roundw
            case rel => exact ⟨k + 1, O3, _, Hlt.out, by go_num, rfl, HO4, Lib.hid (by rw [HW.out, World.drewN_drewN])⟩
            case measure => have := Hlt.out; simp [intOf]; omega
          · go_wp2_with fail
            go_quiet (fail)
            go_wp2_with fail
            go_roundw
            case rel => exact ⟨k + 1, O3, _, Hlt.out, by go_num, rfl, HO4, Lib.hid (by rw [HW.out, World.drewN_drewN])⟩
            case measure => have := Hlt.out; simp [intOf]; omega
        · have hB : quoB s[k] = [s[k]] := by unfold quoB; rw [if_neg h1, if_neg h4]
          have HB := Lib.hid hB
          have h5 : (32 : Int) ≤ (s[k].toNat : Int) := by omega
          have h6 : (s[k].toNat : Int) ≤ 126 := by omega
          have hadd2 := fun W => run_string_add_sum (P := Tryz.prog) W O (s.extract k (k + 1)) (by have := Hxz.out; omega)
          obtain ⟨O2, hO2⟩ : ∃ x, x = O ++ s.extract k (k + 1) := ⟨_, rfl⟩
          rw [← hO2] at hadd2
          have hO3 : O2.data.toList = [34] ++ quoL (s.data.toList.take (k + 1)) := by
            rw [hO2, app_list, HO.out, HS.out, HB.out, Hx1.out]; simp
          have HO3 := Lib.hid hO3
          have Hlt := Lib.hid hlt
          clear hB hO2 hO3 h1 h4 hc
          go_wp2_with fail
          go_roundw
          case rel => exact ⟨k + 1, O2, q0, Hlt.out, by go_num, rfl, HO3, HW⟩
          case measure => have := Hlt.out; simp [intOf]; omega
    · obtain rfl : k = s.size := by omega
      have hall : s.data.toList.take s.size = s.data.toList := List.take_of_length_le (by rw [Array.length_toList]; exact Nat.le_refl _)
      have hadd1 := fun W => run_string_add_sum (P := Tryz.prog) W O ⟨#[34]⟩ (by have : (ByteArray.mk #[34]).size = 1 := rfl; omega)
      obtain ⟨O1, hO1⟩ : ∃ x, x = O ++ ⟨#[34]⟩ := ⟨_, rfl⟩
      rw [← hO1] at hadd1
      have hO3 : O1.data.toList = quo s.data.toList := by rw [hO1, app_list, HO.out, hall]; rfl
      have HO3 := Lib.hid hO3
      clear hlt hall hO1 hO3
      go_wp2_with fail
      go_ret
      exact ⟨⟨O1, rfl, HO3.out⟩, q0, HW.out⟩
end Go.Proofs.YtkgpjohfkfbfhaaGreatDoor.Pt
namespace Go.Proofs.YtkgpjohfkfbfhaaGreatDoor.Pt
open Go.RowKit
set_option maxRecDepth 100000

theorem drewN_zero (w : World) : w.drewN 0 = w := rfl
def Tr.sepB : Nat → Tr → List UInt8
  | _, .nil => []
  | 0, t => t.body
  | _ + 1, t => [44, 32] ++ t.body
theorem body_cons (s : ByteArray) (k r : Tr) : (Tr.cons s k r).body = quo s.data.toList ++ [58, 32] ++ k.text ++ Tr.sepB 1 r := by
  cases r with
  | nil => simp [Tr.body, Tr.text, Tr.sepB]
  | cons s2 k2 r2 => simp [Tr.body, Tr.text, Tr.sepB]
theorem sepB_succ (i : Nat) (t : Tr) : Tr.sepB (i + 1) t = Tr.sepB 1 t := by cases t <;> rfl
theorem sepB_cons (i : Nat) (s : ByteArray) (k r : Tr) : Tr.sepB (i + 1) (.cons s k r) = [44, 32] ++ (quo s.data.toList ++ [58, 32] ++ k.text ++ Tr.sepB (i + 2) r) := by
  rw [sepB_succ (i + 1) r, ← body_cons]
  rfl
theorem sepB_zero (t : Tr) : Tr.sepB 0 t = t.body := by cases t <;> rfl
theorem len_body : ∀ t : Tr, t.len ≤ t.body.length
  | .nil => Nat.zero_le _
  | .cons s k r => by
    rw [body_cons]
    have := len_body r
    have h2 : r.body.length ≤ (Tr.sepB 1 r).length := by cases r with
      | nil => simp [Tr.sepB, Tr.body]
      | cons _ _ _ => simp only [Tr.sepB, List.length_append]; omega
    simp only [Tr.len, List.length_append, List.length_cons, List.length_nil]
    omega
theorem quoB_pos (c : UInt8) : 1 ≤ (quoB c).length := by
  unfold quoB
  split
  · simp
  · split <;> simp
theorem quoL_ge (l : List UInt8) : l.length ≤ (quoL l).length := by
  induction l with
  | nil => exact Nat.le_refl _
  | cons c l ih =>
    have := quoB_pos c
    simp only [quoL, List.flatMap_cons, List.length_append, List.length_cons] at ih ⊢
    omega
theorem quo_ge (s : ByteArray) : s.size + 2 ≤ (quo s.data.toList).length := by
  have h := quoL_ge s.data.toList
  have : s.data.toList.length = s.size := rfl
  simp only [quo, List.length_append, List.length_cons, List.length_nil]
  omega
def ba (l : List UInt8) : ByteArray := ⟨l.toArray⟩
theorem ba_list (l : List UInt8) : (ba l).data.toList = l := by simp [ba]
theorem ba_of {O : ByteArray} {l : List UInt8} (h : O.data.toList = l) : O = ba l := by
  apply ByteArray.ext
  apply Array.toList_inj.1
  rw [h, ba_list]
theorem size_list (O : ByteArray) : O.data.toList.length = O.size := rfl
theorem ba_size (l : List UInt8) : (ba l).size = l.length := by rw [← size_list, ba_list]
theorem rquoted_ba (s : ByteArray) (w : World) (hs : s.size ≤ 1099511627776) :
    Calls Tryz.prog 45 #[.string s] w fun e w' => e = .returned (.string (ba (quo s.data.toList))) ∧ ∃ q, w' = w.drewN q :=
  (rquoted_any s w hs).mono fun _ _ ⟨⟨O, e, h⟩, q⟩ => ⟨by rw [e, ba_of h], q⟩

set_option maxHeartbeats 4000000 in
theorem rtext_any (N : Nat) : ∀ (t : Tr) (A : Option Addr) (n c B : Nat) (w : World), t.size ≤ N → Holds w B A n t → B ≤ w.heap.size → t.size ≤ 549755813888 → t.text.length ≤ 1099511627776 →
    Calls Tryz.prog 24 #[.slice A n c] w fun e w' => e = .returned (.string (ba t.text)) ∧ ∃ q, w' = w.drewN q := by
  induction N with
  | zero =>
    intro t A n c B w hN h hB hsz hlen
    cases t with
    | cons s k r => simp [Tr.size] at hN
    | nil =>
      obtain rfl : n = 0 := h
      have hadd := fun W => run_string_add_sum (P := Tryz.prog) W ⟨#[123]⟩ ⟨#[125]⟩ (by have : (ByteArray.mk #[123]).size = 1 := rfl; have : (ByteArray.mk #[125]).size = 1 := rfl; omega)
      rw [show (⟨#[123]⟩ : ByteArray) ++ ⟨#[125]⟩ = ba (Tr.text .nil) from ba_of (by simp [Tr.text, Tr.body])] at hadd
      go_enter Tryz.func24, Tryz.ntmps24
      go_wp2_with fail
      go_loopw [3, 4] (fun a i wr => a = .string ⟨#[123]⟩ ∧ i = .int .i64 0 ∧ Hid (wr = w)) (fun _ _ _ => 0)
      case atStart => exact ⟨rfl, rfl, Lib.hid rfl⟩
      case round =>
        obtain ⟨rfl, rfl, HW⟩ := hrel
        go_wp2_with fail
        go_ret
        exact ⟨rfl, 0, HW.out⟩
  | succ N ih =>
    intro t A n c B w hN h hB hsz hlen
    have hnl := h.len
    have hls := t.len_size
    have hnb : n ≤ 549755813888 := by omega
    have Hnl := Lib.hid hnl
    have Hlen := Lib.hid hlen
    have HszN := Lib.hid hN
    have Hsz := Lib.hid hsz
    clear hnl hls hlen hN hsz
    go_enter Tryz.func24, Tryz.ntmps24
    go_wp2_with fail
    go_loopw [3, 4] (fun a i wr => ∃ (k : Nat) (O : ByteArray) (q : Nat), k ≤ n ∧ i = .int .i64 k ∧ a = .string O ∧ Hid (O.data.toList ++ Tr.sepB k (t.dropT k) = [123] ++ t.body) ∧ Hid (wr = w.drewN q)) (fun _ i _ => n - (intOf i).toNat)
    case atStart => exact ⟨0, ⟨#[123]⟩, 0, Nat.zero_le _, rfl, rfl, by rw [dropT_zero, sepB_zero]; exact Lib.hid (by simp), Lib.hid rfl⟩
    case round =>
      obtain ⟨k, O, q0, hk, rfl, rfl, HO, HW⟩ := hrel
      by_cases hlt : k < n
      · obtain ⟨b, o, s, kt, r, A', n', c', rfl, hb, hs, hc, hn', hc', hk', hr, hd, hd2⟩ := h.split k hlt
        have hkn : (k : Int) < (n : Int) := by omega
        have hk0 : (0 : Int) ≤ (k : Int) := by omega
        have hsz2 := size_drop t k
        rw [hd] at hsz2
        simp only [Tr.size] at hsz2
        have hO := HO.out
        rw [hd] at hO
        -- the text ahead of the edge
        obtain ⟨O', hO', hO2⟩ : ∃ O' : ByteArray, (k = 0 ∧ O' = O ∨ 0 < k ∧ O' = O ++ ⟨#[44, 32]⟩) ∧ O'.data.toList ++ (quo s.data.toList ++ [58, 32] ++ kt.text ++ Tr.sepB (k + 1) (t.dropT (k + 1))) = [123] ++ t.body := by
          rw [hd2]
          cases k with
          | zero => exact ⟨O, .inl ⟨rfl, rfl⟩, by rw [← hO, sepB_zero, body_cons]⟩
          | succ i => exact ⟨O ++ ⟨#[44, 32]⟩, .inr ⟨by omega, rfl⟩, by rw [← hO, sepB_cons, app_list]; simp⟩
        have hl := congrArg List.length hO2
        have hq := quo_ge s
        have hT := Hlen.out
        simp only [Tr.text, List.length_append, List.length_cons, List.length_nil, size_list] at hl hT
        have hlk : kt.text.length = kt.body.length + 2 := by simp [Tr.text]
        have hs40 : s.size ≤ 1099511627776 := by omega
        have HQ := Lib.hid (fun W => rquoted_ba s W hs40)
        have HC := Lib.hid (fun W (hW : Holds W B A' n' kt) (hBW : B ≤ W.heap.size) => ih kt A' n' c' B W (by have := HszN.out; omega) hW hBW (by have := Hsz.out; omega) (by omega))
        have hadd1 := fun W => run_string_add_sum (P := Tryz.prog) W O' (ba (quo s.data.toList)) (by rw [ba_size]; omega)
        obtain ⟨O1, hO1⟩ : ∃ x, x = O' ++ ba (quo s.data.toList) := ⟨_, rfl⟩
        rw [← hO1] at hadd1
        have hl1 : O1.size = O'.size + (quo s.data.toList).length := by rw [hO1, ByteArray.size_append, ba_size]
        have hadd2 := fun W => run_string_add_sum (P := Tryz.prog) W O1 ⟨#[58, 32]⟩ (by have : (ByteArray.mk #[58, 32]).size = 2 := rfl; omega)
        obtain ⟨O2, hO2'⟩ : ∃ x, x = O1 ++ ⟨#[58, 32]⟩ := ⟨_, rfl⟩
        rw [← hO2'] at hadd2
        have hl2 : O2.size = O1.size + 2 := by rw [hO2', ByteArray.size_append]; rfl
        have hadd3 := fun W => run_string_add_sum (P := Tryz.prog) W O2 (ba kt.text) (by rw [ba_size]; omega)
        obtain ⟨O3, hO3⟩ : ∃ x, x = O2 ++ ba kt.text := ⟨_, rfl⟩
        rw [← hO3] at hadd3
        have HO3 : Hid (O3.data.toList ++ Tr.sepB (k + 1) (t.dropT (k + 1)) = [123] ++ t.body) := by
          refine Lib.hid ?_
          rw [← hO2, hO3, hO2', hO1, app_list, app_list, app_list, ba_list, ba_list]
          simp
        have hle0 : O.size ≤ O'.size := by
          rcases hO' with ⟨_, e⟩ | ⟨_, e⟩
          · rw [e]; exact Nat.le_refl _
          · rw [e, ByteArray.size_append]; omega
        have hadd0 := fun W => run_string_add_sum (P := Tryz.prog) W O ⟨#[44, 32]⟩ (by have : (ByteArray.mk #[44, 32]).size = 2 := rfl; omega)
        have hBr : ∀ m, B ≤ (wr.drewN m).heap.size := fun m => by rw [HW.out]; exact hB
        have hkm : ∀ m, Holds (wr.drewN m) B A' n' kt := fun m => by rw [HW.out]; exact (hk'.drewN q0).drewN m
        have hs' : wr.cell? ⟨b, o + k * 2, none⟩ = some (.string s) := by rw [HW.out]; exact hs
        have hc' : wr.cell? ⟨b, o + k * 2 + 1, none⟩ = some (.slice A' n' c') := by rw [HW.out]; exact hc
        clear hs hc
        have Hl := Lib.hid hlt
        obtain ⟨V1, hV1⟩ : ∃ v, v = ba (quo s.data.toList) := ⟨_, rfl⟩
        obtain ⟨V2, hV2⟩ : ∃ v, v = ba kt.text := ⟨_, rfl⟩
        rw [← hV1] at hadd1 HQ
        rw [← hV2] at hadd3 HC
        have HB := Lib.hid hBr
        have HK := Lib.hid hkm
        clear hle0 hd hd2 hsz2 hlt HO hO hO2 hl hq hT hlk hO1 hO2' hO3 hl1 hl2 hV1 hV2 hBr hkm
        rcases hO' with ⟨rfl, rfl⟩ | ⟨h0, rfl⟩
        · clear hadd0
          simp only [Nat.zero_mul, Nat.add_zero] at hs' hc'
          go_wp2_with fail
          go_quiet ((first | (go_at_call 45; exact Calls.quiet_of (HQ.out _)) | (go_at_call 24; exact Calls.quiet_of (HC.out _ (HK.out _) (HB.out _)))))
          go_wp2_with fail
          go_roundw
          case rel => exact ⟨0 + 1, O3, _, by have := Hl.out; omega, by go_num, rfl, HO3, Lib.hid (by rw [HW.out, World.drewN_drewN])⟩
          case measure => have := Hl.out; simp [intOf]; omega
        · have hgt : (0 : Int) < (k : Int) := by omega
          clear h0
          generalize hOO : O ++ ⟨#[44, 32]⟩ = OO at hadd0 hadd1
          clear hOO
          go_wp2_with fail
          go_quiet ((first | (go_at_call 45; exact Calls.quiet_of (HQ.out _)) | (go_at_call 24; exact Calls.quiet_of (HC.out _ (HK.out _) (HB.out _)))))
          go_wp2_with fail
          go_roundw
          case rel => exact ⟨k + 1, O3, _, by have := Hl.out; omega, by go_num, rfl, HO3, Lib.hid (by rw [HW.out, World.drewN_drewN])⟩
          case measure => have := Hl.out; simp [intOf]; omega
      · obtain rfl : k = n := by omega
        have hO := HO.out
        rw [drop_len t k (by rw [← Hnl.out]; exact Nat.le_refl _)] at hO
        have hO2 : O.data.toList = [123] ++ t.body := by
          rw [← hO]; cases k <;> simp [Tr.sepB]
        have hl := congrArg List.length hO2
        have hT := Hlen.out
        simp only [Tr.text, List.length_append, List.length_cons, List.length_nil, size_list] at hl hT
        have hadd := fun W => run_string_add_sum (P := Tryz.prog) W O ⟨#[125]⟩ (by have : (ByteArray.mk #[125]).size = 1 := rfl; omega)
        rw [show O ++ ⟨#[125]⟩ = ba t.text from ba_of (by rw [app_list, hO2]; simp [Tr.text])] at hadd
        clear HO hO hO2 hl hT hlt
        go_wp2_with fail
        go_ret
        exact ⟨rfl, q0, HW.out⟩
end Go.Proofs.YtkgpjohfkfbfhaaGreatDoor.Pt
namespace Go.Proofs.YtkgpjohfkfbfhaaGreatDoor.Cv
open Go.RowKit Go.Proofs.YtkgpjohfkfbfhaaGreatDoor.Jd Go.Proofs.YtkgpjohfkfbfhaaGreatDoor.Li Go.Proofs.YtkgpjohfkfbfhaaGreatDoor.Cl
set_option maxRecDepth 100000

/-- What Load answers. -/
def LoadP (w : World) (o : Tr × Nat × Int) (en : Ending) (w' : World) : Prop :=
  ∃ At ct, en = .returned (.tuple #[.slice At o.1.len ct, .int .i64 (o.2.1 : Nat), .int .i64 o.2.2]) ∧ HoldsP w' (fun b => w.heap.size ≤ b ∧ b < w'.heap.size) At o.1.len o.1 ∧ (o.1.len ≤ ct ∧ ct ≤ maxLen) ∧ Below w.heap.size w w'

theorem load_any (s : ByteArray) (w : World) (hp : ∀ x ∈ split s.data.toList, ∀ z ∈ mns (fldsL x.1), Pl z) (hG : Gl w) :
    Calls Tryz.prog 19 #[.string s] w (LoadP w (readF s.data.toList)) := by
  have HR := Lib.hid (read_any s w hp hG)
  obtain ⟨R, hR⟩ : ∃ R, R = readF s.data.toList := ⟨_, rfl⟩
  rw [← hR] at HR ⊢
  clear hR hp hG
  go_enter Tryz.func19, Tryz.ntmps19
  go_wp2_with fail
  (with_reducible refine HR.out.mono ?_)
  rintro e w1 ⟨Ah, Ar, At, nh, ch, nr, cr, ct, ee, rfl, hrd, hb⟩
  go_wp2_with fail
  refine bodyPost_ret (v := .tuple #[.slice At R.1.len ct, .int .i64 (R.2.1 : Nat), .int .i64 R.2.2]) (by simp [results, Tryz.results19, go_sem]) rfl ?_
  have hb1 := fun o : Obj => (Below.refl w1.heap.size w1).alloc (Nat.le_refl _) o
  exact ⟨At, ct, rfl, (hrd.below (hb1 _)).tree, hrd.cap, hb.trans ((hb1 _).mono hb.size)⟩

/-- Its fields are of ASCII bytes. -/
def plB (l : Bs) : Bool := (split l).all fun x => (mns (fldsL x.1)).all fun z => z.data.toList.all fun b => decide (b.toNat < 256)
theorem plB_pl {l : Bs} (h : plB l = true) : ∀ x ∈ split l, ∀ z ∈ mns (fldsL x.1), Pl z := fun x hx z hz j b hb => by
  have h1 := List.all_eq_true.1 h x hx
  have h2 := List.all_eq_true.1 h1 z hz
  have h3 := List.all_eq_true.1 h2 b (List.mem_of_getElem? hb)
  simpa using h3
theorem readF_ok {l : Bs} {T : Tr} {h : Rw} {t : List Rw} (h1 : l.length ≤ 4000) (h2 : rowsF [] 0 (split l) = (h :: t, 0, 0)) (h3 : treeR (h :: t) = T) (h4 : T.fault = 0) : readF l = (T, 0, 0) := by
  unfold readF
  rw [if_neg (by omega), h2, if_neg (by simp)]
  simp only
  rw [h3, if_neg (by simp [h4])]
theorem readF_no {l : Bs} {q : List Rw} {i : Nat} {e : Int} (h1 : l.length ≤ 4000) (h2 : rowsF [] 0 (split l) = (q, i, e)) (h3 : e ≠ 0) : readF l = (.nil, i, e) := by
  unfold readF
  rw [if_neg (by omega), h2, if_pos h3]
theorem tree0 (h : Rw) : treeR [h] = .nil := srtE_one (by simp [recsT, Tr.len])
theorem tree1 (h r : Rw) (hl : (rawB (colsR h) (mns r.fs.tail)).len ≤ 1) : treeR [h, r] = .cons (nm r) (rawB (colsR h) (mns r.fs.tail)) .nil := by
  show srtE (recsT srtE (colsR h) [r]) = _
  rw [srtE_one (by simp [recsT, Tr.len])]
  simp only [recsT]
  rw [srtE_one hl]
end Go.Proofs.YtkgpjohfkfbfhaaGreatDoor.Cv
namespace Go.Proofs.YtkgpjohfkfbfhaaGreatDoor.Cv
open Go.RowKit Go.Proofs.YtkgpjohfkfbfhaaGreatDoor.Jd Go.Proofs.YtkgpjohfkfbfhaaGreatDoor.Li Go.Proofs.YtkgpjohfkfbfhaaGreatDoor.Cl
set_option maxRecDepth 100000

instance rwEq : DecidableEq Rw := fun a b =>
  if h : a.fs = b.fs ∧ a.en = b.en then isTrue (by cases a; cases b; cases h.1; cases h.2; rfl) else isFalse (fun hab => h (by cases hab; exact ⟨rfl, rfl⟩))

def T1 : Tr := (.cons ⟨#[120]⟩ (.cons ⟨#[97]⟩ (.cons ⟨#[49]⟩ .nil .nil) .nil) .nil)
def T2 : Tr := (.cons ⟨#[120]⟩ .nil .nil)
def T3 : Tr := (.cons ⟨#[120, 44]⟩ (.cons ⟨#[97, 44, 34, 98]⟩ (.cons ⟨#[32, 121, 32]⟩ .nil .nil) .nil) .nil)
theorem pl_kn : plB [107, 101, 121, 44, 97, 10, 120, 44, 49, 10] = true := by decide +kernel
theorem rw_kn : rowsF [] 0 (split [107, 101, 121, 44, 97, 10, 120, 44, 49, 10]) = ([⟨[([107, 101, 121], [107, 101, 121]), ([97], [97])], ⟨#[10]⟩⟩, ⟨[([120], [120]), ([49], [49])], ⟨#[10]⟩⟩], 0, 0) := by decide +kernel
theorem rd_kn : readF [107, 101, 121, 44, 97, 10, 120, 44, 49, 10] = (T1, 0, 0) := readF_ok (by decide) rw_kn ((tree1 _ _ (by decide +kernel)).trans (by rfl)) (by decide +kernel)
theorem pl_k0 : plB [107, 101, 121, 10] = true := by decide +kernel
theorem rw_k0 : rowsF [] 0 (split [107, 101, 121, 10]) = ([⟨[([107, 101, 121], [107, 101, 121])], ⟨#[10]⟩⟩], 0, 0) := by decide +kernel
theorem rd_k0 : readF [107, 101, 121, 10] = (.nil, 0, 0) := readF_ok (by decide) rw_k0 (tree0 _) (by decide +kernel)
theorem pl_k1 : plB [34, 107, 101, 121, 34, 44, 97, 13, 10, 120, 44, 49, 13, 10] = true := by decide +kernel
theorem rw_k1 : rowsF [] 0 (split [34, 107, 101, 121, 34, 44, 97, 13, 10, 120, 44, 49, 13, 10]) = ([⟨[([34, 107, 101, 121, 34], [107, 101, 121]), ([97], [97])], ⟨#[13, 10]⟩⟩, ⟨[([120], [120]), ([49], [49])], ⟨#[13, 10]⟩⟩], 0, 0) := by decide +kernel
theorem rd_k1 : readF [34, 107, 101, 121, 34, 44, 97, 13, 10, 120, 44, 49, 13, 10] = (T1, 0, 0) := readF_ok (by decide) rw_k1 ((tree1 _ _ (by decide +kernel)).trans (by rfl)) (by decide +kernel)
theorem pl_k2 : plB [107, 101, 121, 44, 97, 44, 98, 10, 120, 44, 44, 34, 34, 10] = true := by decide +kernel
theorem rw_k2 : rowsF [] 0 (split [107, 101, 121, 44, 97, 44, 98, 10, 120, 44, 44, 34, 34, 10]) = ([⟨[([107, 101, 121], [107, 101, 121]), ([97], [97]), ([98], [98])], ⟨#[10]⟩⟩, ⟨[([120], [120]), ([], []), ([34, 34], [])], ⟨#[10]⟩⟩], 0, 0) := by decide +kernel
theorem rd_k2 : readF [107, 101, 121, 44, 97, 44, 98, 10, 120, 44, 44, 34, 34, 10] = (T2, 0, 0) := readF_ok (by decide) rw_k2 ((tree1 _ _ (by decide +kernel)).trans (by rfl)) (by decide +kernel)
theorem pl_k3 : plB [107, 101, 121, 44, 34, 97, 44, 34, 34, 98, 34, 10, 34, 120, 44, 34, 44, 32, 121, 32, 10] = true := by decide +kernel
theorem rw_k3 : rowsF [] 0 (split [107, 101, 121, 44, 34, 97, 44, 34, 34, 98, 34, 10, 34, 120, 44, 34, 44, 32, 121, 32, 10]) = ([⟨[([107, 101, 121], [107, 101, 121]), ([34, 97, 44, 34, 34, 98, 34], [97, 44, 34, 98])], ⟨#[10]⟩⟩, ⟨[([34, 120, 44, 34], [120, 44]), ([32, 121, 32], [32, 121, 32])], ⟨#[10]⟩⟩], 0, 0) := by decide +kernel
theorem rd_k3 : readF [107, 101, 121, 44, 34, 97, 44, 34, 34, 98, 34, 10, 34, 120, 44, 34, 44, 32, 121, 32, 10] = (T3, 0, 0) := readF_ok (by decide) rw_k3 ((tree1 _ _ (by decide +kernel)).trans (by rfl)) (by decide +kernel)
theorem pl_k4 : plB [107, 101, 121, 44, 97] = true := by decide +kernel
theorem rw_k4 : rowsF [] 0 (split [107, 101, 121, 44, 97]) = ([⟨[([107, 101, 121], [107, 101, 121]), ([97], [97])], ⟨#[]⟩⟩], 0, 0) := by decide +kernel
theorem rd_k4 : readF [107, 101, 121, 44, 97] = (.nil, 0, 0) := readF_ok (by decide) rw_k4 (tree0 _) (by decide +kernel)
theorem pl_k5 : plB [] = true := by decide +kernel
theorem rd_k5 : readF [] = (.nil, 0, 2) := by rfl
theorem pl_k6 : plB [110, 97, 109, 101, 44, 97, 10] = true := by decide +kernel
theorem rd_k6 : readF [110, 97, 109, 101, 44, 97, 10] = (.nil, 1, 6) := readF_no (q := []) (by decide) (by decide +kernel) (by decide)
theorem pl_k7 : plB [107, 101, 121, 44, 97, 44, 97, 10] = true := by decide +kernel
theorem rd_k7 : readF [107, 101, 121, 44, 97, 44, 97, 10] = (.nil, 1, 7) := readF_no (q := []) (by decide) (by decide +kernel) (by decide)
theorem pl_k8 : plB [107, 101, 121, 44, 107, 101, 121, 10] = true := by decide +kernel
theorem rd_k8 : readF [107, 101, 121, 44, 107, 101, 121, 10] = (.nil, 1, 6) := readF_no (q := []) (by decide) (by decide +kernel) (by decide)
theorem pl_k9 : plB [107, 101, 121, 44, 10] = true := by decide +kernel
theorem rd_k9 : readF [107, 101, 121, 44, 10] = (.nil, 1, 6) := readF_no (q := []) (by decide) (by decide +kernel) (by decide)
theorem pl_k10 : plB [107, 101, 121, 44, 97, 10, 120, 10] = true := by decide +kernel
theorem rd_k10 : readF [107, 101, 121, 44, 97, 10, 120, 10] = (.nil, 2, 6) := readF_no (q := []) (by decide) (by decide +kernel) (by decide)
theorem pl_k11 : plB [107, 101, 121, 44, 97, 10, 120, 44, 49, 44, 50, 10] = true := by decide +kernel
theorem rd_k11 : readF [107, 101, 121, 44, 97, 10, 120, 44, 49, 44, 50, 10] = (.nil, 2, 6) := readF_no (q := []) (by decide) (by decide +kernel) (by decide)
theorem pl_k12 : plB [107, 101, 121, 44, 97, 10, 120, 44, 49, 10, 120, 44, 50, 10] = true := by decide +kernel
theorem rd_k12 : readF [107, 101, 121, 44, 97, 10, 120, 44, 49, 10, 120, 44, 50, 10] = (.nil, 3, 7) := readF_no (q := []) (by decide) (by decide +kernel) (by decide)
theorem pl_k13 : plB [107, 101, 121, 44, 97, 10, 44, 49, 10] = true := by decide +kernel
theorem rd_k13 : readF [107, 101, 121, 44, 97, 10, 44, 49, 10] = (.nil, 2, 6) := readF_no (q := []) (by decide) (by decide +kernel) (by decide)
theorem pl_k14 : plB [107, 101, 121, 44, 97, 10, 120, 44, 34, 49, 10] = true := by decide +kernel
theorem rd_k14 : readF [107, 101, 121, 44, 97, 10, 120, 44, 34, 49, 10] = (.nil, 2, 6) := readF_no (q := []) (by decide) (by decide +kernel) (by decide)
theorem pl_k15 : plB [107, 101, 121, 44, 97, 10, 120, 44, 34, 49, 34, 50, 10] = true := by decide +kernel
theorem rd_k15 : readF [107, 101, 121, 44, 97, 10, 120, 44, 34, 49, 34, 50, 10] = (.nil, 2, 6) := readF_no (q := []) (by decide) (by decide +kernel) (by decide)
theorem pl_k16 : plB [107, 101, 121, 44, 97, 10, 120, 44, 49, 34, 10] = true := by decide +kernel
theorem rd_k16 : readF [107, 101, 121, 44, 97, 10, 120, 44, 49, 34, 10] = (.nil, 2, 6) := readF_no (q := []) (by decide) (by decide +kernel) (by decide)
theorem pl_k17 : plB [107, 101, 121, 10, 10] = true := by decide +kernel
theorem rd_k17 : readF [107, 101, 121, 10, 10] = (.nil, 2, 6) := readF_no (q := []) (by decide) (by decide +kernel) (by decide)
theorem pl_k18 : plB [107, 101, 121, 44, 97, 10, 120, 44, 49, 13, 50, 10] = true := by decide +kernel
theorem rd_k18 : readF [107, 101, 121, 44, 97, 10, 120, 44, 49, 13, 50, 10] = (.nil, 2, 6) := readF_no (q := []) (by decide) (by decide +kernel) (by decide)
theorem tx_nil : Pt.ba (Tr.text Tr.nil) = ⟨#[123, 125]⟩ := by decide +kernel
theorem tx_T1 : Pt.ba (Tr.text T1) = ⟨#[123, 34, 120, 34, 58, 32, 123, 34, 97, 34, 58, 32, 123, 34, 49, 34, 58, 32, 123, 125, 125, 125, 125]⟩ := by decide +kernel
theorem tx_T2 : Pt.ba (Tr.text T2) = ⟨#[123, 34, 120, 34, 58, 32, 123, 125, 125]⟩ := by decide +kernel
theorem tx_T3 : Pt.ba (Tr.text T3) = ⟨#[123, 34, 120, 44, 34, 58, 32, 123, 34, 97, 44, 92, 34, 98, 34, 58, 32, 123, 34, 32, 121, 32, 34, 58, 32, 123, 125, 125, 125, 125]⟩ := by decide +kernel
end Go.Proofs.YtkgpjohfkfbfhaaGreatDoor.Cv
namespace Go.Proofs.YtkgpjohfkfbfhaaGreatDoor.Cv
open Go.RowKit Go.Proofs.YtkgpjohfkfbfhaaGreatDoor.Jd Go.Proofs.YtkgpjohfkfbfhaaGreatDoor.Li Go.Proofs.YtkgpjohfkfbfhaaGreatDoor.Cl
set_option maxRecDepth 100000

theorem tmod_pos7 {a n : Int} (hn : 0 < n) (h : 0 ≤ a.tmod n) : a.tmod n = a % n := by
  have h1 := Int.tmod_add_mul_tdiv a n
  have h2 := Int.tmod_lt_of_pos a hn
  conv => rhs; rw [← h1]
  rw [Int.add_mul_emod_self_left, Int.emod_eq_of_lt h h2]
theorem tmod_neg7 {a n : Int} (hn : 0 < n) (h : a.tmod n < 0) : a.tmod n + n = a % n := by
  have h1 := Int.tmod_add_mul_tdiv a n
  have h2 := Int.lt_tmod_of_pos a hn
  conv => rhs; rw [← h1]
  rw [Int.add_mul_emod_self_left, ← Int.add_emod_right, Int.emod_eq_of_lt (by omega) (by omega)]
set_option maxHeartbeats 400000 in
theorem within_any (a n : Int) (hn : 0 < n) (hn2 : n ≤ 2147483647) (ha : -9223372036854775808 ≤ a ∧ a ≤ 9223372036854775807) (w : World) : Calls Tryz.prog 9 #[.int .i64 a, .int .i64 n] w fun e w' => e = .returned (.int .i64 (a % n)) ∧ w = w' := by
  obtain ⟨hx1, hx2⟩ := ha
  have hm1 := Int.tmod_lt_of_pos a hn
  have hm2 := Int.lt_tmod_of_pos a hn
  by_cases h : a.tmod n < 0
  · have Hf := Lib.hid (tmod_neg7 hn h)
    go_enter Tryz.func9, Tryz.ntmps9
    go_wp2
    go_ret
    exact ⟨by rw [← Hf.out]; rfl, rfl⟩
  · have Hf := Lib.hid (tmod_pos7 hn (by omega : 0 ≤ a.tmod n))
    go_enter Tryz.func9, Tryz.ntmps9
    go_wp2
    go_ret
    exact ⟨by rw [← Hf.out]; rfl, rfl⟩
theorem within_nat (a : Int) (n : Nat) (hn : 0 < n) (hn2 : n ≤ 2147483647) (ha : -9223372036854775808 ≤ a ∧ a ≤ 9223372036854775807) : ∃ j : Nat, j < n ∧ ∀ w, Calls Tryz.prog 9 #[.int .i64 a, .int .i64 n] w fun e w' => e = .returned (.int .i64 j) ∧ w = w' := by
  refine ⟨(a % n).toNat, by have := Int.emod_lt_of_pos a (show (0 : Int) < n by omega); have := Int.emod_nonneg a (show (n : Int) ≠ 0 by omega); omega, fun w => ?_⟩
  rw [Int.toNat_of_nonneg (Int.emod_nonneg a (by omega))]
  exact within_any a n (by omega) (by omega) ha w

theorem text_of (T : Tr) (b : ByteArray) (hb : Pt.ba T.text = b) (hs : T.size ≤ 1000) (hl : T.text.length ≤ 1000) (W : World) (A : Option Addr) (n c : Nat) (h : Holds W W.heap.size A n T) :
    Calls Tryz.prog 24 #[.slice A n c] W fun e w' => e = .returned (.string b) ∧ Below W.heap.size W w' :=
  (Pt.rtext_any T.size T A n c W.heap.size W (Nat.le_refl _) h (Nat.le_refl _) (by omega) (by omega)).mono fun _ _ ⟨e, q, hw⟩ => ⟨by rw [e, hb], hw ▸ below_drewN (Below.refl _ _) q⟩

set_option maxHeartbeats 2000000 in
theorem known_any (w : World) (hG : Gl w) : Calls Tryz.prog 6 #[] w fun e w' => e = .returned (.bool true) ∧ Below w.heap.size w w' := by
  have hl := load_any ⟨#[107, 101, 121, 44, 97, 10, 120, 44, 49, 10]⟩ w (plB_pl pl_kn) hG
  rw [show readF (ByteArray.mk #[107, 101, 121, 44, 97, 10, 120, 44, 49, 10]).data.toList = (T1, 0, 0) from rd_kn] at hl
  have HL := Lib.hid hl
  have HT := Lib.hid (fun (W : World) (A : Option Addr) (n c : Nat) (h : Holds W W.heap.size A n T1) => text_of T1 _ tx_T1 (by decide) (by decide) W A n c h)
  clear hl
  go_enter Tryz.func6, Tryz.ntmps6
  go_wp2_with fail
  (with_reducible refine HL.out.mono ?_)
  rintro e w1 ⟨At, ct, rfl, hh, hc, hb⟩
  have hh1 := hh.to (B := w1.heap.size) (fun b hb => hb.2)
  have HH := Lib.hid (fun W (hW : Below w1.heap.size w1 W) => HT.out W At T1.len ct ((hh1.keep (w' := W) fun p hp => hW.cell hp).more hW.size))
  have HB := Lib.hid hb
  clear hh hh1 hc hb
  go_wp2_with fail
  (with_reducible refine (HH.out _ (Below.refl _ _)).mono ?_)
  rintro e v1 ⟨rfl, f1⟩
  go_wp2_with fail
  go_ret
  exact ⟨rfl, HB.out.trans (f1.mono HB.out.size)⟩
end Go.Proofs.YtkgpjohfkfbfhaaGreatDoor.Cv
