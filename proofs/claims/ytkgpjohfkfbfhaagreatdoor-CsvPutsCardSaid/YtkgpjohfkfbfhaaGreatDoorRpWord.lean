/- The reference's written of csv: a field, anew; and what a row says of a column. Conditions: texts of at most 4000 bytes. -/
import Derived.Test.YtkgpjohfkfbfhaaGreatDoorMwRcOne
import Derived.Test.YtkgpjohfkfbfhaaGreatDoorMwRtRows
import Derived.Test.YtkgpjohfkfbfhaaGreatDoorMwRQuote
namespace Go.Proofs.YtkgpjohfkfbfhaaGreatDoor.Cv
open Go.RowKit Go.Proofs.YtkgpjohfkfbfhaaGreatDoor.Jd Go.Proofs.YtkgpjohfkfbfhaaGreatDoor.Li Go.Proofs.YtkgpjohfkfbfhaaGreatDoor.Pt
set_option maxRecDepth 100000

theorem rq_app : ∀ (a b : Bs), rq (a ++ b) = rq a ++ rq b
  | [], _ => rfl
  | c :: a, b => by
    rw [List.cons_append, rq, rq, rq_app a b]
    split <;> rfl
def oddB (l : Bs) : Bool := l.any fun c => c == 44 || c == 34
theorem qF_odd (l : Bs) : qF l = if oddB l = true then [34] ++ rq l ++ [34] else l := by
  rw [qF, replaceAll_rq, any_mem]
  have e : (l.any fun c => ([34, 44] : List UInt8).contains c) = oddB l := by
    unfold oddB
    congr 1
    funext c
    simp only [List.contains, List.elem]
    cases c == 34 <;> cases c == 44 <;> rfl
  rw [e]
theorem take_one {l : Bs} {k : Nat} {c : UInt8} (h : l[k]? = some c) : l.take (k + 1) = l.take k ++ [c] := by
  rw [List.take_add_one, h]; rfl
theorem list_at {s : ByteArray} {k : Nat} (h : k < s.size) : s.data.toList[k]? = some s[k] := by
  rw [List.getElem?_eq_getElem (show k < s.data.toList.length from h)]
  rfl
theorem mkB_of {x : ByteArray} {l : Bs} (h : x.data.toList = l) : x = mkB l := by rw [← h, mkB_list]

set_option maxHeartbeats 4000000 in
theorem written_any (s : ByteArray) (w : World) (hz : s.size ≤ 4000) : Calls Tryz.prog 40 #[.string s] w fun e w' => e = .returned (.string (mkB (qF s.data.toList))) ∧ w = w' := by
  have hsl : s.data.toList.length = s.size := rfl
  go_enter Tryz.func40, Tryz.ntmps40
  go_wp2_with fail
  go_loopw [3, 4, 5] (fun o d i wr => ∃ (k : Nat) (x : ByteArray) (v : Bool), k ≤ s.size ∧ o = .string x ∧ d = .bool v ∧ i = .int .i64 k ∧ x.size ≤ 2 * k ∧ Hid (x.data.toList = rq (s.data.toList.take k)) ∧ Hid (v = oddB (s.data.toList.take k)) ∧ Hid (wr = w)) (fun _ _ i _ => s.size - (intOf i).toNat)
  case atStart => exact ⟨0, ⟨#[]⟩, false, Nat.zero_le _, rfl, rfl, rfl, Nat.zero_le _, Lib.hid rfl, Lib.hid rfl, Lib.hid rfl⟩
  case round =>
    obtain ⟨k, x, v, hk, rfl, rfl, rfl, hx, HX, HV, HW⟩ := hrel
    obtain rfl : wr = w := HW.out
    have hk0 : (0 : Int) ≤ (k : Int) := by omega
    by_cases hlt : k < s.size
    · have hkn : (k : Int) < (s.size : Int) := by omega
      have e0 : (k : Int) ≤ (k : Int) + 1 := by omega
      have e1 : (k : Int) + 1 ≤ (s.size : Int) := by omega
      have e3 : ((k : Int) + 1).toNat = k + 1 := by omega
      have hta := take_one (list_at hlt)
      have hod : oddB (s.data.toList.take (k + 1)) = (oddB (s.data.toList.take k) || (s[k] == 44 || s[k] == 34)) := by rw [hta]; simp [oddB]
      have hex := extract_one s k hlt
      have hes := extract_one_size s k hlt
      have hadd := fun W => run_string_add_sum (P := Tryz.prog) W x (s.extract k (k + 1)) (by omega)
      obtain ⟨O, hO⟩ : ∃ z, z = x ++ s.extract k (k + 1) := ⟨_, rfl⟩
      rw [← hO] at hadd
      have hOl : O.data.toList = rq (s.data.toList.take k) ++ [s[k]] := by rw [hO, app_list, HX.out, hex]
      have hOz : O.size = x.size + 1 := by rw [hO, ByteArray.size_append, hes]
      by_cases h34 : s[k] = 34
      · have q34 : ((s[k].toNat : Int) == 34) = true := by rw [h34]; rfl
        have q44 : ((s[k].toNat : Int) == 44) = false := by rw [h34]; rfl
        have hadd2 := fun W => run_string_add_sum (P := Tryz.prog) W O ⟨#[34]⟩ (by have : (ByteArray.mk #[34]).size = 1 := rfl; omega)
        obtain ⟨O2, hO2⟩ : ∃ z, z = O ++ ⟨#[34]⟩ := ⟨_, rfl⟩
        rw [← hO2] at hadd2
        have HX2 : Hid (O2.data.toList = rq (s.data.toList.take (k + 1))) := Lib.hid (by
          rw [hO2, app_list, hOl, hta, rq_app, h34, List.append_assoc]
          rfl)
        have hO2z : O2.size ≤ 2 * (k + 1) := by rw [hO2, ByteArray.size_append]; have : (ByteArray.mk #[34]).size = 1 := rfl; omega
        have HV2 : Hid (true = oddB (s.data.toList.take (k + 1))) := Lib.hid (by rw [hod, h34]; simp)
        have Hlt := Lib.hid hlt
        clear HX HV hta hod hex hes hO hOl hOz hO2 h34 hx hsl
        cases v
        all_goals
          go_wp2_with fail
          go_roundw
          case rel => exact ⟨k + 1, O2, true, Hlt.out, rfl, rfl, by go_num, hO2z, HX2, HV2, by first | exact Lib.hid rfl | exact Lib.hid trivial⟩
          case measure => have := Hlt.out; simp [intOf]; omega
      · have n34 : s[k].toNat ≠ 34 := ne_toNat (by decide) h34
        have q34 : ((s[k].toNat : Int) == 34) = false := by rw [beq_eq_false_iff_ne]; omega
        have HX2 : Hid (O.data.toList = rq (s.data.toList.take (k + 1))) := Lib.hid (by
          rw [hOl, hta, rq_app]
          congr 1
          rw [rq, if_neg h34]
          rfl)
        have hO2z : O.size ≤ 2 * (k + 1) := by omega
        have hb34 : (s[k] == (34 : UInt8)) = false := beq_eq_false_iff_ne.2 h34
        by_cases h44 : s[k] = 44
        · have q44 : ((s[k].toNat : Int) == 44) = true := by rw [h44]; rfl
          have HV2 : Hid (true = oddB (s.data.toList.take (k + 1))) := Lib.hid (by rw [hod, h44]; simp)
          have Hlt := Lib.hid hlt
          clear HX HV hta hod hex hes hO hOl hOz h34 n34 h44 hb34 hx hsl
          cases v
          all_goals
            go_wp2_with fail
            go_roundw
            case rel => exact ⟨k + 1, O, true, Hlt.out, rfl, rfl, by go_num, hO2z, HX2, HV2, by first | exact Lib.hid rfl | exact Lib.hid trivial⟩
            case measure => have := Hlt.out; simp [intOf]; omega
        · have n44 : s[k].toNat ≠ 44 := ne_toNat (by decide) h44
          have q44 : ((s[k].toNat : Int) == 44) = false := by rw [beq_eq_false_iff_ne]; omega
          have hb44 : (s[k] == (44 : UInt8)) = false := beq_eq_false_iff_ne.2 h44
          have HV2 : Hid (v = oddB (s.data.toList.take (k + 1))) := Lib.hid (by rw [hod, hb44, hb34, HV.out]; simp)
          have Hlt := Lib.hid hlt
          clear HX HV hta hod hex hes hO hOl hOz h34 n34 h44 n44 hb34 hb44 hx hsl
          cases v
          all_goals
            go_wp2_with fail
            go_roundw
            case rel => exact ⟨k + 1, O, _, Hlt.out, rfl, rfl, by go_num, hO2z, HX2, HV2, by first | exact Lib.hid rfl | exact Lib.hid trivial⟩
            case measure => have := Hlt.out; simp [intOf]; omega
    · have hkn : ¬ (k : Int) < (s.size : Int) := by omega
      have hta : s.data.toList.take k = s.data.toList := List.take_of_length_le (by omega)
      have hQ := qF_odd s.data.toList
      have hX := HX.out
      have hV := HV.out
      rw [hta] at hX hV
      rw [← hV, ← hX] at hQ
      cases v with
      | true =>
        rw [if_pos rfl] at hQ
        have hadd := fun W => run_string_add_sum (P := Tryz.prog) W ⟨#[34]⟩ x (by have : (ByteArray.mk #[34]).size = 1 := rfl; omega)
        obtain ⟨O, hO⟩ : ∃ z, z = ⟨#[34]⟩ ++ x := ⟨_, rfl⟩
        rw [← hO] at hadd
        have hOz : O.size = 1 + x.size := by rw [hO, ByteArray.size_append]; rfl
        have hadd2 := fun W => run_string_add_sum (P := Tryz.prog) W O ⟨#[34]⟩ (by have : (ByteArray.mk #[34]).size = 1 := rfl; omega)
        obtain ⟨O2, hO2⟩ : ∃ z, z = O ++ ⟨#[34]⟩ := ⟨_, rfl⟩
        rw [← hO2] at hadd2
        have HR : Hid (O2 = mkB (qF s.data.toList)) := Lib.hid (mkB_of (by rw [hQ, hO2, app_list, hO, app_list]))
        clear HX HV hta hQ hX hV hO hOz hO2 hx hsl hlt
        go_wp2_with fail
        go_ret
        exact ⟨by rw [HR.out]; rfl, rfl⟩
      | false =>
        rw [if_neg (by decide)] at hQ
        have HR : Hid (s = mkB (qF s.data.toList)) := Lib.hid (mkB_of hQ.symm)
        clear HX HV hta hQ hX hV hx hsl hlt
        go_wp2_with fail
        go_ret
        exact ⟨by rw [← HR.out]; rfl, rfl⟩

set_option maxHeartbeats 4000000 in
theorem cell_any (t : Tr) (A : Option Addr) (n c : Nat) (col : ByteArray) (w : World) (h : Holds w w.heap.size A n t) (ha : t.Asc) (hf : allT fcB t = true) (hn : n ≤ 1000000) :
    Calls Tryz.prog 72 #[.slice A n c, .string col] w fun e w' => e = .returned (.string (valF t col)) ∧ Below w.heap.size w w' := by
  have HK := Lib.hid (kid2_any t A n c w.heap.size col w h (Nat.le_refl _) (by omega))
  obtain ⟨f1, f2⟩ := valF_is ha hf col
  clear h ha hf
  cases hc : t.atIs col with
  | false =>
    rw [hc] at HK
    have HV := Lib.hid (f2 hc)
    clear hc f1 f2
    go_enter Tryz.func72, Tryz.ntmps72
    go_wp2_with fail
    (with_reducible refine HK.out.mono ?_)
    rintro e w1 ⟨A', n', c', rfl, _, _, _, q, rfl⟩
    go_wp2_with fail
    go_ret
    exact ⟨by rw [HV.out]; rfl, below_drewN (Below.refl _ _) _⟩
  | true =>
    obtain ⟨hk, _⟩ := f1 hc
    rw [hc, hk] at HK
    obtain ⟨v, hv⟩ : ∃ v, v = valF t col := ⟨_, rfl⟩
    rw [← hv] at HK ⊢
    clear hc f1 f2 hk hv
    go_enter Tryz.func72, Tryz.ntmps72
    go_wp2_with fail
    (with_reducible refine HK.out.mono ?_)
    rintro e w1 ⟨A', n', c', rfl, ⟨b, o, rfl, hb, hs, _, m, rfl, hm⟩, _, _, q, rfl⟩
    have hm0 : m = 0 := hm
    subst hm0
    clear hm
    go_wp2_with fail
    go_ret
    exact ⟨rfl, below_drewN (Below.refl _ _) _⟩
end Go.Proofs.YtkgpjohfkfbfhaaGreatDoor.Cv
