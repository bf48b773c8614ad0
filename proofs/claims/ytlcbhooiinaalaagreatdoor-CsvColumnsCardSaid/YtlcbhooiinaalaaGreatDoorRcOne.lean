/- The reference's field of csv: what stands at a place of a line. Conditions: lines of at most 4000 bytes. -/
import Derived.Test.YtlcbhooiinaalaaGreatDoorMwRcRows
import Derived.Test.YtlcbhooiinaalaaGreatDoorMwRQuote
import Derived.Deep.RegionHeld3
import Derived.Deep.RegionWith
namespace Go.Proofs.YtlcbhooiinaalaaGreatDoor.Cv
open Go.RowKit Go.Proofs.YtlcbhooiinaalaaGreatDoor.Jd Go.Proofs.YtlcbhooiinaalaaGreatDoor.Li Go.Proofs.YtlcbhooiinaalaaGreatDoor.Pt
set_option maxRecDepth 100000

/-- What one answers. -/
def OneP (s : ByteArray) (a : Nat) (o : Option (Bs × Nat)) (e : Ending) : Prop :=
  match o with
  | none => e = .returned (.tuple #[.agg #[.string ⟨#[]⟩, .string ⟨#[]⟩], .int .i64 0, .bool false])
  | some (v, n) => e = .returned (.tuple #[.agg #[.string (s.extract a (a + n)), .string ⟨v.toArray⟩], .int .i64 ((a + n : Nat) : Int), .bool true])
theorem one_plain {l : Bs} (h : ∀ c r, l = c :: r → c ≠ 34) : oneF l = (pln l).map fun n => (l.take n, n) := by
  cases l with
  | nil => rfl
  | cons c r => rw [oneF, if_neg (h c r rfl)]
theorem ext_mk (s : ByteArray) (a n : Nat) : (⟨((s.data.toList.drop a).take n).toArray⟩ : ByteArray) = s.extract a (a + n) := by
  apply bytes_eq
  rw [ByteArray.toList_eq, ByteArray.toList_eq, Lib.extract_data, Nat.add_sub_cancel_left]
theorem below_drew {B : Nat} {u v : World} (h : Below B u v) : Below B u v.drew := ⟨h.os, h.tape, h.output, h.size, h.block⟩
theorem cell1 (w : World) (a b : Value) (t : TypeId) : (w.alloc (Obj.cells #[a, b] t)).cell? ⟨w.heap.size, 0, none⟩ = some a ∧ (w.alloc (Obj.cells #[a, b] t)).cell? ⟨w.heap.size, 1, none⟩ = some b :=
  ⟨by rw [cell_of_row _ _ _ _ _ _ (heap_alloc_new w _)]; rfl, by rw [cell_of_row _ _ _ _ _ _ (heap_alloc_new w _)]; rfl⟩

set_option maxHeartbeats 4000000 in
theorem one_any (s : ByteArray) (a : Nat) (w : World) (hz : s.size ≤ 4000) (ha : a ≤ s.size) :
    Calls Tryz.prog 84 #[.string s, .int .i64 a] w fun e w' => OneP s a (oneF (s.data.toList.drop a)) e ∧ Below w.heap.size w w' := by
  obtain ⟨W1, hW1⟩ : ∃ W1, W1 = w.alloc (Obj.cells #[.string ⟨#[]⟩, .string ⟨#[]⟩] 86) := ⟨_, rfl⟩
  have hc := cell1 w (.string ⟨#[]⟩) (.string ⟨#[]⟩) 86
  rw [← hW1] at hc
  obtain ⟨hc0, hc1⟩ := hc
  have hb1 : Below w.heap.size w W1 := by rw [hW1]; exact (Below.refl _ _).alloc (Nat.le_refl _) _
  have HB1 := Lib.hid hb1
  have ha0 : (0 : Int) ≤ (a : Int) := by omega
  obtain ⟨R, hR⟩ : ∃ R, R = oneF (s.data.toList.drop a) := ⟨_, rfl⟩
  rw [← hR]
  clear hb1
  by_cases hq : ∀ c r, s.data.toList.drop a = c :: r → c ≠ 34
  · rw [one_plain hq] at hR
    have HR := Lib.hid hR
    have hfirst : (s.size : Int) ≤ (a : Int) ∨ ∃ h : a < s.size, ((s[a].toNat : Int) != 34) = true := by
      by_cases hlt : a < s.size
      · right
        refine ⟨hlt, ?_⟩
        have := hq _ _ (drop_at hlt)
        have n34 : s[a].toNat ≠ 34 := ne_toNat (by decide) this
        exact bne_iff_ne.2 (by omega)
      · left; omega
    clear hq hR
    have hfirst2 : ((s.size : Int) ≤ (a : Int)) ∨ ((a : Int) < (s.size : Int) ∧ ∃ h : a < s.size, ((s[a].toNat : Int) != 34) = true) := by
      rcases hfirst with h | ⟨h, h2⟩
      · exact .inl h
      · exact .inr ⟨by omega, h, h2⟩
    clear hfirst
    rcases hfirst2 with hf | ⟨hai, hlt, hf⟩
    all_goals
      go_enter Tryz.func84, Tryz.ntmps84
      go_wp2_with fail
      go_loopw [7] (fun i wr => ∃ (k : Nat), a ≤ k ∧ k ≤ s.size ∧ i = .int .i64 k ∧ Hid (R = (pln (s.data.toList.drop k)).map fun n => ((s.data.toList.drop a).take (k - a + n), k - a + n)) ∧ wr = W1) (fun i _ => s.size - (intOf i).toNat)
    case atStart => exact ⟨a, Nat.le_refl _, ha, rfl, Lib.hid (by rw [HR.out, Nat.sub_self]; simp only [Nat.zero_add]), hW1.symm⟩
    case atStart => exact ⟨a, Nat.le_refl _, ha, rfl, Lib.hid (by rw [HR.out, Nat.sub_self]; simp only [Nat.zero_add]), hW1.symm⟩
    case round =>
      obtain ⟨k, hak, hk, rfl, HR2, rfl⟩ := hrel
      have hk0 : (0 : Int) ≤ (k : Int) := by omega
      have hak' : (a : Int) ≤ (k : Int) := by omega
      have hks' : (k : Int) ≤ (s.size : Int) := by omega
      have hx : s.extract a (a + (k - a)) = s.extract a k := by rw [show a + (k - a) = k by omega]
      have hm : (⟨((s.data.toList.drop a).take (k - a)).toArray⟩ : ByteArray) = s.extract a k := by rw [ext_mk, hx]
      have hkk : ((a + (k - a) : Nat) : Int) = (k : Int) := by omega
      have hlt2 : s.size ≤ k := by omega
      · obtain rfl : k = s.size := by omega
        have hrel := HR2.out
        rw [drop_end, pln] at hrel
        have HR3 : Hid (OneP s a R (.returned (.tuple #[.agg #[.string (s.extract a s.size), .string (s.extract a s.size)], .int .i64 (s.size : Int), .bool true]))) := Lib.hid (by rw [hrel]; show _ = _; rw [Nat.add_zero, hx, hm, hkk])
        clear hrel HR2 hak hx hm hkk hlt2
        go_wp2_with fail
        go_region_held3 (fun _ => True) (trivial) (fail)
        go_wp2_with fail
        refine bodyPost_ret (v := .tuple #[.agg #[.string (s.extract a s.size), .string (s.extract a s.size)], .int .i64 (s.size : Int), .bool true]) (by simp [results, Tryz.results84, go_sem]) rfl ?_
        exact ⟨HR3.out, below_drew ((Below.refl _ _).alloc (Nat.le_refl _) _)⟩
    case round =>
      obtain ⟨k, hak, hk, rfl, HR2, rfl⟩ := hrel
      have hk0 : (0 : Int) ≤ (k : Int) := by omega
      have hak' : (a : Int) ≤ (k : Int) := by omega
      have hks' : (k : Int) ≤ (s.size : Int) := by omega
      have hx : s.extract a (a + (k - a)) = s.extract a k := by rw [show a + (k - a) = k by omega]
      have hm : (⟨((s.data.toList.drop a).take (k - a)).toArray⟩ : ByteArray) = s.extract a k := by rw [ext_mk, hx]
      have hkk : ((a + (k - a) : Nat) : Int) = (k : Int) := by omega
      by_cases hlt2 : k < s.size
      · have hkn : (k : Int) < (s.size : Int) := by omega
        have hrel := HR2.out
        rw [drop_at hlt2, pln] at hrel
        by_cases h44 : s[k] = 44
        · have q1 : ((s[k].toNat : Int) != 44) = false := by rw [h44]; rfl
          rw [if_pos h44] at hrel
          have HR3 : Hid (OneP s a R (.returned (.tuple #[.agg #[.string (s.extract a k), .string (s.extract a k)], .int .i64 (k : Int), .bool true]))) := Lib.hid (by rw [hrel]; show _ = _; rw [Nat.add_zero, hx, hm, hkk])
          clear hrel HR2 h44 hak hx hm hkk
          go_wp2_with fail
          go_region_held3 (fun _ => True) (trivial) (fail)
          go_wp2_with fail
          refine bodyPost_ret (v := .tuple #[.agg #[.string (s.extract a k), .string (s.extract a k)], .int .i64 (k : Int), .bool true]) (by simp [results, Tryz.results84, go_sem]) rfl ?_
          exact ⟨HR3.out, below_drew ((Below.refl _ _).alloc (Nat.le_refl _) _)⟩
        · have q1 : ((s[k].toNat : Int) != 44) = true := bne_iff_ne.2 (by have := ne_toNat (n := 44) (by decide) h44; omega)
          rw [if_neg h44] at hrel
          by_cases h34 : s[k] = 34
          · have q2 : ((s[k].toNat : Int) == 34) = true := by rw [h34]; rfl
            rw [if_pos h34] at hrel
            have HR3 : Hid (OneP s a R (.returned (.tuple #[.agg #[.string ⟨#[]⟩, .string ⟨#[]⟩], .int .i64 0, .bool false]))) := Lib.hid (by rw [hrel]; rfl)
            clear hrel HR2 h44 h34 hak hx hm hkk
            go_wp2_with fail
            refine bodyPost_ret (v := .tuple #[.agg #[.string ⟨#[]⟩, .string ⟨#[]⟩], .int .i64 0, .bool false]) (by simp [results, Tryz.results84, go_sem]) rfl ?_
            exact ⟨HR3.out, ((Below.refl _ _).alloc (Nat.le_refl _) _)⟩
          · have q2 : ((s[k].toNat : Int) == 34) = false := beq_eq_false_iff_ne.2 (by have := ne_toNat (n := 34) (by decide) h34; omega)
            rw [if_neg h34, Option.map_map] at hrel
            have HR3 : Hid (R = (pln (s.data.toList.drop (k + 1))).map fun n => ((s.data.toList.drop a).take (k + 1 - a + n), k + 1 - a + n)) := Lib.hid (by
              rw [hrel]
              congr 1
              funext n
              simp only [Function.comp_def]
              rw [show k - a + (n + 1) = k + 1 - a + n by omega])
            have Hak := Lib.hid hak
            have Hlt := Lib.hid hlt2
            clear hrel HR2 h44 h34 hak hx hm hkk
            go_wp2_with fail
            go_roundw
            case rel => exact ⟨k + 1, Nat.le_succ_of_le Hak.out, Hlt.out, by go_num, HR3, hW1.symm⟩
            case measure => have := Hlt.out; simp [intOf]; omega
      · obtain rfl : k = s.size := by omega
        have hrel := HR2.out
        rw [drop_end, pln] at hrel
        have HR3 : Hid (OneP s a R (.returned (.tuple #[.agg #[.string (s.extract a s.size), .string (s.extract a s.size)], .int .i64 (s.size : Int), .bool true]))) := Lib.hid (by rw [hrel]; show _ = _; rw [Nat.add_zero, hx, hm, hkk])
        clear hrel HR2 hak hx hm hkk hlt2
        go_wp2_with fail
        go_region_held3 (fun _ => True) (trivial) (fail)
        go_wp2_with fail
        refine bodyPost_ret (v := .tuple #[.agg #[.string (s.extract a s.size), .string (s.extract a s.size)], .int .i64 (s.size : Int), .bool true]) (by simp [results, Tryz.results84, go_sem]) rfl ?_
        exact ⟨HR3.out, below_drew ((Below.refl _ _).alloc (Nat.le_refl _) _)⟩
  · have hq2 : ∃ h : a < s.size, s[a] = 34 := by
      by_cases hlt : a < s.size
      · refine ⟨hlt, Classical.byContradiction fun h34 => hq fun c r e => ?_⟩
        rw [drop_at hlt] at e
        injection e with e1 _
        rw [← e1]
        exact h34
      · exfalso
        apply hq
        intro c r e
        rw [List.drop_of_length_le (show s.data.toList.length ≤ a by have : s.data.toList.length = s.size := rfl; omega)] at e
        cases e
    obtain ⟨hlt, h34⟩ := hq2
    rw [drop_at hlt, h34, oneF, if_pos rfl] at hR
    have HR := Lib.hid hR
    have q0 : ((s[a].toNat : Int) != 34) = false := by rw [h34]; rfl
    have hai : (a : Int) < (s.size : Int) := by omega
    have hna : ¬ s.size ≤ a := by omega
    clear hq h34 hR
    go_enter Tryz.func84, Tryz.ntmps84
    go_wp2_with fail
    go_loopw [8, 9] (fun v i wr => ∃ (k : Nat) (V : ByteArray), a + 1 ≤ k ∧ k ≤ s.size ∧ v = .string V ∧ i = .int .i64 k ∧ V.size ≤ k ∧ Hid (R = (qin (s.data.toList.drop k)).map fun p => (V.data.toList ++ p.1, p.2 + (k - a))) ∧ wr = W1) (fun _ i _ => s.size - (intOf i).toNat)
    case atStart => exact ⟨a + 1, ⟨#[]⟩, Nat.le_refl _, hlt, rfl, by go_num, Nat.zero_le _, Lib.hid (by rw [HR.out, show a + 1 - a = 1 by omega]; rfl), hW1.symm⟩
    case round =>
      obtain ⟨k, V, hak, hk, rfl, rfl, hV, HR2, rfl⟩ := hrel
      have hk0 : (0 : Int) ≤ (k : Int) := by omega
      have hrel := HR2.out
      by_cases hlt2 : k < s.size
      · have hkn : (k : Int) < (s.size : Int) := by omega
        rw [drop_at hlt2] at hrel
        by_cases h34 : s[k] = 34
        · have q1 : ((s[k].toNat : Int) != 34) = false := by rw [h34]; rfl
          rw [h34] at hrel
          by_cases hn : k + 1 < s.size
          · have hkn2 : (k : Int) + 1 < (s.size : Int) := by omega
            rw [drop_at hn, qin, if_pos rfl] at hrel
            by_cases h34b : s[k + 1] = 34
            · rw [if_pos h34b, Option.map_map] at hrel
              have q2 : ((s[k + 1].toNat : Int) == 34) = true := by rw [h34b]; rfl
              have hadd := fun W => run_string_add_sum (P := Tryz.prog) W V ⟨#[34]⟩ (by have : (ByteArray.mk #[34]).size = 1 := rfl; omega)
              obtain ⟨O, hO⟩ : ∃ x, x = V ++ ⟨#[34]⟩ := ⟨_, rfl⟩
              rw [← hO] at hadd
              have hOs : O.size ≤ k + 2 := by rw [hO, ByteArray.size_append]; have : (ByteArray.mk #[34]).size = 1 := rfl; omega
              have HR3 : Hid (R = (qin (s.data.toList.drop (k + 2))).map fun p => (O.data.toList ++ p.1, p.2 + (k + 2 - a))) := Lib.hid (by
                rw [hrel]
                congr 1
                funext p
                simp only [Function.comp_def]
                rw [hO, app_list, show p.2 + 2 + (k - a) = p.2 + (k + 2 - a) by omega]
                simp)
              have Hak := Lib.hid hak
              have Hn := Lib.hid hn
              clear hrel HR2 h34 h34b hak hO hV
              go_wp2_with fail
              go_roundw
              case rel => exact ⟨k + 2, O, by have := Hak.out; omega, Hn.out, rfl, by go_num, hOs, HR3, hW1.symm⟩
              case measure => have := Hn.out; simp [intOf]; omega
            · rw [if_neg h34b] at hrel
              have q2 : ((s[k + 1].toNat : Int) == 34) = false := beq_eq_false_iff_ne.2 (by have := ne_toNat (n := 34) (by decide) h34b; omega)
              by_cases h44 : s[k + 1] = 44
              · have q3 : ((s[k + 1].toNat : Int) != 44) = false := by rw [h44]; rfl
                rw [if_pos h44] at hrel
                have HR3 : Hid (OneP s a R (.returned (.tuple #[.agg #[.string (s.extract a (k + 1)), .string V], .int .i64 ((k : Int) + 1), .bool true]))) := Lib.hid (by
                  rw [hrel]
                  show _ = _
                  rw [show a + (1 + (k - a)) = k + 1 by omega]
                  simp)
                have e1 : (a : Int) ≤ (k : Int) + 1 := by omega
                have e2 : (k : Int) + 1 ≤ (s.size : Int) := by omega
                have e3 : ((k : Int) + 1).toNat = k + 1 := by omega
                clear hrel HR2 h34 h34b h44 hak hV
                go_wp2_with fail
                refine bodyPost_ret (v := .tuple #[.agg #[.string (s.extract a (k + 1)), .string V], .int .i64 ((k : Int) + 1), .bool true]) (by simp [results, Tryz.results84, go_sem]) rfl ?_
                exact ⟨HR3.out, ((Below.refl _ _).alloc (Nat.le_refl _) _)⟩
              · have q3 : ((s[k + 1].toNat : Int) != 44) = true := bne_iff_ne.2 (by have := ne_toNat (n := 44) (by decide) h44; omega)
                rw [if_neg h44] at hrel
                have HR3 : Hid (OneP s a R (.returned (.tuple #[.agg #[.string ⟨#[]⟩, .string ⟨#[]⟩], .int .i64 0, .bool false]))) := Lib.hid (by rw [hrel]; rfl)
                clear hrel HR2 h34 h34b h44 hak hV
                go_wp2_with fail
                refine bodyPost_ret (v := .tuple #[.agg #[.string ⟨#[]⟩, .string ⟨#[]⟩], .int .i64 0, .bool false]) (by simp [results, Tryz.results84, go_sem]) rfl ?_
                exact ⟨HR3.out, ((Below.refl _ _).alloc (Nat.le_refl _) _)⟩
          · have hkn2 : ¬ (k : Int) + 1 < (s.size : Int) := by omega
            have hks : s.size = k + 1 := by omega
            rw [List.drop_of_length_le (show s.data.toList.length ≤ k + 1 by have : s.data.toList.length = s.size := rfl; omega), qin, if_pos rfl] at hrel
            have HR3 : Hid (OneP s a R (.returned (.tuple #[.agg #[.string (s.extract a (k + 1)), .string V], .int .i64 ((k : Int) + 1), .bool true]))) := Lib.hid (by
              rw [hrel]
              show _ = _
              rw [show a + (1 + (k - a)) = k + 1 by omega]
              simp)
            have e1 : (a : Int) ≤ (k : Int) + 1 := by omega
            have e2 : (k : Int) + 1 ≤ (s.size : Int) := by omega
            have e3 : ((k : Int) + 1).toNat = k + 1 := by omega
            clear hrel HR2 h34 hak hn hV hks
            go_wp2_with fail
            refine bodyPost_ret (v := .tuple #[.agg #[.string (s.extract a (k + 1)), .string V], .int .i64 ((k : Int) + 1), .bool true]) (by simp [results, Tryz.results84, go_sem]) rfl ?_
            exact ⟨HR3.out, ((Below.refl _ _).alloc (Nat.le_refl _) _)⟩
        · have q1 : ((s[k].toNat : Int) != 34) = true := bne_iff_ne.2 (by have := ne_toNat (n := 34) (by decide) h34; omega)
          rw [qin_other h34, Option.map_map] at hrel
          have hx1 := extract_one s k hlt2
          have hxz := extract_one_size s k hlt2
          have hadd := fun W => run_string_add_sum (P := Tryz.prog) W V (s.extract k (k + 1)) (by omega)
          obtain ⟨O, hO⟩ : ∃ x, x = V ++ s.extract k (k + 1) := ⟨_, rfl⟩
          rw [← hO] at hadd
          have hOs : O.size ≤ k + 1 := by rw [hO, ByteArray.size_append, hxz]; omega
          have HR3 : Hid (R = (qin (s.data.toList.drop (k + 1))).map fun p => (O.data.toList ++ p.1, p.2 + (k + 1 - a))) := Lib.hid (by
            rw [hrel]
            congr 1
            funext p
            simp only [Function.comp_def]
            rw [hO, app_list, hx1, show p.2 + 1 + (k - a) = p.2 + (k + 1 - a) by omega]
            simp)
          have e1 : (k : Int) ≤ (k : Int) + 1 := by omega
          have e2 : (k : Int) + 1 ≤ (s.size : Int) := by omega
          have e3 : ((k : Int) + 1).toNat = k + 1 := by omega
          have Hak := Lib.hid hak
          have Hlt := Lib.hid hlt2
          clear hrel HR2 h34 hak hO hx1 hxz hV
          go_wp2_with fail
          go_roundw
          case rel => exact ⟨k + 1, O, by have := Hak.out; omega, Hlt.out, rfl, by go_num, hOs, HR3, hW1.symm⟩
          case measure => have := Hlt.out; simp [intOf]; omega
      · obtain rfl : k = s.size := by omega
        rw [drop_end, qin] at hrel
        have HR3 : Hid (OneP s a R (.returned (.tuple #[.agg #[.string ⟨#[]⟩, .string ⟨#[]⟩], .int .i64 0, .bool false]))) := Lib.hid (by rw [hrel]; rfl)
        clear hrel HR2 hak hlt2 hV
        go_wp2_with fail
        refine bodyPost_ret (v := .tuple #[.agg #[.string ⟨#[]⟩, .string ⟨#[]⟩], .int .i64 0, .bool false]) (by simp [results, Tryz.results84, go_sem]) rfl ?_
        exact ⟨HR3.out, ((Below.refl _ _).alloc (Nat.le_refl _) _)⟩
end Go.Proofs.YtlcbhooiinaalaaGreatDoor.Cv
