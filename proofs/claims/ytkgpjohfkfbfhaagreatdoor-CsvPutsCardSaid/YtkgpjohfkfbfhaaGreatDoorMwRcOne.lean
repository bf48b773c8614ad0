/- The reference's field of csv: what stands at a place of a line. Conditions: lines of at most 4000 bytes. · The reference's fields of a line of csv. Conditions: lines of at most 4000 bytes. · The reference's head of csv: what is wrong with it. Conditions: it has a field; names below 2^47 bytes. · The reference's record of csv: what is wrong with it. Conditions: it has a field; names below 2^47 bytes. -/
import Derived.Test.YtkgpjohfkfbfhaaGreatDoorMwRtPutR
import Derived.Test.YtkgpjohfkfbfhaaGreatDoorMwRQuote
import Derived.Deep.RegionHeld3
import Derived.Deep.RegionWith
namespace Go.Proofs.YtkgpjohfkfbfhaaGreatDoor.Cv
open Go.RowKit Go.Proofs.YtkgpjohfkfbfhaaGreatDoor.Jd Go.Proofs.YtkgpjohfkfbfhaaGreatDoor.Li Go.Proofs.YtkgpjohfkfbfhaaGreatDoor.Pt
set_option maxRecDepth 100000

/-- What one answers. -/
def OneP (s : ByteArray) (a : Nat) (o : Option (Bs × Nat)) (e : Ending) : Prop :=
  match o with
  | none => e = .returned (.tuple #[.agg #[.string ⟨#[]⟩, .string ⟨#[]⟩], .int .i64 0, .bool false])
  | some (v, n) => e = .returned (.tuple #[.agg #[.string (s.extract a (a + n)), .string ⟨v.toArray⟩], .int .i64 ((a + n : Nat) : Int), .bool true])
theorem one_plain {l : Bs} (h : ∀ c r, l = c :: r → c ≠ 34) : oneF l = (pln l).map fun n => (l.take n, n) := by
  cases l with
  | nil => rfl
  | cons c r => rw [oneF, if_neg (h c r rfl)]
theorem ext_mk (s : ByteArray) (a n : Nat) : (⟨((s.data.toList.drop a).take n).toArray⟩ : ByteArray) = s.extract a (a + n) := by
  apply bytes_eq
  rw [ByteArray.toList_eq, ByteArray.toList_eq, Lib.extract_data, Nat.add_sub_cancel_left]
theorem below_drew {B : Nat} {u v : World} (h : Below B u v) : Below B u v.drew := ⟨h.os, h.tape, h.output, h.size, h.block⟩
theorem cell1 (w : World) (a b : Value) (t : TypeId) : (w.alloc (Obj.cells #[a, b] t)).cell? ⟨w.heap.size, 0, none⟩ = some a ∧ (w.alloc (Obj.cells #[a, b] t)).cell? ⟨w.heap.size, 1, none⟩ = some b :=
  ⟨by rw [cell_of_row _ _ _ _ _ _ (heap_alloc_new w _)]; rfl, by rw [cell_of_row _ _ _ _ _ _ (heap_alloc_new w _)]; rfl⟩

set_option maxHeartbeats 4000000 in
theorem one_any (s : ByteArray) (a : Nat) (w : World) (hz : s.size ≤ 4000) (ha : a ≤ s.size) :
    Calls Tryz.prog 74 #[.string s, .int .i64 a] w fun e w' => OneP s a (oneF (s.data.toList.drop a)) e ∧ Below w.heap.size w w' := by
  obtain ⟨W1, hW1⟩ : ∃ W1, W1 = w.alloc (Obj.cells #[.string ⟨#[]⟩, .string ⟨#[]⟩] 84) := ⟨_, rfl⟩
  have hc := cell1 w (.string ⟨#[]⟩) (.string ⟨#[]⟩) 84
  rw [← hW1] at hc
  obtain ⟨hc0, hc1⟩ := hc
  have hb1 : Below w.heap.size w W1 := by rw [hW1]; exact (Below.refl _ _).alloc (Nat.le_refl _) _
  have HB1 := Lib.hid hb1
  have ha0 : (0 : Int) ≤ (a : Int) := by omega
  obtain ⟨R, hR⟩ : ∃ R, R = oneF (s.data.toList.drop a) := ⟨_, rfl⟩
  rw [← hR]
  clear hb1
  by_cases hq : ∀ c r, s.data.toList.drop a = c :: r → c ≠ 34
  · rw [one_plain hq] at hR
    have HR := Lib.hid hR
    have hfirst : (s.size : Int) ≤ (a : Int) ∨ ∃ h : a < s.size, ((s[a].toNat : Int) != 34) = true := by
      by_cases hlt : a < s.size
      · right
        refine ⟨hlt, ?_⟩
        have := hq _ _ (drop_at hlt)
        have n34 : s[a].toNat ≠ 34 := ne_toNat (by decide) this
        exact bne_iff_ne.2 (by omega)
      · left; omega
    clear hq hR
    have hfirst2 : ((s.size : Int) ≤ (a : Int)) ∨ ((a : Int) < (s.size : Int) ∧ ∃ h : a < s.size, ((s[a].toNat : Int) != 34) = true) := by
      rcases hfirst with h | ⟨h, h2⟩
      · exact .inl h
      · exact .inr ⟨by omega, h, h2⟩
    clear hfirst
    rcases hfirst2 with hf | ⟨hai, hlt, hf⟩
    all_goals
      go_enter Tryz.func74, Tryz.ntmps74
      go_wp2_with fail
      go_loopw [7] (fun i wr => ∃ (k : Nat), a ≤ k ∧ k ≤ s.size ∧ i = .int .i64 k ∧ Hid (R = (pln (s.data.toList.drop k)).map fun n => ((s.data.toList.drop a).take (k - a + n), k - a + n)) ∧ wr = W1) (fun i _ => s.size - (intOf i).toNat)
    case atStart => exact ⟨a, Nat.le_refl _, ha, rfl, Lib.hid (by rw [HR.out, Nat.sub_self]; simp only [Nat.zero_add]), hW1.symm⟩
    case atStart => exact ⟨a, Nat.le_refl _, ha, rfl, Lib.hid (by rw [HR.out, Nat.sub_self]; simp only [Nat.zero_add]), hW1.symm⟩
    case round =>
      obtain ⟨k, hak, hk, rfl, HR2, rfl⟩ := hrel
      have hk0 : (0 : Int) ≤ (k : Int) := by omega
      have hak' : (a : Int) ≤ (k : Int) := by omega
      have hks' : (k : Int) ≤ (s.size : Int) := by omega
      have hx : s.extract a (a + (k - a)) = s.extract a k := by rw [show a + (k - a) = k by omega]
      have hm : (⟨((s.data.toList.drop a).take (k - a)).toArray⟩ : ByteArray) = s.extract a k := by rw [ext_mk, hx]
      have hkk : ((a + (k - a) : Nat) : Int) = (k : Int) := by omega
      have hlt2 : s.size ≤ k := by omega
      · obtain rfl : k = s.size := by omega
        have hrel := HR2.out
        rw [drop_end, pln] at hrel
        have HR3 : Hid (OneP s a R (.returned (.tuple #[.agg #[.string (s.extract a s.size), .string (s.extract a s.size)], .int .i64 (s.size : Int), .bool true]))) := Lib.hid (by rw [hrel]; show _ = _; rw [Nat.add_zero, hx, hm, hkk])
        clear hrel HR2 hak hx hm hkk hlt2
        go_wp2_with fail
        go_region_held3 (fun _ => True) (trivial) (fail)
        go_wp2_with fail
        refine bodyPost_ret (v := .tuple #[.agg #[.string (s.extract a s.size), .string (s.extract a s.size)], .int .i64 (s.size : Int), .bool true]) (by simp [results, Tryz.results74, go_sem]) rfl ?_
        exact ⟨HR3.out, below_drew ((Below.refl _ _).alloc (Nat.le_refl _) _)⟩
    case round =>
      obtain ⟨k, hak, hk, rfl, HR2, rfl⟩ := hrel
      have hk0 : (0 : Int) ≤ (k : Int) := by omega
      have hak' : (a : Int) ≤ (k : Int) := by omega
      have hks' : (k : Int) ≤ (s.size : Int) := by omega
      have hx : s.extract a (a + (k - a)) = s.extract a k := by rw [show a + (k - a) = k by omega]
      have hm : (⟨((s.data.toList.drop a).take (k - a)).toArray⟩ : ByteArray) = s.extract a k := by rw [ext_mk, hx]
      have hkk : ((a + (k - a) : Nat) : Int) = (k : Int) := by omega
      by_cases hlt2 : k < s.size
      · have hkn : (k : Int) < (s.size : Int) := by omega
        have hrel := HR2.out
        rw [drop_at hlt2, pln] at hrel
        by_cases h44 : s[k] = 44
        · have q1 : ((s[k].toNat : Int) != 44) = false := by rw [h44]; rfl
          rw [if_pos h44] at hrel
          have HR3 : Hid (OneP s a R (.returned (.tuple #[.agg #[.string (s.extract a k), .string (s.extract a k)], .int .i64 (k : Int), .bool true]))) := Lib.hid (by rw [hrel]; show _ = _; rw [Nat.add_zero, hx, hm, hkk])
          clear hrel HR2 h44 hak hx hm hkk
          go_wp2_with fail
          go_region_held3 (fun _ => True) (trivial) (fail)
          go_wp2_with fail
          refine bodyPost_ret (v := .tuple #[.agg #[.string (s.extract a k), .string (s.extract a k)], .int .i64 (k : Int), .bool true]) (by simp [results, Tryz.results74, go_sem]) rfl ?_
          exact ⟨HR3.out, below_drew ((Below.refl _ _).alloc (Nat.le_refl _) _)⟩
        · have q1 : ((s[k].toNat : Int) != 44) = true := bne_iff_ne.2 (by have := ne_toNat (n := 44) (by decide) h44; omega)
          rw [if_neg h44] at hrel
          by_cases h34 : s[k] = 34
          · have q2 : ((s[k].toNat : Int) == 34) = true := by rw [h34]; rfl
            rw [if_pos h34] at hrel
            have HR3 : Hid (OneP s a R (.returned (.tuple #[.agg #[.string ⟨#[]⟩, .string ⟨#[]⟩], .int .i64 0, .bool false]))) := Lib.hid (by rw [hrel]; rfl)
            clear hrel HR2 h44 h34 hak hx hm hkk
            go_wp2_with fail
            refine bodyPost_ret (v := .tuple #[.agg #[.string ⟨#[]⟩, .string ⟨#[]⟩], .int .i64 0, .bool false]) (by simp [results, Tryz.results74, go_sem]) rfl ?_
            exact ⟨HR3.out, ((Below.refl _ _).alloc (Nat.le_refl _) _)⟩
          · have q2 : ((s[k].toNat : Int) == 34) = false := beq_eq_false_iff_ne.2 (by have := ne_toNat (n := 34) (by decide) h34; omega)
            rw [if_neg h34, Option.map_map] at hrel
            have HR3 : Hid (R = (pln (s.data.toList.drop (k + 1))).map fun n => ((s.data.toList.drop a).take (k + 1 - a + n), k + 1 - a + n)) := Lib.hid (by
              rw [hrel]
              congr 1
              funext n
              simp only [Function.comp_def]
              rw [show k - a + (n + 1) = k + 1 - a + n by omega])
            have Hak := Lib.hid hak
            have Hlt := Lib.hid hlt2
            clear hrel HR2 h44 h34 hak hx hm hkk
            go_wp2_with fail
            go_roundw
            case rel => exact ⟨k + 1, Nat.le_succ_of_le Hak.out, Hlt.out, by go_num, HR3, hW1.symm⟩
            case measure => have := Hlt.out; simp [intOf]; omega
      · obtain rfl : k = s.size := by omega
        have hrel := HR2.out
        rw [drop_end, pln] at hrel
        have HR3 : Hid (OneP s a R (.returned (.tuple #[.agg #[.string (s.extract a s.size), .string (s.extract a s.size)], .int .i64 (s.size : Int), .bool true]))) := Lib.hid (by rw [hrel]; show _ = _; rw [Nat.add_zero, hx, hm, hkk])
        clear hrel HR2 hak hx hm hkk hlt2
        go_wp2_with fail
        go_region_held3 (fun _ => True) (trivial) (fail)
        go_wp2_with fail
        refine bodyPost_ret (v := .tuple #[.agg #[.string (s.extract a s.size), .string (s.extract a s.size)], .int .i64 (s.size : Int), .bool true]) (by simp [results, Tryz.results74, go_sem]) rfl ?_
        exact ⟨HR3.out, below_drew ((Below.refl _ _).alloc (Nat.le_refl _) _)⟩
  · have hq2 : ∃ h : a < s.size, s[a] = 34 := by
      by_cases hlt : a < s.size
      · refine ⟨hlt, Classical.byContradiction fun h34 => hq fun c r e => ?_⟩
        rw [drop_at hlt] at e
        injection e with e1 _
        rw [← e1]
        exact h34
      · exfalso
        apply hq
        intro c r e
        rw [List.drop_of_length_le (show s.data.toList.length ≤ a by have : s.data.toList.length = s.size := rfl; omega)] at e
        cases e
    obtain ⟨hlt, h34⟩ := hq2
    rw [drop_at hlt, h34, oneF, if_pos rfl] at hR
    have HR := Lib.hid hR
    have q0 : ((s[a].toNat : Int) != 34) = false := by rw [h34]; rfl
    have hai : (a : Int) < (s.size : Int) := by omega
    have hna : ¬ s.size ≤ a := by omega
    clear hq h34 hR
    go_enter Tryz.func74, Tryz.ntmps74
    go_wp2_with fail
    go_loopw [8, 9] (fun v i wr => ∃ (k : Nat) (V : ByteArray), a + 1 ≤ k ∧ k ≤ s.size ∧ v = .string V ∧ i = .int .i64 k ∧ V.size ≤ k ∧ Hid (R = (qin (s.data.toList.drop k)).map fun p => (V.data.toList ++ p.1, p.2 + (k - a))) ∧ wr = W1) (fun _ i _ => s.size - (intOf i).toNat)
    case atStart => exact ⟨a + 1, ⟨#[]⟩, Nat.le_refl _, hlt, rfl, by go_num, Nat.zero_le _, Lib.hid (by rw [HR.out, show a + 1 - a = 1 by omega]; rfl), hW1.symm⟩
    case round =>
      obtain ⟨k, V, hak, hk, rfl, rfl, hV, HR2, rfl⟩ := hrel
      have hk0 : (0 : Int) ≤ (k : Int) := by omega
      have hrel := HR2.out
      by_cases hlt2 : k < s.size
      · have hkn : (k : Int) < (s.size : Int) := by omega
        rw [drop_at hlt2] at hrel
        by_cases h34 : s[k] = 34
        · have q1 : ((s[k].toNat : Int) != 34) = false := by rw [h34]; rfl
          rw [h34] at hrel
          by_cases hn : k + 1 < s.size
          · have hkn2 : (k : Int) + 1 < (s.size : Int) := by omega
            rw [drop_at hn, qin, if_pos rfl] at hrel
            by_cases h34b : s[k + 1] = 34
            · rw [if_pos h34b, Option.map_map] at hrel
              have q2 : ((s[k + 1].toNat : Int) == 34) = true := by rw [h34b]; rfl
              have hadd := fun W => run_string_add_sum (P := Tryz.prog) W V ⟨#[34]⟩ (by have : (ByteArray.mk #[34]).size = 1 := rfl; omega)
              obtain ⟨O, hO⟩ : ∃ x, x = V ++ ⟨#[34]⟩ := ⟨_, rfl⟩
              rw [← hO] at hadd
              have hOs : O.size ≤ k + 2 := by rw [hO, ByteArray.size_append]; have : (ByteArray.mk #[34]).size = 1 := rfl; omega
              have HR3 : Hid (R = (qin (s.data.toList.drop (k + 2))).map fun p => (O.data.toList ++ p.1, p.2 + (k + 2 - a))) := Lib.hid (by
                rw [hrel]
                congr 1
                funext p
                simp only [Function.comp_def]
                rw [hO, app_list, show p.2 + 2 + (k - a) = p.2 + (k + 2 - a) by omega]
                simp)
              have Hak := Lib.hid hak
              have Hn := Lib.hid hn
              clear hrel HR2 h34 h34b hak hO hV
              go_wp2_with fail
              go_roundw
              case rel => exact ⟨k + 2, O, by have := Hak.out; omega, Hn.out, rfl, by go_num, hOs, HR3, hW1.symm⟩
              case measure => have := Hn.out; simp [intOf]; omega
            · rw [if_neg h34b] at hrel
              have q2 : ((s[k + 1].toNat : Int) == 34) = false := beq_eq_false_iff_ne.2 (by have := ne_toNat (n := 34) (by decide) h34b; omega)
              by_cases h44 : s[k + 1] = 44
              · have q3 : ((s[k + 1].toNat : Int) != 44) = false := by rw [h44]; rfl
                rw [if_pos h44] at hrel
                have HR3 : Hid (OneP s a R (.returned (.tuple #[.agg #[.string (s.extract a (k + 1)), .string V], .int .i64 ((k : Int) + 1), .bool true]))) := Lib.hid (by
                  rw [hrel]
                  show _ = _
                  rw [show a + (1 + (k - a)) = k + 1 by omega]
                  simp)
                have e1 : (a : Int) ≤ (k : Int) + 1 := by omega
                have e2 : (k : Int) + 1 ≤ (s.size : Int) := by omega
                have e3 : ((k : Int) + 1).toNat = k + 1 := by omega
                clear hrel HR2 h34 h34b h44 hak hV
                go_wp2_with fail
                refine bodyPost_ret (v := .tuple #[.agg #[.string (s.extract a (k + 1)), .string V], .int .i64 ((k : Int) + 1), .bool true]) (by simp [results, Tryz.results74, go_sem]) rfl ?_
                exact ⟨HR3.out, ((Below.refl _ _).alloc (Nat.le_refl _) _)⟩
              · have q3 : ((s[k + 1].toNat : Int) != 44) = true := bne_iff_ne.2 (by have := ne_toNat (n := 44) (by decide) h44; omega)
                rw [if_neg h44] at hrel
                have HR3 : Hid (OneP s a R (.returned (.tuple #[.agg #[.string ⟨#[]⟩, .string ⟨#[]⟩], .int .i64 0, .bool false]))) := Lib.hid (by rw [hrel]; rfl)
                clear hrel HR2 h34 h34b h44 hak hV
                go_wp2_with fail
                refine bodyPost_ret (v := .tuple #[.agg #[.string ⟨#[]⟩, .string ⟨#[]⟩], .int .i64 0, .bool false]) (by simp [results, Tryz.results74, go_sem]) rfl ?_
                exact ⟨HR3.out, ((Below.refl _ _).alloc (Nat.le_refl _) _)⟩
          · have hkn2 : ¬ (k : Int) + 1 < (s.size : Int) := by omega
            have hks : s.size = k + 1 := by omega
            rw [List.drop_of_length_le (show s.data.toList.length ≤ k + 1 by have : s.data.toList.length = s.size := rfl; omega), qin, if_pos rfl] at hrel
            have HR3 : Hid (OneP s a R (.returned (.tuple #[.agg #[.string (s.extract a (k + 1)), .string V], .int .i64 ((k : Int) + 1), .bool true]))) := Lib.hid (by
              rw [hrel]
              show _ = _
              rw [show a + (1 + (k - a)) = k + 1 by omega]
              simp)
            have e1 : (a : Int) ≤ (k : Int) + 1 := by omega
            have e2 : (k : Int) + 1 ≤ (s.size : Int) := by omega
            have e3 : ((k : Int) + 1).toNat = k + 1 := by omega
            clear hrel HR2 h34 hak hn hV hks
            go_wp2_with fail
            refine bodyPost_ret (v := .tuple #[.agg #[.string (s.extract a (k + 1)), .string V], .int .i64 ((k : Int) + 1), .bool true]) (by simp [results, Tryz.results74, go_sem]) rfl ?_
            exact ⟨HR3.out, ((Below.refl _ _).alloc (Nat.le_refl _) _)⟩
        · have q1 : ((s[k].toNat : Int) != 34) = true := bne_iff_ne.2 (by have := ne_toNat (n := 34) (by decide) h34; omega)
          rw [qin_other h34, Option.map_map] at hrel
          have hx1 := extract_one s k hlt2
          have hxz := extract_one_size s k hlt2
          have hadd := fun W => run_string_add_sum (P := Tryz.prog) W V (s.extract k (k + 1)) (by omega)
          obtain ⟨O, hO⟩ : ∃ x, x = V ++ s.extract k (k + 1) := ⟨_, rfl⟩
          rw [← hO] at hadd
          have hOs : O.size ≤ k + 1 := by rw [hO, ByteArray.size_append, hxz]; omega
          have HR3 : Hid (R = (qin (s.data.toList.drop (k + 1))).map fun p => (O.data.toList ++ p.1, p.2 + (k + 1 - a))) := Lib.hid (by
            rw [hrel]
            congr 1
            funext p
            simp only [Function.comp_def]
            rw [hO, app_list, hx1, show p.2 + 1 + (k - a) = p.2 + (k + 1 - a) by omega]
            simp)
          have e1 : (k : Int) ≤ (k : Int) + 1 := by omega
          have e2 : (k : Int) + 1 ≤ (s.size : Int) := by omega
          have e3 : ((k : Int) + 1).toNat = k + 1 := by omega
          have Hak := Lib.hid hak
          have Hlt := Lib.hid hlt2
          clear hrel HR2 h34 hak hO hx1 hxz hV
          go_wp2_with fail
          go_roundw
          case rel => exact ⟨k + 1, O, by have := Hak.out; omega, Hlt.out, rfl, by go_num, hOs, HR3, hW1.symm⟩
          case measure => have := Hlt.out; simp [intOf]; omega
      · obtain rfl : k = s.size := by omega
        rw [drop_end, qin] at hrel
        have HR3 : Hid (OneP s a R (.returned (.tuple #[.agg #[.string ⟨#[]⟩, .string ⟨#[]⟩], .int .i64 0, .bool false]))) := Lib.hid (by rw [hrel]; rfl)
        clear hrel HR2 hak hlt2 hV
        go_wp2_with fail
        refine bodyPost_ret (v := .tuple #[.agg #[.string ⟨#[]⟩, .string ⟨#[]⟩], .int .i64 0, .bool false]) (by simp [results, Tryz.results74, go_sem]) rfl ?_
        exact ⟨HR3.out, ((Below.refl _ _).alloc (Nat.le_refl _) _)⟩
end Go.Proofs.YtkgpjohfkfbfhaaGreatDoor.Cv
namespace Go.Proofs.YtkgpjohfkfbfhaaGreatDoor.Cv
open Go.RowKit Go.Proofs.YtkgpjohfkfbfhaaGreatDoor.Jd Go.Proofs.YtkgpjohfkfbfhaaGreatDoor.Li Go.Proofs.YtkgpjohfkfbfhaaGreatDoor.Pt
set_option maxRecDepth 100000

theorem elem_field7 : Elem Tryz.prog 82 84 (.agg #[.string ⟨#[]⟩, .string ⟨#[]⟩]) 2 32 := ⟨Tryz.underlying82, by kernel_rfl, rfl, by omega⟩
theorem src_field7 (W : World) (a b : ByteArray) (g : Nat) (hg : g = W.heap.size) : Src Tryz.prog 2 82 (.slice (some ⟨g, 0, none⟩) 1 1) 1 [.string a, .string b] (W.alloc (Obj.cells #[.string a, .string b] 84)) := by
  subst hg
  refine Src.ofSlice _ Tryz.underlying82 ⟨W.heap.size, 0, none⟩ 1 1 [.string a, .string b] rfl (fun j u hu => ?_) (by intro u hu; simp at hu; rcases hu with rfl | rfl <;> rfl)
  rw [Addr.add_lit, cell_of_row _ _ _ _ _ _ (heap_alloc_new W _), ← hu, Nat.zero_add]
  simp
/-- A row of fields of the call's own. -/
abbrev OwnG (w : World) (base : Nat) (A : Option Addr) (n c : Nat) (ls : List Ln) : Prop := w.ownsRow base 84 2 (.slice A n c) n (lcells ls)
theorem OwnG.below {w w' : World} {base n c : Nat} {A : Option Addr} {ls : List Ln} (h : OwnG w base A n c ls) (hb : Below w.heap.size w w') : OwnG w' base A n c ls :=
  World.ownsRow.kept h (row := none) ⟨hb.os, hb.tape, hb.output, hb.size, fun i hi _ => hb.block i hi⟩ (by cases hv : (Value.slice A n c).ownBlock <;> simp)
theorem OwnG.sees {w : World} {base n c : Nat} {A : Option Addr} {ls : List Ln} (h : OwnG w base A n c ls) : SeesL w w.heap.size A n ls := by
  have h1 := h.1
  rw [lcells_length] at h1
  have hn : n = ls.length := by omega
  rcases own_form h with ⟨rfl, rfl, hl⟩ | ⟨g, rfl, hg, hgl, _, _, hc⟩
  · have : ls = [] := List.eq_nil_of_length_eq_zero (by omega)
    subst this
    exact SeesL.nil _ _ _
  · exact ⟨hn, fun j u hu => ⟨g, 0, rfl, hgl, hc j u hu⟩⟩
theorem OwnG.len {w : World} {base n c : Nat} {A : Option Addr} {ls : List Ln} (h : OwnG w base A n c ls) : n = ls.length := h.sees.len
/-- What is answered. -/
def FgP (w : World) (o : Option (List Ln)) (en : Ending) (w' : World) : Prop :=
  match o with
  | none => en = .returned (.tuple #[.slice none 0 0, .bool false]) ∧ Below w.heap.size w w'
  | some ls => ∃ A c, en = .returned (.tuple #[.slice A ls.length c, .bool true]) ∧ OwnG w' w.heap.size A ls.length c ls ∧ Below w.heap.size w w'
theorem fldsR_fuel (F : Nat) (l : Bs) (h : l.length < F) : fldsR F l = fldsR (l.length + 1) l := by rw [fldsR_eq, fldsR_eq, flds_fuel F l h]

set_option maxHeartbeats 4000000 in
theorem rfields_any (s : ByteArray) (w : World) (hz : s.size ≤ 4000) : Calls Tryz.prog 46 #[.string s] w (FgP w (fieldsO s.data.toList)) := by
  have HC := Lib.hid (cr_any s w (by omega))
  obtain ⟨v, hv⟩ : ∃ v, v = s.data.toList.contains 13 := ⟨_, rfl⟩
  rw [← hv] at HC
  have hL : fieldsO s.data.toList = if v = true then none else fldsR (s.data.toList.length + 1) s.data.toList := by rw [fieldsO, ← hv]
  rw [hL]
  clear hL hv
  cases v with
  | true =>
    rw [if_pos rfl]
    go_enter Tryz.func46, Tryz.ntmps46
    go_wp2_with fail
    (with_reducible refine HC.out.mono ?_)
    rintro e w1 ⟨rfl, rfl⟩
    go_wp2_with fail
    refine bodyPost_ret (v := .tuple #[.slice none 0 0, .bool false]) (by simp [results, Tryz.results46, go_sem]) rfl ?_
    exact ⟨rfl, Below.refl _ _⟩
  | false =>
    rw [if_neg (by decide)]
    obtain ⟨R, hR⟩ : ∃ R, R = fldsR (s.data.toList.length + 1) s.data.toList := ⟨_, rfl⟩
    rw [← hR]
    have HR := Lib.hid hR
    clear hR
    go_enter Tryz.func46, Tryz.ntmps46
    go_wp2_with fail
    (with_reducible refine HC.out.mono ?_)
    rintro e w1 ⟨rfl, rfl⟩
    go_wp2_with fail
    go_loopw [4, 5] (fun l p wr => ∃ (at_ k c : Nat) (A : Option Addr) (acc : List Ln), l = .slice A k c ∧ p = .int .i64 at_ ∧ at_ ≤ s.size ∧ k ≤ at_ ∧ Hid (OwnG wr w.heap.size A k c acc) ∧ Hid (Below w.heap.size w wr) ∧ Hid (R = (fldsR ((s.data.toList.drop at_).length + 1) (s.data.toList.drop at_)).map (acc ++ ·))) (fun _ p _ => s.size + 1 - (intOf p).toNat)
    case atStart => exact ⟨0, 0, 0, none, [], rfl, rfl, Nat.zero_le _, Nat.le_refl _, Lib.hid (World.ownsRow_nil w _ _ _), Lib.hid (Below.refl _ _), Lib.hid (by rw [HR.out]; simp)⟩
    case round =>
      obtain ⟨q, k, c, A, acc, rfl, rfl, hqs, hkq, HO, HW, HF⟩ := hrel
      have hU := one_any s q wr hz hqs
      have hsz : s.data.toList.length = s.size := rfl
      have hrel := HF.out
      cases ho : oneF (s.data.toList.drop q) with
      | none =>
        rw [ho] at hU
        rw [fldsR, ho] at hrel
        have HU := Lib.hid hU
        have HR2 := Lib.hid hrel
        clear hU hrel HF ho hsz
        go_wp2_with fail
        (with_reducible refine HU.out.mono ?_)
        rintro e w2 ⟨h1, hb2⟩
        obtain rfl := h1
        have HB := Lib.hid (HW.out.trans (hb2.mono HW.out.size))
        clear hb2
        go_wp2_with fail
        refine bodyPost_ret (v := .tuple #[.slice none 0 0, .bool false]) (by simp [results, Tryz.results46, go_sem]) rfl ?_
        rw [HR2.out]
        exact ⟨rfl, HB.out.alloc HB.out.size _⟩
      | some p =>
        obtain ⟨v, n⟩ := p
        rw [ho] at hU
        rw [fldsR, ho] at hrel
        have hn := (one_some ho).1
        have hnl := wid_le (s.data.toList.drop q) false
        rw [← hn, List.length_drop] at hnl
        have hqn : q + n ≤ s.size := by omega
        obtain ⟨fx, hfx⟩ : ∃ x, x = s.extract q (q + n) := ⟨_, rfl⟩
        have hfd : fx.data.toList = (s.data.toList.drop q).take n := by rw [hfx, Lib.extract_data, Nat.add_sub_cancel_left]
        obtain ⟨mx, hmx⟩ : ∃ x : ByteArray, x = ⟨v.toArray⟩ := ⟨_, rfl⟩
        have hmd : mx.data.toList = v := by rw [hmx]
        unfold OneP at hU
        dsimp only at hU hrel
        rw [← hfx, ← hmx] at hU
        rw [← hfd, ← hmd, List.length_drop] at hrel
        have HU := Lib.hid hU
        obtain ⟨b, hb⟩ : ∃ b, b = q + n := ⟨_, rfl⟩
        rw [← hb] at HU
        have hk1 : k + 1 ≤ 1099511627776 := by omega
        have hbs : b ≤ s.size := by omega
        have hkb : k ≤ b := by omega
        have hqb : q ≤ b := by omega
        by_cases he : s.size ≤ b
        · rw [if_pos (by omega)] at hrel
          have HR2 := Lib.hid hrel
          have hei : (s.size : Int) ≤ (b : Int) := by omega
          clear hU hrel HF ho hsz hn hnl hqn hfx hfd hmx hmd hb he
          go_wp2_with fail
          (with_reducible refine HU.out.mono ?_)
          rintro e w2 ⟨rfl, hb2⟩
          have HB := Lib.hid (HW.out.trans (hb2.mono HW.out.size))
          have hz2 := HB.out.size
          have HO3 := Lib.hid (HO.out.below hb2)
          clear hb2
          have cc := cell1 w2 (.string fx) (.string mx) 84
          go_wp2_with (at_builtin; refine wpList_append_row rfl (.tmp 20) (.tmp 22) _ _ rfl elem_field7 rfl rfl ((HO3.out.alloc _).alloc _) (src_field7 _ fx mx _ (by simp)) hk1 (by simp; omega) ?_; intro A4 c4 w4 ho4 hg4 hat4)
          have hP : OwnG w4 w.heap.size A4 (k + 1) c4 (acc ++ [(fx.data.toList, mx.data.toList)]) := by
            have e : lcells (acc ++ [(fx.data.toList, mx.data.toList)]) = lcells acc ++ [.string fx, .string mx] := by rw [lcells_append]; rfl
            show w4.ownsRow _ _ _ _ _ (lcells _)
            rw [e]
            exact ho4
          have HP := Lib.hid hP
          have HR3 : Hid (R = some (acc ++ [(fx.data.toList, mx.data.toList)])) := Lib.hid (by rw [HR2.out]; rfl)
          have HB4 : Hid (Below w.heap.size w w4) := Lib.hid (((HB.out.alloc hz2 _).alloc (by simp; omega) _).grown hg4 (by simp; omega) (fun q hq => (HO3.out.lt q hq).1))
          have Hk : Hid (k + 1 = (acc ++ [(fx.data.toList, mx.data.toList)]).length) := Lib.hid hP.len
          clear hP ho4 hg4 hat4 HO3 HB HR2
          go_wp2_with fail
          refine bodyPost_ret (v := .tuple #[.slice A4 (k + 1) c4, .bool true]) (by simp [results, Tryz.results46, go_sem]) rfl ?_
          rw [HR3.out]
          exact ⟨A4, c4, by rw [← Hk.out], by rw [← Hk.out]; exact HP.out, HB4.out⟩
        · rw [if_neg (by omega)] at hrel
          have hdd : (s.data.toList.drop q).drop (n + 1) = s.data.toList.drop (b + 1) := by rw [List.drop_drop, hb, Nat.add_assoc]
          rw [hdd, fldsR_fuel _ _ (by rw [List.length_drop]; omega)] at hrel
          have HR2 := Lib.hid hrel
          have hei : ¬ (s.size : Int) ≤ (b : Int) := by omega
          have Hlt : Hid (b < s.size) := Lib.hid (by omega)
          clear hU hrel HF ho hsz hn hnl hqn hfx hfd hmx hmd hb he hdd
          go_wp2_with fail
          (with_reducible refine HU.out.mono ?_)
          rintro e w2 ⟨rfl, hb2⟩
          have HB := Lib.hid (HW.out.trans (hb2.mono HW.out.size))
          have hz2 := HB.out.size
          have HO3 := Lib.hid (HO.out.below hb2)
          clear hb2
          have cc := cell1 w2 (.string fx) (.string mx) 84
          go_wp2_with (at_builtin; refine wpList_append_row rfl (.tmp 20) (.tmp 22) _ _ rfl elem_field7 rfl rfl ((HO3.out.alloc _).alloc _) (src_field7 _ fx mx _ (by simp)) hk1 (by simp; omega) ?_; intro A4 c4 w4 ho4 hg4 hat4)
          have hP : OwnG w4 w.heap.size A4 (k + 1) c4 (acc ++ [(fx.data.toList, mx.data.toList)]) := by
            have e : lcells (acc ++ [(fx.data.toList, mx.data.toList)]) = lcells acc ++ [.string fx, .string mx] := by rw [lcells_append]; rfl
            show w4.ownsRow _ _ _ _ _ (lcells _)
            rw [e]
            exact ho4
          have HP := Lib.hid hP
          have HR3 : Hid (R = (fldsR ((s.data.toList.drop (b + 1)).length + 1) (s.data.toList.drop (b + 1))).map ((acc ++ [(fx.data.toList, mx.data.toList)]) ++ ·)) := Lib.hid (by
            rw [HR2.out]
            cases fldsR ((s.data.toList.drop (b + 1)).length + 1) (s.data.toList.drop (b + 1)) with
            | none => rfl
            | some r => simp)
          have HB4 : Hid (Below w.heap.size w w4) := Lib.hid (((HB.out.alloc hz2 _).alloc (by simp; omega) _).grown hg4 (by simp; omega) (fun q hq => (HO3.out.lt q hq).1))
          clear hP ho4 hg4 hat4 HO3 HB HR2
          go_wp2_with fail
          go_roundw
          case rel => exact ⟨b + 1, k + 1, c4, A4, _, rfl, by go_num, Hlt.out, Nat.succ_le_succ hkb, HP, HB4, HR3⟩
          case measure => have := Hlt.out; simp [intOf]; omega
end Go.Proofs.YtkgpjohfkfbfhaaGreatDoor.Cv
namespace Go.Proofs.YtkgpjohfkfbfhaaGreatDoor.Cv
open Go.RowKit Go.Proofs.YtkgpjohfkfbfhaaGreatDoor.Jd Go.Proofs.YtkgpjohfkfbfhaaGreatDoor.Li Go.Proofs.YtkgpjohfkfbfhaaGreatDoor.Pt
set_option maxRecDepth 100000

/-- What a field means, in memory. -/
theorem val_at {w : World} {B n k : Nat} {A : Option Addr} {ls : List Ln} (h : SeesL w B A n ls) (hk : k < n) : ∃ b o x, A = some ⟨b, o, none⟩ ∧ b < B ∧ (mns ls)[k]? = some x ∧ w.cell? ⟨b, o + k * 2 + 1, none⟩ = some (.string x) := by
  have hl := h.len
  obtain ⟨b, o, hA, hb, _, h2⟩ := h.at_ (j := k) (x := ls[k]'(by omega)) (List.getElem?_eq_getElem (by omega))
  exact ⟨b, o, ⟨(ls[k]'(by omega)).2.toArray⟩, hA, hb, by simp [mns, List.getElem?_eq_getElem (show k < ls.length by omega)], h2⟩
theorem val_here {w : World} {B n k b o : Nat} {ls : List Ln} (h : SeesL w B (some ⟨b, o, none⟩) n ls) (hk : k < n) : ∃ x, (mns ls)[k]? = some x ∧ w.cell? ⟨b, o + k * 2 + 1, none⟩ = some (.string x) := by
  obtain ⟨b', o', x, e, _, h1, h2⟩ := val_at h hk
  injection e with e
  injection e with e1 e2
  subst e1; subst e2
  exact ⟨x, h1, h2⟩
theorem contains_cons (z : ByteArray) (zs : List ByteArray) (x : ByteArray) : Lib.containsS (z :: zs) x = (z.toList == x.toList || Lib.containsS zs x) := by
  rw [Bool.eq_iff_iff, Bool.or_eq_true, Lib.containsS_iff, Lib.containsS_iff, List.mem_cons, beq_iff_eq]
  constructor
  · rintro (h | h)
    · exact .inl (by rw [h])
    · exact .inr h
  · rintro (h | h)
    · exact .inl (bytes_eq h).symm
    · exact .inr h

set_option maxHeartbeats 4000000 in
theorem head_any (m : ByteArray) (cols : List ByteArray) (ls : List Ln) (A : Option Addr) (n c : Nat) (w : World) (h : SeesL w w.heap.size A n ls) (hm : mns ls = m :: cols) (hn : n ≤ 100000) (hz : ∀ z ∈ mns ls, z.size ≤ 140737488351232) :
    Calls Tryz.prog 47 #[.slice A n c] w fun e w' => e = .returned (.int .i64 (headF (m :: cols))) ∧ Below w.heap.size w w' := by
  have hl : n = cols.length + 1 := by rw [h.len, ← mns_len, hm, List.length_cons]
  obtain ⟨b, o, x, rfl, hbl, hx0, hc0⟩ := val_at h (k := 0) (by omega)
  obtain rfl : m = x := by rw [hm] at hx0; simpa using hx0
  have HS : Hid (SeesL w w.heap.size (some ⟨b, o, none⟩) n ls) := Lib.hid h
  have HM := Lib.hid hm
  have HZ := Lib.hid hz
  have hc0' : w.cell? ⟨b, o + 1, none⟩ = some (.string m) := by rw [← hc0, Nat.zero_mul, Nat.add_zero]
  have n1 : (1 : Int) ≤ (n : Int) := by omega
  have n0 : (0 : Int) < (n : Int) := by omega
  have n0' : 0 < n := by omega
  have Hl := Lib.hid hl
  obtain ⟨u, hu⟩ : ∃ u, u = (m.toList == [107, 101, 121]) := ⟨_, rfl⟩
  obtain ⟨v, hv⟩ : ∃ v, v = cols.all cB := ⟨_, rfl⟩
  obtain ⟨d, hd⟩ : ∃ d, d = dupF [] cols := ⟨_, rfl⟩
  have HF : Hid (headF (m :: cols) = if u = false then 6 else if v = false then 6 else if d = true then 7 else 0) := Lib.hid (by rw [headF, hu, hv, hd])
  have hu2 := hu.symm
  have Hv := Lib.hid hv
  have Hd := Lib.hid hd
  clear hu hv hd hm hl h hz hx0 hc0
  cases u with
  | false =>
    go_enter Tryz.func47, Tryz.ntmps47
    go_wp2_with fail
    go_ret
    exact ⟨by rw [HF.out]; rfl, Below.refl _ _⟩
  | true =>
    go_enter Tryz.func47, Tryz.ntmps47
    go_wp2_with fail
    go_loopw [3] (fun i wr => ∃ (k : Nat), k ≤ cols.length ∧ i = .int .i64 ((k + 1 : Nat) : Int) ∧ Hid (v = (cols.drop k).all cB) ∧ Hid (wr = w)) (fun i _ => n - (intOf i).toNat)
    case atStart => exact ⟨0, Nat.zero_le _, rfl, Lib.hid (by rw [Hv.out]; rfl), Lib.hid rfl⟩
    case round =>
      obtain ⟨k, hk, rfl, HV, HW⟩ := hrel
      have hrel := HV.out
      by_cases hlt : k < cols.length
      · have hkn : ((k + 1 : Nat) : Int) < (n : Int) := by have := Hl.out; omega
        have hkn2 : (k : Int) + 1 < (n : Int) := by omega
        have hk0 : (0 : Int) ≤ (k : Int) + 1 := by omega
        obtain ⟨x, hx, hc⟩ := val_here HS.out (k := k + 1) (by have := Hl.out; omega)
        have hxs : x.size ≤ 140737488351232 := HZ.out x (List.mem_of_getElem? hx)
        rw [HM.out, List.getElem?_cons_succ] at hx
        have hxe : cols[k] = x := (List.getElem?_eq_some_iff.1 hx).2
        rw [List.drop_eq_getElem_cons hlt, List.all_cons, hxe] at hrel
        have hcr : wr.cell? ⟨b, o + (k + 1) * 2 + 1, none⟩ = some (.string x) := by rw [HW.out]; exact hc
        have HC := Lib.hid (rcolumn_any x wr hxs)
        obtain ⟨y, hy⟩ : ∃ y, y = cB x := ⟨_, rfl⟩
        rw [← hy] at HC hrel
        have Hlt := Lib.hid hlt
        clear hlt hx hxe hc hxs hy HV
        cases y with
        | false =>
          have HV2 : Hid (v = false) := Lib.hid (by rw [hrel]; rfl)
          clear hrel
          go_wp2_with fail
          (with_reducible refine HC.out.mono ?_)
          rintro e w2 ⟨rfl, rfl⟩
          go_wp2_with fail
          go_ret
          exact ⟨by rw [HF.out, HV2.out]; rfl, by rw [HW.out]; exact Below.refl _ _⟩
        | true =>
          have HV2 : Hid (v = (cols.drop (k + 1)).all cB) := Lib.hid (by rw [hrel]; rfl)
          clear hrel
          go_wp2_with fail
          (with_reducible refine HC.out.mono ?_)
          rintro e w2 ⟨rfl, rfl⟩
          go_wp2_with fail
          go_roundw
          case rel => exact ⟨k + 1, Hlt.out, by go_num, HV2, HW⟩
          case measure => have := Hlt.out; simp [intOf]; omega
      · obtain rfl : k = cols.length := by omega
        have hkn : ¬ ((cols.length + 1 : Nat) : Int) < (n : Int) := by have := Hl.out; omega
        have HV2 : Hid (v = true) := Lib.hid (by rw [hrel, List.drop_of_length_le (Nat.le_refl _)]; rfl)
        clear hrel HV hlt hk
        have hw := HW.out.symm
        subst hw
        clear HW
        go_wp2_with fail
        go_loopw [4] (fun i wr => ∃ (j : Nat), j ≤ cols.length ∧ i = .int .i64 ((j + 1 : Nat) : Int) ∧ Hid (d = dupF (cols.take j) (cols.drop j)) ∧ Hid (Below w.heap.size w wr)) (fun i _ => n - (intOf i).toNat)
        case atStart => exact ⟨0, Nat.zero_le _, rfl, Lib.hid (by rw [Hd.out]; rfl), Lib.hid (Below.refl _ _)⟩
        case round =>
          obtain ⟨j, hj, rfl, HD, HW⟩ := hrel
          have hrel := HD.out
          by_cases hlt : j < cols.length
          · have hjn : ((j + 1 : Nat) : Int) < (n : Int) := by have := Hl.out; omega
            have hjn2 : (j : Int) + 1 < (n : Int) := by omega
            have hj0 : (0 : Int) ≤ (j : Int) + 1 := by omega
            have HSW := Lib.hid (HS.out.below HW.out)
            obtain ⟨x, hx, hc⟩ := val_here HSW.out (k := j + 1) (by have := Hl.out; omega)
            rw [HM.out, List.getElem?_cons_succ] at hx
            have hxe : cols[j] = x := (List.getElem?_eq_some_iff.1 hx).2
            obtain ⟨y, hy⟩ : ∃ y, y = Lib.containsS (cols.take j) x := ⟨_, rfl⟩
            rw [List.drop_eq_getElem_cons hlt, dupF, hxe, ← hy] at hrel
            have htk : cols.take j ++ [x] = cols.take (j + 1) := by rw [List.take_add_one, hx]; rfl
            rw [htk] at hrel
            have HD2 := Lib.hid hrel
            have Hy := Lib.hid hy
            have Hlt := Lib.hid hlt
            have Hl2 : Hid (n ≤ 100000) := Lib.hid hn
            clear hrel hy hx hxe htk hlt HD
            go_wp2_with fail
            go_loopw [5] (fun i wx => ∃ (q : Nat), q ≤ j ∧ i = .int .i64 ((q + 1 : Nat) : Int) ∧ Hid (y = Lib.containsS ((cols.take j).drop q) x) ∧ Hid (Below w.heap.size w wx)) (fun i _ => n - (intOf i).toNat)
            case atStart => exact ⟨0, Nat.zero_le _, rfl, Lib.hid (by rw [Hy.out]; rfl), HW⟩
            case round =>
              have Hj := Lib.hid hj
              obtain ⟨q, hq, rfl, HY, HX⟩ := hrel
              have hrel := HY.out
              have hcx : wr.cell? ⟨b, o + (j + 1) * 2 + 1, none⟩ = some (.string x) := by
                obtain ⟨x2, h1, h2⟩ := val_here (HS.out.below HX.out) (k := j + 1) (by have := Hl.out; have := Hlt.out; omega)
                obtain ⟨x3, h3, h4⟩ := val_here HSW.out (k := j + 1) (by have := Hl.out; have := Hlt.out; omega)
                rw [h1] at h3
                injection h3 with h3
                subst h3
                rw [h4] at hc
                rw [h2, hc]
              by_cases hlt : q < j
              · have hqn : ((q + 1 : Nat) : Int) < ((j + 1 : Nat) : Int) := by omega
                have hqn1 : (q : Int) + 1 < (n : Int) := by omega
                have hqn2 : (q : Int) < (j : Int) := by omega
                have hq0 : (0 : Int) ≤ (q : Int) + 1 := by omega
                obtain ⟨z, hz, hcz⟩ := val_here (HS.out.below HX.out) (k := q + 1) (by have := Hl.out; have := Hlt.out; omega)
                rw [HM.out, List.getElem?_cons_succ] at hz
                have hqj : q < (cols.take j).length := by rw [List.length_take]; have := Hlt.out; omega
                have hze : (cols.take j)[q] = z := by rw [List.getElem_take]; exact (List.getElem?_eq_some_iff.1 hz).2
                rw [List.drop_eq_getElem_cons hqj, hze, contains_cons] at hrel
                obtain ⟨t, ht⟩ : ∃ t, t = (z.toList == x.toList) := ⟨_, rfl⟩
                rw [← ht] at hrel
                have ht2 := ht.symm
                have Hql := Lib.hid hlt
                clear hz hqj hze ht hlt HY hc
                cases t with
                | true =>
                  have HY2 : Hid (y = true) := Lib.hid (by rw [hrel]; rfl)
                  clear hrel
                  go_wp2_with fail
                  go_region
                  go_wp2_with fail
                  go_ret
                  exact ⟨by rw [HF.out, HV2.out, HD2.out, HY2.out]; rfl, below_drew HX.out⟩
                | false =>
                  have HY2 : Hid (y = Lib.containsS ((cols.take j).drop (q + 1)) x) := Lib.hid (by rw [hrel]; rfl)
                  clear hrel
                  go_wp2_with fail
                  go_region
                  go_wp2_with fail
                  go_roundw
                  case rel => exact ⟨q + 1, Hql.out, by go_num, HY2, Lib.hid (below_drew HX.out)⟩
                  case measure => have := Hql.out; have := Hlt.out; simp [intOf]; omega
              · obtain rfl : q = j := by omega
                have hqn : ¬ ((q + 1 : Nat) : Int) < ((q + 1 : Nat) : Int) := by omega
                have HD3 : Hid (d = dupF (cols.take (q + 1)) (cols.drop (q + 1))) := Lib.hid (by
                  rw [HD2.out, hrel, List.drop_of_length_le (by rw [List.length_take]; omega)]
                  rfl)
                clear hrel HY hlt hc HD2
                go_wp2_with fail
                go_roundw
                case rel => exact ⟨q + 1, Hlt.out, by go_num, HD3, HX⟩
                case measure => have := Hlt.out; have := Hl.out; simp [intOf]; omega
          · obtain rfl : j = cols.length := by omega
            have hjn : ¬ ((cols.length + 1 : Nat) : Int) < (n : Int) := by have := Hl.out; omega
            have HD2 : Hid (d = false) := Lib.hid (by rw [hrel, List.drop_of_length_le (Nat.le_refl _)]; rfl)
            clear hrel HD hlt hj
            go_wp2_with fail
            go_ret
            exact ⟨by rw [HF.out, HV2.out, HD2.out]; rfl, HW.out⟩
end Go.Proofs.YtkgpjohfkfbfhaaGreatDoor.Cv
namespace Go.Proofs.YtkgpjohfkfbfhaaGreatDoor.Cv
open Go.RowKit Go.Proofs.YtkgpjohfkfbfhaaGreatDoor.Jd Go.Proofs.YtkgpjohfkfbfhaaGreatDoor.Li Go.Proofs.YtkgpjohfkfbfhaaGreatDoor.Pt
set_option maxRecDepth 100000

set_option maxHeartbeats 4000000 in
theorem rrecord_any (m : ByteArray) (vals : List ByteArray) (f hh : List Ln) (T : Tr) (A Ah At : Option Addr) (n c nh ch nt ct : Nat) (w : World) (h : SeesL w w.heap.size A n f) (hm : mns f = m :: vals) (hn : n ≤ 100000) (hz : ∀ z ∈ mns f, z.size ≤ 140737488351232) (hnh : nh = hh.length) (hT : Holds w w.heap.size At nt T) (hnt : nt ≤ 140737488351232) :
    Calls Tryz.prog 48 #[.slice A n c, .slice Ah nh ch, .slice At nt ct] w fun e w' => e = .returned (.int .i64 (recR hh T f)) ∧ Below w.heap.size w w' := by
  have hl : n = vals.length + 1 := by rw [h.len, ← mns_len, hm, List.length_cons]
  have hfl : n = f.length := h.len
  obtain ⟨b, o, x, rfl, hbl, hx0, hc0⟩ := val_at h (k := 0) (by omega)
  obtain rfl : m = x := by rw [hm] at hx0; simpa using hx0
  have HS : Hid (SeesL w w.heap.size (some ⟨b, o, none⟩) n f) := Lib.hid h
  have HM := Lib.hid hm
  have HZ := Lib.hid hz
  have hc0' : w.cell? ⟨b, o + 1, none⟩ = some (.string m) := by rw [← hc0, Nat.zero_mul, Nat.add_zero]
  have n0 : (0 : Int) < (n : Int) := by omega
  have n0' : 0 < n := by omega
  have Hl := Lib.hid hl
  have hms : m.size ≤ 140737488351232 := hz m (by rw [hm]; simp)
  obtain ⟨u, hu⟩ : ∃ u, u = nB m := ⟨_, rfl⟩
  obtain ⟨v, hv⟩ : ∃ v, v = vals.all vB := ⟨_, rfl⟩
  obtain ⟨d, hd⟩ : ∃ d, d = T.atIs m := ⟨_, rfl⟩
  have hvl : mns f.tail = vals := by
    cases f with
    | nil => cases hm
    | cons y l => simp only [mns, List.map_cons] at hm; injection hm
  have HF : Hid (recR hh T f = if n ≠ nh then 6 else if u = false then 6 else if v = false then 6 else if d = true then 7 else 0) := Lib.hid (by
    rw [recR, hm, hvl, hu, hv, hd, ← hfl, ← hnh]
    rfl)
  have HP := Lib.hid (plain_any m w hms)
  rw [← hu] at HP
  have HKi := Lib.hid (kid2_any T At nt ct w.heap.size m w hT (Nat.le_refl _) hnt)
  rw [← hd] at HKi
  have Hv := Lib.hid hv
  clear hu hv hd hm hl h hz hx0 hc0 hvl hms hT hfl hnh
  by_cases hnn : n = nh
  · subst hnn
    cases u with
    | false =>
      go_enter Tryz.func48, Tryz.ntmps48
      go_wp2_with fail
      (with_reducible refine HP.out.mono ?_)
      rintro e w2 ⟨rfl, rfl⟩
      go_wp2_with fail
      go_ret
      exact ⟨by rw [HF.out]; simp, Below.refl _ _⟩
    | true =>
      go_enter Tryz.func48, Tryz.ntmps48
      go_wp2_with fail
      (with_reducible refine HP.out.mono ?_)
      rintro e w2 ⟨rfl, rfl⟩
      go_wp2_with fail
      go_loopw [7] (fun i wr => ∃ (k : Nat), k ≤ vals.length ∧ i = .int .i64 ((k + 1 : Nat) : Int) ∧ Hid (v = (vals.drop k).all vB) ∧ Hid (wr = w)) (fun i _ => n - (intOf i).toNat)
      case atStart => exact ⟨0, Nat.zero_le _, rfl, Lib.hid (by rw [Hv.out]; rfl), Lib.hid rfl⟩
      case round =>
        obtain ⟨k, hk, rfl, HV, HW⟩ := hrel
        have hrel := HV.out
        by_cases hlt : k < vals.length
        · have hkn : ((k + 1 : Nat) : Int) < (n : Int) := by have := Hl.out; omega
          have hkn2 : (k : Int) + 1 < (n : Int) := by omega
          have hk0 : (0 : Int) ≤ (k : Int) + 1 := by omega
          obtain ⟨x, hx, hc⟩ := val_here HS.out (k := k + 1) (by have := Hl.out; omega)
          have hxs : x.size ≤ 140737488351232 := HZ.out x (List.mem_of_getElem? hx)
          rw [HM.out, List.getElem?_cons_succ] at hx
          have hxe : vals[k] = x := (List.getElem?_eq_some_iff.1 hx).2
          rw [List.drop_eq_getElem_cons hlt, List.all_cons, hxe] at hrel
          have hcr : wr.cell? ⟨b, o + (k + 1) * 2 + 1, none⟩ = some (.string x) := by rw [HW.out]; exact hc
          have HC := Lib.hid (rvalue7_any x wr hxs)
          obtain ⟨y, hy⟩ : ∃ y, y = vB x := ⟨_, rfl⟩
          rw [← hy] at HC hrel
          have Hlt := Lib.hid hlt
          clear hlt hx hxe hc hxs hy HV
          cases y with
          | false =>
            have HV2 : Hid (v = false) := Lib.hid (by rw [hrel]; rfl)
            clear hrel
            go_wp2_with fail
            (with_reducible refine HC.out.mono ?_)
            rintro e w2 ⟨rfl, rfl⟩
            go_wp2_with fail
            go_ret
            exact ⟨by rw [HF.out, HV2.out]; simp, by rw [HW.out]; exact Below.refl _ _⟩
          | true =>
            have HV2 : Hid (v = (vals.drop (k + 1)).all vB) := Lib.hid (by rw [hrel]; rfl)
            clear hrel
            go_wp2_with fail
            (with_reducible refine HC.out.mono ?_)
            rintro e w2 ⟨rfl, rfl⟩
            go_wp2_with fail
            go_roundw
            case rel => exact ⟨k + 1, Hlt.out, by go_num, HV2, HW⟩
            case measure => have := Hlt.out; have := Hl.out; simp [intOf]; omega
        · obtain rfl : k = vals.length := by omega
          have hkn : ¬ ((vals.length + 1 : Nat) : Int) < (n : Int) := by have := Hl.out; omega
          have HV2 : Hid (v = true) := Lib.hid (by rw [hrel, List.drop_of_length_le (Nat.le_refl _)]; rfl)
          clear hrel HV hlt hk
          have hw := HW.out.symm
          subst hw
          clear HW
          go_wp2_with fail
          (with_reducible refine HKi.out.mono ?_)
          rintro e w2 ⟨A', n', c', rfl, _, _, _, q, rfl⟩
          cases d with
          | false =>
            go_wp2_with fail
            go_ret
            exact ⟨by rw [HF.out, HV2.out]; simp, below_drewN (Below.refl _ _) _⟩
          | true =>
            go_wp2_with fail
            go_ret
            exact ⟨by rw [HF.out, HV2.out]; simp, below_drewN (Below.refl _ _) _⟩
  · have hni : ((n : Int) != (nh : Int)) = true := bne_iff_ne.2 (by omega)
    have HF2 : Hid (recR hh T f = 6) := Lib.hid (by rw [HF.out, if_pos hnn])
    clear hnn
    go_enter Tryz.func48, Tryz.ntmps48
    go_wp2_with fail
    go_ret
    exact ⟨by rw [HF2.out]; rfl, Below.refl _ _⟩
end Go.Proofs.YtkgpjohfkfbfhaaGreatDoor.Cv
