/- The reference's Ended and Join of lines. Conditions: lines of a million bytes at most. -/
import Derived.Test.YtapgaglkkgbgkaaGreatDoorInPClosed
import Derived.Test.YtapgaglkkgbgkaaGreatDoorMwClClone
import Derived.Deep.RegionHeld3
namespace Go.Proofs.YtapgaglkkgbgkaaGreatDoor.In
open Go.RowKit Go.Proofs.YtapgaglkkgbgkaaGreatDoor.Jd Go.Proofs.YtapgaglkkgbgkaaGreatDoor.Li Go.Proofs.YtapgaglkkgbgkaaGreatDoor.Pt Go.Proofs.YtapgaglkkgbgkaaGreatDoor.Cv
set_option maxRecDepth 100000

theorem mkB_of {x : ByteArray} {l : Bs} (h : x.data.toList = l) : x = mkB l := by subst h; simp [mkB]
theorem app_list (a b : ByteArray) : (a ++ b).data.toList = a.data.toList ++ b.data.toList := by simp [ByteArray.data_append]
/-- A cell of a row of one's own is written over. -/
theorem own_store {w : World} {base size n c g p : Nat} {e : TypeId} {xs : List Value} (h : w.ownsRow base e size (.slice (some ⟨g, 0, none⟩) n c) n xs) (u : Value) :
    (w.setCell ⟨g, p, none⟩ u).ownsRow base e size (.slice (some ⟨g, 0, none⟩) n c) n (xs.set p u) := by
  obtain ⟨h1, hr⟩ := h
  refine ⟨by rw [List.length_set]; exact h1, ?_⟩
  rcases hr with ⟨e1, _⟩ | ⟨g', cap, cur, e1, hg, hh, hcap, hmx, hsz, htk⟩
  · cases e1
  · injection e1 with e1 _ e3
    injection e1 with e1
    injection e1 with e1 _ _
    subst e1; subst e3
    refine .inr ⟨g, c, cur.setIfInBounds p u, rfl, hg, ?_, hcap, hmx, by simp [hsz], ?_⟩
    · rw [heap_setCell_same w g p _ _ _ hh]
    · rw [Array.toList_setIfInBounds, List.take_set, htk]
theorem own_frozen {w : World} {base size n c g p : Nat} {e : TypeId} {xs : List Value} (h : w.ownsRow base e size (.slice (some ⟨g, 0, none⟩) n c) n xs) : w.frozen? ⟨g, p, none⟩ = false := by
  obtain ⟨h1, hr⟩ := h
  rcases hr with ⟨e1, _⟩ | ⟨g', cap, cur, e1, hg, hh, _⟩
  · cases e1
  · injection e1 with e1 _ e3
    injection e1 with e1
    injection e1 with e1 _ _
    subst e1
    simp [World.frozen?, hh]
theorem grown_cell (w : World) (a : Addr) (u : Value) : w.grownBy (w.setCell a u) (some a.block) := grown_set w a u

set_option maxHeartbeats 4000000 in
theorem rended_any (ls : List Ln) (en : ByteArray) (A : Option Addr) (n c base : Nat) (w : World) (h : OwnL w base A n c ls) (hn : n ≤ 274877906944) :
    Calls Tryz.prog 46 #[.slice A n c, .string en] w fun e w' => e = .returned (.slice A n c) ∧ OwnL w' base A n c (ended en.data.toList ls) ∧ w.grownBy w' (Value.slice A n c).ownBlock := by
  have hl : n = ls.length := h.sees.len
  rcases own_form h with ⟨rfl, rfl, _⟩ | ⟨g, rfl, _, hgl, _, _, _⟩
  · have e0 : ls = [] := List.eq_nil_of_length_eq_zero hl.symm
    subst e0
    have H := Lib.hid h
    clear hl h
    go_enter Tryz.func46, Tryz.ntmps46
    go_wp2_with fail
    go_loopw [5] (fun i wr => i = .int .i64 0 ∧ wr = w) (fun _ _ => 0)
    case atStart => exact ⟨rfl, rfl⟩
    case round =>
      obtain ⟨rfl, rfl⟩ := hrel
      go_wp2_with fail
      go_ret
      exact ⟨rfl, H.out, World.grownBy.refl _ _⟩
  · have Hl := Lib.hid hl
    have H := Lib.hid h
    clear h hl
    go_enter Tryz.func46, Tryz.ntmps46
    go_wp2_with fail
    go_loopw [5] (fun i wr => ∃ k : Nat, k ≤ n ∧ i = .int .i64 k ∧ Hid (k = 0 ∨ k + 1 ≤ n) ∧ Hid (OwnL wr base (some ⟨g, 0, none⟩) n c (endK en.data.toList ls k)) ∧ Hid (w.grownBy wr (some g))) (fun i _ => n - (intOf i).toNat)
    case atStart => exact ⟨0, Nat.zero_le _, rfl, Lib.hid (.inl rfl), Lib.hid (by have := H.out; simpa [endK] using this), Lib.hid (World.grownBy.refl _ _)⟩
    case round =>
      obtain ⟨k, hk, rfl, HK, HO, HG⟩ := hrel
      have hk0 : (0 : Int) ≤ (k : Int) := by omega
      have hkw : IntKind.i64.wrap ((k : Int) + 1) = (k : Int) + 1 := IntWalk.i64_in _ (by omega)
      by_cases hlt : k + 1 < n
      · have hkn : (k : Int) + 1 < (n : Int) := by omega
        have hkn2 : (k : Int) < (n : Int) := by omega
        obtain ⟨x, hx⟩ : ∃ x, ls[k]? = some x := ⟨ls[k]'(by have := Hl.out; omega), List.getElem?_eq_getElem (by have := Hl.out; omega)⟩
        obtain ⟨e1, e2⟩ := endK_at (e := en.data.toList) hx
        obtain ⟨b, o, hA, _, _, hc2⟩ := HO.out.sees.at_ e1
        injection hA with hA
        injection hA with hA1 hA2
        subst hA1; subst hA2
        obtain ⟨t, ht⟩ : ∃ t, t = ByteArray.mk x.2.toArray := ⟨_, rfl⟩
        have hc3 : wr.cell? ⟨g, 0 + k * 2 + 1, none⟩ = some (.string t) := by rw [ht]; exact hc2
        have hc4 : wr.cell? ⟨g, k * 2 + 1, none⟩ = some (.string t) := by rw [← hc3, Nat.zero_add]
        have hes := empty_iff t
        have Hlt := Lib.hid hlt
        by_cases h0 : x.2 = []
        · have hz : t.size = 0 := by rw [ht, h0]; rfl
          rw [decide_eq_true hz] at hes
          have hfz := own_frozen (p := k * 2 + 1) HO.out
          have hfz2 := own_frozen (p := 0 + k * 2 + 1) HO.out
          have HO2 : Hid (OwnL (wr.setCell ⟨g, k * 2 + 1, none⟩ (.string en)) base (some ⟨g, 0, none⟩) n c (endK en.data.toList ls (k + 1))) := Lib.hid (by
            have h5 := own_store HO.out (p := k * 2 + 1) (.string en)
            have h6 : endK en.data.toList ls (k + 1) = (endK en.data.toList ls k).set k (x.1, en.data.toList) := by rw [e2, h0]; rfl
            have h7 : Li.encs en.data.toList = .string en := rfl
            rw [h6]
            unfold OwnL
            rw [lcells_set _ k x (x.1, en.data.toList) e1 rfl, h7]
            exact h5)
          have HG2 : Hid (w.grownBy (wr.setCell ⟨g, k * 2 + 1, none⟩ (.string en)) (some g)) := Lib.hid (grown_trans HG.out (grown_cell wr ⟨g, k * 2 + 1, none⟩ _))
          clear hx e1 e2 hc2 h0 hz ht
          go_wp2_with fail
          go_roundw
          case rel => exact ⟨k + 1, by have := Hlt.out; omega, by go_num, Lib.hid (.inr (by have := Hlt.out; omega)), by first | exact HO2 | (rw [Nat.zero_add]; exact HO2), by first | exact HG2 | (rw [Nat.zero_add]; exact HG2)⟩
          case measure => have := Hlt.out; simp [intOf]; omega
        · have hz : ¬ t.size = 0 := fun hz => h0 (List.eq_nil_of_length_eq_zero (by rw [ht] at hz; exact hz))
          rw [decide_eq_false hz] at hes
          have HO2 : Hid (OwnL wr base (some ⟨g, 0, none⟩) n c (endK en.data.toList ls (k + 1))) := Lib.hid (by
            have h6 : endK en.data.toList ls (k + 1) = endK en.data.toList ls k := by
              rw [e2]
              have : (x.1, or2 x.2 en.data.toList) = x := by rw [or2, if_neg h0]
              rw [this]
              obtain ⟨hk3, hx3⟩ := List.getElem?_eq_some_iff.1 e1
              rw [← hx3]
              exact List.set_getElem_self hk3
            rw [h6]
            exact HO.out)
          clear hx e1 e2 hc2 h0 hz ht
          go_wp2_with fail
          go_roundw
          case rel => exact ⟨k + 1, by have := Hlt.out; omega, by go_num, Lib.hid (.inr (by have := Hlt.out; omega)), HO2, HG⟩
          case measure => have := Hlt.out; simp [intOf]; omega
      · have hkn : ¬ (k : Int) + 1 < (n : Int) := by omega
        have HF : Hid (OwnL wr base (some ⟨g, 0, none⟩) n c (ended en.data.toList ls)) := Lib.hid (by
          have hk2 := HK.out
          have hl := Hl.out
          have e3 : k = ls.length - 1 := by omega
          rw [← endK_last, ← e3]
          exact HO.out)
        clear HK HO
        go_wp2_with fail
        go_ret
        exact ⟨rfl, HF.out, HG.out⟩

set_option maxHeartbeats 4000000 in
theorem rjoin_any (ls : List Ln) (A : Option Addr) (n c : Nat) (w : World) (h : SeesL w w.heap.size A n ls) (hn : n ≤ 100000000) (hz : ∀ x ∈ ls, x.1.length + x.2.length ≤ 1000000) :
    Calls Tryz.prog 45 #[.slice A n c] w fun e w' => e = .returned (.string (mkB (join ls))) ∧ ∃ q, w' = w.drewN q := by
  have hl := h.len
  have H := Lib.hid h
  have Hl := Lib.hid hl
  have Hz := Lib.hid hz
  clear h hl hz
  go_enter Tryz.func45, Tryz.ntmps45
  go_wp2_with fail
  go_loopw [3, 4] (fun s i wr => ∃ (k : Nat) (x : ByteArray), k ≤ n ∧ i = .int .i64 k ∧ s = .string x ∧ x.size ≤ 1000000 * k ∧ Hid (x.data.toList = join (ls.take k)) ∧ Hid (∃ q, wr = w.drewN q)) (fun _ i _ => n - (intOf i).toNat)
  case atStart => exact ⟨0, ⟨#[]⟩, Nat.zero_le _, rfl, rfl, Nat.zero_le _, Lib.hid rfl, Lib.hid ⟨0, rfl⟩⟩
  case round =>
    obtain ⟨k, x, hk, rfl, rfl, hx, HX, HW⟩ := hrel
    have hk0 : (0 : Int) ≤ (k : Int) := by omega
    by_cases hlt : k < n
    · have hkn : (k : Int) < (n : Int) := by omega
      obtain ⟨y, hy⟩ : ∃ y, ls[k]? = some y := ⟨ls[k]'(by have := Hl.out; omega), List.getElem?_eq_getElem (by have := Hl.out; omega)⟩
      have hyz := Hz.out y (List.mem_of_getElem? hy)
      obtain ⟨q, hq⟩ := HW.out
      have hsee : SeesL wr wr.heap.size A n ls := by rw [hq]; exact ((H.out.below (below_drewN (Below.refl _ _) q)).more (Nat.le_refl _))
      obtain ⟨b, o, rfl, hb, hc1, hc2⟩ := hsee.at_ hy
      obtain ⟨t1, ht1⟩ : ∃ t, t = ByteArray.mk y.1.toArray := ⟨_, rfl⟩
      obtain ⟨t2, ht2⟩ : ∃ t, t = ByteArray.mk y.2.toArray := ⟨_, rfl⟩
      have hc1' : wr.cell? ⟨b, o + k * 2, none⟩ = some (.string t1) := by rw [ht1]; exact hc1
      have hc2' : wr.cell? ⟨b, o + k * 2 + 1, none⟩ = some (.string t2) := by rw [ht2]; exact hc2
      have hd1 : ∀ q, (wr.drewN q).cell? ⟨b, o + k * 2, none⟩ = some (.string t1) := fun _ => hc1'
      have hd2 : ∀ q, (wr.drewN q).cell? ⟨b, o + k * 2 + 1, none⟩ = some (.string t2) := fun _ => hc2'
      have l1 : t1.data.toList = y.1 := by rw [ht1]
      have l2 : t2.data.toList = y.2 := by rw [ht2]
      have z1 : t1.size = y.1.length := by rw [← l1]; rfl
      have z2 : t2.size = y.2.length := by rw [← l2]; rfl
      have ha1 := fun W => run_string_add_sum (P := Tryz.prog) W x t1 (by omega)
      obtain ⟨O1, hO1⟩ : ∃ z, z = x ++ t1 := ⟨_, rfl⟩
      rw [← hO1] at ha1
      have hO1z : O1.size = x.size + t1.size := by rw [hO1, ByteArray.size_append]
      have ha2 := fun W => run_string_add_sum (P := Tryz.prog) W O1 t2 (by omega)
      obtain ⟨O2, hO2⟩ : ∃ z, z = O1 ++ t2 := ⟨_, rfl⟩
      rw [← hO2] at ha2
      have hO2z : O2.size ≤ 1000000 * (k + 1) := by rw [hO2, ByteArray.size_append]; omega
      have HX2 : Hid (O2.data.toList = join (ls.take (k + 1))) := Lib.hid (by
        rw [hO2, app_list, hO1, app_list, HX.out, l1, l2, List.take_add_one, hy, join_append]
        simp [join])
      have HW2 : Hid (∀ r, ∃ q, wr.drewN r = w.drewN q) := Lib.hid (fun r => ⟨q + r, by rw [hq]; first | rfl | simp [World.drewN, Nat.add_assoc]⟩)
      have Hlt := Lib.hid hlt
      clear hO1 hO1z hO2 HX hyz z1 z2 ht1 ht2 l1 l2 hc1 hc2 hlt hx hq hsee hy HW
      go_wp2_with fail
      go_quiet (fail)
      go_wp2_with fail
      go_roundw
      case rel => first | exact ⟨k + 1, O2, Hlt.out, by go_num, rfl, hO2z, HX2, Lib.hid (HW2.out _)⟩ | exact ⟨k + 1, Hlt.out, by go_num, hO2z, HX2, Lib.hid (HW2.out _)⟩
      case measure => have := Hlt.out; simp [intOf]; omega
    · obtain rfl : k = n := by omega
      have HXl : Hid (x = mkB (join ls)) := Lib.hid (mkB_of (by rw [HX.out, List.take_of_length_le (by have := Hl.out; omega)]))
      have hkn : ¬ (k : Int) < (k : Int) := by omega
      clear HX
      go_wp2_with fail
      go_ret
      exact ⟨by rw [HXl.out]; rfl, HW.out⟩
end Go.Proofs.YtapgaglkkgbgkaaGreatDoor.In
