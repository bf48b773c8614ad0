/- The law's remarks of ini: what the function answers. Conditions: texts of a million bytes at most. -/
import Derived.Test.YtapgaglkkgbgkaaGreatDoorInRemM
import Derived.Test.YtapgaglkkgbgkaaGreatDoorMwInTnM
import Derived.Deep.QuietTactic
namespace Go.Proofs.YtapgaglkkgbgkaaGreatDoor.In
open Go.RowKit Go.Proofs.YtapgaglkkgbgkaaGreatDoor.Jd Go.Proofs.YtapgaglkkgbgkaaGreatDoor.Li Go.Proofs.YtapgaglkkgbgkaaGreatDoor.Cv
set_option maxRecDepth 100000

theorem elem_st : Elem Tryz.prog 28 9 (.string ⟨#[]⟩) 1 16 := ⟨Tryz.underlying28, by kernel_rfl, rfl, by omega⟩
theorem src_st (W : World) (x : ByteArray) (g : Nat) (hg : g = W.heap.size) : Src Tryz.prog 1 28 (.slice (some ⟨g, 0, none⟩) 1 1) 1 [.string x] (W.alloc (Obj.cells #[Value.string x] 9)) := by
  subst hg
  refine Src.ofSlice _ Tryz.underlying28 ⟨W.heap.size, 0, none⟩ 1 1 [.string x] rfl (fun j u hu => ?_) (by intro u hu; simp at hu; subst hu; rfl)
  rw [Addr.add_lit, cell_of_row _ _ _ _ _ _ (heap_alloc_new W _), ← hu, Nat.zero_add]
  simp
/-- A row of texts of one's own. -/
def OwnSt (w : World) (base : Nat) (A : Option Addr) (n c : Nat) (rs : List Bs) : Prop := w.ownsRow base 9 1 (.slice A n c) n (rs.map Li.encs)
theorem OwnSt.alloc {w : World} {base n c : Nat} {A : Option Addr} {rs : List Bs} (h : OwnSt w base A n c rs) (o : Obj) : (w.alloc o).ownsRow base 9 1 (.slice A n c) n (rs.map Li.encs) := World.ownsRow.alloc h o
theorem OwnSt.len {w : World} {base n c : Nat} {A : Option Addr} {rs : List Bs} (h : OwnSt w base A n c rs) : n = rs.length := by have := h.1; rw [List.length_map] at this; omega
theorem OwnSt.sees {w : World} {base n c : Nat} {A : Option Addr} {rs : List Bs} (h : OwnSt w base A n c rs) : SeesV w w.heap.size A n (rs.map Li.encs) := by
  have hl := h.len
  rcases own_form h with ⟨rfl, rfl, hl2⟩ | ⟨g, rfl, _, hgl, _, _, hc⟩
  · rw [hl2]
    exact ⟨rfl, fun j u hu => by simp at hu⟩
  · exact ⟨by rw [List.length_map]; exact hl, fun j u hu => ⟨g, 0, rfl, hgl, hc j u hu⟩⟩
/-- What was told, and what is left. -/
def RemSt (s : ByteArray) (a k : Nat) (rs : List Bs) : Prop := remF [] s.data.toList = rs ++ (if k ≤ s.size then remF ((s.data.toList.drop a).take (k - a)) (s.data.toList.drop k) else [])
theorem cur_more {s : ByteArray} {a k : Nat} (ha : a ≤ k) (hk : k < s.size) : (s.data.toList.drop a).take (k - a) ++ [s[k]] = (s.data.toList.drop a).take (k + 1 - a) := by
  have hd := drop_at hk
  have e : k + 1 - a = (k - a) + 1 := by omega
  have h1 : (s.data.toList.drop a)[k - a]? = some s[k] := by
    rw [List.getElem?_drop, show a + (k - a) = k by omega]
    have := List.getElem?_drop (xs := s.data.toList) (i := k) (j := 0)
    rw [hd] at this
    exact this.symm.trans rfl
  rw [e, List.take_add_one, h1]
  rfl
theorem rem_on {s : ByteArray} {a k : Nat} {rs : List Bs} (ha : a ≤ k) (hk : k < s.size) (h10 : s[k] ≠ 10) (h : RemSt s a k rs) : RemSt s a (k + 1) rs := by
  unfold RemSt at h ⊢
  rw [if_pos (by omega), drop_at hk, remF, if_neg h10, cur_more ha hk] at h
  rw [if_pos (by omega)]
  exact h
theorem rem_end {s : ByteArray} {a k : Nat} {rs : List Bs} (hk : k ≤ s.size) (he : k = s.size ∨ ∃ hlt : k < s.size, s[k] = 10) (h : RemSt s a k rs) : RemSt s (k + 1) (k + 1) (rs ++ remOne ((s.data.toList.drop a).take (k - a))) := by
  unfold RemSt at h ⊢
  rw [if_pos hk] at h
  rcases he with he | ⟨hlt, h10⟩
  · subst he
    rw [if_neg (by omega), List.append_nil]
    have hl : s.data.toList.length = s.size := rfl
    rw [show s.data.toList.drop s.size = [] from List.drop_of_length_le (by rw [hl]; exact Nat.le_refl _), remF] at h
    exact h
  · rw [drop_at hlt, remF, if_pos h10] at h
    rw [if_pos (by omega), h, Nat.sub_self, List.take_zero, List.append_assoc]
theorem cur_head {s : ByteArray} {a k : Nat} (ha : a < k) (hk : k ≤ s.size) : ∃ r, (s.data.toList.drop a).take (k - a) = s[a] :: r := by
  have hd := drop_at (s := s) (k := a) (by omega)
  obtain ⟨q, hq⟩ : ∃ q, k - a = q + 1 := ⟨k - a - 1, by omega⟩
  rw [hd, hq, List.take_succ_cons]
  exact ⟨_, rfl⟩
theorem ext_cur {s : ByteArray} {a k : Nat} (_ : k ≤ s.size) : (s.extract a k).data.toList = (s.data.toList.drop a).take (k - a) := by
  rw [Lib.extract_eq]
theorem seesv_at {w : World} {B n k : Nat} {A : Option Addr} {rs : List Bs} (h : SeesV w B A n (rs.map Li.encs)) (hk : k < n) : ∃ b o y, A = some ⟨b, o, none⟩ ∧ rs[k]? = some y ∧ b < B ∧ w.cell? ⟨b, o + k, none⟩ = some (.string ⟨y.toArray⟩) := by
  have hl := h.len
  rw [List.length_map] at hl
  have hkl : k < rs.length := by omega
  obtain ⟨b, o, e, hb, hc⟩ := h.cell k (Li.encs rs[k]) (by rw [List.getElem?_map, List.getElem?_eq_getElem hkl]; rfl)
  exact ⟨b, o, rs[k], e, List.getElem?_eq_getElem hkl, hb, hc⟩
def RemP (w : World) (R : List Bs) (e : Ending) (w' : World) : Prop := ∃ A n c, e = .returned (.slice A n c) ∧ OwnSt w' w.heap.size A n c R ∧ Below w.heap.size w w'

set_option maxHeartbeats 4000000 in
theorem remarks_any (s : ByteArray) (w : World) (hs : s.size ≤ 1000000) : Calls Tryz.prog 24 #[.string s] w (RemP w (remF [] s.data.toList)) := by
  go_enter Tryz.func24, Tryz.ntmps24
  go_wp2_with fail
  go_loopw [3, 4, 5] (fun ov av iv wr => ∃ (k a n c : Nat) (A : Option Addr) (rs : List Bs), k ≤ s.size + 1 ∧ a ≤ k ∧ ov = .slice A n c ∧ av = .int .i64 a ∧ iv = .int .i64 k ∧ Hid (OwnSt wr w.heap.size A n c rs) ∧ Hid (n ≤ k) ∧ Hid (Below w.heap.size w wr) ∧ Hid (RemSt s a k rs)) (fun _ _ i _ => s.size + 1 - (intOf i).toNat)
  case atStart => exact ⟨0, 0, 0, 0, none, [], Nat.zero_le _, Nat.le_refl _, rfl, rfl, rfl, Lib.hid (World.ownsRow_nil _ _ _ _), Lib.hid (Nat.le_refl _), Lib.hid (Below.refl _ _), Lib.hid (by unfold RemSt; rw [if_pos (Nat.zero_le _)]; simp)⟩
  case round =>
    obtain ⟨k, a, n, c, A, rs, hk, ha, rfl, rfl, rfl, HO, Hn, HW, HR⟩ := hrel
    have ha0 : (0 : Int) ≤ (a : Int) := by omega
    have hk0 : (0 : Int) ≤ (k : Int) := by omega
    have hak : (a : Int) ≤ (k : Int) := by omega
    by_cases hks : k ≤ s.size
    · have hksI : (k : Int) ≤ (s.size : Int) := by omega
      by_cases hgo : ∃ hlt : k < s.size, s[k] ≠ 10
      · obtain ⟨hlt, h10⟩ := hgo
        have hkn : (k : Int) < (s.size : Int) := by omega
        have n10 : s[k].toNat ≠ 10 := ne_toNat (by decide) h10
        have q1 : ((s[k].toNat : Int) != 10) = true := by rw [bne_iff_ne]; omega
        have HR2 : Hid (RemSt s a (k + 1) rs) := Lib.hid (rem_on ha hlt h10 HR.out)
        have HK : Hid (k + 1 ≤ s.size + 1 ∧ a ≤ k + 1 ∧ n ≤ k + 1) := Lib.hid ⟨by omega, by omega, by have := Hn.out; omega⟩
        clear HR h10 n10
        go_wp2_with fail
        go_roundw
        case rel => exact ⟨k + 1, a, n, c, A, rs, HK.out.1, HK.out.2.1, rfl, rfl, by go_num, HO, Lib.hid HK.out.2.2, HW, HR2⟩
        case measure => have := HK.out.1; simp [intOf]; omega
      · have he : k = s.size ∨ ∃ hlt : k < s.size, s[k] = 10 := by
          by_cases hlt : k < s.size
          · exact .inr ⟨hlt, Classical.byContradiction fun h => hgo ⟨hlt, h⟩⟩
          · exact .inl (by omega)
        have hR := rem_end hks he HR.out
        have hend : (∃ hlt : k < s.size, (k : Int) < (s.size : Int) ∧ ((s[k].toNat : Int) != 10) = false) ∨ ¬ (k : Int) < (s.size : Int) := by
          rcases he with he | ⟨hlt, h10⟩
          · exact .inr (by omega)
          · exact .inl ⟨hlt, by omega, by rw [h10]; rfl⟩
        have HK : Hid (k + 1 ≤ s.size + 1 ∧ n ≤ k ∧ n + 1 ≤ 1099511627776 ∧ k ≤ s.size) := Lib.hid ⟨by omega, Hn.out, by have := Hn.out; omega, hks⟩
        have HEnd : Hid (∀ (A' : Option Addr) (n' c' : Nat) (rs' : List Bs) (W : World), OwnSt W w.heap.size A' n' c' rs' → n' ≤ k + 1 → Below w.heap.size w W → RemSt s (k + 1) (k + 1) rs' → ∃ (k' a n c : Nat) (A : Option Addr) (rs : List Bs), k' ≤ s.size + 1 ∧ a ≤ k' ∧ Value.slice A' n' c' = .slice A n c ∧ Value.int .i64 ((k : Int) + 1) = .int .i64 a ∧ Value.int .i64 ((k : Int) + 1) = .int .i64 k' ∧ Hid (OwnSt W w.heap.size A n c rs) ∧ Hid (n ≤ k') ∧ Hid (Below w.heap.size w W) ∧ Hid (RemSt s a k' rs)) :=
          Lib.hid (fun A' n' c' rs' W h1 h2 h3 h4 => ⟨k + 1, k + 1, n', c', A', rs', HK.out.1, Nat.le_refl _, rfl, by rw [Int.natCast_succ], by rw [Int.natCast_succ], Lib.hid h1, Lib.hid h2, Lib.hid h3, Lib.hid h4⟩)
        by_cases hlt2 : a < k
        · have haI : (a : Int) < (k : Int) := by omega
          obtain ⟨r, hcur⟩ := cur_head hlt2 hks
          have hal : a < s.size := by omega
          have haIs : (a : Int) < (s.size : Int) := by omega
          have hext := ext_cur (a := a) hks
          obtain ⟨X, hX⟩ : ∃ X, s.extract a k = X := ⟨_, rfl⟩
          rw [hX] at hext
          have hXs : X.size = k - a := by rw [← hX, ByteArray.size_extract]; omega
          obtain ⟨p, hp⟩ : ∃ p, p = X.size - 1 := ⟨_, rfl⟩
          have hpI : (X.size : Int) - 1 = (p : Int) := by omega
          have hpl : p < X.size := by omega
          have hp0 : (0 : Int) ≤ (p : Int) := by omega
          have hpn : (p : Int) < (X.size : Int) := by omega
          have hpn2 : (p : Int) ≤ (X.size : Int) := by omega
          have hw1 : IntKind.i64.wrap ((X.size : Int) - 1) = (p : Int) := by rw [hpI]; exact IntWalk.i64_in _ (by omega)
          have hw2 : wrap64 ((X.size : Int) - 1) = (p : Int) := by rw [hpI]; unfold wrap64; omega
          have hw3 : IntKind.i64.wrap (p : Int) = (p : Int) := IntWalk.i64_in _ (by omega)
          have hlast : ((s.data.toList.drop a).take (k - a)).getLast? = some X[p] := by
            rw [← hext, List.getLast?_eq_getElem?, show X.data.toList.length - 1 = p by rw [hp]; rfl]
            have := List.getElem?_drop (xs := X.data.toList) (i := p) (j := 0)
            rw [drop_at hpl] at this
            exact this.symm.trans rfl
          have hdl : ((s.data.toList.drop a).take (k - a)).dropLast = (X.extract 0 p).data.toList := by
            rw [← hext, Lib.extract_eq, List.dropLast_eq_take, show X.data.toList.length - 1 = p by rw [hp]; rfl]
            simp
          have hsg : (isRem ((s.data.toList.drop a).take (k - a)) = true ∧ (((s[a].toNat : Int) == 59) = true ∨ (((s[a].toNat : Int) == 59) = false ∧ ((s[a].toNat : Int) == 35) = true))) ∨ (isRem ((s.data.toList.drop a).take (k - a)) = false ∧ ((s[a].toNat : Int) == 59) = false ∧ ((s[a].toNat : Int) == 35) = false) := by
            rw [hcur]
            by_cases h59 : s[a] = 59
            · exact .inl ⟨by rw [h59]; rfl, .inl (by rw [h59]; rfl)⟩
            · have n59 := ne_toNat (n := 59) (by decide) h59
              by_cases h35 : s[a] = 35
              · exact .inl ⟨by rw [h35]; rfl, .inr ⟨by simp; omega, by rw [h35]; rfl⟩⟩
              · have n35 := ne_toNat (n := 35) (by decide) h35
                exact .inr ⟨by simp [isRem, h59, h35], by simp; omega, by simp; omega⟩
          rcases hsg with ⟨hrem, hsg⟩ | ⟨hrem, b59, b35⟩
          · have hone : remOne ((s.data.toList.drop a).take (k - a)) = [chop ((s.data.toList.drop a).take (k - a))] := by rw [remOne, if_pos hrem]
            rw [hone] at hR
            by_cases h13 : X[p] = 13
            · have q7 : ((X[p].toNat : Int) == 13) = true := by rw [h13]; rfl
              have hch : chop ((s.data.toList.drop a).take (k - a)) = (X.extract 0 p).data.toList := by rw [chop, if_pos (by rw [hlast, h13]), hdl]
              rw [hch] at hR
              have HR2 := Lib.hid hR
              have hn1 := HK.out.2.2.1
              have hwz := HW.out.size
              clear hch hR hone hrem hlast hdl hcur hext hXs hp hgo he HR h13
              rcases hend with ⟨hlt, hkn, q1⟩ | hkn
              all_goals
                rcases hsg with b59 | ⟨b59, b35⟩
                all_goals
                  go_wp2_with (at_builtin; refine wpList_append_row rfl (.tmp 53) (.tmp 55) _ _ rfl elem_st rfl rfl (HO.out.alloc _) (src_st wr (X.extract 0 p) _ rfl) hn1 (by simp; omega) ?_; intro A7 c7 w7 ho7 hg7 hat7)
                  have HE := Lib.hid (HEnd.out A7 (n + 1) c7 _ w7 (by unfold OwnSt; rw [List.map_append]; exact ho7) (by have := HK.out.2.1; omega) ((HW.out.alloc hwz _).grown hg7 (by simp; omega) (fun q hq => (World.ownsRow.lt HO.out q hq).1)) HR2.out)
                  clear ho7 hg7 hat7
                  go_wp2_with fail
                  go_roundw
                  case rel => exact HE.out
                  case measure => have := HK.out.1; simp [intOf]; omega
            · have n13 := ne_toNat (n := 13) (by decide) h13
              have q7 : ((X[p].toNat : Int) == 13) = false := by simp; omega
              have hch : chop ((s.data.toList.drop a).take (k - a)) = X.data.toList := by rw [chop, if_neg (by rw [hlast]; intro e; exact h13 (Option.some.inj e)), hext]
              rw [hch] at hR
              have HR2 := Lib.hid hR
              have hn1 := HK.out.2.2.1
              have hwz := HW.out.size
              clear hch hR hone hrem hlast hdl hcur hext hXs hp hgo he HR h13 n13
              rcases hend with ⟨hlt, hkn, q1⟩ | hkn
              all_goals
                rcases hsg with b59 | ⟨b59, b35⟩
                all_goals
                  go_wp2_with (at_builtin; refine wpList_append_row rfl (.tmp 53) (.tmp 55) _ _ rfl elem_st rfl rfl (HO.out.alloc _) (src_st wr X _ rfl) hn1 (by simp; omega) ?_; intro A7 c7 w7 ho7 hg7 hat7)
                  have HE := Lib.hid (HEnd.out A7 (n + 1) c7 _ w7 (by unfold OwnSt; rw [List.map_append]; exact ho7) (by have := HK.out.2.1; omega) ((HW.out.alloc hwz _).grown hg7 (by simp; omega) (fun q hq => (World.ownsRow.lt HO.out q hq).1)) HR2.out)
                  clear ho7 hg7 hat7
                  go_wp2_with fail
                  go_roundw
                  case rel => exact HE.out
                  case measure => have := HK.out.1; simp [intOf]; omega
          · rw [remOne, if_neg (by rw [hrem]; decide), List.append_nil] at hR
            have HE := Lib.hid (HEnd.out A n c rs wr HO.out (by have := HK.out.2.1; omega) HW.out hR)
            clear hR hrem hlast hdl hcur hext hXs hp hgo he HR hX hpI hpl hp0 hpn hpn2 hw1 hw2 hw3
            rcases hend with ⟨hlt, hkn, q1⟩ | hkn
            all_goals
              go_wp2_with fail
              go_roundw
              case rel => exact HE.out
              case measure => have := HK.out.1; simp [intOf]; omega
        · have haI : ¬ (a : Int) < (k : Int) := by omega
          have hc0 : (s.data.toList.drop a).take (k - a) = [] := by rw [show k - a = 0 by omega]; rfl
          rw [hc0, show remOne [] = [] from rfl, List.append_nil] at hR
          have HE := Lib.hid (HEnd.out A n c rs wr HO.out (by have := HK.out.2.1; omega) HW.out hR)
          clear hR hc0 hgo he HR
          rcases hend with ⟨hlt, hkn, q1⟩ | hkn
          all_goals
            go_wp2_with fail
            go_roundw
            case rel => exact HE.out
            case measure => have := HK.out.1; simp [intOf]; omega
    · have hksI : ¬ (k : Int) ≤ (s.size : Int) := by omega
      have hR := HR.out
      unfold RemSt at hR
      rw [if_neg hks, List.append_nil] at hR
      have HR2 := Lib.hid hR
      clear hR hks HR
      go_wp2_with fail
      refine bodyPost_ret (v := .slice A n c) (by simp [results, Tryz.results24, go_sem]) rfl ?_
      exact ⟨A, n, c, rfl, by rw [HR2.out]; exact HO.out, HW.out⟩
end Go.Proofs.YtapgaglkkgbgkaaGreatDoor.In
