/- csv.less: a row of one's own without the texts that are among others. No conditions. · tree.Names, told with the row that its answer is; csv.columnsOf. Conditions: fewer than 2^39 names. · csv.each at edges and at rows. Conditions: fewer than 100000 of them. · csv.columnsOf: the names of all levels below a tree's names, in order, each once. Conditions: fewer than 100000 rows, 2^39 names. -/
import Derived.Test.YtkgpjohfkfbfhaaGreatDoorMwRtLine
import Derived.Test.YtkgpjohfkfbfhaaGreatDoorSorted
import Derived.Test.YtkgpjohfkfbfhaaGreatDoorDelLay
import Derived.Test.YtkgpjohfkfbfhaaGreatDoorNames
namespace Go.Proofs.YtkgpjohfkfbfhaaGreatDoor.Cv
open Go.RowKit Go.Sort Go.Lib Go.Shelf Go.Proofs.YtkgpjohfkfbfhaaGreatDoor.Jd Go.Proofs.YtkgpjohfkfbfhaaGreatDoor.Li Go.Proofs.YtkgpjohfkfbfhaaGreatDoor.Pt
set_option maxRecDepth 100000

/-- Those that are not among others. -/
def lessF (ss : List Bs) (others : List ByteArray) : List Bs := ss.filter fun l => !(Lib.containsS others ⟨l.toArray⟩)

theorem contains_sees (ms : List ByteArray) (x : ByteArray) (A : Option Addr) (n c B : Nat) (w : World) (h : SeesV w B A n (ms.map Value.string)) (hn : n ≤ 1000000) :
    Calls Tryz.prog 92 #[.slice A n c, .string x] w fun e w' => e = .returned (.bool (Lib.containsS ms x)) ∧ w' = w := by
  have hl : n = ms.length := by have := h.len; rwa [List.length_map] at this
  cases ms with
  | nil =>
    obtain rfl : n = 0 := hl
    exact Tryz.slices_Contains_string_empty A c x w
  | cons m r =>
    obtain ⟨b, o, rfl, _, _⟩ := h.cell 0 (.string m) rfl
    have hc := Tryz.slices_Contains_string b o n c (m :: r) x w (by omega) (by omega) (fun j hj => by
      obtain ⟨b', o', he, _, hcell⟩ := h.cell j (.string ((m :: r)[j]'hj)) (by rw [List.getElem?_map, List.getElem?_eq_getElem hj]; rfl)
      injection he with he
      injection he with e1 e2
      subst e1; subst e2
      rw [hcell, List.getD_eq_getElem?_getD, List.getElem?_eq_getElem hj]
      rfl)
    rw [List.take_of_length_le (by omega)] at hc
    exact hc
theorem less1_any (ms : List ByteArray) (l : Bs) (A : Option Addr) (n c B gb : Nat) (w : World) (h : SeesV w B A n (ms.map Value.string)) (hg : w.cell? ⟨gb, 0, none⟩ = some (.slice A n c)) (hn : n ≤ 1000000) :
    FnGives Tryz.prog 91 #[.pointer (some ⟨gb, 0, none⟩)] #[encStr l] (.bool (Lib.containsS ms ⟨l.toArray⟩)) w := by
  have HC := Lib.hid (contains_sees ms ⟨l.toArray⟩ A n c B w h hn)
  clear h
  show Calls Tryz.prog 91 #[.string ⟨l.toArray⟩, .pointer (some ⟨gb, 0, none⟩)] w _
  go_enter Tryz.func91, Tryz.ntmps91
  go_wp2_with fail
  (with_reducible refine HC.out.mono ?_)
  rintro e w1 ⟨rfl, rfl⟩
  go_wp2_with fail
  go_ret
  exact ⟨rfl, 0, rfl⟩
theorem encStr_one : OneCell encStr := fun _ => rfl
theorem row1_cell {w : World} {g : Nat} {ss : List Bs} (h : Go.Sort.Holds encStr w g 0 ss.toArray) (j : Nat) (l : Bs) (hj : ss[j]? = some l) : w.cell? ⟨g, j, none⟩ = some (encStr l) := by
  have hl : j < ss.length := (List.getElem?_eq_some_iff.1 hj).1
  have := (h j (by simpa using hl)).1
  rw [Nat.zero_add] at this
  rw [this, getElem!_pos _ j (by simpa using hl)]
  simp only [List.getElem_toArray]
  rw [← (List.getElem?_eq_some_iff.1 hj).2]

theorem row_apart {w W : World} {B base n N c : Nat} {A A2 : Option Addr} {vs : List Value} {ss : List Bs} (hs : SeesV w B A n vs) (hv : vs ≠ []) (hr : Row1 W base A2 N c ss) (hn : ss ≠ []) (hB : B ≤ base) : ∀ b o g, A = some ⟨b, o, none⟩ → A2 = some ⟨g, 0, none⟩ → b ≠ g := by
  intro b o g h1 h2
  obtain ⟨v, r, rfl⟩ := List.exists_cons_of_ne_nil hv
  obtain ⟨b', o', ha, hb, _⟩ := hs.cell 0 v rfl
  rcases hr.2 with h0 | ⟨g', e, hg, _⟩
  · exact absurd h0 hn
  · rw [h1] at ha
    rw [h2] at e
    injection ha with ha
    injection ha with e1 _
    injection e with e
    injection e with e2 _
    omega

set_option maxHeartbeats 4000000 in
theorem less_any (ss : List Bs) (ms : List ByteArray) (A Ao : Option Addr) (N c no co base : Nat) (w : World) (h : Row1 w base A N c ss) (ho : SeesV w w.heap.size Ao no (ms.map Value.string)) (hd : ms ≠ [] → ss ≠ [] → ∀ b o g, Ao = some ⟨b, o, none⟩ → A = some ⟨g, 0, none⟩ → b ≠ g) (hb : base ≤ w.heap.size) (hN : N ≤ 1000000) (hno : no ≤ 1000000) :
    Calls Tryz.prog 61 #[.slice A N c, .slice Ao no co] w fun e w' => e = .returned (.slice A (lessF ss ms).length c) ∧ Row1 w' base A (lessF ss ms).length c (lessF ss ms) ∧ Below base w w' := by
  obtain ⟨hNl, hs⟩ := h
  have hb0 : Below w.heap.size w (w.alloc (Obj.cells #[.slice Ao no co] 36)) := (Below.refl _ _).alloc (Nat.le_refl _) _
  have hg0 : (w.alloc (Obj.cells #[.slice Ao no co] 36)).cell? ⟨w.heap.size, 0, none⟩ = some (.slice Ao no co) := by rw [cell_of_row _ _ _ _ _ _ (heap_alloc_new w _)]; rfl
  by_cases h0 : ss = []
  · subst h0
    obtain rfl : N = 0 := hNl
    have hD : Calls Tryz.prog 90 #[.slice A 0 c, .func (.func 91) #[] #[.pointer (some ⟨w.heap.size, 0, none⟩)]] (w.alloc (Obj.cells #[.slice Ao no co] 36)) fun e w' => e = .returned (.slice A 0 c) ∧ Below w.heap.size (w.alloc (Obj.cells #[.slice Ao no co] 36)) w' := by
      have HI : Hid (∀ (fv : Value) (W : World), Calls Tryz.prog 125 #[.slice A 0 c, fv] W fun e w' => e = .returned (.int .i64 (-1)) ∧ w' = W) := Lib.hid (fun fv W => AnyE.slices_IndexFunc_empty Tryz.idxS A c fv W)
      clear hs ho hg0
      go_enter Tryz.func90, Tryz.ntmps90
      go_wp2_with fail
      (with_reducible refine (HI.out _ _).mono ?_)
      rintro e w1 ⟨rfl, rfl⟩
      go_wp2_with fail
      go_ret
      exact ⟨rfl, Below.refl _ _⟩
    have HD := Lib.hid hD
    have HB0 := Lib.hid hb0
    clear hD hs ho hg0 hb0
    go_enter Tryz.func61, Tryz.ntmps61
    go_wp2_with fail
    (with_reducible refine HD.out.mono ?_)
    rintro e w1 ⟨rfl, hb1⟩
    go_wp2_with fail
    go_ret
    exact ⟨rfl, ⟨rfl, .inl rfl⟩, (HB0.out.trans hb1).mono hb⟩
  · rcases hs with e | ⟨g, rfl, hgb, hgl, hc, hH⟩
    · exact absurd e h0
    · have hgne : w.heap.size ≠ g := by omega
      have hsz : ss.toArray.size = N := by rw [List.size_toArray]; exact hNl.symm
      have eg : ∀ args w, (callFunc 91 args).run Tryz.prog w = .ok (.enter 91 args) w := enters_of Tryz.func91 (by kernel_rfl) rfl
      have hH' : Go.Sort.Holds encStr (w.alloc (Obj.cells #[.slice Ao no co] 36)) g 0 ss.toArray := fun j hj => ⟨Lib.cell?_alloc_some _ (hH j hj).1, by rw [World.frozen?_alloc_old _ _ _ (by show g ≠ w.heap.size; omega)]; exact (hH j hj).2⟩
      have hob : ∀ W : World, (∀ b o, b < w.heap.size → b ≠ g → W.cell? ⟨b, o, none⟩ = w.cell? ⟨b, o, none⟩) → SeesV W w.heap.size Ao no (ms.map Value.string) := fun W hW => ⟨ho.len, fun j u hu => by
        obtain ⟨b, o, ha, hbb, hcc⟩ := ho.cell j u hu
        exact ⟨b, o, ha, hbb, (hW b _ hbb (hd (by rintro rfl; simp at hu) h0 b o g ha rfl)).trans hcc⟩⟩
      have hcon := AnyE.slices_DeleteFunc Tryz.delS encStr encStr_one (fun l => Lib.containsS ms ⟨l.toArray⟩) 91 #[.pointer (some ⟨w.heap.size, 0, none⟩)] eg [] Tryz.zeroValue9 g 0 c ss.toArray (w.alloc (Obj.cells #[.slice Ao no co] 36))
        (fun W x hW => less1_any ms x Ao no co w.heap.size w.heap.size W (hob W fun b o hbb _ => (hb0.trans (hW.mono hb0.size)).cell (p := ⟨b, o, none⟩) hbb) ((hW.cell (p := ⟨w.heap.size, 0, none⟩) (by simp)).trans hg0) hno)
        (fun n os dk x _ => less1_any ms x Ao no co w.heap.size w.heap.size _ (hob _ fun b o hbb hbg => by
          unfold sortWorld
          rw [cell?_grow _ _ _ (by show b < (putRow _ _ _ _ _).heap.size; rw [size_putRow]; simp; omega), cell?_putRow_other _ _ g 0 _ _ (Or.inl (by simpa using hbg))]
          exact hb0.cell (p := ⟨b, o, none⟩) hbb) (by
          unfold sortWorld
          rw [cell?_grow _ _ _ (by show w.heap.size < (putRow _ _ _ _ _).heap.size; rw [size_putRow]; simp), cell?_putRow_other _ _ g 0 _ _ (Or.inl hgne)]
          exact hg0) hno)
        hH' (by rw [hsz]; omega) (by rw [hsz]; exact hc)
      rw [hsz] at hcon
      have hF : (ss.toArray.toList.filter fun x => !(Lib.containsS ms ⟨x.toArray⟩)) = lessF ss ms := by simp [lessF]
      rw [hF] at hcon
      have hle : (lessF ss ms).length ≤ ss.length := List.length_filter_le ..
      obtain ⟨r, hr⟩ : ∃ r, r = lessF ss ms := ⟨_, rfl⟩
      rw [← hr] at hcon hle ⊢
      have HC : Hid (Calls Tryz.prog 90 #[.slice (some ⟨g, 0, none⟩) N c, .func (.func 91) #[] #[.pointer (some ⟨w.heap.size, 0, none⟩)]] (w.alloc (Obj.cells #[.slice Ao no co] 36)) fun e w' => e = .returned (.slice (some ⟨g, 0, none⟩) r.length c) ∧ Row1 w' base (some ⟨g, 0, none⟩) r.length c r ∧ Below base w w') := by
        refine Lib.hid (hcon.mono ?_)
        rintro e w' ⟨rfl, q, rfl⟩
        have hd : (r ++ List.replicate (N - r.length) ([] : Bs)).toArray.size = ss.toArray.size := by simp; omega
        have hH2 := Go.Sort.holds_putRow encStr (Sort.ahead (w.alloc (Obj.cells #[.slice Ao no co] 36)) q) g 0 ss.toArray (r ++ List.replicate (N - r.length) ([] : Bs)).toArray hH' hd
        refine ⟨rfl, ⟨rfl, .inr ⟨g, rfl, hgb, by rw [size_putRow]; simp; omega, by omega, fun j hj => ?_⟩⟩, ?_⟩
        · have hjr : j < r.length := by simpa using hj
          have hj2 : j < (r ++ List.replicate (N - r.length) ([] : Bs)).toArray.size := by simp; omega
          have := hH2 j hj2
          rw [getElem!_pos _ j hj2] at this
          rw [getElem!_pos _ j hj]
          simp only [List.getElem_toArray] at this ⊢
          rw [List.getElem_append_left hjr] at this
          exact this
        · exact (hb0.mono hb).trans (below_putRow encStr _ q hgb)
      clear hcon hH' hH hob ho hle hr hF eg hg0 hb0 hsz hNl
      go_enter Tryz.func61, Tryz.ntmps61
      go_wp2_with fail
      (with_reducible refine HC.out.mono ?_)
      rintro e w1 ⟨rfl, hrow, hb1⟩
      have HR := Lib.hid hrow
      clear hrow
      go_wp2_with fail
      go_ret
      exact ⟨rfl, HR.out, hb1⟩
end Go.Proofs.YtkgpjohfkfbfhaaGreatDoor.Cv
namespace Go.Proofs.YtkgpjohfkfbfhaaGreatDoor
open Go.RowKit
set_option maxRecDepth 100000

theorem compact_own {w : World} {base N c : Nat} {A : Option Addr} {zs : List (List UInt8)} (h : Row1 w base A N c zs) (hsz : N < 4611686018427387904) :
    Calls Tryz.prog 101 #[.slice A N c] w fun e w' => e = .returned (.slice A (once zs).length c) ∧ Row1 w' base A (once zs).length c (once zs) ∧ Below base w w' := by
  have hle := once_le zs
  obtain ⟨hN, hs⟩ := h
  subst hN
  by_cases h0 : zs = []
  · subst h0
    have hl : (once []).length = 0 := by simpa using hle
    refine (Tryz.slices_Compact_string_empty A c w).mono ?_
    rintro e w' ⟨rfl, rfl⟩
    rw [hl]
    exact ⟨rfl, ⟨hl.symm, .inl (List.eq_nil_of_length_eq_zero hl)⟩, Below.refl _ _⟩
  · rcases hs with e | ⟨g, rfl, hg, hgl, hc, hH⟩
    · exact absurd e h0
    · refine (Tryz.slices_Compact_string g 0 c zs w hH (by omega) hc).mono ?_
      rintro e w' ⟨rfl, q, rfl⟩
      have hle' : (Go.Lib.compact zs).length ≤ zs.length := hle
      have hd : (Go.Lib.compact zs ++ List.replicate (zs.length - (Go.Lib.compact zs).length) ([] : List UInt8)).toArray.size = zs.toArray.size := by simp; omega
      have hH2 := Go.Sort.holds_putRow encStr (Go.Sort.ahead w q) g 0 zs.toArray _ hH hd
      refine ⟨rfl, ⟨rfl, .inr ⟨g, rfl, hg, by simpa using hgl, Nat.le_trans hle hc, fun j hj => ?_⟩⟩, below_putRow encStr _ q hg⟩
      have hjr : j < (Go.Lib.compact zs).length := by
        have h2 : j < (once zs).length := by simpa using hj
        exact h2
      have hj2 : j < (Go.Lib.compact zs ++ List.replicate (zs.length - (Go.Lib.compact zs).length) ([] : List UInt8)).toArray.size := by simp; omega
      have := hH2 j hj2
      rw [getElem!_pos _ j hj2] at this
      rw [getElem!_pos _ j hj]
      simp only [List.getElem_toArray] at this ⊢
      rw [List.getElem_append_left hjr] at this
      exact this

set_option maxHeartbeats 2000000 in
theorem names_own (xs : List Slc) (A0 : Option Addr) (n0 c0 B : Nat) (w : World) (hx : Forest w B A0 xs) (hn0 : n0 = xs.length) (hB : B ≤ w.heap.size) (hsz : (allNames xs).length ≤ 549755813888) (hl : xs.length ≤ 549755813888) :
    Calls Tryz.prog 67 #[.slice A0 n0 c0] w fun e w' => ∃ A' c', e = .returned (.slice A' (namesOf (allNames xs)).length c') ∧ Row1 w' w.heap.size A' (namesOf (allNames xs)).length c' (namesOf (allNames xs)) ∧ Below w.heap.size w w' := by
  have Hn0 := Lib.hid hn0
  have hnb : n0 ≤ 549755813888 := by omega
  clear hn0
  go_enter Tryz.func67, Tryz.ntmps67
  go_wp2_with fail
  go_loopw [3, 10] (fun s i wr => ∃ (k : Nat) (A : Option Addr) (N c : Nat), k ≤ n0 ∧ i = .int .i64 k ∧ s = .slice A N c ∧ wr.ownsRow w.heap.size 9 1 (.slice A N c) N (strs (allNames (xs.take k))) ∧ Below w.heap.size w wr) (fun _ i _ => n0 - (intOf i).toNat)
  case atStart => exact ⟨0, none, 0, 0, Nat.zero_le _, rfl, rfl, World.ownsRow_nil _ w.heap.size _ _, Below.refl _ _⟩
  case round =>
    obtain ⟨k, A, N, c, hk, rfl, rfl, ho, hb⟩ := hrel
    by_cases hlt : k < n0
    · obtain ⟨x, hxk⟩ : ∃ x, xs[k]? = some x := ⟨xs[k]'(by have := Hn0.out; omega), List.getElem?_eq_getElem _⟩
      obtain ⟨b, o, rfl, hbB, hcx, hh⟩ := hx k x hxk
      obtain ⟨xa, xn, xc, t⟩ := x
      simp only at hcx hh
      have hcw := (hb.cell (p := ⟨b, o + k, none⟩) (show b < w.heap.size by omega)).trans hcx
      have hkn : (k : Int) < (n0 : Int) := by omega
      have hk0 : (0 : Int) ≤ (k : Int) := by omega
      have hkb : k ≤ 549755813888 := by omega
      have Hn := Lib.hid hh.len
      have hap : Hid (allNames (xs.take (k + 1)) = allNames (xs.take k) ++ t.names) := by
        rw [List.take_add_one, hxk]
        exact Lib.hid (by simp [allNames])
      have hle : Hid ((allNames (xs.take (k + 1))).length ≤ 549755813888) := by
        have : (allNames (xs.take (k + 1))).length ≤ (allNames xs).length := by
          conv => rhs; rw [← List.take_append_drop (k + 1) xs]
          simp only [allNames, List.flatMap_append, List.length_append]
          omega
        exact Lib.hid (by omega)
      have hxn : xn ≤ 549755813888 := by
        have h1 := hle.out
        rw [hap.out, List.length_append, names_length] at h1
        have := Hn.out
        omega
      have hbw : b < w.heap.size := by omega
      clear hcx
      go_wp2_with fail
      go_loopw [3, 16] (fun s i wl => ∃ (j : Nat) (A : Option Addr) (N c : Nat), j ≤ xn ∧ i = .int .i64 j ∧ s = .slice A N c ∧ wl.ownsRow w.heap.size 9 1 (.slice A N c) N (strs (allNames (xs.take k) ++ t.names.take j)) ∧ Below w.heap.size w wl) (fun _ i _ => xn - (intOf i).toNat)
      case atStart => exact ⟨0, A, N, c, Nat.zero_le _, rfl, rfl, by rw [List.take_zero, List.append_nil]; exact ho, hb⟩
      case round =>
        clear ho
        obtain ⟨j, A, N, c, hj, rfl, rfl, ho, hbl⟩ := hrel
        by_cases hlj : j < xn
        · obtain ⟨b2, o2, s, kt, r, A', n', c', rfl, hb2, hs2, hc2, hn', hc', hk', hr, hd, hd2⟩ := (hh.keep fun p hp => hbl.cell (Nat.lt_of_lt_of_le hp hB)).split j hlj
          have hjn : (j : Int) < (xn : Int) := by omega
          have hj0 : (0 : Int) ≤ (j : Int) := by omega
          have hN : N = (allNames (xs.take k) ++ t.names.take j).length := by
            have := ho.1
            simp only [strs, List.length_map] at this
            omega
          have ht1 : Hid (strs (allNames (xs.take k) ++ t.names.take j) ++ strs [s] = strs (allNames (xs.take k) ++ t.names.take (j + 1))) := by
            have h1 := names_drop t j
            rw [hd] at h1
            have h2 : t.names[j]? = some s := by
              have := congrArg (·[0]?) h1
              simp [Tr.names] at this
              exact this.symm
            rw [List.take_add_one, h2]
            exact Lib.hid (by simp [strs])
          have hN2 : N + 1 ≤ 1099511627776 := by
            have h1 := hle.out
            rw [hap.out, List.length_append, names_length] at h1
            rw [hN, List.length_append, List.length_take]
            omega
          have hsz1 := hbl.size
          have hsrc : ∀ (W : World) (g : Nat), g = W.heap.size → Src Tryz.prog 1 36 (.slice (some ⟨g, 0, none⟩) 1 1) 1 (strs [s]) (W.alloc (Obj.cells #[Value.string s] 9)) := fun W g hg =>
            hg ▸ Src.laid Tryz.underlying36 rfl (fun j u hu => by rw [cell_of_row _ _ _ _ _ _ (heap_alloc_new W _), ← hu]; simp [strs]) (strs_one _)
          clear hd hd2 hr hN
          go_wp2_with (at_builtin; refine wpList_append_row rfl (.tmp 20) (.tmp 23) _ _ rfl elem_str rfl rfl ((ho.alloc _).alloc _) (hsrc _ _ (by simp)) hN2 (by simp; omega) ?_; intro A2 c2 w2 ho2 hg2 hat2)
          have hb2' : Below w.heap.size w w2 := ((hbl.alloc hbl.size _).alloc (by simp; omega) _).grown hg2 (by simp; omega) (fun q hq => (ho.lt q hq).1)
          go_roundw
          case rel => exact ⟨j + 1, A2, N + 1, c2, by omega, by go_num, rfl, by rw [← ht1.out]; exact ho2, hb2'⟩
          case measure => simp [intOf]; omega
        · obtain rfl : j = xn := by omega
          have ho' : wr.ownsRow w.heap.size 9 1 (.slice A N c) N (strs (allNames (xs.take (k + 1)))) := by
            rw [hap.out]
            rw [List.take_of_length_le (l := t.names) (by rw [names_length, Hn.out]; exact Nat.le_refl _)] at ho
            exact ho
          clear ho
          go_wp2_with fail
          go_roundw
          case rel => exact ⟨k + 1, A, N, c, by omega, by go_num, rfl, ho', hbl⟩
          case measure => simp [intOf]; omega
    · obtain rfl : k = n0 := by omega
      have ho' : wr.ownsRow w.heap.size 9 1 (.slice A N c) N (strs (allNames xs)) := by
        rw [List.take_of_length_le (by have := Hn0.out; omega)] at ho
        exact ho
      clear ho
      have hr := Row1.of ho'
      have hN : N < 4611686018427387904 := by
        have := ho'.1
        simp only [strs, List.length_map] at this
        omega
      have HS := Lib.hid (sort_row hr hN)
      have HC := Lib.hid (fun (W : World) (h : Row1 W w.heap.size A N c (sorted ((allNames xs).map (·.data.toList)))) => compact_own h hN)
      have hsz1 := hb.size
      clear hr ho'
      go_wp2_with fail
      refine HS.out.mono ?_
      rintro e w1 ⟨rfl, hr1, hb1⟩
      go_wp2_with fail
      refine (HC.out w1 hr1).mono ?_
      rintro e w2 ⟨rfl, hs2, hb2⟩
      go_wp2_with fail
      go_ret
      exact ⟨_, _, rfl, hs2, (hb.trans hb1).trans hb2⟩
theorem Row1.sees {w : World} {base N c : Nat} {A : Option Addr} {ss : List (List UInt8)} (h : Row1 w base A N c ss) : SeesV w w.heap.size A N (ss.map encStr) := by
  obtain ⟨hN, hs⟩ := h
  refine ⟨by rw [List.length_map]; exact hN, fun j u hu => ?_⟩
  rcases hs with rfl | ⟨g, rfl, _, hgl, _, hH⟩
  · simp at hu
  · rw [List.getElem?_map] at hu
    cases hj : ss[j]? with
    | none => rw [hj] at hu; cases hu
    | some l =>
      rw [hj] at hu
      refine ⟨g, 0, rfl, hgl, ?_⟩
      rw [Nat.zero_add, Cv.row1_cell hH j l hj]
      simpa using hu
end Go.Proofs.YtkgpjohfkfbfhaaGreatDoor
namespace Go.Proofs.YtkgpjohfkfbfhaaGreatDoor.Cv
open Go.RowKit Go.Proofs.YtkgpjohfkfbfhaaGreatDoor.Jd Go.Proofs.YtkgpjohfkfbfhaaGreatDoor.Li
set_option maxRecDepth 100000

theorem elem_trees : Elem Tryz.prog 35 30 (.slice none 0 0) 1 24 := ⟨Tryz.underlying35, by kernel_rfl, rfl, by omega⟩
theorem column1_any (s : ByteArray) (A : Option Addr) (n c : Nat) (w : World) : Calls Tryz.prog 94 #[.agg #[.string s, .slice A n c]] w fun e w' => e = .returned (.slice A n c) ∧ Below w.heap.size w w' := by
  have hb0 : Below w.heap.size w (w.alloc (Obj.cells #[.string s, .slice A n c] 53)) := (Below.refl _ _).alloc (Nat.le_refl _) _
  go_enter Tryz.func94, Tryz.ntmps94
  go_wp2_with fail
  go_ret
  exact ⟨rfl, hb0⟩

set_option maxHeartbeats 4000000 in
theorem eachT_any (rs : List Slc) (A : Option Addr) (n c B : Nat)  (w : World) (hB : B ≤ w.heap.size) (hn : n ≤ 100000) (hl : n = rs.length) (hK : ∀ (k : Nat) (x : Slc), rs[k]? = some x → ∃ b o s, A = some ⟨b, o, none⟩ ∧ b < B ∧ w.cell? ⟨b, o + k * 2, none⟩ = some (.string s) ∧ w.cell? ⟨b, o + k * 2 + 1, none⟩ = some (.slice x.at_ x.n x.c))
    (HF : ∀ (k : Nat) r, rs[k]? = some r → True) :
    Calls Tryz.prog 93 #[.slice A n c, .func (.func 94) #[] #[]] w (NwP w 30 (rs.map (fun x : Slc => Value.slice x.at_ x.n x.c)) n) := by
  obtain ⟨vs, hvs⟩ : ∃ vs, vs = rs.map (fun x : Slc => Value.slice x.at_ x.n x.c) := ⟨_, rfl⟩
  rw [← hvs]
  obtain ⟨i0, hi, hz0, hz1, hz2⟩ := info_parts elem_trees.info
  have hmk := fun W : World => run_make_row' (P := Tryz.prog) 35 30 (.slice none 0 0) 24 Tryz.underlying35 elem_trees.info rfl .i64 .i64 n (by omega) (by omega) W
  rw [partV_zero vs (.slice none 0 0) n] at hmk
  have Hl := Lib.hid (show n = vs.length by rw [hvs, List.length_map]; exact hl)
  have Hv := Lib.hid hvs
  have Hr := Lib.hid hl
  have HH := Lib.hid HF
  clear HF hi hz0 hz1 hz2 hl hvs
  go_enter Tryz.func93, Tryz.ntmps93
  go_wp2_with fail
  go_loopw [13] (fun i wr => ∃ (k : Nat), k ≤ n ∧ i = .int .i64 k ∧ Hid (wr.heap[w.heap.size]? = some (.cells (partV vs (.slice none 0 0) n k) 30 (0, 0))) ∧ Hid (Below w.heap.size w wr)) (fun i _ => n - (intOf i).toNat)
  case atStart => exact ⟨0, Nat.zero_le _, rfl, Lib.hid (heap_alloc_new w _), Lib.hid ((Below.refl _ _).alloc (Nat.le_refl _) _)⟩
  case round =>
    obtain ⟨k, hk, rfl, HG, HW⟩ := hrel
    by_cases hlt : k < n
    · obtain ⟨r, hr⟩ : ∃ r, rs[k]? = some r := ⟨_, List.getElem?_eq_getElem (by have := Hr.out; omega)⟩
      have hy : vs[k]? = some (.slice r.at_ r.n r.c) := by rw [Hv.out, List.getElem?_map, hr]; rfl
      obtain ⟨b, o, s, rfl, hbl, hc1, hc2⟩ := hK k r hr
      have hc3 := (HW.out.cell (p := ⟨b, o + k * 2, none⟩) (Nat.lt_of_lt_of_le hbl hB)).trans hc1
      have hc4 := (HW.out.cell (p := ⟨b, o + k * 2 + 1, none⟩) (Nat.lt_of_lt_of_le hbl hB)).trans hc2
      have hkn : (k : Int) < (n : Int) := by omega
      have hk0 : (0 : Int) ≤ (k : Int) := by omega
      have hgl := (Array.getElem?_eq_some_iff.1 HG.out).1
      have Hlt := Lib.hid hlt
      have HPs := Lib.hid (partV_set (z := .slice none 0 0) Hl.out hy)
      have hsz : k < (partV vs (.slice none 0 0) n k).size := by rw [partV_size Hl.out hk]; exact hlt
      have Hsz := Lib.hid hsz
      have hb1 : Below wr.heap.size wr (wr.alloc (Obj.cells #[.string s, .slice r.at_ r.n r.c] 53)) := (Below.refl _ _).alloc (Nat.le_refl _) _
      have HM := Lib.hid (column1_any s r.at_ r.n r.c (wr.alloc (Obj.cells #[.string s, .slice r.at_ r.n r.c] 53)))
      have Hb1 := Lib.hid hb1
      clear hc1 hc2 hb1
      clear hy hr hlt hsz
      go_wp2_with fail
      (with_reducible refine HM.out.mono ?_)
      rintro e w2 ⟨rfl, hb2⟩
      have hb12 : Below wr.heap.size wr w2 := Hb1.out.trans (hb2.mono (by simp))
      have hg2 : w2.heap[w.heap.size]? = some (.cells (partV vs (.slice none 0 0) n k) 30 (0, 0)) := (hb12.block _ hgl).trans HG.out
      have hcg : w2.cell? ⟨w.heap.size, k, none⟩ = some ((partV vs (.slice none 0 0) n k)[k]'Hsz.out) := by
        rw [cell_of_row _ _ _ _ _ _ hg2]
        exact Array.getElem?_eq_getElem Hsz.out
      obtain ⟨y0, hy0⟩ : ∃ y0, y0 = (partV vs (.slice none 0 0) n k)[k]'Hsz.out := ⟨_, rfl⟩
      rw [← hy0] at hcg
      have hfg : w2.frozen? ⟨w.heap.size, k, none⟩ = false := by simp [World.frozen?, hg2]
      have hg3 : (w2.setCell ⟨w.heap.size, k, none⟩ (.slice r.at_ r.n r.c)).heap[w.heap.size]? = some (.cells (partV vs (.slice none 0 0) n (k + 1)) 30 (0, 0)) := by
        rw [heap_setCell_same w2 _ k _ _ _ hg2, HPs.out]
      have HG3 := Lib.hid hg3
      have HB3 := Lib.hid (((HW.out.trans (hb12.mono HW.out.size)).setCell (p := ⟨w.heap.size, k, none⟩) (Nat.le_refl _) (.slice r.at_ r.n r.c)))
      clear hb2 hb12 hg2 hy0 hg3
      go_wp2_with fail
      go_roundw
      case rel => exact ⟨k + 1, Hlt.out, by go_num, HG3, HB3⟩
      case measure => have := Hlt.out; simp [intOf]; omega
    · obtain rfl : k = n := by omega
      have hg := HG.out
      rw [partV_all Hl.out] at hg
      have HG2 := Lib.hid hg
      clear hlt hg HG
      go_wp2_with fail
      go_ret
      exact ⟨w.heap.size, rfl, Nat.le_refl _, HG2.out, HW.out⟩

set_option maxHeartbeats 4000000 in
theorem eachN_any (ws : List Rw) (rs : List ByteArray) (A : Option Addr) (n c B : Nat)  (w : World) (hB : B ≤ w.heap.size) (hn : n ≤ 100000) (hl : n = rs.length) (h : SeesR w B A n ws)
    (HF : ∀ (k : Nat) r, rs[k]? = some r → ∀ q, ws[k]? = some q → ∀ W Af nf cf, Below w.heap.size w W → SeesL W B Af nf q.fs → Calls Tryz.prog 65 #[.agg #[.slice Af nf cf, .string q.en]] W fun e w' => e = .returned (.string r) ∧ Below W.heap.size W w') :
    Calls Tryz.prog 68 #[.slice A n c, .func (.func 65) #[] #[]] w (NwP w 9 (rs.map Value.string) n) := by
  obtain ⟨vs, hvs⟩ : ∃ vs, vs = rs.map Value.string := ⟨_, rfl⟩
  rw [← hvs]
  obtain ⟨i0, hi, hz0, hz1, hz2⟩ := info_parts elem_str.info
  have hmk := fun W : World => run_make_row' (P := Tryz.prog) 36 9 (.string ⟨#[]⟩) 16 Tryz.underlying36 elem_str.info rfl .i64 .i64 n (by omega) (by omega) W
  rw [partV_zero vs (.string ⟨#[]⟩) n] at hmk
  have Hl := Lib.hid (show n = vs.length by rw [hvs, List.length_map]; exact hl)
  have Hv := Lib.hid hvs
  have Hr := Lib.hid hl
  have HH := Lib.hid HF
  have Hwl := Lib.hid h.len
  clear HF hi hz0 hz1 hz2 hl hvs
  go_enter Tryz.func68, Tryz.ntmps68
  go_wp2_with fail
  go_loopw [13] (fun i wr => ∃ (k : Nat), k ≤ n ∧ i = .int .i64 k ∧ Hid (wr.heap[w.heap.size]? = some (.cells (partV vs (.string ⟨#[]⟩) n k) 9 (0, 0))) ∧ Hid (Below w.heap.size w wr)) (fun i _ => n - (intOf i).toNat)
  case atStart => exact ⟨0, Nat.zero_le _, rfl, Lib.hid (heap_alloc_new w _), Lib.hid ((Below.refl _ _).alloc (Nat.le_refl _) _)⟩
  case round =>
    obtain ⟨k, hk, rfl, HG, HW⟩ := hrel
    by_cases hlt : k < n
    · obtain ⟨r, hr⟩ : ∃ r, rs[k]? = some r := ⟨_, List.getElem?_eq_getElem (by have := Hr.out; omega)⟩
      have hy : vs[k]? = some (.string r) := by rw [Hv.out, List.getElem?_map, hr]; rfl
      obtain ⟨q, hq⟩ : ∃ q, ws[k]? = some q := ⟨_, List.getElem?_eq_getElem (by have := Hwl.out; omega)⟩
      obtain ⟨b, o, Af, nf, cf, rfl, hbl, hc1, hc2, hsf, _, _⟩ := h.at_ k q hq
      have hc3 := (HW.out.cell (p := ⟨b, o + k * 2, none⟩) (Nat.lt_of_lt_of_le hbl hB)).trans hc1
      have hc4 := (HW.out.cell (p := ⟨b, o + k * 2 + 1, none⟩) (Nat.lt_of_lt_of_le hbl hB)).trans hc2
      have hkn : (k : Int) < (n : Int) := by omega
      have hk0 : (0 : Int) ≤ (k : Int) := by omega
      have hgl := (Array.getElem?_eq_some_iff.1 HG.out).1
      have Hlt := Lib.hid hlt
      have HPs := Lib.hid (partV_set (z := .string ⟨#[]⟩) Hl.out hy)
      have hsz : k < (partV vs (.string ⟨#[]⟩) n k).size := by rw [partV_size Hl.out hk]; exact hlt
      have Hsz := Lib.hid hsz
      have hb1 : Below wr.heap.size wr (wr.alloc (Obj.cells #[.slice Af nf cf, .string q.en] 75)) := (Below.refl _ _).alloc (Nat.le_refl _) _
      have hq2 := HW.out.trans (hb1.mono HW.out.size)
      have HM := Lib.hid (HH.out k r hr q hq _ Af nf cf hq2 (hsf.below (hq2.mono hB)))
      have Hb1 := Lib.hid hb1
      clear hc1 hc2 hb1 hq2 hsf hq
      clear hy hr hlt hsz
      go_wp2_with fail
      (with_reducible refine HM.out.mono ?_)
      rintro e w2 ⟨rfl, hb2⟩
      have hb12 : Below wr.heap.size wr w2 := Hb1.out.trans (hb2.mono (by simp))
      have hg2 : w2.heap[w.heap.size]? = some (.cells (partV vs (.string ⟨#[]⟩) n k) 9 (0, 0)) := (hb12.block _ hgl).trans HG.out
      have hcg : w2.cell? ⟨w.heap.size, k, none⟩ = some ((partV vs (.string ⟨#[]⟩) n k)[k]'Hsz.out) := by
        rw [cell_of_row _ _ _ _ _ _ hg2]
        exact Array.getElem?_eq_getElem Hsz.out
      obtain ⟨y0, hy0⟩ : ∃ y0, y0 = (partV vs (.string ⟨#[]⟩) n k)[k]'Hsz.out := ⟨_, rfl⟩
      rw [← hy0] at hcg
      have hfg : w2.frozen? ⟨w.heap.size, k, none⟩ = false := by simp [World.frozen?, hg2]
      have hg3 : (w2.setCell ⟨w.heap.size, k, none⟩ (.string r)).heap[w.heap.size]? = some (.cells (partV vs (.string ⟨#[]⟩) n (k + 1)) 9 (0, 0)) := by
        rw [heap_setCell_same w2 _ k _ _ _ hg2, HPs.out]
      have HG3 := Lib.hid hg3
      have HB3 := Lib.hid (((HW.out.trans (hb12.mono HW.out.size)).setCell (p := ⟨w.heap.size, k, none⟩) (Nat.le_refl _) (.string r)))
      clear hb2 hb12 hg2 hy0 hg3
      go_wp2_with fail
      go_roundw
      case rel => exact ⟨k + 1, Hlt.out, by go_num, HG3, HB3⟩
      case measure => have := Hlt.out; simp [intOf]; omega
    · obtain rfl : k = n := by omega
      have hg := HG.out
      rw [partV_all Hl.out] at hg
      have HG2 := Lib.hid hg
      clear hlt hg HG
      go_wp2_with fail
      go_ret
      exact ⟨w.heap.size, rfl, Nat.le_refl _, HG2.out, HW.out⟩

end Go.Proofs.YtkgpjohfkfbfhaaGreatDoor.Cv
namespace Go.Proofs.YtkgpjohfkfbfhaaGreatDoor.Cv
open Go.RowKit Go.Proofs.YtkgpjohfkfbfhaaGreatDoor.Jd Go.Proofs.YtkgpjohfkfbfhaaGreatDoor.Li
set_option maxRecDepth 100000

def kidsL : Tr → List Tr
  | .nil => []
  | .cons _ k r => k :: kidsL r
/-- The names of all levels below. -/
def colsF (t : Tr) : List Bs := namesOf ((kidsL t).flatMap Tr.names)
theorem kids_of {w : World} {B : Nat} : ∀ {t : Tr} {A : Option Addr} {n : Nat}, Holds w B A n t → ∃ xs : List Slc, n = xs.length ∧ xs.map (·.t) = kidsL t ∧
    ∀ (k : Nat) (x : Slc), xs[k]? = some x → ∃ b o s, A = some ⟨b, o, none⟩ ∧ b < B ∧ w.cell? ⟨b, o + k * 2, none⟩ = some (.string s) ∧ w.cell? ⟨b, o + k * 2 + 1, none⟩ = some (.slice x.at_ x.n x.c) ∧ Holds w B x.at_ x.n x.t
  | .nil, _, _, h => ⟨[], h, rfl, fun k x hx => by simp at hx⟩
  | .cons s k r, _, _, ⟨b, o, rfl, hb, hs, ⟨A', n', c', hc, _, _, hk⟩, m, rfl, hr⟩ => by
    obtain ⟨xs, h1, h2, h3⟩ := kids_of hr
    refine ⟨⟨A', n', c', k⟩ :: xs, by simp [h1], by simp [h2, kidsL], fun j x hx => ?_⟩
    cases j with
    | zero =>
      simp only [List.getElem?_cons_zero, Option.some.injEq] at hx
      subst hx
      exact ⟨b, o, s, rfl, hb, by simpa using hs, by simpa using hc, hk⟩
    | succ j =>
      simp only [List.getElem?_cons_succ] at hx
      obtain ⟨b', o', s', he, hb', h4, h5, h6⟩ := h3 j x hx
      injection he with he
      injection he with e1 e2
      subst e1; subst e2
      exact ⟨b, o, s', rfl, hb', by rw [show o + (j + 1) * 2 = o + 2 + j * 2 by omega]; exact h4, by rw [show o + (j + 1) * 2 + 1 = o + 2 + j * 2 + 1 by omega]; exact h5, h6⟩

set_option maxHeartbeats 4000000 in
theorem columnsOf_any (t : Tr) (A : Option Addr) (n c : Nat) (w : World) (h : Holds w w.heap.size A n t) (hn : n ≤ 100000) (hz : ((kidsL t).flatMap Tr.names).length ≤ 549755813888) :
    Calls Tryz.prog 62 #[.slice A n c] w fun e w' => ∃ A' c', e = .returned (.slice A' (colsF t).length c') ∧ Row1 w' w.heap.size A' (colsF t).length c' (colsF t) ∧ Below w.heap.size w w' := by
  obtain ⟨xs, hl, hx, hk⟩ := kids_of h
  have hall : allNames xs = (kidsL t).flatMap Tr.names := by rw [← hx]; unfold allNames; rw [List.flatMap_map]
  have HE := Lib.hid (eachT_any xs A n c w.heap.size w (Nat.le_refl _) hn hl (fun k x hkx => by
    obtain ⟨b, o, s, h1, h2, h3, h4, _⟩ := hk k x hkx
    exact ⟨b, o, s, h1, h2, h3, h4⟩) (fun _ _ _ => trivial))
  have HN := Lib.hid (fun (g : Nat) (W : World) (hW : Below w.heap.size w W) (hg : W.heap[g]? = some (.cells (xs.map (fun x : Slc => Value.slice x.at_ x.n x.c)).toArray 30 (0, 0))) =>
    names_own xs (some ⟨g, 0, none⟩) n n W.heap.size W (fun j x hj => by
      obtain ⟨b, o, s, h1, h2, h3, h4, h5⟩ := hk j x hj
      refine ⟨g, 0, rfl, (Array.getElem?_eq_some_iff.1 hg).1, ?_, (h5.below hW).more hW.size⟩
      rw [cell_of_row _ _ _ _ _ _ hg, Nat.zero_add]
      simp [hj]) hl (Nat.le_refl _) (by rw [hall]; exact hz) (by omega))
  rw [hall] at HN
  clear h hk hx hz hall hl
  go_enter Tryz.func62, Tryz.ntmps62
  go_wp2_with fail
  (with_reducible refine HE.out.mono ?_)
  rintro e w1 ⟨g, rfl, hgb, hgc, hb1⟩
  have HN2 := Lib.hid (HN.out g w1 hb1 hgc)
  have HB1 := Lib.hid hb1
  clear hgc hb1
  go_wp2_with fail
  (with_reducible refine HN2.out.mono ?_)
  rintro e w2 ⟨A', c', rfl, hr, hb2⟩
  have HR := Lib.hid hr
  have HB2 := Lib.hid (HB1.out.trans (hb2.mono HB1.out.size))
  have hs1 := HB1.out.size
  clear hr hb2
  go_wp2_with fail
  go_ret
  refine ⟨A', c', rfl, ⟨HR.out.1, ?_⟩, HB2.out⟩
  rcases HR.out.2 with h0 | ⟨g2, e1, h1, h2, h3, h4⟩
  · exact .inl h0
  · exact .inr ⟨g2, e1, Nat.le_trans hs1 h1, h2, h3, h4⟩
end Go.Proofs.YtkgpjohfkfbfhaaGreatDoor.Cv
