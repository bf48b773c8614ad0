/- csv: what a row has in a column; its record. Conditions: trees in order at each level; no level below a name is empty. · csv: two rows of texts behind each other; a row's record. Conditions: as valueAt's; fewer than 100000 columns. · csv.less: a row of one's own without the texts that are among others. No conditions. -/
import Derived.Test.YtecnilcfhicfmaaGreatDoorMw18
import Derived.Test.YtecnilcfhicfmaaGreatDoorMw23
import Derived.Test.YtecnilcfhicfmaaGreatDoorMw24
import Derived.Test.YtecnilcfhicfmaaGreatDoorSorted
import Derived.Test.YtecnilcfhicfmaaGreatDoorDelLay
namespace Go.Proofs.YtecnilcfhicfmaaGreatDoor.Cv
open Go.RowKit Go.Proofs.YtecnilcfhicfmaaGreatDoor.Jd Go.Proofs.YtecnilcfhicfmaaGreatDoor.Li Go.Proofs.YtecnilcfhicfmaaGreatDoor.Pt
set_option maxRecDepth 100000

/-- What stands below a name, in a tree of values. -/
def valF (t : Tr) (c : ByteArray) : ByteArray :=
  match getT t [c] with
  | (.cons s _ _, true) => s
  | _ => ⟨#[]⟩
/-- No level below one of its names is empty. -/
def Full (t : Tr) : Prop := ∀ c, (getT t [c]).2 = true → 0 < (getT t [c]).1.len
theorem sees_one {w : World} {g : Nat} {c : ByteArray} (h : w.heap[g]? = some (.cells #[.string c] 9 (0, 0))) : SeesV w w.heap.size (some ⟨g, 0, none⟩) 1 ([c].map Value.string) :=
  ⟨rfl, fun j u hu => ⟨g, 0, rfl, (Array.getElem?_eq_some_iff.1 h).1, by rw [cell_of_row _ _ _ _ _ _ h, Nat.zero_add]; simpa using hu⟩⟩

set_option maxHeartbeats 4000000 in
theorem valueAt_any (t : Tr) (c : ByteArray) (A : Option Addr) (n cc : Nat) (w : World) (h : Holds w w.heap.size A n t) (ha : AscD t) (hz : t.size ≤ 274877906944) (hf : Full t) :
    Calls Tryz.prog 58 #[.slice A n cc, .string c] w fun e w' => e = .returned (.string (valF t c)) ∧ Below w.heap.size w w' := by
  have hb0 : Below w.heap.size w (w.alloc (Obj.cells #[.string c] 9)) := (Below.refl _ _).alloc (Nat.le_refl _) _
  have HG := Lib.hid (get_any t [c] A (some ⟨w.heap.size, 0, none⟩) n cc 1 1 (w.alloc (Obj.cells #[.string c] 9)) ((h.below hb0).more hb0.size) (sees_one (heap_alloc_new w _)) ha hz (by simp))
  have hF := hf c
  have hV : valF t c = match getT t [c] with | (.cons s _ _, true) => s | _ => ⟨#[]⟩ := rfl
  obtain ⟨R, hR⟩ : ∃ R, R = getT t [c] := ⟨_, rfl⟩
  rw [← hR] at HG hF hV
  have HV := Lib.hid hV
  have HF := Lib.hid hF
  have HB0 := Lib.hid hb0
  clear h ha hz hf hb0 hF hV hR
  obtain ⟨k, u⟩ := R
  cases u with
  | false =>
    go_enter Tryz.func58, Tryz.ntmps58
    go_wp2_with fail
    (with_reducible refine HG.out.mono ?_)
    rintro e w1 ⟨A', n', c', rfl, hn, hc, hh, hb⟩
    have HB := Lib.hid (HB0.out.trans (hb.mono HB0.out.size))
    clear hh hb hn hc
    go_wp2_with fail
    go_ret
    exact ⟨by rw [HV.out]; rfl, HB.out⟩
  | true =>
    cases k with
    | nil => exact absurd (HF.out rfl) (by simp [Tr.len])
    | cons s k r =>
      go_enter Tryz.func58, Tryz.ntmps58
      go_wp2_with fail
      (with_reducible refine HG.out.mono ?_)
      rintro e w1 ⟨A', n', c', rfl, hn, hc, ⟨b, o, rfl, hb1, hs, _, m, rfl, _⟩, hb⟩
      have HB := Lib.hid (HB0.out.trans (hb.mono HB0.out.size))
      have hm1 : (0 : Int) < (m : Int) + 1 := by omega
      clear hb hn hc
      go_wp2_with fail
      go_ret
      exact ⟨by rw [HV.out]; rfl, HB.out⟩
theorem record1_any (t : Tr) (c : ByteArray) (A : Option Addr) (n cc gb : Nat) (w : World) (h : Holds w w.heap.size A n t) (hg : w.cell? ⟨gb, 0, none⟩ = some (.slice A n cc)) (ha : AscD t) (hz : t.size ≤ 274877906944) (hf : Full t) :
    Calls Tryz.prog 57 #[.string c, .pointer (some ⟨gb, 0, none⟩)] w fun e w' => e = .returned (.string (valF t c)) ∧ Below w.heap.size w w' := by
  have HV := Lib.hid (valueAt_any t c A n cc w h ha hz hf)
  clear h ha hz hf
  go_enter Tryz.func57, Tryz.ntmps57
  go_wp2_with fail
  (with_reducible refine HV.out.mono ?_)
  rintro e w1 ⟨rfl, hb⟩
  go_wp2_with fail
  go_ret
  exact ⟨rfl, hb⟩
/-- What a row's fields mean. -/
def recF (name : ByteArray) (cols : List ByteArray) (t : Tr) : List ByteArray := name :: cols.map (valF t)
theorem encs_strs (ms : List ByteArray) : (ms.map fun m => m.data.toList).map encs = ms.map Value.string := by
  rw [List.map_map]
  exact List.map_congr_left fun m _ => by simp [encs]
end Go.Proofs.YtecnilcfhicfmaaGreatDoor.Cv
namespace Go.Proofs.YtecnilcfhicfmaaGreatDoor.Cv
open Go.RowKit Go.Proofs.YtecnilcfhicfmaaGreatDoor.Jd Go.Proofs.YtecnilcfhicfmaaGreatDoor.Li Go.Proofs.YtecnilcfhicfmaaGreatDoor.Pt
set_option maxRecDepth 100000

/-- A row of these texts. -/
def StP (w : World) (ms : List ByteArray) (en : Ending) (w' : World) : Prop :=
  ∃ A c, en = .returned (.slice A ms.length c) ∧ SeesV w' w'.heap.size A ms.length (ms.map Value.string) ∧ Below w.heap.size w w'
theorem strs_encs {w : World} {B n : Nat} {A : Option Addr} {ms : List ByteArray} (h : SeesV w B A n (ms.map Value.string)) : SeesV w B A n ((ms.map fun m => m.data.toList).map Go.Proofs.YtecnilcfhicfmaaGreatDoor.encs) := by
  have e : (ms.map fun m => m.data.toList).map Go.Proofs.YtecnilcfhicfmaaGreatDoor.encs = ms.map Value.string := by
    rw [List.map_map]
    exact List.map_congr_left fun m _ => by simp [Go.Proofs.YtecnilcfhicfmaaGreatDoor.encs]
  rw [e]; exact h
theorem encs_strs' {w : World} {B n : Nat} {A : Option Addr} {ms : List ByteArray} (h : SeesV w B A n ((ms.map fun m => m.data.toList).map Go.Proofs.YtecnilcfhicfmaaGreatDoor.encs)) : SeesV w B A n (ms.map Value.string) := by
  have e : (ms.map fun m => m.data.toList).map Go.Proofs.YtecnilcfhicfmaaGreatDoor.encs = ms.map Value.string := by
    rw [List.map_map]
    exact List.map_congr_left fun m _ => by simp [Go.Proofs.YtecnilcfhicfmaaGreatDoor.encs]
  rw [← e]; exact h
theorem concat2_any (l k : List ByteArray) (A B : Option Addr) (n m c d : Nat) (V : World) (h1 : SeesV V V.heap.size A n (l.map Value.string)) (h2 : SeesV V V.heap.size B m (k.map Value.string)) (hl : n + m ≤ 1000000) (g : Nat) (hg : g = V.heap.size) :
    Calls Tryz.prog 25 #[.slice (some ⟨g, 0, none⟩) 2 2] (V.alloc (Obj.cells #[.slice A n c, .slice B m d] 29)) fun e w' => ∃ A' c', e = .returned (.slice A' (l ++ k).length c') ∧ SeesV w' w'.heap.size A' (l ++ k).length ((l ++ k).map Value.string) ∧ Below V.heap.size V w' := by
  subst hg
  have e1 := h1.len
  have e2 := h2.len
  rw [List.length_map] at e1 e2
  have hb : Below V.heap.size V (V.alloc (Obj.cells #[.slice A n c, .slice B m d] 29)) := (Below.refl _ _).alloc (Nat.le_refl _) _
  have hc := Nm.concat_any V.heap.size 2 _ [l.map fun x => x.data.toList, k.map fun x => x.data.toList] _ (Nm.Parts.two (heap_alloc_new V _) (strs_encs (seesV_more (h1.below hb) hb.size)) (strs_encs (seesV_more (h2.below hb) hb.size))) rfl (by decide) (by simp; omega) (by simp)
  refine hc.mono ?_
  rintro e w' ⟨A', c', rfl, hs, hb2⟩
  have ef : [l.map fun x => x.data.toList, k.map fun x => x.data.toList].flatten = (l ++ k).map fun x => x.data.toList := by simp
  rw [ef] at hs ⊢
  rw [List.length_map] at hs ⊢
  exact ⟨A', c', rfl, encs_strs' hs, hb.trans (hb2.mono hb.size)⟩

set_option maxHeartbeats 4000000 in
theorem record_any (name : ByteArray) (t : Tr) (cols : List ByteArray) (A Ac : Option Addr) (n c nc cc : Nat) (w : World) (h : Holds w w.heap.size A n t) (ha : AscD t) (hz : t.size ≤ 274877906944) (hf : Full t) (hc : SeesV w w.heap.size Ac nc (cols.map Value.string)) (hn : nc ≤ 100000) :
    Calls Tryz.prog 31 #[.string name, .slice A n c, .slice Ac nc cc] w (StP w (recF name cols t)) := by
  have hcl : nc = cols.length := by have := hc.len; rwa [List.length_map] at this
  have hb0 : Below w.heap.size w (w.alloc (Obj.cells #[.slice A n c] 24)) := (Below.refl _ _).alloc (Nat.le_refl _) _
  have hg0 : (w.alloc (Obj.cells #[.slice A n c] 24)).cell? ⟨w.heap.size, 0, none⟩ = some (.slice A n c) := by rw [cell_of_row _ _ _ _ _ _ (heap_alloc_new w _)]; rfl
  have HE := Lib.hid (eachV_any cols (cols.map (valF t)) Ac nc cc w.heap.size w.heap.size (w.alloc (Obj.cells #[.slice A n c] 24)) hb0.size hn (by rw [List.length_map]; exact hcl) (hc.below hb0) hcl (fun k r hr m hm W hW => by
    rw [List.getElem?_map, hm] at hr
    simp only [Option.map_some, Option.some.injEq] at hr
    subst hr
    have hq := hb0.trans (hW.mono hb0.size)
    exact record1_any t m A n c w.heap.size W ((h.below hq).more hq.size) ((hW.cell (p := ⟨w.heap.size, 0, none⟩) (by simp)).trans hg0) ha hz hf))
  have Hcl := Lib.hid hcl
  have HB0 := Lib.hid hb0
  clear h ha hz hf hc hb0 hg0 hcl
  go_enter Tryz.func31, Tryz.ntmps31
  go_wp2_with fail
  (with_reducible refine HE.out.mono ?_)
  rintro e w1 ⟨g, rfl, hgb, hgc, hb1⟩
  have hv : SeesV w1 w1.heap.size (some ⟨g, 0, none⟩) nc ((cols.map (valF t)).map Value.string) := ⟨by simp; exact Hcl.out, fun j u hu => ⟨g, 0, rfl, (Array.getElem?_eq_some_iff.1 hgc).1, by rw [cell_of_row _ _ _ _ _ _ hgc, Nat.zero_add]; simpa using hu⟩⟩
  have hb2 : Below w1.heap.size w1 (w1.alloc (Obj.cells #[.string name] 9)) := (Below.refl _ _).alloc (Nat.le_refl _) _
  have HC := Lib.hid (concat2_any [name] (cols.map (valF t)) (some ⟨w1.heap.size, 0, none⟩) (some ⟨g, 0, none⟩) 1 nc 1 nc (w1.alloc (Obj.cells #[.string name] 9)) (sees_one (heap_alloc_new w1 _)) (seesV_more (hv.below hb2) hb2.size) (by omega) (w1.heap.size + 1) (by simp))
  have HB2 := Lib.hid (HB0.out.trans ((hb1.trans (hb2.mono hb1.size)).mono HB0.out.size))
  clear hgc hv hb1 hb2 hgb
  go_wp2_with fail
  (with_reducible refine HC.out.mono ?_)
  rintro e w3 ⟨A3, c3, rfl, hs3, hb3⟩
  have HS := Lib.hid hs3
  have HB3 := Lib.hid (HB2.out.trans (hb3.mono HB2.out.size))
  clear hs3 hb3
  go_wp2_with fail
  go_ret
  exact ⟨A3, c3, by rw [show (recF name cols t).length = cols.length + 1 by simp [recF]]; rfl, HS.out, HB3.out⟩
end Go.Proofs.YtecnilcfhicfmaaGreatDoor.Cv
namespace Go.Proofs.YtecnilcfhicfmaaGreatDoor.Cv
open Go.RowKit Go.Sort Go.Lib Go.Shelf Go.Proofs.YtecnilcfhicfmaaGreatDoor.Jd Go.Proofs.YtecnilcfhicfmaaGreatDoor.Li Go.Proofs.YtecnilcfhicfmaaGreatDoor.Pt
set_option maxRecDepth 100000

/-- Those that are not among others. -/
def lessF (ss : List Bs) (others : List ByteArray) : List Bs := ss.filter fun l => !(Lib.containsS others ⟨l.toArray⟩)

theorem contains_sees (ms : List ByteArray) (x : ByteArray) (A : Option Addr) (n c B : Nat) (w : World) (h : SeesV w B A n (ms.map Value.string)) (hn : n ≤ 1000000) :
    Calls Tryz.prog 51 #[.slice A n c, .string x] w fun e w' => e = .returned (.bool (Lib.containsS ms x)) ∧ w' = w := by
  have hl : n = ms.length := by have := h.len; rwa [List.length_map] at this
  cases ms with
  | nil =>
    obtain rfl : n = 0 := hl
    exact Tryz.slices_Contains_string_empty A c x w
  | cons m r =>
    obtain ⟨b, o, rfl, _, _⟩ := h.cell 0 (.string m) rfl
    have hc := Tryz.slices_Contains_string b o n c (m :: r) x w (by omega) (by omega) (fun j hj => by
      obtain ⟨b', o', he, _, hcell⟩ := h.cell j (.string ((m :: r)[j]'hj)) (by rw [List.getElem?_map, List.getElem?_eq_getElem hj]; rfl)
      injection he with he
      injection he with e1 e2
      subst e1; subst e2
      rw [hcell, List.getD_eq_getElem?_getD, List.getElem?_eq_getElem hj]
      rfl)
    rw [List.take_of_length_le (by omega)] at hc
    exact hc
theorem less1_any (ms : List ByteArray) (l : Bs) (A : Option Addr) (n c B gb : Nat) (w : World) (h : SeesV w B A n (ms.map Value.string)) (hg : w.cell? ⟨gb, 0, none⟩ = some (.slice A n c)) (hn : n ≤ 1000000) :
    FnGives Tryz.prog 50 #[.pointer (some ⟨gb, 0, none⟩)] #[encStr l] (.bool (Lib.containsS ms ⟨l.toArray⟩)) w := by
  have HC := Lib.hid (contains_sees ms ⟨l.toArray⟩ A n c B w h hn)
  clear h
  show Calls Tryz.prog 50 #[.string ⟨l.toArray⟩, .pointer (some ⟨gb, 0, none⟩)] w _
  go_enter Tryz.func50, Tryz.ntmps50
  go_wp2_with fail
  (with_reducible refine HC.out.mono ?_)
  rintro e w1 ⟨rfl, rfl⟩
  go_wp2_with fail
  go_ret
  exact ⟨rfl, 0, rfl⟩
theorem encStr_one : OneCell encStr := fun _ => rfl
theorem row1_cell {w : World} {g : Nat} {ss : List Bs} (h : Go.Sort.Holds encStr w g 0 ss.toArray) (j : Nat) (l : Bs) (hj : ss[j]? = some l) : w.cell? ⟨g, j, none⟩ = some (encStr l) := by
  have hl : j < ss.length := (List.getElem?_eq_some_iff.1 hj).1
  have := (h j (by simpa using hl)).1
  rw [Nat.zero_add] at this
  rw [this, getElem!_pos _ j (by simpa using hl)]
  simp only [List.getElem_toArray]
  rw [← (List.getElem?_eq_some_iff.1 hj).2]

theorem row_apart {w W : World} {B base n N c : Nat} {A A2 : Option Addr} {vs : List Value} {ss : List Bs} (hs : SeesV w B A n vs) (hv : vs ≠ []) (hr : Row1 W base A2 N c ss) (hn : ss ≠ []) (hB : B ≤ base) : ∀ b o g, A = some ⟨b, o, none⟩ → A2 = some ⟨g, 0, none⟩ → b ≠ g := by
  intro b o g h1 h2
  obtain ⟨v, r, rfl⟩ := List.exists_cons_of_ne_nil hv
  obtain ⟨b', o', ha, hb, _⟩ := hs.cell 0 v rfl
  rcases hr.2 with h0 | ⟨g', e, hg, _⟩
  · exact absurd h0 hn
  · rw [h1] at ha
    rw [h2] at e
    injection ha with ha
    injection ha with e1 _
    injection e with e
    injection e with e2 _
    omega

set_option maxHeartbeats 4000000 in
theorem less_any (ss : List Bs) (ms : List ByteArray) (A Ao : Option Addr) (N c no co base : Nat) (w : World) (h : Row1 w base A N c ss) (ho : SeesV w w.heap.size Ao no (ms.map Value.string)) (hd : ms ≠ [] → ss ≠ [] → ∀ b o g, Ao = some ⟨b, o, none⟩ → A = some ⟨g, 0, none⟩ → b ≠ g) (hb : base ≤ w.heap.size) (hN : N ≤ 1000000) (hno : no ≤ 1000000) :
    Calls Tryz.prog 26 #[.slice A N c, .slice Ao no co] w fun e w' => e = .returned (.slice A (lessF ss ms).length c) ∧ Row1 w' base A (lessF ss ms).length c (lessF ss ms) ∧ Below base w w' := by
  obtain ⟨hNl, hs⟩ := h
  have hb0 : Below w.heap.size w (w.alloc (Obj.cells #[.slice Ao no co] 29)) := (Below.refl _ _).alloc (Nat.le_refl _) _
  have hg0 : (w.alloc (Obj.cells #[.slice Ao no co] 29)).cell? ⟨w.heap.size, 0, none⟩ = some (.slice Ao no co) := by rw [cell_of_row _ _ _ _ _ _ (heap_alloc_new w _)]; rfl
  by_cases h0 : ss = []
  · subst h0
    obtain rfl : N = 0 := hNl
    have hD : Calls Tryz.prog 49 #[.slice A 0 c, .func (.func 50) #[] #[.pointer (some ⟨w.heap.size, 0, none⟩)]] (w.alloc (Obj.cells #[.slice Ao no co] 29)) fun e w' => e = .returned (.slice A 0 c) ∧ Below w.heap.size (w.alloc (Obj.cells #[.slice Ao no co] 29)) w' := by
      have HI : Hid (∀ (fv : Value) (W : World), Calls Tryz.prog 89 #[.slice A 0 c, fv] W fun e w' => e = .returned (.int .i64 (-1)) ∧ w' = W) := Lib.hid (fun fv W => AnyE.slices_IndexFunc_empty Tryz.idxS A c fv W)
      clear hs ho hg0
      go_enter Tryz.func49, Tryz.ntmps49
      go_wp2_with fail
      (with_reducible refine (HI.out _ _).mono ?_)
      rintro e w1 ⟨rfl, rfl⟩
      go_wp2_with fail
      go_ret
      exact ⟨rfl, Below.refl _ _⟩
    have HD := Lib.hid hD
    have HB0 := Lib.hid hb0
    clear hD hs ho hg0 hb0
    go_enter Tryz.func26, Tryz.ntmps26
    go_wp2_with fail
    (with_reducible refine HD.out.mono ?_)
    rintro e w1 ⟨rfl, hb1⟩
    go_wp2_with fail
    go_ret
    exact ⟨rfl, ⟨rfl, .inl rfl⟩, (HB0.out.trans hb1).mono hb⟩
  · rcases hs with e | ⟨g, rfl, hgb, hgl, hc, hH⟩
    · exact absurd e h0
    · have hgne : w.heap.size ≠ g := by omega
      have hsz : ss.toArray.size = N := by rw [List.size_toArray]; exact hNl.symm
      have eg : ∀ args w, (callFunc 50 args).run Tryz.prog w = .ok (.enter 50 args) w := enters_of Tryz.func50 (by kernel_rfl) rfl
      have hH' : Go.Sort.Holds encStr (w.alloc (Obj.cells #[.slice Ao no co] 29)) g 0 ss.toArray := fun j hj => ⟨Lib.cell?_alloc_some _ (hH j hj).1, by rw [World.frozen?_alloc_old _ _ _ (by show g ≠ w.heap.size; omega)]; exact (hH j hj).2⟩
      have hob : ∀ W : World, (∀ b o, b < w.heap.size → b ≠ g → W.cell? ⟨b, o, none⟩ = w.cell? ⟨b, o, none⟩) → SeesV W w.heap.size Ao no (ms.map Value.string) := fun W hW => ⟨ho.len, fun j u hu => by
        obtain ⟨b, o, ha, hbb, hcc⟩ := ho.cell j u hu
        exact ⟨b, o, ha, hbb, (hW b _ hbb (hd (by rintro rfl; simp at hu) h0 b o g ha rfl)).trans hcc⟩⟩
      have hcon := AnyE.slices_DeleteFunc Tryz.delS encStr encStr_one (fun l => Lib.containsS ms ⟨l.toArray⟩) 50 #[.pointer (some ⟨w.heap.size, 0, none⟩)] eg [] Tryz.zeroValue9 g 0 c ss.toArray (w.alloc (Obj.cells #[.slice Ao no co] 29))
        (fun W x hW => less1_any ms x Ao no co w.heap.size w.heap.size W (hob W fun b o hbb _ => (hb0.trans (hW.mono hb0.size)).cell (p := ⟨b, o, none⟩) hbb) ((hW.cell (p := ⟨w.heap.size, 0, none⟩) (by simp)).trans hg0) hno)
        (fun n os dk x _ => less1_any ms x Ao no co w.heap.size w.heap.size _ (hob _ fun b o hbb hbg => by
          unfold sortWorld
          rw [cell?_grow _ _ _ (by show b < (putRow _ _ _ _ _).heap.size; rw [size_putRow]; simp; omega), cell?_putRow_other _ _ g 0 _ _ (Or.inl (by simpa using hbg))]
          exact hb0.cell (p := ⟨b, o, none⟩) hbb) (by
          unfold sortWorld
          rw [cell?_grow _ _ _ (by show w.heap.size < (putRow _ _ _ _ _).heap.size; rw [size_putRow]; simp), cell?_putRow_other _ _ g 0 _ _ (Or.inl hgne)]
          exact hg0) hno)
        hH' (by rw [hsz]; omega) (by rw [hsz]; exact hc)
      rw [hsz] at hcon
      have hF : (ss.toArray.toList.filter fun x => !(Lib.containsS ms ⟨x.toArray⟩)) = lessF ss ms := by simp [lessF]
      rw [hF] at hcon
      have hle : (lessF ss ms).length ≤ ss.length := List.length_filter_le ..
      obtain ⟨r, hr⟩ : ∃ r, r = lessF ss ms := ⟨_, rfl⟩
      rw [← hr] at hcon hle ⊢
      have HC : Hid (Calls Tryz.prog 49 #[.slice (some ⟨g, 0, none⟩) N c, .func (.func 50) #[] #[.pointer (some ⟨w.heap.size, 0, none⟩)]] (w.alloc (Obj.cells #[.slice Ao no co] 29)) fun e w' => e = .returned (.slice (some ⟨g, 0, none⟩) r.length c) ∧ Row1 w' base (some ⟨g, 0, none⟩) r.length c r ∧ Below base w w') := by
        refine Lib.hid (hcon.mono ?_)
        rintro e w' ⟨rfl, q, rfl⟩
        have hd : (r ++ List.replicate (N - r.length) ([] : Bs)).toArray.size = ss.toArray.size := by simp; omega
        have hH2 := Go.Sort.holds_putRow encStr (Sort.ahead (w.alloc (Obj.cells #[.slice Ao no co] 29)) q) g 0 ss.toArray (r ++ List.replicate (N - r.length) ([] : Bs)).toArray hH' hd
        refine ⟨rfl, ⟨rfl, .inr ⟨g, rfl, hgb, by rw [size_putRow]; simp; omega, by omega, fun j hj => ?_⟩⟩, ?_⟩
        · have hjr : j < r.length := by simpa using hj
          have hj2 : j < (r ++ List.replicate (N - r.length) ([] : Bs)).toArray.size := by simp; omega
          have := hH2 j hj2
          rw [getElem!_pos _ j hj2] at this
          rw [getElem!_pos _ j hj]
          simp only [List.getElem_toArray] at this ⊢
          rw [List.getElem_append_left hjr] at this
          exact this
        · exact (hb0.mono hb).trans (below_putRow encStr _ q hgb)
      clear hcon hH' hH hob ho hle hr hF eg hg0 hb0 hsz hNl
      go_enter Tryz.func26, Tryz.ntmps26
      go_wp2_with fail
      (with_reducible refine HC.out.mono ?_)
      rintro e w1 ⟨rfl, hrow, hb1⟩
      have HR := Lib.hid hrow
      clear hrow
      go_wp2_with fail
      go_ret
      exact ⟨rfl, HR.out, hb1⟩
end Go.Proofs.YtecnilcfhicfmaaGreatDoor.Cv
