/- csv.each: a new list of what is made of each one. Conditions: a function that answers so at each one; fewer than 100000 of them. · csv.textOf: a line's text that means these. Conditions: texts of ASCII bytes, of at most 4000; MaxLen's cell. · tree.level and the stack of trees that clone keeps: pop and push. Conditions: fewer than 2^40 edges; what is popped is there. · tree.clone: the answer reads as what was handed in; what lay there before lies as it did. Conditions: fewer than 2^39 edges. · tree.clone, walked. Conditions: fewer than 2^39 edges. -/
import Derived.Test.YtkgpjohfkfbfhaaGreatDoorMwCvFlds
import Derived.Test.YtkgpjohfkfbfhaaGreatDoorMwCvInOrd
import Derived.Deep.RegionWith
import Derived.Test.YtkgpjohfkfbfhaaGreatDoorMwCvGrow
import Derived.Outline
import Derived.Deep.LoopGhost
namespace Go.Proofs.YtkgpjohfkfbfhaaGreatDoor.Cv
open Go.RowKit Go.Proofs.YtkgpjohfkfbfhaaGreatDoor.Jd Go.Proofs.YtkgpjohfkfbfhaaGreatDoor.Li
set_option maxRecDepth 100000

/-- So many of a row are made. -/
def partV (vs : List Value) (z : Value) (n k : Nat) : Array Value := (vs.take k ++ List.replicate (n - k) z).toArray
theorem partV_zero (vs : List Value) (z : Value) (n : Nat) : madeCells #[z] n = partV vs z n 0 := by
  apply Array.ext
  · simp [madeCells, partV]
  · intro i h1 h2
    simp [madeCells, partV, Nat.mod_one]
theorem partV_size {vs : List Value} {z : Value} {n k : Nat} (hn : n = vs.length) (hk : k ≤ n) : (partV vs z n k).size = n := by
  unfold partV
  simp only [List.size_toArray, List.length_append, List.length_take, List.length_replicate]
  omega
theorem partV_set {vs : List Value} {z : Value} {n k : Nat} {x : Value} (hn : n = vs.length) (h : vs[k]? = some x) : (partV vs z n k).setIfInBounds k x = partV vs z n (k + 1) := by
  have hk : k < vs.length := (List.getElem?_eq_some_iff.1 h).1
  unfold partV
  rw [List.setIfInBounds_toArray]
  congr 1
  rw [List.take_add_one, h]
  obtain ⟨j, hj⟩ : ∃ j, n - k = j + 1 := ⟨n - k - 1, by omega⟩
  rw [hj, show n - (k + 1) = j by omega, List.replicate_succ]
  have hl : (vs.take k).length = k := by rw [List.length_take]; omega
  rw [List.set_append_right _ _ (by omega), hl, Nat.sub_self]
  simp
theorem partV_all {vs : List Value} {z : Value} {n : Nat} (hn : n = vs.length) : partV vs z n n = vs.toArray := by
  unfold partV
  rw [hn, List.take_length, Nat.sub_self]
  simp
/-- A new row of these. -/
def NwP (w : World) (T : TypeId) (vs : List Value) (n : Nat) (en : Ending) (w' : World) : Prop := ∃ g, en = .returned (.slice (some ⟨g, 0, none⟩) n n) ∧ w.heap.size ≤ g ∧ w'.heap[g]? = some (.cells vs.toArray T (0, 0)) ∧ Below w.heap.size w w'

set_option maxHeartbeats 4000000 in
theorem eachQ_any (ms : List ByteArray) (rs : List ByteArray) (A : Option Addr) (n c B : Nat)  (w : World) (hB : B ≤ w.heap.size) (hn : n ≤ 100000) (hl : n = rs.length) (h : SeesV w B A n (ms.map Value.string)) (hml : n = ms.length)
    (HF : ∀ (k : Nat) r, rs[k]? = some r → ∀ m, ms[k]? = some m → ∀ W, Below w.heap.size w W → Calls Tryz.prog 102 #[.string m] W fun e w' => e = .returned (.string r) ∧ Below W.heap.size W w') :
    Calls Tryz.prog 97 #[.slice A n c, .func (.func 102) #[] #[]] w (NwP w 9 (rs.map Value.string) n) := by
  obtain ⟨vs, hvs⟩ : ∃ vs, vs = rs.map Value.string := ⟨_, rfl⟩
  rw [← hvs]
  obtain ⟨i0, hi, hz0, hz1, hz2⟩ := info_parts elem_str.info
  have hmk := fun W : World => run_make_row' (P := Tryz.prog) 36 9 (.string ⟨#[]⟩) 16 Tryz.underlying36 elem_str.info rfl .i64 .i64 n (by omega) (by omega) W
  rw [partV_zero vs (.string ⟨#[]⟩) n] at hmk
  have Hl := Lib.hid (show n = vs.length by rw [hvs, List.length_map]; exact hl)
  have Hv := Lib.hid hvs
  have Hr := Lib.hid hl
  have HH := Lib.hid HF
  have Hml := Lib.hid hml
  clear HF hi hz0 hz1 hz2 hl hvs hml
  go_enter Tryz.func97, Tryz.ntmps97
  go_wp2_with fail
  go_loopw [13] (fun i wr => ∃ (k : Nat), k ≤ n ∧ i = .int .i64 k ∧ Hid (wr.heap[w.heap.size]? = some (.cells (partV vs (.string ⟨#[]⟩) n k) 9 (0, 0))) ∧ Hid (Below w.heap.size w wr)) (fun i _ => n - (intOf i).toNat)
  case atStart => exact ⟨0, Nat.zero_le _, rfl, Lib.hid (heap_alloc_new w _), Lib.hid ((Below.refl _ _).alloc (Nat.le_refl _) _)⟩
  case round =>
    obtain ⟨k, hk, rfl, HG, HW⟩ := hrel
    by_cases hlt : k < n
    · obtain ⟨r, hr⟩ : ∃ r, rs[k]? = some r := ⟨_, List.getElem?_eq_getElem (by have := Hr.out; omega)⟩
      have hy : vs[k]? = some (.string r) := by rw [Hv.out, List.getElem?_map, hr]; rfl
      obtain ⟨m, hm⟩ : ∃ m, ms[k]? = some m := ⟨_, List.getElem?_eq_getElem (by have := Hml.out; omega)⟩
      obtain ⟨b, o, rfl, hbl, hc1⟩ := h.cell k (.string m) (by rw [List.getElem?_map, hm]; rfl)
      have hc2 := (HW.out.cell (p := ⟨b, o + k, none⟩) (Nat.lt_of_lt_of_le hbl hB)).trans hc1
      have hkn : (k : Int) < (n : Int) := by omega
      have hk0 : (0 : Int) ≤ (k : Int) := by omega
      have hgl := (Array.getElem?_eq_some_iff.1 HG.out).1
      have Hlt := Lib.hid hlt
      have HPs := Lib.hid (partV_set (z := .string ⟨#[]⟩) Hl.out hy)
      have hsz : k < (partV vs (.string ⟨#[]⟩) n k).size := by rw [partV_size Hl.out hk]; exact hlt
      have Hsz := Lib.hid hsz
      have HM := Lib.hid (HH.out k r hr m hm wr HW.out)
      clear hm hc1
      clear hy hr hlt hsz
      go_wp2_with fail
      (with_reducible refine HM.out.mono ?_)
      rintro e w2 ⟨rfl, hb2⟩
      have hb12 : Below wr.heap.size wr w2 := hb2
      have hg2 : w2.heap[w.heap.size]? = some (.cells (partV vs (.string ⟨#[]⟩) n k) 9 (0, 0)) := (hb12.block _ hgl).trans HG.out
      have hcg : w2.cell? ⟨w.heap.size, k, none⟩ = some ((partV vs (.string ⟨#[]⟩) n k)[k]'Hsz.out) := by
        rw [cell_of_row _ _ _ _ _ _ hg2]
        exact Array.getElem?_eq_getElem Hsz.out
      obtain ⟨y0, hy0⟩ : ∃ y0, y0 = (partV vs (.string ⟨#[]⟩) n k)[k]'Hsz.out := ⟨_, rfl⟩
      rw [← hy0] at hcg
      have hfg : w2.frozen? ⟨w.heap.size, k, none⟩ = false := by simp [World.frozen?, hg2]
      have hg3 : (w2.setCell ⟨w.heap.size, k, none⟩ (.string r)).heap[w.heap.size]? = some (.cells (partV vs (.string ⟨#[]⟩) n (k + 1)) 9 (0, 0)) := by
        rw [heap_setCell_same w2 _ k _ _ _ hg2, HPs.out]
      have HG3 := Lib.hid hg3
      have HB3 := Lib.hid (((HW.out.trans (hb12.mono HW.out.size)).setCell (p := ⟨w.heap.size, k, none⟩) (Nat.le_refl _) (.string r)))
      clear hb2 hb12 hg2 hy0 hg3
      go_wp2_with fail
      go_roundw
      case rel => exact ⟨k + 1, Hlt.out, by go_num, HG3, HB3⟩
      case measure => have := Hlt.out; simp [intOf]; omega
    · obtain rfl : k = n := by omega
      have hg := HG.out
      rw [partV_all Hl.out] at hg
      have HG2 := Lib.hid hg
      clear hlt hg HG
      go_wp2_with fail
      go_ret
      exact ⟨w.heap.size, rfl, Nat.le_refl _, HG2.out, HW.out⟩

set_option maxHeartbeats 4000000 in
theorem eachV_any (ms : List ByteArray) (rs : List ByteArray) (A : Option Addr) (n c B : Nat) (gb : Nat) (w : World) (hB : B ≤ w.heap.size) (hn : n ≤ 100000) (hl : n = rs.length) (h : SeesV w B A n (ms.map Value.string)) (hml : n = ms.length)
    (HF : ∀ (k : Nat) r, rs[k]? = some r → ∀ m, ms[k]? = some m → ∀ W, Below w.heap.size w W → Calls Tryz.prog 98 #[.string m, .pointer (some ⟨gb, 0, none⟩)] W fun e w' => e = .returned (.string r) ∧ Below W.heap.size W w') :
    Calls Tryz.prog 97 #[.slice A n c, .func (.func 98) #[] #[.pointer (some ⟨gb, 0, none⟩)]] w (NwP w 9 (rs.map Value.string) n) := by
  obtain ⟨vs, hvs⟩ : ∃ vs, vs = rs.map Value.string := ⟨_, rfl⟩
  rw [← hvs]
  obtain ⟨i0, hi, hz0, hz1, hz2⟩ := info_parts elem_str.info
  have hmk := fun W : World => run_make_row' (P := Tryz.prog) 36 9 (.string ⟨#[]⟩) 16 Tryz.underlying36 elem_str.info rfl .i64 .i64 n (by omega) (by omega) W
  rw [partV_zero vs (.string ⟨#[]⟩) n] at hmk
  have Hl := Lib.hid (show n = vs.length by rw [hvs, List.length_map]; exact hl)
  have Hv := Lib.hid hvs
  have Hr := Lib.hid hl
  have HH := Lib.hid HF
  have Hml := Lib.hid hml
  clear HF hi hz0 hz1 hz2 hl hvs hml
  go_enter Tryz.func97, Tryz.ntmps97
  go_wp2_with fail
  go_loopw [13] (fun i wr => ∃ (k : Nat), k ≤ n ∧ i = .int .i64 k ∧ Hid (wr.heap[w.heap.size]? = some (.cells (partV vs (.string ⟨#[]⟩) n k) 9 (0, 0))) ∧ Hid (Below w.heap.size w wr)) (fun i _ => n - (intOf i).toNat)
  case atStart => exact ⟨0, Nat.zero_le _, rfl, Lib.hid (heap_alloc_new w _), Lib.hid ((Below.refl _ _).alloc (Nat.le_refl _) _)⟩
  case round =>
    obtain ⟨k, hk, rfl, HG, HW⟩ := hrel
    by_cases hlt : k < n
    · obtain ⟨r, hr⟩ : ∃ r, rs[k]? = some r := ⟨_, List.getElem?_eq_getElem (by have := Hr.out; omega)⟩
      have hy : vs[k]? = some (.string r) := by rw [Hv.out, List.getElem?_map, hr]; rfl
      obtain ⟨m, hm⟩ : ∃ m, ms[k]? = some m := ⟨_, List.getElem?_eq_getElem (by have := Hml.out; omega)⟩
      obtain ⟨b, o, rfl, hbl, hc1⟩ := h.cell k (.string m) (by rw [List.getElem?_map, hm]; rfl)
      have hc2 := (HW.out.cell (p := ⟨b, o + k, none⟩) (Nat.lt_of_lt_of_le hbl hB)).trans hc1
      have hkn : (k : Int) < (n : Int) := by omega
      have hk0 : (0 : Int) ≤ (k : Int) := by omega
      have hgl := (Array.getElem?_eq_some_iff.1 HG.out).1
      have Hlt := Lib.hid hlt
      have HPs := Lib.hid (partV_set (z := .string ⟨#[]⟩) Hl.out hy)
      have hsz : k < (partV vs (.string ⟨#[]⟩) n k).size := by rw [partV_size Hl.out hk]; exact hlt
      have Hsz := Lib.hid hsz
      have HM := Lib.hid (HH.out k r hr m hm wr HW.out)
      clear hm hc1
      clear hy hr hlt hsz
      go_wp2_with fail
      (with_reducible refine HM.out.mono ?_)
      rintro e w2 ⟨rfl, hb2⟩
      have hb12 : Below wr.heap.size wr w2 := hb2
      have hg2 : w2.heap[w.heap.size]? = some (.cells (partV vs (.string ⟨#[]⟩) n k) 9 (0, 0)) := (hb12.block _ hgl).trans HG.out
      have hcg : w2.cell? ⟨w.heap.size, k, none⟩ = some ((partV vs (.string ⟨#[]⟩) n k)[k]'Hsz.out) := by
        rw [cell_of_row _ _ _ _ _ _ hg2]
        exact Array.getElem?_eq_getElem Hsz.out
      obtain ⟨y0, hy0⟩ : ∃ y0, y0 = (partV vs (.string ⟨#[]⟩) n k)[k]'Hsz.out := ⟨_, rfl⟩
      rw [← hy0] at hcg
      have hfg : w2.frozen? ⟨w.heap.size, k, none⟩ = false := by simp [World.frozen?, hg2]
      have hg3 : (w2.setCell ⟨w.heap.size, k, none⟩ (.string r)).heap[w.heap.size]? = some (.cells (partV vs (.string ⟨#[]⟩) n (k + 1)) 9 (0, 0)) := by
        rw [heap_setCell_same w2 _ k _ _ _ hg2, HPs.out]
      have HG3 := Lib.hid hg3
      have HB3 := Lib.hid (((HW.out.trans (hb12.mono HW.out.size)).setCell (p := ⟨w.heap.size, k, none⟩) (Nat.le_refl _) (.string r)))
      clear hb2 hb12 hg2 hy0 hg3
      go_wp2_with fail
      go_roundw
      case rel => exact ⟨k + 1, Hlt.out, by go_num, HG3, HB3⟩
      case measure => have := Hlt.out; simp [intOf]; omega
    · obtain rfl : k = n := by omega
      have hg := HG.out
      rw [partV_all Hl.out] at hg
      have HG2 := Lib.hid hg
      clear hlt hg HG
      go_wp2_with fail
      go_ret
      exact ⟨w.heap.size, rfl, Nat.le_refl _, HG2.out, HW.out⟩

end Go.Proofs.YtkgpjohfkfbfhaaGreatDoor.Cv
namespace Go.Proofs.YtkgpjohfkfbfhaaGreatDoor.Cv
open Go.RowKit Go.Proofs.YtkgpjohfkfbfhaaGreatDoor.Jd Go.Proofs.YtkgpjohfkfbfhaaGreatDoor.Li
set_option maxRecDepth 100000

theorem seesV_more {w : World} {B B' n : Nat} {A : Option Addr} {vs : List Value} (h : SeesV w B A n vs) (hB : B ≤ B') : SeesV w B' A n vs :=
  ⟨h.len, fun j u hu => by
    obtain ⟨b, o, ha, hb, hc⟩ := h.cell j u hu
    exact ⟨b, o, ha, Nat.lt_of_lt_of_le hb hB, hc⟩⟩
/-- The fields of a line that means these, and was so. -/
def fieldF : List ByteArray → List Ln → List Bs
  | [], _ => []
  | m :: ms, [] => qF m.data.toList :: fieldF ms []
  | m :: ms, x :: xs => (if ((ByteArray.mk x.2.toArray).toList == m.toList) = true then x.1 else qF m.data.toList) :: fieldF ms xs
theorem fieldF_len : ∀ (ms : List ByteArray) (ws : List Ln), (fieldF ms ws).length = ms.length
  | [], _ => by simp [fieldF]
  | m :: ms, [] => by simp [fieldF, fieldF_len ms []]
  | m :: ms, x :: xs => by simp [fieldF, fieldF_len ms xs]
theorem fieldF_none : ∀ ms : List ByteArray, fieldF ms [] = ms.map fun m => qF m.data.toList
  | [] => rfl
  | m :: ms => by simp [fieldF, fieldF_none ms]
theorem fieldF_step : ∀ (ms : List ByteArray) (ws : List Ln) (k : Nat) (x : Ln) (m : ByteArray), ws[k]? = some x → ms[k]? = some m →
    fieldF ms (ws.take (k + 1)) = if ((ByteArray.mk x.2.toArray).toList == m.toList) = true then (fieldF ms (ws.take k)).set k x.1 else fieldF ms (ws.take k)
  | [], _, _, _, _, _, h => by simp at h
  | _ :: _, [], _, _, _, h, _ => by simp at h
  | m0 :: ms, x0 :: xs, 0, x, m, h1, h2 => by
    simp only [List.getElem?_cons_zero, Option.some.injEq] at h1 h2
    subst h1; subst h2
    simp only [Nat.zero_add, List.take_succ_cons, List.take_zero, fieldF]
    split <;> rfl
  | m0 :: ms, x0 :: xs, k + 1, x, m, h1, h2 => by
    simp only [List.getElem?_cons_succ] at h1 h2
    have ih := fieldF_step ms xs k x m h1 h2
    simp only [List.take_succ_cons, fieldF, ih]
    generalize (if ((ByteArray.mk x0.2.toArray).toList == m0.toList) = true then x0.1 else qF m0.data.toList) = y
    split <;> rfl

theorem fieldF_le : ∀ (ms : List ByteArray) (ws : List Ln), (∀ m ∈ ms, m.size ≤ 4000) → (∀ x ∈ ws, x.1.length ≤ 4000) → ∀ l ∈ fieldF ms ws, l.length ≤ 12004
  | [], _, _, _, l, h => by simp [fieldF] at h
  | m :: ms, [], hm, hw, l, h => by
    rw [fieldF] at h
    rcases List.mem_cons.1 h with rfl | h
    · have := qF_len m.data.toList
      have := hm m (by simp)
      have e : m.size = m.data.toList.length := rfl
      omega
    · exact fieldF_le ms [] (fun x hx => hm x (by simp [hx])) hw l h
  | m :: ms, x :: xs, hm, hw, l, h => by
    rw [fieldF] at h
    rcases List.mem_cons.1 h with rfl | h
    · have := qF_len m.data.toList
      have := hm m (by simp)
      have := hw x (by simp)
      have e : m.size = m.data.toList.length := rfl
      split <;> omega
    · exact fieldF_le ms xs (fun x hx => hm x (by simp [hx])) (fun y hy => hw y (by simp [hy])) l h
theorem join_two (sep x y : Bs) (r : List Bs) : Lib.join (x :: y :: r) sep = x ++ (sep ++ Lib.join (y :: r) sep) := by
  simp [Lib.join, List.intercalate, List.intersperse]
theorem join_len (sep : Bs) (N : Nat) : ∀ l : List Bs, (∀ x ∈ l, x.length ≤ N) → (Lib.join l sep).length ≤ l.length * (N + sep.length)
  | [], _ => by rw [Lib.join_nil]; exact Nat.zero_le _
  | [x], h => by
    have := h x (by simp)
    rw [Lib.join_one]
    simp only [List.length_cons, List.length_nil, Nat.zero_add, Nat.one_mul]
    omega
  | x :: y :: r, h => by
    have h1 := h x (by simp)
    have h2 := join_len sep N (y :: r) (fun z hz => h z (List.mem_cons_of_mem _ hz))
    rw [join_two]
    simp only [List.length_append, List.length_cons, Nat.add_mul] at h2 ⊢
    omega

set_option maxHeartbeats 4000000 in
theorem textOf_any (ms : List ByteArray) (ws : List Ln) (A Aw : Option Addr) (n c nw cw : Nat) (w : World) (h : SeesV w w.heap.size A n (ms.map Value.string)) (hw : SeesL w w.heap.size Aw nw ws) (hle : nw ≤ n) (hn : n ≤ 100000) (hz : ∀ m ∈ ms, m.size ≤ 4000 ∧ Pl m) (hwz : ∀ x ∈ ws, x.1.length ≤ 4000) (hG : Gl w) :
    Calls Tryz.prog 69 #[.slice A n c, .slice Aw nw cw] w fun e w' => e = .returned (.string ⟨(Lib.join (fieldF ms ws) [44]).toArray⟩) ∧ Below w.heap.size w w' := by
  have hml : n = ms.length := by have := h.len; rwa [List.length_map] at this
  have hwl := hw.len
  have HE := Lib.hid (eachQ_any ms (ms.map fun m => ByteArray.mk (qF m.data.toList).toArray) A n c w.heap.size w (Nat.le_refl _) hn (by rw [List.length_map]; exact hml) h hml (fun k r hr m hm W hW => by
    rw [List.getElem?_map, hm] at hr
    simp only [Option.map_some, Option.some.injEq] at hr
    subst hr
    have hq := hz m (List.mem_of_getElem? hm)
    exact quoted_any m W hq.1 hq.2 (hG.below hW)))
  have HLe := Lib.hid (join_len [44] 12004 (fieldF ms ws) (fieldF_le ms ws (fun m hm => (hz m hm).1) hwz))
  have HH := Lib.hid h
  have HW := Lib.hid hw
  have Hml := Lib.hid hml
  have Hwl := Lib.hid hwl
  clear h hw hz hwz hG hml hwl
  go_enter Tryz.func69, Tryz.ntmps69
  go_wp2_with fail
  (with_reducible refine HE.out.mono ?_)
  rintro e w1 ⟨g, rfl, hgb, hgc, hb1⟩
  have hg0 : w1.heap[g]? = some (.cells ((fieldF ms (ws.take 0)).map encs).toArray 9 (0, 0)) := by
    rw [hgc, List.take_zero, fieldF_none, List.map_map, List.map_map]; rfl
  have HG0 := Lib.hid hg0
  have HB1 := Lib.hid hb1
  clear hgc hb1 hg0
  go_wp2_with fail
  go_loopw [12] (fun i wr => ∃ (k : Nat), k ≤ nw ∧ i = .int .i64 k ∧ Hid (wr.heap[g]? = some (.cells ((fieldF ms (ws.take k)).map encs).toArray 9 (0, 0))) ∧ Hid (Below w.heap.size w wr)) (fun i _ => nw - (intOf i).toNat)
  case atStart => exact ⟨0, Nat.zero_le _, rfl, HG0, HB1⟩
  case round =>
    obtain ⟨k, hk, rfl, HG, HB⟩ := hrel
    by_cases hlt : k < nw
    · obtain ⟨x, hx⟩ : ∃ x, ws[k]? = some x := ⟨_, List.getElem?_eq_getElem (by have := Hwl.out; omega)⟩
      obtain ⟨m, hm⟩ : ∃ m, ms[k]? = some m := ⟨_, List.getElem?_eq_getElem (by have := Hml.out; omega)⟩
      obtain ⟨b, o, rfl, hbl, hc1, hc2⟩ := (HW.out.below HB.out).at_ hx
      obtain ⟨b', o', rfl, hbl', hc3⟩ := HH.out.cell k (.string m) (by rw [List.getElem?_map, hm]; rfl)
      have hc4 := (HB.out.cell (p := ⟨b', o' + k, none⟩) hbl').trans hc3
      have hc5 := fun oo : Obj => (((Below.refl wr.heap.size wr).alloc (Nat.le_refl _) oo).cell (p := ⟨b', o' + k, none⟩) (Nat.lt_of_lt_of_le hbl' HB.out.size)).trans hc4
      obtain ⟨x1, hx1⟩ : ∃ x1 : ByteArray, encs x.1 = .string x1 := ⟨_, rfl⟩
      obtain ⟨x2, hx2⟩ : ∃ x2 : ByteArray, encs x.2 = .string x2 := ⟨_, rfl⟩
      rw [hx1] at hc1
      rw [hx2] at hc2
      have hst := fieldF_step ms ws k x m hx hm
      have hx2' : ByteArray.mk x.2.toArray = x2 := by injection hx2
      rw [hx2'] at hst
      obtain ⟨u, hu⟩ : ∃ u, u = (x2.toList == m.toList) := ⟨_, rfl⟩
      rw [← hu] at hst
      have hu' : (x2.toList == m.toList) = u := hu.symm
      have hkn : (k : Int) < (nw : Int) := by omega
      have hkm : (k : Int) < (n : Int) := by omega
      have hk0 : (0 : Int) ≤ (k : Int) := by omega
      have hgl := (Array.getElem?_eq_some_iff.1 HG.out).1
      have Hlt := Lib.hid hlt
      have HSt := Lib.hid hst
      have hg1 := fun oo : Obj => (((Below.refl wr.heap.size wr).alloc (Nat.le_refl _) oo).block g hgl).trans HG.out
      have hb1 := fun oo : Obj => (HB.out.alloc (HB.out.size) oo)
      have HG1 := Lib.hid hg1
      have HB2 := Lib.hid hb1
      have Hx1 := Lib.hid hx1
      clear hlt hst hx2' hx hm hu hx1 hx2 hc3 hg1 hb1
      cases u with
      | true =>
        have hkf : k < (fieldF ms (ws.take k)).length := by rw [fieldF_len, ← Hml.out]; omega
        have hcg : ∃ y, ∀ oo : Obj, (wr.alloc oo).cell? ⟨g, k, none⟩ = some y := ⟨encs ((fieldF ms (ws.take k))[k]'hkf), fun oo => by
          rw [cell_of_row _ _ _ _ _ _ (HG1.out oo)]
          simp [hkf]⟩
        obtain ⟨y, hcg⟩ := hcg
        have hfg : ∀ oo : Obj, (wr.alloc oo).frozen? ⟨g, k, none⟩ = false := fun oo => by simp [World.frozen?, HG1.out oo]
        have hg2 : (wr.setCell ⟨g, k, none⟩ (.string x1)).heap[g]? = some (.cells ((fieldF ms (ws.take (k + 1))).map encs).toArray 9 (0, 0)) := by
          rw [heap_setCell_same _ g k _ _ _ HG.out, HSt.out, if_pos rfl, ← Hx1.out, List.map_set]
          simp
        have hg3 := fun oo : Obj => (((Below.refl (wr.setCell ⟨g, k, none⟩ (.string x1)).heap.size (wr.setCell ⟨g, k, none⟩ (.string x1))).alloc (Nat.le_refl _) oo).drew.block g (Array.getElem?_eq_some_iff.1 hg2).1).trans hg2
        have hb3 := HB.out.setCell (p := ⟨g, k, none⟩) hgb (.string x1)
        have HG3 := Lib.hid hg3
        have HB3 := Lib.hid (fun oo : Obj => (hb3.alloc hb3.size oo).drew)
        clear hg2 hb3
        clear hg3
        go_wp2_with fail
        go_region_with (fail)
        all_goals
          go_wp2_with fail
          go_roundw
          case rel => exact ⟨k + 1, Hlt.out, by go_num, Lib.hid (HG3.out _), Lib.hid (HB3.out _)⟩
          case measure => have := Hlt.out; simp [intOf]; omega
      | false =>
        go_wp2_with fail
        go_region_with (fail)
        all_goals
          go_wp2_with fail
          go_roundw
          case rel => exact ⟨k + 1, Hlt.out, by go_num, Lib.hid (by rw [HSt.out, if_neg (by simp)]; exact HG1.out _), Lib.hid (HB2.out _).drew⟩
          case measure => have := Hlt.out; simp [intOf]; omega
    · obtain rfl : k = nw := by omega
      have hfl : n = (fieldF ms ws).length := by rw [fieldF_len]; exact Hml.out
      have hg := HG.out
      rw [List.take_of_length_le (by have := Hwl.out; omega)] at hg
      have hjl : (Lib.join (fieldF ms ws) [44]).length ≤ 140737488355328 := by
        have := HLe.out
        rw [← hfl] at this
        have h2 : n * (12004 + ([44] : Bs).length) ≤ 100000 * 12005 := Nat.mul_le_mul hn (by simp)
        omega
      have HJ := Tryz.strings_Join g 0 n ((fieldF ms ws).map fun l => ByteArray.mk l.toArray) ⟨#[44]⟩ wr (fun j x hx => by
        rw [cell_of_row _ _ _ _ _ _ hg]
        rw [List.getElem?_map] at hx
        cases hf : (fieldF ms ws)[j]? with
        | none => rw [hf] at hx; cases hx
        | some l =>
          rw [hf] at hx
          simp only [Option.map_some, Option.some.injEq] at hx
          subst hx
          simp [hf, encs]) (Array.getElem?_eq_some_iff.1 hg).1
      rw [List.length_map, ← hfl, List.map_map, show ((fun x : ByteArray => x.data.toList) ∘ fun l : Bs => ByteArray.mk l.toArray) = id from funext fun l => by simp, List.map_id] at HJ
      have HJ2 := Lib.hid (HJ (by omega) (Nat.le_refl _) hjl)
      clear HJ hjl hg hfl hlt
      go_wp2_with fail
      (with_reducible refine HJ2.out.mono ?_)
      rintro e w2 ⟨rfl, hb2⟩
      go_wp2_with fail
      go_ret
      exact ⟨rfl, HB.out.trans (hb2.mono HB.out.size)⟩
end Go.Proofs.YtkgpjohfkfbfhaaGreatDoor.Cv
namespace Go.Proofs.YtkgpjohfkfbfhaaGreatDoor.Cl
open Go.RowKit
set_option maxRecDepth 100000

theorem elem_edge : Elem Tryz.prog 30 53 (.agg #[.string ⟨#[]⟩, .slice none 0 0]) 2 40 := ⟨Tryz.underlying30, by kernel_rfl, rfl, by omega⟩
theorem src_edges {w : World} {b o n c : Nat} {vs : List Value} (hl : vs.length = n * 2) (hc : ∀ j u, vs[j]? = some u → w.cell? ⟨b, o + j, none⟩ = some u) (h1 : ∀ u ∈ vs, u.oneCell' = true) : Src Tryz.prog 2 30 (.slice (some ⟨b, o, none⟩) n c) n vs w :=
  Src.ofSlice w Tryz.underlying30 ⟨b, o, none⟩ n c vs hl (fun j u hu => by rw [Addr.add_lit]; exact hc j u hu) h1
theorem src_none (w : World) (A : Option Addr) (c : Nat) : Src Tryz.prog 2 30 (.slice A 0 c) 0 [] w := by
  cases A with
  | none => exact Src.ofNil w Tryz.underlying30 c
  | some a => exact Src.ofSlice w Tryz.underlying30 a 0 c [] rfl (fun j u hu => by simp at hu) (fun u hu => by cases hu)

/-- The answer's row lies in the new block, and reads as what was handed. -/
theorem level_hp (t : Tr) (A : Option Addr) (n c : Nat) (P : Nat → Prop) (w : World) (h : HoldsP w P A n t) (hP : ∀ b, P b → b < w.heap.size) (hn : n ≤ 1099511627776) :
    Calls Tryz.prog 127 #[.slice A n c] w fun e w' => ∃ A' c', e = .returned (.slice A' n c') ∧ w.grownBy w' none ∧ n ≤ c' ∧ c' ≤ maxLen ∧ HoldsP w' (fun b => P b ∨ b = w.heap.size) A' n t ∧
      (∀ a, A' = some a → a = ⟨w.heap.size, 0, none⟩ ∧ ∃ cur, w'.heap[w.heap.size]? = some (.cells cur 53 (0, 0))) := by
  obtain ⟨vs, hl, h1, hc, hA⟩ := h.row
  have hsrc : Src Tryz.prog 2 30 (.slice A n c) n vs w := by
    rcases Nat.eq_zero_or_pos n with g | g
    · subst g
      have : vs = [] := List.eq_nil_of_length_eq_zero (by rw [hl])
      subst this
      exact src_none w A c
    · obtain ⟨b, o, rfl, _⟩ := hA g
      exact src_edges hl (hc b o rfl) h1
  have hn2 : 0 + n ≤ 1099511627776 := by omega
  have H := Lib.hid h
  have HP := Lib.hid hP
  have Hc := Lib.hid hc
  have HA := Lib.hid hA
  have Hl := Lib.hid hl
  clear h hP hc hA hl
  go_enter Tryz.func127, Tryz.ntmps127
  go_wp2_with (at_builtin; refine wpList_append_row rfl (.const (.slice none 0 0)) (.tmp 3) _ _ rfl elem_edge rfl rfl (World.ownsRow_nil w w.heap.size _ _) hsrc hn2 (Nat.le_refl _) ?_; intro A2 c2 w2 ho2 hg2 hat2; simp only [Nat.zero_add, List.nil_append] at ho2; rw [Nat.zero_add])
  go_ret
  have hkeep : ∀ b o, P b → w2.cell? ⟨b, o, none⟩ = w.cell? ⟨b, o, none⟩ := fun b o hb => World.cell?_of_block (hg2.block b (HP.out b hb) (fun e => by cases e))
  rcases ho2.2 with ⟨e1, e2⟩ | ⟨g, cap, cur, e1, hg, hh, hcap, hmx, hsz, htk⟩
  · injection e1 with a1 a2 a3
    subst a1; subst a2; subst a3
    have ht := H.out.len
    have hH := H.out
    cases t with
    | nil => exact ⟨none, 0, rfl, hg2, Nat.le_refl _, by simp [maxLen], rfl, fun a ha => by cases ha⟩
    | cons s k r => simp [Tr.len] at ht
  · injection e1 with a1 a2 a3
    subst a1; subst a3
    have hgw : g = w.heap.size := by
      rcases hat2 _ rfl with e | e
      · exact e
      · simp [Value.ownBlock] at e
    subst hgw
    refine ⟨_, c2, rfl, hg2, hcap, hmx, ?_, fun a ha => ⟨by injection ha with ha; exact ha.symm, cur, hh⟩⟩
    have hcp : ∀ j u, vs[j]? = some u → w2.cell? ⟨w.heap.size, 0 + j, none⟩ = some u := by
      intro j u hu
      rw [cell_of_row w2 _ _ cur _ _ hh, Nat.zero_add]
      rw [← htk, List.getElem?_take] at hu
      split at hu
      · simpa using hu
      · cases hu
    rcases Nat.eq_zero_or_pos n with g0 | g0
    · subst g0
      have ht := H.out.len
      cases t with
      | nil => exact rfl
      | cons s k r => simp [Tr.len] at ht
    · obtain ⟨b, o, rfl, hb⟩ := HA.out g0
      refine HoldsP.copy hkeep (fun b hb => .inl hb) H.out (.inr rfl) (fun j hj => ?_)
      have hlt : j < vs.length := by rw [Hl.out]; exact hj
      rw [hcp j _ (List.getElem?_eq_getElem hlt), Hc.out b o rfl j _ (List.getElem?_eq_getElem hlt)]

/-- A slice of edges still to be gone through. -/
structure CJob where
  a1 : Option Addr
  n1 : Nat
  c1 : Nat
def CJob.cells (x : CJob) : List Value := [.slice x.a1 x.n1 x.c1]
def cjobs (L : List CJob) : List Value := L.flatMap CJob.cells
theorem cjobs_length (L : List CJob) : (cjobs L).length = L.length * 1 := by
  induction L with
  | nil => rfl
  | cons x l ih => simp only [cjobs, List.flatMap_cons, List.length_append, List.length_cons] at ih ⊢; rw [ih]; simp [CJob.cells]; omega
theorem cjobs_append (L M : List CJob) : cjobs (L ++ M) = cjobs L ++ cjobs M := by simp [cjobs]

structure CStk (w : World) (base g : Nat) (L : List CJob) : Prop where
  le : base ≤ g
  row : ∃ A c, w.heap[g]? = some (.cells #[.slice A L.length c] 180 (0, 0)) ∧ w.ownsRow base 30 1 (.slice A L.length c) L.length (cjobs L)

theorem CStk.grow {w w' : World} {base g : Nat} {L : List CJob} (h : CStk w base g L) (hk : ∀ k, k < w.heap.size → w'.heap[k]? = w.heap[k]?) : CStk w' base g L := by
  obtain ⟨A, c, hb, hr1, hr⟩ := h.row
  have hs : ∀ (k : Nat) (o : Obj), w.heap[k]? = some o → w'.heap[k]? = some o := fun k o ho => (hk k (Array.getElem?_eq_some_iff.1 ho).1).trans ho
  refine ⟨h.le, A, c, hs _ _ hb, hr1, ?_⟩
  rcases hr with e | ⟨g1, cap, cur, e, hg, hh, rest⟩
  · exact .inl e
  · exact .inr ⟨g1, cap, cur, e, hg, hs _ _ hh, rest⟩
theorem CStk.alloc {w : World} {base g : Nat} {L : List CJob} (h : CStk w base g L) (o : Obj) : CStk (w.alloc o) base g L := h.grow fun k hk => Below.heap_alloc w o k hk
theorem CStk.drewN {w : World} {base g : Nat} {L : List CJob} (h : CStk w base g L) (q : Nat) : CStk (w.drewN q) base g L := h.grow fun _ _ => rfl

/-- Block k is none of the stack's: not its box, not its row. -/
def CFar (w : World) (g k : Nat) : Prop := k ≠ g ∧ ∀ A n c, w.heap[g]? = some (.cells #[.slice A n c] 180 (0, 0)) → (Value.slice A n c).ownBlock ≠ some k
theorem CStk.lt {w : World} {base g : Nat} {L : List CJob} (h : CStk w base g L) : g < w.heap.size := by
  obtain ⟨A, c, hb, _⟩ := h.row
  exact (Array.getElem?_eq_some_iff.1 hb).1
theorem CStk.far {w : World} {base g k : Nat} {L : List CJob} (h : CStk w base g L) (hk : w.heap.size ≤ k) : CFar w g k := by
  have hl := h.lt
  obtain ⟨A, c, hb, hrow⟩ := h.row
  refine ⟨by omega, fun A' n' c' he e => ?_⟩
  rw [hb] at he
  injection he with he
  injection he with he _ _
  have he := congrArg Array.toList he
  simp only [List.cons.injEq, Value.slice.injEq, and_true] at he
  obtain ⟨rfl, rfl, rfl⟩ := he
  have := (hrow.lt k e).2
  omega
theorem CFar.grow {w w' : World} {g k : Nat} (h : CFar w g k) (hg : g < w.heap.size) (hk : ∀ k, k < w.heap.size → w'.heap[k]? = w.heap[k]?) : CFar w' g k :=
  ⟨h.1, fun A n c he => h.2 A n c ((hk g hg).symm.trans he)⟩

set_option maxHeartbeats 1000000 in
theorem cpop_any (base g : Nat) (L : List CJob) (x : CJob) (w : World) (h : CStk w base g (L ++ [x])) (hL : L.length ≤ 1099511627776) :
    Calls Tryz.prog 128 #[.pointer (some ⟨g, 0, none⟩)] w fun e w' =>
      e = .returned (.slice x.a1 x.n1 x.c1) ∧ CStk w' base g L ∧ w.grownBy w' (some g) := by
  obtain ⟨A, c, hb, hrow⟩ := h.row
  have hrow2 := hrow
  obtain ⟨hr1, hr⟩ := hrow
  rcases hr with ⟨e, e2⟩ | ⟨g1, cap, cur, e, hg, hh, hcap, hmx, hsz, htk⟩
  · simp at e2
  injection e with e1 e2 e3
  subst e1; subst e3
  have hlen : (L ++ [x]).length = L.length + 1 := by simp
  rw [hlen] at hb hcap htk
  have hcell : ∀ j v, (cjobs (L ++ [x]))[j]? = some v → w.cell? ⟨g1, j, none⟩ = some v := by
    intro j v hv
    rw [cell_of_row w g1 j cur _ _ hh]
    rw [← htk, List.getElem?_take] at hv
    split at hv
    · simpa using hv
    · cases hv
  have hc0 : w.cell? ⟨g1, L.length, none⟩ = some (.slice x.a1 x.n1 x.c1) := hcell _ _ (by rw [cjobs_append, List.getElem?_append_right (by rw [cjobs_length, Nat.mul_one]; exact Nat.le_refl _), cjobs_length, Nat.mul_one, Nat.sub_self]; rfl)
  have hbox : w.cell? ⟨g, 0, none⟩ = some (.slice (some ⟨g1, 0, none⟩) (L.length + 1) c) := by rw [cell_of_row w g 0 _ _ _ hb]; rfl
  have hfr : w.frozen? ⟨g, 0, none⟩ = false := by simp [World.frozen?, hb]
  obtain ⟨k, hk⟩ : ∃ k, k = L.length := ⟨_, rfl⟩
  rw [← hk] at hc0 hbox hL hcap
  have hgl : g < w.heap.size := (Array.getElem?_eq_some_iff.1 hb).1
  have hg1l : g1 < w.heap.size := (Array.getElem?_eq_some_iff.1 hh).1
  have hne : g1 ≠ g := by rintro rfl; rw [hh] at hb; simp at hb
  have Hk := Lib.hid hk
  have Hb := Lib.hid hb
  have Hh := Lib.hid hh
  have Hsz := Lib.hid hsz
  have Htk := Lib.hid htk
  clear hcell htk hr1 hrow2 hb hlen hh hsz hk e2
  go_enter Tryz.func128, Tryz.ntmps128
  go_wp2_with fail
  refine bodyPost_ret (v := .slice x.a1 x.n1 x.c1) (by simp [results, Tryz.results128, go_sem]) rfl ⟨rfl, ⟨h.le, some ⟨g1, 0, none⟩, c, ?_, ?_⟩, grown_set _ _ _⟩
  · rw [← Hk.out]
    exact box_set Hb.out
  · rw [← Hk.out]
    refine ⟨by rw [cjobs_length, Hk.out], .inr ⟨g1, c, cur, rfl, hg, heap_far Hh.out hne _, by omega, hmx, Hsz.out, ?_⟩⟩
    have hk := Hk.out
    have e3 : (cjobs L).take (k * 1) = cjobs L := List.take_of_length_le (by rw [cjobs_length, hk]; exact Nat.le_refl _)
    have := congrArg (List.take (k * 1)) Htk.out
    rw [List.take_take, cjobs_append, List.take_append_of_le_length (by rw [cjobs_length, hk]; exact Nat.le_refl _), e3, Nat.min_eq_left (by omega)] at this
    exact this

theorem cjobs_one (L : List CJob) : ∀ u ∈ cjobs L, u.oneCell' = true := by
  intro u hu
  simp only [cjobs, List.mem_flatMap] at hu
  obtain ⟨x, _, hx⟩ := hu
  simp only [CJob.cells, List.mem_cons, List.not_mem_nil, or_false] at hx
  subst hx; rfl

theorem elem_tree : Elem Tryz.prog 180 30 (.slice none 0 0) 1 24 := ⟨Tryz.underlying180, by kernel_rfl, rfl, by omega⟩

set_option maxHeartbeats 1000000 in
theorem cpush_any (base g b o m c : Nat) (L M : List CJob) (w : World) (h : CStk w base g L) (hm : m = M.length) (hc : ∀ j u, (cjobs M)[j]? = some u → w.cell? ⟨b, o + j, none⟩ = some u) (hL : L.length + m ≤ 1099511627776) (hb : base ≤ w.heap.size) :
    Calls Tryz.prog 129 #[.pointer (some ⟨g, 0, none⟩), .slice (some ⟨b, o, none⟩) m c] w fun e w' =>
      (∃ v, e = .returned v) ∧ CStk w' base g (L ++ M) ∧ Below base w w' ∧ ∀ k, k < w.heap.size → CFar w g k → w'.heap[k]? = w.heap[k]? ∧ CFar w' g k := by
  obtain ⟨A, c1, hbx, hrow⟩ := h.row
  have hbox : w.cell? ⟨g, 0, none⟩ = some (.slice A L.length c1) := by rw [cell_of_row w g 0 _ _ _ hbx]; rfl
  have hfr : w.frozen? ⟨g, 0, none⟩ = false := by simp [World.frozen?, hbx]
  have hgl : g < w.heap.size := (Array.getElem?_eq_some_iff.1 hbx).1
  have hsrc : Src Tryz.prog 1 35 (.slice (some ⟨b, o, none⟩) m c) m (cjobs M) w := Src.laid Tryz.underlying35 (by rw [cjobs_length, hm]) hc (cjobs_one M)
  have hlt := hrow.lt
  have hne : ∀ k, (Value.slice A L.length c1).ownBlock = some k → k ≠ g := by
    rintro k hk rfl
    rcases hrow.2 with ⟨e, _⟩ | ⟨g1, cap, cur, e, _, hh, _⟩
    · rw [e] at hk; cases hk
    · rw [e] at hk
      injection hk with hk
      simp only at hk
      rw [hk] at hh
      rw [hh] at hbx
      simp at hbx
  obtain ⟨k, hk⟩ : ∃ k, k = L.length := ⟨_, rfl⟩
  rw [← hk] at hbox hL hrow hlt hne
  have Hbx := Lib.hid hbx
  have Hm := Lib.hid hm
  have Hk := Lib.hid hk
  have Hlt := Lib.hid hlt
  have Hne := Lib.hid hne
  clear hc hk hm hlt hne hbx
  go_enter Tryz.func129, Tryz.ntmps129
  go_wp2_with (at_builtin; refine wpList_append_row rfl (.tmp 7) (.tmp 8) _ _ rfl elem_tree rfl rfl hrow hsrc hL hb ?_; intro A' c' w' ho' hg' hat'; have hbox' := (hg'.cell hbox (fun e => Hne.out _ e.symm rfl)); have hfr' : w'.frozen? ⟨g, 0, none⟩ = false := (World.frozen?_of_block (hg'.block g hgl (fun e => Hne.out _ e.symm rfl))).trans hfr)
  go_end0
  have hnb : (Value.slice A' (k + m) c').ownBlock ≠ some g := by
    cases A' with
    | none => simp [Value.ownBlock]
    | some a =>
      rcases hat' a rfl with e | e
      · simp only [Value.ownBlock, ne_eq, Option.some.injEq]; omega
      · intro e'
        simp only [Value.ownBlock] at e'
        exact Hne.out g (by rw [← e, ← e']) rfl
  have hlen : (L ++ M).length = k + m := by rw [List.length_append, ← Hk.out, ← Hm.out]
  refine ⟨⟨_, rfl⟩, ⟨h.le, A', c', ?_, ?_⟩, ?_, fun q hq hf => ?_⟩
  · rw [hlen]
    exact box_set ((hg'.block g hgl (fun e => Hne.out _ e.symm rfl)).trans Hbx.out)
  · rw [hlen, cjobs_append]
    exact ho'.kept (grown_set w' ⟨g, 0, none⟩ _) (.inr hnb)
  · refine ((Below.refl base w).grown hg' hb (fun q hq => (Hlt.out q hq).1)).trans ?_
    exact (Below.refl base w').setCell h.le _
  · have hq2 := hf.2 _ _ _ Hbx.out
    rw [← Hk.out] at hq2
    refine ⟨(Below.heap_setCell w' ⟨g, 0, none⟩ _ q hf.1).trans (hg'.block q hq (fun e => hq2 e.symm)), hf.1, fun A2 n2 c2 he => ?_⟩
    rw [box_set ((hg'.block g hgl (fun e => Hne.out _ e.symm rfl)).trans Hbx.out)] at he
    injection he with he
    injection he with he _ _
    have he := congrArg Array.toList he
    simp only [List.cons.injEq, Value.slice.injEq, and_true] at he
    obtain ⟨rfl, rfl, rfl⟩ := he
    cases A' with
    | none => simp [Value.ownBlock]
    | some a =>
      rcases hat' a rfl with e | e
      · simp only [Value.ownBlock, ne_eq, Option.some.injEq]; omega
      · simp only [Value.ownBlock]
        rw [e]
        exact hq2
/-- A block of edges is none of the stack's. -/
theorem CStk.kind {w : World} {base g k : Nat} {L : List CJob} (h : CStk w base g L) {cur : Array Value} (hk : w.heap[k]? = some (.cells cur 53 (0, 0))) : CFar w g k := by
  obtain ⟨A, c, hb, hrow⟩ := h.row
  refine ⟨fun e => ?_, fun A' n' c' he e => ?_⟩
  · subst e
    rw [hk] at hb
    injection hb with hb
    injection hb with _ hb _
    exact absurd hb (by decide)
  · rw [hb] at he
    injection he with he
    injection he with he _ _
    have he := congrArg Array.toList he
    simp only [List.cons.injEq, Value.slice.injEq, and_true] at he
    obtain ⟨rfl, rfl, rfl⟩ := he
    rcases hrow.2 with ⟨e1, _⟩ | ⟨g1, cap, cur1, e1, _, hh, _⟩
    · rw [e1] at e; cases e
    · rw [e1] at e
      simp only [Value.ownBlock, Option.some.injEq] at e
      subst e
      rw [hk] at hh
      injection hh with hh
      injection hh with _ hh _
      exact absurd hh (by decide)
/-- A store into a block that is none of the stack's. -/
theorem CStk.set {w : World} {base g : Nat} {L : List CJob} (h : CStk w base g L) {a : Addr} (hf : CFar w g a.block) (v : Value) : CStk (w.setCell a v) base g L := by
  obtain ⟨A, c, hb, hrow⟩ := h.row
  refine ⟨h.le, A, c, heap_far hb (fun e => hf.1 e.symm) v, hrow.kept (grown_set w a v) (.inr ?_)⟩
  exact hf.2 _ _ _ hb
theorem CStk.grownNone {w w' : World} {base g : Nat} {L : List CJob} (h : CStk w base g L) (hg : w.grownBy w' none) : CStk w' base g L := h.grow fun k hk => hg.block k hk (by simp)
end Go.Proofs.YtkgpjohfkfbfhaaGreatDoor.Cl
namespace Go.Proofs.YtkgpjohfkfbfhaaGreatDoor.Cl
open Go.RowKit
set_option maxRecDepth 100000

/-- Where trees may lie that clone goes through: ahead of its own memory, or in rows of edges of its own. -/
def Pw (w : World) (base : Nat) (b : Nat) : Prop := b < base ∨ (base ≤ b ∧ ∃ cur, w.heap[b]? = some (.cells cur 53 (0, 0)))
theorem Pw.keep {w w' : World} {base b : Nat} (hk : Pw w base b → w'.heap[b]? = w.heap[b]?) (h : Pw w base b) : Pw w' base b := by
  have e := hk h
  rcases h with h | ⟨h, cur, hc⟩
  · exact .inl h
  · exact .inr ⟨h, cur, e.trans hc⟩
theorem Pw.lt {w : World} {base b : Nat} (hb : base ≤ w.heap.size) (h : Pw w base b) : b < w.heap.size := by
  rcases h with h | ⟨_, cur, hc⟩
  · omega
  · exact (Array.getElem?_eq_some_iff.1 hc).1
theorem HoldsP.step {w w' : World} {base : Nat} (hk : ∀ b, Pw w base b → w'.heap[b]? = w.heap[b]?) {A : Option Addr} {n : Nat} {t : Tr} (h : HoldsP w (Pw w base) A n t) : HoldsP w' (Pw w' base) A n t :=
  (h.keep fun b _ hb => World.cell?_of_block (hk b hb)).more fun b hb => hb.keep (hk b)

def Row (w : World) (base : Nat) (A : Option Addr) : Prop := ∀ a, A = some a → ∃ d, a = ⟨d, 0, none⟩ ∧ base ≤ d ∧ ∃ cur, w.heap[d]? = some (.cells cur 53 (0, 0))
theorem Row.step {w w' : World} {base : Nat} (hk : ∀ b, Pw w base b → w'.heap[b]? = w.heap[b]?) {A : Option Addr} (h : Row w base A) : Row w' base A := fun a ha => by
  obtain ⟨d, e, hd, cur, hc⟩ := h a ha
  exact ⟨d, e, hd, cur, (hk d (.inr ⟨hd, cur, hc⟩)).trans hc⟩
structure JobOK (w : World) (base : Nat) (p : CJob × Tr) : Prop where
  holds : HoldsP w (Pw w base) p.1.a1 p.1.n1 p.2
  row : Row w base p.1.a1
theorem JobOK.step {w w' : World} {base : Nat} (hk : ∀ b, Pw w base b → w'.heap[b]? = w.heap[b]?) {p : CJob × Tr} (h : JobOK w base p) : JobOK w' base p := ⟨h.holds.step hk, h.row.step hk⟩

/-- What level's contract leaves. -/
theorem level_ok {w w' : World} {base n c' : Nat} {A' : Option Addr} {t : Tr} (hb : base ≤ w.heap.size) (hg : w.grownBy w' none) (h : HoldsP w' (fun b => Pw w base b ∨ b = w.heap.size) A' n t)
    (ha : ∀ a, A' = some a → a = ⟨w.heap.size, 0, none⟩ ∧ ∃ cur, w'.heap[w.heap.size]? = some (.cells cur 53 (0, 0))) : JobOK w' base (⟨A', n, c'⟩, t) := by
  have hk : ∀ b, Pw w base b → Pw w' base b := fun b h => h.keep fun h => hg.block b (h.lt hb) (fun e => by cases e)
  refine ⟨?_, fun a e => ?_⟩
  · cases t with
    | nil => exact h
    | cons s k r =>
      cases A' with
      | none => obtain ⟨b, o, e, _⟩ := h; cases e
      | some a =>
        obtain ⟨_, cur, hc⟩ := ha a rfl
        exact h.more fun b h => h.elim (hk b) (fun e => by rw [e]; exact .inr ⟨hb, cur, hc⟩)
  · obtain ⟨e1, cur, hc⟩ := ha a e
    exact ⟨_, e1, hb, cur, hc⟩

/-- Behind the store of a slice that reads the same. -/
theorem Pw.set {w : World} {base p q : Nat} {cur : Array Value} {v : Value} (hh : w.heap[p]? = some (.cells cur 53 (0, 0))) {b : Nat} (h : Pw w base b) : Pw (w.setCell ⟨p, q, none⟩ v) base b := by
  rcases h with h | ⟨h, c2, hc⟩
  · exact .inl h
  · by_cases e : b = p
    · subst e
      exact .inr ⟨h, _, heap_setCell_same w b q cur _ _ hh⟩
    · exact .inr ⟨h, c2, (Below.heap_setCell w _ _ b e).trans hc⟩
theorem JobOK.set {w : World} {base p q n1 c1 n2 c2 : Nat} {X Y : Option Addr} {u : Tr} {cur : Array Value} (hh : w.heap[p]? = some (.cells cur 53 (0, 0))) (hq : w.cell? ⟨p, q, none⟩ = some (.slice X n1 c1)) (h1 : HoldsP w (Pw w base) X n1 u) (h2 : HoldsP w (Pw w base) Y n2 u) (hn : n2 ≤ c2) (hm : c2 ≤ maxLen)
    {A : Option Addr} {n : Nat} {t : Tr} (h : HoldsP w (Pw w base) A n t) : HoldsP (w.setCell ⟨p, q, none⟩ (.slice Y n2 c2)) (Pw (w.setCell ⟨p, q, none⟩ (.slice Y n2 c2)) base) A n t :=
  (HoldsP.repl hh hq h1 h2 hn hm h1 h).more fun _ hb => hb.set hh
theorem Row.set {w : World} {base p q : Nat} {cur : Array Value} {v : Value} (hh : w.heap[p]? = some (.cells cur 53 (0, 0))) {A : Option Addr} (h : Row w base A) : Row (w.setCell ⟨p, q, none⟩ v) base A := fun a ha => by
  obtain ⟨d, e, hd, c2, hc⟩ := h a ha
  rcases Pw.set (base := base) (q := q) (v := v) hh (.inr ⟨hd, c2, hc⟩) with h | ⟨_, h⟩
  · omega
  · exact ⟨d, e, hd, h⟩

structure ClSt (w : World) (base g : Nat) (A : Option Addr) (n : Nat) (t : Tr) (X : List (CJob × Tr)) : Prop where
  stk : CStk w base g (X.map Prod.fst)
  whole : HoldsP w (Pw w base) A n t
  jobs : ∀ p ∈ X, JobOK w base p
  size : base ≤ w.heap.size

section
variable {w w' : World} {base g n : Nat} {A : Option Addr} {t : Tr} {X : List (CJob × Tr)}
theorem ClSt.grow (h : ClSt w base g A n t X) (hg : w.grownBy w' none) : ClSt w' base g A n t X :=
  have hk : ∀ b, Pw w base b → w'.heap[b]? = w.heap[b]? := fun b hb => hg.block b (hb.lt h.size) (fun e => by cases e)
  ⟨h.stk.grownNone hg, h.whole.step hk, fun p hp => (h.jobs p hp).step hk, Nat.le_trans h.size hg.size⟩
theorem ClSt.alloc (h : ClSt w base g A n t X) (o : Obj) : ClSt (w.alloc o) base g A n t X :=
  have hk : ∀ b, Pw w base b → (w.alloc o).heap[b]? = w.heap[b]? := fun b hb => Below.heap_alloc w o b (hb.lt h.size)
  ⟨h.stk.alloc o, h.whole.step hk, fun p hp => (h.jobs p hp).step hk, by simp; exact Nat.le_succ_of_le h.size⟩
/-- Popped. -/
theorem ClSt.pop {x : CJob × Tr} (h : ClSt w base g A n t (X ++ [x])) (hs : CStk w' base g (X.map Prod.fst)) (hg : w.grownBy w' (some g)) : ClSt w' base g A n t X ∧ JobOK w' base x := by
  have hk : ∀ b, Pw w base b → w'.heap[b]? = w.heap[b]? := fun b hb => hg.block b (hb.lt h.size) (fun e => by
    injection e with e
    subst e
    rcases hb with hb | ⟨_, cur, hc⟩
    · have := h.stk.le; omega
    · exact (h.stk.kind hc).1 rfl)
  exact ⟨⟨hs, h.whole.step hk, fun p hp => (h.jobs p (List.mem_append.2 (.inl hp))).step hk, Nat.le_trans h.size hg.size⟩, (h.jobs x (by simp)).step hk⟩
/-- Pushed. -/
theorem ClSt.push {x y : CJob × Tr} (h : ClSt w base g A n t X) (hx : JobOK w base x) (hy : JobOK w base y) (hs : CStk w' base g (X.map Prod.fst ++ [x.1])) (hb : Below base w w') (hg : ∀ k, k < w.heap.size → CFar w g k → w'.heap[k]? = w.heap[k]?) : ClSt w' base g A n t (X ++ [x]) ∧ JobOK w' base y := by
  have hk : ∀ b, Pw w base b → w'.heap[b]? = w.heap[b]? := fun b h1 => by
    rcases h1 with h1 | ⟨h0, cur, hc⟩
    · exact hb.block b h1
    · exact hg b (Array.getElem?_eq_some_iff.1 hc).1 (h.stk.kind hc)
  refine ⟨⟨by simpa using hs, h.whole.step hk, fun p hp => ?_, Nat.le_trans h.size hb.size⟩, hy.step hk⟩
  rcases List.mem_append.1 hp with hp | hp
  · exact (h.jobs p hp).step hk
  · simp only [List.mem_cons, List.not_mem_nil, or_false] at hp
    subst hp
    exact hx.step hk
/-- Stored. -/
theorem ClSt.set {p q n1 c1 n2 c2 : Nat} {Z Y : Option Addr} {u : Tr} {cur : Array Value} (h : ClSt w base g A n t X) (hh : w.heap[p]? = some (.cells cur 53 (0, 0))) (hq : w.cell? ⟨p, q, none⟩ = some (.slice Z n1 c1)) (h1 : HoldsP w (Pw w base) Z n1 u) (h2 : HoldsP w (Pw w base) Y n2 u) (hn : n2 ≤ c2) (hm : c2 ≤ maxLen) :
    ClSt (w.setCell ⟨p, q, none⟩ (.slice Y n2 c2)) base g A n t X :=
  ⟨h.stk.set (h.stk.kind hh) _, JobOK.set hh hq h1 h2 hn hm h.whole, fun x hx => ⟨JobOK.set hh hq h1 h2 hn hm (h.jobs x hx).holds, (h.jobs x hx).row.set hh⟩, by simp [World.setCell]; exact h.size⟩
end
end Go.Proofs.YtkgpjohfkfbfhaaGreatDoor.Cl
namespace Go.Proofs.YtkgpjohfkfbfhaaGreatDoor.Cl
open Go.RowKit
set_option maxRecDepth 100000

set_option maxHeartbeats 4000000 in
theorem clone_any (t : Tr) (A : Option Addr) (n c : Nat) (w : World) (h : Holds w w.heap.size A n t) (hsz : t.size ≤ 549755813888) :
    Calls Tryz.prog 96 #[.slice A n c] w fun e w' => ∃ A' c', e = .returned (.slice A' n c') ∧ n ≤ c' ∧ c' ≤ maxLen ∧ Holds w' w'.heap.size A' n t ∧ Below w.heap.size w w' := by
  have hnl : n ≤ 549755813888 := by have := h.len; have := t.len_size; omega
  have hP : HoldsP w (Pw w w.heap.size) A n t := (HoldsP.of h).more fun b hb => .inl hb
  have HL := Lib.hid (level_hp t A n c (Pw w w.heap.size) w hP (fun b hb => hb.lt (Nat.le_refl _)) (by omega))
  clear h
  go_enter Tryz.func96, Tryz.ntmps96
  go_wp2_with fail
  (with_reducible refine HL.out.mono ?_)
  rintro e w1 ⟨A1, c1, rfl, hg1, hn1, hm1, hh1, ha1⟩
  have J0 : JobOK w1 w.heap.size (⟨A1, n, c1⟩, t) := level_ok (Nat.le_refl _) hg1 hh1 ha1
  have HJ := Lib.hid J0
  have HG := Lib.hid hg1
  clear hh1 ha1 J0 hg1
  go_wp2_with fail
  obtain ⟨b0, hb0⟩ : ∃ b0, b0 = w.heap.size := ⟨_, rfl⟩
  obtain ⟨g, hg⟩ : ∃ g, g = w1.heap.size + 1 := ⟨_, rfl⟩
  have Hb0 := Lib.hid hb0
  have Hg := Lib.hid hg
  rw [← hb0] at HJ
  rw [← hg]
  go_loopg [] (t.size + 1) (fun k wr => ∃ X : List (CJob × Tr), Hid (k = load (X.map Prod.snd)) ∧ ClSt wr b0 g A1 n t X ∧ k ≤ t.size + 1 ∧ Below b0 w wr)
  case atStart =>
    have hsz1 := HG.out.size
    have St : ClSt ((w1.alloc (Obj.cells #[Value.slice A1 n c1] 30)).alloc (Obj.cells #[Value.slice (some ⟨w1.heap.size, 0, none⟩) 1 1] 180)) b0 g A1 n t [(⟨A1, n, c1⟩, t)] := by
      have hk : ∀ b, Pw w1 b0 b → ((w1.alloc (Obj.cells #[Value.slice A1 n c1] 30)).alloc (Obj.cells #[Value.slice (some ⟨w1.heap.size, 0, none⟩) 1 1] 180)).heap[b]? = w1.heap[b]? := fun b hb => by
        have hlt := hb.lt (by omega)
        rw [Below.heap_alloc _ _ _ (by simp; omega), Below.heap_alloc _ _ _ hlt]
      refine ⟨⟨by omega, some ⟨w1.heap.size, 0, none⟩, 1, ?_, ?_⟩, HJ.out.holds.step hk, fun p hp => ?_, by simp; omega⟩
      · rw [hg]
        exact (by rw [show w1.heap.size + 1 = (w1.alloc (Obj.cells #[Value.slice A1 n c1] 30)).heap.size by simp]; exact heap_alloc_new _ _)
      · exact (World.ownsRow_lit (base := b0) (e := 30) (size := 1) w1 #[Value.slice A1 n c1] 1 (by omega) (by simp [maxLen]) rfl).alloc _
      · simp only [List.mem_cons, List.not_mem_nil, or_false] at hp
        subst hp
        exact HJ.out.step hk
    refine ⟨[(⟨A1, n, c1⟩, t)], Lib.hid (by simp [load]), St, Nat.le_refl _, ?_⟩
    exact (((Below.refl b0 w).grown HG.out (by omega) (fun k hk => by cases hk)).alloc (by omega) _).alloc (by simp; omega) _
  case round =>
    clear hg hb0
    obtain ⟨X, Hk, hst, hk, hbw⟩ := hrel
    rcases List.eq_nil_or_concat X with rfl | ⟨X, x, rfl⟩
    · obtain ⟨A2, c2, hbx, _⟩ := hst.stk.row
      have hbox : wr.cell? ⟨g, 0, none⟩ = some (.slice A2 0 c2) := by rw [cell_of_row wr g 0 _ _ _ hbx]; rfl
      clear hbx
      go_wp2_with fail
      go_ret
      exact ⟨A1, c1, rfl, hn1, hm1, HoldsP.to (fun b hb => hb.lt hst.size) hst.whole, by rw [← Hb0.out]; exact hbw⟩
    · obtain ⟨⟨a1, nx, cx⟩, u⟩ := x
      obtain ⟨A2, c2, hbx, _⟩ := hst.stk.row
      have hlen : (List.map Prod.fst (X.concat (⟨a1, nx, cx⟩, u))).length = X.length + 1 := by simp
      rw [hlen] at hbx
      have hload : gk = load (X.map Prod.snd) + (u.size + 1) := by rw [Hk.out, List.concat_eq_append, List.map_append, load_append]; simp [load]
      have hll := load_len (X.map Prod.snd)
      rw [List.length_map] at hll
      have hXl : (X.map Prod.fst).length ≤ 1099511627776 := by rw [List.length_map]; omega
      have HP := Lib.hid (cpop_any b0 g (X.map Prod.fst) ⟨a1, nx, cx⟩ wr (by simpa using hst.stk) hXl)
      obtain ⟨N, hN⟩ : ∃ N, N = X.length := ⟨_, rfl⟩
      rw [← hN] at hbx
      have hN2 : N ≤ 1099511627776 := by rw [hN]; omega
      have hN3 : (0 : Int) < (N : Int) + 1 := by omega
      have hbox : wr.cell? ⟨g, 0, none⟩ = some (.slice A2 (N + 1) c2) := by rw [cell_of_row wr g 0 _ _ _ hbx]; rfl
      have Hld := Lib.hid hload
      clear hbx hlen hN hXl hload hll
      go_wp2_with fail
      (with_reducible refine HP.out.mono ?_)
      rintro e w2 ⟨rfl, hs2, hg2⟩
      obtain ⟨hst2, hj2⟩ := ClSt.pop (by simpa using hst) hs2 hg2
      have hbw2 : Below b0 wr w2 := (Below.refl b0 wr).grown hg2 hst.size (fun k hk => by injection hk with hk; have := hst.stk.le; omega)
      have hnx := hj2.holds.len
      simp only at hnx
      have hux := u.len_size
      have hld := Hld.out
      have hnb : nx ≤ 549755813889 := by omega
      have Hnx := Lib.hid hnx
      have Hux := Lib.hid hux
      have hbz := hbw.trans hbw2
      clear hnx hux hld HP hst hs2 hg2 hbox hN2 hN3 hbw hbw2
      go_wp2_with fail
      go_loopw [17] (fun i wl => ∃ (j : Nat) (X2 : List (CJob × Tr)), j ≤ nx ∧ i = .int .i64 j ∧ ClSt wl b0 g A1 n t X2 ∧ JobOK wl b0 (⟨a1, nx, cx⟩, u) ∧ Hid (load (X2.map Prod.snd) + load ((subs u).drop j) + 1 = gk) ∧ Below b0 w wl) (fun i _ => nx - (intOf i).toNat)
      case atStart => exact ⟨0, X, Nat.zero_le _, rfl, hst2, hj2, by have := Hld.out; rw [List.drop_zero, load_subs]; exact Lib.hid (by omega), hbz⟩
      case round =>
        clear hst2 hj2 hbz
        obtain ⟨j, X2, hj, rfl, hst, hjb, Hl, hbl⟩ := hrel
        by_cases hlt : j < nx
        · have hjl : j < (subs u).length := by rw [subs_len, ← Hnx.out]; exact hlt
          have hdr := List.drop_eq_getElem_cons hjl
          have hv := List.getElem?_eq_getElem hjl
          obtain ⟨v, hve⟩ : ∃ v, v = (subs u)[j] := ⟨_, rfl⟩
          rw [← hve] at hdr hv
          have hl := Hl.out
          rw [hdr] at hl
          simp only [load] at hl
          have hvl := v.len_size
          obtain ⟨vs, _, _, _, hA⟩ := hjb.holds.row
          obtain ⟨b', o', e', _⟩ := hA (by simp only; omega)
          simp only at e'
          subst e'
          obtain ⟨d, e', hd, cur, hh⟩ := hjb.row _ rfl
          injection e' with e1 e2
          subst e1; subst e2
          obtain ⟨A', n', c', hc, hn', hm', hh'⟩ := hjb.holds.sub hv
          rw [Nat.zero_add] at hc
          have hnv := hh'.len
          have hn40 : n' ≤ 1099511627776 := by omega
          have hfr : ∀ q, wr.frozen? ⟨b', q, none⟩ = false := fun q => by simp [World.frozen?, hh]
          have hjn : (j : Int) < (nx : Int) := by omega
          have hj0 : (0 : Int) ≤ (j : Int) := by omega
          have HL := Lib.hid (level_hp v A' n' c' (Pw wr b0) wr hh' (fun b hb => hb.lt hst.size) hn40)
          have He : Hid (load (X2.map Prod.snd) + (v.size + 1) + load ((subs u).drop (j + 1)) + 1 = gk) := Lib.hid (by omega)
          have hX2 := load_len (X2.map Prod.snd)
          rw [List.length_map] at hX2
          have hX3 : X2.length ≤ 549755813889 := by omega
          have HX := Lib.hid hX3
          have Hst := Lib.hid hst
          have Hjb := Lib.hid hjb
          have Hh := Lib.hid hh
          have Hc := Lib.hid hc
          have Hh' := Lib.hid hh'
          clear hv hve hdr hl hvl hnv hX2 hX3 hh' hst hjb hA Hl hh
          go_wp2_with fail
          (with_reducible refine HL.out.mono ?_)
          rintro e w3 ⟨A3, c3, rfl, hg3, hn3, hm3, hh3, ha3⟩
          have hsz3 := hg3.size
          have hst := Hst.out
          have hk3 : ∀ b, Pw wr b0 b → w3.heap[b]? = wr.heap[b]? := fun b hb => hg3.block b (hb.lt hst.size) (fun e => by cases e)
          have St3 := hst.grow hg3
          have J3 := Hjb.out.step hk3
          have JN3 : JobOK w3 b0 (⟨A3, n', c3⟩, v) := level_ok hst.size hg3 hh3 ha3
          have hdr : w3.heap[b']? = some (.cells cur 53 (0, 0)) := (hk3 b' (.inr ⟨hd, cur, Hh.out⟩)).trans Hh.out
          have hq3 : w3.cell? ⟨b', j * 2 + 1, none⟩ = some (.slice A' n' c') := (World.cell?_of_block (hk3 b' (.inr ⟨hd, cur, Hh.out⟩))).trans Hc.out
          have hz3 := Hh'.out.step hk3
          have St4 := St3.set hdr hq3 hz3 JN3.holds hn3 hm3
          have J4 : JobOK (w3.setCell ⟨b', j * 2 + 1, none⟩ (.slice A3 n' c3)) b0 (⟨some ⟨b', 0, none⟩, nx, cx⟩, u) := ⟨JobOK.set hdr hq3 hz3 JN3.holds hn3 hm3 J3.holds, J3.row.set hdr⟩
          have JN4 : JobOK (w3.setCell ⟨b', j * 2 + 1, none⟩ (.slice A3 n' c3)) b0 (⟨A3, n', c3⟩, v) := ⟨JobOK.set hdr hq3 hz3 JN3.holds hn3 hm3 JN3.holds, JN3.row.set hdr⟩
          have hb3 : Below b0 wr w3 := (Below.refl b0 wr).grown hg3 hst.size (fun k hk => by cases hk)
          have hb4 : Below b0 wr (w3.setCell ⟨b', j * 2 + 1, none⟩ (.slice A3 n' c3)) := hb3.setCell hd _
          have hfr3 : w3.frozen? ⟨b', j * 2 + 1, none⟩ = false := by simp [World.frozen?, hdr]
          have hat4 : (w3.setCell ⟨b', j * 2 + 1, none⟩ (.slice A3 n' c3)).cell? ⟨b', j * 2 + 1, none⟩ = some (.slice A3 n' c3) := by
            rw [cell_of_row _ _ _ _ _ _ (heap_setCell_same w3 b' (j * 2 + 1) cur _ _ hdr)]
            have : j * 2 + 1 < cur.size := by
              rw [cell_of_row _ _ _ _ _ _ hdr] at hq3
              exact (Array.getElem?_eq_some_iff.1 hq3).1
            simp [this]
          obtain ⟨w4, hw4⟩ : ∃ W, W = w3.setCell ⟨b', j * 2 + 1, none⟩ (.slice A3 n' c3) := ⟨_, rfl⟩
          rw [← hw4] at St4 J4 JN4 hb4 hat4
          have hS4 := Lib.hid St4
          have hJ4 := Lib.hid J4
          have hJN4 := Lib.hid JN4
          have HB4 := Lib.hid hb4
          clear St4 J4 JN4 hb4 hb3 hz3 JN3 J3 St3 hk3 hst hh3 ha3 hdr hc hfr hg3
          go_wp2_with fail
          rw [← hw4]
          have hz4 : w4.heap.size = w3.heap.size := by rw [hw4]; simp [World.setCell]
          have hsb := hS4.out.size
          have hka : ∀ b, Pw w4 b0 b → (w4.alloc (Obj.cells #[Value.slice A3 n' c3] 30)).heap[b]? = w4.heap[b]? := fun b hb => Below.heap_alloc _ _ b (hb.lt hsb)
          have St5 := hS4.out.alloc (Obj.cells #[Value.slice A3 n' c3] 30)
          have HC := cpush_any b0 g w3.heap.size 0 1 1 (X2.map Prod.fst) [⟨A3, n', c3⟩] (w4.alloc (Obj.cells #[Value.slice A3 n' c3] 30)) St5.stk rfl
            (fun q v hv => by
              match q, hv with
              | 0, hv => rw [cell_of_row _ _ _ _ _ _ (by rw [← hz4]; exact heap_alloc_new _ _)]; simpa [cjobs, CJob.cells] using hv
              | q + 1, hv => simp [cjobs, CJob.cells] at hv)
            (by rw [List.length_map]; have := HX.out; omega) (by simp; omega)
          (with_reducible refine HC.mono ?_)
          rintro e w5 ⟨⟨vv, rfl⟩, hs5, hb5, hg5⟩
          obtain ⟨St6, J6⟩ := St5.push (hJN4.out.step hka) (hJ4.out.step hka) hs5 hb5 (fun k hk hf => (hg5 k hk hf).1)
          have hb6 : Below b0 wr w5 := (HB4.out.alloc (by omega) _).trans hb5
          clear hka St5 HC hs5 hb5 hg5 hw4 hat4 hfr3 hq3
          go_wp2_with fail
          go_roundw
          case rel => exact ⟨j + 1, X2 ++ [(⟨A3, n', c3⟩, v)], by omega, by go_num, St6, J6, by have := He.out; rw [List.map_append, load_append]; simp only [List.map_cons, List.map_nil, load]; exact Lib.hid (by omega), hbl.trans hb6⟩
          case measure => simp [intOf]; omega
        · obtain rfl : j = nx := by omega
          have hnil : (subs u).drop j = [] := List.drop_eq_nil_of_le (by rw [subs_len, ← Hnx.out]; exact Nat.le_refl _)
          have hl := Hl.out
          rw [hnil] at hl
          simp only [load, Nat.add_zero] at hl
          clear hnil hlt
          go_wp2_with fail
          go_roundg (load (X2.map Prod.snd))
          case measure => omega
          case rel => exact ⟨X2, Lib.hid rfl, hst, by omega, hbl⟩
end Go.Proofs.YtkgpjohfkfbfhaaGreatDoor.Cl
