/- csv's rows in memory; is a row's name there already. Conditions: each row has a field. · csv.each: a new list of what is made of each one. Conditions: a function that answers so at each one; fewer than 100000 of them. -/
import Derived.Test.YtecnilcfhicfmaaGreatDoorMw16
import Derived.Deep.RegionHeld3
import Derived.Outline
namespace Go.Proofs.YtecnilcfhicfmaaGreatDoor.Cv
open Go.RowKit Go.Proofs.YtecnilcfhicfmaaGreatDoor.Jd Go.Proofs.YtecnilcfhicfmaaGreatDoor.Li
set_option maxRecDepth 100000

/-- A row: its fields, how it ends. -/
structure Rw where
  fs : List Ln
  en : ByteArray
/-- What its first field means. -/
def nm (r : Rw) : ByteArray := (mns r.fs).headD ⟨#[]⟩
theorem nm_enc {r : Rw} {x : Ln} {ls : List Ln} (h : r.fs = x :: ls) : encs x.2 = .string (nm r) := by rw [nm, h]; rfl
/-- The slice holds these rows. -/
structure SeesR (w : World) (B : Nat) (A : Option Addr) (n : Nat) (rs : List Rw) : Prop where
  len : n = rs.length
  at_ : ∀ (k : Nat) (r : Rw), rs[k]? = some r → ∃ b o Af nf cf, A = some ⟨b, o, none⟩ ∧ b < B ∧ w.cell? ⟨b, o + k * 2, none⟩ = some (.slice Af nf cf) ∧ w.cell? ⟨b, o + k * 2 + 1, none⟩ = some (.string r.en) ∧ SeesL w B Af nf r.fs ∧ nf ≤ cf ∧ cf ≤ maxLen
section
variable {w w' : World} {B B' n : Nat} {A : Option Addr} {rs : List Rw}
theorem SeesR.below (h : SeesR w B A n rs) (hb : Below B w w') : SeesR w' B A n rs :=
  ⟨h.len, fun k r hr => by
    obtain ⟨b, o, Af, nf, cf, h1, h2, h3, h4, h5, h6, h7⟩ := h.at_ k r hr
    exact ⟨b, o, Af, nf, cf, h1, h2, (hb.cell (p := ⟨b, o + k * 2, none⟩) h2).trans h3, (hb.cell (p := ⟨b, o + k * 2 + 1, none⟩) h2).trans h4, h5.below hb, h6, h7⟩⟩
theorem SeesR.more (h : SeesR w B A n rs) (hB : B ≤ B') : SeesR w B' A n rs :=
  ⟨h.len, fun k r hr => by
    obtain ⟨b, o, Af, nf, cf, h1, h2, h3, h4, h5, h6, h7⟩ := h.at_ k r hr
    exact ⟨b, o, Af, nf, cf, h1, Nat.lt_of_lt_of_le h2 hB, h3, h4, h5.more hB, h6, h7⟩⟩
theorem SeesR.tail {b o : Nat} {r : Rw} (h : SeesR w B (some ⟨b, o, none⟩) n (r :: rs)) : SeesR w B (some ⟨b, o + 2, none⟩) (n - 1) rs :=
  ⟨by have := h.len; simp at this; omega, fun k x hx => by
    obtain ⟨b', o', Af, nf, cf, h1, h2, h3, h4, h5⟩ := h.at_ (k + 1) x (by simpa using hx)
    injection h1 with h1
    injection h1 with e1 e2
    subst e1; subst e2
    exact ⟨_, _, Af, nf, cf, rfl, h2, by rw [show o + 2 + k * 2 = o + (k + 1) * 2 by omega]; exact h3, by rw [show o + 2 + k * 2 + 1 = o + (k + 1) * 2 + 1 by omega]; exact h4, h5⟩⟩
end

set_option maxHeartbeats 4000000 in
theorem fault1_any (x r : Rw) (Ax Ar : Option Addr) (nx cx nr cr g B : Nat) (w : World) (hx : SeesL w B Ax nx x.fs) (hr : SeesL w B Ar nr r.fs) (hB : B ≤ w.heap.size) (hxn : x.fs ≠ []) (hrn : r.fs ≠ [])
    (h0 : w.cell? ⟨g, 0, none⟩ = some (.slice Ar nr cr)) (h1 : w.cell? ⟨g, 1, none⟩ = some (.string r.en)) :
    Calls Tryz.prog 78 #[.agg #[.slice Ax nx cx, .string x.en], .pointer (some ⟨g, 0, none⟩)] w fun e w' => e = .returned (.bool ((nm x).toList == (nm r).toList)) ∧ Below w.heap.size w w' := by
  obtain ⟨x0, xl, hx0⟩ := List.exists_cons_of_ne_nil hxn
  obtain ⟨r0, rl, hr0⟩ := List.exists_cons_of_ne_nil hrn
  have hg : g < w.heap.size := World.block_lt_of_cell? w ⟨g, 0, none⟩ h0
  rw [hx0] at hx
  rw [hr0] at hr
  have hex := nm_enc hx0
  have her := nm_enc hr0
  obtain ⟨W1, hW1⟩ : ∃ W, W = w.alloc (Obj.cells #[.slice Ax nx cx, .string x.en] 44) := ⟨_, rfl⟩
  have hb1 : Below w.heap.size w W1 := by rw [hW1]; exact (Below.refl _ _).alloc (Nat.le_refl _) _
  have hg1 : W1.heap[w.heap.size]? = some (Obj.cells #[.slice Ax nx cx, .string x.en] 44) := by rw [hW1]; exact heap_alloc_new w _
  have hl1 : w.heap.size < W1.heap.size := (Array.getElem?_eq_some_iff.1 hg1).1
  have HK := Lib.hid (fun (W : World) (hW : Below W1.heap.size W1 W) => (⟨(hW.cell (p := ⟨w.heap.size, 0, none⟩) hl1).trans (by rw [cell_of_row _ _ _ _ _ _ hg1]; rfl), (hW.cell (p := ⟨w.heap.size, 1, none⟩) hl1).trans (by rw [cell_of_row _ _ _ _ _ _ hg1]; rfl), (hW.cell (p := ⟨g, 0, none⟩) (Nat.lt_trans hg hl1)).trans ((hb1.cell (p := ⟨g, 0, none⟩) hg).trans h0), (hW.cell (p := ⟨g, 1, none⟩) (Nat.lt_trans hg hl1)).trans ((hb1.cell (p := ⟨g, 1, none⟩) hg).trans h1)⟩ : W.cell? ⟨w.heap.size, 0, none⟩ = some (.slice Ax nx cx) ∧ W.cell? ⟨w.heap.size, 1, none⟩ = some (.string x.en) ∧ W.cell? ⟨g, 0, none⟩ = some (.slice Ar nr cr) ∧ W.cell? ⟨g, 1, none⟩ = some (.string r.en)))
  have HX := Lib.hid (fun (W : World) (hW : Below W1.heap.size W1 W) => rname_any x0 xl Ax nx cx B x.en (nm x) W ((hx.below (hb1.mono hB)).below (hW.mono (Nat.le_trans hB (Nat.le_of_lt hl1)))) (Nat.le_trans (Nat.le_trans hB (Nat.le_of_lt hl1)) hW.size) hex)
  have HR := Lib.hid (fun (W : World) (hW : Below W1.heap.size W1 W) => rname_any r0 rl Ar nr cr B r.en (nm r) W ((hr.below (hb1.mono hB)).below (hW.mono (Nat.le_trans hB (Nat.le_of_lt hl1)))) (Nat.le_trans (Nat.le_trans hB (Nat.le_of_lt hl1)) hW.size) her)
  have HB1 := Lib.hid hb1
  have hq0 : Below W1.heap.size W1 W1.drew := (Below.refl _ _).drew
  obtain ⟨a, ha⟩ : ∃ a, a = nm x := ⟨_, rfl⟩
  obtain ⟨b, hb⟩ : ∃ b, b = nm r := ⟨_, rfl⟩
  rw [← ha] at HX
  rw [← hb] at HR
  rw [← ha, ← hb]
  have hsz := hb1.size
  clear hx hr hex her h0 h1 hb1 hg1 hx0 hr0 hxn hrn ha hb
  go_enter Tryz.func78, Tryz.ntmps78
  go_wp2_with fail
  rw [← hW1]
  clear hW1
  go_region_held3 (fun W => Below W1.heap.size W1 W ∧ W.cell? ⟨w.heap.size, 0, none⟩ = some (.slice Ax nx cx) ∧ W.cell? ⟨w.heap.size, 1, none⟩ = some (.string x.en) ∧ W.cell? ⟨g, 0, none⟩ = some (.slice Ar nr cr) ∧ W.cell? ⟨g, 1, none⟩ = some (.string r.en))
    (first | exact ⟨hq0, HK.out _ hq0⟩ | exact ⟨hq2, HK.out _ hq2⟩ | exact ⟨hq3, HK.out _ hq3⟩)
    (first
    | (go_at_call 30; (with_reducible refine (HX.out _ hq0).mono ?_); rintro e w2 ⟨rfl, hg2⟩; have hq2 := hq0.trans (hg2.mono hq0.size); clear hg2)
    | (go_at_call 30; (with_reducible refine (HR.out _ hq2).mono ?_); rintro e w3 ⟨rfl, hg3⟩; have hq3 := hq2.trans (hg3.mono hq2.size); clear hg3))
  all_goals
    go_wp2_with fail
    go_ret
    exact ⟨rfl, HB1.out.trans (hq3.mono HB1.out.size)⟩

set_option maxHeartbeats 4000000 in
theorem indexf_any (rs : List Rw) (r : Rw) (A Ar : Option Addr) (n c nr cr g B : Nat) (w : World) (h : SeesR w B A n rs) (hr : SeesL w B Ar nr r.fs) (hB : B ≤ w.heap.size) (hn : n ≤ 100000) (hrs : ∀ x ∈ rs, x.fs ≠ []) (hrn : r.fs ≠ [])
    (h0 : w.cell? ⟨g, 0, none⟩ = some (.slice Ar nr cr)) (h1 : w.cell? ⟨g, 1, none⟩ = some (.string r.en)) :
    Calls Tryz.prog 104 #[.slice A n c, .func (.func 78) #[] #[.pointer (some ⟨g, 0, none⟩)]] w fun e w' => ∃ i : Int, e = .returned (.int .i64 i) ∧ (decide (0 ≤ i) = rs.any fun x => (nm x).toList == (nm r).toList) ∧ Below w.heap.size w w' := by
  have hg : g < w.heap.size := World.block_lt_of_cell? w ⟨g, 0, none⟩ h0
  have Hl := Lib.hid h.len
  have HH := Lib.hid h
  have HF := Lib.hid (fun (W : World) (hW : Below w.heap.size w W) (x : Rw) (hx : x ∈ rs) (Ax : Option Addr) (nx cx : Nat) (hs : SeesL W B Ax nx x.fs) => fault1_any x r Ax Ar nx cx nr cr g B W hs (hr.below (hW.mono hB)) (Nat.le_trans hB hW.size) (hrs x hx) hrn ((hW.cell (p := ⟨g, 0, none⟩) hg).trans h0) ((hW.cell (p := ⟨g, 1, none⟩) hg).trans h1))
  clear h hr h0 h1 hrs hrn
  go_enter Tryz.func104, Tryz.ntmps104
  go_wp2_with fail
  go_loopw [8] (fun i wr => ∃ (k : Nat), k ≤ n ∧ i = .int .i64 k ∧ Hid (Below w.heap.size w wr) ∧ Hid (((rs.drop k).any fun x => (nm x).toList == (nm r).toList) = rs.any fun x => (nm x).toList == (nm r).toList)) (fun i _ => n - (intOf i).toNat)
  case atStart => exact ⟨0, Nat.zero_le _, rfl, Lib.hid (Below.refl _ _), Lib.hid rfl⟩
  case round =>
    obtain ⟨k, hk, rfl, HW, HA⟩ := hrel
    by_cases hlt : k < n
    · have hkl : k < rs.length := by have := Hl.out; omega
      obtain ⟨x, hx⟩ : ∃ x, rs[k]? = some x := ⟨_, List.getElem?_eq_getElem hkl⟩
      have hxe : rs[k] = x := (List.getElem?_eq_some_iff.1 hx).2
      obtain ⟨b, o, Af, nf, cf, rfl, hbl, hc1, hc2, hsf, _, _⟩ := (HH.out.below (HW.out.mono hB)).at_ k x hx
      have hkn : (k : Int) < (n : Int) := by omega
      have hk0 : (0 : Int) ≤ (k : Int) := by omega
      have HC := Lib.hid (HF.out wr HW.out x (List.mem_of_getElem? hx) Af nf cf hsf)
      obtain ⟨u, hu⟩ : ∃ u, u = ((nm x).toList == (nm r).toList) := ⟨_, rfl⟩
      rw [← hu] at HC
      have HA2 : Hid ((rs.any fun x => (nm x).toList == (nm r).toList) = (u || (rs.drop (k + 1)).any fun x => (nm x).toList == (nm r).toList)) := Lib.hid (by rw [← HA.out, List.drop_eq_getElem_cons hkl, List.any_cons, hxe, hu])
      have Hlt := Lib.hid hlt
      clear hu hlt HA hx hkl hxe hsf
      cases u with
      | false =>
        go_wp2_with fail
        (with_reducible refine HC.out.mono ?_)
        rintro e w2 ⟨rfl, hb2⟩
        have HW2 := Lib.hid (HW.out.trans (hb2.mono HW.out.size))
        clear hb2
        go_wp2_with fail
        go_roundw
        case rel => exact ⟨k + 1, Hlt.out, by go_num, HW2, Lib.hid (by rw [HA2.out]; rfl)⟩
        case measure => have := Hlt.out; simp [intOf]; omega
      | true =>
        go_wp2_with fail
        (with_reducible refine HC.out.mono ?_)
        rintro e w2 ⟨rfl, hb2⟩
        have HW2 := Lib.hid (HW.out.trans (hb2.mono HW.out.size))
        clear hb2
        go_wp2_with fail
        go_ret
        exact ⟨(k : Int), rfl, by rw [HA2.out, Bool.true_or]; exact decide_eq_true hk0, HW2.out⟩
    · obtain rfl : k = n := by omega
      have HA2 : Hid ((rs.any fun x => (nm x).toList == (nm r).toList) = false) := Lib.hid (by
        have := HA.out
        rw [List.drop_of_length_le (by rw [← Hl.out]; exact Nat.le_refl _)] at this
        exact this.symm)
      clear hlt HA
      go_wp2_with fail
      go_ret
      exact ⟨-1, rfl, by rw [HA2.out]; rfl, HW.out⟩
set_option maxHeartbeats 1000000 in
theorem containsf_any (rs : List Rw) (r : Rw) (A Ar : Option Addr) (n c nr cr g B : Nat) (w : World) (h : SeesR w B A n rs) (hr : SeesL w B Ar nr r.fs) (hB : B ≤ w.heap.size) (hn : n ≤ 100000) (hrs : ∀ x ∈ rs, x.fs ≠ []) (hrn : r.fs ≠ [])
    (h0 : w.cell? ⟨g, 0, none⟩ = some (.slice Ar nr cr)) (h1 : w.cell? ⟨g, 1, none⟩ = some (.string r.en)) :
    Calls Tryz.prog 77 #[.slice A n c, .func (.func 78) #[] #[.pointer (some ⟨g, 0, none⟩)]] w fun e w' => e = .returned (.bool (rs.any fun x => (nm x).toList == (nm r).toList)) ∧ Below w.heap.size w w' := by
  have HC := Lib.hid (indexf_any rs r A Ar n c nr cr g B w h hr hB hn hrs hrn h0 h1)
  obtain ⟨v, hv⟩ : ∃ v, v = rs.any fun x => (nm x).toList == (nm r).toList := ⟨_, rfl⟩
  rw [← hv] at HC
  rw [← hv]
  clear hv h hr hB hrs hrn h0 h1
  go_enter Tryz.func77, Tryz.ntmps77
  go_wp2_with fail
  (with_reducible refine HC.out.mono ?_)
  rintro e w1 ⟨i, rfl, hi, hb1⟩
  have Hi := Lib.hid hi
  clear hi
  go_wp2_with fail
  go_ret
  exact ⟨by rw [← Hi.out]; rfl, hb1⟩
end Go.Proofs.YtecnilcfhicfmaaGreatDoor.Cv
namespace Go.Proofs.YtecnilcfhicfmaaGreatDoor.Cv
open Go.RowKit Go.Proofs.YtecnilcfhicfmaaGreatDoor.Jd Go.Proofs.YtecnilcfhicfmaaGreatDoor.Li
set_option maxRecDepth 100000

/-- So many of a row are made. -/
def partV (vs : List Value) (z : Value) (n k : Nat) : Array Value := (vs.take k ++ List.replicate (n - k) z).toArray
theorem partV_zero (vs : List Value) (z : Value) (n : Nat) : madeCells #[z] n = partV vs z n 0 := by
  apply Array.ext
  · simp [madeCells, partV]
  · intro i h1 h2
    simp [madeCells, partV, Nat.mod_one]
theorem partV_size {vs : List Value} {z : Value} {n k : Nat} (hn : n = vs.length) (hk : k ≤ n) : (partV vs z n k).size = n := by
  unfold partV
  simp only [List.size_toArray, List.length_append, List.length_take, List.length_replicate]
  omega
theorem partV_set {vs : List Value} {z : Value} {n k : Nat} {x : Value} (hn : n = vs.length) (h : vs[k]? = some x) : (partV vs z n k).setIfInBounds k x = partV vs z n (k + 1) := by
  have hk : k < vs.length := (List.getElem?_eq_some_iff.1 h).1
  unfold partV
  rw [List.setIfInBounds_toArray]
  congr 1
  rw [List.take_add_one, h]
  obtain ⟨j, hj⟩ : ∃ j, n - k = j + 1 := ⟨n - k - 1, by omega⟩
  rw [hj, show n - (k + 1) = j by omega, List.replicate_succ]
  have hl : (vs.take k).length = k := by rw [List.length_take]; omega
  rw [List.set_append_right _ _ (by omega), hl, Nat.sub_self]
  simp
theorem partV_all {vs : List Value} {z : Value} {n : Nat} (hn : n = vs.length) : partV vs z n n = vs.toArray := by
  unfold partV
  rw [hn, List.take_length, Nat.sub_self]
  simp
/-- A new row of these. -/
def NwP (w : World) (T : TypeId) (vs : List Value) (n : Nat) (en : Ending) (w' : World) : Prop := ∃ g, en = .returned (.slice (some ⟨g, 0, none⟩) n n) ∧ w.heap.size ≤ g ∧ w'.heap[g]? = some (.cells vs.toArray T (0, 0)) ∧ Below w.heap.size w w'

set_option maxHeartbeats 4000000 in
theorem eachQ_any (ms : List ByteArray) (rs : List ByteArray) (A : Option Addr) (n c B : Nat)  (w : World) (hB : B ≤ w.heap.size) (hn : n ≤ 100000) (hl : n = rs.length) (h : SeesV w B A n (ms.map Value.string)) (hml : n = ms.length)
    (HF : ∀ (k : Nat) r, rs[k]? = some r → ∀ m, ms[k]? = some m → ∀ W, Below w.heap.size w W → Calls Tryz.prog 61 #[.string m] W fun e w' => e = .returned (.string r) ∧ Below W.heap.size W w') :
    Calls Tryz.prog 56 #[.slice A n c, .func (.func 61) #[] #[]] w (NwP w 9 (rs.map Value.string) n) := by
  obtain ⟨vs, hvs⟩ : ∃ vs, vs = rs.map Value.string := ⟨_, rfl⟩
  rw [← hvs]
  obtain ⟨i0, hi, hz0, hz1, hz2⟩ := info_parts elem_str.info
  have hmk := fun W : World => run_make_row' (P := Tryz.prog) 29 9 (.string ⟨#[]⟩) 16 Tryz.underlying29 elem_str.info rfl .i64 .i64 n (by omega) (by omega) W
  rw [partV_zero vs (.string ⟨#[]⟩) n] at hmk
  have Hl := Lib.hid (show n = vs.length by rw [hvs, List.length_map]; exact hl)
  have Hv := Lib.hid hvs
  have Hr := Lib.hid hl
  have HH := Lib.hid HF
  have Hml := Lib.hid hml
  clear HF hi hz0 hz1 hz2 hl hvs hml
  go_enter Tryz.func56, Tryz.ntmps56
  go_wp2_with fail
  go_loopw [13] (fun i wr => ∃ (k : Nat), k ≤ n ∧ i = .int .i64 k ∧ Hid (wr.heap[w.heap.size]? = some (.cells (partV vs (.string ⟨#[]⟩) n k) 9 (0, 0))) ∧ Hid (Below w.heap.size w wr)) (fun i _ => n - (intOf i).toNat)
  case atStart => exact ⟨0, Nat.zero_le _, rfl, Lib.hid (heap_alloc_new w _), Lib.hid ((Below.refl _ _).alloc (Nat.le_refl _) _)⟩
  case round =>
    obtain ⟨k, hk, rfl, HG, HW⟩ := hrel
    by_cases hlt : k < n
    · obtain ⟨r, hr⟩ : ∃ r, rs[k]? = some r := ⟨_, List.getElem?_eq_getElem (by have := Hr.out; omega)⟩
      have hy : vs[k]? = some (.string r) := by rw [Hv.out, List.getElem?_map, hr]; rfl
      obtain ⟨m, hm⟩ : ∃ m, ms[k]? = some m := ⟨_, List.getElem?_eq_getElem (by have := Hml.out; omega)⟩
      obtain ⟨b, o, rfl, hbl, hc1⟩ := h.cell k (.string m) (by rw [List.getElem?_map, hm]; rfl)
      have hc2 := (HW.out.cell (p := ⟨b, o + k, none⟩) (Nat.lt_of_lt_of_le hbl hB)).trans hc1
      have hkn : (k : Int) < (n : Int) := by omega
      have hk0 : (0 : Int) ≤ (k : Int) := by omega
      have hgl := (Array.getElem?_eq_some_iff.1 HG.out).1
      have Hlt := Lib.hid hlt
      have HPs := Lib.hid (partV_set (z := .string ⟨#[]⟩) Hl.out hy)
      have hsz : k < (partV vs (.string ⟨#[]⟩) n k).size := by rw [partV_size Hl.out hk]; exact hlt
      have Hsz := Lib.hid hsz
      have HM := Lib.hid (HH.out k r hr m hm wr HW.out)
      clear hm hc1
      clear hy hr hlt hsz
      go_wp2_with fail
      (with_reducible refine HM.out.mono ?_)
      rintro e w2 ⟨rfl, hb2⟩
      have hb12 : Below wr.heap.size wr w2 := hb2
      have hg2 : w2.heap[w.heap.size]? = some (.cells (partV vs (.string ⟨#[]⟩) n k) 9 (0, 0)) := (hb12.block _ hgl).trans HG.out
      have hcg : w2.cell? ⟨w.heap.size, k, none⟩ = some ((partV vs (.string ⟨#[]⟩) n k)[k]'Hsz.out) := by
        rw [cell_of_row _ _ _ _ _ _ hg2]
        exact Array.getElem?_eq_getElem Hsz.out
      obtain ⟨y0, hy0⟩ : ∃ y0, y0 = (partV vs (.string ⟨#[]⟩) n k)[k]'Hsz.out := ⟨_, rfl⟩
      rw [← hy0] at hcg
      have hfg : w2.frozen? ⟨w.heap.size, k, none⟩ = false := by simp [World.frozen?, hg2]
      have hg3 : (w2.setCell ⟨w.heap.size, k, none⟩ (.string r)).heap[w.heap.size]? = some (.cells (partV vs (.string ⟨#[]⟩) n (k + 1)) 9 (0, 0)) := by
        rw [heap_setCell_same w2 _ k _ _ _ hg2, HPs.out]
      have HG3 := Lib.hid hg3
      have HB3 := Lib.hid (((HW.out.trans (hb12.mono HW.out.size)).setCell (p := ⟨w.heap.size, k, none⟩) (Nat.le_refl _) (.string r)))
      clear hb2 hb12 hg2 hy0 hg3
      go_wp2_with fail
      go_roundw
      case rel => exact ⟨k + 1, Hlt.out, by go_num, HG3, HB3⟩
      case measure => have := Hlt.out; simp [intOf]; omega
    · obtain rfl : k = n := by omega
      have hg := HG.out
      rw [partV_all Hl.out] at hg
      have HG2 := Lib.hid hg
      clear hlt hg HG
      go_wp2_with fail
      go_ret
      exact ⟨w.heap.size, rfl, Nat.le_refl _, HG2.out, HW.out⟩

set_option maxHeartbeats 4000000 in
theorem eachV_any (ms : List ByteArray) (rs : List ByteArray) (A : Option Addr) (n c B : Nat) (gb : Nat) (w : World) (hB : B ≤ w.heap.size) (hn : n ≤ 100000) (hl : n = rs.length) (h : SeesV w B A n (ms.map Value.string)) (hml : n = ms.length)
    (HF : ∀ (k : Nat) r, rs[k]? = some r → ∀ m, ms[k]? = some m → ∀ W, Below w.heap.size w W → Calls Tryz.prog 57 #[.string m, .pointer (some ⟨gb, 0, none⟩)] W fun e w' => e = .returned (.string r) ∧ Below W.heap.size W w') :
    Calls Tryz.prog 56 #[.slice A n c, .func (.func 57) #[] #[.pointer (some ⟨gb, 0, none⟩)]] w (NwP w 9 (rs.map Value.string) n) := by
  obtain ⟨vs, hvs⟩ : ∃ vs, vs = rs.map Value.string := ⟨_, rfl⟩
  rw [← hvs]
  obtain ⟨i0, hi, hz0, hz1, hz2⟩ := info_parts elem_str.info
  have hmk := fun W : World => run_make_row' (P := Tryz.prog) 29 9 (.string ⟨#[]⟩) 16 Tryz.underlying29 elem_str.info rfl .i64 .i64 n (by omega) (by omega) W
  rw [partV_zero vs (.string ⟨#[]⟩) n] at hmk
  have Hl := Lib.hid (show n = vs.length by rw [hvs, List.length_map]; exact hl)
  have Hv := Lib.hid hvs
  have Hr := Lib.hid hl
  have HH := Lib.hid HF
  have Hml := Lib.hid hml
  clear HF hi hz0 hz1 hz2 hl hvs hml
  go_enter Tryz.func56, Tryz.ntmps56
  go_wp2_with fail
  go_loopw [13] (fun i wr => ∃ (k : Nat), k ≤ n ∧ i = .int .i64 k ∧ Hid (wr.heap[w.heap.size]? = some (.cells (partV vs (.string ⟨#[]⟩) n k) 9 (0, 0))) ∧ Hid (Below w.heap.size w wr)) (fun i _ => n - (intOf i).toNat)
  case atStart => exact ⟨0, Nat.zero_le _, rfl, Lib.hid (heap_alloc_new w _), Lib.hid ((Below.refl _ _).alloc (Nat.le_refl _) _)⟩
  case round =>
    obtain ⟨k, hk, rfl, HG, HW⟩ := hrel
    by_cases hlt : k < n
    · obtain ⟨r, hr⟩ : ∃ r, rs[k]? = some r := ⟨_, List.getElem?_eq_getElem (by have := Hr.out; omega)⟩
      have hy : vs[k]? = some (.string r) := by rw [Hv.out, List.getElem?_map, hr]; rfl
      obtain ⟨m, hm⟩ : ∃ m, ms[k]? = some m := ⟨_, List.getElem?_eq_getElem (by have := Hml.out; omega)⟩
      obtain ⟨b, o, rfl, hbl, hc1⟩ := h.cell k (.string m) (by rw [List.getElem?_map, hm]; rfl)
      have hc2 := (HW.out.cell (p := ⟨b, o + k, none⟩) (Nat.lt_of_lt_of_le hbl hB)).trans hc1
      have hkn : (k : Int) < (n : Int) := by omega
      have hk0 : (0 : Int) ≤ (k : Int) := by omega
      have hgl := (Array.getElem?_eq_some_iff.1 HG.out).1
      have Hlt := Lib.hid hlt
      have HPs := Lib.hid (partV_set (z := .string ⟨#[]⟩) Hl.out hy)
      have hsz : k < (partV vs (.string ⟨#[]⟩) n k).size := by rw [partV_size Hl.out hk]; exact hlt
      have Hsz := Lib.hid hsz
      have HM := Lib.hid (HH.out k r hr m hm wr HW.out)
      clear hm hc1
      clear hy hr hlt hsz
      go_wp2_with fail
      (with_reducible refine HM.out.mono ?_)
      rintro e w2 ⟨rfl, hb2⟩
      have hb12 : Below wr.heap.size wr w2 := hb2
      have hg2 : w2.heap[w.heap.size]? = some (.cells (partV vs (.string ⟨#[]⟩) n k) 9 (0, 0)) := (hb12.block _ hgl).trans HG.out
      have hcg : w2.cell? ⟨w.heap.size, k, none⟩ = some ((partV vs (.string ⟨#[]⟩) n k)[k]'Hsz.out) := by
        rw [cell_of_row _ _ _ _ _ _ hg2]
        exact Array.getElem?_eq_getElem Hsz.out
      obtain ⟨y0, hy0⟩ : ∃ y0, y0 = (partV vs (.string ⟨#[]⟩) n k)[k]'Hsz.out := ⟨_, rfl⟩
      rw [← hy0] at hcg
      have hfg : w2.frozen? ⟨w.heap.size, k, none⟩ = false := by simp [World.frozen?, hg2]
      have hg3 : (w2.setCell ⟨w.heap.size, k, none⟩ (.string r)).heap[w.heap.size]? = some (.cells (partV vs (.string ⟨#[]⟩) n (k + 1)) 9 (0, 0)) := by
        rw [heap_setCell_same w2 _ k _ _ _ hg2, HPs.out]
      have HG3 := Lib.hid hg3
      have HB3 := Lib.hid (((HW.out.trans (hb12.mono HW.out.size)).setCell (p := ⟨w.heap.size, k, none⟩) (Nat.le_refl _) (.string r)))
      clear hb2 hb12 hg2 hy0 hg3
      go_wp2_with fail
      go_roundw
      case rel => exact ⟨k + 1, Hlt.out, by go_num, HG3, HB3⟩
      case measure => have := Hlt.out; simp [intOf]; omega
    · obtain rfl : k = n := by omega
      have hg := HG.out
      rw [partV_all Hl.out] at hg
      have HG2 := Lib.hid hg
      clear hlt hg HG
      go_wp2_with fail
      go_ret
      exact ⟨w.heap.size, rfl, Nat.le_refl _, HG2.out, HW.out⟩

end Go.Proofs.YtecnilcfhicfmaaGreatDoor.Cv
