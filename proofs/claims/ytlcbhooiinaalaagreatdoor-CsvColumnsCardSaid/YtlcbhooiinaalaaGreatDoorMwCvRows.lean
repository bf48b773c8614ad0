/- csv's rows in memory; is a row's name there already. Conditions: each row has a field. · csv: what is wrong with a row behind others. Conditions: texts of ASCII bytes; each row ahead has a field. -/
import Derived.Test.YtlcbhooiinaalaaGreatDoorMwCvMeans
import Derived.Deep.RegionHeld3
import Derived.Outline
namespace Go.Proofs.YtlcbhooiinaalaaGreatDoor.Cv
open Go.RowKit Go.Proofs.YtlcbhooiinaalaaGreatDoor.Jd Go.Proofs.YtlcbhooiinaalaaGreatDoor.Li
set_option maxRecDepth 100000

/-- A row: its fields, how it ends. -/
structure Rw where
  fs : List Ln
  en : ByteArray
/-- What its first field means. -/
def nm (r : Rw) : ByteArray := (mns r.fs).headD ⟨#[]⟩
theorem nm_enc {r : Rw} {x : Ln} {ls : List Ln} (h : r.fs = x :: ls) : encs x.2 = .string (nm r) := by rw [nm, h]; rfl
/-- The slice holds these rows. -/
structure SeesR (w : World) (B : Nat) (A : Option Addr) (n : Nat) (rs : List Rw) : Prop where
  len : n = rs.length
  at_ : ∀ (k : Nat) (r : Rw), rs[k]? = some r → ∃ b o Af nf cf, A = some ⟨b, o, none⟩ ∧ b < B ∧ w.cell? ⟨b, o + k * 2, none⟩ = some (.slice Af nf cf) ∧ w.cell? ⟨b, o + k * 2 + 1, none⟩ = some (.string r.en) ∧ SeesL w B Af nf r.fs ∧ nf ≤ cf ∧ cf ≤ maxLen
section
variable {w w' : World} {B B' n : Nat} {A : Option Addr} {rs : List Rw}
theorem SeesR.below (h : SeesR w B A n rs) (hb : Below B w w') : SeesR w' B A n rs :=
  ⟨h.len, fun k r hr => by
    obtain ⟨b, o, Af, nf, cf, h1, h2, h3, h4, h5, h6, h7⟩ := h.at_ k r hr
    exact ⟨b, o, Af, nf, cf, h1, h2, (hb.cell (p := ⟨b, o + k * 2, none⟩) h2).trans h3, (hb.cell (p := ⟨b, o + k * 2 + 1, none⟩) h2).trans h4, h5.below hb, h6, h7⟩⟩
theorem SeesR.more (h : SeesR w B A n rs) (hB : B ≤ B') : SeesR w B' A n rs :=
  ⟨h.len, fun k r hr => by
    obtain ⟨b, o, Af, nf, cf, h1, h2, h3, h4, h5, h6, h7⟩ := h.at_ k r hr
    exact ⟨b, o, Af, nf, cf, h1, Nat.lt_of_lt_of_le h2 hB, h3, h4, h5.more hB, h6, h7⟩⟩
theorem SeesR.tail {b o : Nat} {r : Rw} (h : SeesR w B (some ⟨b, o, none⟩) n (r :: rs)) : SeesR w B (some ⟨b, o + 2, none⟩) (n - 1) rs :=
  ⟨by have := h.len; simp at this; omega, fun k x hx => by
    obtain ⟨b', o', Af, nf, cf, h1, h2, h3, h4, h5⟩ := h.at_ (k + 1) x (by simpa using hx)
    injection h1 with h1
    injection h1 with e1 e2
    subst e1; subst e2
    exact ⟨_, _, Af, nf, cf, rfl, h2, by rw [show o + 2 + k * 2 = o + (k + 1) * 2 by omega]; exact h3, by rw [show o + 2 + k * 2 + 1 = o + (k + 1) * 2 + 1 by omega]; exact h4, h5⟩⟩
end

set_option maxHeartbeats 4000000 in
theorem fault1_any (x r : Rw) (Ax Ar : Option Addr) (nx cx nr cr g B : Nat) (w : World) (hx : SeesL w B Ax nx x.fs) (hr : SeesL w B Ar nr r.fs) (hB : B ≤ w.heap.size) (hxn : x.fs ≠ []) (hrn : r.fs ≠ [])
    (h0 : w.cell? ⟨g, 0, none⟩ = some (.slice Ar nr cr)) (h1 : w.cell? ⟨g, 1, none⟩ = some (.string r.en)) :
    Calls Tryz.prog 121 #[.agg #[.slice Ax nx cx, .string x.en], .pointer (some ⟨g, 0, none⟩)] w fun e w' => e = .returned (.bool ((nm x).toList == (nm r).toList)) ∧ Below w.heap.size w w' := by
  obtain ⟨x0, xl, hx0⟩ := List.exists_cons_of_ne_nil hxn
  obtain ⟨r0, rl, hr0⟩ := List.exists_cons_of_ne_nil hrn
  have hg : g < w.heap.size := World.block_lt_of_cell? w ⟨g, 0, none⟩ h0
  rw [hx0] at hx
  rw [hr0] at hr
  have hex := nm_enc hx0
  have her := nm_enc hr0
  obtain ⟨W1, hW1⟩ : ∃ W, W = w.alloc (Obj.cells #[.slice Ax nx cx, .string x.en] 62) := ⟨_, rfl⟩
  have hb1 : Below w.heap.size w W1 := by rw [hW1]; exact (Below.refl _ _).alloc (Nat.le_refl _) _
  have hg1 : W1.heap[w.heap.size]? = some (Obj.cells #[.slice Ax nx cx, .string x.en] 62) := by rw [hW1]; exact heap_alloc_new w _
  have hl1 : w.heap.size < W1.heap.size := (Array.getElem?_eq_some_iff.1 hg1).1
  have HK := Lib.hid (fun (W : World) (hW : Below W1.heap.size W1 W) => (⟨(hW.cell (p := ⟨w.heap.size, 0, none⟩) hl1).trans (by rw [cell_of_row _ _ _ _ _ _ hg1]; rfl), (hW.cell (p := ⟨w.heap.size, 1, none⟩) hl1).trans (by rw [cell_of_row _ _ _ _ _ _ hg1]; rfl), (hW.cell (p := ⟨g, 0, none⟩) (Nat.lt_trans hg hl1)).trans ((hb1.cell (p := ⟨g, 0, none⟩) hg).trans h0), (hW.cell (p := ⟨g, 1, none⟩) (Nat.lt_trans hg hl1)).trans ((hb1.cell (p := ⟨g, 1, none⟩) hg).trans h1)⟩ : W.cell? ⟨w.heap.size, 0, none⟩ = some (.slice Ax nx cx) ∧ W.cell? ⟨w.heap.size, 1, none⟩ = some (.string x.en) ∧ W.cell? ⟨g, 0, none⟩ = some (.slice Ar nr cr) ∧ W.cell? ⟨g, 1, none⟩ = some (.string r.en)))
  have HX := Lib.hid (fun (W : World) (hW : Below W1.heap.size W1 W) => rname_any x0 xl Ax nx cx B x.en (nm x) W ((hx.below (hb1.mono hB)).below (hW.mono (Nat.le_trans hB (Nat.le_of_lt hl1)))) (Nat.le_trans (Nat.le_trans hB (Nat.le_of_lt hl1)) hW.size) hex)
  have HR := Lib.hid (fun (W : World) (hW : Below W1.heap.size W1 W) => rname_any r0 rl Ar nr cr B r.en (nm r) W ((hr.below (hb1.mono hB)).below (hW.mono (Nat.le_trans hB (Nat.le_of_lt hl1)))) (Nat.le_trans (Nat.le_trans hB (Nat.le_of_lt hl1)) hW.size) her)
  have HB1 := Lib.hid hb1
  have hq0 : Below W1.heap.size W1 W1.drew := (Below.refl _ _).drew
  obtain ⟨a, ha⟩ : ∃ a, a = nm x := ⟨_, rfl⟩
  obtain ⟨b, hb⟩ : ∃ b, b = nm r := ⟨_, rfl⟩
  rw [← ha] at HX
  rw [← hb] at HR
  rw [← ha, ← hb]
  have hsz := hb1.size
  clear hx hr hex her h0 h1 hb1 hg1 hx0 hr0 hxn hrn ha hb
  go_enter Tryz.func121, Tryz.ntmps121
  go_wp2_with fail
  rw [← hW1]
  clear hW1
  go_region_held3 (fun W => Below W1.heap.size W1 W ∧ W.cell? ⟨w.heap.size, 0, none⟩ = some (.slice Ax nx cx) ∧ W.cell? ⟨w.heap.size, 1, none⟩ = some (.string x.en) ∧ W.cell? ⟨g, 0, none⟩ = some (.slice Ar nr cr) ∧ W.cell? ⟨g, 1, none⟩ = some (.string r.en))
    (first | exact ⟨hq0, HK.out _ hq0⟩ | exact ⟨hq2, HK.out _ hq2⟩ | exact ⟨hq3, HK.out _ hq3⟩)
    (first
    | (go_at_call 68; (with_reducible refine (HX.out _ hq0).mono ?_); rintro e w2 ⟨rfl, hg2⟩; have hq2 := hq0.trans (hg2.mono hq0.size); clear hg2)
    | (go_at_call 68; (with_reducible refine (HR.out _ hq2).mono ?_); rintro e w3 ⟨rfl, hg3⟩; have hq3 := hq2.trans (hg3.mono hq2.size); clear hg3))
  all_goals
    go_wp2_with fail
    go_ret
    exact ⟨rfl, HB1.out.trans (hq3.mono HB1.out.size)⟩

set_option maxHeartbeats 4000000 in
theorem indexf_any (rs : List Rw) (r : Rw) (A Ar : Option Addr) (n c nr cr g B : Nat) (w : World) (h : SeesR w B A n rs) (hr : SeesL w B Ar nr r.fs) (hB : B ≤ w.heap.size) (hn : n ≤ 100000) (hrs : ∀ x ∈ rs, x.fs ≠ []) (hrn : r.fs ≠ [])
    (h0 : w.cell? ⟨g, 0, none⟩ = some (.slice Ar nr cr)) (h1 : w.cell? ⟨g, 1, none⟩ = some (.string r.en)) :
    Calls Tryz.prog 142 #[.slice A n c, .func (.func 121) #[] #[.pointer (some ⟨g, 0, none⟩)]] w fun e w' => ∃ i : Int, e = .returned (.int .i64 i) ∧ (decide (0 ≤ i) = rs.any fun x => (nm x).toList == (nm r).toList) ∧ Below w.heap.size w w' := by
  have hg : g < w.heap.size := World.block_lt_of_cell? w ⟨g, 0, none⟩ h0
  have Hl := Lib.hid h.len
  have HH := Lib.hid h
  have HF := Lib.hid (fun (W : World) (hW : Below w.heap.size w W) (x : Rw) (hx : x ∈ rs) (Ax : Option Addr) (nx cx : Nat) (hs : SeesL W B Ax nx x.fs) => fault1_any x r Ax Ar nx cx nr cr g B W hs (hr.below (hW.mono hB)) (Nat.le_trans hB hW.size) (hrs x hx) hrn ((hW.cell (p := ⟨g, 0, none⟩) hg).trans h0) ((hW.cell (p := ⟨g, 1, none⟩) hg).trans h1))
  clear h hr h0 h1 hrs hrn
  go_enter Tryz.func142, Tryz.ntmps142
  go_wp2_with fail
  go_loopw [8] (fun i wr => ∃ (k : Nat), k ≤ n ∧ i = .int .i64 k ∧ Hid (Below w.heap.size w wr) ∧ Hid (((rs.drop k).any fun x => (nm x).toList == (nm r).toList) = rs.any fun x => (nm x).toList == (nm r).toList)) (fun i _ => n - (intOf i).toNat)
  case atStart => exact ⟨0, Nat.zero_le _, rfl, Lib.hid (Below.refl _ _), Lib.hid rfl⟩
  case round =>
    obtain ⟨k, hk, rfl, HW, HA⟩ := hrel
    by_cases hlt : k < n
    · have hkl : k < rs.length := by have := Hl.out; omega
      obtain ⟨x, hx⟩ : ∃ x, rs[k]? = some x := ⟨_, List.getElem?_eq_getElem hkl⟩
      have hxe : rs[k] = x := (List.getElem?_eq_some_iff.1 hx).2
      obtain ⟨b, o, Af, nf, cf, rfl, hbl, hc1, hc2, hsf, _, _⟩ := (HH.out.below (HW.out.mono hB)).at_ k x hx
      have hkn : (k : Int) < (n : Int) := by omega
      have hk0 : (0 : Int) ≤ (k : Int) := by omega
      have HC := Lib.hid (HF.out wr HW.out x (List.mem_of_getElem? hx) Af nf cf hsf)
      obtain ⟨u, hu⟩ : ∃ u, u = ((nm x).toList == (nm r).toList) := ⟨_, rfl⟩
      rw [← hu] at HC
      have HA2 : Hid ((rs.any fun x => (nm x).toList == (nm r).toList) = (u || (rs.drop (k + 1)).any fun x => (nm x).toList == (nm r).toList)) := Lib.hid (by rw [← HA.out, List.drop_eq_getElem_cons hkl, List.any_cons, hxe, hu])
      have Hlt := Lib.hid hlt
      clear hu hlt HA hx hkl hxe hsf
      cases u with
      | false =>
        go_wp2_with fail
        (with_reducible refine HC.out.mono ?_)
        rintro e w2 ⟨rfl, hb2⟩
        have HW2 := Lib.hid (HW.out.trans (hb2.mono HW.out.size))
        clear hb2
        go_wp2_with fail
        go_roundw
        case rel => exact ⟨k + 1, Hlt.out, by go_num, HW2, Lib.hid (by rw [HA2.out]; rfl)⟩
        case measure => have := Hlt.out; simp [intOf]; omega
      | true =>
        go_wp2_with fail
        (with_reducible refine HC.out.mono ?_)
        rintro e w2 ⟨rfl, hb2⟩
        have HW2 := Lib.hid (HW.out.trans (hb2.mono HW.out.size))
        clear hb2
        go_wp2_with fail
        go_ret
        exact ⟨(k : Int), rfl, by rw [HA2.out, Bool.true_or]; exact decide_eq_true hk0, HW2.out⟩
    · obtain rfl : k = n := by omega
      have HA2 : Hid ((rs.any fun x => (nm x).toList == (nm r).toList) = false) := Lib.hid (by
        have := HA.out
        rw [List.drop_of_length_le (by rw [← Hl.out]; exact Nat.le_refl _)] at this
        exact this.symm)
      clear hlt HA
      go_wp2_with fail
      go_ret
      exact ⟨-1, rfl, by rw [HA2.out]; rfl, HW.out⟩
set_option maxHeartbeats 1000000 in
theorem containsf_any (rs : List Rw) (r : Rw) (A Ar : Option Addr) (n c nr cr g B : Nat) (w : World) (h : SeesR w B A n rs) (hr : SeesL w B Ar nr r.fs) (hB : B ≤ w.heap.size) (hn : n ≤ 100000) (hrs : ∀ x ∈ rs, x.fs ≠ []) (hrn : r.fs ≠ [])
    (h0 : w.cell? ⟨g, 0, none⟩ = some (.slice Ar nr cr)) (h1 : w.cell? ⟨g, 1, none⟩ = some (.string r.en)) :
    Calls Tryz.prog 120 #[.slice A n c, .func (.func 121) #[] #[.pointer (some ⟨g, 0, none⟩)]] w fun e w' => e = .returned (.bool (rs.any fun x => (nm x).toList == (nm r).toList)) ∧ Below w.heap.size w w' := by
  have HC := Lib.hid (indexf_any rs r A Ar n c nr cr g B w h hr hB hn hrs hrn h0 h1)
  obtain ⟨v, hv⟩ : ∃ v, v = rs.any fun x => (nm x).toList == (nm r).toList := ⟨_, rfl⟩
  rw [← hv] at HC
  rw [← hv]
  clear hv h hr hB hrs hrn h0 h1
  go_enter Tryz.func120, Tryz.ntmps120
  go_wp2_with fail
  (with_reducible refine HC.out.mono ?_)
  rintro e w1 ⟨i, rfl, hi, hb1⟩
  have Hi := Lib.hid hi
  clear hi
  go_wp2_with fail
  go_ret
  exact ⟨by rw [← Hi.out]; rfl, hb1⟩
end Go.Proofs.YtlcbhooiinaalaaGreatDoor.Cv
namespace Go.Proofs.YtlcbhooiinaalaaGreatDoor.Cv
open Go.RowKit Go.Proofs.YtlcbhooiinaalaaGreatDoor.Jd Go.Proofs.YtlcbhooiinaalaaGreatDoor.Li
set_option maxRecDepth 100000

/-- What is wrong with a row behind these. -/
def faultF (ahead : List Rw) (r : Rw) : Int :=
  if r.fs = [] then 6 else
  match ahead with
  | [] => headF (mns r.fs)
  | h :: t => if r.fs.length ≠ h.fs.length then 6 else if nB (nm r) = false then 6 else if (mns r.fs).all vB = false then 6 else if (t.any fun x => (nm x).toList == (nm r).toList) = true then 7 else 0
theorem mns_len (ls : List Ln) : (mns ls).length = ls.length := by simp [mns]

set_option maxHeartbeats 4000000 in
/-- No fields; or the head. -/
theorem fault_head (r : Rw) (A Ar : Option Addr) (c nr cr : Nat) (w : World) (hr : SeesL w w.heap.size Ar nr r.fs) (hnr : nr ≤ 100000) (hp : ∀ z ∈ mns r.fs, Pl z) :
    Calls Tryz.prog 77 #[.slice A 0 c, .agg #[.slice Ar nr cr, .string r.en]] w fun e w' => e = .returned (.int .i64 (faultF [] r)) ∧ Below w.heap.size w w' := by
  have hl := hr.len
  have hb0 : Below w.heap.size w (w.alloc (Obj.cells #[.slice Ar nr cr, .string r.en] 62)) := (Below.refl _ _).alloc (Nat.le_refl _) _
  by_cases h0 : nr = 0
  · have HF : Hid (faultF [] r = 6) := Lib.hid (by rw [faultF, if_pos (List.eq_nil_of_length_eq_zero (by omega))])
    have HB0 := Lib.hid hb0
    subst h0
    clear hr hp hl hb0
    go_enter Tryz.func77, Tryz.ntmps77
    go_wp2_with fail
    go_ret
    exact ⟨by rw [HF.out]; rfl, HB0.out⟩
  · obtain ⟨x0, xl, hx0⟩ : ∃ x0 xl, r.fs = x0 :: xl := List.exists_cons_of_ne_nil (fun e => h0 (by rw [hl, e]; rfl))
    have HF : Hid (faultF [] r = headF (mns r.fs)) := Lib.hid (by rw [faultF, if_neg (by rw [hx0]; simp)])
    have HM := Lib.hid (means_any r.fs Ar nr cr w.heap.size r.en (w.alloc (Obj.cells #[.slice Ar nr cr, .string r.en] 62)) (hr.below hb0) hb0.size hnr)
    obtain ⟨m, ms, hms⟩ : ∃ m ms, mns r.fs = m :: ms := ⟨_, _, by rw [hx0]; rfl⟩
    have hq : ((nr : Int) == 0) = false := by rw [beq_eq_false_iff_ne]; omega
    have HH := Lib.hid (fun (W : World) (g : Nat) (hg : W.heap[g]? = some (.cells (meanV r.fs).toArray 9 (0, 0))) => by
      have hs := mn_sees (n := nr) hl hg
      rw [hms] at hs
      exact headFault_any m ms g 0 nr nr W.heap.size W hs (Nat.le_refl _) hnr (Nat.le_refl _) (Nat.le_trans hnr (by decide)) (fun z hz => hp z (by rw [hms]; exact List.mem_cons_of_mem _ hz)))
    rw [hms] at HF
    have HB0 := Lib.hid hb0
    clear hr hp hl hb0 h0 hx0 hms
    go_enter Tryz.func77, Tryz.ntmps77
    go_wp2_with fail
    (with_reducible refine HM.out.mono ?_)
    rintro e w1 ⟨g, rfl, hg, hgc, hb1⟩
    have HB1 := Lib.hid (HB0.out.trans (hb1.mono HB0.out.size))
    have HH2 := Lib.hid (HH.out w1 g hgc)
    clear hb1 hgc hg
    go_wp2_with fail
    (with_reducible refine HH2.out.mono ?_)
    rintro e w2 ⟨rfl, hb2⟩
    have HB2 := Lib.hid (HB1.out.trans (hb2.mono HB1.out.size))
    clear hb2
    go_wp2_with fail
    go_ret
    exact ⟨by rw [HF.out]; rfl, HB2.out⟩
end Go.Proofs.YtlcbhooiinaalaaGreatDoor.Cv
