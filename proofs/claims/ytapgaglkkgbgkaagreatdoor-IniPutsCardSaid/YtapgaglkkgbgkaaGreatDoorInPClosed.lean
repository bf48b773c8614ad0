/- The reference's end of a section of ini: closed. Conditions: a tree that fits; few lines. -/
import Derived.Test.YtapgaglkkgbgkaaGreatDoorInPFresh
namespace Go.Proofs.YtapgaglkkgbgkaaGreatDoor.In
open Go.RowKit Go.Proofs.YtapgaglkkgbgkaaGreatDoor.Jd Go.Proofs.YtapgaglkkgbgkaaGreatDoor.Li Go.Proofs.YtapgaglkkgbgkaaGreatDoor.Cl Go.Proofs.YtapgaglkkgbgkaaGreatDoor.Cv Go.Proofs.YtapgaglkkgbgkaaGreatDoor.Pt
set_option maxRecDepth 100000

/-- The section that stands last. -/
def curR (l : List Rr) : Option Bs := l.foldl (fun c r => if r.kind = 1 then some r.sec else c) none
theorem curr_more {rs : List Rr} {k : Nat} {r : Rr} (h : rs[k]? = some r) : curR (rs.take (k + 1)) = if r.kind = 1 then some r.sec else curR (rs.take k) := by
  rw [List.take_add_one, h, curR, curR, Option.toList_some, List.foldl_append]
  rfl
theorem flat_at : ∀ (rs : List Rr) (k : Nat) (r : Rr), rs[k]? = some r → ∀ j, j < 6 → (rs.flatMap rcs)[k * 6 + j]? = (rcs r)[j]?
  | [], k, r, h, _, _ => by simp at h
  | x :: rs, 0, r, h, j, hj => by
    simp only [List.getElem?_cons_zero, Option.some.injEq] at h
    subst h
    rw [List.flatMap_cons, Nat.zero_mul, Nat.zero_add, List.getElem?_append_left (by simp [rcs]; omega)]
  | x :: rs, k + 1, r, h, j, hj => by
    have hl : (rcs x).length = 6 := rfl
    rw [List.flatMap_cons, List.getElem?_append_right (by omega), hl, show (k + 1) * 6 + j - 6 = k * 6 + j by omega]
    exact flat_at rs k r (by simpa using h) j hj
/-- Rows of the reference in memory. -/
structure SeesRr (w : World) (B : Nat) (A : Option Addr) (n : Nat) (rs : List Rr) : Prop where
  len : n = rs.length
  cell : ∀ k r, rs[k]? = some r → ∃ g o, A = some ⟨g, o, none⟩ ∧ g < B ∧ w.cell? ⟨g, o + k * 6, none⟩ = some (.int .i64 r.kind) ∧ w.cell? ⟨g, o + k * 6 + 1, none⟩ = some (.string (mk r.sec)) ∧ w.cell? ⟨g, o + k * 6 + 2, none⟩ = some (.string (mk r.key)) ∧ w.cell? ⟨g, o + k * 6 + 3, none⟩ = some (.string (mk r.val)) ∧ w.cell? ⟨g, o + k * 6 + 4, none⟩ = some (.int .i64 r.at0) ∧ w.cell? ⟨g, o + k * 6 + 5, none⟩ = some (.int .i64 r.at1)
theorem OwnRr.len {w : World} {base n c : Nat} {A : Option Addr} {rs : List Rr} (h : OwnRr w base A n c rs) : n = rs.length := by
  have h1 := h.1
  have : ∀ l : List Rr, (l.flatMap rcs).length = l.length * 6 := fun l => by
    induction l with
    | nil => rfl
    | cons x l ih => rw [List.flatMap_cons, List.length_append, ih, List.length_cons, show (rcs x).length = 6 from rfl]; omega
  rw [this] at h1
  omega
theorem OwnRr.sees {w : World} {base n c : Nat} {A : Option Addr} {rs : List Rr} (h : OwnRr w base A n c rs) : SeesRr w w.heap.size A n rs := by
  have hl := h.len
  refine ⟨hl, fun k r hk => ?_⟩
  rcases own_form h with ⟨_, h0, _⟩ | ⟨g, rfl, _, hgl, _, _, hc⟩
  · rw [h0] at hl
    have := (List.getElem?_eq_some_iff.1 hk).1
    omega
  · have hf := flat_at rs k r hk
    refine ⟨g, 0, rfl, hgl, ?_, ?_, ?_, ?_, ?_, ?_⟩
    · have := hc (k * 6 + 0) _ ((hf 0 (by omega)).trans rfl); simpa using this
    · have := hc (k * 6 + 1) _ ((hf 1 (by omega)).trans rfl); rw [← Nat.add_assoc] at this; exact this
    · have := hc (k * 6 + 2) _ ((hf 2 (by omega)).trans rfl); rw [← Nat.add_assoc] at this; exact this
    · have := hc (k * 6 + 3) _ ((hf 3 (by omega)).trans rfl); rw [← Nat.add_assoc] at this; exact this
    · have := hc (k * 6 + 4) _ ((hf 4 (by omega)).trans rfl); rw [← Nat.add_assoc] at this; exact this
    · have := hc (k * 6 + 5) _ ((hf 5 (by omega)).trans rfl); rw [← Nat.add_assoc] at this; exact this
theorem SeesRr.below {w w' : World} {B n : Nat} {A : Option Addr} {rs : List Rr} (h : SeesRr w B A n rs) (hb : Below B w w') : SeesRr w' B A n rs :=
  ⟨h.len, fun k r hk => by
    obtain ⟨g, o, e, hg, c0, c1, c2, c3, c4, c5⟩ := h.cell k r hk
    exact ⟨g, o, e, hg, (hb.cell (p := ⟨g, _, none⟩) hg).trans c0, (hb.cell (p := ⟨g, _, none⟩) hg).trans c1, (hb.cell (p := ⟨g, _, none⟩) hg).trans c2, (hb.cell (p := ⟨g, _, none⟩) hg).trans c3, (hb.cell (p := ⟨g, _, none⟩) hg).trans c4, (hb.cell (p := ⟨g, _, none⟩) hg).trans c5⟩⟩
theorem SeesRr.more {w : World} {B B' n : Nat} {A : Option Addr} {rs : List Rr} (h : SeesRr w B A n rs) (hB : B ≤ B') : SeesRr w B' A n rs :=
  ⟨h.len, fun k r hk => by
    obtain ⟨g, o, e, hg, hc⟩ := h.cell k r hk
    exact ⟨g, o, e, Nat.lt_of_lt_of_le hg hB, hc⟩⟩
theorem own_base {w : World} {base base' n c size k : Nat} {e : TypeId} {A : Option Addr} {xs : List Value} (h : w.ownsRow base' e size (.slice A n c) k xs) (hb : base ≤ base') : w.ownsRow base e size (.slice A n c) k xs := by
  refine ⟨h.1, ?_⟩
  rcases h.2 with h2 | ⟨g, cap, cur, e1, hg, hr⟩
  · exact .inl h2
  · exact .inr ⟨g, cap, cur, e1, Nat.le_trans hb hg, hr⟩
theorem kid_mem {t : Tr} {q : ByteArray} (h : t.atIs q = true) : (q, kidT t q) ∈ eds t := by
  obtain ⟨r, hr⟩ := kid_at h
  exact List.mem_of_getElem? (eds_drop t _ hr)
theorem kid_n80 {t : Tr} {q : ByteArray} (h : N80 t) : N80 (kidT t q) := by
  by_cases hi : t.atIs q = true
  · obtain ⟨r, hr⟩ := kid_at hi
    have := n80_drop t (t.atN q) h
    rw [hr] at this
    exact this.2.1
  · rw [kidT_not (by simpa using hi)]
    trivial
theorem kid_fk {t : Tr} {q : ByteArray} (h : allT fsB t = true) : allT fkB (kidT t q) = true := by
  by_cases hi : t.atIs q = true
  · have := allT_mem h _ (kid_mem hi)
    unfold fsB at this
    rw [Bool.and_eq_true] at this
    exact this.2
  · rw [kidT_not (by simpa using hi)]
    rfl
theorem lines_fr (E : Bs) (k old : Tr) : linesT E (frF old (eds k)) = (freshR k old).map (keyL E) := by
  rw [linesT, frF, freshR, List.map_map]
  rfl
/-- What is answered: lines of one's own, and where the last one stands. -/
def ClP (w : World) (base : Nat) (R : List Ln) (last : Nat) (e : Ending) (w' : World) : Prop := ∃ A' c', e = .returned (.tuple #[.slice A' R.length c', .int .i64 last]) ∧ OwnL w' base A' R.length c' R ∧ Below w.heap.size w w'

set_option maxHeartbeats 8000000 in
theorem rclosed_any (out : List Ln) (rs : List Rr) (t old : Tr) (E : ByteArray) (Ao Ar At Al : Option Addr) (no co last nr cr i nt ct nl cl base : Nat) (w : World) (ho : OwnL w base Ao no co out) (hbs : base ≤ w.heap.size) (hno : no ≤ 50000000) (hlast : last ≤ no) (hr : SeesRr w w.heap.size Ar nr rs) (hi : i ≤ nr) (hnr : nr ≤ 100000)
    (ht : Holds w w.heap.size At nt t) (hf : allT fsB t = true) (hn8 : N80 t) (hz : t.size ≤ 1000) (hol : Holds w w.heap.size Al nl old) (hzo : old.size ≤ 1000) :
    Calls Tryz.prog 42 #[.slice Ao no co, .int .i64 last, .slice Ar nr cr, .int .i64 i, .slice At nt ct, .slice Al nl cl, .string E] w (ClP w base (closeR t old E.data.toList (curR (rs.take i)) out last) last) := by
  obtain ⟨R, hR⟩ : ∃ R, R = closeR t old E.data.toList (curR (rs.take i)) out last := ⟨_, rfl⟩
  rw [← hR]
  have HR := Lib.hid hR
  have HO := Lib.hid ho
  have Hol : Hid (no = out.length) := Lib.hid ho.sees.len
  have HRr := Lib.hid hr
  have HT := Lib.hid ht
  have HOl := Lib.hid hol
  have HN := Lib.hid (show i ≤ nr ∧ nr ≤ 100000 ∧ no ≤ 50000000 ∧ last ≤ no from ⟨hi, hnr, hno, hlast⟩)
  have hw0 : IntKind.i64.wrap ((i : Int) - 1) = (i : Int) - 1 := IntWalk.i64_in _ (by omega)
  have HSame : Hid (∀ (W : World), R = out → Below w.heap.size w W → ClP w base R last (.returned (.tuple #[.slice Ao no co, .int .i64 last])) W) := Lib.hid (fun W he hb => by
    unfold ClP
    rw [he, ← Hol.out]
    exact ⟨Ao, co, rfl, HO.out.below hb, hb⟩)
  clear ho hr ht hol hi hnr hno hlast hR
  go_enter Tryz.func42, Tryz.ntmps42
  go_wp2_with fail
  go_loopw [16] (fun iv wr => ∃ (j : Nat) (z : Int), j ≤ i ∧ iv = .int .i64 z ∧ Hid (z = (j : Int) - 1) ∧ Hid (curR (rs.take i) = curR (rs.take j)) ∧ Hid (wr = w)) (fun iv _ => (intOf iv + 1).toNat)
  case atStart => exact ⟨i, (i : Int) - 1, Nat.le_refl _, rfl, Lib.hid rfl, Lib.hid rfl, Lib.hid rfl⟩
  case round =>
    obtain ⟨j, z, hj, rfl, Hz, HC, HW⟩ := hrel
    obtain rfl := HW.out
    cases j with
    | zero =>
      have hzz := Hz.out
      obtain rfl : z = -1 := by rw [hzz]; rfl
      have hRo := HR.out
      rw [HC.out, List.take_zero] at hRo
      have hRe : R = out := hRo
      have HS := Lib.hid (HSame.out wr hRe (Below.refl _ _))
      clear hzz hRo hRe
      go_wp2_with fail
      refine bodyPost_ret (v := .tuple #[.slice Ao no co, .int .i64 last]) (by simp [results, Tryz.results42, go_sem]) rfl ?_
      exact HS.out
    | succ p =>
      have hzz := Hz.out
      obtain rfl : z = (p : Int) := by omega
      have hpn : p < nr := by have := HN.out; omega
      have hpl : p < rs.length := by rw [← HRr.out.len]; exact hpn
      obtain ⟨r, hrp⟩ : ∃ r, rs[p]? = some r := ⟨_, List.getElem?_eq_getElem hpl⟩
      obtain ⟨g, o, rfl, hg, c0, c1, _⟩ := HRr.out.cell p r hrp
      have hcm := curr_more hrp
      have hp0 : (0 : Int) ≤ (p : Int) := by omega
      have hpI : (p : Int) < (nr : Int) := by omega
      have hpz : ¬ (p : Int) < 0 := by omega
      have hw1 : IntKind.i64.wrap ((p : Int) - 1) = (p : Int) - 1 := IntWalk.i64_in _ (by have := HN.out; omega)
      have hcr := HC.out
      rw [hcm] at hcr
      have Hpi := Lib.hid hj
      clear hzz hpn hpl hrp hcm hj Hz
      obtain ⟨kd, hkd⟩ : ∃ kd, kd = r.kind := ⟨_, rfl⟩
      rw [← hkd] at c0 hcr
      clear hkd
      by_cases h1 : kd = 1
      · have q1 : ((kd : Int) == 1) = true := by rw [h1]; rfl
        have q1' : ((kd : Int) != 1) = false := by rw [h1]; rfl
        rw [if_pos h1] at hcr
        obtain ⟨sb, hsb⟩ : ∃ sb, sb = mk r.sec := ⟨_, rfl⟩
        rw [← hsb] at c1
        have hRo := HR.out
        rw [hcr, closeR, ← hsb] at hRo
        have HKa := Lib.hid (kidB_any t At nt ct sb wr (HoldsP.of HT.out) (fun _ hb => hb) (by omega))
        have HKb := Lib.hid (fun (W : World) (hW : Below wr.heap.size wr W) => kidB_any old Al nl cl sb W (HoldsP.of ((HOl.out.below hW).more hW.size)) (fun _ hb => hb) (by omega))
        have HRo := Lib.hid hRo
        have HCl := Lib.hid (fun (W : World) (hW : Below wr.heap.size wr W) => (hW.cell (p := ⟨g, o + p * 6 + 1, none⟩) hg).trans c1)
        clear h1 hcr hsb hRo HC
        cases hi : t.atIs sb with
        | false =>
          have hRe : R = out := by rw [HRo.out, if_neg (by rw [hi]; decide)]
          have HRe := Lib.hid hRe
          rw [hi] at HKa
          clear hRe hi
          go_wp2_with fail
          (with_reducible refine HKa.out.mono ?_)
          rintro e w2 ⟨A9, n9, c9, rfl, _, _, _, hb9⟩
          have HS := Lib.hid (HSame.out w2 HRe.out hb9)
          clear hb9
          go_wp2_with fail
          refine bodyPost_ret (v := .tuple #[.slice Ao no co, .int .i64 last]) (by simp [results, Tryz.results42, go_sem]) rfl ?_
          exact HS.out
        | true =>
          have hRe := HRo.out
          rw [if_pos hi, ← lines_fr] at hRe
          have HRe := Lib.hid hRe
          rw [hi] at HKa
          have Hkx := Lib.hid (show allT fkB (kidT t sb) = true ∧ N80 (kidT t sb) ∧ (kidT t sb).size ≤ 1000 from ⟨kid_fk hf, kid_n80 hn8, Nat.le_trans kid_sz hz⟩)
          have Hko : Hid ((kidT old sb).size ≤ 1000) := Lib.hid (Nat.le_trans kid_sz hzo)
          clear hRe hi
          go_wp2_with fail
          (with_reducible refine HKa.out.mono ?_)
          rintro e w2 ⟨A9, n9, c9, rfl, hx9, _, _, hb9⟩
          have c1' := HCl.out w2 hb9
          have HKb2 := Lib.hid (HKb.out w2 hb9)
          have HX9 := Lib.hid (hx9.to (B := w2.heap.size) (fun b hb => Nat.lt_of_lt_of_le hb hb9.size))
          have HB9 := Lib.hid hb9
          clear hx9 hb9
          go_wp2_with fail
          (with_reducible refine HKb2.out.mono ?_)
          rintro e w3 ⟨A8, n8, c8, rfl, hx8, _, _, hb8⟩
          have HB8 := Lib.hid (HB9.out.trans (hb8.mono HB9.out.size))
          have HFr := Lib.hid (rfresh_any (kidT t sb) (kidT old sb) A9 A8 n9 c9 n8 c8 w3 ((HX9.out.below hb8).more hb8.size) Hkx.out.2.2 Hkx.out.1 Hkx.out.2.1 (hx8.to (B := w3.heap.size) (fun b hb => Nat.lt_of_lt_of_le hb hb8.size)) Hko.out)
          have Hfl : Hid ((frF (kidT old sb) (eds (kidT t sb))).length ≤ 1000) := Lib.hid (by
            unfold frF
            rw [List.length_map]
            refine Nat.le_trans (List.length_filter_le _ _) ?_
            rw [eds_len]
            exact Nat.le_trans (Tr.len_size _) Hkx.out.2.2)
          clear hx8 hb8 c1'
          go_wp2_with fail
          (with_reducible refine HFr.out.mono ?_)
          rintro e w4 ⟨A7, n7, c7, rfl, hs7, hb7⟩
          have HB7 := Lib.hid (HB8.out.trans (hb7.mono HB8.out.size))
          have HO4 := Lib.hid (HO.out.below HB7.out)
          have hl7 := hs7.len
          have HAd := Lib.hid (radded_any out (frF (kidT old sb) (eds (kidT t sb))) E Ao A7 no co n7 c7 last w4 HO4.out.sees HO4.out.cap.1 HN.out.2.2.1 HN.out.2.2.2 hs7.sees (by rw [hl7]; have := Hfl.out; omega))
          rw [← HRe.out] at HAd
          clear hs7 hb7 hl7
          go_wp2_with fail
          (with_reducible refine HAd.out.mono ?_)
          rintro e w5 ⟨A6, c6, rfl, ho6, hb6⟩
          have HB6 := Lib.hid (HB7.out.trans (hb6.mono HB7.out.size))
          have HO6 : Hid (OwnL w5 base A6 R.length c6 R) := Lib.hid (own_base ho6 (Nat.le_trans hbs HB7.out.size))
          clear ho6 hb6
          go_wp2_with fail
          refine bodyPost_ret (v := .tuple #[.slice A6 R.length c6, .int .i64 last]) (by simp [results, Tryz.results42, go_sem]) rfl ?_
          exact ⟨A6, c6, rfl, HO6.out, HB6.out⟩
      · have q1 : ((kd : Int) == 1) = false := by rw [beq_eq_false_iff_ne]; omega
        have q1' : ((kd : Int) != 1) = true := by rw [bne_iff_ne]; omega
        rw [if_neg h1] at hcr
        have HC2 := Lib.hid hcr
        clear h1 hcr HC
        go_wp2_with fail
        go_roundw
        case rel => exact ⟨p, (p : Int) - 1, by have := Hpi.out; omega, rfl, Lib.hid rfl, HC2, by first | exact Lib.hid rfl | exact Lib.hid trivial⟩
        case measure => simp [intOf] <;> omega
end Go.Proofs.YtapgaglkkgbgkaaGreatDoor.In
