/- cadenceref4's To, has, Level. Conditions: fewer than 4,096 fields, names in each. -/
import Derived.Test.YtagoeededpmdkaaScFew
namespace Go.Proofs.Ytagoeededpmdkaa.Sc
open Go.RowKit Go.Proofs.Ytagoeededpmdkaa.Nm
set_option maxRecDepth 100000

set_option maxHeartbeats 2000000 in
theorem rto_any (s : List Df) (A : Option Addr) (n c B : Nat) (d : Int) (x : ByteArray) (w : World) (h : Ds w B A n s) (hfit : FitS s) (hB : B ≤ w.heap.size) (_ : n ≤ 9223372036854775807) :
    Calls Try.prog 58 #[.slice A n c, .int .i64 d, .string x] w fun e w' => e = .returned (.int .i64 (toS s d x.data.toList)) ∧ Below w.heap.size w w' := by
  have Hn := Lib.hid h.len
  by_cases hin : 0 ≤ d ∧ d < (n : Int)
  · obtain ⟨k, rfl⟩ : ∃ k : Nat, d = k := ⟨d.toNat, by omega⟩
    have hk : k < n := by omega
    obtain ⟨b, o, D, A2, n2, c2, rfl, hb, hD, h1, h2, h3, hF, h5, h6⟩ := h.at hk
    have HX := Lib.hid (hfit D (List.mem_of_getElem? hD)).2
    have HT : Hid (toS s k x.data.toList = toF x.data.toList D.fs) := Lib.hid (toS_in hD _)
    rw [HT.out]
    have Hn2 := Lib.hid hF.len
    unfold maxLen at h6
    have hkn : (k : Int) < (n : Int) := by omega
    have hk0 : (0 : Int) ≤ (k : Int) := by omega
    obtain ⟨r, hr⟩ : ∃ r, r = toF x.data.toList D.fs := ⟨_, rfl⟩
    have Hr := Lib.hid hr
    rw [← hr]
    have hd1 : decide ((k : Int) < 0) = false := decide_eq_false (by omega)
    have hd2 : decide (n ≤ k) = false := decide_eq_false (by omega)
    clear hr HT hin h2 h3 h hD
    go_enter Try.func58, Try.ntmps58
    go_wp2_with fail
    go_loopw [8] (fun i wr => ∃ j : Nat, j ≤ n2 ∧ i = .int .i64 j ∧ Hid (toF x.data.toList (D.fs.drop j) = r) ∧ Below w.heap.size w wr) (fun i _ => n2 - (intOf i).toNat)
    case atStart => exact ⟨0, Nat.zero_le _, rfl, Lib.hid (by rw [List.drop_zero, Hr.out]), Below.refl _ _⟩
    case round =>
      obtain ⟨j, hj, rfl, H, hbw⟩ := hrel
      by_cases hlt : j < n2
      · obtain ⟨b2, o2, f, A3, n3, c3, rfl, hb2, hf, f1, f2, f3, f4, hS, f5, f6⟩ := (hF.below (hbw.mono hB)).at hlt
        unfold maxLen at f5
        have hjn : (j : Int) < (n2 : Int) := by omega
        have hj0 : (0 : Int) ≤ (j : Int) := by omega
        have hsz := hbw.size
        have hIn : In wr f.n A3 n3 := ⟨SeesV.more (Nat.le_trans hB hsz) hS⟩
        have hn3 : n3 ≤ 4096 := by
          have h1 := hS.len
          rw [List.length_map] at h1
          rw [h1]
          exact HX.out f (List.mem_of_getElem? hf)
        have HD := Lib.hid (toF_drop (x := x.data.toList) hf)
        obtain ⟨m, hm⟩ : ∃ m, m = f.n.mem x.data.toList := ⟨_, rfl⟩
        have HC : Hid (Calls Try.prog 88 #[.agg #[.bool f.n.all, .slice A3 n3 c3], .string x] wr fun e w' => e = .returned (.bool m) ∧ Below wr.heap.size wr w') := by
          rw [hm]
          exact Lib.hid (rhas_any f.n A3 n3 c3 x wr hIn (by omega))
        rw [← hm] at HD
        have hbl : b2 < wr.heap.size := by omega
        clear hm hf hS hIn
        cases m with
        | true =>
          have hr2 : r = f.to := by rw [← H.out, HD.out, if_pos rfl]
          subst hr2
          go_wp2_with fail
          (with_reducible refine HC.out.mono ?_)
          rintro e w1 ⟨rfl, hb3⟩
          have f3' := (hb3.cell (p := ⟨b2, o2 + j * 4 + 2, none⟩) hbl).trans f3
          go_wp2_with fail
          go_ret
          exact ⟨rfl, hbw.trans (hb3.mono hsz)⟩
        | false =>
          have H2 : Hid (toF x.data.toList (D.fs.drop (j + 1)) = r) := Lib.hid (by rw [← H.out, HD.out]; rfl)
          go_wp2_with fail
          (with_reducible refine HC.out.mono ?_)
          rintro e w1 ⟨rfl, hb3⟩
          go_wp2_with fail
          go_roundw
          case rel => exact ⟨j + 1, by omega, by go_num, H2, hbw.trans (hb3.mono hsz)⟩
          case measure => simp [intOf]; omega
      · obtain rfl : j = n2 := by omega
        have hr2 : r = -1 := by
          rw [← H.out, List.drop_of_length_le (by rw [← Hn2.out]; exact Nat.le_refl _)]
          rfl
        subst hr2
        go_wp2_with fail
        go_ret
        exact ⟨rfl, hbw⟩
  · have HT : Hid (toS s d x.data.toList = -1) := Lib.hid (toS_out (by rw [← Hn.out]; exact hin) _)
    rw [HT.out]
    clear h
    by_cases h0 : d < 0
    · go_enter Try.func58, Try.ntmps58
      go_wp2_with fail
      go_ret
      exact ⟨rfl, Below.refl _ _⟩
    · have h1 : (n : Int) ≤ d := by omega
      have h2 : 0 ≤ d := by omega
      go_enter Try.func58, Try.ntmps58
      go_wp2_with fail
      go_ret
      exact ⟨rfl, Below.refl _ _⟩

set_option maxHeartbeats 1000000 in
theorem rhas4_any (t : Tr) (A : Option Addr) (n c B : Nat) (x : ByteArray) (w : World) (h : Holds w B A n t) (hn : n ≤ 140737488351232) :
    Calls Try.prog 110 #[.slice A n c, .string x] w fun e w' => e = .returned (.bool (decide (x.data.toList ∈ tn t))) ∧ w = w' := by
  have Hn := Lib.hid h.len
  obtain ⟨d, hd⟩ : ∃ d, d = decide (x.data.toList ∈ tn t) := ⟨_, rfl⟩
  have Hd := Lib.hid hd
  rw [← hd]
  clear hd
  go_enter Try.func110, Try.ntmps110
  go_wp2_with fail
  go_loop [5] (fun i => ∃ k : Nat, k ≤ n ∧ i = .int .i64 k ∧ Hid (x.data.toList ∉ (tn t).take k)) (fun i => n - (intOf i).toNat)
  case atStart => exact ⟨0, Nat.zero_le _, rfl, Lib.hid (by simp)⟩
  case round =>
    obtain ⟨k, hk, rfl, H⟩ := hrel
    by_cases hlt : k < n
    · obtain ⟨b, o, s, kt, r, A', n', c', rfl, hb, hs, hc, hn', hc', hk', hr, hdr, hd2⟩ := h.split k hlt
      have Hs := Lib.hid (tn_drop hdr)
      have hkn : (k : Int) < (n : Int) := by omega
      have hk0 : (0 : Int) ≤ (k : Int) := by omega
      clear hk' hr hdr hd2
      by_cases he : s.data.toList = x.data.toList
      · have hq := tl_is he
        have Hd2 : d = true := by
          rw [Hd.out, decide_eq_true_iff, ← he]
          exact List.mem_of_getElem? Hs.out
        subst Hd2
        clear he
        go_wp2_with fail
        go_ret
        exact ⟨rfl, rfl⟩
      · have hq := tl_ne he
        have H2 : Hid (x.data.toList ∉ (tn t).take (k + 1)) := Lib.hid (by rw [mem_take' Hs.out]; exact fun g => g.elim H.out (fun g => he g.symm))
        clear he
        go_wp2_with fail
        go_round
        case rel => exact ⟨k + 1, by omega, by go_num, H2⟩
        case measure => simp [intOf]; omega
    · obtain rfl : k = n := by omega
      have Hd2 : d = false := by
        rw [Hd.out, decide_eq_false_iff_not]
        have := H.out
        rwa [List.take_of_length_le (by rw [tn_length, ← Hn.out]; exact Nat.le_refl _)] at this
      subst Hd2
      go_wp2_with fail
      go_ret
      exact ⟨rfl, rfl⟩

/-- A Bool that is true, kept from the walk's rewriting. -/
def Yes (b : Bool) : Prop := b = true
theorem Yes.eq {b : Bool} (h : Yes b) : b = true := h
theorem Yes.mk {b : Bool} (h : b = true) : Yes b := h

set_option maxHeartbeats 4000000 in
theorem rlevel_any (s : List Df) (t : Tr) (A : Option Addr) (n c B : Nat) (d : Int) (A2 : Option Addr) (n2 c2 : Nat) (w : World) (h : Ds w B A n s) (hfit : FitS s) (hB : B ≤ w.heap.size) (hn : n ≤ 9223372036854775807) (ht : Holds w B A2 n2 t) (hn2 : n2 ≤ 140737488351232) :
    Calls Try.prog 54 #[.slice A n c, .int .i64 d, .slice A2 n2 c2] w fun e w' => e = .returned (.bool (lvl s d t)) ∧ Below w.heap.size w w' := by
  have hlen := h.len
  have htl := ht.len
  by_cases hin : 0 ≤ d ∧ d < (n : Int)
  · obtain ⟨k, rfl⟩ : ∃ k : Nat, d = k := ⟨d.toNat, by omega⟩
    have hk : k < n := by omega
    obtain ⟨b, o, D, A3, n3, c3, rfl, hb, hD, h1, h2, h3, hF, h5, h6⟩ := h.at hk
    have hDm := hfit D (List.mem_of_getElem? hD)
    have hn3 : n3 ≤ 4096 := by rw [hF.len]; exact hDm.1
    have HT : Hid (lvl s k t = (counts D n2 && ((tn t).all fun x => decide (0 ≤ toS s k x)) && D.fs.all (needs (tn t)))) := Lib.hid (by rw [lvl_in hD, htl]; simp only [toS_in hD])
    obtain ⟨W1, hW1⟩ : ∃ W, W = w.alloc (Obj.cells #[Value.slice A3 n3 c3, Value.bool D.one, Value.bool D.some] 80) := ⟨_, rfl⟩
    have g0 : W1.heap[w.heap.size]? = some (Obj.cells #[Value.slice A3 n3 c3, Value.bool D.one, Value.bool D.some] 80) := by rw [hW1, heap_alloc_new]
    have hb1 : Below w.heap.size w W1 := by rw [hW1]; exact (Below.refl _ _).alloc (Nat.le_refl _) _
    have HTo := Lib.hid (fun W (x : ByteArray) (hbx : Below W1.heap.size W1 W) => have hbz := hb1.trans (hbx.mono hb1.size); rto_any s (some ⟨b, o, none⟩) n c B k x W (h.below (hbz.mono hB)) hfit (Nat.le_trans hB hbz.size) hn)
    obtain ⟨p1, hp1⟩ : ∃ p : List UInt8 → Bool, p = fun x => decide (0 ≤ toS s k x) := ⟨_, rfl⟩
    obtain ⟨p2, hp2⟩ : ∃ p : Fld → Bool, p = needs (tn t) := ⟨_, rfl⟩
    have Hp1 := Lib.hid hp1
    have Hp2 := Lib.hid hp2
    rw [← hp1, ← hp2] at HT
    obtain ⟨F, hF2⟩ : ∃ F, F = lvl s k t := ⟨_, rfl⟩
    have HFv : Hid (F = (counts D n2 && (tn t).all p1 && D.fs.all p2)) := Lib.hid (by rw [hF2, HT.out])
    rw [← hF2]
    have HX := Lib.hid hDm.2
    have Hl3 := Lib.hid hF.len
    have Hlt : Hid (n2 = (tn t).length) := Lib.hid (by rw [tn_length]; exact htl)
    have Hht := Lib.hid (fun W (hbx : Below W1.heap.size W1 W) => have hbz := hb1.trans (hbx.mono hb1.size); ht.below (hbz.mono hB))
    have HhF := Lib.hid (fun W (hbx : Below W1.heap.size W1 W) => have hbz := hb1.trans (hbx.mono hb1.size); hF.below (hbz.mono hB))
    have HG := Lib.hid g0
    have hbl : b < w.heap.size := by omega
    have hBl : B ≤ w.heap.size := hB
    have hkn : (k : Int) < (n : Int) := by omega
    have hk0 : (0 : Int) ≤ (k : Int) := by omega
    have hd1 : decide ((k : Int) < 0) = false := decide_eq_false (by omega)
    have hd2 : decide (n ≤ k) = false := decide_eq_false (by omega)
    have hs1 : w.heap.size ≤ W1.heap.size := hb1.size
    have HB1 := Lib.hid hb1
    have HW1 := Lib.hid hW1
    clear hp1 hp2 hF2 HT hDm hD h ht hF hfit htl hlen hin g0 hb1 hW1
    go_enter Try.func54, Try.ntmps54
    go_wp2_with fail
    rw [← HW1.out]
    go_loopw [8] (fun i wr => ∃ q : Nat, q ≤ n2 ∧ i = .int .i64 q ∧ Hid (((tn t).take q).all p1 = true) ∧ Below W1.heap.size W1 wr) (fun i _ => n2 - (intOf i).toNat)
    case atStart => exact ⟨0, Nat.zero_le _, rfl, Lib.hid (by simp), Below.refl _ _⟩
    case round =>
      obtain ⟨q, hq, rfl, H, hbw⟩ := hrel
      by_cases hlt : q < n2
      · obtain ⟨b4, o4, x, kt, r, A', n', c', rfl, hb4, hsx, hcx, hn', hc', hk', hr, hdr, hdr2⟩ := (Hht.out _ hbw).split q hlt
        have Hs := Lib.hid (tn_drop hdr)
        have hqn : (q : Int) < (n2 : Int) := by omega
        have hq0 : (0 : Int) ≤ (q : Int) := by omega
        have hsz := hbw.size
        have HC := Lib.hid (HTo.out wr x hbw)
        obtain ⟨v, hv⟩ : ∃ v, v = toS s k x.data.toList := ⟨_, rfl⟩
        have Hq : Hid (p1 x.data.toList = decide (0 ≤ v)) := Lib.hid (by rw [Hp1.out, hv])
        rw [← hv] at HC
        clear hv hdr hdr2 hr hk'
        by_cases h0 : 0 ≤ v
        · have H2 : Hid (((tn t).take (q + 1)).all p1 = true) := Lib.hid (by rw [all_take Hs.out, H.out, Hq.out, decide_eq_true h0]; rfl)
          go_wp2_with fail
          (with_reducible refine HC.out.mono ?_)
          rintro e w2 ⟨rfl, hb2⟩
          go_wp2_with fail
          go_roundw
          case rel => exact ⟨q + 1, by omega, by go_num, H2, hbw.trans (hb2.mono hsz)⟩
          case measure => simp [intOf]; omega
        · have hF2 : F = false := by rw [HFv.out, all_false Hs.out (by rw [Hq.out, decide_eq_false h0]), Bool.and_false, Bool.false_and]
          subst hF2
          have h0' : v < 0 := by omega
          go_wp2_with fail
          (with_reducible refine HC.out.mono ?_)
          rintro e w2 ⟨rfl, hb2⟩
          go_wp2_with fail
          go_ret
          exact ⟨rfl, HB1.out.trans ((hbw.trans (hb2.mono hsz)).mono hs1)⟩
      · have hqn : (n2 : Int) ≤ (q : Int) := by omega
        have HF2 : Hid (F = (counts D n2 && D.fs.all p2)) := Lib.hid (by
          have := H.out
          rw [List.take_of_length_le (by rw [← Hlt.out]; omega)] at this
          rw [HFv.out, this, Bool.and_true])
        obtain ⟨z0, z1, z2⟩ := box3 (Below.box hbw HG.out)
        obtain ⟨wo, rfl⟩ : ∃ wo : World, wo = wr := ⟨_, rfl⟩
        have Hbo := Lib.hid hbw
        have hosz := hbw.size
        clear hbw H hlt z0 z1 z2
        go_wp2_with fail
        go_loop [9] (fun i => ∃ q2 : Nat, q2 ≤ n3 ∧ i = .int .i64 q2 ∧ Hid (Yes ((D.fs.take q2).all p2))) (fun i => n3 - (intOf i).toNat)
        case atStart => exact ⟨0, Nat.zero_le _, rfl, Lib.hid (Yes.mk rfl)⟩
        case round =>
          obtain ⟨j, hj, rfl, H⟩ := hrel
          obtain ⟨z0, z1, z2⟩ := box3 (Below.box Hbo.out HG.out)
          by_cases hlt2 : j < n3
          · obtain ⟨b2, o2, f, A4, n4, c4, rfl, hb2, hf, f1, f2, f3, f4, hS, f5, f6⟩ := (HhF.out _ Hbo.out).at hlt2
            have Hf := Lib.hid hf
            have hn4 : n4 ≤ 4096 := by
              have h1 := hS.len
              rw [List.length_map] at h1
              rw [h1]
              exact HX.out f (List.mem_of_getElem? hf)
            have hjn : (j : Int) < (n3 : Int) := by omega
            have hj0 : (0 : Int) ≤ (j : Int) := by omega
            have HH := Lib.hid (fun x => rhas4_any t A2 n2 c2 B x wo (Hht.out _ Hbo.out) hn2)
            have Hq : Hid (p2 f = (!f.need || f.n.l.all fun x => decide (x ∈ tn t))) := Lib.hid (by rw [Hp2.out]; rfl)
            obtain ⟨p3, hp3⟩ : ∃ p : List UInt8 → Bool, p = fun x => decide (x ∈ tn t) := ⟨_, rfl⟩
            have Hp3 := Lib.hid hp3
            rw [← hp3] at Hq
            have Hl4 : Hid (n4 = f.n.l.length) := Lib.hid (by have := hS.len; rwa [List.length_map] at this)
            obtain ⟨nd, hnd⟩ : ∃ nd, nd = f.need := ⟨_, rfl⟩
            rw [← hnd] at f4 Hq
            clear hp3 hf hnd z1 z2
            cases nd with
            | false =>
              have H2 : Hid (Yes ((D.fs.take (j + 1)).all p2)) := Lib.hid (Yes.mk (by rw [all_take Hf.out, Yes.eq H.out, Hq.out]; rfl))
              by_cases h40 : 0 < n4
              · have h40' : (0 : Int) < (n4 : Int) := by omega
                go_wp2_with fail
                go_loop [10] (fun i => i = .int .i64 0) (fun _ => 0)
                case atStart => rfl
                case round =>
                  obtain rfl := hrel
                  go_wp2_with fail
                  go_round
                  case rel => exact ⟨j + 1, by omega, by go_num, H2⟩
                  case measure => simp [intOf]; omega
              · have h40' : n4 = 0 := by omega
                subst h40'
                go_wp2_with fail
                go_loop [10] (fun i => i = .int .i64 0) (fun _ => 0)
                case atStart => rfl
                case round =>
                  obtain rfl := hrel
                  go_wp2_with fail
                  go_round
                  case rel => exact ⟨j + 1, by omega, by go_num, H2⟩
                  case measure => simp [intOf]; omega
            | true =>
              go_wp2_with fail
              go_loop [10] (fun i => ∃ u : Nat, u ≤ n4 ∧ i = .int .i64 u ∧ Hid ((f.n.l.take u).all p3 = true)) (fun i => n4 - (intOf i).toNat)
              case atStart => exact ⟨0, Nat.zero_le _, rfl, Lib.hid (by simp)⟩
              case round =>
                obtain ⟨u, hu, rfl, H3⟩ := hrel
                by_cases hlt3 : u < n4
                · obtain ⟨b5, o5, y, rfl, hb5, hc5, hsk⟩ := nth hS hlt3
                  have Hy := Lib.hid hsk
                  have hun : (u : Int) < (n4 : Int) := by omega
                  have hu0 : (0 : Int) ≤ (u : Int) := by omega
                  have HC := Lib.hid (HH.out y)
                  obtain ⟨g, hg⟩ : ∃ g, g = decide (y.data.toList ∈ tn t) := ⟨_, rfl⟩
                  have Hg : Hid (p3 y.data.toList = g) := Lib.hid (by rw [Hp3.out, hg])
                  rw [← hg] at HC
                  clear hg hsk
                  cases g with
                  | false =>
                    have hF2 : F = false := by rw [HF2.out, all_false Hf.out (by rw [Hq.out, all_false Hy.out Hg.out]; rfl), Bool.and_false]
                    subst hF2
                    go_wp2_with fail
                    (with_reducible refine HC.out.mono ?_)
                    rintro e w2 ⟨rfl, rfl⟩
                    go_wp2_with fail
                    go_ret
                    exact ⟨rfl, HB1.out.trans (Hbo.out.mono hs1)⟩
                  | true =>
                    have H4 : Hid ((f.n.l.take (u + 1)).all p3 = true) := Lib.hid (by rw [all_take Hy.out, H3.out, Hg.out]; rfl)
                    go_wp2_with fail
                    (with_reducible refine HC.out.mono ?_)
                    rintro e w2 ⟨rfl, rfl⟩
                    go_wp2_with fail
                    go_round
                    case rel => exact ⟨u + 1, by omega, by go_num, H4⟩
                    case measure => simp [intOf]; omega
                · have hun : (n4 : Int) ≤ (u : Int) := by omega
                  have H2 : Hid (Yes ((D.fs.take (j + 1)).all p2)) := Lib.hid (Yes.mk (by
                    have := H3.out
                    rw [List.take_of_length_le (by rw [← Hl4.out]; omega)] at this
                    rw [all_take Hf.out, Yes.eq H.out, Hq.out, this]
                    rfl))
                  go_wp2_with fail
                  go_round
                  case rel => exact ⟨j + 1, by omega, by go_num, H2⟩
                  case measure => simp [intOf]; omega
          · have hjn : (n3 : Int) ≤ (j : Int) := by omega
            have HF3 : Hid (F = counts D n2) := Lib.hid (by
              have := Yes.eq H.out
              rw [List.take_of_length_le (by rw [← Hl3.out]; omega)] at this
              rw [HF2.out, this, Bool.and_true])
            obtain ⟨y1, hy1⟩ : ∃ y, y = D.one := ⟨_, rfl⟩
            obtain ⟨y2, hy2⟩ : ∃ y, y = D.some := ⟨_, rfl⟩
            have HF4 : Hid (F = ((!y1 || decide (n2 = 1)) && (!y2 || decide (1 ≤ n2)))) := Lib.hid (by rw [HF3.out, hy1, hy2]; rfl)
            rw [← hy1] at z1
            rw [← hy2] at z2
            clear hy1 hy2
            have HR := Lib.hid (HB1.out.trans (Hbo.out.mono hs1))
            by_cases h1 : n2 = 1
            · have hq1 : ((n2 : Int) == 1) = true := by rw [h1]; rfl
              have hq2 : (0 : Int) < (n2 : Int) := by omega
              have hr2 : F = true := by rw [HF4.out, decide_eq_true h1, decide_eq_true (show 1 ≤ n2 by omega)]; cases y1 <;> cases y2 <;> rfl
              subst hr2
              clear h1
              cases y1 <;> cases y2 <;> (go_wp2_with fail; go_ret; exact ⟨by first | rfl | (simp; omega), HR.out⟩)
            · have hq1 : ((n2 : Int) == 1) = false := by rw [beq_eq_false_iff_ne]; omega
              by_cases h2 : 1 ≤ n2
              · have hq2 : (0 : Int) < (n2 : Int) := by omega
                have hr2 : F = !y1 := by rw [HF4.out, decide_eq_false h1, decide_eq_true h2]; cases y1 <;> cases y2 <;> rfl
                subst hr2
                clear h1
                cases y1 <;> cases y2 <;> (go_wp2_with fail; go_ret; exact ⟨by first | rfl | (simp; omega), HR.out⟩)
              · have hq2 : (n2 : Int) ≤ 0 := by omega
                have hr2 : F = (!y1 && !y2) := by rw [HF4.out, decide_eq_false h1, decide_eq_false h2]; cases y1 <;> cases y2 <;> rfl
                subst hr2
                clear h1
                cases y1 <;> cases y2 <;> (go_wp2_with fail; go_ret; exact ⟨by first | rfl | (simp; omega), HR.out⟩)
  · have HT : Hid (lvl s d t = false) := Lib.hid (lvl_out (by rw [← hlen]; exact hin) _)
    rw [HT.out]
    clear h ht hfit hlen htl
    by_cases h0 : d < 0
    · go_enter Try.func54, Try.ntmps54
      go_wp2_with fail
      go_ret
      exact ⟨rfl, Below.refl _ _⟩
    · have h1 : (n : Int) ≤ d := by omega
      have h2 : 0 ≤ d := by omega
      go_enter Try.func54, Try.ntmps54
      go_wp2_with fail
      go_ret
      exact ⟨rfl, Below.refl _ _⟩
end Go.Proofs.Ytagoeededpmdkaa.Sc
