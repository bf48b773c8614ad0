/- diff.differ: the paths at which two trees differ. Conditions: fewer than 2400 edges, in order. -/
import Derived.Test.YtcfaocjgflefmaaDfBound
import Derived.Test.YtcfaocjgflefmaaDfAhead
import Derived.Deep.RegionHeld3
namespace Go.Proofs.Ytcfaocjgflefmaa.Df
open Go.RowKit Go.Proofs.Ytcfaocjgflefmaa.Pt
set_option maxRecDepth 100000

theorem ns_encs (t u : Tr) : (namesOf (t.names ++ u.names)).map encs = (nsT t u).map Value.string := by
  rw [nsT, List.map_map]
  rfl
theorem ns_len (t u : Tr) : (namesOf (t.names ++ u.names)).length = (nsT t u).length := by rw [nsT, List.length_map]
theorem elem_path : Elem Try.prog 28 31 (.slice none 0 0) 1 24 := ⟨Try.underlying28, by kernel_rfl, rfl, by omega⟩
theorem src_q (W V : World) (x : Q4) (g : Nat) (hg : g = W.heap.size) (hV : V = W.alloc (Obj.cells #[.slice x.at_ x.n x.c] 31)) : Src Try.prog 1 28 (.slice (some ⟨g, 0, none⟩) 1 1) 1 (qv [x]) V := by
  subst hV
  exact hg ▸ Src.laid Try.underlying28 rfl (fun j u hu => by rw [cell_of_row _ _ _ _ _ _ (heap_alloc_new W _), ← hu]; simp [qv, Q4.v]) (qv_one _)
theorem Tld.forest {w wr : World} {B N c : Nat} {A : Option Addr} {ys : List Slc} {ts : List Tr} (h : Tld w wr B A N c ys ts) (hB : B ≤ wr.heap.size) : Forest wr wr.heap.size A ys := by
  intro j x hx
  obtain ⟨b, o, e, hb, hc⟩ := (own_seesV h.own).cell j (Slc.v x) (by rw [sv, List.getElem?_map, hx]; rfl)
  exact ⟨b, o, e, hb, hc, ((h.each x (List.mem_of_getElem? hx)).1).more hB⟩
theorem flat_take_le {α β : Type} (f : α → List β) (l : List α) (k : Nat) : ((l.take k).flatMap f).length ≤ (l.flatMap f).length := by
  have h := congrArg (fun m => (m.flatMap f).length) (List.take_append_drop k l)
  simp only [List.flatMap_append, List.length_append] at h
  omega
/-- What is told of the paths when k names are done. -/
structure DfI (w w1 wr : World) (N : Nat) (t u : Tr) (A : Option Addr) (n c : Nat) (xs : List Q4) (k : Nat) : Prop where
  own : OwnQ wr w1.heap.size A n c xs
  done : qp xs = ((nsT t u).take k).flatMap (dS N t u)
  below : Below w1.heap.size w1 wr
theorem DfI.few {w w1 wr : World} {N : Nat} {t u : Tr} {A : Option Addr} {n c : Nat} {xs : List Q4} {k : Nat} (h : DfI w w1 wr N t u A n c xs k) (ht : AscD t) (hu : AscD u) : n ≤ t.size + u.size := by
  have h1 := h.own.len
  have h2 := congrArg List.length h.done
  have h3 := flat_take_le (dS N t u) (nsT t u) k
  have h4 := dP_len (N + 1) ht hu
  rw [dP_succ] at h4
  rw [qp, List.length_map] at h2
  omega
def DiffP (N : Nat) (t u : Tr) (w : World) (e : Ending) (w' : World) : Prop := ∃ A' n' c' xs, e = .returned (.slice A' n' c') ∧ OwnQ w' w.heap.size A' n' c' xs ∧ qp xs = dP N t u ∧ Below w.heap.size w w'
theorem below_undrewD {w w' : World} (h : Below w.drew.heap.size w.drew w') : Below w.heap.size w w' := ⟨h.os, h.tape, h.output, h.size, h.block⟩

theorem own_few {w : World} {base n c N : Nat} {A : Option Addr} {zs : List Q4} {t u : Tr} (hO : OwnQ w base A n c zs) (hq : qp zs = dP N t u) (ht : AscD t) (hu : AscD u) (hz : t.size + u.size ≤ 2400) (hN : N ≤ 100000) : n ≤ 2400 ∧ ∀ x ∈ zs, x.n ≤ 549755813888 := by
  have h1 := hO.len
  have h2 := congrArg List.length hq
  have h3 := dP_len N ht hu
  rw [qp, List.length_map] at h2
  refine ⟨by omega, fun x hx => ?_⟩
  have h4 := dP_short N t u x.p (by rw [← hq]; exact List.mem_map_of_mem hx)
  have h5 := (hO.each x hx).1
  rw [strs, List.length_map] at h5
  omega
theorem own_src_q {w : World} {base n c : Nat} {A : Option Addr} {xs : List Q4} (h : w.ownsRow base 31 1 (.slice A n c) n (qv xs)) : Src Try.prog 1 28 (.slice A n c) n (qv xs) w := by
  rcases h.2 with ⟨e1, e2⟩ | ⟨g, cap, cur, e1, hg, hh, hcap, hmx, hsz, htk⟩
  · injection e1 with a1 a2 a3
    subst a1; subst a2
    have : qv xs = [] := List.eq_nil_of_length_eq_zero (by have := h.1; omega)
    rw [this]
    exact Src.ofNil w Try.underlying28 c
  · injection e1 with a1 a2 a3
    subst a1
    exact Src.ofSlice w Try.underlying28 ⟨g, 0, none⟩ n c (qv xs) h.1 (fun j u hu => rowCells h j u hu) (qv_one _)

set_option maxHeartbeats 4000000 in
theorem differ_any : ∀ (N : Nat), N ≤ 100000 → ∀ (x y : Slc) (A0 : Option Addr) (c0 : Nat) (w : World), x.t.size + y.t.size < N → x.t.size + y.t.size ≤ 2400 → AscD x.t → AscD y.t → Forest w w.heap.size A0 [x, y] →
    Calls Try.prog 27 #[.slice A0 2 c0] w (DiffP N x.t y.t w) := by
  intro N
  induction N with
  | zero => intro _ x y A0 c0 w hN; omega
  | succ N IH =>
    intro hNN x y A0 c0 w hN hz hax hay hF
    have IH := IH (by omega)
    have hxl := x.t.len_size
    have hyl := y.t.len_size
    have hxn : x.n ≤ 140737488351232 := by obtain ⟨_, _, _, _, _, h⟩ := hF 0 x rfl; have := h.len; omega
    have hyn : y.n ≤ 140737488351232 := by obtain ⟨_, _, _, _, _, h⟩ := hF 1 y rfl; have := h.len; omega
    have hall : allNames [x, y] = x.t.names ++ y.t.names := by simp [allNames]
    have hNm := names_any [x, y] A0 2 c0 w.heap.size w hF rfl (Nat.le_refl _) (by rw [hall, List.length_append, names_length, names_length]; omega) (by simp)
    rw [hall, ns_encs, ns_len] at hNm
    have HNm := Lib.hid hNm
    have HF := Lib.hid hF
    have Hax := Lib.hid hax
    have Hay := Lib.hid hay
    have Hz := Lib.hid hz
    have HN := Lib.hid hN
    have Hxs := Lib.hid (show ∀ z ∈ [x, y], z.t.Asc ∧ z.n ≤ 140737488351232 from fun z hz => by
      rw [List.mem_cons, List.mem_singleton] at hz
      rcases hz with rfl | rfl
      · exact ⟨hax.asc, hxn⟩
      · exact ⟨hay.asc, hyn⟩)
    obtain ⟨ns, hns⟩ : ∃ ns, ns = nsT x.t y.t := ⟨_, rfl⟩
    have Hns := Lib.hid hns
    rw [← hns] at HNm
    have HIH := Lib.hid IH
    clear hNm hF hax hay hz hN hxl hyl hxn hyn hall hns IH
    go_enter Try.func27, Try.ntmps27
    go_wp2_with fail
    (with_reducible refine HNm.out.mono ?_)
    rintro e w1 ⟨A1, c1, rfl, hs1, hb1⟩
    have HS1 := Lib.hid hs1
    have HB1 := Lib.hid hb1
    obtain ⟨nn, hnn⟩ : ∃ nn, nn = ns.length := ⟨_, rfl⟩
    rw [← hnn] at HS1
    rw [← hnn]
    have Hnn := Lib.hid hnn
    have hnb : nn ≤ 2400 := by
      have h1 := once_le (sorted ((x.t.names ++ y.t.names).map (·.data.toList)))
      rw [sorted_length, List.length_map, List.length_append, names_length, names_length] at h1
      have h2 := ns_len x.t y.t
      rw [← Hns.out, ← hnn] at h2
      have h3 : (namesOf (x.t.names ++ y.t.names)).length ≤ x.t.len + y.t.len := h1
      have := x.t.len_size
      have := y.t.len_size
      have := Hz.out
      omega
    clear hs1 hb1 hnn
    go_wp2_with fail
    go_loopw [3, 10] (fun s i wr => ∃ (k : Nat) (A : Option Addr) (n c : Nat) (xs : List Q4), k ≤ nn ∧ i = .int .i64 k ∧ s = .slice A n c ∧ Hid (DfI w w1 wr N x.t y.t A n c xs k)) (fun _ i _ => nn - (intOf i).toNat)
    case atStart => exact ⟨0, none, 0, 0, [], Nat.zero_le _, rfl, rfl, Lib.hid ⟨OwnQ.nil _ _, rfl, Below.refl _ _⟩⟩
    case round =>
      obtain ⟨k, A, n, c, xs, hk, rfl, rfl, HI⟩ := hrel
      by_cases hlt : k < nn
      · obtain ⟨bs, os, rfl, hbs, hcs⟩ := HS1.out.str hlt
        have hkl : k < ns.length := by have := Hnn.out; omega
        obtain ⟨s, hs⟩ : ∃ s, s = ns.getD k ⟨#[]⟩ := ⟨_, rfl⟩
        rw [← hs] at hcs
        have hsk : ns[k]? = some s := by rw [hs, List.getD, List.getElem?_eq_getElem hkl]; rfl
        have hcw := (HI.out.below.cell (p := ⟨bs, os + k, none⟩) hbs).trans hcs
        have hkn : (k : Int) < (nn : Int) := by omega
        have hk0 : (0 : Int) ≤ (k : Int) := by omega
        have hsw1 := HB1.out.size
        have hswr := HI.out.below.size
        have hn2 : n ≤ 2400 := Nat.le_trans (HI.out.few Hax.out Hay.out) Hz.out
        have htk : (((nsT x.t y.t).take (k + 1)).flatMap (dS N x.t y.t)) = ((nsT x.t y.t).take k).flatMap (dS N x.t y.t) ++ dS N x.t y.t s := by
          rw [← Hns.out, List.take_add_one, hsk]
          simp
        obtain ⟨W1, hW1⟩ : ∃ W, W = wr.alloc (Obj.cells #[Value.string s] 9) := ⟨_, rfl⟩
        have hbw1 : Below wr.heap.size wr W1 := by rw [hW1]; exact (Below.refl _ _).alloc (Nat.le_refl _) _
        have hgW1 : W1.heap[wr.heap.size]? = some (Obj.cells #[Value.string s] 9) := by rw [hW1]; exact heap_alloc_new wr _
        have q0 : W1.cell? ⟨wr.heap.size, 0, none⟩ = some (.string s) := by rw [cell_of_row _ _ _ _ _ _ hgW1]; rfl
        have hlW1 : wr.heap.size < W1.heap.size := (Array.getElem?_eq_some_iff.1 hgW1).1
        have hwW1 : Below w.heap.size w W1 := (HB1.out.trans (HI.out.below.mono hsw1)).trans (hbw1.mono (Nat.le_trans hsw1 hswr))
        have HT := Lib.hid (told_any [x, y] s A0 2 c0 wr.heap.size w.heap.size W1 (HF.out.keep fun p hp => hwW1.cell hp) rfl hwW1.size (by simp) Hxs.out q0)
        have HW1 := Lib.hid hbw1
        have HwW1 := Lib.hid hwW1
        have Hlt := Lib.hid hlt
        have Htk := Lib.hid htk
        have Hq0 := Lib.hid q0
        clear hs hsk hcs hkl htk hbw1 hgW1 hwW1 hlt
        cases hb : (x.t.atIs s && y.t.atIs s) with
        | false =>
          have Hone := Lib.hid (dS_one (N := N) hb)
          have hkl : (kidsT [x, y] s).length ≤ 1 := by
            simp only [kidsT, List.length_map, List.filter_cons, List.filter_nil]
            cases h1 : x.t.atIs s <;> cases h2 : y.t.atIs s <;> first | (simp; done) | (rw [h1, h2] at hb; cases hb)
          have Hkl := Lib.hid hkl
          clear hb hkl
          go_wp2_with fail
          rw [← hW1]
          (with_reducible refine HT.out.mono ?_)
          rintro e w2 ⟨A2, N2, c2, ys, rfl, hT⟩
          have hN2 : N2 ≤ 1 := by have := hT.len; have := Hkl.out; omega
          have hN3 : (N2 : Int) < 2 := by omega
          have hN4 : N2 < 2 := by omega
          have hbT := hT.below
          have HbT := Lib.hid (show Below wr.heap.size wr w2 from HW1.out.trans (hbT.mono (Nat.le_of_lt hlW1)))
          have hq2 := (hbT.cell (p := ⟨wr.heap.size, 0, none⟩) hlW1).trans Hq0.out
          have hs2 := hbT.size
          clear hT hbT
          have hrow := (owns_belowD HI.out.own.own HbT.out)
          go_wp2_with (at_builtin; refine wpList_append_row rfl (.tmp 22) (.tmp 25) _ _ rfl elem_path rfl rfl ((hrow.alloc _).alloc _) (src_q (w2.alloc (Obj.cells #[Value.string s] 9)) _ ⟨some ⟨w2.heap.size, 0, none⟩, 1, 1, [s]⟩ _ (by simp) rfl) (by omega) (by simp; omega) ?_; intro A3 c3 w3 ho3 hg3 hat3)
          have hP := OwnQ.push (ys := [⟨some ⟨w2.heap.size, 0, none⟩, 1, 1, [s]⟩]) HI.out.own ((HbT.out.alloc (Nat.le_trans (Nat.le_of_lt hlW1) hs2) _).alloc (by simp; omega) _) hswr (fun y hy => by
            rw [List.mem_singleton] at hy
            subst hy
            exact World.ownsRow.alloc (World.ownsRow_lit w2 #[Value.string s] 1 (Nat.le_trans (Nat.le_of_lt hlW1) hs2) (by simp [maxLen]) rfl) _) (List.pairwise_singleton _ _) ho3 hg3 (fun a ha => (hat3 a ha).imp (fun e => Nat.le_of_eq e.symm) id)
          have hbw3 : Below w1.heap.size w1 w3 := (((HI.out.below.trans (HbT.out.mono hswr)).alloc (by omega) _).alloc (by simp; omega) _).grown hg3 (by simp; omega) (fun q hq => (HI.out.own.own.lt q hq).1)
          have HI3 := Lib.hid (show DfI w w1 w3 N x.t y.t A3 (n + 1) c3 (xs ++ [⟨some ⟨w2.heap.size, 0, none⟩, 1, 1, [s]⟩]) (k + 1) from ⟨hP, by rw [qp_append, HI.out.done, Htk.out, Hone.out]; rfl, hbw3⟩)
          clear hP hbw3 ho3 hg3 hat3 hrow
          go_roundw
          case rel => exact ⟨k + 1, A3, n + 1, c3, _, Hlt.out, by go_num, rfl, HI3⟩
          case measure => have := Hlt.out; simp [intOf]; omega
        | true =>
          rw [Bool.and_eq_true] at hb
          obtain ⟨hb1, hb2⟩ := hb
          have Hboth := Lib.hid (dS_both (N := N) hb1 hb2)
          have z1 := kid_lt hb1
          have z2 := kid_lt hb2
          have hzk : (kidT x.t s).size + (kidT y.t s).size < N := by have := HN.out; omega
          have hzk2 : (kidT x.t s).size + (kidT y.t s).size ≤ 2400 := by have := Hz.out; omega
          have hkt : kidsT [x, y] s = [kidT x.t s, kidT y.t s] := by simp [kidsT, hb1, hb2]
          have Hkt := Lib.hid hkt
          clear hb1 hb2 z1 z2 hkt
          go_wp2_with fail
          rw [← hW1]
          (with_reducible refine HT.out.mono ?_)
          rintro e w2 ⟨A2, N2, c2, ys, rfl, hT⟩
          rw [Hkt.out] at hT
          obtain rfl : N2 = 2 := hT.len
          have hbT := hT.below
          have HbT := Lib.hid (show Below wr.heap.size wr w2 from HW1.out.trans (hbT.mono (Nat.le_of_lt hlW1)))
          have hq2 := (hbT.cell (p := ⟨wr.heap.size, 0, none⟩) hlW1).trans Hq0.out
          have hs2 := hbT.size
          have hwr2 : wr.heap.size < w2.heap.size := Nat.lt_of_lt_of_le hlW1 hs2
          have hfo := hT.forest (Nat.le_trans (Nat.le_trans hsw1 hswr) (Nat.le_of_lt hwr2))
          have htr := hT.trees
          clear hT hbT
          obtain ⟨y1, y2, rfl⟩ : ∃ y1 y2, ys = [y1, y2] := by
            match ys, htr with
            | [y1, y2], _ => exact ⟨y1, y2, rfl⟩
            | [], h => simp at h
            | [_], h => simp at h
            | _ :: _ :: _ :: _, h => simp at h
          simp only [List.map_cons, List.map_nil, List.cons.injEq, and_true] at htr
          obtain ⟨e1, e2⟩ := htr
          rw [← e1, ← e2] at hzk hzk2 Hboth
          have hay1 : AscD y1.t := by rw [e1]; exact kidT_asc Hax.out
          have hay2 : AscD y2.t := by rw [e2]; exact kidT_asc Hay.out
          have HD := Lib.hid (HIH.out y1 y2 A2 c2 w2.drew hzk hzk2 hay1 hay2 (hfo.keep fun p hp => rfl))
          have Hay1 := Lib.hid hay1
          have Hay2 := Lib.hid hay2
          have Hzk2 := Lib.hid hzk2
          clear hfo e1 e2 hzk hay1 hay2
          have hlt2 : wr.heap.size < w2.drew.heap.size := hwr2
          go_wp2_with fail
          go_region_held3 (fun w' => w'.cell? ⟨wr.heap.size, 0, none⟩ = some (.string s)) (first | exact hq2 | exact hs3 | exact hs4 | exact hs5)
            (first
            | (go_at_call 27; refine HD.out.mono ?_; rintro e w3 ⟨A3, n3, c3, zs, rfl, hO3, hq3, hb3⟩; have hs3 := (hb3.cell (p := ⟨wr.heap.size, 0, none⟩) hlt2).trans hq2; have HO3 := Lib.hid hO3; have Hq3 := Lib.hid hq3; have Hf3 := Lib.hid (own_few hO3 hq3 Hay1.out Hay2.out Hzk2.out (by omega)); have Hb3 := Lib.hid hb3; have HA := Lib.hid (ahead_any s zs A3 n3 c3 w2.drew.heap.size w3 hO3 hb3.size (by have := Hf3.out.1; omega) Hf3.out.2); clear hO3 hq3 hb3)
            | (go_at_call 39; refine HA.out.mono ?_; rintro e w4 ⟨us, rfl, hO4, hq4, hb4⟩; have hs4 := (hb4.cell (p := ⟨wr.heap.size, 0, none⟩) hlt2).trans hs3; have HO4 := Lib.hid hO4; have Hq4 := Lib.hid hq4; have Hb4 := Lib.hid (show Below wr.heap.size wr w4 from HbT.out.trans ((below_undrewD (Hb3.out.trans hb4)).mono (Nat.le_of_lt hwr2))); have hrow4 := owns_belowD HI.out.own.own Hb4.out; clear hO4 hq4 hb4)
            | (refine step_append_row rfl (.tmp 27) (.tmp 31) _ _ rfl elem_path rfl rfl hrow4 (own_src_q HO4.out.own) (by have := Hf3.out.1; omega) (by have := Hb4.out.size; omega) ?_; intro A5 c5 w5 ho5 hg5 hat5; have hs5 : w5.cell? ⟨wr.heap.size, 0, none⟩ = some (.string s) := (World.cell?_of_block (a := ⟨wr.heap.size, 0, none⟩) (hg5.block wr.heap.size (block_lt hs4) (fun e => Nat.lt_irrefl _ (HI.out.own.own.lt _ e.symm).2))).trans hs4))
          all_goals
            have hP := OwnQ.push (ys := us) HI.out.own Hb4.out hswr (fun y hy => owns_less (HO4.out.each y hy) (Nat.le_of_lt hwr2)) HO4.out.apart ho5 hg5 (fun a ha => (hat5 a ha).imp (fun e => Nat.le_of_eq e.symm) id)
            have hbw5 : Below w1.heap.size w1 w5 := (HI.out.below.trans (Hb4.out.mono hswr)).grown hg5 (Nat.le_trans hswr Hb4.out.size) (fun q hq => (HI.out.own.own.lt q hq).1)
            have HI5 := Lib.hid (show DfI w w1 w5 N x.t y.t A5 (n + n3) c5 (xs ++ us) (k + 1) from ⟨hP, by rw [qp_append, HI.out.done, Htk.out, Hboth.out, Hq4.out, Hq3.out], hbw5⟩)
            clear hP hbw5 ho5 hg5 hat5 hrow4
            go_wp2_with fail
            go_roundw
            case rel => exact ⟨k + 1, A5, n + n3, c5, _, Hlt.out, by go_num, rfl, HI5⟩
            case measure => have := Hlt.out; simp [intOf]; omega
      · obtain rfl : k = nn := by omega
        have HP := Lib.hid (show DiffP (N + 1) x.t y.t w (.returned (.slice A n c)) wr from ⟨A, n, c, xs, rfl, HI.out.own.less HB1.out.size, by
          have := HI.out.done
          rwa [← Hns.out, List.take_of_length_le (by rw [Hnn.out]; exact Nat.le_refl _), Hns.out, ← dP_succ] at this, HB1.out.trans (HI.out.below.mono HB1.out.size)⟩)
        clear hlt
        go_wp2_with fail
        go_ret
        exact HP.out
end Go.Proofs.Ytcfaocjgflefmaa.Df
