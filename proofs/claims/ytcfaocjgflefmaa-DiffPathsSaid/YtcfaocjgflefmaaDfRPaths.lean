/- Paths of the reference. Conditions: fewer than 2400 edges, in order. -/
import Derived.Test.YtcfaocjgflefmaaDfPaths
namespace Go.Proofs.Ytcfaocjgflefmaa.Df
open Go.RowKit Go.Proofs.Ytcfaocjgflefmaa.Pt
set_option maxRecDepth 100000

/-- Blocks that lie as they lay. -/
theorem OwnQ.keepB {w w' : World} {base n c : Nat} {A : Option Addr} {xs : List Q4} (h : OwnQ w base A n c xs) (hk : ∀ b, base ≤ b → b < w.heap.size → w'.heap[b]? = w.heap[b]?) : OwnQ w' base A n c xs := by
  have key : ∀ {e : TypeId} {size n c : Nat} {A : Option Addr} {vs : List Value}, w.ownsRow base e size (.slice A n c) n vs → w'.ownsRow base e size (.slice A n c) n vs := by
    intro e size n c A vs h
    obtain ⟨h1, h2⟩ := h
    refine ⟨h1, ?_⟩
    rcases h2 with h2 | ⟨g, cap, cur, e1, hg, hh, hr⟩
    · exact .inl h2
    · exact .inr ⟨g, cap, cur, e1, hg, (hk g hg (Array.getElem?_eq_some_iff.1 hh).1).trans hh, hr⟩
  exact ⟨key h.own, fun x hx => key (h.each x hx), h.apart, h.off⟩
theorem own_src_s {w : World} {base n c : Nat} {A : Option Addr} {l : List ByteArray} (h : w.ownsRow base 9 1 (.slice A n c) n (strs l)) : Src Try.prog 1 31 (.slice A n c) n (strs l) w := by
  rcases h.2 with ⟨e1, e2⟩ | ⟨g, cap, cur, e1, hg, hh, hcap, hmx, hsz, htk⟩
  · injection e1 with a1 a2 a3
    subst a1; subst a2
    have : strs l = [] := List.eq_nil_of_length_eq_zero (by have := h.1; omega)
    rw [this]
    exact Src.ofNil w Try.underlying31 c
  · injection e1 with a1 a2 a3
    subst a1
    exact Src.ofSlice w Try.underlying31 ⟨g, 0, none⟩ n c (strs l) h.1 (fun j u hu => rowCells h j u hu) (strs_one _)
/-- The inner loop: what is put behind when k paths are done. -/
structure RpI (w1 wq w3 wr : World) (A : Option Addr) (n c : Nat) (xs : List Q4) (base : List (List ByteArray)) (s : ByteArray) (P : List (List ByteArray)) (k : Nat) : Prop where
  own : OwnQ wr w1.heap.size A n c xs
  done : qp xs = base ++ (P.take k).map (s :: ·)
  below : Below w1.heap.size w1 wr
  keep : ∀ b, wq.heap.size ≤ b → b < w3.heap.size → wr.heap[b]? = w3.heap[b]?
  far : ∀ g, (Value.slice A n c).ownBlock = some g → g < wq.heap.size ∨ w3.heap.size ≤ g
  le : w3.heap.size ≤ wr.heap.size

set_option maxHeartbeats 4000000 in
theorem rpaths_any : ∀ (N : Nat), N ≤ 100000 → ∀ (t u : Tr) (A0 B0 : Option Addr) (n0 c0 m0 d0 : Nat) (w : World), OkT w A0 n0 c0 t → OkT w B0 m0 d0 u → t.size + u.size < N → t.size + u.size ≤ 2400 → AscD t → AscD u →
    Calls Try.prog 12 #[.slice A0 n0 c0, .slice B0 m0 d0] w (DiffP N t u w) := by
  intro N
  induction N with
  | zero => intro _ t u A0 B0 n0 c0 m0 d0 w _ _ hN; omega
  | succ N IH =>
    intro hNN t u A0 B0 n0 c0 m0 d0 w ht hu hN hz hat hau
    have IH := IH (by omega)
    have htl := t.len_size
    have hul := u.len_size
    have hn0 : n0 ≤ 140737488351232 := by have := ht.holds.len; omega
    have hm0 : m0 ≤ 140737488351232 := by have := hu.holds.len; omega
    have hall : allNames [⟨A0, n0, c0, t⟩, ⟨B0, m0, d0, u⟩] = t.names ++ u.names := by simp [allNames]
    have hF := forest_two ht hu (Below.refl _ _)
    have hNm := Pt.rnames_any [⟨A0, n0, c0, t⟩, ⟨B0, m0, d0, u⟩] (some ⟨w.heap.size, 0, none⟩) 2 2 _ _ hF rfl (Nat.le_refl _) (by rw [hall, List.length_append, names_length, names_length]; omega) (by simp)
    rw [hall, ns_encs, ns_len] at hNm
    have HNm := Lib.hid hNm
    have Ht := Lib.hid ht
    have Hu := Lib.hid hu
    have Hat := Lib.hid hat
    have Hau := Lib.hid hau
    have Hz := Lib.hid hz
    have HN := Lib.hid hN
    obtain ⟨ns, hns⟩ : ∃ ns, ns = nsT t u := ⟨_, rfl⟩
    have Hns := Lib.hid hns
    rw [← hns] at HNm
    have HIH := Lib.hid IH
    have hba : Below w.heap.size w (w.alloc (Obj.cells #[.slice A0 n0 c0, .slice B0 m0 d0] 26)) := (Below.refl _ _).alloc (Nat.le_refl _) _
    have Hba := Lib.hid hba
    clear hNm ht hu hat hau hz hN htl hul hall hns IH hF hba
    go_enter Try.func12, Try.ntmps12
    go_wp2_with fail
    (with_reducible refine HNm.out.mono ?_)
    rintro e w1 ⟨A1, c1, rfl, hs1, hb1⟩
    have HS1 := Lib.hid hs1
    have HB1 := Lib.hid (show Below w.heap.size w w1 from Hba.out.trans (hb1.mono Hba.out.size))
    obtain ⟨nn, hnn⟩ : ∃ nn, nn = ns.length := ⟨_, rfl⟩
    rw [← hnn] at HS1
    rw [← hnn]
    have Hnn := Lib.hid hnn
    have hnb : nn ≤ 2400 := by
      have h1 := namesOf_le (t.names ++ u.names)
      rw [List.length_append, names_length, names_length] at h1
      have h2 := ns_len t u
      rw [← Hns.out, ← hnn] at h2
      have := t.len_size
      have := u.len_size
      have := Hz.out
      omega
    clear hs1 hb1 hnn
    go_wp2_with fail
    go_loopw [5, 7] (fun s i wr => ∃ (k : Nat) (A : Option Addr) (n c : Nat) (xs : List Q4), k ≤ nn ∧ i = .int .i64 k ∧ s = .slice A n c ∧ Hid (DfI w w1 wr N t u A n c xs k)) (fun _ i _ => nn - (intOf i).toNat)
    case atStart => exact ⟨0, none, 0, 0, [], Nat.zero_le _, rfl, rfl, Lib.hid ⟨OwnQ.nil _ _, rfl, Below.refl _ _⟩⟩
    case round =>
      obtain ⟨k, A, n, c, xs, hk, rfl, rfl, HI⟩ := hrel
      by_cases hlt : k < nn
      · obtain ⟨bs, os, rfl, hbs, hcs⟩ := HS1.out.str hlt
        have hkl : k < ns.length := by have := Hnn.out; omega
        obtain ⟨s, hs⟩ : ∃ s, s = ns.getD k ⟨#[]⟩ := ⟨_, rfl⟩
        rw [← hs] at hcs
        have hsk : ns[k]? = some s := by rw [hs, List.getD, List.getElem?_eq_getElem hkl]; rfl
        have Hcs := Lib.hid hcs
        have hcw := (HI.out.below.cell (p := ⟨bs, os + k, none⟩) hbs).trans hcs
        have hkn : (k : Int) < (nn : Int) := by omega
        have hk0 : (0 : Int) ≤ (k : Int) := by omega
        have hsw1 := HB1.out.size
        have hswr := HI.out.below.size
        have hn2 : n ≤ 2400 := Nat.le_trans (HI.out.few Hat.out Hau.out) Hz.out
        have htk : (((nsT t u).take (k + 1)).flatMap (dS N t u)) = ((nsT t u).take k).flatMap (dS N t u) ++ dS N t u s := by
          rw [← Hns.out, List.take_add_one, hsk]
          simp
        have hor : t.atIs s = true ∨ u.atIs s = true := (mem_ns Hat.out.asc Hau.out.asc).1 (by rw [← Hns.out]; exact List.mem_of_getElem? hsk)
        have hbww : Below w.heap.size w wr := HB1.out.trans (HI.out.below.mono hsw1)
        have HK1 := Lib.hid (kid2_any t A0 n0 c0 w.heap.size s wr (Ht.out.holds.below hbww) hbww.size hn0)
        have HK2 := Lib.hid (fun (q : Nat) => kid2_any u B0 m0 d0 w.heap.size s (wr.drewN q) ((Hu.out.holds.below hbww).drewN q) (by exact hbww.size) hm0)
        have Hbww := Lib.hid hbww
        have Hlt := Lib.hid hlt
        have Htk := Lib.hid htk
        have Hor := Lib.hid hor
        clear hs hsk hcs hkl htk hlt hor hbww
        obtain ⟨v1, hv1⟩ : ∃ v, v = t.atIs s := ⟨_, rfl⟩
        obtain ⟨v2, hv2⟩ : ∃ v, v = u.atIs s := ⟨_, rfl⟩
        rw [← hv1] at HK1 Hor
        rw [← hv2] at HK2 Hor
        by_cases hb : v1 = true ∧ v2 = true
        · obtain ⟨rfl, rfl⟩ := hb
          obtain ⟨wa, rfl⟩ : ∃ x : World, x = wr := ⟨_, rfl⟩
          have Hboth := Lib.hid (dS_both (N := N) hv1.symm hv2.symm)
          have z1 := kid_lt hv1.symm
          have z2 := kid_lt hv2.symm
          have Hzk := Lib.hid (show (kidT t s).size + (kidT u s).size < N by have := HN.out; omega)
          have Hzk2 := Lib.hid (show (kidT t s).size + (kidT u s).size ≤ 2400 by have := Hz.out; omega)
          clear hv1 hv2 z1 z2 Hor
          go_wp2_with fail
          (with_reducible refine HK1.out.mono ?_)
          rintro e w2 ⟨A2, n2, c2, rfl, hk2, hn2', hc2', q, rfl⟩
          have hcw2 : (wa.drewN q).cell? ⟨bs, os + k, none⟩ = some (.string s) := hcw
          have Hk2 := Lib.hid hk2
          clear hk2
          go_wp2_with fail
          (with_reducible refine (HK2.out q).mono ?_)
          rintro e w3 ⟨A3, n3, c3, rfl, hk3, hn3', hc3', q3, rfl⟩
          have Hk3 := Lib.hid (show Holds wa w.heap.size A3 n3 (kidT u s) from hk3.keep (w := wa.drewN q) (w' := wa) (fun _ _ => rfl))
          clear hk3
          rw [World.drewN_drewN]
          obtain ⟨wq, hwq⟩ : ∃ wq, wq = wa.drewN (q + q3) := ⟨_, rfl⟩
          have hwqs : wq.heap.size = wa.heap.size := by rw [hwq]; rfl
          have hbq : Below wa.heap.size wa wq := by rw [hwq]; exact below_drewN (Below.refl _ wa) _
          have HD := Lib.hid (HIH.out (kidT t s) (kidT u s) A2 A3 n2 c2 n3 c3 wq ⟨(Hk2.out.keep fun p hp => hbq.cell (Nat.lt_of_lt_of_le hp Hbww.out.size)).more (by rw [hwqs]; exact Hbww.out.size), hn2', hc2'⟩ ⟨(Hk3.out.keep fun p hp => hbq.cell (Nat.lt_of_lt_of_le hp Hbww.out.size)).more (by rw [hwqs]; exact Hbww.out.size), hn3', hc3'⟩ Hzk.out Hzk2.out (kidT_asc Hat.out) (kidT_asc Hau.out))
          rw [← hwq]
          have Hwqs := Lib.hid hwqs
          have Hbq := Lib.hid hbq
          have hcwq : wq.cell? ⟨bs, os + k, none⟩ = some (.string s) := by rw [hwq]; exact hcw
          clear hwq hwqs hbq hcw2
          go_wp2_with fail
          (with_reducible refine HD.out.mono ?_)
          rintro e w3 ⟨A4, n4, c4, zs, rfl, hO4, hq4, hb4⟩
          have HO4 := Lib.hid hO4
          have Hq4 := Lib.hid hq4
          have Hb4 := Lib.hid (show Below wa.heap.size wa w3 from Hbq.out.trans (by rw [Hwqs.out] at hb4; exact hb4))
          have Hf4 := Lib.hid (own_few hO4 hq4 (kidT_asc Hat.out) (kidT_asc Hau.out) Hzk2.out (by omega))
          have h4few := Hf4.out.1
          have HR0 := Lib.hid (show RpI w1 wq w3 w3 A n c xs (((nsT t u).take k).flatMap (dS N t u)) s (dP N (kidT t s) (kidT u s)) 0 from
            ⟨HI.out.own.below Hb4.out, by rw [HI.out.done]; simp, HI.out.below.trans (Hb4.out.mono hswr), fun _ _ _ => rfl, fun g hg => .inl (by rw [Hwqs.out]; exact (HI.out.own.own.lt g hg).2), Nat.le_refl _⟩)
          have hn4 : n + n4 ≤ 4800 := by omega
          clear hO4 hq4 hb4 HI
          go_wp2_with fail
          go_loopw [5, 13] (fun sl i wl => ∃ (j : Nat) (A : Option Addr) (c : Nat) (xs : List Q4), j ≤ n4 ∧ i = .int .i64 j ∧ sl = .slice A (n + j) c ∧ Hid (RpI w1 wq w3 wl A (n + j) c xs (((nsT t u).take k).flatMap (dS N t u)) s (dP N (kidT t s) (kidT u s)) j)) (fun _ i _ => n4 - (intOf i).toNat)
          case atStart => exact ⟨0, A, c, xs, Nat.zero_le _, rfl, rfl, HR0⟩
          case round =>
            obtain ⟨j, A, c, xs, hj, rfl, rfl, HR⟩ := hrel
            by_cases hlt2 : j < n4
            · have HOl := Lib.hid (OwnQ.keepB HO4.out HR.out.keep)
              have hjl : j < zs.length := by have := HO4.out.len; omega
              obtain ⟨z, hz⟩ : ∃ z, zs[j]? = some z := ⟨_, List.getElem?_eq_getElem hjl⟩
              obtain ⟨g4, rfl, hg4l, hcell, _⟩ := own_some HOl.out.own hlt2
              have hck : wr.cell? ⟨g4, j, none⟩ = some (.slice z.at_ z.n z.c) := hcell j z.v (by rw [qv, List.getElem?_map, hz]; rfl)
              have hsl : wr.cell? ⟨bs, os + k, none⟩ = some (.string s) := (HR.out.below.cell (p := ⟨bs, os + k, none⟩) hbs).trans Hcs.out
              have hzr := HOl.out.each z (List.mem_of_getElem? hz)
              have hzn := Hf4.out.2 z (List.mem_of_getElem? hz)
              have hjn : (j : Int) < (n4 : Int) := by omega
              have hj0 : (0 : Int) ≤ (j : Int) := by omega
              have hPj : (dP N (kidT t s) (kidT u s))[j]? = some z.p := by rw [← Hq4.out, qp, List.getElem?_map, hz]; rfl
              have HPj := Lib.hid hPj
              have hbsl : bs < wr.heap.size := Nat.lt_of_lt_of_le hbs HR.out.below.size
              have Hzr := Lib.hid hzr
              have Hlt2 := Lib.hid hlt2
              have hbV : Below wr.heap.size wr (wr.alloc (Obj.cells #[Value.string s] 9)).drew := ((Below.refl _ wr).alloc (Nat.le_refl _) _).drew
              have hs1 := (hbV.cell (p := ⟨bs, os + k, none⟩) hbsl).trans hsl
              have hk1 := (hbV.cell (p := ⟨g4, j, none⟩) hg4l).trans hck
              have Hnbs := Lib.hid (show (Value.slice A (n + j) c).ownBlock ≠ some bs from fun e => by have := (HR.out.own.own.lt bs e).1; omega)
              have hg4b := HO4.out.own.lt g4 rfl
              have Hng4 := Lib.hid (show (Value.slice A (n + j) c).ownBlock ≠ some g4 from fun e => by have := HR.out.far g4 e; omega)
              have Hlit := Lib.hid (show (wr.alloc (Obj.cells #[Value.string s] 9)).drew.ownsRow wr.heap.size 9 1 (.slice (some ⟨wr.heap.size, 0, none⟩) 1 1) 1 (strs [s]) from (World.ownsRow_lit wr #[Value.string s] 1 (Nat.le_refl _) (by simp [maxLen]) rfl).drew)
              have Hsrc := Lib.hid (own_src_s (owns_belowD hzr hbV))
              have HbV := Lib.hid hbV
              clear hz hcell hzr hPj hjl hlt2 hbV hg4b
              go_wp2_with fail
              go_region_held3 (fun w' => w'.cell? ⟨bs, os + k, none⟩ = some (.string s) ∧ w'.cell? ⟨g4, j, none⟩ = some (.slice z.at_ z.n z.c)) (first | exact ⟨hsl, hck⟩ | exact ⟨hs1, hk1⟩ | exact ⟨hs2, hk2⟩ | exact ⟨hs3, hk3⟩ | exact ⟨hs4, hk4⟩)
                (first
                | (refine step_append_row rfl (.tmp 67) (.tmp 71) _ _ rfl elem_str rfl rfl Hlit.out Hsrc.out (show 1 + z.n ≤ 1099511627776 by omega) HbV.out.size ?_; intro A6 c6 v2 ho6 hg6 hat6; have Hb2 := Lib.hid (HbV.out.grown hg6 HbV.out.size (fun q e => (Hlit.out.lt q e).1)); have hs2 := (Hb2.out.cell (p := ⟨bs, os + k, none⟩) hbsl).trans hsl; have hk2 := (Hb2.out.cell (p := ⟨g4, j, none⟩) hg4l).trans hck; have Hb3 := Lib.hid (Hb2.out.alloc Hb2.out.size (Obj.cells #[Value.slice A6 (1 + z.n) c6] 31)); have hs3 := (Hb3.out.cell (p := ⟨bs, os + k, none⟩) hbsl).trans hsl; have hk3 := (Hb3.out.cell (p := ⟨g4, j, none⟩) hg4l).trans hck; have hout := owns_belowD HR.out.own.own Hb3.out)
                | (refine step_append_row rfl (.tmp 62) (.tmp 73) _ _ rfl elem_path rfl rfl hout (src_q v2 _ ⟨A6, 1 + z.n, c6, s :: z.p⟩ _ rfl rfl) (show n + j + 1 ≤ 1099511627776 by omega) (Nat.le_trans HR.out.below.size Hb3.out.size) ?_; intro A7 c7 v4 ho7 hg7 hat7; have hs4 := hg7.cell hs3 (fun e => Hnbs.out e.symm); have hk4 := hg7.cell hk3 (fun e => Hng4.out e.symm)))
              all_goals
                have hst : strs [s] ++ strs z.p = strs (s :: z.p) := rfl
                rw [hst] at ho6
                have hP := OwnQ.push (ys := [⟨A6, 1 + z.n, c6, s :: z.p⟩]) HR.out.own Hb3.out HR.out.below.size (fun y hy => by
                  rw [List.mem_singleton] at hy
                  subst hy
                  exact ho6.alloc _) (List.pairwise_singleton _ _) ho7 hg7 (fun a ha => (hat7 a ha).imp (fun e => Nat.le_of_eq e.symm) id)
                have hle3 := HR.out.le
                have hs3s := Hb3.out.size
                have HR2 := Lib.hid (show RpI w1 wq w3 v4 A7 (n + j + 1) c7 (xs ++ [⟨A6, 1 + z.n, c6, s :: z.p⟩]) (((nsT t u).take k).flatMap (dS N t u)) s (dP N (kidT t s) (kidT u s)) (j + 1) from
                  ⟨hP, by
                    rw [qp_append, HR.out.done, List.take_add_one, HPj.out, List.append_assoc]
                    simp [qp],
                  (HR.out.below.trans (Hb3.out.mono HR.out.below.size)).grown hg7 (Nat.le_trans HR.out.below.size hs3s) (fun q hq => (HR.out.own.own.lt q hq).1),
                  fun b h1 h2 => (hg7.block b (by omega) (fun e => by have := HR.out.far b e.symm; omega)).trans ((Hb3.out.block b (by omega)).trans (HR.out.keep b h1 h2)),
                  fun g hg => by
                    cases A7 with
                    | none => cases hg
                    | some a =>
                      have e : a.block = g := by injection hg
                      rcases hat7 a rfl with h1 | h1
                      · exact .inr (by omega)
                      · exact HR.out.far g (by rw [← h1, e]),
                  Nat.le_trans hle3 (Nat.le_trans hs3s hg7.size)⟩)
                clear hP ho6 hg6 hat6 ho7 hg7 hat7 hout hst
                go_wp2_with fail
                go_roundw
                case rel => exact ⟨j + 1, A7, c7, _, Hlt2.out, by go_num, rfl, HR2⟩
                case measure => have := Hlt2.out; simp [intOf]; omega
            · obtain rfl : j = n4 := by omega
              have HI5 := Lib.hid (show DfI w w1 wr N t u A (n + j) c xs (k + 1) from ⟨HR.out.own, by
                rw [HR.out.done, List.take_of_length_le (l := dP N (kidT t s) (kidT u s)) (by rw [← Hq4.out, qp, List.length_map, ← HO4.out.len]; exact Nat.le_refl _), Htk.out, Hboth.out], HR.out.below⟩)
              clear hlt2
              go_wp2_with fail
              go_roundw
              case rel => exact ⟨k + 1, A, n + j, c, xs, Hlt.out, by go_num, rfl, HI5⟩
              case measure => have := Hlt.out; simp [intOf]; omega
        · have hvv : ¬ (v1 = true ∧ v2 = true) := hb
          have Hone := Lib.hid (dS_one (N := N) (show (t.atIs s && u.atIs s) = false by rw [← hv1, ← hv2]; cases v1 <;> cases v2 <;> simp at hvv ⊢))
          have Hvv := Lib.hid hvv
          clear hv1 hv2 hb hvv
          cases v1 <;> cases v2
          · exact absurd Hor.out (by simp)
          rotate_left 2
          · exact absurd ⟨rfl, rfl⟩ Hvv.out
          all_goals
            go_wp2_with fail
            (with_reducible refine HK1.out.mono ?_)
            rintro e w2 ⟨A2, n2, c2, rfl, hk2, hn2', hc2', q, rfl⟩
            have hcw2 : (wr.drewN q).cell? ⟨bs, os + k, none⟩ = some (.string s) := hcw
            clear hk2
            go_wp2_with fail
            (with_reducible refine (HK2.out q).mono ?_)
            rintro e w3 ⟨A3, n3, c3, rfl, hk3, hn3', hc3', q3, rfl⟩
            clear hk3
            rw [World.drewN_drewN]
            obtain ⟨wq, hwq⟩ : ∃ wq, wq = wr.drewN (q + q3) := ⟨_, rfl⟩
            have hwqs : wq.heap.size = wr.heap.size := by rw [hwq]; rfl
            have hbq : Below wr.heap.size wr wq := by rw [hwq]; exact below_drewN (Below.refl _ wr) _
            have Hbq := Lib.hid hbq
            have Hwqs := Lib.hid hwqs
            have hcwq : wq.cell? ⟨bs, os + k, none⟩ = some (.string s) := by rw [hwq]; exact hcw
            have hrow := owns_belowD HI.out.own.own hbq
            have hle1 : w1.heap.size ≤ wq.heap.size := by rw [hwqs]; exact hswr
            rw [← hwq]
            clear hwq hwqs hbq hcw2
            go_wp2_with (at_builtin; refine wpList_append_row rfl (.tmp 45) (.tmp 51) _ _ rfl elem_path rfl rfl ((hrow.alloc _).alloc _) (src_q (wq.alloc (Obj.cells #[Value.string s] 9)) _ ⟨some ⟨wq.heap.size, 0, none⟩, 1, 1, [s]⟩ _ (by simp) rfl) (by omega) (by simp; omega) ?_; intro A5 c5 w5 ho5 hg5 hat5)
            have hP := OwnQ.push (ys := [⟨some ⟨wq.heap.size, 0, none⟩, 1, 1, [s]⟩]) HI.out.own ((Hbq.out.alloc (by rw [Hwqs.out]; exact Nat.le_refl _) _).alloc (by simp [Hwqs.out]) _) hswr (fun y hy => by
              rw [List.mem_singleton] at hy
              subst hy
              exact World.ownsRow.alloc (World.ownsRow_lit wq #[Value.string s] 1 (by rw [Hwqs.out]; exact Nat.le_refl _) (by simp [maxLen]) rfl) _) (List.pairwise_singleton _ _) ho5 hg5 (fun a ha => (hat5 a ha).imp (fun e => Nat.le_of_eq e.symm) id)
            have hbw5 : Below w1.heap.size w1 w5 := (((HI.out.below.trans (Hbq.out.mono hswr)).alloc (by omega) _).alloc (by simp; omega) _).grown hg5 (by simp; omega) (fun q hq => (HI.out.own.own.lt q hq).1)
            have HI5 := Lib.hid (show DfI w w1 w5 N t u A5 (n + 1) c5 (xs ++ [⟨some ⟨wq.heap.size, 0, none⟩, 1, 1, [s]⟩]) (k + 1) from ⟨hP, by rw [qp_append, HI.out.done, Htk.out, Hone.out]; rfl, hbw5⟩)
            clear hP hbw5 ho5 hg5 hat5 hrow
            go_roundw
            case rel => exact ⟨k + 1, A5, n + 1, c5, _, Hlt.out, by go_num, rfl, HI5⟩
            case measure => have := Hlt.out; simp [intOf]; omega
      · obtain rfl : k = nn := by omega
        have HP := Lib.hid (show DiffP (N + 1) t u w (.returned (.slice A n c)) wr from ⟨A, n, c, xs, rfl, HI.out.own.less HB1.out.size, by
          have := HI.out.done
          rwa [← Hns.out, List.take_of_length_le (by rw [Hnn.out]; exact Nat.le_refl _), Hns.out, ← dP_succ] at this, HB1.out.trans (HI.out.below.mono HB1.out.size)⟩)
        clear hlt
        go_wp2_with fail
        go_ret
        exact HP.out
end Go.Proofs.Ytcfaocjgflefmaa.Df
