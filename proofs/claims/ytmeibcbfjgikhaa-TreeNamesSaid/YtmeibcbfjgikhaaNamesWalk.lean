/- TreeNames: Names of two trees, and of one. Conditions: fewer than 200 raw edges. -/
import Derived.Test.YtmeibcbfjgikhaaKid
import Derived.Test.YtmeibcbfjgikhaaRaws
import Derived.Test.YtmeibcbfjgikhaaLaw2
namespace Go.Proofs.Ytmeibcbfjgikhaa
open Go.RowKit
set_option maxRecDepth 100000

/-- The k-th. -/
def nm (ns : List (List UInt8)) (k : Nat) : ByteArray := ⟨(ns.getD k []).toArray⟩
theorem nm_eq {ns : List (List UInt8)} {k : Nat} (h : k < ns.length) : nm ns k = ⟨ns[k].toArray⟩ := by simp [nm, List.getD, List.getElem?_eq_getElem h]
theorem SeesV.all {w : World} {B n : Nat} {A : Option Addr} {l : List (List UInt8)} (h : SeesV w B A n (l.map encs)) : l.length = 0 ∨ ∃ b o, A = some ⟨b, o, none⟩ ∧ b < B ∧ ∀ k, k < l.length → w.cell? ⟨b, o + k, none⟩ = some (.string (nm l k)) := by
  have hc : ∀ k (hk : k < l.length), ∃ b o, A = some ⟨b, o, none⟩ ∧ b < B ∧ w.cell? ⟨b, o + k, none⟩ = some (.string (nm l k)) := fun k hk => h.cell k _ (by rw [List.getElem?_map, List.getElem?_eq_getElem hk, nm_eq hk]; rfl)
  rcases Nat.eq_zero_or_pos l.length with g | g
  · exact .inl g
  · right
    obtain ⟨b, o, rfl, hb, _⟩ := hc 0 g
    refine ⟨b, o, rfl, hb, fun k hk => ?_⟩
    obtain ⟨b', o', e, _, hck⟩ := hc k hk
    cases e
    exact hck

theorem names_body (t u : Tr) (hat : t.Asc) (hau : u.Asc) (m m2 : Nat) (hm : m = t.len) (hm2 : m2 = u.len) :
    ∃ ns : List (List UInt8), ns = namesOf (t.names ++ u.names) ∧ m ≤ ns.length ∧ m2 ≤ ns.length ∧ ns.length ≤ m + m2 ∧ (∀ k, k < ns.length → t.atIs (nm ns k) = true ∨ u.atIs (nm ns k) = true) ∧
      (∀ j, j + 1 < ns.length → Op.bytesLess (nm ns j).toList (nm ns (j + 1)).toList = true) := by
  refine ⟨_, rfl, ?_, ?_, ?_, fun k h => ?_, fun j h => ?_⟩
  · rw [hm]
    exact namesOf_ge _ hat (fun x hx => by rw [List.map_append, List.mem_append]; exact .inl hx)
  · rw [hm2]
    exact namesOf_ge _ hau (fun x hx => by rw [List.map_append, List.mem_append]; exact .inr hx)
  · have := namesOf_le (t.names ++ u.names)
    rw [List.length_append, names_length, names_length] at this
    omega
  · have := (namesOf_mem (t.names ++ u.names) _).1 (List.getElem_mem h)
    rw [nm_eq h]
    rw [List.map_append, List.mem_append] at this
    rcases this with e | e
    · exact .inl (atIs_mem hat e)
    · exact .inr (atIs_mem hau e)
  · rw [nm_eq h, nm_eq (Nat.lt_of_succ_lt h)]
    exact (less_iff _ _).2 (List.pairwise_iff_getElem.1 (namesOf_pair _) j (j + 1) (by omega) h (by omega))
/-- One list's own names. -/
theorem names_own {t : Tr} (hat : t.Asc) : (namesOf t.names).length = t.len ∧ ∀ k s, t.names[k]? = some s → nm (namesOf t.names) k = s := by
  rw [namesOf_asc hat]
  refine ⟨bn_length t, fun k s hs => ?_⟩
  simp [nm, Tr.bn, List.getD, hs]

set_option maxHeartbeats 4000000 in
theorem treeNames_walk (r s : Tr) (A A2 : Option Addr) (n n2 c c2 : Nat) (w : World) (h : Holds w w.heap.size A n r) (h2 : Holds w w.heap.size A2 n2 s) (hn : n ≤ 140737488351232) (hn2 : n2 ≤ 140737488351232) (hl : r.Low) (hl2 : s.Low) (hc : n ≤ c) (hc2 : n2 ≤ c2) (hm : c ≤ maxLen) (hm2 : c2 ≤ maxLen) :
    Calls Try.prog 8 #[.slice A n c, .slice A2 n2 c2] w fun e w' => e = .returned (.bool true) ∧ Below w.heap.size w w' := by
  have hK := known_any w
  have hF := fun (W : World) (hW : Below w.heap.size w W) => few_any r A n c w.heap.size W (h.below hW) hW.size hn hl
  have hF2 := fun (W : World) (hW : Below w.heap.size w W) => few_any s A2 n2 c2 w.heap.size W (h2.below hW) hW.size hn2 hl2
  by_cases hr : r.count n 200 < 200
  · by_cases hs : s.count n2 200 < 200
    · rw [decide_eq_true hr] at hF
      rw [decide_eq_true hs] at hF2
      have hrz := few_yes h.len hr
      have hsz := few_yes h2.len hs
      have hM := fun (W : World) (hW : Below w.heap.size w W) => make_any r.size r A n c w.heap.size 10 2 W (Nat.le_refl _) (h.below hW) hW.size hc hm (by omega) (by omega) (by omega) (by omega) (by omega)
      have hM2 := fun (W : World) (hW : Below w.heap.size w W) => make_any s.size s A2 n2 c2 w.heap.size 10 2 W (Nat.le_refl _) (h2.below hW) hW.size hc2 hm2 (by omega) (by omega) (by omega) (by omega) (by omega)
      have hzt := makeT_size (10 : Int).toNat r (10 : Int).toNat (2 : Int).toNat .nil
      have hzu := makeT_size (10 : Int).toNat s (10 : Int).toNat (2 : Int).toNat .nil
      have hat := makeT_asc (10 : Int).toNat r (10 : Int).toNat (2 : Int).toNat .nil nil_asc
      have hau := makeT_asc (10 : Int).toNat s (10 : Int).toNat (2 : Int).toNat .nil nil_asc
      obtain ⟨t, ht⟩ : ∃ t, t = r.makeT (10 : Int).toNat (10 : Int).toNat (2 : Int).toNat .nil := ⟨_, rfl⟩
      obtain ⟨u, hu⟩ : ∃ u, u = s.makeT (10 : Int).toNat (10 : Int).toNat (2 : Int).toNat .nil := ⟨_, rfl⟩
      rw [← ht] at hM hzt hat
      rw [← hu] at hM2 hzu hau
      simp only [Tr.size] at hzt hzu
      have hz1 : t.size ≤ 200 := by omega
      have hz2 : u.size ≤ 200 := by omega
      have HF := Lib.hid hF
      have HF2 := Lib.hid hF2
      have HM := Lib.hid hM
      have HM2 := Lib.hid hM2
      clear hF hF2 hM hM2 ht hu hzt hzu hr hs hrz hsz h h2 hl hl2
      go_enter Try.func8, Try.ntmps8
      go_wp2_with fail
      refine hK.mono ?_
      rintro e w1 ⟨rfl, hb1⟩
      go_wp2_with fail
      refine (HF.out w1 hb1).mono ?_
      rintro e _ ⟨rfl, rfl⟩
      go_wp2_with fail
      refine (HF2.out w1 hb1).mono ?_
      rintro e _ ⟨rfl, rfl⟩
      go_wp2_with fail
      refine (HM.out w1 hb1).mono ?_
      rintro e w2 ⟨B, m, d, rfl, ht1, hmd, hd1, hb2⟩
      have hb2' := hb1.trans (hb2.mono hb1.size)
      go_wp2_with fail
      refine (HM2.out w2 hb2').mono ?_
      rintro e w3 ⟨B2, m2, d2, rfl, hu1, hmd2, hd2, hb3⟩
      have hb3' := hb2'.trans (hb3.mono hb2'.size)
      have ht2 := (ht1.below hb3).more hb3.size
      have hml : m = t.len := ht1.len
      have hml2 : m2 = u.len := hu1.len
      have hls := t.len_size
      have hls2 := u.len_size
      have hm200 : m ≤ 200 := by omega
      have hm2200 : m2 ≤ 200 := by omega
      obtain ⟨ns, hns, hn1, hn2', hn3, hin, hlt⟩ := names_body t u hat hau m m2 hml hml2
      have hN := names_any [⟨B, m, d, t⟩, ⟨B2, m2, d2, u⟩] (some ⟨w3.heap.size, 0, none⟩) 2 2 (w3.heap.size + 1) (w3.alloc (Obj.cells #[Value.slice B m d, Value.slice B2 m2 d2] 27)) (by
        intro j x hx
        refine ⟨_, _, rfl, by omega, ?_, ?_⟩
        · rw [cell_of_row _ _ _ _ _ _ (heap_alloc_new w3 _), Nat.zero_add]
          match j, hx with
          | 0, hx => cases hx; rfl
          | 1, hx => cases hx; rfl
          | j + 2, hx => simp at hx
        · match j, hx with
          | 0, hx => cases hx; exact (ht2.keep fun p hp => World.cell?_alloc_lt _ _ _ hp).more (by omega)
          | 1, hx => cases hx; exact (hu1.keep fun p hp => World.cell?_alloc_lt _ _ _ hp).more (by omega)
          | j + 2, hx => simp at hx) rfl (by simp) (by simp [allNames, names_length]; omega) (by simp)
      have e1 : namesOf (allNames [⟨B, m, d, t⟩, ⟨B2, m2, d2, u⟩]) = ns := by rw [hns]; simp [allNames]
      rw [e1] at hN
      obtain ⟨nn, hnn⟩ : ∃ nn, nn = ns.length := ⟨_, rfl⟩
      rw [← hnn] at hN hn1 hn2' hn3 hin hlt
      have HN := Lib.hid hN
      have Hin := Lib.hid hin
      have Hlt := Lib.hid hlt
      have Hnn := Lib.hid hnn
      have Hml := Lib.hid hml
      have Hml2 := Lib.hid hml2
      clear hN e1 hns hin hlt hnn hml hml2 hls hls2 ht1
      go_wp2_with fail
      refine HN.out.mono ?_
      rintro e w5 ⟨A', c', rfl, hsv, hb5⟩
      have hb5' : Below w3.heap.size w3 w5 := ((Below.refl _ w3).alloc (Nat.le_refl _) _).trans (hb5.mono (by simp))
      have hcs := hsv.all
      rw [← Hnn.out] at hcs
      have hnn4 : nn ≤ 400 := by omega
      have Hcs := Lib.hid hcs
      have ht5 := (ht2.below hb5').more hb5'.size
      have hu5 := (hu1.below hb5').more hb5'.size
      have hm200' : m ≤ 140737488351232 := by omega
      have hm2200' : m2 ≤ 140737488351232 := by omega
      have hK1 := Lib.hid (fun (W : World) (hW : Below w5.heap.size w5 W) (name : ByteArray) => kid_any t B m d w5.heap.size name W (ht5.below hW) hW.size hm200')
      have hK2 := Lib.hid (fun (W : World) (hW : Below w5.heap.size w5 W) (name : ByteArray) => kid_any u B2 m2 d2 w5.heap.size name W (hu5.below hW) hW.size hm2200')
      clear hsv hcs HN ht2 hu1 HF HF2 HM HM2
      go_wp2_with fail
      go_loopw [8] (fun i wr => ∃ k : Nat, k ≤ nn ∧ i = .int .i64 k ∧ Below w5.heap.size w5 wr) (fun i _ => nn - (intOf i).toNat)
      case atStart => exact ⟨0, Nat.zero_le _, rfl, Below.refl _ _⟩
      case round =>
        obtain ⟨k, hk, rfl, hbw⟩ := hrel
        by_cases hlt : k < nn
        · have hkn : (k : Int) < (nn : Int) := by omega
          have hk0 : (0 : Int) ≤ (k : Int) := by omega
          obtain ⟨b, o, rfl, hbl, hcell⟩ := Hcs.out.resolve_left (by omega)
          have hck := (hbw.cell (p := ⟨b, o + k, none⟩) hbl).trans (hcell k hlt)
          have hpq := Hin.out k hlt
          obtain ⟨nk, hnk⟩ : ∃ nk, nk = nm ns k := ⟨_, rfl⟩
          rw [← hnk] at hck hpq
          have h1 := fun (W : World) (hW : Below w5.heap.size w5 W) => hK1.out W hW nk
          have h2 := fun (W : World) (hW : Below w5.heap.size w5 W) => hK2.out W hW nk
          obtain ⟨pa, hpa⟩ : ∃ pa, pa = t.atIs nk := ⟨_, rfl⟩
          obtain ⟨pb, hpb⟩ : ∃ pb, pb = u.atIs nk := ⟨_, rfl⟩
          rw [← hpa] at h1 hpq
          rw [← hpb] at h2 hpq
          have H1 := Lib.hid h1
          have H2 := Lib.hid h2
          have Hpq := Lib.hid hpq
          have Hnk := Lib.hid hnk
          have Hcell := Lib.hid hcell
          have Hlt2 := Lib.hid hlt
          clear h1 h2 hpq hpa hpb hnk hcell hlt
          go_wp2_with fail
          refine (H1.out wr hbw).mono ?_
          rintro e _ ⟨⟨va, rfl⟩, q1, rfl⟩
          have hbw1 := below_drewN hbw q1
          go_wp2_with fail
          refine (H2.out _ hbw1).mono ?_
          rintro e _ ⟨⟨vb, rfl⟩, q2, rfl⟩
          have hbw2 := below_drewN hbw1 q2
          rw [World.drewN_drewN]
          rw [World.drewN_drewN] at hbw2
          have hk400 : k ≤ 400 := by omega
          rcases Nat.eq_zero_or_pos k with h0 | h0
          · have hg : ¬ ((0 : Int) < (k : Int)) := by omega
            have hg2 : ¬ (0 < k) := by omega
            cases pa <;> cases pb
            · exact absurd Hpq.out (by simp)
            all_goals
              go_wp2_with fail
              go_quiet (fail)
              go_wp2_with fail
              go_roundw
              case rel => exact ⟨k + 1, by have := Hlt2.out; omega, by go_num, below_drewN hbw _⟩
              case measure => simp [intOf]; omega
          · obtain ⟨j, hj⟩ : ∃ j, k = j + 1 := ⟨k - 1, by omega⟩
            have hg : (0 : Int) < (k : Int) := by omega
            have hj1 : (k : Int) - 1 = (j : Int) := by omega
            have hj0 : (0 : Int) ≤ (j : Int) := by omega
            have hjn : (j : Int) < (nn : Int) := by omega
            have hj400 : j ≤ 400 := by omega
            have hcj := (hbw.cell (p := ⟨b, o + j, none⟩) hbl).trans (Hcell.out j (by omega))
            have hless := Hlt.out j (by rw [← hj]; exact Hlt2.out)
            rw [← hj, ← Hnk.out] at hless
            obtain ⟨nj, hnj⟩ : ∃ nj, nj = nm ns j := ⟨_, rfl⟩
            rw [← hnj] at hless hcj
            clear hnj hj
            cases pa <;> cases pb
            · exact absurd Hpq.out (by simp)
            all_goals
              go_wp2_with fail
              go_quiet (fail)
              go_wp2_with fail
              go_roundw
              case rel => exact ⟨k + 1, by have := Hlt2.out; omega, by go_num, below_drewN hbw _⟩
              case measure => simp [intOf]; omega
        · obtain rfl : k = nn := by omega
          have hkk : ¬ ((k : Int) < (k : Int)) := by omega
          clear hlt
          have hA := hat
          have hN1 := fun (W : World) (hW : Below w5.heap.size w5 W) => names_any [⟨B, m, d, t⟩] (some ⟨W.heap.size, 0, none⟩) 1 1 (W.heap.size + 1) (W.alloc (Obj.cells #[Value.slice B m d] 27)) (by
            intro j x hx
            refine ⟨_, _, rfl, by omega, ?_, ?_⟩
            · rw [cell_of_row _ _ _ _ _ _ (heap_alloc_new W _), Nat.zero_add]
              match j, hx with
              | 0, hx => cases hx; rfl
              | j + 1, hx => simp at hx
            · match j, hx with
              | 0, hx => cases hx; exact (((ht5.below hW).more hW.size).keep fun p hp => World.cell?_alloc_lt _ _ _ hp).more (by omega)
              | j + 1, hx => simp at hx) rfl (by simp) (by simp [allNames, names_length]; have := Hml.out; omega) (by simp)
          obtain ⟨hlen1, hown⟩ := names_own hA
          have e1 : allNames [⟨B, m, d, t⟩] = t.names := by simp [allNames]
          obtain ⟨ms, hms⟩ : ∃ ms, ms = namesOf t.names := ⟨_, rfl⟩
          rw [e1, ← hms] at hN1
          rw [← hms, ← Hml.out] at hlen1
          rw [← hms] at hown
          rw [hlen1] at hN1
          have HN1 := Lib.hid hN1
          have Hown := Lib.hid hown
          have Hlen1 := Lib.hid hlen1
          clear hN1 hown hlen1 e1 hms hA hat hau
          have hmm : ((m : Int) != (m : Int)) = false := by simp
          have hmm2 : ((m : Int) == (m : Int)) = true := by simp
          go_wp2_with fail
          refine (HN1.out wr hbw).mono ?_
          rintro e w6 ⟨A6, c6, rfl, hsv6, hb6⟩
          have hb6' : Below w5.heap.size w5 w6 := (hbw.alloc hbw.size _).trans (hb6.mono (by have := hbw.size; simp; omega))
          have hcs6 := hsv6.all
          rw [Hlen1.out] at hcs6
          have Hcs6 := Lib.hid hcs6
          have ht6 := (ht5.below hb6').more hb6'.size
          clear hsv6 hcs6
          go_wp2_with fail
          go_loopw [14] (fun i wl => ∃ j : Nat, j ≤ m ∧ i = .int .i64 j ∧ Below w6.heap.size w6 wl) (fun i _ => m - (intOf i).toNat)
          case atStart => exact ⟨0, Nat.zero_le _, rfl, Below.refl _ _⟩
          case round =>
            obtain ⟨j, hj, rfl, hbl⟩ := hrel
            by_cases hjlt : j < m
            · have hjn : (j : Int) < (m : Int) := by omega
              have hj0 : (0 : Int) ≤ (j : Int) := by omega
              obtain ⟨b, o, rfl, hb', hcell⟩ := Hcs6.out.resolve_left (by omega)
              obtain ⟨b2, o2, s2, kt, r2, A', n', c', rfl, hb2, hs2, hc2, hn', hc', hk', hr, hd, hd2⟩ := (ht6.below hbl).split j hjlt
              have hnm : nm ms j = s2 := by
                refine Hown.out j s2 ?_
                have h1 := names_drop t j
                rw [hd] at h1
                have := congrArg (·[0]?) h1
                simp [Tr.names] at this
                exact this.symm
              have hcj := (hbl.cell (p := ⟨b, o + j, none⟩) hb').trans (hcell j hjlt)
              rw [hnm] at hcj
              have Hj := Lib.hid hjlt
              clear hd hd2 hnm hcell hjlt
              go_wp2_with fail
              go_quiet (fail)
              go_wp2_with fail
              go_roundw
              case rel => exact ⟨j + 1, by have := Hj.out; omega, by go_num, below_drewN hbl _⟩
              case measure => simp [intOf]; omega
            · obtain rfl : j = m := by omega
              clear hjlt
              have hz0 : (namesOf (allNames [])).length = 0 := by
                have := namesOf_le (allNames [])
                simpa [allNames] using this
              have HN0 := Lib.hid (names_any [] none 0 0 wr.heap.size wr (by intro j x hx; simp at hx) rfl (Nat.le_refl _) (by simp [allNames]) (by simp))
              rw [hz0] at HN0
              clear hz0
              have hb5'' := hb3'.trans (hb5'.mono hb3'.size)
              have hb6'' := hb5''.trans (hb6'.mono hb5''.size)
              have hbl'' := hb6''.trans (hbl.mono hb6''.size)
              go_wp2_with fail
              refine HN0.out.mono ?_
              rintro e w7 ⟨A7, c7, rfl, _, hb7⟩
              go_wp2_with fail
              go_ret
              exact ⟨rfl, hbl''.trans (hb7.mono hbl''.size)⟩
    · rw [decide_eq_true hr] at hF
      rw [decide_eq_false hs] at hF2
      have HF := Lib.hid hF
      have HF2 := Lib.hid hF2
      clear hF hF2 hr hs
      go_enter Try.func8, Try.ntmps8
      go_wp2_with fail
      refine hK.mono ?_
      rintro e w1 ⟨rfl, hb1⟩
      go_wp2_with fail
      refine (HF.out w1 hb1).mono ?_
      rintro e _ ⟨rfl, rfl⟩
      go_wp2_with fail
      refine (HF2.out w1 hb1).mono ?_
      rintro e _ ⟨rfl, rfl⟩
      go_wp2_with fail
      go_ret
      exact ⟨rfl, hb1⟩
  · rw [decide_eq_false hr] at hF
    have HF := Lib.hid hF
    clear hF hF2 hr
    go_enter Try.func8, Try.ntmps8
    go_wp2_with fail
    refine hK.mono ?_
    rintro e w1 ⟨rfl, hb1⟩
    go_wp2_with fail
    refine (HF.out w1 hb1).mono ?_
    rintro e _ ⟨rfl, rfl⟩
    go_wp2_with fail
    go_ret
    exact ⟨rfl, hb1⟩
end Go.Proofs.Ytmeibcbfjgikhaa
