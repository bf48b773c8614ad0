/- ini: the tree of a file that was read fits, and put back into that file makes just it; plain mathematics. No conditions. · ini: remarks stay as they are and in their order, whatever is put; plain mathematics. Conditions: as the round trip's. · ini: what Fits and Put answer, as plain mathematics, and what the chapter's laws want of it. No conditions. · ini.Fits: which trees fit. Conditions: the tree's size, its names' sizes. · ini.keyLines, isOf, isBy. Conditions: fewer than 100000 keys, each with its value. -/
import Derived.Test.YtapgaglkkgbgkaaGreatDoorMwInBack
import Derived.Test.YtapgaglkkgbgkaaGreatDoorMwCvGrow
import Derived.Test.YtapgaglkkgbgkaaGreatDoorMwWords
import Derived.Outline
import Derived.Test.YtapgaglkkgbgkaaGreatDoorMwInTb
import Derived.Test.YtapgaglkkgbgkaaGreatDoorMwInOne
import Derived.Deep.RegionHeld3
namespace Go.Proofs.YtapgaglkkgbgkaaGreatDoor.In
open Go.RowKit Go.Sort Go.Proofs.YtapgaglkkgbgkaaGreatDoor.Jd Go.Proofs.YtapgaglkkgbgkaaGreatDoor.Cl Go.Proofs.YtapgaglkkgbgkaaGreatDoor.Li Go.Proofs.YtapgaglkkgbgkaaGreatDoor.Cv Go.Proofs.YtapgaglkkgbgkaaGreatDoor.Pt
set_option maxRecDepth 100000

theorem asc_keys {ks : List (Bs × Bs)} (hn : (ks.map (·.1)).Nodup) : (srtE (keysK ks)).Asc := by
  refine srt_asc ?_
  rw [eds_bn, eds_keys, List.map_map]
  have : ((fun e : ByteArray × Tr => e.1.data.toList) ∘ fun e : Bs × Bs => (mk e.1, Tr.cons (mk e.2) .nil .nil)) = fun e => e.1 := by
    funext e
    exact mk_list e.1
  rw [this]
  exact hn
theorem mem_keys {ks : List (Bs × Bs)} {q : ByteArray} {k : Tr} : (q, k) ∈ eds (srtE (keysK ks)) ↔ ∃ e ∈ ks, mk e.1 = q ∧ Tr.cons (mk e.2) .nil .nil = k := by
  rw [(srt_perm _).mem_iff, eds_keys, List.mem_map]
  constructor
  · rintro ⟨e, he, h⟩
    injection h with h1 h2
    exact ⟨e, he, h1, h2⟩
  · rintro ⟨e, he, h1, h2⟩
    exact ⟨e, he, by rw [h1, h2]⟩
theorem asc_secs {S : Sa} (hn : (S.map (·.1)).Nodup) : (srtE (secsS S)).Asc := by
  refine srt_asc ?_
  rw [eds_bn, eds_secs, List.map_map]
  have : ((fun e : ByteArray × Tr => e.1.data.toList) ∘ fun e : Bs × List (Bs × Bs) => (mk e.1, srtE (keysK e.2))) = fun e => e.1 := by
    funext e
    exact mk_list e.1
  rw [this]
  exact hn
theorem mem_secs {S : Sa} {q : ByteArray} {k : Tr} : (q, k) ∈ eds (srtE (secsS S)) ↔ ∃ e ∈ S, mk e.1 = q ∧ srtE (keysK e.2) = k := by
  rw [(srt_perm _).mem_iff, eds_secs, List.mem_map]
  constructor
  · rintro ⟨e, he, h⟩
    injection h with h1 h2
    exact ⟨e, he, h1, h2⟩
  · rintro ⟨e, he, h1, h2⟩
    exact ⟨e, he, by rw [h1, h2]⟩
theorem key_ok {r : Ro} (h : RowOk r) (hk : r.kind = 3) : kB r.name = true ∧ vB r.val = true := by
  obtain ⟨_, x, rfl, _, _⟩ := h
  obtain ⟨_, _, _, _, _, _, _, _, h5, h6, _⟩ := key_parts hk
  exact ⟨h5, h6⟩
theorem fits_keys {rows : List Ro} (hok : ∀ r ∈ rows, RowOk r) : allT fkB (srtE (keysK (absR rows))) = true := by
  refine allT_of ?_
  rintro ⟨q, k⟩ he
  obtain ⟨⟨n, v⟩, hm, rfl, rfl⟩ := mem_keys.1 he
  obtain ⟨r, hr, k3, rfl, rfl⟩ := mem_absR.1 hm
  obtain ⟨h1, h2⟩ := key_ok (hok r hr) k3
  dsimp only [fkB]
  rw [mk_list, mk_list, h1, h2]
  rfl
theorem pt_name {p : Pt} (h : PtOk p) : sB p.name = true := by
  obtain ⟨⟨h, rs, e3, k2, e4, _⟩, _, hok⟩ := h
  obtain ⟨_, x, e5, _⟩ := hok h (by rw [e3]; simp)
  rw [← e4, e5]
  exact sec_name (by rw [← e5]; exact k2)
theorem tree_eq (ps : List Pt) : treeI ps = srtE (secsS (absP ps.tail)) := by rw [treeI, secs_abs]
theorem fits_parts {ps : List Pt} (h : Shape ps) : (treeI ps).Asc ∧ allT fsB (treeI ps) = true := by
  obtain ⟨p0, tl, rfl, h0, h1, h2, h3⟩ := h
  rw [tree_eq]
  constructor
  · refine asc_secs ?_
    show ((absP tl).map (·.1)).Nodup
    rw [absP, List.map_map]
    exact h3
  · refine allT_of ?_
    rintro ⟨q, k⟩ he
    obtain ⟨e, hm, rfl, rfl⟩ := mem_secs.1 he
    obtain ⟨p, hp, rfl⟩ := List.mem_map.1 hm
    dsimp only [fsB]
    rw [mk_list, pt_name (h2 p hp), fits_keys (h2 p hp).2.2]
    rfl
theorem kid_part {ps : List Pt} {p0 : Pt} {tl : List Pt} (h : Shape ps) (e : ps = p0 :: tl) {p : Pt} (hp : p ∈ tl) : (treeI ps).atIs (mk p.name) = true ∧ kidT (treeI ps) (mk p.name) = srtE (keysK (absR p.rows)) := by
  refine (mem_eds (fits_parts h).1 _ _).1 ?_
  subst e
  rw [tree_eq]
  exact mem_secs.2 ⟨(p.name, absR p.rows), List.mem_map.2 ⟨p, hp, rfl⟩, rfl, rfl⟩
theorem rows_same {rows : List Ro} (hd : ((absR rows).map (·.1)).Nodup) (hok : ∀ r ∈ rows, RowOk r) (E : Bs) : putK (srtE (keysK (absR rows))) true E rows = rows.map (·.ln) := by
  have hp : ∀ r ∈ rows, putRow (srtE (keysK (absR rows))) true r = some r.ln := by
    intro r hr
    have hk := (hok r hr).1
    have hk3 : r.kind ≤ 3 := by
      obtain ⟨_, x, rfl, _⟩ := hok r hr
      exact (row_kind x).1
    unfold putRow
    by_cases h1 : r.kind = 1
    · rw [if_pos h1]
    · rw [if_neg h1]
      by_cases h2 : r.kind = 2
      · rw [if_pos h2, if_pos rfl]
      · rw [if_neg h2]
        have h3 : r.kind = 3 := by omega
        obtain ⟨a, b⟩ := (mem_eds (asc_keys hd) (mk r.name) (.cons (mk r.val) .nil .nil)).1 (mem_keys.2 ⟨(r.name, r.val), mem_absR.2 ⟨r, hr, h3, rfl, rfl⟩, rfl, rfl⟩)
        have e : getT (srtE (keysK (absR rows))) [⟨r.name.toArray⟩] = (.cons (mk r.val) .nil .nil, true) := by
          show getT _ [mk r.name] = _
          rw [getT_one, if_pos a, b]
        rw [e, if_pos rfl]
        dsimp only [oneN]
        rw [mk_list, key_same (hok r hr) h3]
  have hf : freshK (srtE (keysK (absR rows))) rows = [] := by
    rw [freshK, List.filter_eq_nil_iff]
    rintro ⟨q, k⟩ he
    obtain ⟨⟨n, v⟩, hm, rfl, rfl⟩ := mem_keys.1 he
    obtain ⟨r, hr, k3, rfl, rfl⟩ := mem_absR.1 hm
    dsimp only
    rw [mk_list]
    have : (rows.any fun x => x.kind == 3 && r.name == x.name) = true := List.any_eq_true.2 ⟨r, hr, by rw [k3]; simp⟩
    rw [this]
    decide
  obtain ⟨m, hfo, _⟩ := fold_put (srtE (keysK (absR rows))) true rows [] 0
  rw [putK, hfo, hf, List.map_nil, List.append_nil, List.nil_append]
  dsimp only
  rw [List.take_append_drop]
  have key : ∀ l : List Ro, (∀ r ∈ l, putRow (srtE (keysK (absR rows))) true r = some r.ln) → l.filterMap (putRow (srtE (keysK (absR rows))) true) = l.map (·.ln) := by
    intro l
    induction l with
    | nil => intro _; rfl
    | cons r l ih =>
      intro h
      rw [List.filterMap_cons, h r (by simp), List.map_cons]
      dsimp only
      rw [ih fun x hx => h x (by simp [hx])]
  exact key rows hp
theorem read_fits {l : Bs} (h : (readI l).2.2 = 0) : readI l = (treeI (partsI [⟨[], []⟩] 0 (split l)).1, 0, 0) ∧ (partsI [⟨[], []⟩] 0 (split l)).2.2 = 0 ∧ (treeI (partsI [⟨[], []⟩] 0 (split l)).1).fault = 0 ∧ allT fsB (treeI (partsI [⟨[], []⟩] 0 (split l)).1) = true ∧ l.length ≤ 4000 := by
  unfold readI at h ⊢
  by_cases h1 : 4000 < l.length
  · rw [if_pos h1] at h; cases h
  · rw [if_neg h1] at h ⊢
    by_cases h2 : (partsI [⟨[], []⟩] 0 (split l)).2.2 ≠ 0
    · rw [if_pos h2] at h; exact absurd h h2
    · rw [if_neg h2] at h ⊢
      have h2 := Classical.not_not.1 h2
      by_cases h3 : (treeI (partsI [⟨[], []⟩] 0 (split l)).1).fault ≠ 0
      · rw [if_pos h3] at h; exact absurd (by simpa using h) h3
      · rw [if_neg h3]
        exact ⟨rfl, h2, Classical.not_not.1 h3, (fits_parts (shape_split h2)).2, by omega⟩
end Go.Proofs.YtapgaglkkgbgkaaGreatDoor.In
namespace Go.Proofs.YtapgaglkkgbgkaaGreatDoor.In
open Go.RowKit Go.Sort Go.Proofs.YtapgaglkkgbgkaaGreatDoor.Jd Go.Proofs.YtapgaglkkgbgkaaGreatDoor.Cl Go.Proofs.YtapgaglkkgbgkaaGreatDoor.Li Go.Proofs.YtapgaglkkgbgkaaGreatDoor.Cv Go.Proofs.YtapgaglkkgbgkaaGreatDoor.Pt
set_option maxRecDepth 100000

end Go.Proofs.YtapgaglkkgbgkaaGreatDoor.In
namespace Go.Proofs.YtapgaglkkgbgkaaGreatDoor.In
open Go.RowKit Go.Sort Go.Proofs.YtapgaglkkgbgkaaGreatDoor.Jd Go.Proofs.YtapgaglkkgbgkaaGreatDoor.Cl Go.Proofs.YtapgaglkkgbgkaaGreatDoor.Li Go.Proofs.YtapgaglkkgbgkaaGreatDoor.Cv Go.Proofs.YtapgaglkkgbgkaaGreatDoor.Pt
set_option maxRecDepth 100000

def fitsM (t : Tr) : Int := if t.fault ≠ 0 then (t.fault : Nat) else if allT fsB t = true then 0 else 13
def putM (t : Tr) (l : Bs) : Bs × Int :=
  if (readI l).2.2 ≠ 0 then ([], (readI l).2.2) else
  if fitsM t ≠ 0 then ([], fitsM t) else
  if 4000 < (putF t l).length then ([], 5) else (putF t l, 0)
theorem fits_zero {t : Tr} (h : fitsM t = 0) : t.fault = 0 ∧ allT fsB t = true ∧ AscD t := by
  unfold fitsM at h
  by_cases h1 : t.fault ≠ 0
  · rw [if_pos h1] at h; omega
  · rw [if_neg h1] at h
    have h1 := Classical.not_not.1 h1
    by_cases h2 : allT fsB t = true
    · exact ⟨h1, h2, (fault_asc h1).1⟩
    · rw [if_neg h2] at h; cases h
def vals : List Bs := [[32, 97], [97, 32], [97, 10, 98], [13], [91, 97, 93], [], [97, 61, 98, 59, 99]]
end Go.Proofs.YtapgaglkkgbgkaaGreatDoor.In
namespace Go.Proofs.YtapgaglkkgbgkaaGreatDoor.In
open Go.RowKit Go.Proofs.YtapgaglkkgbgkaaGreatDoor.Jd Go.Proofs.YtapgaglkkgbgkaaGreatDoor.Li Go.Proofs.YtapgaglkkgbgkaaGreatDoor.Cl Go.Proofs.YtapgaglkkgbgkaaGreatDoor.Cv
set_option maxRecDepth 100000

def N80 : Tr → Prop
  | .nil => True
  | .cons s k r => s.size ≤ 80 ∧ N80 k ∧ N80 r
theorem n80_drop : ∀ (t : Tr) (k : Nat), N80 t → N80 (t.dropT k)
  | t, 0, h => by rw [dropT_zero]; exact h
  | .nil, _ + 1, _ => trivial
  | .cons _ _ r, k + 1, h => n80_drop r k h.2.2
theorem walk_n80 : ∀ (t : Tr) (d n : Nat) (p : Option ByteArray), (walkC d t p n).2 = 0 → N80 t
  | .nil, _, _, _, _ => trivial
  | .cons s k r, d, n, p, h => by
    rw [walkC] at h
    by_cases c1 : 400 < n + 1
    · rw [if_pos c1] at h; cases h
    rw [if_neg c1] at h
    by_cases c2 : 12 < d
    · rw [if_pos c2] at h; cases h
    rw [if_neg c2] at h
    by_cases c3 : 80 < s.size
    · rw [if_pos c3] at h; cases h
    rw [if_neg c3] at h
    by_cases c4 : notAfter p s = true
    · rw [if_pos c4] at h; cases h
    rw [if_neg c4] at h
    by_cases c5 : (walkC (d + 1) k none (n + 1)).2 = 0
    · rw [if_pos c5] at h
      exact ⟨by omega, walk_n80 k _ _ _ c5, walk_n80 r _ _ _ h⟩
    · rw [if_neg c5] at h; exact absurd h c5
theorem fault_n80 {t : Tr} (h : t.fault = 0) : N80 t := walk_n80 t 1 0 none h
theorem fkB_no {s : ByteArray} {k : Tr} (h : In.kB s.data.toList = false) : fkB s k = false := by unfold fkB; rw [h]; rfl
theorem fkB_len {s : ByteArray} {k : Tr} (h : ¬ k.len = 1) : fkB s k = false := by
  unfold fkB
  match k, h with
  | .nil, _ => exact Bool.and_false _
  | .cons _ .nil .nil, h => exact absurd rfl h
  | .cons _ (.cons _ _ _) .nil, h => exact absurd rfl h
  | .cons _ .nil (.cons _ _ _), _ => exact Bool.and_false _
  | .cons _ (.cons _ _ _) (.cons _ _ _), _ => exact Bool.and_false _
theorem fkB_one {s s2 : ByteArray} {k2 : Tr} (h : In.kB s.data.toList = true) : fkB s (.cons s2 k2 .nil) = (In.vB s2.data.toList && decide (k2.len = 0)) := by
  unfold fkB
  rw [h]
  cases k2 with
  | nil => simp [Tr.len]
  | cons _ _ _ => simp [Tr.len]
abbrev eb (w : World) (s : ByteArray) (A : Option Addr) (n c : Nat) : World := w.alloc (Obj.cells #[.string s, .slice A n c] 56)
theorem eb_ok (w : World) (s : ByteArray) (A : Option Addr) (n c : Nat) : Below w.heap.size w (eb w s A n c) ∧ ∀ W, Below (eb w s A n c).heap.size (eb w s A n c) W → W.cell? ⟨w.heap.size, 0, none⟩ = some (.string s) ∧ W.cell? ⟨w.heap.size, 1, none⟩ = some (.slice A n c) := by
  have hg : (eb w s A n c).heap[w.heap.size]? = some (Obj.cells #[.string s, .slice A n c] 56) := heap_alloc_new w _
  have hl := (Array.getElem?_eq_some_iff.1 hg).1
  exact ⟨(Below.refl _ _).alloc (Nat.le_refl _) _, fun W hW => ⟨(hW.cell (p := ⟨w.heap.size, 0, none⟩) hl).trans (by rw [cell_of_row _ _ _ _ _ _ hg]; rfl), (hW.cell (p := ⟨w.heap.size, 1, none⟩) hl).trans (by rw [cell_of_row _ _ _ _ _ _ hg]; rfl)⟩⟩

theorem dropT_size : ∀ (t : Tr) (k : Nat), (t.dropT k).size ≤ t.size
  | t, 0 => by rw [dropT_zero]; exact Nat.le_refl _
  | .nil, _ + 1 => Nat.le_refl _
  | .cons _ _ r, k + 1 => by have := dropT_size r k; simp only [Tr.dropT, Tr.size]; omega
set_option maxHeartbeats 4000000 in
theorem fkey_any (s : ByteArray) (k : Tr) (A : Option Addr) (n c : Nat) (w : World) (h : Holds w w.heap.size A n k) (hs : s.size ≤ 80) (hk : N80 k) : Calls Tryz.prog 58 #[.agg #[.string s, .slice A n c]] w fun e w' => e = .returned (.bool (fkB s k)) ∧ Below w.heap.size w w' := by
  obtain ⟨W1, hW1⟩ : ∃ W, W = eb w s A n c := ⟨_, rfl⟩
  obtain ⟨hb1, hk1⟩ := eb_ok w s A n c
  rw [← hW1] at hb1 hk1
  unfold eb at hW1
  have HK := Lib.hid hk1
  have HB1 := Lib.hid hb1
  have HC := Lib.hid (fun W => key_any s W (by omega))
  obtain ⟨v, hv⟩ : ∃ v, v = In.kB s.data.toList := ⟨_, rfl⟩
  rw [← hv] at HC
  have Hv := Lib.hid hv
  have Hn := Lib.hid h.len
  have HH := Lib.hid h
  have Hk := Lib.hid hk
  clear hv hb1 hk1 h hk
  go_enter Tryz.func58, Tryz.ntmps58
  go_upto_region 1 with (fail)
  rw [← hW1]
  clear hW1
  obtain ⟨l0, l1⟩ := HK.out W1 (Below.refl _ _)
  cases v with
  | false =>
    have HV : Hid (fkB s k = false) := Lib.hid (fkB_no Hv.out.symm)
    go_wp2_with (go_at_call 79; (with_reducible refine (HC.out _).mono ?_); rintro e w1 ⟨rfl, hb1⟩)
    go_ret
    exact ⟨by rw [HV.out]; rfl, HB1.out.trans (hb1.mono HB1.out.size)⟩
  | true =>
    by_cases h1 : n = 1
    · subst h1
      obtain ⟨b, q, s2, k2, r2, A2, n2, c2, rfl, hbl, hs2, hc2, hn2, hm2, hk2, hr2, hd, hd2⟩ := HH.out.split 0 (by omega)
      rw [dropT_zero] at hd
      have hr0 : r2 = .nil := by
        have := hr2.len
        cases r2 with
        | nil => rfl
        | cons _ _ _ => simp only [Tr.len] at this; omega
      subst hr0
      have hpk := Hk.out
      rw [hd] at hpk
      rw [Nat.zero_mul, Nat.add_zero] at hs2 hc2
      have hlk := hk2.len
      have HD := Lib.hid (fun W => value_any s2 W (by have := hpk.1; omega))
      have HV : Hid (fkB s k = (In.vB s2.data.toList && decide (n2 = 0))) := Lib.hid (by rw [hd, hlk]; exact fkB_one Hv.out.symm)
      obtain ⟨u, hu⟩ : ∃ u, u = In.vB s2.data.toList := ⟨_, rfl⟩
      rw [← hu] at HD HV
      have HL := Lib.hid (fun (W : World) (hW : Below W1.heap.size W1 W) => (⟨(hW.cell (p := ⟨b, q, none⟩) (Nat.lt_of_lt_of_le hbl HB1.out.size)).trans ((HB1.out.cell (p := ⟨b, q, none⟩) hbl).trans hs2), (hW.cell (p := ⟨b, q + 1, none⟩) (Nat.lt_of_lt_of_le hbl HB1.out.size)).trans ((HB1.out.cell (p := ⟨b, q + 1, none⟩) hbl).trans hc2)⟩ : W.cell? ⟨b, q, none⟩ = some (.string s2) ∧ W.cell? ⟨b, q + 1, none⟩ = some (.slice A2 n2 c2)))
      clear hu hpk hd hd2 hr2 hk2 hn2 hm2 hs2 hc2 hlk l0 l1
      obtain ⟨l0, l1⟩ := HK.out W1 (Below.refl _ _)
      cases u with
      | false =>
        go_wp2_with (first
          | (go_at_call 79; (with_reducible refine (HC.out _).mono ?_); rintro e w1 ⟨rfl, hb1⟩; obtain ⟨m0, m1⟩ := HK.out w1 hb1; obtain ⟨m2, m3⟩ := HL.out w1 hb1)
          | (go_at_call 77; (with_reducible refine (HD.out _).mono ?_); rintro e w2 ⟨rfl, hb2⟩; have hb12 := hb1.trans (hb2.mono hb1.size)))
        go_ret
        exact ⟨by rw [HV.out]; rfl, HB1.out.trans (hb12.mono HB1.out.size)⟩
      | true =>
        by_cases h0 : n2 = 0
        · subst h0
          go_wp2_with (first
            | (go_at_call 79; (with_reducible refine (HC.out _).mono ?_); rintro e w1 ⟨rfl, hb1⟩; obtain ⟨m0, m1⟩ := HK.out w1 hb1; obtain ⟨m2, m3⟩ := HL.out w1 hb1)
            | (go_at_call 77; (with_reducible refine (HD.out _).mono ?_); rintro e w2 ⟨rfl, hb2⟩; have hb12 := hb1.trans (hb2.mono hb1.size); obtain ⟨m4, m5⟩ := HK.out w2 hb12; obtain ⟨m6, m7⟩ := HL.out w2 hb12))
          go_ret
          exact ⟨by rw [HV.out]; rfl, HB1.out.trans (hb12.mono HB1.out.size)⟩
        · have h0' : ((n2 : Int) == 0) = false := by rw [beq_eq_false_iff_ne]; omega
          have HV2 : Hid (fkB s k = false) := Lib.hid (by rw [HV.out, decide_eq_false h0]; rfl)
          clear h0
          go_wp2_with (first
            | (go_at_call 79; (with_reducible refine (HC.out _).mono ?_); rintro e w1 ⟨rfl, hb1⟩; obtain ⟨m0, m1⟩ := HK.out w1 hb1; obtain ⟨m2, m3⟩ := HL.out w1 hb1)
            | (go_at_call 77; (with_reducible refine (HD.out _).mono ?_); rintro e w2 ⟨rfl, hb2⟩; have hb12 := hb1.trans (hb2.mono hb1.size); obtain ⟨m4, m5⟩ := HK.out w2 hb12; obtain ⟨m6, m7⟩ := HL.out w2 hb12))
          go_ret
          exact ⟨by rw [HV2.out]; rfl, HB1.out.trans (hb12.mono HB1.out.size)⟩
    · have h1' : ((n : Int) == 1) = false := by rw [beq_eq_false_iff_ne]; omega
      have HV : Hid (fkB s k = false) := Lib.hid (fkB_len (by rw [← Hn.out]; exact h1))
      clear h1
      go_wp2_with (go_at_call 79; (with_reducible refine (HC.out _).mono ?_); rintro e w1 ⟨rfl, hb1⟩; obtain ⟨m0, m1⟩ := HK.out w1 hb1)
      go_ret
      exact ⟨by rw [HV.out]; rfl, HB1.out.trans (hb1.mono HB1.out.size)⟩
set_option maxHeartbeats 4000000 in
theorem fsec_any (s : ByteArray) (k : Tr) (A : Option Addr) (n c : Nat) (w : World) (h : Holds w w.heap.size A n k) (hn : n ≤ 100000000000) (hs : s.size ≤ 80) (hk : N80 k) : Calls Tryz.prog 36 #[.agg #[.string s, .slice A n c]] w fun e w' => e = .returned (.bool (fsB s k)) ∧ Below w.heap.size w w' := by
  obtain ⟨W1, hW1⟩ : ∃ W, W = eb w s A n c := ⟨_, rfl⟩
  obtain ⟨hb1, hk1⟩ := eb_ok w s A n c
  rw [← hW1] at hb1 hk1
  unfold eb at hW1
  have HK := Lib.hid hk1
  have HB1 := Lib.hid hb1
  have HC := Lib.hid (fun W => section_any s W (by omega))
  obtain ⟨v, hv⟩ : ∃ v, v = sB s.data.toList := ⟨_, rfl⟩
  rw [← hv] at HC
  have Hv := Lib.hid hv
  have Hn := Lib.hid h.len
  have HH1 := Lib.hid ((h.below hb1).more hb1.size)
  have Hk := Lib.hid hk
  clear hv hb1 hk1 h hk
  go_enter Tryz.func36, Tryz.ntmps36
  go_upto_region 1 with (fail)
  rw [← hW1]
  clear hW1
  obtain ⟨l0, l1⟩ := HK.out W1 (Below.refl _ _)
  cases v with
  | false =>
    have HV : Hid (fsB s k = false) := Lib.hid (by unfold fsB; rw [← Hv.out]; rfl)
    go_wp2_with (go_at_call 57; (with_reducible refine (HC.out _).mono ?_); rintro e w1 ⟨rfl, hb1⟩)
    go_ret
    exact ⟨by rw [HV.out]; rfl, HB1.out.trans (hb1.mono HB1.out.size)⟩
  | true =>
    have HV : Hid (fsB s k = allT fkB k) := Lib.hid (by unfold fsB; rw [← Hv.out]; rfl)
    go_wp2_with (go_at_call 57; (with_reducible refine (HC.out _).mono ?_); rintro e w1 ⟨rfl, hb1⟩; obtain ⟨m0, m1⟩ := HK.out w1 hb1)
    have HB0 := Lib.hid (HB1.out.trans (hb1.mono HB1.out.size))
    have HH := Lib.hid ((HH1.out.below hb1).more hb1.size)
    clear hb1 l0 l1 m0 m1
    go_loopw [12] (fun i wr => ∃ (j : Nat), j ≤ n ∧ i = .int .i64 j ∧ Hid (Below w1.heap.size w1 wr) ∧ Hid (allT fkB (k.dropT j) = allT fkB k)) (fun i _ => n - (intOf i).toNat)
    case atStart => exact ⟨0, Nat.zero_le _, rfl, Lib.hid (Below.refl _ _), Lib.hid (by rw [dropT_zero])⟩
    case round =>
      obtain ⟨j, hj, rfl, HW, HA⟩ := hrel
      by_cases hlt : j < n
      · obtain ⟨b, q, s1, kt, r, A', n', c', rfl, hbl, hs1, hc1, hn', hm', hk', hr', hd, hd2⟩ := (HH.out.below HW.out).split j hlt
        have hpk := n80_drop k j Hk.out
        rw [hd] at hpk
        have hkn : (j : Int) < (n : Int) := by omega
        have hk0 : (0 : Int) ≤ (j : Int) := by omega
        have hb1 : Below wr.heap.size wr (wr.alloc (Obj.cells #[.string s1, .slice A' n' c'] 56)) := (Below.refl _ _).alloc (Nat.le_refl _) _
        have hg1 := heap_alloc_new wr (Obj.cells #[.string s1, .slice A' n' c'] 56)
        have HF := Lib.hid (fkey_any s1 kt A' n' c' (wr.alloc (Obj.cells #[.string s1, .slice A' n' c'] 56)) (((hk'.more HW.out.size).below hb1).more hb1.size) hpk.1 hpk.2.1)
        obtain ⟨u, hu⟩ : ∃ u, u = fkB s1 kt := ⟨_, rfl⟩
        rw [← hu] at HF
        have HA2 : Hid (allT fkB k = (u && allT fkB (k.dropT (j + 1)))) := Lib.hid (by rw [← HA.out, hd, hd2, hu]; rfl)
        have Hlt := Lib.hid hlt
        have HW1 := Lib.hid (HW.out.trans (hb1.mono HW.out.size))
        clear hu hpk hd hd2 hk' hr' hn' hm' hlt HA hb1
        cases u with
        | true =>
          go_wp2_with fail
          (with_reducible refine HF.out.mono ?_)
          rintro e w2 ⟨rfl, hb2⟩
          have HW2 := Lib.hid (HW1.out.trans (hb2.mono HW1.out.size))
          clear hb2
          go_wp2_with fail
          go_roundw
          case rel => exact ⟨j + 1, Hlt.out, by go_num, HW2, Lib.hid (by rw [HA2.out]; rfl)⟩
          case measure => have := Hlt.out; simp [intOf]; omega
        | false =>
          go_wp2_with fail
          (with_reducible refine HF.out.mono ?_)
          rintro e w2 ⟨rfl, hb2⟩
          have HW2 := Lib.hid (HW1.out.trans (hb2.mono HW1.out.size))
          clear hb2
          go_wp2_with fail
          go_ret
          exact ⟨by rw [HV.out, HA2.out]; rfl, HB0.out.trans (HW2.out.mono HB0.out.size)⟩
      · obtain rfl : j = n := by omega
        have HA2 : Hid (allT fkB k = true) := Lib.hid (by
          have := HA.out
          rw [drop_len k j (by rw [← Hn.out]; exact Nat.le_refl _)] at this
          exact this.symm)
        clear hlt HA
        go_wp2_with fail
        go_ret
        exact ⟨by rw [HV.out, HA2.out]; rfl, HB0.out.trans (HW.out.mono HB0.out.size)⟩

set_option maxHeartbeats 4000000 in
theorem fits_any (t : Tr) (A : Option Addr) (n c : Nat) (w : World) (h : Holds w w.heap.size A n t) (hc : n ≤ c) (hm : c ≤ maxLen) (hsz : t.size ≤ 17179869184) (hnm : Tr.Nm t) : Calls Tryz.prog 18 #[.slice A n c] w fun e w' => e = .returned (.int .i64 (fitsM t)) ∧ Below w.heap.size w w' := by
  have hl := h.len
  have hls := t.len_size
  have hC := check_any A c t w (by rw [← hl]; exact h) (by rw [← hl]; exact hc) hm hsz hnm
  rw [← hl] at hC
  have HC := Lib.hid hC
  obtain ⟨f, hf⟩ : ∃ f, f = t.fault := ⟨_, rfl⟩
  rw [← hf] at HC
  have HV : Hid (fitsM t = if f ≠ 0 then (f : Int) else if allT fsB t then 0 else 13) := Lib.hid (by rw [hf]; rfl)
  have Hn := Lib.hid hl
  have HH1 := Lib.hid h
  have Hls := Lib.hid (show ∀ k, (t.dropT k).size ≤ 17179869184 from fun k => Nat.le_trans (dropT_size t k) hsz)
  have hn9 : n ≤ 17179869184 := by omega
  by_cases h0 : f = 0
  · have Hk := Lib.hid (fault_n80 (t := t) (by omega))
    have HV2 : Hid (fitsM t = if allT fsB t then 0 else 13) := Lib.hid (by rw [HV.out, if_neg (by omega)])
    subst h0
    clear hC hf h hl hls hc hm hnm hsz
    go_enter Tryz.func18, Tryz.ntmps18
    go_wp2_with fail
    (with_reducible refine HC.out.mono ?_)
    rintro e w1 ⟨rfl, hb1⟩
    have HB0 := Lib.hid hb1
    have HH := Lib.hid ((HH1.out.below hb1).more hb1.size)
    clear hb1
    go_wp2_with fail
    go_loopw [13] (fun i wr => ∃ (j : Nat), j ≤ n ∧ i = .int .i64 j ∧ Hid (Below w1.heap.size w1 wr) ∧ Hid (allT fsB (t.dropT j) = allT fsB t)) (fun i _ => n - (intOf i).toNat)
    case atStart => exact ⟨0, Nat.zero_le _, rfl, Lib.hid (Below.refl _ _), Lib.hid (by rw [dropT_zero])⟩
    case round =>
      obtain ⟨j, hj, rfl, HW, HA⟩ := hrel
      by_cases hlt : j < n
      · obtain ⟨b, q, s1, kt, r, A', n', c', rfl, hbl, hs1, hc1, hn', hm', hk', hr', hd, hd2⟩ := (HH.out.below HW.out).split j hlt
        have hpk := n80_drop t j Hk.out
        rw [hd] at hpk
        have hkn : (j : Int) < (n : Int) := by omega
        have hk0 : (0 : Int) ≤ (j : Int) := by omega
        have hb1 : Below wr.heap.size wr (wr.alloc (Obj.cells #[.string s1, .slice A' n' c'] 56)) := (Below.refl _ _).alloc (Nat.le_refl _) _
        have hg1 := heap_alloc_new wr (Obj.cells #[.string s1, .slice A' n' c'] 56)
        have HF := Lib.hid (fsec_any s1 kt A' n' c' (wr.alloc (Obj.cells #[.string s1, .slice A' n' c'] 56)) (((hk'.more HW.out.size).below hb1).more hb1.size) (by have h5 := Hls.out j; rw [hd] at h5; simp only [Tr.size] at h5; have h6 := hk'.len; have h7 := kt.len_size; omega) hpk.1 hpk.2.1)
        obtain ⟨u, hu⟩ : ∃ u, u = fsB s1 kt := ⟨_, rfl⟩
        rw [← hu] at HF
        have HA2 : Hid (allT fsB t = (u && allT fsB (t.dropT (j + 1)))) := Lib.hid (by rw [← HA.out, hd, hd2, hu]; rfl)
        have Hlt := Lib.hid hlt
        have HW1 := Lib.hid (HW.out.trans (hb1.mono HW.out.size))
        clear hu hpk hd hd2 hk' hr' hn' hm' hlt HA hb1
        cases u with
        | true =>
          go_wp2_with fail
          (with_reducible refine HF.out.mono ?_)
          rintro e w2 ⟨rfl, hb2⟩
          have HW2 := Lib.hid (HW1.out.trans (hb2.mono HW1.out.size))
          clear hb2
          go_wp2_with fail
          go_roundw
          case rel => exact ⟨j + 1, Hlt.out, by go_num, HW2, Lib.hid (by rw [HA2.out]; rfl)⟩
          case measure => have := Hlt.out; simp [intOf]; omega
        | false =>
          go_wp2_with fail
          (with_reducible refine HF.out.mono ?_)
          rintro e w2 ⟨rfl, hb2⟩
          have HW2 := Lib.hid (HW1.out.trans (hb2.mono HW1.out.size))
          clear hb2
          go_wp2_with fail
          go_ret
          exact ⟨by rw [HV2.out, HA2.out]; rfl, HB0.out.trans (HW2.out.mono HB0.out.size)⟩
      · obtain rfl : j = n := by omega
        have HA2 : Hid (allT fsB t = true) := Lib.hid (by
          have := HA.out
          rw [drop_len t j (by rw [← Hn.out]; exact Nat.le_refl _)] at this
          exact this.symm)
        clear hlt HA
        go_wp2_with fail
        go_ret
        exact ⟨by rw [HV2.out, HA2.out]; rfl, HB0.out.trans (HW.out.mono HB0.out.size)⟩
  · have hfb : ((f : Int) != 0) = true := by rw [bne_iff_ne]; omega
    have HV2 : Hid (fitsM t = (f : Int)) := Lib.hid (by rw [HV.out, if_pos h0])
    clear h0 hC hf h hl hls hc hm hnm hsz
    go_enter Tryz.func18, Tryz.ntmps18
    go_wp2_with fail
    (with_reducible refine HC.out.mono ?_)
    rintro e w1 ⟨rfl, hb1⟩
    go_wp2_with fail
    go_ret
    exact ⟨by rw [HV2.out]; rfl, hb1⟩
end Go.Proofs.YtapgaglkkgbgkaaGreatDoor.In
namespace Go.Proofs.YtapgaglkkgbgkaaGreatDoor.In
open Go.RowKit Go.Proofs.YtapgaglkkgbgkaaGreatDoor.Jd Go.Proofs.YtapgaglkkgbgkaaGreatDoor.Li Go.Proofs.YtapgaglkkgbgkaaGreatDoor.Cl Go.Proofs.YtapgaglkkgbgkaaGreatDoor.Cv
set_option maxRecDepth 100000

theorem eds_at : ∀ {t : Tr} {i : Nat} {s : ByteArray} {k r : Tr}, t.dropT i = .cons s k r → (eds t)[i]? = some (s, k)
  | .nil, i, s, k, r, h => by rw [drop_len .nil i (Nat.zero_le _)] at h; cases h
  | .cons a b c, 0, s, k, r, h => by rw [dropT_zero] at h; injection h with h1 h2 _; subst h1; subst h2; rfl
  | .cons a b c, i + 1, s, k, r, h => by
    have h2 : c.dropT i = .cons s k r := h
    rw [eds, List.getElem?_cons_succ]
    exact eds_at h2
theorem eds_len : ∀ t : Tr, (eds t).length = t.len
  | .nil => rfl
  | .cons _ _ r => by simp only [eds, List.length_cons, Tr.len, eds_len r]
theorem allT_at {f : ByteArray → Tr → Bool} : ∀ {t : Tr} {j : Nat} {s : ByteArray} {k r : Tr}, allT f t = true → t.dropT j = .cons s k r → f s k = true
  | .nil, i, s, k, r, _, h => by rw [drop_len .nil i (Nat.zero_le _)] at h; cases h
  | .cons a b c, 0, s, k, r, ha, h => by
    rw [dropT_zero] at h; injection h with h1 h2 _; subst h1; subst h2
    rw [allT, Bool.and_eq_true] at ha
    exact ha.1
  | .cons a b c, i + 1, s, k, r, ha, h => by
    rw [allT, Bool.and_eq_true] at ha
    have h2 : c.dropT i = .cons s k r := h
    exact allT_at ha.2 h2
theorem src_lineV (W : World) (t e : ByteArray) (g : Nat) (hg : g = W.heap.size) : Src Tryz.prog 2 65 (.slice (some ⟨g, 0, none⟩) 1 1) 1 [.string t, .string e] (W.alloc (Obj.cells #[Value.string t, Value.string e] 85)) := src_line W t.data.toList e.data.toList #[.string t, .string e] rfl g hg
theorem src_lineD (W : World) (t e : ByteArray) (g : Nat) (hg : g = W.heap.size) : Src Tryz.prog 2 65 (.slice (some ⟨g, 0, none⟩) 1 1) 1 [.string t, .string e] (W.alloc (Obj.cells #[Value.string t, Value.string e] 85)).drew := src_line_d W t.data.toList e.data.toList #[.string t, .string e] rfl g hg
theorem key_text (s v e : ByteArray) : keyL e.data.toList (s, .cons v .nil .nil) = ((s ++ ⟨#[61]⟩ ++ v).data.toList, e.data.toList) := by
  rw [keyL, ByteArray.data_append, Array.toList_append, ByteArray.data_append, Array.toList_append]
  rfl

set_option maxHeartbeats 8000000 in
theorem keyLines_any (k : Tr) (e : ByteArray) (A : Option Addr) (n c : Nat) (w : World) (h : Holds w w.heap.size A n k) (hn : n ≤ 100000) (hk : allT fkB k = true) (hs : N80 k) :
    Calls Tryz.prog 65 #[.slice A n c, .string e] w fun en w' => ∃ A' c', en = .returned (.slice A' n c') ∧ OwnL w' w.heap.size A' n c' ((eds k).map (keyL e.data.toList)) ∧ Below w.heap.size w w' := by
  have Hl := Lib.hid h.len
  have HH := Lib.hid h
  have Hk := Lib.hid hk
  have Hs := Lib.hid hs
  clear h hk hs
  go_enter Tryz.func65, Tryz.ntmps65
  go_wp2_with fail
  go_loopw [5, 10] (fun a i wr => ∃ (j : Nat) (A5 : Option Addr) (c5 : Nat), j ≤ n ∧ i = .int .i64 j ∧ a = .slice A5 j c5 ∧ Hid (OwnL wr w.heap.size A5 j c5 (((eds k).take j).map (keyL e.data.toList))) ∧ Hid (Below w.heap.size w wr)) (fun _ i _ => n - (intOf i).toNat)
  case atStart => exact ⟨0, none, 0, Nat.zero_le _, rfl, rfl, Lib.hid (World.ownsRow_nil _ _ _ _), Lib.hid (Below.refl _ _)⟩
  case round =>
    obtain ⟨j, A5, c5, hj, rfl, rfl, HO, HW⟩ := hrel
    by_cases hlt : j < n
    · obtain ⟨b, q, s, kt, r, A', n', c', rfl, hbl, hs1, hc1, hn', hm', hk', hr', hd, hd2⟩ := (HH.out.below HW.out).split j hlt
      obtain ⟨_, v, hv, _, _⟩ := fk_form (allT_at Hk.out hd)
      have hpk := n80_drop k j Hs.out
      rw [hd] at hpk
      subst hv
      obtain ⟨b2, o2, rfl, hb2, hv2, _, m0, rfl, hm0⟩ := hk'
      obtain rfl : m0 = 0 := hm0
      have hat := eds_at hd
      have htk : (eds k).take (j + 1) = (eds k).take j ++ [(s, .cons v .nil .nil)] := by rw [List.take_add_one, hat]; rfl
      have hkn : (j : Int) < (n : Int) := by omega
      have hk0 : (0 : Int) ≤ (j : Int) := by omega
      have hc1' : wr.cell? ⟨b, q + j * 2 + 1, none⟩ = some (.slice (some ⟨b2, o2, none⟩) 1 c') := hc1
      clear hc1
      have hsz : s.size ≤ 80 := hpk.1
      have hvz : v.size ≤ 80 := hpk.2.1.1
      have ha1 := fun W => run_string_add_sum (P := Tryz.prog) (w := W) s ⟨#[61]⟩ (by have : (⟨#[61]⟩ : ByteArray).size = 1 := rfl; omega)
      have ha2 := fun W => run_string_add_sum (P := Tryz.prog) (w := W) (s ++ ⟨#[61]⟩) v (by rw [ByteArray.size_append]; have : (⟨#[61]⟩ : ByteArray).size = 1 := rfl; omega)
      have hkt := key_text s v e
      obtain ⟨t1, ht1⟩ : ∃ t, t = s ++ (⟨#[61]⟩ : ByteArray) := ⟨_, rfl⟩
      rw [← ht1] at ha1 ha2 hkt
      obtain ⟨t2, ht2⟩ : ∃ t, t = t1 ++ v := ⟨_, rfl⟩
      rw [← ht2] at ha2 hkt
      have hL : ((eds k).take (j + 1)).map (keyL e.data.toList) = ((eds k).take j).map (keyL e.data.toList) ++ [(t2.data.toList, e.data.toList)] := by rw [htk, List.map_append, List.map_singleton, hkt]
      obtain ⟨W1, hW1⟩ : ∃ W, W = wr.alloc (Obj.cells #[.string s, .slice (some ⟨b2, o2, none⟩) 1 c'] 56) := ⟨_, rfl⟩
      have hb1 : Below wr.heap.size wr W1 := by rw [hW1]; exact (Below.refl _ _).alloc (Nat.le_refl _) _
      have hg1 : W1.heap[wr.heap.size]? = some (Obj.cells #[.string s, .slice (some ⟨b2, o2, none⟩) 1 c'] 56) := by rw [hW1]; exact heap_alloc_new wr _
      have hl1 : wr.heap.size < W1.heap.size := (Array.getElem?_eq_some_iff.1 hg1).1
      have hb2r : b2 < wr.heap.size := Nat.lt_of_lt_of_le hb2 HW.out.size
      have hHS := fun (W : World) (hW : ∀ q, q < W1.heap.size → some q ≠ (Value.slice A5 j c5).ownBlock → W.heap[q]? = W1.heap[q]?) => (⟨(World.cell?_of_block (w := W1) (w' := W) (a := ⟨wr.heap.size, 0, none⟩) (hW _ hl1 (fun e => Nat.lt_irrefl _ (HO.out.lt wr.heap.size e.symm).2))).trans (by rw [cell_of_row _ _ _ _ _ _ hg1]; rfl), (World.cell?_of_block (w := W1) (w' := W) (a := ⟨wr.heap.size, 1, none⟩) (hW _ hl1 (fun e => Nat.lt_irrefl _ (HO.out.lt wr.heap.size e.symm).2))).trans (by rw [cell_of_row _ _ _ _ _ _ hg1]; rfl), (World.cell?_of_block (w := W1) (w' := W) (a := ⟨b2, o2, none⟩) (hW _ (Nat.lt_trans hb2r hl1) (fun e => by have h9 := (HO.out.lt b2 e.symm).1; omega))).trans ((hb1.cell (p := ⟨b2, o2, none⟩) hb2r).trans hv2)⟩ : W.cell? ⟨wr.heap.size, 0, none⟩ = some (.string s) ∧ W.cell? ⟨wr.heap.size, 1, none⟩ = some (.slice (some ⟨b2, o2, none⟩) 1 c') ∧ W.cell? ⟨b2, o2, none⟩ = some (.string v))
      have HS := Lib.hid hHS
      have HO1 := Lib.hid (HO.out.below hb1)
      have HW1 := Lib.hid (HW.out.trans (hb1.mono HW.out.size))
      have hS1 := HS.out W1.drew (fun q _ _ => rfl)
      have hS2 := fun X : Obj => HS.out (W1.drew.alloc X) (fun q hq _ => Below.heap_alloc W1.drew _ _ hq)
      have HLl := Lib.hid hL
      have Hlt := Lib.hid hlt
      have hk1 : j + 1 ≤ 1099511627776 := by omega
      have hbz : w.heap.size ≤ W1.heap.size := HW1.out.size
      clear hlt hd hd2 hr' hn' hm' hpk hb2 hv2 hat htk hkt ht1 ht2 hL hb1 hg1 hl1 hb2r hHS hsz hvz
      go_upto_region 5 with (fail)
      rw [← hW1]
      clear hW1
      go_region_held3 (fun W => W.cell? ⟨wr.heap.size, 0, none⟩ = some (.string s) ∧ W.cell? ⟨wr.heap.size, 1, none⟩ = some (.slice (some ⟨b2, o2, none⟩) 1 c') ∧ W.cell? ⟨b2, o2, none⟩ = some (.string v))
        (first | exact hS1 | exact hS2 _ | exact hS4)
        ((refine step_append_row rfl (.tmp 14) (.tmp 26) _ _ rfl elem_line rfl rfl ((HO1.out.alloc _).drew) (src_lineD _ t2 e _ rfl) hk1 (by simp; omega) ?_; intro A4 c4 w4 ho4 hg4 hat4; have hS4 := HS.out w4 (fun q hq hn => (hg4.block q (Nat.lt_of_lt_of_le hq (by simp)) hn).trans (Below.heap_alloc W1.drew _ _ hq))))
      all_goals
        have hG : W1.grownBy w4 (Value.slice A5 j c5).ownBlock := ⟨hg4.os, hg4.tape, hg4.output, Nat.le_trans (by simp) hg4.size, fun q hq hn => (hg4.block q (Nat.lt_of_lt_of_le hq (by simp)) hn).trans (Below.heap_alloc W1.drew _ _ hq)⟩
        have HP : Hid (OwnL w4 w.heap.size A4 (j + 1) c4 (((eds k).take (j + 1)).map (keyL e.data.toList))) := Lib.hid (by
          rw [HLl.out, OwnL, lcells_append]
          exact ho4)
        have HW4 : Hid (Below w.heap.size w w4) := Lib.hid (HW1.out.grown hG hbz (fun q hq => (HO1.out.lt q hq).1))
        clear ho4 hg4 hat4 hG hS1 hS2 hS4
        go_wp2_with fail
        go_roundw
        case rel => exact ⟨j + 1, A4, c4, Hlt.out, by go_num, rfl, HP, HW4⟩
        case measure => have := Hlt.out; simp [intOf]; omega
    · obtain rfl : j = n := by omega
      have hO := HO.out
      rw [List.take_of_length_le (by rw [eds_len, ← Hl.out]; exact Nat.le_refl _)] at hO
      have HO2 := Lib.hid hO
      clear hlt hO HO
      go_wp2_with fail
      go_ret
      exact ⟨A5, c5, rfl, HO2.out, HW.out⟩

set_option maxHeartbeats 1000000 in
theorem isOf_any (s a : ByteArray) (A A2 : Option Addr) (n c n2 c2 : Nat) (w : World) :
    Calls Tryz.prog 64 #[.agg #[.string s, .slice A n c], .agg #[.string a, .slice A2 n2 c2]] w fun e w' => e = .returned (.bool (s.data.toList == a.data.toList)) ∧ Below w.heap.size w w' := by
  have hb : Below w.heap.size w ((w.alloc (Obj.cells #[.string s, .slice A n c] 56)).alloc (Obj.cells #[.string a, .slice A2 n2 c2] 108)) := ((Below.refl _ _).alloc (Nat.le_refl _) _).alloc (by simp) _
  have HB := Lib.hid hb
  obtain ⟨u, hu⟩ : ∃ u, u = (s.data.toList == a.data.toList) := ⟨_, rfl⟩
  rw [← hu]
  have hu2 : (s.toList == a.toList) = u := by rw [same_eq', hu]
  have h1 := heap_alloc_new w (Obj.cells #[.string s, .slice A n c] 56)
  have h1l := (Array.getElem?_eq_some_iff.1 h1).1
  have h1' : ((w.alloc (Obj.cells #[.string s, .slice A n c] 56)).alloc (Obj.cells #[.string a, .slice A2 n2 c2] 108)).cell? ⟨w.heap.size, 0, none⟩ = some (.string s) := by
    rw [World.cell?_alloc_lt _ _ _ h1l, cell_of_row _ _ _ _ _ _ h1]; rfl
  clear hu hb h1 h1l
  go_enter Tryz.func64, Tryz.ntmps64
  go_wp2_with fail
  go_ret
  exact ⟨rfl, HB.out⟩
set_option maxHeartbeats 1000000 in
theorem isBy_any (s t e a v : ByteArray) (A : Option Addr) (n c k p : Nat) (w : World) :
    Calls Tryz.prog 84 #[.agg #[.string s, .slice A n c], .agg #[.string t, .string e, .int .i64 k, .string a, .string v, .int .i64 p]] w fun e w' => e = .returned (.bool (k == 3 && s.data.toList == a.data.toList)) ∧ Below w.heap.size w w' := by
  have hb : Below w.heap.size w ((w.alloc (Obj.cells #[.string s, .slice A n c] 56)).alloc (Obj.cells #[.string t, .string e, .int .i64 k, .string a, .string v, .int .i64 p] 114)) := ((Below.refl _ _).alloc (Nat.le_refl _) _).alloc (by simp) _
  have HB := Lib.hid hb
  obtain ⟨u, hu⟩ : ∃ u, u = (s.data.toList == a.data.toList) := ⟨_, rfl⟩
  rw [← hu]
  have hu2 : (s.toList == a.toList) = u := by rw [same_eq', hu]
  have h1 := heap_alloc_new w (Obj.cells #[.string s, .slice A n c] 56)
  have h1l := (Array.getElem?_eq_some_iff.1 h1).1
  have h1' : ((w.alloc (Obj.cells #[.string s, .slice A n c] 56)).alloc (Obj.cells #[.string t, .string e, .int .i64 k, .string a, .string v, .int .i64 p] 114)).cell? ⟨w.heap.size, 0, none⟩ = some (.string s) := by
    rw [World.cell?_alloc_lt _ _ _ h1l, cell_of_row _ _ _ _ _ _ h1]; rfl
  clear hu hb h1 h1l
  by_cases h3 : k = 3
  · have hk : ((k : Int) == 3) = true := by rw [h3]; rfl
    have HV : Hid ((k == 3 && u) = u) := Lib.hid (by rw [h3]; rfl)
    clear h3
    go_enter Tryz.func84, Tryz.ntmps84
    go_wp2_with fail
    go_ret
    exact ⟨by rw [HV.out]; rfl, HB.out⟩
  · have hk : ((k : Int) == 3) = false := by rw [beq_eq_false_iff_ne]; omega
    have HV : Hid ((k == 3 && u) = false) := Lib.hid (by rw [beq_eq_false_iff_ne.2 h3]; rfl)
    clear h3
    go_enter Tryz.func84, Tryz.ntmps84
    go_wp2_with fail
    go_ret
    exact ⟨by rw [HV.out]; rfl, HB.out⟩
end Go.Proofs.YtapgaglkkgbgkaaGreatDoor.In
