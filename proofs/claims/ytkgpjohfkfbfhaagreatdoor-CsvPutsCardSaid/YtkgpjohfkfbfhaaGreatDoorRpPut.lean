/- The reference's Put of csv. Conditions: the tree's size; its names' sizes. -/
import Derived.Test.YtkgpjohfkfbfhaaGreatDoorRpPutM
import Derived.Test.YtkgpjohfkfbfhaaGreatDoorRpLine
import Derived.Test.YtkgpjohfkfbfhaaGreatDoorMwRtFits
import Derived.Test.YtkgpjohfkfbfhaaGreatDoorMwRtPutR
import Derived.Test.YtkgpjohfkfbfhaaGreatDoorMwRtTurnM
import Derived.Deep.RegionLaw
import Derived.Deep.RegionWith
import Derived.Deep.CutRange
namespace Go.Proofs.YtkgpjohfkfbfhaaGreatDoor.Cv
open Go.RowKit Go.Proofs.YtkgpjohfkfbfhaaGreatDoor.Jd Go.Proofs.YtkgpjohfkfbfhaaGreatDoor.Li Go.Proofs.YtkgpjohfkfbfhaaGreatDoor.Cl Go.Proofs.YtkgpjohfkfbfhaaGreatDoor.Pt
set_option maxRecDepth 100000

theorem src_one (W : World) (x : ByteArray) (g : Nat) (hg : g = W.heap.size) : Src Tryz.prog 1 36 (.slice (some ⟨g, 0, none⟩) 1 1) 1 [.string x] (W.alloc (Obj.cells #[.string x] 9)) := by
  have h := src_str W x.data.toList g hg
  have e1 : mkB x.data.toList = x := mkB_list x
  have e2 : encs x.data.toList = .string x := by show Value.string _ = _; rw [show (⟨x.data.toList.toArray⟩ : ByteArray) = x from mkB_list x]
  rw [e1, e2] at h
  exact h
theorem take_snoc {α : Type} {l : List α} {j : Nat} {z : α} (h : l[j]? = some z) : l.take (j + 1) = l.take j ++ [z] := by rw [List.take_add_one, h]; rfl
def K1 (xl : List Ln) (j : Nat) (K : Tr) : Prop := K.size ≤ j ∧ NmsOf K fun q => q ∈ (mns xl).take j
theorem k1_step {xl : List Ln} {j : Nat} {K : Tr} {z : ByteArray} (h : K1 xl j K) (hz : (mns xl)[j]? = some z) : K1 xl (j + 1) (K.withT z .nil) := by
  refine ⟨?_, nms_with h.2 fun q => ?_⟩
  · have := with_size2 (name := z) (x := .nil) (t := K)
    simp only [Tr.size] at this
    have := h.1
    omega
  · rw [take_snoc hz, List.mem_append, List.mem_singleton]
    exact Or.comm

theorem kids_at : ∀ {t : Tr} {i : Nat} {s : ByteArray} {k r : Tr}, t.dropT i = .cons s k r → (kidsL t)[i]? = some k
  | .nil, i, s, k, r, h => by rw [drop_len .nil i (Nat.zero_le _)] at h; cases h
  | .cons a b c, 0, s, k, r, h => by rw [dropT_zero] at h; injection h with _ h _; subst h; rfl
  | .cons a b c, i + 1, s, k, r, h => by
    have h2 : c.dropT i = .cons s k r := h
    rw [kidsL, List.getElem?_cons_succ]
    exact kids_at h2
def M2 (t : Tr) (xs : List ByteArray) (i : Nat) (ns : List ByteArray) (M : Tr) : Prop :=
  NmsOf M fun q => (q ∈ ((kidsL t).take i).flatMap Tr.names ∨ q ∈ ns) ∧ q ∉ xs
theorem m2_skip {t : Tr} {xs ns : List ByteArray} {i : Nat} {M : Tr} {z : ByteArray} (h : M2 t xs i ns M) (hz : z ∈ xs) : M2 t xs i (ns ++ [z]) M :=
  nms_congr h fun q => by
    rw [List.mem_append, List.mem_singleton]
    constructor
    · rintro ⟨h1 | h1 | rfl, h2⟩
      · exact ⟨.inl h1, h2⟩
      · exact ⟨.inr h1, h2⟩
      · exact absurd hz h2
    · rintro ⟨h1 | h1, h2⟩
      · exact ⟨.inl h1, h2⟩
      · exact ⟨.inr (.inl h1), h2⟩
theorem m2_put {t : Tr} {xs ns : List ByteArray} {i : Nat} {M : Tr} {z : ByteArray} (h : M2 t xs i ns M) (hz : z ∉ xs) : M2 t xs i (ns ++ [z]) (M.withT z .nil) :=
  nms_with h fun q => by
    rw [List.mem_append, List.mem_singleton]
    constructor
    · rintro ⟨h1 | h1 | rfl, h2⟩
      · exact .inr ⟨.inl h1, h2⟩
      · exact .inr ⟨.inr h1, h2⟩
      · exact .inl rfl
    · rintro (rfl | ⟨h1 | h1, h2⟩)
      · exact ⟨.inr (.inr rfl), hz⟩
      · exact ⟨.inl h1, h2⟩
      · exact ⟨.inr (.inl h1), h2⟩
theorem m2_next {t : Tr} {xs : List ByteArray} {i : Nat} {M k : Tr} (h : M2 t xs i k.names M) (hk : (kidsL t)[i]? = some k) : M2 t xs (i + 1) [] M :=
  nms_congr h fun q => by
    rw [take_snoc hk, List.flatMap_append, List.mem_append]
    simp
theorem with_le {M : Tr} {z : ByteArray} : (M.withT z .nil).size ≤ M.size + 1 := by
  have := with_size2 (name := z) (x := .nil) (t := M)
  simp only [Tr.size] at this
  omega

theorem eds_at : ∀ {t : Tr} {i : Nat} {s : ByteArray} {k r : Tr}, t.dropT i = .cons s k r → (eds t)[i]? = some (s, k)
  | .nil, i, s, k, r, h => by rw [drop_len .nil i (Nat.zero_le _)] at h; cases h
  | .cons a b c, 0, s, k, r, h => by rw [dropT_zero] at h; injection h with h1 h2 _; subst h1; subst h2; rfl
  | .cons a b c, i + 1, s, k, r, h => by
    have h2 : c.dropT i = .cons s k r := h
    rw [eds, List.getElem?_cons_succ]
    exact eds_at h2
theorem flt_step {α β : Type} {f : α → Option β} {rs : List α} {k : Nat} {r : α} (h : rs[k]? = some r) : (rs.take (k + 1)).filterMap f = (rs.take k).filterMap f ++ (f r).toList := by
  rw [List.take_add_one, h, List.filterMap_append]
  cases hf : f r <;> simp [hf]
theorem t_names {l : Bs} {hd : Rw} {rs : List Rw} (hr : rowsF [] 0 (split l) = (hd :: rs, 0, 0)) (h : (readF l).2.2 = 0) (q : ByteArray) : (readF l).1.atIs q = true ↔ q ∈ rs.map Cv.nm := by
  obtain ⟨hl, _, _⟩ := read_inv h
  have hT := readF_rows hr hl h
  have ha := AscD.asc (fault_asc (fits_fault (read_fits h)).1).1
  rw [mem_atIs ha, eds_bn]
  have e : ((readF l).1 |> eds).Perm (eds (recsT srtE (colsR hd) rs)) := by rw [hT]; exact srt_perm _
  rw [(e.map fun x => x.1.data.toList).mem_iff, eds_recs, List.map_map]
  constructor
  · intro hq
    obtain ⟨r, h1, h2⟩ := List.mem_map.1 hq
    refine List.mem_map.2 ⟨r, h1, ?_⟩
    apply ByteArray.ext; apply Array.ext'; exact h2
  · intro hq
    obtain ⟨r, h1, rfl⟩ := List.mem_map.1 hq
    exact List.mem_map.2 ⟨r, h1, rfl⟩
theorem ll_len {cols : List ByteArray} {t T : Tr} {E : Bs} {top : Ln} {hd : Rw} {rs : List Rw} {n0 : Nat} (hm : ∀ m ∈ cols, m.size ≤ 4000) (hc : cols.length ≤ 90000) (htop : sayF ([kB] ++ cols) hd = top) (hnm : ∀ r ∈ rs, (Cv.nm r).size ≤ 4000) (hsn : ∀ s ∈ t.names, s.size ≤ 4000)
    (hfs : ∀ r ∈ hd :: rs, ∀ x ∈ r.fs, x.1.length ≤ 4000) (hen : ∀ r ∈ hd :: rs, r.en.data.toList.length ≤ 2) (hE : E.length ≤ 2) (hv : ∀ name c, (valF (getT t [name]).1 c).size ≤ 4000) (hg : ∀ e ∈ eds t, (getT t [e.1]).1 = e.2) :
    ∀ x ∈ top :: rs.filterMap (stayF cols t) ++ ((eds t).take n0).filterMap (freshL cols T E), x.1.length ≤ 1080462005 ∧ x.2.length ≤ 2 := by
  intro x hx
  rcases List.mem_append.1 hx with hx | hx
  · rcases List.mem_cons.1 hx with rfl | hx
    · rw [← htop, sayF]
      refine ⟨text_le2 (fun z hz => ?_) (hfs hd (List.mem_cons_self ..)) (by simp; omega), hen hd (List.mem_cons_self ..)⟩
      rcases List.mem_append.1 hz with hz | hz
      · rw [List.mem_singleton.1 hz]; decide
      · exact hm z hz
    · obtain ⟨r, hr, hs⟩ := List.mem_filterMap.1 hx
      rw [stayF] at hs
      split at hs
      · injection hs with hs
        rw [← hs, sayF]
        refine ⟨text_le2 (fun z hz => ?_) (hfs r (List.mem_cons_of_mem _ hr)) (by simp [recF]; omega), hen r (List.mem_cons_of_mem _ hr)⟩
        rw [recF] at hz
        rcases List.mem_cons.1 hz with rfl | hz
        · exact hnm r hr
        · obtain ⟨c, _, rfl⟩ := List.mem_map.1 hz
          exact hv _ c
      · cases hs
  · obtain ⟨e, he, hs⟩ := List.mem_filterMap.1 hx
    have he := List.mem_of_mem_take he
    rw [freshL] at hs
    split at hs
    · cases hs
    · injection hs with hs
      rw [← hs, lineF]
      refine ⟨text_le2 (fun z hz => ?_) (fun _ h => by cases h) (by simp [recF]; omega), hE⟩
      rw [recF] at hz
      rcases List.mem_cons.1 hz with rfl | hz
      · refine hsn e.1 ?_
        have h1 : e.1.data.toList ∈ t.bn := by rw [eds_bn]; exact List.mem_map.2 ⟨e, he, rfl⟩
        rw [← names_bn] at h1
        exact mem_data.1 h1
      · obtain ⟨c, _, rfl⟩ := List.mem_map.1 hz
        rw [← hg e he]
        exact hv _ c
theorem ended_len {E : Bs} (hE : E.length ≤ 2) {K : Nat} : ∀ {ls : List Ln}, (∀ x ∈ ls, x.1.length ≤ K ∧ x.2.length ≤ 2) → ∀ x ∈ ended E ls, x.1.length ≤ K ∧ x.2.length ≤ 2
  | [], _, _, h => by cases h
  | [x], h, y, hy => h y hy
  | x :: z :: r, h, y, hy => by
    rw [ended] at hy
    rcases List.mem_cons.1 hy with rfl | hy
    · have := h x (List.mem_cons_self ..)
      refine ⟨this.1, ?_⟩
      dsimp only
      split
      · exact hE
      · exact this.2
    · exact ended_len hE (fun w hw => h w (List.mem_cons_of_mem _ hw)) y hy
def Apart (w : World) (gt lo : Nat) (o : Option Nat) (b : Nat) : Prop := (gt < b ∧ lo ≤ b ∧ b < w.heap.size) ∧ some b ≠ o
theorem Apart.keep {w w' : World} {gt lo : Nat} {o : Option Nat} {A : Option Addr} {n : Nat} {t : Tr} (h : HoldsP w (Apart w gt lo o) A n t) (hb : Below w.heap.size w w') : HoldsP w' (Apart w' gt lo o) A n t :=
  (HoldsP.keep (w := w) (w' := w') (fun b q hm => hb.cell (p := ⟨b, q, none⟩) hm.1.2.2) h).more fun _ hm => ⟨⟨hm.1.1, hm.1.2.1, Nat.lt_of_lt_of_le hm.1.2.2 hb.size⟩, hm.2⟩
theorem Apart.grown {w w' : World} {gt lo : Nat} {A6 A7 : Option Addr} {k c6 m c7 n : Nat} {A : Option Addr} {t : Tr} (h : HoldsP w (Apart w gt lo (Value.slice A6 k c6).ownBlock) A n t) (hg : w.grownBy w' (Value.slice A6 k c6).ownBlock)
    (hat : ∀ a, A7 = some a → w.heap.size ≤ a.block ∨ some a.block = (Value.slice A6 k c6).ownBlock) : HoldsP w' (Apart w' gt lo (Value.slice A7 m c7).ownBlock) A n t :=
  (HoldsP.keep (w := w) (w' := w') (fun b q hm => World.cell?_of_block (hg.block b hm.1.2.2 hm.2)) h).more fun b hm => ⟨⟨hm.1.1, hm.1.2.1, Nat.lt_of_lt_of_le hm.1.2.2 hg.size⟩, fun e => by
    cases A7 with
    | none => cases e
    | some a =>
      have e : b = a.block := by injection e
      rcases hat a rfl with h1 | h1
      · have := hm.1.2.2; omega
      · exact hm.2 (by rw [e]; exact h1)⟩
theorem Apart.set {w : World} {gt lo i : Nat} {o : Option Nat} {A : Option Addr} {n : Nat} {t : Tr} {u : Value} (h : HoldsP w (Apart w gt lo o) A n t) : HoldsP (w.setCell ⟨gt, i, none⟩ u) (Apart (w.setCell ⟨gt, i, none⟩ u) gt lo o) A n t :=
  (HoldsP.keep (w := w) (w' := w.setCell ⟨gt, i, none⟩ u) (fun b q hm => World.cell?_setCell_other _ _ _ _ (fun e => by injection e with e _ _; have := hm.1.1; omega)) h).more fun b hm => ⟨⟨hm.1.1, hm.1.2.1, by have := hm.1.2.2; simp only [World.setCell]; simpa using this⟩, hm.2⟩

set_option maxHeartbeats 16000000 in
theorem rput_sound (s : ByteArray) (hd : Rw) (x0 : Ln) (xl : List Ln) (rs : List Rw) (T t : Tr) (A : Option Addr) (n c : Nat) (w : World)
    (hs : s.size ≤ 4000) (hR : readF s.data.toList = (T, 0, 0)) (hrow : rowsF [] 0 (split s.data.toList) = (hd :: rs, 0, 0)) (hh : hd.fs = x0 :: xl) (hf : fitsC t = 0) (hsz : t.size ≤ 17179869184) (hnm : Tr.Nm t)
    (ht : OkT w A n c t) (zr : Bs × Int) (hz : zr = if 4000 < (putB hd xl rs t).length then ([], 5) else (putB hd xl rs t, 0)) :
    Calls Tryz.prog 16 #[.slice A n c, .string s] w fun e w' => e = .returned (.tuple #[.string (mkB zr.1), .int .i64 zr.2]) ∧ Below w.heap.size w w' := by
  obtain ⟨ls, hls⟩ : ∃ ls, ls = split s.data.toList := ⟨_, rfl⟩
  have hft := (fits_fault hf).1
  have hall := (fits_fault hf).2
  obtain ⟨hasc, hts⟩ := fault_asc hft
  have hinv := rowsF_inv _ _ _ _ hrow
  rw [List.nil_append, ← hls] at hinv
  have hsl : s.data.toList.length = s.size := rfl
  have hlb : ls.length ≤ 4000 := by rw [hls]; exact Nat.le_trans (split_le _) (by omega)
  have hlens : ∀ x ∈ ls, x.1.length ≤ 4000 := fun x hx => Nat.le_trans (split_lens _ x (by rw [← hls]; exact hx)) (by omega)
  have hrr : rowsR [] .nil 0 ls = ((hd :: rs).map Rw.fs, accOf (hd :: rs), 0, 0) := by
    have e := rows_same (split s.data.toList) [] 0
    rw [List.map_nil, accOf] at e
    rw [hls, e, hrow, if_pos rfl]
  have hfo := file_ok hrow hh
  have em : mns hd.fs = ⟨x0.2.toArray⟩ :: mns xl := by rw [hh]; rfl
  obtain ⟨hkb, hcB, hcN⟩ := head_facts (by rw [← em]; exact hfo.hf : headF (⟨x0.2.toArray⟩ :: mns xl) = 0)
  have hrl : rs.length + 1 = ls.length := by have := congrArg List.length hinv; simpa using this
  have HLd := Lib.hid (rload_any s w (by omega))
  rw [hR] at HLd
  have HFi := Lib.hid (fun (W : World) (hW : Below w.heap.size w W) => rfits_any t A n c W (ht.below hW).holds hsz hnm)
  rw [hf] at HFi
  have HSp := Lib.hid (fun W => rsplit_any s W (by omega))
  rw [← hls] at HSp
  have HEn := Lib.hid (fun (W : World) (A : Option Addr) (c : Nat) (h : SeesL W W.heap.size A ls.length ls) (hc : ls.length ≤ c) => rend_any ls A ls.length c W.heap.size W (Nat.le_refl _) h hc (by omega))
  have HRo := Lib.hid (fun (W : World) (A : Option Addr) (c : Nat) (h : SeesL W W.heap.size A ls.length ls) => by
    have := rrows_any ls A ls.length c W.heap.size W h (Nat.le_refl _) (by omega) hlens
    rw [hrr] at this
    exact this)
  have hO := put_ok (by omega) hrow hh hf
  have Hcz : Hid (∀ m ∈ colsP xl t, m.size ≤ 4000) := Lib.hid fun m hm => (hO.cols m hm).1
  have Hfew := Lib.hid hO.few
  have HPo := Lib.hid hO
  have Hlens := Lib.hid hlens
  have HTz : Hid (T.size ≤ 400) := Lib.hid (by have h := read_fits (l := s.data.toList) (by rw [hR]); rw [hR] at h; exact (fault_asc (fits_fault h).1).2)
  have Hnms : Hid (∀ q, T.atIs q = true ↔ q ∈ rs.map Cv.nm) := Lib.hid fun q => by have h := t_names hrow (by rw [hR]) q; rwa [hR] at h
  have Hinv := Lib.hid hinv
  have HT := Lib.hid ht
  have Hh := Lib.hid hh
  have Hall := Lib.hid hall
  have Hasc := Lib.hid hasc
  have Hfo := Lib.hid hfo
  have Hkb := Lib.hid hkb
  have HcN := Lib.hid hcN
  have Hz := Lib.hid hz
  have Hrl := Lib.hid hrl
  have Hnm := Lib.hid hnm
  have hnt : n ≤ 400 := by have := ht.holds.len; have := t.len_size; omega
  have hxl : xl.length ≤ 4000 := by
    have h1 := fldsL_len
    have h2 : hd.fs.length ≤ 4001 := by
      cases hq : ls with
      | nil => rw [hq] at hinv; cases hinv
      | cons y ys =>
        rw [hq] at hinv
        injection hinv with e _
        have h3 := h1 y.1
        have h4 := hlens y (by rw [hq]; simp)
        have h5 : hd.fs = fldsL y.1 := by rw [e]; rfl
        rw [h5]
        omega
    rw [hh, List.length_cons] at h2
    omega
  clear hR hrow hls hft hall hasc hinv hlens hrr hfo em hkb hcB hcN ht hf hsl hh hz hrl hsz hnm
  go_enter Tryz.func16, Tryz.ntmps16
  go_wp2_with fail
  (with_reducible refine HLd.out.mono ?_)
  rintro e w1 ⟨Ao, no, co, rfl, hO, hno, hco, hb1⟩
  have HB1 := Lib.hid hb1
  have HO1 : Hid (OkT w1 Ao no co T) := Lib.hid ⟨hO, hno, hco⟩
  have HFi1 := Lib.hid (HFi.out w1 hb1)
  clear hO hno hco hb1
  go_wp2_with fail
  (with_reducible refine HFi1.out.mono ?_)
  rintro e w2 ⟨rfl, hb2⟩
  have HB2 := Lib.hid (HB1.out.trans (hb2.mono HB1.out.size))
  have HO2 := Lib.hid (HO1.out.below hb2)
  clear hb2
  go_wp2_with fail
  (with_reducible refine (HSp.out w2).mono ?_)
  rintro e w3 ⟨Al, cl, rfl, hol, hb3⟩
  have HB3 := Lib.hid (HB2.out.trans (hb3.mono HB2.out.size))
  have HO3 := Lib.hid (HO2.out.below hb3)
  have HL3 := Lib.hid hol.sees
  have HEn3 := Lib.hid (HEn.out w3 Al cl hol.sees hol.cap.1)
  have HRo3 := Lib.hid (HRo.out w3 Al cl hol.sees)
  clear hol hb3
  go_wp2_with fail
  (with_reducible refine HEn3.out.mono ?_)
  rintro e w4 ⟨rfl, rfl⟩
  go_wp2_with fail
  (with_reducible refine HRo3.out.mono ?_)
  rintro e w0 ⟨Af, At, cf, nt, ct, vs, rfl, hof, _, _, _, hb4⟩
  have HB0 := Lib.hid (HB3.out.trans (hb4.mono HB3.out.size))
  have HO0 := Lib.hid (HO3.out.below hb4)
  have HL0 := Lib.hid ((HL3.out.below hb4).more hb4.size)
  have HF0 := Lib.hid hof
  clear hof hb4
  have Hfl : Hid (((hd :: rs).map Rw.fs)[0]? = some (x0 :: xl)) := Lib.hid (by rw [← Hh.out]; rfl)
  have HFA := Lib.hid (fun (W : World) (hW : Below w0.heap.size w0 W) => (HF0.out.below hW).at_ Hfl.out)
  obtain ⟨N, hN⟩ : ∃ N, N = ((hd :: rs).map Rw.fs).length := ⟨_, rfl⟩
  rw [← hN] at HF0
  have HN : Hid (N = ls.length) := Lib.hid (by rw [hN, List.length_map, List.length_cons]; have := Hrl.out; omega)
  have hNl : N ≤ 4000 := by have := HN.out; omega
  rw [← hN]
  clear hN
  obtain ⟨lN, hlN⟩ : ∃ k, k = ls.length := ⟨_, rfl⟩
  rw [← hlN] at HL0 hlb ⊢
  have HlN := Lib.hid hlN
  clear hlN
  obtain ⟨E, hE⟩ : ∃ E : ByteArray, E = ⟨(endOf ls).toArray⟩ := ⟨_, rfl⟩
  have hEe : Li.encs (endOf ls) = .string E := by rw [hE]; rfl
  rw [hEe]
  have HE := Lib.hid hE
  clear hE hEe HLd HFi HSp HEn HRo HFi1 HEn3 HRo3 HO3 HL3
  go_wp2_with fail
  go_loopw [15, 16, 18] (fun cv kv iv wr => ∃ (j : Nat) (Ac Ak : Option Addr) (cc nk ck : Nat) (K : Tr), j ≤ xl.length ∧ iv = .int .i64 ((j + 1 : Nat) : Int) ∧ cv = .slice Ac j cc ∧ kv = .slice Ak nk ck ∧ Hid (wr.ownsRow w0.heap.size 9 1 (.slice Ac j cc) j (((mns xl).take j).map Value.string)) ∧ Hid (HoldsP wr (TB wr (Value.slice Ac j cc).ownBlock) Ak nk K ∧ nk ≤ ck ∧ ck ≤ maxLen) ∧ Hid (K1 xl j K) ∧ Hid (Below w0.heap.size w0 wr)) (fun _ _ i _ => xl.length + 1 - (intOf i).toNat)
  case atStart => exact ⟨0, none, none, 0, 0, 0, .nil, Nat.zero_le _, rfl, rfl, rfl, Lib.hid (World.ownsRow_nil _ _ _ _), Lib.hid ⟨rfl, Nat.le_refl _, Nat.zero_le _⟩, Lib.hid ⟨Nat.zero_le _, nms_congr nms_nil fun q => by simp⟩, Lib.hid (Below.refl _ _)⟩
  case round =>
    obtain ⟨j, Ac, Ak, cc, nk, ck, K, hj, rfl, rfl, rfl, HC, HK, HKf, HW⟩ := hrel
    obtain ⟨wa, rfl⟩ : ∃ x : World, x = wr := ⟨_, rfl⟩
    obtain ⟨g, Ah, nh, ch, rfl, hgl, hgc, hsh, hnh, hch⟩ := HFA.out wa HW.out
    have hnh2 : nh = xl.length + 1 := by rw [hsh.len, List.length_cons]
    have Hnh := Lib.hid hnh2
    have hN0 : (0 : Int) < (N : Int) := by have := HN.out; have := Hrl.out; omega
    have hj0 : (0 : Int) ≤ (j : Int) + 1 := by omega
    by_cases hlt : j < xl.length
    · have hjn : ((j + 1 : Nat) : Int) < (nh : Int) := by omega
      have hjn2 : (j : Int) + 1 < (nh : Int) := by omega
      obtain ⟨b, o, z, hA, hbl, hz1, hcz⟩ := val_at hsh (k := j + 1) (by omega)
      subst hA
      have hz2 : (mns xl)[j]? = some z := by rw [← hz1]; simp [mns]
      have Hz2 := Lib.hid hz2
      have Hz1 := Lib.hid hz1
      have Hlt := Lib.hid hlt
      have HCg := Lib.hid (fun (W : World) (hW : Below wa.heap.size wa W) => (hW.cell (p := ⟨g, 0, none⟩) hgl).trans hgc)
      have HCz := Lib.hid (fun (W : World) (hW : Below wa.heap.size wa W) => (hW.cell (p := ⟨b, o + (j + 1) * 2 + 1, none⟩) hbl).trans hcz)
      have hk1 : j + 1 ≤ 1099511627776 := by omega
      have hz3 := HW.out.size
      clear hz1 hz2 hlt hsh hnh2 hnh hch
      go_upto_region 15 with (at_builtin; refine wpList_append_row rfl (.tmp 65) (.tmp 73) _ _ rfl Jd.elem_str rfl rfl (HC.out.alloc _) (src_one _ z _ rfl) hk1 (by simp; omega) ?_; intro A7 c7 w7 ho7 hg7 hat7)
      have hb8 : Below wa.heap.size wa (wa.alloc (Obj.cells #[Value.string z] 9)) := (Below.refl _ _).alloc (Nat.le_refl _) _
      have hK7 := TB.grown (A7 := A7) (m := j + 1) (c7 := c7) (TB.keep HK.out.1 hb8) hg7 (fun a ha => (hat7 a ha).imp (fun e => Nat.le_of_eq e.symm) id)
      have hW7 : Below w0.heap.size w0 w7 := (HW.out.alloc hz3 _).grown hg7 (by simp; omega) (fun q hq => (HC.out.lt q hq).1)
      have hW8 : Below wa.heap.size wa w7 ∨ True := .inr trivial
      obtain ⟨g7, Ah7, nh7, ch7, hg7e, hgl7, hgc7, hsh7, _, _⟩ := HFA.out w7 hW7
      have hge : g7 = g := by injection hg7e with e; injection e with e _ _; exact e.symm
      subst hge
      have hb0 := HFA.out w0 (Below.refl _ _)
      obtain ⟨g0, Ah0, nh0, ch0, hg0e, hgl0, hgc0, hsh0, _, _⟩ := hb0
      have hge0 : g0 = g7 := by injection hg0e with e; injection e with e _ _; exact e.symm
      subst hge0
      have c1 := (hW7.cell (p := ⟨g0, 0, none⟩) hgl0).trans hgc0
      have c2 := (HW.out.cell (p := ⟨g0, 0, none⟩) hgl0).trans hgc0
      have HC0 := Lib.hid c1
      have e1 : Value.slice Ah0 nh0 ch0 = .slice (some ⟨b, o, none⟩) nh ch := by
        rw [hgc] at c2
        injection c2 with c2
        exact c2.symm
      injection e1 with e1 e2 e3
      subst e1; subst e2; subst e3
      obtain ⟨b', o', z', hA', hbl', hz1', hcz'⟩ := val_at hsh0 (k := j + 1) (by have := Hnh.out; omega)
      injection hA' with hA'
      injection hA' with hA1 hA2
      subst hA1; subst hA2
      have hzz : z' = z := Option.some.inj (hz1'.symm.trans Hz1.out)
      subst hzz
      have c3 := (hW7.cell (p := ⟨b, o + (j + 1) * 2 + 1, none⟩) hbl').trans hcz'
      have HKz := Lib.hid (withP_any K .nil Ak none nk ck 0 0 z' w7 hK7 rfl (fun b hb => hb.1) (by have := HK.out.1.len; have := K.len_size; have := HKf.out.1; omega) HK.out.2.1 (Nat.le_refl _) (Nat.zero_le _))
      have HO7 := Lib.hid ho7
      have HW7 := Lib.hid hW7
      have HKf2 := Lib.hid (k1_step HKf.out Hz2.out)
      have hho : ∀ q, (Value.slice A7 (j + 1) c7).ownBlock = some q → q < w7.heap.size := fun q hq => (ho7.lt q hq).2
      have Hho := Lib.hid hho
      clear hb8 hK7 hW7 hW8 hg7 hat7 hgc7 hsh7 hsh0 hgc0 hz1' hcz' ho7 hho c2 hgc
      go_wp2_with fail
      (with_reducible refine HKz.out.mono ?_)
      rintro e w8 ⟨A8, n8, c8, rfl, hk8, hn8, hm8, hb8⟩
      have HK8 : Hid (HoldsP w8 (TB w8 (Value.slice A7 (j + 1) c7).ownBlock) A8 n8 (K.withT z' .nil) ∧ n8 ≤ c8 ∧ c8 ≤ maxLen) := Lib.hid ⟨TB.up hk8 Hho.out hb8.size, hn8, hm8⟩
      have HO8 : Hid (w8.ownsRow w0.heap.size 9 1 (.slice A7 (j + 1) c7) (j + 1) (((mns xl).take (j + 1)).map Value.string)) := Lib.hid (by
        have h := owns_below HO7.out hb8
        rw [take_snoc Hz2.out, List.map_append]
        exact h)
      have HW8 := Lib.hid (HW7.out.trans (hb8.mono HW7.out.size))
      clear hk8 hn8 hm8 hb8
      go_wp2_with fail
      go_roundw
      case rel => exact ⟨j + 1, A7, A8, c7, n8, c8, K.withT z' .nil, Hlt.out, by go_num, rfl, rfl, HO8, HK8, HKf2, HW8⟩
      case measure => have := Hlt.out; simp [intOf]; omega
    · have hjx : j = xl.length := by omega
      have hnj : ¬ ((j + 1 : Nat) : Int) < (nh : Int) := by omega
      have hnj2 : ¬ (j : Int) + 1 < (nh : Int) := by omega
      have HC1 : Hid (wa.ownsRow w0.heap.size 9 1 (.slice Ac j cc) j ((mns xl).map Value.string)) := Lib.hid (by
        have h := HC.out
        rwa [List.take_of_length_le (by rw [mns_len]; omega)] at h)
      have HK1 : Hid (NmsOf K fun q => q ∈ mns xl) := Lib.hid (by
        have h := HKf.out.2
        rwa [List.take_of_length_le (by rw [mns_len]; omega)] at h)
      have HKs : Hid (K.size ≤ 4000) := Lib.hid (by have := HKf.out.1; omega)
      have Hjx := Lib.hid hjx
      obtain ⟨y0, hy0⟩ : ∃ y, ls[0]? = some y := ⟨ls[0]'(by have := Hrl.out; omega), List.getElem?_eq_getElem (by have := Hrl.out; omega)⟩
      obtain ⟨bl, ol, hAl, hbl, hl1, hl2⟩ := (HL0.out.below HW.out).at_ hy0
      subst hAl
      obtain ⟨X0, hX0⟩ : ∃ t, t = ByteArray.mk y0.1.toArray := ⟨_, rfl⟩
      obtain ⟨X1, hX1⟩ : ∃ t, t = ByteArray.mk y0.2.toArray := ⟨_, rfl⟩
      have hl3 : wa.cell? ⟨bl, ol, none⟩ = some (.string X0) := by rw [hX0, ← show wa.cell? ⟨bl, ol + 0 * 2, none⟩ = wa.cell? ⟨bl, ol, none⟩ by simp]; exact hl1
      have hl4 : wa.cell? ⟨bl, ol + 1, none⟩ = some (.string X1) := by rw [hX1, ← show wa.cell? ⟨bl, ol + 0 * 2 + 1, none⟩ = wa.cell? ⟨bl, ol + 1, none⟩ by simp]; exact hl2
      have HX0 := Lib.hid hX0
      have HX1 := Lib.hid hX1
      have Hy0 := Lib.hid hy0
      have hlN0 : (0 : Int) < (lN : Int) := by have := HlN.out; have := Hrl.out; omega
      obtain ⟨wt, hwt⟩ : ∃ W, W = wa.alloc (Obj.cells #[Value.string X0, Value.string X1] 86) := ⟨_, rfl⟩
      have hbt : Below wa.heap.size wa wt := by rw [hwt]; exact (Below.refl _ _).alloc (Nat.le_refl _) _
      have HGt : Hid (wt.heap[wa.heap.size]? = some (.cells #[Value.string X0, Value.string X1] 86 (0, 0))) := Lib.hid (by rw [hwt]; exact heap_alloc_new wa _)
      have Hbt := Lib.hid hbt
      have HWt := Lib.hid (HW.out.trans (hbt.mono HW.out.size))
      have HKt : Hid (HoldsP wt (TB wt (Value.slice Ac j cc).ownBlock) Ak nk K ∧ nk ≤ ck ∧ ck ≤ maxLen) := Lib.hid ⟨TB.keep HK.out.1 hbt, HK.out.2⟩
      have HCt := Lib.hid (owns_below HC1.out hbt)
      have Hwt := Lib.hid hwt
      clear hX0 hX1 hy0 hl1 hl2 hjx hbt hlt hsh hnh2 hnh hch hbl HC HK HKf
      go_upto_region 17 with (fail)
      rw [← Hwt.out]
      clear Hwt hwt
      have HTt := Lib.hid (HT.out.below (HB0.out.trans (HWt.out.mono HB0.out.size)))
      have hKlen : nk ≤ 4000 := by have := HKt.out.1.len; have := K.len_size; have := HKs.out; omega
      have HKid := Lib.hid (fun (W : World) (hW : Below wt.heap.size wt W) (q : ByteArray) => kid2_any K Ak nk ck wt.heap.size q W ((TB.holds HKt.out.1).below hW) hW.size (by omega))
      go_wp2_with fail
      go_loopw [17, 20] (fun mv iv wr => ∃ (i : Nat) (Am : Option Addr) (nm cm : Nat) (M : Tr), i ≤ n ∧ iv = .int .i64 i ∧ mv = .slice Am nm cm ∧ Hid (HoldsP wr (fun b => wt.heap.size ≤ b ∧ b < wr.heap.size) Am nm M ∧ nm ≤ cm ∧ cm ≤ maxLen) ∧ Hid (M.size ≤ 400 * i) ∧ Hid (M2 t (mns xl) i [] M) ∧ Hid (Below wt.heap.size wt wr)) (fun _ i _ => n - (intOf i).toNat)
      case atStart => exact ⟨0, none, 0, 0, .nil, Nat.zero_le _, rfl, rfl, Lib.hid ⟨rfl, Nat.le_refl _, Nat.zero_le _⟩, Lib.hid (Nat.le_refl _), Lib.hid (nms_congr nms_nil fun q => by simp), Lib.hid (Below.refl _ _)⟩
      case round =>
        obtain ⟨i, Am, nm, cm, M, hi, rfl, rfl, HM, HMs, HM2, HWm⟩ := hrel
        obtain ⟨wb, rfl⟩ : ∃ x : World, x = wr := ⟨_, rfl⟩
        have hi0 : (0 : Int) ≤ (i : Int) := by omega
        by_cases hilt : i < n
        · have hin : (i : Int) < (n : Int) := by omega
          obtain ⟨b2, o2, s2, kt, r2, A2, n2, c2, rfl, hb2, _, hc2, _, _, hk2, _, hd2, _⟩ := (HTt.out.below HWm.out).holds.split i hilt
          have HKat := Lib.hid (kids_at hd2)
          have hn2 : n2 ≤ 400 := by
            have h1 := hk2.len
            have h2 := kt.len_size
            have h3 := size_drop t i
            rw [hd2, Tr.size] at h3
            omega
          have HC2 := Lib.hid (fun (W : World) (hW : Below wb.heap.size wb W) => (hW.cell (p := ⟨b2, o2 + i * 2 + 1, none⟩) hb2).trans hc2)
          have HK2 := Lib.hid hk2
          have Hn2 := Lib.hid hk2.len
          have Hilt := Lib.hid hilt
          clear hb2 hc2 hk2 hd2 hilt
          go_wp2_with fail
          go_loopw [17, 21] (fun mv iv wr => ∃ (k : Nat) (Am : Option Addr) (nm cm : Nat) (M : Tr), k ≤ n2 ∧ iv = .int .i64 k ∧ mv = .slice Am nm cm ∧ Hid (HoldsP wr (fun b => wt.heap.size ≤ b ∧ b < wr.heap.size) Am nm M ∧ nm ≤ cm ∧ cm ≤ maxLen) ∧ Hid (M.size ≤ 400 * i + k) ∧ Hid (M2 t (mns xl) i (kt.names.take k) M) ∧ Hid (Below wb.heap.size wb wr)) (fun _ i _ => n2 - (intOf i).toNat)
          case atStart => exact ⟨0, Am, nm, cm, M, Nat.zero_le _, rfl, rfl, HM, Lib.hid (by have := HMs.out; omega), Lib.hid (by have := HM2.out; simpa using this), Lib.hid (Below.refl _ _)⟩
          case round =>
            obtain ⟨k, Am, nm, cm, M, hk, rfl, rfl, HM, HMs, HM2, HWn⟩ := hrel
            have hk0 : (0 : Int) ≤ (k : Int) := by omega
            have hcq := HC2.out wr HWn.out
            have HWq := Lib.hid (HWm.out.trans (HWn.out.mono HWm.out.size))
            by_cases hklt : k < n2
            · have hkn : (k : Int) < (n2 : Int) := by omega
              obtain ⟨b3, o3, s3, kt3, r3, A3, n3, c3, rfl, hb3, hs3, _, _, _, _, _, hd3, _⟩ := (HK2.out.below HWn.out).split k hklt
              have hnmk : kt.names[k]? = some s3 := drop_names hd3
              have hKq := HKid.out wr HWq.out s3
              have hcd : ∀ q, (wr.drewN q).cell? ⟨b2, o2 + i * 2 + 1, none⟩ = some (.slice (some ⟨b3, o3, none⟩) n2 c2) := fun _ => hcq
              have hsd : ∀ q, (wr.drewN q).cell? ⟨b3, o3 + k * 2, none⟩ = some (.string s3) := fun _ => hs3
              have hmem := HK1.out.2 s3
              have Hklt := Lib.hid hklt
              have hml : nm ≤ 1000000 := by have := HM.out.1.len; have := M.len_size; have := HMs.out; omega
              cases hK : K.atIs s3 with
              | true =>
                rw [hK] at hKq
                have HKq := Lib.hid hKq
                have HM3 : Hid (M2 t (mns xl) i (kt.names.take (k + 1)) M) := Lib.hid (by rw [take_snoc hnmk]; exact m2_skip HM2.out (hmem.1 hK))
                clear hKq hnmk hmem hK hb3 hd3 hklt
                go_wp2_with fail
                (with_reducible refine HKq.out.mono ?_)
                rintro e v1 ⟨A9, n9, c9, rfl, _, _, _, q, rfl⟩
                have HH := Lib.hid (below_drewN HWn.out q)
                have HM4 : Hid (HoldsP (wr.drewN q) (fun b => wt.heap.size ≤ b ∧ b < (wr.drewN q).heap.size) Am nm M ∧ nm ≤ cm ∧ cm ≤ maxLen) := Lib.hid ⟨by have h := HoldsP.keep (w := wr) (w' := wr.drewN q) (fun _ _ _ => rfl) HM.out.1; exact h, HM.out.2⟩
                go_wp2_with fail
                go_roundw
                case rel => exact ⟨k + 1, Am, nm, cm, M, Hklt.out, by go_num, rfl, HM4, Lib.hid (by have := HMs.out; omega), HM3, HH⟩
                case measure => have := Hklt.out; simp [intOf]; omega
              | false =>
                rw [hK] at hKq
                have HKq := Lib.hid hKq
                have HM3 : Hid (M2 t (mns xl) i (kt.names.take (k + 1)) (M.withT s3 .nil)) := Lib.hid (by rw [take_snoc hnmk]; exact m2_put HM2.out (fun h => by rw [hmem.2 h] at hK; cases hK))
                clear hKq hnmk hmem hK hb3 hd3 hklt
                go_wp2_with fail
                (with_reducible refine HKq.out.mono ?_)
                rintro e v1 ⟨A9, n9, c9, rfl, _, _, _, q, rfl⟩
                have hM4 : HoldsP (wr.drewN q) (fun b => wt.heap.size ≤ b ∧ b < (wr.drewN q).heap.size) Am nm M := by have h := HoldsP.keep (w := wr) (w' := wr.drewN q) (fun _ _ _ => rfl) HM.out.1; exact h
                have HWi := Lib.hid (withP_any M .nil Am none nm cm 0 0 s3 (wr.drewN q) hM4 rfl (fun b hb => hb.2) (by omega) HM.out.2.1 (Nat.le_refl _) (Nat.zero_le _))
                have HH := Lib.hid (below_drewN HWn.out q)
                have Hts : Hid (wt.heap.size ≤ (wr.drewN q).heap.size) := Lib.hid (Nat.le_trans HWm.out.size HH.out.size)
                clear hM4
                go_wp2_with fail
                (with_reducible refine HWi.out.mono ?_)
                rintro e v2 ⟨A5, n5, c5, rfl, hh5, hn5, hm5, hb5⟩
                have HM5 : Hid (HoldsP v2 (fun b => wt.heap.size ≤ b ∧ b < v2.heap.size) A5 n5 (M.withT s3 .nil) ∧ n5 ≤ c5 ∧ c5 ≤ maxLen) := Lib.hid ⟨hh5.more fun b hb => by
                  rcases hb with h1 | h1
                  · exact ⟨h1.1, Nat.lt_of_lt_of_le h1.2 hb5.size⟩
                  · obtain ⟨_, _, h3⟩ := h1.2
                    exact ⟨Nat.le_trans Hts.out h1.1, (Array.getElem?_eq_some_iff.1 h3).1⟩, hn5, hm5⟩
                have HH5 := Lib.hid (HH.out.trans (hb5.mono HH.out.size))
                clear hh5 hn5 hm5 hb5
                go_wp2_with fail
                go_roundw
                case rel => exact ⟨k + 1, A5, n5, c5, M.withT s3 .nil, Hklt.out, by go_num, rfl, HM5, Lib.hid (by have := HMs.out; have := with_le (M := M) (z := s3); omega), HM3, HH5⟩
                case measure => have := Hklt.out; simp [intOf]; omega
            · have hkn : ¬ (k : Int) < (n2 : Int) := by omega
              have HM3 : Hid (M2 t (mns xl) (i + 1) [] M) := Lib.hid (m2_next (k := kt) (by have h := HM2.out; rwa [List.take_of_length_le (by rw [names_length]; have := Hn2.out; omega)] at h) HKat.out)
              have HMs2 : Hid (M.size ≤ 400 * (i + 1)) := Lib.hid (by have := HMs.out; omega)
              clear HM2
              go_wp2_with fail
              go_roundw
              case rel => exact ⟨i + 1, Am, nm, cm, M, Hilt.out, by go_num, rfl, HM, HMs2, HM3, HWq⟩
              case measure => have := Hilt.out; simp [intOf]; omega
        · have hin : ¬ (i : Int) < (n : Int) := by omega
          have HM3 : Hid (NmsOf M fun q => q ∈ (kidsL t).flatMap Tr.names ∧ q ∉ mns xl) := Lib.hid (nms_congr HM2.out fun q => by
            have e : (kidsL t).take i = kidsL t := List.take_of_length_le (by
              obtain ⟨xs, h1, h2, _⟩ := kids_of HT.out.holds
              rw [← h2, List.length_map]
              omega)
            rw [e]
            simp)
          have Hcols : Hid (colsP xl t = mns xl ++ M.names) := Lib.hid (by rw [colsP, more_names HM3.out])
          have hml : nm = M.len := HM.out.1.len
          have Hml := Lib.hid hml
          have hmb : nm ≤ 160000 := by have := M.len_size; have := HMs.out; have : 400 * i ≤ 400 * 400 := Nat.mul_le_mul_left _ (by omega); omega
          obtain ⟨gt, hgt⟩ : ∃ g, g = wa.heap.size := ⟨_, rfl⟩
          rw [← hgt] at HGt ⊢
          have hgtl : gt < wt.heap.size := (Array.getElem?_eq_some_iff.1 HGt.out).1
          have HCb := Lib.hid (owns_below HCt.out HWm.out)
          have hcn : (Value.slice Ac j cc).ownBlock ≠ some gt := fun e => by have := (HC1.out.lt _ e).2; omega
          have hgw : w0.heap.size ≤ gt := by rw [hgt]; exact HW.out.size
          have HGb : Hid (wb.heap[gt]? = some (.cells #[Value.string X0, Value.string X1] 86 (0, 0))) := Lib.hid ((HWm.out.block gt hgtl).trans HGt.out)
          have HWb := Lib.hid (HWt.out.trans (HWm.out.mono HWt.out.size))
          have hX0s : X0.size ≤ 4000 := by rw [HX0.out]; exact Hlens.out _ (List.mem_of_getElem? Hy0.out)
          have HWr := Lib.hid (fun (W : World) (v : ByteArray) (hv : v.size ≤ 4000) => written_any v W hv)
          have HMb : Hid (HoldsP wb (Apart wb gt w0.heap.size (Value.slice Ac j cc).ownBlock) Am nm M) := Lib.hid (HM.out.1.more fun b hb => ⟨⟨by omega, by omega, hb.2⟩, fun e => by have := (HC1.out.lt _ e.symm).2; omega⟩)
          have Hgt := Lib.hid hgt
          have Hgw := Lib.hid hgw
          clear hgt hml HCt HGt hgw
          go_wp2_with fail
          go_loopw [15, 24] (fun cv iv wr => ∃ (k : Nat) (A6 : Option Addr) (c6 : Nat) (X : ByteArray), k ≤ nm ∧ iv = .int .i64 k ∧ cv = .slice A6 (j + k) c6 ∧ X.size ≤ 4000 + 13000 * k ∧ Hid (wr.ownsRow w0.heap.size 9 1 (.slice A6 (j + k) c6) (j + k) ((mns xl ++ M.names.take k).map Value.string)) ∧ Hid (wr.heap[gt]? = some (.cells #[Value.string X, Value.string X1] 86 (0, 0))) ∧ Hid (X.data.toList = y0.1 ++ moreF (M.names.take k)) ∧ Hid (HoldsP wr (Apart wr gt w0.heap.size (Value.slice A6 (j + k) c6).ownBlock) Am nm M) ∧ Hid ((Value.slice A6 (j + k) c6).ownBlock ≠ some gt) ∧ Hid (Below w0.heap.size w0 wr)) (fun _ i _ => nm - (intOf i).toNat)
          case atStart => exact ⟨0, Ac, cc, X0, Nat.zero_le _, rfl, rfl, by omega, Lib.hid (by have := HCb.out; simpa using this), HGb, Lib.hid (by rw [HX0.out]; simp [moreF]), HMb, Lib.hid hcn, HWb⟩
          case round =>
            obtain ⟨k, A6, c6, X, hk, rfl, rfl, hXs, HC, HG, HX, HMk, Hne, HW4⟩ := hrel
            obtain ⟨wc, rfl⟩ : ∃ x : World, x = wr := ⟨_, rfl⟩
            have hk0 : (0 : Int) ≤ (k : Int) := by omega
            by_cases hklt : k < nm
            · have hkn : (k : Int) < (nm : Int) := by omega
              obtain ⟨b3, o3, s3, kt3, r3, A3, n3, c3, rfl, hb3, hs3, _, _, _, _, _, hd3, _⟩ := (HMk.out.to (B := wc.heap.size) fun b hb => hb.1.2.2).split k hklt
              have hnmk : M.names[k]? = some s3 := drop_names hd3
              have hk1 : j + k + 1 ≤ 1099511627776 := by omega
              have hz3 := HW4.out.size
              have Hnmk := Lib.hid hnmk
              have Hklt := Lib.hid hklt
              have hs3z : s3.size ≤ 4000 := Hcz.out s3 (by rw [Hcols.out]; exact List.mem_append_right _ (List.mem_of_getElem? hnmk))
              clear hd3 hb3 hnmk hklt
              go_upto_region 30 with (at_builtin; refine wpList_append_row rfl (.tmp 136) (.tmp 142) _ _ rfl Jd.elem_str rfl rfl (HC.out.alloc _) (src_one _ s3 _ rfl) hk1 (by simp; omega) ?_; intro A7 c7 w7 ho7 hg7 hat7)
              have hb8 : Below wc.heap.size wc (wc.alloc (Obj.cells #[Value.string s3] 9)) := (Below.refl _ _).alloc (Nat.le_refl _) _
              have hgl : gt < wc.heap.size := (Array.getElem?_eq_some_iff.1 HG.out).1
              have hG7 : w7.heap[gt]? = some (.cells #[Value.string X, Value.string X1] 86 (0, 0)) := ((hg7.block gt (Nat.lt_of_lt_of_le hgl hb8.size) (fun e => Hne.out e.symm)).trans (hb8.block gt hgl)).trans HG.out
              have hM7 := Apart.grown (A7 := A7) (m := j + k + 1) (c7 := c7) (Apart.keep HMk.out hb8) hg7 (fun a ha => (hat7 a ha).imp (fun e => Nat.le_of_eq e.symm) id)
              have hW7 : Below w0.heap.size w0 w7 := (HW4.out.alloc hz3 _).grown hg7 (by simp; omega) (fun q hq => (HC.out.lt q hq).1)
              have hne7 : (Value.slice A7 (j + k + 1) c7).ownBlock ≠ some gt := fun e => by
                cases A7 with
                | none => cases e
                | some a =>
                  have e : a.block = gt := by injection e
                  rcases hat7 a rfl with h1 | h1
                  · have := hb8.size; omega
                  · exact Hne.out (by rw [← h1, e])
              obtain ⟨b4, o4, s4, kt4, r4, A4, n4, c4, hA4, hb4, hs4, _, _, _, _, _, hd4, _⟩ := (hM7.to (B := w7.heap.size) fun b hb => hb.1.2.2).split k Hklt.out
              injection hA4 with hA4
              injection hA4 with hA1 hA2
              subst hA1; subst hA2
              have hs43 : s4 = s3 := Option.some.inj ((drop_names hd4).symm.trans Hnmk.out)
              subst hs43
              have hcX : w7.cell? ⟨gt, 0, none⟩ = some (.string X) := by rw [cell_of_row _ _ _ _ _ _ hG7]; rfl
              have hcXd : w7.drew.cell? ⟨gt, 0, none⟩ = some (.string X) := hcX
              have hs4d : w7.drew.cell? ⟨b3, o3 + k * 2, none⟩ = some (.string s4) := hs4
              have hfz : w7.frozen? ⟨gt, 0, none⟩ = false := by simp [World.frozen?, hG7]
              have hfzd : w7.drew.frozen? ⟨gt, 0, none⟩ = false := hfz
              have hwz : (mkB (qF s4.data.toList)).size ≤ 12004 := by
                have h1 := qF_len s4.data.toList
                have h2 : s4.data.toList.length = s4.size := rfl
                show (qF s4.data.toList).length ≤ _
                omega
              have HWv := Lib.hid (HWr.out · s4 hs3z)
              obtain ⟨v, hv⟩ : ∃ v, v = mkB (qF s4.data.toList) := ⟨_, rfl⟩
              rw [← hv] at HWv hwz
              have hadd := fun W => run_string_add_sum (P := Tryz.prog) W X ⟨#[44]⟩ (by have : (ByteArray.mk #[44]).size = 1 := rfl; omega)
              obtain ⟨Y1, hY1⟩ : ∃ z, z = X ++ ⟨#[44]⟩ := ⟨_, rfl⟩
              rw [← hY1] at hadd
              have hY1z : Y1.size = X.size + 1 := by rw [hY1, ByteArray.size_append]; rfl
              have hadd2 := fun W => run_string_add_sum (P := Tryz.prog) W Y1 v (by omega)
              obtain ⟨Y2, hY2⟩ : ∃ z, z = Y1 ++ v := ⟨_, rfl⟩
              rw [← hY2] at hadd2
              have hY2z : Y2.size ≤ 4000 + 13000 * (k + 1) := by rw [hY2, ByteArray.size_append]; omega
              have HY2 : Hid (Y2.data.toList = y0.1 ++ moreF (M.names.take (k + 1))) := Lib.hid (by
                rw [hY2, app_list, hY1, app_list, HX.out, take_snoc Hnmk.out, more_snoc, hv]
                simp [mkB])
              have HFin := Lib.hid (fun (W : World) (hW : Below w7.heap.size w7 W) => show Hid ((W.setCell ⟨gt, 0, none⟩ (.string Y2)).ownsRow w0.heap.size 9 1 (.slice A7 (j + (k + 1)) c7) (j + (k + 1)) ((mns xl ++ M.names.take (k + 1)).map Value.string)) ∧ Hid ((W.setCell ⟨gt, 0, none⟩ (.string Y2)).heap[gt]? = some (.cells #[Value.string Y2, Value.string X1] 86 (0, 0))) ∧ Hid (HoldsP (W.setCell ⟨gt, 0, none⟩ (.string Y2)) (Apart (W.setCell ⟨gt, 0, none⟩ (.string Y2)) gt w0.heap.size (Value.slice A7 (j + (k + 1)) c7).ownBlock) (some ⟨b3, o3, none⟩) nm M) ∧ Hid (Below w0.heap.size w0 (W.setCell ⟨gt, 0, none⟩ (.string Y2))) from by
                have hGW := (hW.block gt (Array.getElem?_eq_some_iff.1 hG7).1).trans hG7
                refine ⟨Lib.hid ?_, Lib.hid ?_, Lib.hid (Apart.set (Apart.keep hM7 hW)), Lib.hid ((hW7.trans (hW.mono hW7.size)).setCell (p := ⟨gt, 0, none⟩) Hgw.out _)⟩
                · have h := ownsRow_setCell_other (owns_below ho7 hW) (a := ⟨gt, 0, none⟩) hne7 (.string Y2)
                  rw [take_snoc Hnmk.out, ← List.append_assoc, List.map_append]
                  exact h
                · rw [heap_setCell_same _ gt 0 _ _ _ hGW]
                  rfl)
              have Hne7 := Lib.hid hne7
              have hRf := Below.refl w7.heap.size w7
              clear hb8 hgl hG7 hM7 hW7 hne7 hb4 hd4 ho7 hg7 hat7 hv hY1 hY1z hY2 hwz
              go_region_law (first | (go_simp; (with_reducible refine (HWv.out _).mono ?_); rintro e w' ⟨rfl, rfl⟩))
              all_goals
                go_wp2_with fail
                go_roundw
                case rel =>
                  have hB := HFin.out _ (by first | exact hRf.drew | exact below_drewN hRf _ | exact hRf)
                  exact ⟨k + 1, A7, c7, Y2, Hklt.out, by go_num, rfl, hY2z, hB.1, hB.2.1, HY2, hB.2.2.1, Hne7, hB.2.2.2⟩
                case measure => have := Hklt.out; simp [intOf]; omega
            · have hknm : k = nm := by omega
              have hkn : ¬ (k : Int) < (nm : Int) := by omega
              have htk : M.names.take k = M.names := List.take_of_length_le (by rw [names_length]; have := Hml.out; omega)
              obtain ⟨cols, hcols⟩ : ∃ cs, cs = colsP xl t := ⟨_, rfl⟩
              have hceq : cols = mns xl ++ M.names := by rw [hcols]; exact Hcols.out
              have hfew : cols.length ≤ 90000 := by rw [hcols]; exact Hfew.out
              obtain ⟨nc, hnc⟩ : ∃ m, m = j + k := ⟨_, rfl⟩
              have hncl : nc = cols.length := by rw [hceq, List.length_append, mns_len, names_length]; have := Hjx.out; have := Hml.out; omega
              have HCs : Hid (SeesV wc wc.heap.size A6 nc (cols.map Value.string)) := Lib.hid (by
                have h := owns_sees HC.out
                rw [htk, ← hceq, ← hnc] at h
                exact h)
              have hXt : X.data.toList = y0.1 ++ moreF M.names := by rw [HX.out, htk]
              obtain ⟨top, htop⟩ : ∃ tp : Ln, tp = (X.data.toList, y0.2) := ⟨_, rfl⟩
              have hhy : hd = rowF y0 ∧ rs = (ls.drop 1).map rowF := by
                have h1 := Hinv.out
                have h2 := Hy0.out
                cases hq : ls with
                | nil => rw [hq] at h2; simp at h2
                | cons y ys =>
                  rw [hq] at h1 h2
                  simp only [List.getElem?_cons_zero, Option.some.injEq] at h2
                  injection h1 with e1 e2
                  exact ⟨by rw [e1, h2], by rw [e2]; rfl⟩
              have Htop : Hid (sayF ([kB] ++ cols) hd = top) := Lib.hid (by
                rw [hhy.1, hceq, head_line (x0 := x0) (xl := xl) (by rw [← hhy.1]; exact Hh.out) (by rw [← Hkb.out]; rfl), htop, hXt])
              have Hrs := Lib.hid hhy.2
              have hg0 : wc.cell? ⟨gt, 0, none⟩ = some (.string X) := by rw [cell_of_row _ _ _ _ _ _ HG.out]; rfl
              have hg1 : wc.cell? ⟨gt, 1, none⟩ = some (.string X1) := by rw [cell_of_row _ _ _ _ _ _ HG.out]; rfl
              have hXe : (⟨top.1.toArray⟩ : ByteArray) = X := by rw [htop]
              have hXe2 : (⟨top.2.toArray⟩ : ByteArray) = X1 := by rw [htop, HX1.out]
              have HO5 : Hid (OwnL (wc.alloc (Obj.cells #[Value.string X, Value.string X1] 86)) wc.heap.size (some ⟨wc.heap.size, 0, none⟩) 1 1 [top]) := Lib.hid (by
                have h := own_line wc wc.heap.size top (Nat.le_refl _)
                rw [← hXe, ← hXe2]
                exact h)
              have Htp2 : Hid (top.2 = y0.2) := Lib.hid (by rw [htop])
              have Hcq := Lib.hid hcols
              have Hncl := Lib.hid hncl
              have Hcl2 : Hid (xl.length ≤ cols.length) := Lib.hid (by have := congrArg List.length hceq; rw [List.length_append, mns_len] at this; omega)
              rw [← hnc]
              clear hknm htk hcols hceq hnc hncl hXt htop hhy hXe hXe2 hklt HC HX HMk Hne HG
              have HT5 := Lib.hid (HT.out.below (HB0.out.trans (HW4.out.mono HB0.out.size)))
              have HF5 := Lib.hid (HF0.out.below HW4.out)
              have HL5 := Lib.hid ((HL0.out.below HW4.out).more HW4.out.size)
              have HO05 := Lib.hid (HO0.out.below HW4.out)
              have hrl5 : rs.length ≤ 4000 := by have := Hrl.out; have := HlN.out; omega
              go_wp2_with fail
              go_loopw [25, 26] (fun ov iv wr => ∃ (i m : Nat) (A6 : Option Addr) (c6 : Nat), i ≤ rs.length ∧ iv = .int .i64 ((i + 1 : Nat) : Int) ∧ ov = .slice A6 m c6 ∧ m ≤ i + 1 ∧ Hid (OwnL wr wc.heap.size A6 m c6 (top :: (rs.take i).filterMap (stayF cols t))) ∧ Hid (Below wc.heap.size wc wr)) (fun _ i _ => rs.length + 1 - (intOf i).toNat)
              case atStart => exact ⟨0, 1, some ⟨wc.heap.size, 0, none⟩, 1, Nat.zero_le _, rfl, rfl, Nat.le_refl _, HO5, Lib.hid ((Below.refl _ _).alloc (Nat.le_refl _) _)⟩
              case round =>
                obtain ⟨i, m, A7, c7, hi, rfl, rfl, hmi, HOw, HWl⟩ := hrel
                obtain ⟨wd, rfl⟩ : ∃ x : World, x = wr := ⟨_, rfl⟩
                have hi0 : (0 : Int) ≤ (i : Int) + 1 := by omega
                by_cases hilt : i < rs.length
                · have hin : ((i + 1 : Nat) : Int) < (lN : Int) := by have := HlN.out; have := Hrl.out; omega
                  have hin2 : (i : Int) + 1 < (lN : Int) := by omega
                  have hinN : (i : Int) + 1 < (N : Int) := by have := HN.out; have := Hrl.out; omega
                  obtain ⟨r, hr⟩ : ∃ r, rs[i]? = some r := ⟨rs[i], List.getElem?_eq_getElem hilt⟩
                  have hrm := List.mem_of_getElem? hr
                  obtain ⟨y, hy⟩ : ∃ y, ls[i + 1]? = some y := ⟨ls[i + 1]'(by have := Hrl.out; omega), List.getElem?_eq_getElem (by have := Hrl.out; omega)⟩
                  have hry : r = rowF y := by
                    have h1 := hr
                    rw [Hrs.out, List.getElem?_map, List.getElem?_drop, Nat.add_comm 1 i, hy] at h1
                    injection h1 with h1
                    exact h1.symm
                  have hrf := (HPo.out.fs r (List.mem_cons_of_mem _ hrm))
                  obtain ⟨v0, vl, hvv⟩ : ∃ v0 vl, r.fs = v0 :: vl := by
                    cases hq : r.fs with
                    | nil => have := hrf.1; rw [hq] at this; simp at this
                    | cons a l => exact ⟨a, l, rfl⟩
                  have hnmr : Cv.nm r = ⟨v0.2.toArray⟩ := by rw [Cv.nm, hvv]; rfl
                  have HFw := Lib.hid (fun (W : World) (hW : Below wc.heap.size wc W) => (HF5.out.below hW).at_ (k := i + 1) (r := r.fs) (by rw [List.map_cons, List.getElem?_cons_succ, List.getElem?_map, hr]; rfl))
                  obtain ⟨g5, Ar, nr, cr, hg5e, hg5l, hg5c, hsr, _, _⟩ := HFw.out wc (Below.refl _ _)
                  injection hg5e with hg5e
                  injection hg5e with hg5a _
                  subst hg5a
                  obtain ⟨br, or_, zr0, hAr, hbr, hzr, hcr⟩ := val_at hsr (k := 0) (by have := hsr.len; have := hrf.1; omega)
                  subst hAr
                  have hzn : zr0 = Cv.nm r := by rw [hnmr]; rw [hvv] at hzr; simpa [mns] using hzr.symm
                  subst hzn
                  have hcr0 : wc.cell? ⟨br, or_ + 1, none⟩ = some (.string (Cv.nm r)) := by rw [← hcr, Nat.zero_mul, Nat.add_zero]
                  obtain ⟨bq, oq, hAq, hbq, _, hq2⟩ := HL5.out.at_ hy
                  injection hAq with hAq
                  injection hAq with hAq1 hAq2
                  subst hAq1; subst hAq2
                  obtain ⟨En, hEn⟩ : ∃ e, e = ByteArray.mk y.2.toArray := ⟨_, rfl⟩
                  have hq3 : wc.cell? ⟨bl, ol + (i + 1) * 2 + 1, none⟩ = some (.string En) := by rw [hEn]; exact hq2
                  have hNr0 : (0 : Int) < (nr : Int) := by have := hsr.len; have := hrf.1; omega
                  have hNrn : ¬ nr = 0 := by omega
                  have hNrp : 0 < nr := by omega
                  have HSc := Lib.hid (fun (W : World) (hW : Below wc.heap.size wc W) => (⟨(hW.cell (p := ⟨g, i + 1, none⟩) hg5l).trans hg5c, (hW.cell (p := ⟨br, or_ + 1, none⟩) hbr).trans hcr0, (hW.cell (p := ⟨bl, ol + (i + 1) * 2 + 1, none⟩) hbq).trans hq3⟩ : W.cell? ⟨g, i + 1, none⟩ = some (.slice (some ⟨br, or_, none⟩) nr cr) ∧ W.cell? ⟨br, or_ + 1, none⟩ = some (.string (Cv.nm r)) ∧ W.cell? ⟨bl, ol + (i + 1) * 2 + 1, none⟩ = some (.string En)))
                  obtain ⟨hw1, hw2, hw3⟩ := HSc.out wd HWl.out
                  have HTd := Lib.hid ((HT5.out.below HWl.out))
                  have HKd := Lib.hid (kid2_any t A n c wd.heap.size (Cv.nm r) wd HTd.out.holds (Nat.le_refl _) (by omega))
                  have HSr := Lib.hid hsr
                  have Hilt := Lib.hid hilt
                  have Hst := Lib.hid (stay_step (f := stayF cols t) hr)
                  have Hen : Hid (r.en.data.toList = y.2) := Lib.hid (by rw [hry]; rfl)
                  have Hrf := Lib.hid hrf
                  have Hvv := Lib.hid hvv
                  have Hnmr := Lib.hid hnmr
                  have HEn := Lib.hid hEn
                  have hnz : (Cv.nm r).size ≤ 4000 := (HPo.out.nms.1 r hrm).1
                  clear hr hrm hy hry hrf hvv hnmr hsr hzr hcr hbq hq2 hEn hilt hbr hg5l
                  cases hat : t.atIs (Cv.nm r) with
                  | false =>
                    rw [hat] at HKd
                    have hsf : stayF cols t r = none := by rw [stayF, getT_one, hat]; rfl
                    have HOw2 : Hid (OwnL wd wc.heap.size A7 m c7 (top :: (rs.take (i + 1)).filterMap (stayF cols t))) := Lib.hid (by rw [Hst.out, hsf]; simpa using HOw.out)
                    clear hat hsf
                    go_wp2_with fail
                    (with_reducible refine HKd.out.mono ?_)
                    rintro e v1 ⟨A9, n9, c9, rfl, _, _, _, q, rfl⟩
                    have HH := Lib.hid (below_drewN HWl.out q)
                    have HO9 := Lib.hid (OwnL.below HOw2.out (below_drewN (Below.refl wd.heap.size wd) q))
                    go_wp2_with fail
                    go_roundw
                    case rel => exact ⟨i + 1, m, A7, c7, Hilt.out, by go_num, rfl, by omega, HO9, HH⟩
                    case measure => have := Hilt.out; simp [intOf]; omega
                  | true =>
                    rw [hat] at HKd
                    obtain ⟨kt, hkt⟩ : ∃ kt, kt = kidT t (Cv.nm r) := ⟨_, rfl⟩
                    have hfk : allT fcB kt = true := by
                      have h1 := allT_mem Hall.out _ ((mem_eds (AscD.asc Hasc.out) (Cv.nm r) kt).2 ⟨hat, hkt.symm⟩)
                      rw [frB, Bool.and_eq_true] at h1
                      exact h1.2
                    have hak : kt.Asc := by rw [hkt]; exact AscD.asc (kidT_asc Hasc.out)
                    have hsf : stayF cols t r = some (lineF (Cv.nm r) cols kt r.fs, y.2) := by rw [stayF, getT_one, hat, if_pos rfl, if_pos rfl, sayF, Hen.out, lineF, hkt]
                    rw [← hkt] at HKd
                    have HLine := Lib.hid (fun (W : World) (hW : Below wc.heap.size wc W) (A9 : Option Addr) (n9 c9 : Nat) (hk : Holds W W.heap.size A9 n9 kt) (h9 : n9 ≤ 1000000) => line_any r.fs (Cv.nm r) kt cols (some ⟨br, or_, none⟩) A9 A6 nr cr n9 c9 nc c6 W ((HSr.out.below hW).more hW.size) (fun a l h => by
                      rw [Hvv.out] at h
                      injection h with h _
                      rw [← h, Hnmr.out]) (by have := HSr.out.len; have := Hrf.out.1; have := Hncl.out; have := Hcl2.out; omega) Hrf.out.2 hnz hk hak hfk h9 (SeesV.more hW.size (HCs.out.below hW)) (by have := Hncl.out; omega))
                    obtain ⟨LT, hLT⟩ : ∃ l, l = lineF (Cv.nm r) cols kt r.fs := ⟨_, rfl⟩
                    rw [← hLT] at HLine hsf
                    have Hsf := Lib.hid hsf
                    have hks : kt.size ≤ 400 := by rw [hkt]; have := kidT_size t (Cv.nm r); omega
                    have hN46 : m + 1 ≤ 1099511627776 := by omega
                    have HArr : Hid ((#[Value.string (mkB LT), Value.string En] : Array Value) = #[Li.encs LT, Li.encs y.2]) := Lib.hid (by rw [HEn.out]; rfl)
                    clear hat hkt hLT hsf hak hfk
                    go_wp2_with fail
                    (with_reducible refine HKd.out.mono ?_)
                    rintro e v1 ⟨A9, n9, c9, rfl, hk9, _, _, q, hq⟩
                    have hn9 : n9 ≤ 1000000 := by have := hk9.len; have := kt.len_size; omega
                    have p0 : Below wd.heap.size wd v1 := by rw [hq]; exact below_drewN (Below.refl _ _) q
                    clear hq
                    have HP0 := Lib.hid (fun (W : World) (hW : Below wd.heap.size wd W) => (HWl.out.trans (hW.mono HWl.out.size) : Below wc.heap.size wc W))
                    have HLi := Lib.hid (fun (W : World) (hW : Below wd.heap.size wd W) => HLine.out W (HP0.out W hW) A9 n9 c9 ((hk9.below hW).more hW.size) hn9)
                    have HOq := Lib.hid (fun (W : World) (hW : Below wd.heap.size wd W) => OwnL.below HOw.out hW)
                    clear hk9
                    go_upto_region 37 with (fail)
                    go_region_held3 (fun W => W.cell? ⟨g, i + 1, none⟩ = some (.slice (some ⟨br, or_, none⟩) nr cr) ∧ W.cell? ⟨br, or_ + 1, none⟩ = some (.string (Cv.nm r)) ∧ W.cell? ⟨bl, ol + (i + 1) * 2 + 1, none⟩ = some (.string En))
                      (first | exact HSc.out _ (HP0.out _ p0.drew) | exact HSc.out _ (HP0.out _ p1) | exact HSc.out _ (HP0.out _ (p1.alloc p1.size _)) | exact HSc.out _ p2)
                      (first
                      | (go_at_call 41; (with_reducible refine (HLi.out _ p0.drew).mono ?_); rintro e v2 ⟨rfl, hb2⟩; have p1 := p0.drew.trans (hb2.mono p0.drew.size))
                      | (refine step_append_row rfl (.tmp 176) (.tmp 197) _ _ rfl elem_line rfl rfl ((HOq.out _ p1).alloc _) (src_line v2 LT y.2 _ HArr.out _ rfl) hN46 (HP0.out _ (p1.alloc p1.size _)).size ?_; intro A8 c8 w11 ho8 hg8 hat8; have p2 := (HP0.out _ (p1.alloc p1.size (Obj.cells #[.string (mkB LT), .string En] 86))).grown hg8 (HP0.out _ (p1.alloc p1.size _)).size (fun q hq => (HOw.out.lt q hq).1)))
                    all_goals
                      have HO8 : Hid (OwnL w11 wc.heap.size A8 (m + 1) c8 (top :: (rs.take (i + 1)).filterMap (stayF cols t))) := Lib.hid (by
                        rw [Hst.out, Hsf.out, ← List.cons_append]
                        unfold OwnL
                        rw [lcells_append]
                        exact ho8)
                      have HB8 := Lib.hid p2
                      clear ho8 hg8 hat8 p2
                      go_wp2_with fail
                      go_roundw
                      case rel => exact ⟨i + 1, m + 1, A8, c8, Hilt.out, by go_num, rfl, by omega, HO8, HB8⟩
                      case measure => have := Hilt.out; simp [intOf]; omega
                · have hir : i = rs.length := by omega
                  have hin : ¬ ((i + 1 : Nat) : Int) < (lN : Int) := by have := HlN.out; have := Hrl.out; omega
                  have hin2 : ¬ (i : Int) + 1 < (lN : Int) := by omega
                  have hm4 : m ≤ 4001 := by omega
                  obtain ⟨L5, hL5⟩ : ∃ l, l = top :: rs.filterMap (stayF cols t) := ⟨_, rfl⟩
                  have HO6 : Hid (OwnL wd wc.heap.size A7 m c7 (L5 ++ ((eds t).take 0).filterMap (freshL cols T E.data.toList))) := Lib.hid (by
                    have h := HOw.out
                    rw [hir, List.take_length, ← hL5] at h
                    simpa using h)
                  have HL5e := Lib.hid hL5
                  have hTl : no ≤ 1000000 := by have := HO05.out.holds.len; have := T.len_size; have := HTz.out; omega
                  clear hL5 hir hilt HOw hmi
                  go_wp2_with fail
                  go_loopw [25, 29] (fun ov iv wr => ∃ (i m : Nat) (A7 : Option Addr) (c7 : Nat), i ≤ n ∧ iv = .int .i64 i ∧ ov = .slice A7 m c7 ∧ m ≤ 4001 + i ∧ Hid (OwnL wr wc.heap.size A7 m c7 (L5 ++ ((eds t).take i).filterMap (freshL cols T E.data.toList))) ∧ Hid (Below wc.heap.size wc wr)) (fun _ i _ => n - (intOf i).toNat)
                  case atStart => exact ⟨0, m, A7, c7, Nat.zero_le _, rfl, rfl, hm4, HO6, HWl⟩
                  case round =>
                    obtain ⟨i, m, A7, c7, hi, rfl, rfl, hmi, HOw, HWl⟩ := hrel
                    obtain ⟨we, rfl⟩ : ∃ x : World, x = wr := ⟨_, rfl⟩
                    have hi0 : (0 : Int) ≤ (i : Int) := by omega
                    by_cases hilt : i < n
                    · have hin : (i : Int) < (n : Int) := by omega
                      obtain ⟨b2, o2, s2, kt, r2, A2, n2, c2, rfl, hb2, hs2, hc2, _, _, hk2, _, hd2, _⟩ := HT5.out.holds.split i hilt
                      have hes := eds_at hd2
                      have HSc := Lib.hid (fun (W : World) (hW : Below wc.heap.size wc W) => (⟨(hW.cell (p := ⟨b2, o2 + i * 2, none⟩) hb2).trans hs2, (hW.cell (p := ⟨b2, o2 + i * 2 + 1, none⟩) hb2).trans hc2⟩ : W.cell? ⟨b2, o2 + i * 2, none⟩ = some (.string s2) ∧ W.cell? ⟨b2, o2 + i * 2 + 1, none⟩ = some (.slice A2 n2 c2)))
                      obtain ⟨hw1, hw2⟩ := HSc.out we HWl.out
                      have hOe := HO05.out.below HWl.out
                      have HKd := Lib.hid (kid2_any T Ao no co we.heap.size s2 we hOe.holds (Nat.le_refl _) (by omega))
                      have hmem := List.mem_of_getElem? hes
                      have hsz2 : s2.size ≤ 4000 := (HPo.out.nms.2 s2 (by
                        have h := drop_names hd2
                        exact List.mem_of_getElem? h)).1
                      have hfk : allT fcB kt = true := by
                        have h1 := allT_mem Hall.out _ hmem
                        rw [frB, Bool.and_eq_true] at h1
                        exact h1.2
                      have hak : kt.Asc := by
                        have h1 := (mem_eds (AscD.asc Hasc.out) s2 kt).1 hmem
                        rw [← h1.2]
                        exact AscD.asc (kidT_asc Hasc.out)
                      have hks : n2 ≤ 1000000 := by
                        have h1 := hk2.len
                        have h2 := kt.len_size
                        have h3 := size_drop t i
                        rw [hd2, Tr.size] at h3
                        omega
                      have Hst := Lib.hid (flt_step (f := freshL cols T E.data.toList) hes)
                      have Hilt := Lib.hid hilt
                      have hN46 : m + 1 ≤ 1099511627776 := by omega
                      have HLine := Lib.hid (fun (W : World) (hW : Below wc.heap.size wc W) => line_any [] s2 kt cols none A2 A6 0 0 n2 c2 nc c6 W (SeesL.nil _ _ _) (fun _ _ h => by cases h) (Nat.zero_le _) (fun _ h => by cases h) hsz2 ((hk2.below hW).more hW.size) hak hfk hks (SeesV.more hW.size (HCs.out.below hW)) (by have := Hncl.out; omega))
                      clear hd2 hes hmem hk2 hs2 hc2 hb2 hak hfk hOe hilt
                      cases hat : T.atIs s2 with
                      | true =>
                        rw [hat] at HKd
                        have hsf : freshL cols T E.data.toList (s2, kt) = none := by rw [freshL, if_pos hat]
                        have HOw2 : Hid (OwnL we wc.heap.size A7 m c7 (L5 ++ ((eds t).take (i + 1)).filterMap (freshL cols T E.data.toList))) := Lib.hid (by rw [Hst.out, hsf]; simpa using HOw.out)
                        clear hat hsf
                        go_wp2_with fail
                        (with_reducible refine HKd.out.mono ?_)
                        rintro e v1 ⟨A9, n9, c9, rfl, _, _, _, q, rfl⟩
                        have HH := Lib.hid (below_drewN HWl.out q)
                        have HO9 := Lib.hid (OwnL.below HOw2.out (below_drewN (Below.refl we.heap.size we) q))
                        go_wp2_with fail
                        go_roundw
                        case rel => exact ⟨i + 1, m, A7, c7, Hilt.out, by go_num, rfl, by omega, HO9, HH⟩
                        case measure => have := Hilt.out; simp [intOf]; omega
                      | false =>
                        rw [hat] at HKd
                        obtain ⟨LT, hLT⟩ : ∃ l, l = lineF s2 cols kt [] := ⟨_, rfl⟩
                        have hsf : freshL cols T E.data.toList (s2, kt) = some (LT, E.data.toList) := by rw [freshL, if_neg (by rw [hat]; decide), hLT]
                        rw [← hLT] at HLine
                        have Hsf := Lib.hid hsf
                        have HArr : Hid ((#[Value.string (mkB LT), Value.string E] : Array Value) = #[Li.encs LT, Li.encs E.data.toList]) := Lib.hid (by rw [show Li.encs E.data.toList = Value.string E by rw [Li.encs, show (⟨E.data.toList.toArray⟩ : ByteArray) = E from mkB_list E]]; rfl)
                        clear hat hLT hsf
                        go_wp2_with fail
                        (with_reducible refine HKd.out.mono ?_)
                        rintro e v1 ⟨A9, n9, c9, rfl, _, _, _, q, hq⟩
                        have p0 : Below we.heap.size we v1 := by rw [hq]; exact below_drewN (Below.refl _ _) q
                        clear hq
                        have HP0 := Lib.hid (fun (W : World) (hW : Below we.heap.size we W) => (HWl.out.trans (hW.mono HWl.out.size) : Below wc.heap.size wc W))
                        have HOq := Lib.hid (fun (W : World) (hW : Below we.heap.size we W) => OwnL.below HOw.out hW)
                        go_upto_region 43 with (fail)
                        go_region_held3 (fun W => W.cell? ⟨b2, o2 + i * 2, none⟩ = some (.string s2) ∧ W.cell? ⟨b2, o2 + i * 2 + 1, none⟩ = some (.slice A2 n2 c2))
                          (first | exact HSc.out _ (HP0.out _ p0.drew) | exact HSc.out _ (HP0.out _ p1) | exact HSc.out _ (HP0.out _ (p1.alloc p1.size _)) | exact HSc.out _ p2)
                          (first
                          | (go_at_call 41; (with_reducible refine (HLine.out _ (HP0.out _ p0.drew)).mono ?_); rintro e v2 ⟨rfl, hb2⟩; have p1 := p0.drew.trans (hb2.mono p0.drew.size))
                          | (refine step_append_row rfl (.tmp 217) (.tmp 232) _ _ rfl elem_line rfl rfl ((HOq.out _ p1).alloc _) (src_line v2 LT E.data.toList _ HArr.out _ rfl) hN46 (HP0.out _ (p1.alloc p1.size _)).size ?_; intro A8 c8 w11 ho8 hg8 hat8; have p2 := (HP0.out _ (p1.alloc p1.size (Obj.cells #[.string (mkB LT), .string E] 86))).grown hg8 (HP0.out _ (p1.alloc p1.size _)).size (fun q hq => (HOw.out.lt q hq).1)))
                        all_goals
                          have HO8 : Hid (OwnL w11 wc.heap.size A8 (m + 1) c8 (L5 ++ ((eds t).take (i + 1)).filterMap (freshL cols T E.data.toList))) := Lib.hid (by
                            rw [Hst.out, Hsf.out, ← List.append_assoc]
                            unfold OwnL
                            rw [lcells_append]
                            exact ho8)
                          have HB8 := Lib.hid p2
                          clear ho8 hg8 hat8 p2
                          go_wp2_with fail
                          go_roundw
                          case rel => exact ⟨i + 1, m + 1, A8, c8, Hilt.out, by go_num, rfl, by omega, HO8, HB8⟩
                          case measure => have := Hilt.out; simp [intOf]; omega
                    · have hin : ¬ (i : Int) < (n : Int) := by omega
                      have htk : (eds t).take i = eds t := List.take_of_length_le (by rw [← len_eds]; have := HT5.out.holds.len; omega)
                      obtain ⟨LL, hLL⟩ : ∃ l, l = L5 ++ ((eds t).take i).filterMap (freshL cols T E.data.toList) := ⟨_, rfl⟩
                      rw [← hLL] at HOw
                      have hEl : E.data.toList = endOf ls := by rw [HE.out]
                      have hE2 : E.data.toList.length ≤ 2 := by
                        rw [hEl]
                        refine endB fun x hx => ?_
                        have h1 : rowF x ∈ hd :: rs := by rw [Hinv.out]; exact List.mem_map_of_mem hx
                        have h2 : (rowF x).en.data.toList = x.2 := rfl
                        rw [← h2]
                        rcases Hfo.out.ends _ h1 with (e | e) | e <;> rw [e] <;> decide
                      have hLb := ll_len (cols := cols) (t := t) (T := T) (E := E.data.toList) (top := top) (hd := hd) (rs := rs) (n0 := i) (by rw [Hcq.out]; exact Hcz.out) hfew Htop.out (fun r hr => (HPo.out.nms.1 r hr).1) (fun s hs => (HPo.out.nms.2 s hs).1) (fun r hr => (HPo.out.fs r hr).2) (fun r hr => by rcases Hfo.out.ends r hr with (e | e) | e <;> rw [e] <;> decide) hE2 (fun a b => (HPo.out.vals a b).1) (fun e he => by
                        have h1 := (mem_eds (AscD.asc Hasc.out) e.1 e.2).1 he
                        rw [getT_one, if_pos h1.1]; exact h1.2)
                      rw [← HL5e.out, ← hLL] at hLb
                      have hjoin : join (ended E.data.toList LL) = putB hd xl rs t := by
                        rw [hLL, htk, HL5e.out, Hcq.out]
                        refine put_same (AscD.asc Hasc.out) Hnms.out (by rw [← Hcq.out]; exact Htop.out) ?_
                        rw [hEl]
                        have h1 := Hy0.out
                        cases hq : ls with
                        | nil => rw [hq] at h1; simp at h1
                        | cons a l =>
                          rw [hq] at h1
                          simp only [List.getElem?_cons_zero, Option.some.injEq] at h1
                          rw [endOf, endOf, Htp2.out, h1]
                      have HEnd := Lib.hid (rended_any LL E A7 m c7 wc.heap.size we HOw.out (by omega))
                      have HJ := Lib.hid (fun (W : World) (h : OwnL W wc.heap.size A7 m c7 (ended E.data.toList LL)) => rjoin_any (ended E.data.toList LL) A7 m c7 W h.sees (by omega) (fun x hx => by have := ended_len hE2 hLb x hx; omega))
                      have Hown := Lib.hid (fun q hq => (HOw.out.lt q hq).1)
                      rw [hjoin] at HJ
                      obtain ⟨P, hP⟩ : ∃ P, P = putB hd xl rs t := ⟨_, rfl⟩
                      have hz2 := Hz.out
                      rw [← hP] at HJ hz2
                      have hPs : (mkB P).size = P.length := rfl
                      have Hz2 := Lib.hid hz2
                      clear hLL htk hEl hE2 hLb hjoin hP hz2 hilt
                      go_wp2_with fail
                      (with_reducible refine HEnd.out.mono ?_)
                      rintro e v1 ⟨rfl, hoe, hge⟩
                      have HB1 := Lib.hid (HWl.out.grown hge HWl.out.size Hown.out)
                      have HJ1 := Lib.hid (HJ.out v1 hoe)
                      clear hoe hge
                      go_wp2_with fail
                      (with_reducible refine HJ1.out.mono ?_)
                      rintro e v2 ⟨rfl, q, rfl⟩
                      have HB2 := Lib.hid (HB0.out.trans ((HW4.out.trans ((below_drewN HB1.out q).mono HW4.out.size)).mono HB0.out.size))
                      by_cases hl : 4000 < P.length
                      · have hl2 : (4000 : Int) < ((mkB P).size : Int) := by rw [hPs]; omega
                        have HZ : Hid (zr = ([], 5)) := Lib.hid (by rw [Hz2.out, if_pos hl])
                        clear hl hPs
                        go_wp2_with fail
                        refine bodyPost_ret (v := .tuple #[.string ⟨#[]⟩, .int .i64 5]) (by simp [results, Tryz.results16, go_sem]) rfl ?_
                        exact ⟨by rw [HZ.out]; rfl, HB2.out⟩
                      · have hl2 : ¬ (4000 : Int) < ((mkB P).size : Int) := by rw [hPs]; omega
                        have HZ : Hid (zr = (P, 0)) := Lib.hid (by rw [Hz2.out, if_neg hl])
                        clear hl hPs
                        go_wp2_with fail
                        refine bodyPost_ret (v := .tuple #[.string (mkB P), .int .i64 0]) (by simp [results, Tryz.results16, go_sem]) rfl ?_
                        exact ⟨by rw [HZ.out], HB2.out⟩
end Go.Proofs.YtkgpjohfkfbfhaaGreatDoor.Cv
