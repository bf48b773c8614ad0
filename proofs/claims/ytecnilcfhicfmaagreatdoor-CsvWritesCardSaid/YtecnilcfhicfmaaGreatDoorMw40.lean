/- csv.Put of a file that is sound and a tree that fits. Conditions: as the file's put's. · csv: what CsvWrites' trees make of its file. No conditions. -/
import Derived.Test.YtecnilcfhicfmaaGreatDoorCwPut
import Derived.Test.YtecnilcfhicfmaaGreatDoorMw39
import Derived.Test.YtecnilcfhicfmaaGreatDoorCvWord
namespace Go.Proofs.YtecnilcfhicfmaaGreatDoor.Cv
open Go.RowKit Go.Proofs.YtecnilcfhicfmaaGreatDoor.Jd Go.Proofs.YtecnilcfhicfmaaGreatDoor.Li Go.Proofs.YtecnilcfhicfmaaGreatDoor.Pt
set_option maxRecDepth 100000

theorem seesR_more {w : World} {B B' n : Nat} {A : Option Addr} {rs : List Rw} (h : SeesR w B A n rs) (hB : B ≤ B') : SeesR w B' A n rs :=
  ⟨h.len, fun k r hr => by
    obtain ⟨b, o, Af, nf, cf, h1, h2, h3, h4, h5, h6⟩ := h.at_ k r hr
    exact ⟨b, o, Af, nf, cf, h1, Nat.lt_of_lt_of_le h2 hB, h3, h4, h5.more hB, h6⟩⟩

set_option maxHeartbeats 4000000 in
theorem csvPut_any (s : ByteArray) (hd : Rw) (x0 : Ln) (xl : List Ln) (rs : List Rw) (T t : Tr) (A : Option Addr) (n c : Nat) (w : World)
    (hp : ∀ x ∈ split s.data.toList, ∀ z ∈ mns (fldsL x.1), Pl z) (hr : readF s.data.toList = (T, 0, 0)) (hrs : (rowsF [] 0 (split s.data.toList)).1 = hd :: rs)
    (hO : PutOk hd x0 xl rs t) (hF : fitsC t = 0) (hnm : Tr.Nm t) (hpl : PlT t) (hJ : (putB hd xl rs t).length ≤ 4000)
    (ht : Holds w w.heap.size A n t) (hn : n ≤ c) (hc : c ≤ maxLen) (hG : Gl w) :
    Calls Tryz.prog 8 #[.slice A n c, .string s] w fun e w' => e = .returned (.tuple #[.string (mkB (putB hd xl rs t)), .int .i64 0]) ∧ Below w.heap.size w w' := by
  have hR := read_any s w hp hG
  rw [hr, hrs] at hR
  have HR := Lib.hid hR
  have hFi := fun (W : World) (hW : Below w.heap.size w W) => fits_any t A n c W ((ht.below hW).more hW.size) hn hc (by have := hO.len; omega) hnm hpl
  rw [hF] at hFi
  have HFi := Lib.hid hFi
  have HPu := Lib.hid (fun (W : World) (hW : Below w.heap.size w W) (Af Ar At : Option Addr) (nf cf nr cr nt ct : Nat) (hf : SeesL W W.heap.size Af nf hd.fs) (hr : SeesR W W.heap.size Ar nr rs) =>
    put_any hd x0 xl rs t Af Ar At A nf cf nr cr nt ct n c W hO hf hr ((ht.below hW).more hW.size) (hG.below hW) (by omega))
  have hj : ((mkB (putB hd xl rs t)).size : Int) ≤ 4000 := by
    have e : (mkB (putB hd xl rs t)).size = (putB hd xl rs t).length := rfl
    omega
  obtain ⟨P, hP⟩ : ∃ P, P = mkB (putB hd xl rs t) := ⟨_, rfl⟩
  have HPu2 : Hid (∀ (W : World) (hW : Below w.heap.size w W) (Af Ar At : Option Addr) (nf cf nr cr nt ct : Nat) (hf : SeesL W W.heap.size Af nf hd.fs) (hr : SeesR W W.heap.size Ar nr rs),
      Calls Tryz.prog 15 #[.agg #[.slice Af nf cf, .string hd.en, .slice Ar nr cr, .slice At nt ct], .slice A n c] W fun e w' => e = .returned (.string P) ∧ Below W.heap.size W w') := by
    rw [hP]; exact HPu
  rw [← hP] at hj ⊢
  clear hR hp hr hrs hO hF hnm hpl hJ ht hn hc hG hFi HPu hP
  go_enter Tryz.func8, Tryz.ntmps8
  go_wp2_with fail
  (with_reducible refine HR.out.mono ?_)
  rintro e w1 ⟨Ah, Ar, At, nh, ch, nr, cr, ct, ee, rfl, hrd, hb⟩
  obtain ⟨h, t', e1, e2, _, _, _, _, hs1, hs2⟩ := hrd.rows rfl
  injection e1 with e1 e3
  subst e1; subst e3; subst e2
  have hs1' := hs1.sees (B := w1.heap.size) (fun b hb => hb.2)
  have hs2' := hs2.sees (B := w1.heap.size) (fun b hb => hb.2)
  have HS1 := Lib.hid hs1'
  have HS2 := Lib.hid hs2'
  have HB := Lib.hid hb
  clear hs1 hs2 hs1' hs2' hrd hb
  dsimp only
  have hb2 : ∀ o : Obj, Below w.heap.size w (w1.alloc o) := fun o => HB.out.alloc HB.out.size o
  have HB2 := Lib.hid hb2
  clear hb2
  go_wp2_with fail
  (with_reducible refine (HFi.out _ (HB2.out _)).mono ?_)
  rintro e w2 ⟨rfl, hb2⟩
  have hg2 := (hb2.block w1.heap.size (by simp)).trans (heap_alloc_new w1 _)
  have c0 := cell_of_row _ w1.heap.size 0 _ _ _ hg2
  have c1 := cell_of_row _ w1.heap.size 1 _ _ _ hg2
  have c2 := cell_of_row _ w1.heap.size 2 _ _ _ hg2
  have c3 := cell_of_row _ w1.heap.size 3 _ _ _ hg2
  have hw12 : Below w1.heap.size w1 w2 := ((Below.refl w1.heap.size w1).alloc (Nat.le_refl _) _).trans (hb2.mono (by simp))
  have hq2 := HB.out.trans (hw12.mono HB.out.size)
  have HP := Lib.hid (HPu2.out w2 hq2 Ah Ar At nh ch nr cr T.len ct ((HS1.out.below hw12).more hw12.size) (seesR_more (HS2.out.below hw12) hw12.size))
  have Hq2 := Lib.hid hq2
  clear hb2 hg2 hw12 hq2
  go_wp2_with fail
  (with_reducible refine HP.out.mono ?_)
  rintro e w3 ⟨rfl, hb3⟩
  go_wp2_with fail
  refine bodyPost_ret (v := .tuple #[.string P, .int .i64 0]) (by simp [results, Tryz.results8, go_sem]) rfl ?_
  exact ⟨rfl, Hq2.out.trans (hb3.mono Hq2.out.size)⟩
end Go.Proofs.YtecnilcfhicfmaaGreatDoor.Cv
namespace Go.Proofs.YtecnilcfhicfmaaGreatDoor.Cv
open Go.RowKit Go.Sort Go.Proofs.YtecnilcfhicfmaaGreatDoor.Jd Go.Proofs.YtecnilcfhicfmaaGreatDoor.Li Go.Proofs.YtecnilcfhicfmaaGreatDoor.Pt
set_option maxRecDepth 100000

/-- Names of ASCII bytes, short. -/
def okB : Tr → Bool
  | .nil => true
  | .cons s k r => decide (s.size ≤ 1000) && s.data.toList.all (fun b => decide (b.toNat < 128)) && okB k && okB r
theorem okB_nm : ∀ t : Tr, okB t = true → Tr.Nm t
  | .nil, _ => trivial
  | .cons s k r, h => by
    simp only [okB, Bool.and_eq_true, decide_eq_true_eq] at h
    exact ⟨by omega, okB_nm k h.1.2, okB_nm r h.2⟩
theorem okB_pl : ∀ t : Tr, okB t = true → PlT t
  | .nil, _ => trivial
  | .cons s k r, h => by
    simp only [okB, Bool.and_eq_true, decide_eq_true_eq] at h
    exact ⟨fun j b hb => by simpa using List.all_eq_true.1 h.1.1.2 b (List.mem_of_getElem? hb), okB_pl k h.1.2, okB_pl r h.2⟩
def txB (m : ByteArray) : Bool := decide (m.size ≤ 1000) && m.data.toList.all (fun b => decide (b.toNat < 128))
theorem txB_tx {m : ByteArray} (h : txB m = true) : Tx m := by
  simp only [txB, Bool.and_eq_true, decide_eq_true_eq] at h
  exact ⟨by omega, fun j b hb => by simpa using List.all_eq_true.1 h.2 b (List.mem_of_getElem? hb)⟩
theorem okB_names : ∀ t : Tr, okB t = true → ∀ s ∈ t.names, txB s = true
  | .nil, _, s, h => by cases h
  | .cons s k r, h, x, hx => by
    simp only [okB, Bool.and_eq_true] at h
    rcases List.mem_cons.1 hx with rfl | hx
    · simp only [txB, Bool.and_eq_true]; exact h.1.1
    · exact okB_names r h.2 x hx
theorem okB_kids : ∀ t : Tr, okB t = true → ∀ k ∈ kidsL t, okB k = true
  | .nil, _, k, h => by cases h
  | .cons s k r, h, x, hx => by
    simp only [okB, Bool.and_eq_true] at h
    rcases List.mem_cons.1 hx with rfl | hx
    · exact h.1.2
    · exact okB_kids r h.2 x hx
theorem kidT_mem : ∀ (t : Tr) (p : ByteArray), kidT t p = .nil ∨ kidT t p ∈ kidsL t
  | .nil, _ => .inl rfl
  | .cons s k r, p => by
    unfold kidT
    split
    · rcases kidT_mem r p with h | h
      · exact .inl h
      · exact .inr (List.mem_cons_of_mem _ h)
    · split
      · exact .inr (by simp [kidsL])
      · exact .inl rfl
theorem get_kid {t : Tr} {p : ByteArray} (h : (getT t [p]).2 = true) : t.atIs p = true ∧ (getT t [p]).1 = kidT t p := by
  rw [getT] at h ⊢
  split at h
  · rename_i h1
    exact ⟨h1, by rw [if_pos h1]; rfl⟩
  · cases h
theorem get_ok {t : Tr} (h : okB t = true) (p : ByteArray) : okB (getT t [p]).1 = true := by
  rw [getT]
  split
  · show okB (kidT t p) = true
    rcases kidT_mem t p with h1 | h1
    · rw [h1]; rfl
    · exact okB_kids t h _ h1
  · rfl
/-- In order at each level. -/
def ascDB : Tr → Bool
  | .nil => true
  | .cons s k r => decide (List.Pairwise (· < ·) (Tr.cons s k r).bn) && ascDB k && ascDB r
theorem ascDB_asc : ∀ t : Tr, ascDB t = true → AscD t
  | .nil, _ => trivial
  | .cons s k r, h => by
    simp only [ascDB, Bool.and_eq_true, decide_eq_true_eq] at h
    exact ⟨h.1.1, ascDB_asc k h.1.2, ascDB_asc r h.2⟩
/-- A level of values: no level below is empty. -/
def fullB : Tr → Bool
  | .nil => true
  | .cons _ k r => decide (0 < k.len) && fullB r
theorem at_full : ∀ (t : Tr) (p : ByteArray), fullB t = true → t.atIs p = true → 0 < (kidT t p).len
  | .nil, p, _, h => by simp [Tr.atIs, Tr.atN, dropT_zero, Tr.headIs] at h
  | .cons s k r, p, h, h2 => by
    simp only [fullB, Bool.and_eq_true, decide_eq_true_eq] at h
    rcases cases3 s p with c1 | ⟨c1, c2⟩ | ⟨c1, c2, _⟩
    · rw [Pt.atIs_lt c1] at h2
      rw [Pt.kidT_lt c1]
      exact at_full r p h.2 h2
    · rw [Pt.kidT_eq c1 c2]
      exact h.1
    · rw [Pt.atIs_ge c1, c2] at h2; cases h2
theorem fullB_full {t : Tr} (h : fullB t = true) : Full t := fun c hc => by
  obtain ⟨h1, h2⟩ := get_kid hc
  rw [h2]
  exact at_full t c h h1
def fulls : Tr → Bool
  | .nil => true
  | .cons _ k r => fullB k && fulls r
theorem fulls_kid : ∀ (t : Tr), fulls t = true → ∀ k ∈ kidsL t, fullB k = true
  | .nil, _, k, h => by cases h
  | .cons s k r, h, x, hx => by
    simp only [fulls, Bool.and_eq_true] at h
    rcases List.mem_cons.1 hx with rfl | hx
    · exact h.1
    · exact fulls_kid r h.2 x hx
theorem val_tx {t : Tr} (h : okB t = true) (c : ByteArray) : Tx (valF t c) := by
  unfold valF
  have h1 := get_ok h c
  split
  · rename_i s _ _ e
    rw [e] at h1
    simp only [okB, Bool.and_eq_true] at h1
    exact txB_tx (by simp only [txB, Bool.and_eq_true]; exact h1.1.1)
  · exact ⟨by decide, fun j b hb => by simp at hb⟩
/-- All that a tree's put asks, reckoned. -/
theorem ok_of {hd : Rw} {x0 : Ln} {xl : List Ln} {rs : List Rw} {t : Tr} {C : List ByteArray} (h1 : hd.fs = x0 :: xl) (h2 : rs.length ≤ 5000 ∧ xl.length ≤ 5000 ∧ t.size ≤ 90000)
    (h3 : ((hd :: rs).all fun r => decide (r.fs.length = xl.length + 1) && r.fs.all fun x => decide (x.1.length ≤ 4000)) = true) (h4 : ascDB t = true) (h5 : fulls t = true) (h6 : okB t = true)
    (h7 : (rs.all fun r => txB (nm r)) = true) (h8 : colsP xl t = C) (h9 : C.all txB = true) (h10 : C.length ≤ 90000) : PutOk hd x0 xl rs t where
  head := h1
  len := h2
  fs := fun r hr => by
    have := List.all_eq_true.1 h3 r hr
    simp only [Bool.and_eq_true, decide_eq_true_eq] at this
    exact ⟨this.1, fun x hx => by simpa using List.all_eq_true.1 this.2 x hx⟩
  asc := ascDB_asc t h4
  full := fun name hn => by
    obtain ⟨h, e⟩ := get_kid hn
    rw [e]
    rcases kidT_mem t name with h | h
    · rw [h]; exact fullB_full rfl
    · exact fullB_full (fulls_kid t h5 _ h)
  vals := fun name c => val_tx (get_ok h6 name) c
  nms := ⟨fun r hr => txB_tx (List.all_eq_true.1 h7 r hr), fun s hs => txB_tx (okB_names t h6 s hs)⟩
  cols := fun m hm => txB_tx (List.all_eq_true.1 h9 m (by rw [← h8]; exact hm))
  few := by rw [h8]; exact h10
theorem names_asc {L : List ByteArray} (h : List.Pairwise (· < ·) (L.map (·.data.toList))) : namesOf L = L.map (·.data.toList) := asc_eq (namesOf_pair _) h (fun x => namesOf_mem L x)
theorem putB_eq {hd : Rw} {xl : List Ln} {rs : List Rw} {t : Tr} {C : List ByteArray} {F : List Bs} (hC : colsP xl t = C) (hF : lessF (namesOf t.names) (rs.map nm) = F) :
    putB hd xl rs t = join (Li.insert ([sayF ([kB] ++ C) hd] ++ rs.filterMap (stayF C t)) ([sayF ([kB] ++ C) hd] ++ rs.filterMap (stayF C t)).length (F.map (freshB C t))) := by
  unfold putB stayL
  rw [hC, hF]

def wX0 : Ln := ([107, 101, 121], [107, 101, 121])
def wXl : List Ln := [([97], [97]), ([34, 98, 34], [98])]
def wHd : Rw := ⟨wX0 :: wXl, ⟨#[10]⟩⟩
def wRs : List Rw := [⟨[([120], [120]), ([34, 49, 34], [49]), ([50], [50])], ⟨#[10]⟩⟩, ⟨[([121], [121]), ([], []), ([34, 34], [])], ⟨#[]⟩⟩]
def wS : ByteArray := ⟨#[107, 101, 121, 44, 97, 44, 34, 98, 34, 10, 120, 44, 34, 49, 34, 44, 50, 10, 121, 44, 44, 34, 34]⟩
instance rwEqW : DecidableEq Rw := fun a b =>
  if h : a.fs = b.fs ∧ a.en = b.en then isTrue (by cases a; cases b; cases h.1; cases h.2; rfl) else isFalse (fun hab => h (by cases hab; exact ⟨rfl, rfl⟩))
theorem w_rows : rowsF [] 0 (split wS.data.toList) = (wHd :: wRs, 0, 0) := by decide +kernel
theorem w_read : readF wS.data.toList = (treeR (wHd :: wRs), 0, 0) := readF_ok (by decide) w_rows rfl (by decide +kernel)
theorem w_pl : plB wS.data.toList = true := by decide +kernel
def wT0 : Tr := (.cons ⟨#[120]⟩ (.cons ⟨#[97]⟩ (.cons ⟨#[49]⟩ .nil .nil) (.cons ⟨#[98]⟩ (.cons ⟨#[50]⟩ .nil .nil) .nil)) (.cons ⟨#[121]⟩ .nil .nil))
theorem w_cols0 : colsP wXl wT0 = [⟨#[97]⟩, ⟨#[98]⟩] := by
  have e : colsF wT0 = [[97], [98]] := (names_asc (by decide +kernel)).trans (by decide +kernel)
  unfold colsP
  rw [e]
  decide +kernel
theorem w_new0 : lessF (namesOf wT0.names) (wRs.map nm) = [] := by
  rw [names_asc (by decide +kernel)]
  decide +kernel
theorem w_put0 : putB wHd wXl wRs wT0 = [107, 101, 121, 44, 97, 44, 34, 98, 34, 10, 120, 44, 34, 49, 34, 44, 50, 10, 121, 44, 44, 34, 34] := (putB_eq w_cols0 w_new0).trans (by decide +kernel)
theorem w_ok0 : PutOk wHd wX0 wXl wRs wT0 := ok_of rfl (by decide) (by decide +kernel) (by decide +kernel) (by decide +kernel) (by decide +kernel) (by decide +kernel) w_cols0 (by decide +kernel) (by decide)
theorem w_fit0 : fitsC wT0 = 0 ∧ okB wT0 = true := by decide +kernel
def wT1 : Tr := (.cons ⟨#[120]⟩ (.cons ⟨#[97]⟩ (.cons ⟨#[51]⟩ .nil .nil) (.cons ⟨#[98]⟩ (.cons ⟨#[50]⟩ .nil .nil) .nil)) (.cons ⟨#[121]⟩ .nil .nil))
theorem w_cols1 : colsP wXl wT1 = [⟨#[97]⟩, ⟨#[98]⟩] := by
  have e : colsF wT1 = [[97], [98]] := (names_asc (by decide +kernel)).trans (by decide +kernel)
  unfold colsP
  rw [e]
  decide +kernel
theorem w_new1 : lessF (namesOf wT1.names) (wRs.map nm) = [] := by
  rw [names_asc (by decide +kernel)]
  decide +kernel
theorem w_put1 : putB wHd wXl wRs wT1 = [107, 101, 121, 44, 97, 44, 34, 98, 34, 10, 120, 44, 51, 44, 50, 10, 121, 44, 44, 34, 34] := (putB_eq w_cols1 w_new1).trans (by decide +kernel)
theorem w_ok1 : PutOk wHd wX0 wXl wRs wT1 := ok_of rfl (by decide) (by decide +kernel) (by decide +kernel) (by decide +kernel) (by decide +kernel) (by decide +kernel) w_cols1 (by decide +kernel) (by decide)
theorem w_fit1 : fitsC wT1 = 0 ∧ okB wT1 = true := by decide +kernel
def wT2 : Tr := (.cons ⟨#[121]⟩ .nil .nil)
theorem w_cols2 : colsP wXl wT2 = [⟨#[97]⟩, ⟨#[98]⟩] := by
  have e : colsF wT2 = [] := (names_asc (by decide +kernel)).trans (by decide +kernel)
  unfold colsP
  rw [e]
  decide +kernel
theorem w_new2 : lessF (namesOf wT2.names) (wRs.map nm) = [] := by
  rw [names_asc (by decide +kernel)]
  decide +kernel
theorem w_put2 : putB wHd wXl wRs wT2 = [107, 101, 121, 44, 97, 44, 34, 98, 34, 10, 121, 44, 44, 34, 34] := (putB_eq w_cols2 w_new2).trans (by decide +kernel)
theorem w_ok2 : PutOk wHd wX0 wXl wRs wT2 := ok_of rfl (by decide) (by decide +kernel) (by decide +kernel) (by decide +kernel) (by decide +kernel) (by decide +kernel) w_cols2 (by decide +kernel) (by decide)
theorem w_fit2 : fitsC wT2 = 0 ∧ okB wT2 = true := by decide +kernel
def wT3 : Tr := (.cons ⟨#[120]⟩ (.cons ⟨#[97]⟩ (.cons ⟨#[49]⟩ .nil .nil) (.cons ⟨#[98]⟩ (.cons ⟨#[50]⟩ .nil .nil) .nil)) (.cons ⟨#[121]⟩ (.cons ⟨#[99]⟩ (.cons ⟨#[112, 44, 113]⟩ .nil .nil) .nil) .nil))
theorem w_cols3 : colsP wXl wT3 = [⟨#[97]⟩, ⟨#[98]⟩, ⟨#[99]⟩] := by
  have e : colsF wT3 = [[97], [98], [99]] := (names_asc (by decide +kernel)).trans (by decide +kernel)
  unfold colsP
  rw [e]
  decide +kernel
theorem w_new3 : lessF (namesOf wT3.names) (wRs.map nm) = [] := by
  rw [names_asc (by decide +kernel)]
  decide +kernel
theorem w_put3 : putB wHd wXl wRs wT3 = [107, 101, 121, 44, 97, 44, 34, 98, 34, 44, 99, 10, 120, 44, 34, 49, 34, 44, 50, 44, 10, 121, 44, 44, 34, 34, 44, 34, 112, 44, 113, 34] := (putB_eq w_cols3 w_new3).trans (by decide +kernel)
theorem w_ok3 : PutOk wHd wX0 wXl wRs wT3 := ok_of rfl (by decide) (by decide +kernel) (by decide +kernel) (by decide +kernel) (by decide +kernel) (by decide +kernel) w_cols3 (by decide +kernel) (by decide)
theorem w_fit3 : fitsC wT3 = 0 ∧ okB wT3 = true := by decide +kernel
def wT4 : Tr := (.cons ⟨#[119, 34]⟩ (.cons ⟨#[98]⟩ (.cons ⟨#[118]⟩ .nil .nil) .nil) (.cons ⟨#[120]⟩ .nil (.cons ⟨#[121]⟩ .nil .nil)))
theorem w_cols4 : colsP wXl wT4 = [⟨#[97]⟩, ⟨#[98]⟩] := by
  have e : colsF wT4 = [[98]] := (names_asc (by decide +kernel)).trans (by decide +kernel)
  unfold colsP
  rw [e]
  decide +kernel
theorem w_new4 : lessF (namesOf wT4.names) (wRs.map nm) = [[119, 34]] := by
  rw [names_asc (by decide +kernel)]
  decide +kernel
theorem w_put4 : putB wHd wXl wRs wT4 = [107, 101, 121, 44, 97, 44, 34, 98, 34, 10, 120, 44, 44, 10, 121, 44, 44, 34, 34, 10, 34, 119, 34, 34, 34, 44, 44, 118, 10] := (putB_eq w_cols4 w_new4).trans (by decide +kernel)
theorem w_ok4 : PutOk wHd wX0 wXl wRs wT4 := ok_of rfl (by decide) (by decide +kernel) (by decide +kernel) (by decide +kernel) (by decide +kernel) (by decide +kernel) w_cols4 (by decide +kernel) (by decide)
theorem w_fit4 : fitsC wT4 = 0 ∧ okB wT4 = true := by decide +kernel
def wT5 : Tr := .nil
theorem w_cols5 : colsP wXl wT5 = [⟨#[97]⟩, ⟨#[98]⟩] := by
  have e : colsF wT5 = [] := (names_asc (by decide +kernel)).trans (by decide +kernel)
  unfold colsP
  rw [e]
  decide +kernel
theorem w_new5 : lessF (namesOf wT5.names) (wRs.map nm) = [] := by
  rw [names_asc (by decide +kernel)]
  decide +kernel
theorem w_put5 : putB wHd wXl wRs wT5 = [107, 101, 121, 44, 97, 44, 34, 98, 34, 10] := (putB_eq w_cols5 w_new5).trans (by decide +kernel)
theorem w_ok5 : PutOk wHd wX0 wXl wRs wT5 := ok_of rfl (by decide) (by decide +kernel) (by decide +kernel) (by decide +kernel) (by decide +kernel) (by decide +kernel) w_cols5 (by decide +kernel) (by decide)
theorem w_fit5 : fitsC wT5 = 0 ∧ okB wT5 = true := by decide +kernel
end Go.Proofs.YtecnilcfhicfmaaGreatDoor.Cv
