/- csv's words: what may be a value, a name, a column; which trees fit. No conditions. -/
import Derived.Test.YtlcbhooiinaalaaGreatDoorCvAny
import Derived.Test.YtlcbhooiinaalaaGreatDoorShelf
import Derived.Test.YtlcbhooiinaalaaGreatDoorMwCount
import Derived.Outline
namespace Go.Proofs.YtlcbhooiinaalaaGreatDoor.Cv
open Go.RowKit Go.Proofs.YtlcbhooiinaalaaGreatDoor.Jd
set_option maxRecDepth 100000

/-- Bytes, whatever they are. -/
def Pl (s : ByteArray) : Prop := ∀ (j : Nat) b, s.data.toList[j]? = some b → b.toNat < 256
theorem pl_all (s : ByteArray) : Pl s := fun _ b _ => b.toNat_lt
/-- In all names of a tree. -/
def PlT : Tr → Prop
  | .nil => True
  | .cons s k r => Pl s ∧ PlT k ∧ PlT r
theorem plT_all : ∀ t : Tr, PlT t
  | .nil => trivial
  | .cons s k r => ⟨pl_all s, plT_all k, plT_all r⟩
theorem plT_drop : ∀ (t : Tr) (k : Nat), PlT t → PlT (t.dropT k)
  | t, 0, h => by rw [dropT_zero]; exact h
  | .nil, _ + 1, _ => trivial
  | .cons _ _ r, k + 1, h => plT_drop r k h.2.2
def vB (s : ByteArray) : Bool := decide (s.size ≤ 80) && !(Lib.containsAny s.data.toList [10, 13])
def nB (s : ByteArray) : Bool := decide (0 < s.size) && vB s
def cB (s : ByteArray) : Bool := nB s && !(s.toList == [107, 101, 121])
def fvB (s : ByteArray) (k : Tr) : Bool := nB s && decide (k.len = 0)
def fcB (s : ByteArray) (k : Tr) : Bool := cB s && (match k with | .cons s2 k2 .nil => fvB s2 k2 | _ => false)
def allT (f : ByteArray → Tr → Bool) : Tr → Bool
  | .nil => true
  | .cons s k r => f s k && allT f r
def frB (s : ByteArray) (k : Tr) : Bool := nB s && allT fcB k
/-- What Fits answers. -/
def fitsC (t : Tr) : Int := if t.fault ≠ 0 then (t.fault : Int) else if allT frB t then 0 else 13
theorem fcB_no {s : ByteArray} {k : Tr} (h : cB s = false) : fcB s k = false := by
  unfold fcB
  rw [h]
  rfl
theorem fcB_one {s s2 : ByteArray} {k2 : Tr} (h : cB s = true) : fcB s (.cons s2 k2 .nil) = fvB s2 k2 := by
  unfold fcB
  rw [h]
  rfl
theorem fcB_len {s : ByteArray} {k : Tr} (h : ¬ k.len = 1) : fcB s k = false := by
  unfold fcB
  match k, h with
  | .nil, _ => exact Bool.and_false _
  | .cons _ _ .nil, h => exact absurd rfl h
  | .cons _ _ (.cons _ _ _), _ => exact Bool.and_false _
theorem empty_iff (s : ByteArray) : (s.toList == ([] : List UInt8)) = decide (s.size = 0) := by
  rw [ByteArray.toList_eq]
  have hs : s.size = s.data.toList.length := rfl
  cases h : s.data.toList with
  | nil => rw [hs, h]; rfl
  | cons x r => rw [hs, h]; simp
set_option maxHeartbeats 1000000 in
theorem value_any (s : ByteArray) (w : World) (_ : Pl s) : Calls Tryz.prog 89 #[.string s] w fun e w' => e = .returned (.bool (vB s)) ∧ Below w.heap.size w w' := by
  by_cases hz : s.size ≤ 80
  · have HC := Lib.hid (containsAny_nr s w (by omega))
    obtain ⟨v, hv⟩ : ∃ v, v = Lib.containsAny s.data.toList [10, 13] := ⟨_, rfl⟩
    rw [← hv] at HC
    have hV : vB s = !v := by rw [hv, vB, decide_eq_true hz]; rfl
    have HV := Lib.hid hV
    have hz' : (s.size : Int) ≤ 80 := by omega
    clear hV hv hz
    go_enter Tryz.func89, Tryz.ntmps89
    go_wp2_with fail
    (with_reducible refine HC.out.mono ?_)
    rintro e w1 ⟨rfl, hb1⟩
    go_wp2_with fail
    go_ret
    exact ⟨by rw [HV.out]; rfl, hb1⟩
  · have hV : vB s = false := by rw [vB, decide_eq_false hz]; rfl
    have HV := Lib.hid hV
    have hz' : ¬ (s.size : Int) ≤ 80 := by omega
    clear hV hz
    go_enter Tryz.func89, Tryz.ntmps89
    go_wp2_with fail
    go_ret
    exact ⟨by rw [HV.out]; rfl, Below.refl _ _⟩
set_option maxHeartbeats 1000000 in
theorem name_any (s : ByteArray) (w : World) (hp : Pl s) : Calls Tryz.prog 60 #[.string s] w fun e w' => e = .returned (.bool (nB s)) ∧ Below w.heap.size w w' := by
  have HC := Lib.hid (value_any s w hp)
  by_cases hz : s.size = 0
  · have he : (s.toList == ([] : List UInt8)) = true := by rw [empty_iff, decide_eq_true hz]
    have HV : Hid (nB s = false) := Lib.hid (by rw [nB, decide_eq_false (by omega)]; rfl)
    clear hz hp
    go_enter Tryz.func60, Tryz.ntmps60
    go_wp2_with fail
    go_ret
    exact ⟨by rw [HV.out]; rfl, Below.refl _ _⟩
  · have he : (s.toList == ([] : List UInt8)) = false := by rw [empty_iff, decide_eq_false hz]
    have HV : Hid (nB s = vB s) := Lib.hid (by rw [nB, decide_eq_true (by omega)]; rfl)
    clear hz hp
    go_enter Tryz.func60, Tryz.ntmps60
    go_wp2_with fail
    (with_reducible refine HC.out.mono ?_)
    rintro e w1 ⟨rfl, hb1⟩
    go_wp2_with fail
    go_ret
    exact ⟨by rw [HV.out]; rfl, hb1⟩
set_option maxHeartbeats 1000000 in
theorem column_any (s : ByteArray) (w : World) (hp : Pl s) : Calls Tryz.prog 90 #[.string s] w fun e w' => e = .returned (.bool (cB s)) ∧ Below w.heap.size w w' := by
  have HC := Lib.hid (name_any s w hp)
  obtain ⟨v, hv⟩ : ∃ v, v = nB s := ⟨_, rfl⟩
  rw [← hv] at HC
  have HV : Hid (cB s = (v && !(s.toList == [107, 101, 121]))) := Lib.hid (by rw [hv]; rfl)
  clear hv hp
  cases v with
  | false =>
    go_enter Tryz.func90, Tryz.ntmps90
    go_wp2_with fail
    (with_reducible refine HC.out.mono ?_)
    rintro e w1 ⟨rfl, hb1⟩
    go_wp2_with fail
    go_ret
    exact ⟨by rw [HV.out]; rfl, hb1⟩
  | true =>
    obtain ⟨u, hu⟩ : ∃ u, u = (s.toList == [107, 101, 121]) := ⟨_, rfl⟩
    rw [← hu] at HV
    have hu2 := hu.symm
    clear hu
    go_enter Tryz.func90, Tryz.ntmps90
    go_wp2_with fail
    (with_reducible refine HC.out.mono ?_)
    rintro e w1 ⟨rfl, hb1⟩
    go_wp2_with fail
    go_ret
    exact ⟨by rw [HV.out]; simp, hb1⟩

set_option maxHeartbeats 2000000 in
theorem fvalue_any (s : ByteArray) (k : Tr) (A : Option Addr) (n c : Nat) (w : World) (hn : n = k.len) (hp : Pl s) : Calls Tryz.prog 91 #[.agg #[.string s, .slice A n c]] w fun e w' => e = .returned (.bool (fvB s k)) ∧ Below w.heap.size w w' := by
  have hg : (w.alloc (Obj.cells #[.string s, .slice A n c] 55)).heap[w.heap.size]? = some (Obj.cells #[.string s, .slice A n c] 55) := heap_alloc_new w _
  have hb0 : Below w.heap.size w (w.alloc (Obj.cells #[.string s, .slice A n c] 55)) := (Below.refl _ _).alloc (Nat.le_refl _) _
  have HK := Lib.hid (fun (W : World) (hW : Below (w.alloc (Obj.cells #[.string s, .slice A n c] 55)).heap.size (w.alloc (Obj.cells #[.string s, .slice A n c] 55)) W) => ((hW.cell (p := ⟨w.heap.size, 1, none⟩) (by simp)).trans (by rw [cell_of_row _ _ _ _ _ _ hg]; rfl) : W.cell? ⟨w.heap.size, 1, none⟩ = some (.slice A n c)))
  have HC := Lib.hid (name_any s (w.alloc (Obj.cells #[.string s, .slice A n c] 55)) hp)
  have HB0 := Lib.hid hb0
  obtain ⟨v, hv⟩ : ∃ v, v = nB s := ⟨_, rfl⟩
  rw [← hv] at HC
  have HV : Hid (fvB s k = (v && decide (n = 0))) := Lib.hid (by rw [hv, hn]; rfl)
  clear hv hp hn hg hb0
  go_enter Tryz.func91, Tryz.ntmps91
  go_wp2_with fail
  (with_reducible refine HC.out.mono ?_)
  rintro e w1 ⟨rfl, hb1⟩
  have hc1 := HK.out w1 hb1
  have hb2 := HB0.out.trans (hb1.mono (by simp))
  cases v with
  | false =>
    go_wp2_with fail
    go_ret
    exact ⟨by rw [HV.out]; rfl, hb2⟩
  | true =>
    by_cases h0 : n = 0
    · subst h0
      go_wp2_with fail
      go_ret
      exact ⟨by rw [HV.out]; rfl, hb2⟩
    · have h0' : ((n : Int) == 0) = false := by rw [beq_eq_false_iff_ne]; omega
      have HV2 : Hid (fvB s k = false) := Lib.hid (by rw [HV.out, decide_eq_false h0]; rfl)
      clear h0
      go_wp2_with fail
      go_ret
      exact ⟨by rw [HV2.out]; rfl, hb2⟩
set_option maxHeartbeats 2000000 in
theorem fcolumn_any (s : ByteArray) (k : Tr) (A : Option Addr) (n c : Nat) (w : World) (h : Holds w w.heap.size A n k) (hp : Pl s) (hk : PlT k) : Calls Tryz.prog 61 #[.agg #[.string s, .slice A n c]] w fun e w' => e = .returned (.bool (fcB s k)) ∧ Below w.heap.size w w' := by
  have hg : (w.alloc (Obj.cells #[.string s, .slice A n c] 55)).heap[w.heap.size]? = some (Obj.cells #[.string s, .slice A n c] 55) := heap_alloc_new w _
  have hb0 : Below w.heap.size w (w.alloc (Obj.cells #[.string s, .slice A n c] 55)) := (Below.refl _ _).alloc (Nat.le_refl _) _
  have HK := Lib.hid (fun (W : World) (hW : Below (w.alloc (Obj.cells #[.string s, .slice A n c] 55)).heap.size (w.alloc (Obj.cells #[.string s, .slice A n c] 55)) W) => ((hW.cell (p := ⟨w.heap.size, 1, none⟩) (by simp)).trans (by rw [cell_of_row _ _ _ _ _ _ hg]; rfl) : W.cell? ⟨w.heap.size, 1, none⟩ = some (.slice A n c)))
  have HC := Lib.hid (column_any s (w.alloc (Obj.cells #[.string s, .slice A n c] 55)) hp)
  have HB0 := Lib.hid hb0
  obtain ⟨v, hv⟩ : ∃ v, v = cB s := ⟨_, rfl⟩
  rw [← hv] at HC
  have Hv := Lib.hid hv
  have Hn := Lib.hid h.len
  have HH := Lib.hid h
  have Hk := Lib.hid hk
  clear hv hp hg hb0 h hk
  go_enter Tryz.func61, Tryz.ntmps61
  go_wp2_with fail
  (with_reducible refine HC.out.mono ?_)
  rintro e w1 ⟨rfl, hb1⟩
  have hc1 := HK.out w1 hb1
  have hb2 := HB0.out.trans (hb1.mono (by simp))
  cases v with
  | false =>
    have HV : Hid (fcB s k = false) := Lib.hid (fcB_no Hv.out.symm)
    go_wp2_with fail
    go_ret
    exact ⟨by rw [HV.out]; rfl, hb2⟩
  | true =>
    by_cases h1 : n = 1
    · subst h1
      obtain ⟨b, q, s2, k2, r2, A2, n2, c2, rfl, hbl, hs2, hc2, hn2, hm2, hk2, hr2, hd, hd2⟩ := HH.out.split 0 (by omega)
      rw [dropT_zero] at hd
      have hr0 : r2 = .nil := by
        have := hr2.len
        cases r2 with
        | nil => rfl
        | cons _ _ _ => simp only [Tr.len] at this; omega
      subst hr0
      have hpk := Hk.out
      rw [hd] at hpk
      have hs3 := (hb2.cell (p := ⟨b, q + 0 * 2, none⟩) hbl).trans hs2
      have hc3 := (hb2.cell (p := ⟨b, q + 0 * 2 + 1, none⟩) hbl).trans hc2
      rw [Nat.zero_mul, Nat.add_zero] at hs3 hc3
      have HF := Lib.hid (fvalue_any s2 k2 A2 n2 c2 w1 hk2.len hpk.1)
      have HV : Hid (fcB s k = fvB s2 k2) := Lib.hid (by rw [hd]; exact fcB_one Hv.out.symm)
      obtain ⟨u, hu⟩ : ∃ u, u = fvB s2 k2 := ⟨_, rfl⟩
      rw [← hu] at HF HV
      clear hu hpk hd hd2 hr2 hk2 hn2 hm2 hs2 hc2
      go_wp2_with fail
      (with_reducible refine HF.out.mono ?_)
      rintro e w2 ⟨rfl, hb3⟩
      have hb4 := hb2.trans (hb3.mono hb2.size)
      go_wp2_with fail
      go_ret
      exact ⟨by rw [HV.out]; rfl, hb4⟩
    · have h1' : ((n : Int) == 1) = false := by rw [beq_eq_false_iff_ne]; omega
      have HV : Hid (fcB s k = false) := Lib.hid (fcB_len (by rw [← Hn.out]; exact h1))
      clear h1
      go_wp2_with fail
      go_ret
      exact ⟨by rw [HV.out]; rfl, hb2⟩

set_option maxHeartbeats 4000000 in
theorem all_column (t : Tr) (A : Option Addr) (n c B : Nat) (w : World) (h : Holds w B A n t) (hB : B ≤ w.heap.size) (hn : n ≤ 1099511627776) (hp : PlT t) : Calls Tryz.prog 37 #[.slice A n c, .func (.func 61) #[] #[]] w fun e w' => e = .returned (.bool (allT fcB t)) ∧ Below w.heap.size w w' := by
  have Hl := Lib.hid h.len
  have HH := Lib.hid h
  have Hp := Lib.hid hp
  clear h hp
  go_enter Tryz.func37, Tryz.ntmps37
  go_wp2_with fail
  go_loopw [9] (fun i wr => ∃ (k : Nat), k ≤ n ∧ i = .int .i64 k ∧ Hid (Below w.heap.size w wr) ∧ Hid (allT fcB (t.dropT k) = allT fcB t)) (fun i _ => n - (intOf i).toNat)
  case atStart => exact ⟨0, Nat.zero_le _, rfl, Lib.hid (Below.refl _ _), Lib.hid (by rw [dropT_zero])⟩
  case round =>
    obtain ⟨k, hk, rfl, HW, HA⟩ := hrel
    by_cases hlt : k < n
    · obtain ⟨b, q, s, kt, r, A', n', c', rfl, hbl, hs, hc, hn', hm', hk', hr', hd, hd2⟩ := (HH.out.below (HW.out.mono hB)).split k hlt
      have hpk := plT_drop t k Hp.out
      rw [hd] at hpk
      have hkn : (k : Int) < (n : Int) := by omega
      have hk0 : (0 : Int) ≤ (k : Int) := by omega
      have hb1 : Below wr.heap.size wr (wr.alloc (Obj.cells #[.string s, .slice A' n' c'] 55)) := (Below.refl _ _).alloc (Nat.le_refl _) _
      have hg1 := heap_alloc_new wr (Obj.cells #[.string s, .slice A' n' c'] 55)
      have HF := Lib.hid (fcolumn_any s kt A' n' c' (wr.alloc (Obj.cells #[.string s, .slice A' n' c'] 55)) (((hk'.more (Nat.le_trans hB HW.out.size)).below hb1).more hb1.size) hpk.1 hpk.2.1)
      obtain ⟨u, hu⟩ : ∃ u, u = fcB s kt := ⟨_, rfl⟩
      rw [← hu] at HF
      have HA2 : Hid (allT fcB t = (u && allT fcB (t.dropT (k + 1)))) := Lib.hid (by rw [← HA.out, hd, hd2, hu]; rfl)
      have Hlt := Lib.hid hlt
      have HW1 := Lib.hid (HW.out.trans (hb1.mono HW.out.size))
      clear hu hpk hd hd2 hk' hr' hn' hm' hlt HA hb1
      cases u with
      | true =>
        go_wp2_with fail
        (with_reducible refine HF.out.mono ?_)
        rintro e w2 ⟨rfl, hb2⟩
        have HW2 := Lib.hid (HW1.out.trans (hb2.mono HW1.out.size))
        clear hb2
        go_wp2_with fail
        go_roundw
        case rel => exact ⟨k + 1, Hlt.out, by go_num, HW2, Lib.hid (by rw [HA2.out]; rfl)⟩
        case measure => have := Hlt.out; simp [intOf]; omega
      | false =>
        go_wp2_with fail
        (with_reducible refine HF.out.mono ?_)
        rintro e w2 ⟨rfl, hb2⟩
        have HW2 := Lib.hid (HW1.out.trans (hb2.mono HW1.out.size))
        clear hb2
        go_wp2_with fail
        go_ret
        exact ⟨by rw [HA2.out]; rfl, HW2.out⟩
    · obtain rfl : k = n := by omega
      have HA2 : Hid (allT fcB t = true) := Lib.hid (by
        have := HA.out
        rw [drop_len t k (by rw [← Hl.out]; exact Nat.le_refl _)] at this
        exact this.symm)
      clear hlt HA
      go_wp2_with fail
      go_ret
      exact ⟨by rw [HA2.out]; rfl, HW.out⟩

set_option maxHeartbeats 2000000 in
theorem frow_any (s : ByteArray) (k : Tr) (A : Option Addr) (n c : Nat) (w : World) (h : Holds w w.heap.size A n k) (hn : n ≤ 1099511627776) (hp : Pl s) (hk : PlT k) : Calls Tryz.prog 38 #[.agg #[.string s, .slice A n c]] w fun e w' => e = .returned (.bool (frB s k)) ∧ Below w.heap.size w w' := by
  have hg : (w.alloc (Obj.cells #[.string s, .slice A n c] 55)).heap[w.heap.size]? = some (Obj.cells #[.string s, .slice A n c] 55) := heap_alloc_new w _
  have hb0 : Below w.heap.size w (w.alloc (Obj.cells #[.string s, .slice A n c] 55)) := (Below.refl _ _).alloc (Nat.le_refl _) _
  have HK := Lib.hid (fun (W : World) (hW : Below (w.alloc (Obj.cells #[.string s, .slice A n c] 55)).heap.size (w.alloc (Obj.cells #[.string s, .slice A n c] 55)) W) => ((hW.cell (p := ⟨w.heap.size, 1, none⟩) (by simp)).trans (by rw [cell_of_row _ _ _ _ _ _ hg]; rfl) : W.cell? ⟨w.heap.size, 1, none⟩ = some (.slice A n c)))
  have HC := Lib.hid (name_any s (w.alloc (Obj.cells #[.string s, .slice A n c] 55)) hp)
  have HB0 := Lib.hid hb0
  obtain ⟨v, hv⟩ : ∃ v, v = nB s := ⟨_, rfl⟩
  rw [← hv] at HC
  have HV : Hid (frB s k = (v && allT fcB k)) := Lib.hid (by rw [hv]; rfl)
  have HA := Lib.hid (fun (W : World) (hW : Below w.heap.size w W) => all_column k A n c w.heap.size W (h.below hW) hW.size hn hk)
  clear hv hp hg hb0 h hk
  go_enter Tryz.func38, Tryz.ntmps38
  go_wp2_with fail
  (with_reducible refine HC.out.mono ?_)
  rintro e w1 ⟨rfl, hb1⟩
  have hc1 := HK.out w1 hb1
  have hb2 := HB0.out.trans (hb1.mono (by simp))
  cases v with
  | false =>
    go_wp2_with fail
    go_ret
    exact ⟨by rw [HV.out]; rfl, hb2⟩
  | true =>
    have HA2 := Lib.hid (HA.out w1 hb2)
    obtain ⟨u, hu⟩ : ∃ u, u = allT fcB k := ⟨_, rfl⟩
    rw [← hu] at HA2 HV
    clear hu
    go_wp2_with fail
    (with_reducible refine HA2.out.mono ?_)
    rintro e w2 ⟨rfl, hb3⟩
    have hb4 := hb2.trans (hb3.mono hb2.size)
    go_wp2_with fail
    go_ret
    exact ⟨by rw [HV.out]; rfl, hb4⟩

set_option maxHeartbeats 4000000 in
theorem all_row (t : Tr) (A : Option Addr) (n c B : Nat) (w : World) (h : Holds w B A n t) (hB : B ≤ w.heap.size) (hn : n ≤ 1099511627776) (hts : t.size ≤ 1099511627776) (hp : PlT t) : Calls Tryz.prog 37 #[.slice A n c, .func (.func 38) #[] #[]] w fun e w' => e = .returned (.bool (allT frB t)) ∧ Below w.heap.size w w' := by
  have Hl := Lib.hid h.len
  have HH := Lib.hid h
  have Hp := Lib.hid hp
  clear h hp
  have hsz : ∀ (k : Nat) (kt : Tr) (s : ByteArray) (r : Tr) (A' : Option Addr) (n' : Nat) {W : World} {B : Nat}, t.dropT k = .cons s kt r → Holds W B A' n' kt → n' ≤ 1099511627776 := fun k kt s r A' n' W B hd hk => by
    have h1 := size_drop t k
    rw [hd] at h1
    simp only [Tr.size] at h1
    have h2 := kt.len_size
    have h3 := hk.len
    omega
  go_enter Tryz.func37, Tryz.ntmps37
  go_wp2_with fail
  go_loopw [9] (fun i wr => ∃ (k : Nat), k ≤ n ∧ i = .int .i64 k ∧ Hid (Below w.heap.size w wr) ∧ Hid (allT frB (t.dropT k) = allT frB t)) (fun i _ => n - (intOf i).toNat)
  case atStart => exact ⟨0, Nat.zero_le _, rfl, Lib.hid (Below.refl _ _), Lib.hid (by rw [dropT_zero])⟩
  case round =>
    obtain ⟨k, hk, rfl, HW, HA⟩ := hrel
    by_cases hlt : k < n
    · obtain ⟨b, q, s, kt, r, A', n', c', rfl, hbl, hs, hc, hn', hm', hk', hr', hd, hd2⟩ := (HH.out.below (HW.out.mono hB)).split k hlt
      have hpk := plT_drop t k Hp.out
      rw [hd] at hpk
      have hkn : (k : Int) < (n : Int) := by omega
      have hk0 : (0 : Int) ≤ (k : Int) := by omega
      have hb1 : Below wr.heap.size wr (wr.alloc (Obj.cells #[.string s, .slice A' n' c'] 55)) := (Below.refl _ _).alloc (Nat.le_refl _) _
      have hg1 := heap_alloc_new wr (Obj.cells #[.string s, .slice A' n' c'] 55)
      have HF := Lib.hid (frow_any s kt A' n' c' (wr.alloc (Obj.cells #[.string s, .slice A' n' c'] 55)) (((hk'.more (Nat.le_trans hB HW.out.size)).below hb1).more hb1.size) (hsz k kt s r A' n' hd hk') hpk.1 hpk.2.1)
      obtain ⟨u, hu⟩ : ∃ u, u = frB s kt := ⟨_, rfl⟩
      rw [← hu] at HF
      have HA2 : Hid (allT frB t = (u && allT frB (t.dropT (k + 1)))) := Lib.hid (by rw [← HA.out, hd, hd2, hu]; rfl)
      have Hlt := Lib.hid hlt
      have HW1 := Lib.hid (HW.out.trans (hb1.mono HW.out.size))
      clear hu hpk hd hd2 hk' hr' hn' hm' hlt HA hb1
      cases u with
      | true =>
        go_wp2_with fail
        (with_reducible refine HF.out.mono ?_)
        rintro e w2 ⟨rfl, hb2⟩
        have HW2 := Lib.hid (HW1.out.trans (hb2.mono HW1.out.size))
        clear hb2
        go_wp2_with fail
        go_roundw
        case rel => exact ⟨k + 1, Hlt.out, by go_num, HW2, Lib.hid (by rw [HA2.out]; rfl)⟩
        case measure => have := Hlt.out; simp [intOf]; omega
      | false =>
        go_wp2_with fail
        (with_reducible refine HF.out.mono ?_)
        rintro e w2 ⟨rfl, hb2⟩
        have HW2 := Lib.hid (HW1.out.trans (hb2.mono HW1.out.size))
        clear hb2
        go_wp2_with fail
        go_ret
        exact ⟨by rw [HA2.out]; rfl, HW2.out⟩
    · obtain rfl : k = n := by omega
      have HA2 : Hid (allT frB t = true) := Lib.hid (by
        have := HA.out
        rw [drop_len t k (by rw [← Hl.out]; exact Nat.le_refl _)] at this
        exact this.symm)
      clear hlt HA
      go_wp2_with fail
      go_ret
      exact ⟨by rw [HA2.out]; rfl, HW.out⟩

set_option maxHeartbeats 2000000 in
theorem fits_any (t : Tr) (A : Option Addr) (n c : Nat) (w : World) (h : Holds w w.heap.size A n t) (hc : n ≤ c) (hm : c ≤ maxLen) (hsz : t.size ≤ 17179869184) (hnm : Tr.Nm t) (hp : PlT t) : Calls Tryz.prog 18 #[.slice A n c] w fun e w' => e = .returned (.int .i64 (fitsC t)) ∧ Below w.heap.size w w' := by
  have hl := h.len
  have hls := t.len_size
  have hC := check_any A c t w (by rw [← hl]; exact h) (by rw [← hl]; exact hc) hm hsz hnm
  rw [← hl] at hC
  have HC := Lib.hid hC
  have HA := Lib.hid (fun (W : World) (hW : Below w.heap.size w W) => all_row t A n c w.heap.size W (h.below hW) hW.size (by omega) (by omega) hp)
  obtain ⟨f, hf⟩ : ∃ f, f = t.fault := ⟨_, rfl⟩
  rw [← hf] at HC
  have HV : Hid (fitsC t = if f ≠ 0 then (f : Int) else if allT frB t then 0 else 13) := Lib.hid (by rw [hf]; rfl)
  clear hC hf h hl hls
  by_cases h0 : f = 0
  · subst h0
    obtain ⟨u, hu⟩ : ∃ u, u = allT frB t := ⟨_, rfl⟩
    rw [← hu] at HA HV
    clear hu
    go_enter Tryz.func18, Tryz.ntmps18
    go_wp2_with fail
    (with_reducible refine HC.out.mono ?_)
    rintro e w1 ⟨rfl, hb1⟩
    have HA2 := Lib.hid (HA.out w1 hb1)
    go_wp2_with fail
    (with_reducible refine HA2.out.mono ?_)
    rintro e w2 ⟨rfl, hb2⟩
    have hb3 := hb1.trans (hb2.mono hb1.size)
    cases u with
    | true =>
      go_wp2_with fail
      go_ret
      exact ⟨by rw [HV.out]; rfl, hb3⟩
    | false =>
      go_wp2_with fail
      go_ret
      exact ⟨by rw [HV.out]; rfl, hb3⟩
  · have hfb : ((f : Int) != 0) = true := by rw [bne_iff_ne]; omega
    have HV2 : Hid (fitsC t = (f : Int)) := Lib.hid (by rw [HV.out, if_pos h0])
    clear h0
    go_enter Tryz.func18, Tryz.ntmps18
    go_wp2_with fail
    (with_reducible refine HC.out.mono ?_)
    rintro e w1 ⟨rfl, hb1⟩
    go_wp2_with fail
    go_ret
    exact ⟨by rw [HV2.out]; rfl, hb1⟩
end Go.Proofs.YtlcbhooiinaalaaGreatDoor.Cv
