/- A row of edges of one's own, being grown: what stands below its edges lies in other rows. No conditions. · csv: what a record has below it. Conditions: that inOrder sorts a row of edges of one's own. · csv: the edge of a record. Conditions: that inOrder sorts a row of edges of one's own. · csv: the edges of records. Conditions: that inOrder sorts a row of edges of one's own. · csv: the tree of records; a file's columns. Conditions: that inOrder sorts a row of edges of one's own. · csv: a file's columns. No conditions but that the head has a field. · slices.SortFunc at edges, whole: the shelf pays for what lies below it · csv: rows of edges, told by their numbers; sorted. No conditions. -/
import Derived.Test.YtkgpjohfkfbfhaaGreatDoorMwCvGrow
import Derived.Test.YtkgpjohfkfbfhaaGreatDoorWithW
import Derived.Outline
import Derived.Deep.RegionHeld3
import Derived.Test.YtkgpjohfkfbfhaaGreatDoorSortLay
namespace Go.Proofs.YtkgpjohfkfbfhaaGreatDoor.Jd
open Go.RowKit Go.Proofs.YtkgpjohfkfbfhaaGreatDoor.Cl
set_option maxRecDepth 100000

def appT : Tr → Tr → Tr
  | .nil, u => u
  | .cons s k r, u => .cons s k (appT r u)
theorem appT_nil : ∀ t : Tr, appT t .nil = t
  | .nil => rfl
  | .cons s k r => by rw [appT, appT_nil r]
theorem appT_cons (s : ByteArray) (k u : Tr) : ∀ t : Tr, appT (appT t (.cons s k .nil)) u = appT t (.cons s k u)
  | .nil => rfl
  | .cons _ _ r => by rw [appT, appT, appT, appT_cons s k u r]
theorem appT_len (u : Tr) : ∀ t : Tr, (appT t u).len = t.len + u.len
  | .nil => by simp [appT, Tr.len]
  | .cons _ _ r => by rw [appT, Tr.len, Tr.len, appT_len u r]; omega
theorem appT_size (u : Tr) : ∀ t : Tr, (appT t u).size = t.size + u.size
  | .nil => by simp [appT, Tr.size]
  | .cons _ k r => by rw [appT, Tr.size, Tr.size, appT_size u r]; omega
theorem appT_nm (u : Tr) (hu : Tr.Nm u) : ∀ t : Tr, Tr.Nm t → Tr.Nm (appT t u)
  | .nil, _ => hu
  | .cons _ _ r, ⟨h1, h2, h3⟩ => ⟨h1, h2, appT_nm u hu r h3⟩
theorem low_size : ∀ t : Tr, t.size ≤ 140737488351232 → t.Low
  | .nil, _ => trivial
  | .cons _ k r, h => by
    simp only [Tr.size] at h
    have := k.len_size
    exact ⟨by omega, low_size k (by omega), low_size r (by omega)⟩

/-- Cells of edges in a row; what is below them, in blocks that P picks. -/
def RowP (w : World) (P : Nat → Prop) : List Value → Tr → Prop
  | [], .nil => True
  | .string s :: .slice A n c :: vs, .cons s' k r => s = s' ∧ n ≤ c ∧ c ≤ maxLen ∧ HoldsP w P A n k ∧ RowP w P vs r
  | _, _ => False
section
variable {w w' : World} {P P' : Nat → Prop}
theorem RowP.keep (hk : ∀ b o, P b → w'.cell? ⟨b, o, none⟩ = w.cell? ⟨b, o, none⟩) : ∀ {vs : List Value} {t : Tr}, RowP w P vs t → RowP w' P vs t
  | [], .nil, _ => trivial
  | .string _ :: .slice _ _ _ :: _, .cons _ _ _, ⟨h1, h2, h3, h4, h5⟩ => ⟨h1, h2, h3, h4.keep hk, RowP.keep hk h5⟩
theorem RowP.more (hP : ∀ b, P b → P' b) : ∀ {vs : List Value} {t : Tr}, RowP w P vs t → RowP w P' vs t
  | [], .nil, _ => trivial
  | .string _ :: .slice _ _ _ :: _, .cons _ _ _, ⟨h1, h2, h3, h4, h5⟩ => ⟨h1, h2, h3, h4.more hP, RowP.more hP h5⟩
theorem RowP.app : ∀ {vs us : List Value} {t u : Tr}, RowP w P vs t → RowP w P us u → RowP w P (vs ++ us) (appT t u)
  | [], _, .nil, _, _, h2 => h2
  | .string _ :: .slice _ _ _ :: _, _, .cons _ _ _, _, ⟨h1, h2, h3, h4, h5⟩, h6 => ⟨h1, h2, h3, h4, RowP.app h5 h6⟩
theorem RowP.length : ∀ {vs : List Value} {t : Tr}, RowP w P vs t → vs.length = t.len * 2
  | [], .nil, _ => rfl
  | .string _ :: .slice _ _ _ :: _, .cons _ _ _, ⟨_, _, _, _, h5⟩ => by
    have := RowP.length h5
    simp only [List.length_cons, Tr.len]
    omega
theorem RowP.one {n c : Nat} {s : ByteArray} {A : Option Addr} {k : Tr} (h : HoldsP w P A n k) (h1 : n ≤ c) (h2 : c ≤ maxLen) : RowP w P [.string s, .slice A n c] (.cons s k .nil) := ⟨rfl, h1, h2, h, trivial⟩
/-- Read where they lie. -/
theorem RowP.holds {g : Nat} (hg : P g) : ∀ {vs : List Value} {t : Tr} {o : Nat}, RowP w P vs t → (∀ j u, vs[j]? = some u → w.cell? ⟨g, o + j, none⟩ = some u) → HoldsP w P (some ⟨g, o, none⟩) t.len t
  | [], .nil, _, _, _ => rfl
  | .string s :: .slice A n c :: vs, .cons s' k r, o, ⟨h1, h2, h3, h4, h5⟩, hc => by
    subst h1
    have e0 := hc 0 _ rfl
    have e1 := hc 1 _ rfl
    rw [Nat.add_zero] at e0
    exact ⟨g, o, rfl, hg, e0, ⟨A, n, c, e1, h2, h3, h4⟩, r.len, rfl, RowP.holds hg h5 (fun j u hu => by
      have := hc (j + 2) u (by simpa using hu)
      rw [show o + 2 + j = o + (j + 2) by omega]
      exact this)⟩
end

/-- The slice is a row of one's own, and reads as t; what is below its edges lies in other blocks, from lo on. -/
structure Edg (w : World) (base lo : Nat) (A : Option Addr) (n c : Nat) (t : Tr) (vs : List Value) : Prop where
  own : w.ownsRow base 53 2 (.slice A n c) n vs
  row : RowP w (fun b => lo ≤ b ∧ b < w.heap.size ∧ some b ≠ (Value.slice A n c).ownBlock) vs t
section
variable {w w' : World} {base lo n c : Nat} {A : Option Addr} {t : Tr} {vs : List Value}
theorem Edg.nil (w : World) (base lo : Nat) : Edg w base lo none 0 0 .nil [] := ⟨World.ownsRow_nil w base _ _, trivial⟩
theorem Edg.len (h : Edg w base lo A n c t vs) : n = t.len := by
  have h1 := h.own.1
  have h2 := h.row.length
  omega
theorem Edg.cap (h : Edg w base lo A n c t vs) : n ≤ c ∧ c ≤ maxLen := own_cap h.own
theorem Edg.below (h : Edg w base lo A n c t vs) (hb : Below w.heap.size w w') : Edg w' base lo A n c t vs := by
  refine ⟨h.own.kept (row := none) ⟨hb.os, hb.tape, hb.output, hb.size, fun i hi _ => hb.block i hi⟩ (by cases hv : (Value.slice A n c).ownBlock <;> simp), ?_⟩
  refine (h.row.keep (w' := w') fun b o hb1 => hb.cell (p := ⟨b, o, none⟩) hb1.2.1).more fun b hb1 => ⟨hb1.1, Nat.lt_of_lt_of_le hb1.2.1 hb.size, hb1.2.2⟩
theorem Edg.holdsP (h : Edg w base lo A n c t vs) (hl : lo ≤ base) : HoldsP w (fun b => lo ≤ b ∧ b < w.heap.size) A n t := by
  have hn := h.len
  rcases h.own.2 with ⟨e1, e2⟩ | ⟨g, cap, cur, e1, hg, hh, hcap, hmx, hsz, htk⟩
  · subst e2
    cases t with
    | nil => rfl
    | cons _ _ _ => simp [Tr.len] at hn
  · injection e1 with a1 a2 a3
    subst a1
    have hc : ∀ j u, vs[j]? = some u → w.cell? ⟨g, 0 + j, none⟩ = some u := fun j u hu => by
      have := rowCells h.own j u hu
      rw [Addr.add_lit] at this
      exact this
    have hrow := (h.row.more (P' := fun b => lo ≤ b ∧ b < w.heap.size) fun b hb => ⟨hb.1, hb.2.1⟩).holds (g := g) ⟨by omega, (Array.getElem?_eq_some_iff.1 hh).1⟩ hc
    rw [hn]
    exact hrow
theorem Edg.holds (h : Edg w base lo A n c t vs) (hl : lo ≤ base) : Holds w w.heap.size A n t := (h.holdsP hl).to (fun _ hb => hb.2)
/-- Grown by edges whose kids lie elsewhere. -/
theorem Edg.push {m c2 : Nat} {A2 : Option Addr} {u : Tr} {us : List Value} (h : Edg w base lo A n c t vs) (hu : RowP w (fun b => lo ≤ b ∧ b < w.heap.size ∧ some b ≠ (Value.slice A n c).ownBlock) us u)
    (ho : w'.ownsRow base 53 2 (.slice A2 m c2) m (vs ++ us)) (hg : w.grownBy w' (Value.slice A n c).ownBlock) (hat : ∀ a, A2 = some a → w.heap.size ≤ a.block ∨ some a.block = (Value.slice A n c).ownBlock) :
    Edg w' base lo A2 m c2 (appT t u) (vs ++ us) := by
  refine ⟨ho, ?_⟩
  refine ((h.row.app hu).keep (w' := w') fun b o hb => World.cell?_of_block (hg.block b hb.2.1 hb.2.2)).more fun b hb => ⟨hb.1, Nat.lt_of_lt_of_le hb.2.1 hg.size, fun e => ?_⟩
  cases A2 with
  | none => cases e
  | some a =>
    have e : b = a.block := by injection e
    rcases hat a rfl with h1 | h1
    · have := hb.2.1; omega
    · exact hb.2.2 (by rw [e]; exact h1)
end
/-- One edge, laid beside it. -/
theorem src_edge (W : World) (s : ByteArray) (A : Option Addr) (n c g : Nat) (hg : g = W.heap.size) : Src Tryz.prog 2 30 (.slice (some ⟨g, 0, none⟩) 1 1) 1 [.string s, .slice A n c] (W.alloc (Obj.cells #[Value.string s, Value.slice A n c] 53)) := by
  subst hg
  exact src_edges rfl (fun j u hu => by
    rw [cell_of_row _ _ _ _ _ _ (heap_alloc_new W _), Nat.zero_add, ← hu]
    match j, hu with
    | 0, _ => rfl
    | 1, _ => rfl
    | j + 2, hu => simp at hu) (fun u hu => by simp only [List.mem_cons, List.not_mem_nil, or_false] at hu; rcases hu with rfl | rfl <;> rfl)
end Go.Proofs.YtkgpjohfkfbfhaaGreatDoor.Jd
namespace Go.Proofs.YtkgpjohfkfbfhaaGreatDoor.Cv
open Go.RowKit Go.Proofs.YtkgpjohfkfbfhaaGreatDoor.Jd Go.Proofs.YtkgpjohfkfbfhaaGreatDoor.Li Go.Proofs.YtkgpjohfkfbfhaaGreatDoor.Cl
set_option maxRecDepth 100000

/-- The order of two names, as strings.Compare says it. -/
theorem cmp1_any (a b : ByteArray) (A A2 : Option Addr) (n c n2 c2 : Nat) (w : World) : Calls Tryz.prog 121 #[.agg #[.string a, .slice A n c], .agg #[.string b, .slice A2 n2 c2]] w fun e w' => e = .returned (.int .i64 (Lib.compareBytes a.data.toList b.data.toList)) ∧ w' = (w.alloc (Obj.cells #[.string a, .slice A n c] 53)).alloc (Obj.cells #[.string b, .slice A2 n2 c2] 53) := by
  have HC := Lib.hid (fun W => Tryz.strings_Compare a b W)
  have h1 := heap_alloc_new w (Obj.cells #[.string a, .slice A n c] 53)
  have h1l := (Array.getElem?_eq_some_iff.1 h1).1
  have h1' : ((w.alloc (Obj.cells #[.string a, .slice A n c] 53)).alloc (Obj.cells #[.string b, .slice A2 n2 c2] 53)).cell? ⟨w.heap.size, 0, none⟩ = some (.string a) := by
    rw [World.cell?_alloc_lt _ _ _ h1l, cell_of_row _ _ _ _ _ _ h1]; rfl
  go_enter Tryz.func121, Tryz.ntmps121
  go_wp2_with fail
  (with_reducible refine (HC.out _).mono ?_)
  rintro e w1 ⟨rfl, rfl⟩
  go_wp2_with fail
  go_ret
  exact ⟨rfl, rfl⟩

/-- inOrder answers a row of edges of one's own, sorted. -/
def InOrd (srt : Tr → Tr) : Prop := ∀ (t : Tr) (A : Option Addr) (n c base : Nat) (vs : List Value) (w : World), Edg w base base A n c t vs → base ≤ w.heap.size → n ≤ 100000 →
  Calls Tryz.prog 84 #[.slice A n c] w fun e w' => ∃ vs', e = .returned (.slice A n c) ∧ Edg w' base base A n c (srt t) vs' ∧ Below base w w'
/-- The columns with something in them, as they come. -/
def rawB : List ByteArray → List ByteArray → Tr
  | c :: cs, v :: vs => if v.size = 0 then rawB cs vs else .cons c (.cons v .nil .nil) (rawB cs vs)
  | _, _ => .nil
/-- A record's tree. -/
def BlP (srt : Tr → Tr) (w : World) (t : Tr) (en : Ending) (w' : World) : Prop := ∃ A n c vs, en = .returned (.slice A n c) ∧ Edg w' w.heap.size w.heap.size A n c (srt t) vs ∧ Below w.heap.size w w'

set_option maxHeartbeats 8000000 in
theorem below_any (srt : Tr → Tr) (hI : InOrd srt) (x0 : Ln) (xl : List Ln) (cols : List ByteArray) (Ar Ac : Option Addr) (nr cr m cc : Nat) (en : ByteArray) (w : World) (hr : SeesL w w.heap.size Ar nr (x0 :: xl)) (hc : SeesV w w.heap.size Ac m (cols.map Value.string)) (hm : xl.length = m) (hn : nr ≤ 100000) :
    Calls Tryz.prog 87 #[.agg #[.slice Ar nr cr, .string en], .slice Ac m cc] w (BlP srt w (rawB cols (mns xl))) := by
  have hl := hr.len
  rw [List.length_cons, hm] at hl
  subst hl
  have hb0 : Below w.heap.size w (w.alloc (Obj.cells #[.slice Ar (m + 1) cr, .string en] 75)) := (Below.refl _ _).alloc (Nat.le_refl _) _
  have HM := Lib.hid (means_any (x0 :: xl) Ar (m + 1) cr w.heap.size en (w.alloc (Obj.cells #[.slice Ar (m + 1) cr, .string en] 75)) (hr.below hb0) hb0.size hn)
  have HB0 := Lib.hid hb0
  obtain ⟨vals, hvals⟩ : ∃ v, v = mns xl := ⟨_, rfl⟩
  rw [← hvals]
  have Hlv : Hid (m = vals.length) := Lib.hid (by rw [hvals, mns_len, hm])
  have Hcs := Lib.hid hc
  have Hlc : Hid (m = cols.length) := Lib.hid (by have := hc.len; simpa using this)
  have Hvd := Lib.hid hvals
  clear hr hc hb0 hvals hm
  go_enter Tryz.func87, Tryz.ntmps87
  go_wp2_with fail
  (with_reducible refine HM.out.mono ?_)
  rintro e w2 ⟨g, rfl, hg, hgc, hb2⟩
  have HB2 := Lib.hid (HB0.out.trans (hb2.mono HB0.out.size))
  have hgl : g < w2.heap.size := (Array.getElem?_eq_some_iff.1 hgc).1
  have Hvals : Hid (∀ (k : Nat) (hk : k < vals.length), w2.cell? ⟨g, 1 + k, none⟩ = some (.string vals[k])) := Lib.hid (fun k hk => by
    rw [cell_of_row _ _ _ _ _ _ hgc]
    have e : (meanV (x0 :: xl)).toArray[1 + k]? = ((mns xl).map Value.string)[k]? := by
      rw [List.getElem?_toArray, ← mean_strs, Nat.add_comm 1 k]
      rfl
    rw [e, ← Hvd.out, List.getElem?_map, List.getElem?_eq_getElem hk]
    rfl)
  clear hb2 hgc hg
  have hnc1 : (1 : Int) ≤ ((m + 1 : Nat) : Int) := by omega
  by_cases hm0 : m = 0
  · subst hm0
    go_wp2_with fail
    go_loopw [5, 12] (fun a i wr => ∃ (k q : Nat) (A : Option Addr) (c : Nat) (t : Tr) (vs : List Value), k ≤ 0 ∧ q ≤ k ∧ i = .int .i64 k ∧ a = .slice A q c ∧ Hid (Edg wr w.heap.size w.heap.size A q c t vs) ∧ Hid (Below w.heap.size w wr) ∧ Hid (Below w2.heap.size w2 wr) ∧ Hid (∀ z, (Value.slice A q c).ownBlock = some z → w2.heap.size ≤ z) ∧ Hid (appT t (rawB (cols.drop k) (vals.drop k)) = rawB cols vals)) (fun _ i _ => 0 - (intOf i).toNat)
    case atStart => exact ⟨0, 0, none, 0, .nil, [], Nat.zero_le _, Nat.le_refl _, rfl, rfl, Lib.hid (Edg.nil _ _ _), HB2, Lib.hid (Below.refl _ _), Lib.hid (fun z hz => by cases hz), Lib.hid rfl⟩
    case round =>
      obtain ⟨k, q, A, c, t, vs, hk, hqk, rfl, rfl, HE, HW, HW2, HQ, HT⟩ := hrel
      by_cases hlt : k < 0
      · exact absurd hlt (Nat.not_lt_zero _)
      · obtain rfl : k = 0 := by omega
        have hT := HT.out
        rw [List.drop_of_length_le (l := cols) (by rw [← Hlc.out]; exact Nat.le_refl _)] at hT
        have hT2 : t = rawB cols vals := by rw [← hT]; simp [rawB, appT_nil]
        have HI2 := Lib.hid (hI t A q c w.heap.size vs wr HE.out HW.out.size (by omega))
        rw [hT2] at HI2
        clear hlt hT hT2 HT
        go_wp2_with fail
        (with_reducible refine HI2.out.mono ?_)
        rintro e w5 ⟨vs5, rfl, hE5, hb5⟩
        have HB5 := Lib.hid (HW.out.trans hb5)
        have HE5 := Lib.hid hE5
        clear hE5 hb5
        go_wp2_with fail
        go_ret
        exact ⟨A, q, c, vs5, rfl, HE5.out, HB5.out⟩
  · have hc1 : ¬ m + 1 = 1 := by omega
    have hnc2 : (1 : Int) ≤ (m : Int) + 1 := by omega
    go_wp2_with fail
    go_loopw [5, 12] (fun a i wr => ∃ (k q : Nat) (A : Option Addr) (c : Nat) (t : Tr) (vs : List Value), k ≤ m ∧ q ≤ k ∧ i = .int .i64 k ∧ a = .slice A q c ∧ Hid (Edg wr w.heap.size w.heap.size A q c t vs) ∧ Hid (Below w.heap.size w wr) ∧ Hid (Below w2.heap.size w2 wr) ∧ Hid (∀ z, (Value.slice A q c).ownBlock = some z → w2.heap.size ≤ z) ∧ Hid (appT t (rawB (cols.drop k) (vals.drop k)) = rawB cols vals)) (fun _ i _ => m - (intOf i).toNat)
    case atStart => exact ⟨0, 0, none, 0, .nil, [], Nat.zero_le _, Nat.le_refl _, rfl, rfl, Lib.hid (Edg.nil _ _ _), HB2, Lib.hid (Below.refl _ _), Lib.hid (fun z hz => by cases hz), Lib.hid rfl⟩
    case round =>
      obtain ⟨k, q, A, c, t, vs, hk, hqk, rfl, rfl, HE, HW, HW2, HQ, HT⟩ := hrel
      by_cases hlt : k < m
      · obtain ⟨bc, oc, col, rfl, hbc, hcol, hcc⟩ := strs_at ((Hcs.out.below HW.out)) hlt
        have hkc : k < cols.length := (List.getElem?_eq_some_iff.1 hcol).1
        have hce : cols[k] = col := (List.getElem?_eq_some_iff.1 hcol).2
        have hkv : k < vals.length := by have := Hlv.out; omega
        obtain ⟨v, hv⟩ : ∃ v, v = vals[k] := ⟨_, rfl⟩
        have hcv : wr.cell? ⟨g, 1 + k, none⟩ = some (.string v) := by rw [hv]; exact (HW2.out.cell (p := ⟨g, 1 + k, none⟩) hgl).trans (Hvals.out k hkv)
        have hT := HT.out
        rw [List.drop_eq_getElem_cons hkc, List.drop_eq_getElem_cons hkv, hce, ← hv, rawB] at hT
        have hkn : (k : Int) < (m : Int) := by omega
        have hk0 : (0 : Int) ≤ (k : Int) := by omega
        have Hlt := Lib.hid hlt
        have HT2 := Lib.hid hT
        by_cases hz : v.size = 0
        · have he : (v.toList == ([] : List UInt8)) = true := by rw [empty_iff, decide_eq_true hz]
          rw [if_pos hz] at hT
          have HT3 := Lib.hid hT
          clear hlt hT HT HT2 hz hv hkc hkv hce hcol
          go_wp2_with fail
          go_roundw
          case rel => exact ⟨k + 1, q, A, c, t, vs, Hlt.out, by omega, by go_num, rfl, HE, HW, HW2, HQ, HT3⟩
          case measure => have := Hlt.out; simp [intOf]; omega
        · have he : (v.toList == ([] : List UInt8)) = false := by rw [empty_iff, decide_eq_false hz]
          rw [if_neg hz] at hT
          have HT3 : Hid (appT (appT t (.cons col (.cons v .nil .nil) .nil)) (rawB (cols.drop (k + 1)) (vals.drop (k + 1))) = rawB cols vals) := Lib.hid (by rw [appT_cons]; exact hT)
          obtain ⟨W1, hW1⟩ : ∃ W, W = wr.alloc (Obj.cells #[.string v, .slice none 0 0] 53) := ⟨_, rfl⟩
          have hb1 : Below wr.heap.size wr W1 := by rw [hW1]; exact (Below.refl _ _).alloc (Nat.le_refl _) _
          have hg1 : W1.heap[wr.heap.size]? = some (Obj.cells #[.string v, .slice none 0 0] 53) := by rw [hW1]; exact heap_alloc_new wr _
          have hl1 : wr.heap.size < W1.heap.size := (Array.getElem?_eq_some_iff.1 hg1).1
          obtain ⟨W2, hW2⟩ : ∃ W, W = W1.alloc (Obj.cells #[.string col, .slice (some ⟨wr.heap.size, 0, none⟩) 1 1] 53) := ⟨_, rfl⟩
          have hb2 : Below W1.heap.size W1 W2 := by rw [hW2]; exact (Below.refl _ _).alloc (Nat.le_refl _) _
          have hg2 : W2.heap[wr.heap.size]? = some (Obj.cells #[.string v, .slice none 0 0] 53) := (hb2.block _ hl1).trans hg1
          have hsrc : Src Tryz.prog 2 30 (.slice (some ⟨W1.heap.size, 0, none⟩) 1 1) 1 [.string col, .slice (some ⟨wr.heap.size, 0, none⟩) 1 1] W2 := by rw [hW2]; exact src_edge W1 col (some ⟨wr.heap.size, 0, none⟩) 1 1 _ rfl
          have hbr2 : Below wr.heap.size wr W2 := hb1.trans (hb2.mono hb1.size)
          have HEa := Lib.hid (HE.out.below hbr2)
          have hk1 : q + 1 ≤ 1099511627776 := by omega
          have hwz : w.heap.size ≤ W2.heap.size := Nat.le_trans HW.out.size hbr2.size
          have hrow : RowP W2 (fun b => w.heap.size ≤ b ∧ b < W2.heap.size ∧ some b ≠ (Value.slice A q c).ownBlock) [.string col, .slice (some ⟨wr.heap.size, 0, none⟩) 1 1] (.cons col (.cons v .nil .nil) .nil) := by
            refine RowP.one ⟨wr.heap.size, 0, rfl, ⟨HW.out.size, Nat.lt_of_lt_of_le hl1 hb2.size, fun e => ?_⟩, by rw [cell_of_row _ _ _ _ _ _ hg2]; rfl, ⟨none, 0, 0, by rw [cell_of_row _ _ _ _ _ _ hg2]; rfl, Nat.le_refl _, Nat.zero_le _, rfl⟩, 0, rfl, rfl⟩ (Nat.le_refl _) (by simp [maxLen])
            have := (HE.out.own.lt _ e.symm).2
            omega
          have Hsrc := Lib.hid hsrc
          have Hrow := Lib.hid hrow
          have Hbr2 := Lib.hid hbr2
          have hW12 : (wr.alloc (Obj.cells #[.string v, .slice none 0 0] 53)).alloc (Obj.cells #[.string col, .slice (some ⟨wr.heap.size, 0, none⟩) 1 1] 53) = W2 := by rw [hW2, hW1]
          have HW12 := Lib.hid hW12
          have hW1s : (wr.alloc (Obj.cells #[.string v, .slice none 0 0] 53)).heap.size = W1.heap.size := by rw [hW1]
          rw [← hW12, ← hW1s] at hsrc
          have HEb : Hid (Edg ((wr.alloc (Obj.cells #[.string v, .slice none 0 0] 53)).alloc (Obj.cells #[.string col, .slice (some ⟨wr.heap.size, 0, none⟩) 1 1] 53)) w.heap.size w.heap.size A q c t vs) := Lib.hid (by rw [hW12]; exact HEa.out)
          have Hsrc2 := Lib.hid hsrc
          have hwz2 : w.heap.size ≤ ((wr.alloc (Obj.cells #[.string v, .slice none 0 0] 53)).alloc (Obj.cells #[.string col, .slice (some ⟨wr.heap.size, 0, none⟩) 1 1] 53)).heap.size := by rw [hW12]; exact hwz
          clear hlt hT HT HT2 hz hv hkc hkv hce hcol hW1 hW2 hb1 hg1 hl1 hb2 hg2 hsrc hrow hbr2 hW12 hW1s hwz
          go_wp2_with (at_builtin; refine wpList_append_row rfl (.tmp 19) (.tmp 28) _ _ rfl elem_edge rfl rfl HEb.out.own (src_edge _ col (some ⟨wr.heap.size, 0, none⟩) 1 1 _ (by simp)) hk1 hwz2 ?_; intro A4 c4 w4 ho4 hg4 hat4)
          rw [HW12.out] at hg4 hat4
          have HP := Lib.hid (HEa.out.push Hrow.out ho4 hg4 (fun a ha => (hat4 a ha).imp (fun e => Nat.le_of_eq e.symm) id))
          have HW4 : Hid (Below w.heap.size w w4) := Lib.hid ((HW.out.trans (Hbr2.out.mono HW.out.size)).grown hg4 (Nat.le_trans HW.out.size Hbr2.out.size) (fun q hq => (HEa.out.own.lt q hq).1))
          have HW24 : Hid (Below w2.heap.size w2 w4) := Lib.hid ((HW2.out.trans (Hbr2.out.mono HW2.out.size)).grown hg4 (Nat.le_trans HW2.out.size Hbr2.out.size) (fun z hz => HQ.out z hz))
          have HQ4 : Hid (∀ z, (Value.slice A4 (q + 1) c4).ownBlock = some z → w2.heap.size ≤ z) := Lib.hid (fun z hz => by
            cases A4 with
            | none => cases hz
            | some a =>
              have e : a.block = z := by injection hz
              rcases hat4 a rfl with h1 | h1
              · have := Nat.le_trans HW2.out.size Hbr2.out.size; omega
              · exact HQ.out z (by rw [← h1, e]))
          clear ho4 hg4 hat4
          go_wp2_with fail
          go_roundw
          case rel => exact ⟨k + 1, q + 1, A4, c4, _, _, Hlt.out, by omega, by go_num, rfl, HP, HW4, HW24, HQ4, HT3⟩
          case measure => have := Hlt.out; simp [intOf]; omega
      · obtain rfl : k = m := by omega
        have hT := HT.out
        rw [List.drop_of_length_le (l := cols) (by rw [← Hlc.out]; exact Nat.le_refl _)] at hT
        have hT2 : t = rawB cols vals := by rw [← hT]; simp [rawB, appT_nil]
        have HI2 := Lib.hid (hI t A q c w.heap.size vs wr HE.out HW.out.size (by omega))
        rw [hT2] at HI2
        clear hlt hT hT2 HT
        go_wp2_with fail
        (with_reducible refine HI2.out.mono ?_)
        rintro e w5 ⟨vs5, rfl, hE5, hb5⟩
        have HB5 := Lib.hid (HW.out.trans hb5)
        have HE5 := Lib.hid hE5
        clear hE5 hb5
        go_wp2_with fail
        go_ret
        exact ⟨A, q, c, vs5, rfl, HE5.out, HB5.out⟩
end Go.Proofs.YtkgpjohfkfbfhaaGreatDoor.Cv
namespace Go.Proofs.YtkgpjohfkfbfhaaGreatDoor.Cv
open Go.RowKit Go.Proofs.YtkgpjohfkfbfhaaGreatDoor.Jd Go.Proofs.YtkgpjohfkfbfhaaGreatDoor.Li Go.Proofs.YtkgpjohfkfbfhaaGreatDoor.Cl
set_option maxRecDepth 100000

theorem seesV_moreT {w : World} {B B' n : Nat} {A : Option Addr} {vs : List Value} (h : SeesV w B A n vs) (hB : B ≤ B') : SeesV w B' A n vs :=
  ⟨h.len, fun j u hu => by
    obtain ⟨b, o, e, hb, hc⟩ := h.cell j u hu
    exact ⟨b, o, e, Nat.lt_of_lt_of_le hb hB, hc⟩⟩
/-- An edge answered. -/
def TfP (w : World) (s : ByteArray) (k : Tr) (en : Ending) (w' : World) : Prop := ∃ A n c, en = .returned (.agg #[.string s, .slice A n c]) ∧ HoldsP w' (fun b => w.heap.size ≤ b ∧ b < w'.heap.size) A n k ∧ n ≤ c ∧ c ≤ maxLen ∧ Below w.heap.size w w'

set_option maxHeartbeats 8000000 in
theorem tree1_any (srt : Tr → Tr) (hI : InOrd srt) (r : Rw) (x0 : Ln) (xl : List Ln) (hr0 : r.fs = x0 :: xl) (cols : List ByteArray) (Ar Ac : Option Addr) (nr cr m cc gc : Nat) (w : World) (hr : SeesL w w.heap.size Ar nr r.fs) (hc : SeesV w w.heap.size Ac m (cols.map Value.string)) (hm : xl.length = m) (hn : nr ≤ 100000)
    (hgc : w.cell? ⟨gc, 0, none⟩ = some (.slice Ac m cc)) :
    Calls Tryz.prog 86 #[.agg #[.slice Ar nr cr, .string r.en], .pointer (some ⟨gc, 0, none⟩)] w (TfP w (nm r) (srt (rawB cols (mns xl)))) := by
  have hgl : gc < w.heap.size := World.block_lt_of_cell? w ⟨gc, 0, none⟩ hgc
  rw [hr0] at hr
  have hex := nm_enc hr0
  obtain ⟨W1, hW1⟩ : ∃ W, W = (w.alloc (Obj.cells #[.slice Ar nr cr, .string r.en] 75)).alloc (Obj.cells #[.string ⟨#[]⟩, .slice none 0 0] 53) := ⟨_, rfl⟩
  have hb1 : Below w.heap.size w W1 := by rw [hW1]; exact ((Below.refl _ _).alloc (Nat.le_refl _) _).alloc (by simp) _
  have hg1 : W1.heap[w.heap.size]? = some (Obj.cells #[.slice Ar nr cr, .string r.en] 75) := by
    rw [hW1]
    exact (Below.heap_alloc _ _ _ (by simp)).trans (heap_alloc_new w _)
  have hg2 : W1.heap[w.heap.size + 1]? = some (Obj.cells #[.string ⟨#[]⟩, .slice none 0 0] 53) := by
    rw [hW1]
    have := heap_alloc_new (w.alloc (Obj.cells #[.slice Ar nr cr, .string r.en] 75)) (Obj.cells #[.string ⟨#[]⟩, .slice none 0 0] 53)
    simpa using this
  have hl2 : w.heap.size + 1 < W1.heap.size := (Array.getElem?_eq_some_iff.1 hg2).1
  have hl1 : w.heap.size < W1.heap.size := by omega
  have hp0 : W1.cell? ⟨w.heap.size, 0, none⟩ = some (.slice Ar nr cr) := by rw [cell_of_row _ _ _ _ _ _ hg1]; rfl
  have hp1 : W1.cell? ⟨w.heap.size, 1, none⟩ = some (.string r.en) := by rw [cell_of_row _ _ _ _ _ _ hg1]; rfl
  have hpc : W1.cell? ⟨gc, 0, none⟩ = some (.slice Ac m cc) := (hb1.cell (p := ⟨gc, 0, none⟩) hgl).trans hgc
  have HK := Lib.hid (fun (W : World) (hW : Below W1.heap.size W1 W) => (⟨(hW.cell (p := ⟨w.heap.size, 0, none⟩) hl1).trans hp0, (hW.cell (p := ⟨w.heap.size, 1, none⟩) hl1).trans hp1, (hW.cell (p := ⟨gc, 0, none⟩) (Nat.lt_trans hgl hl1)).trans hpc⟩ : W.cell? ⟨w.heap.size, 0, none⟩ = some (.slice Ar nr cr) ∧ W.cell? ⟨w.heap.size, 1, none⟩ = some (.string r.en) ∧ W.cell? ⟨gc, 0, none⟩ = some (.slice Ac m cc)))
  have HN := Lib.hid (fun (W : World) (hW : Below W1.heap.size W1 W) => rname_any x0 xl Ar nr cr w.heap.size r.en (nm r) W ((hr.below hb1).below (hW.mono (Nat.le_of_lt hl1))) (Nat.le_trans (Nat.le_of_lt hl1) hW.size) hex)
  have HBl := Lib.hid (fun (W : World) (hW : Below W1.heap.size W1 W) => below_any srt hI x0 xl cols Ar Ac nr cr m cc r.en W (((hr.below hb1).below (hW.mono (Nat.le_of_lt hl1))).more (Nat.le_trans (Nat.le_of_lt hl1) hW.size)) (seesV_moreT ((hc.below hb1).below (hW.mono (Nat.le_of_lt hl1))) (Nat.le_trans (Nat.le_of_lt hl1) hW.size)) hm hn)
  have HB1 := Lib.hid hb1
  have Hg2 := Lib.hid hg2
  have hq0 : Below W1.heap.size W1 W1.drew := (Below.refl _ _).drew
  obtain ⟨k, hk⟩ : ∃ k, k = srt (rawB cols (mns xl)) := ⟨_, rfl⟩
  have Hk := Lib.hid hk
  rw [← hk]
  obtain ⟨s, hs⟩ : ∃ s, s = nm r := ⟨_, rfl⟩
  rw [← hs] at HN
  rw [← hs]
  clear hr hc hex hb1 hg1 hg2 hp0 hp1 hpc hr0 hm hk hs hgc
  go_enter Tryz.func86, Tryz.ntmps86
  go_wp2_with fail
  rw [← hW1]
  clear hW1
  go_region_held3 (fun W => W.cell? ⟨w.heap.size, 0, none⟩ = some (.slice Ar nr cr) ∧ W.cell? ⟨w.heap.size, 1, none⟩ = some (.string r.en) ∧ W.cell? ⟨gc, 0, none⟩ = some (.slice Ac m cc))
    (first | exact HK.out _ hq0 | exact HK.out _ hq2 | exact HK.out _ hq3 | exact ⟨(World.cell?_setCell_far _ _ _ _ (by simp only [ne_eq]; omega)).trans ((World.cell?_setCell_far _ _ _ _ (by simp only [ne_eq]; omega)).trans (HK.out _ hq3).1), (World.cell?_setCell_far _ _ _ _ (by simp only [ne_eq]; omega)).trans ((World.cell?_setCell_far _ _ _ _ (by simp only [ne_eq]; omega)).trans (HK.out _ hq3).2.1), (World.cell?_setCell_far _ _ _ _ (by simp only [ne_eq]; omega)).trans ((World.cell?_setCell_far _ _ _ _ (by simp only [ne_eq]; omega)).trans (HK.out _ hq3).2.2)⟩)
    (first
    | (go_at_call 65; (with_reducible refine (HN.out _ hq0).mono ?_); rintro e w2 ⟨rfl, hg2⟩; have hq2 := hq0.trans (hg2.mono hq0.size); clear hg2)
    | (go_at_call 87; (with_reducible refine (HBl.out _ hq2).mono ?_); rintro e w3 ⟨A3, n3, c3, vs3, rfl, hE3, hb3⟩; have hq3 := hq2.trans (hb3.mono hq2.size); have hg3 := (hq3.block _ hl2).trans Hg2.out; have hc30 : w3.cell? ⟨w.heap.size + 1, 0, none⟩ = some (.string ⟨#[]⟩) := (by rw [cell_of_row _ _ _ _ _ _ hg3]; rfl); have hc31 : w3.cell? ⟨w.heap.size + 1, 1, none⟩ = some (.slice none 0 0) := (by rw [cell_of_row _ _ _ _ _ _ hg3]; rfl); have hf30 : w3.frozen? ⟨w.heap.size + 1, 0, none⟩ = false := (by simp [World.frozen?, hg3]); have hf31 : w3.frozen? ⟨w.heap.size + 1, 1, none⟩ = false := (by simp [World.frozen?, hg3])))
  all_goals
    have hw1 : (w3.setCell ⟨w.heap.size + 1, 0, none⟩ (.string s)).heap[w.heap.size + 1]? = some (.cells #[.string s, .slice none 0 0] 53 (0, 0)) := by rw [heap_setCell_same w3 _ 0 _ _ _ hg3]; rfl
    have hw2 : ((w3.setCell ⟨w.heap.size + 1, 0, none⟩ (.string s)).setCell ⟨w.heap.size + 1, 1, none⟩ (.slice A3 n3 c3)).heap[w.heap.size + 1]? = some (.cells #[.string s, .slice A3 n3 c3] 53 (0, 0)) := by rw [heap_setCell_same _ _ 1 _ _ _ hw1]; rfl
    have hx0 : ((w3.setCell ⟨w.heap.size + 1, 0, none⟩ (.string s)).setCell ⟨w.heap.size + 1, 1, none⟩ (.slice A3 n3 c3)).cell? ⟨w.heap.size + 1, 0, none⟩ = some (.string s) := by rw [cell_of_row _ _ _ _ _ _ hw2]; rfl
    have hx1 : ((w3.setCell ⟨w.heap.size + 1, 0, none⟩ (.string s)).setCell ⟨w.heap.size + 1, 1, none⟩ (.slice A3 n3 c3)).cell? ⟨w.heap.size + 1, 1, none⟩ = some (.slice A3 n3 c3) := by rw [cell_of_row _ _ _ _ _ _ hw2]; rfl
    have hz1 := HB1.out.size
    have hbw : Below w.heap.size w ((w3.setCell ⟨w.heap.size + 1, 0, none⟩ (.string s)).setCell ⟨w.heap.size + 1, 1, none⟩ (.slice A3 n3 c3)) := ((HB1.out.trans (hq3.mono HB1.out.size)).setCell (by simp only; omega) _).setCell (by simp only; omega) _
    have hh := hE3.holdsP (Nat.le_refl _)
    have hcap := hE3.cap
    have hq2s := hq2.size
    have hh2 : HoldsP ((w3.setCell ⟨w.heap.size + 1, 0, none⟩ (.string s)).setCell ⟨w.heap.size + 1, 1, none⟩ (.slice A3 n3 c3)) (fun b => w.heap.size ≤ b ∧ b < ((w3.setCell ⟨w.heap.size + 1, 0, none⟩ (.string s)).setCell ⟨w.heap.size + 1, 1, none⟩ (.slice A3 n3 c3)).heap.size) A3 n3 k := by
      rw [Hk.out]
      refine (hh.keep (w' := (w3.setCell ⟨w.heap.size + 1, 0, none⟩ (.string s)).setCell ⟨w.heap.size + 1, 1, none⟩ (.slice A3 n3 c3)) (fun b o hb => ?_)).more (fun b hb => ⟨by have := hb.1; omega, by have := hb.2; simp [World.setCell]; exact this⟩)
      have hb1 := hb.1
      exact (World.cell?_setCell_far _ _ _ _ (by simp only [ne_eq]; omega)).trans (World.cell?_setCell_far _ _ _ _ (by simp only [ne_eq]; omega))
    have Hbw := Lib.hid hbw
    have Hh2 := Lib.hid hh2
    have Hcap := Lib.hid hcap
    clear hw1 hw2 hbw hh hh2 hcap hE3 hb3 hq0 hq2 hq3 hg3
    go_wp2_with fail
    refine bodyPost_ret (v := .agg #[.string s, .slice A3 n3 c3]) (by simp [results, Tryz.results86, go_sem, hx0, hx1]) rfl ?_
    exact ⟨A3, n3, c3, rfl, Hh2.out, Hcap.out.1, Hcap.out.2, Hbw.out⟩
end Go.Proofs.YtkgpjohfkfbfhaaGreatDoor.Cv
namespace Go.Proofs.YtkgpjohfkfbfhaaGreatDoor.Cv
open Go.RowKit Go.Proofs.YtkgpjohfkfbfhaaGreatDoor.Jd Go.Proofs.YtkgpjohfkfbfhaaGreatDoor.Li Go.Proofs.YtkgpjohfkfbfhaaGreatDoor.Cl
set_option maxRecDepth 100000

/-- So many edges are made, the others are none yet. -/
def zerosE : Nat → List Value
  | 0 => []
  | k + 1 => Value.string ⟨#[]⟩ :: Value.slice none 0 0 :: zerosE k
theorem zerosE_len : ∀ k, (zerosE k).length = k * 2
  | 0 => rfl
  | k + 1 => by simp only [zerosE, List.length_cons, zerosE_len k]; omega
theorem zerosE_get : ∀ (k i : Nat), i < k * 2 → (zerosE k)[i]? = some (if i % 2 = 0 then Value.string ⟨#[]⟩ else Value.slice none 0 0)
  | 0, i, h => by omega
  | k + 1, 0, _ => rfl
  | k + 1, 1, _ => rfl
  | k + 1, i + 2, h => by
    simp only [zerosE, List.getElem?_cons_succ]
    rw [zerosE_get k i (by omega), show (i + 2) % 2 = i % 2 by omega]
theorem made_zeros (n : Nat) : madeCells #[Value.string ⟨#[]⟩, Value.slice none 0 0] (n * 2) = (zerosE n).toArray := by
  apply Array.ext
  · simp [madeCells, zerosE_len]
  · intro i h1 h2
    have hi : i < n * 2 := by simpa [madeCells] using h1
    have h := zerosE_get n i hi
    rw [List.getElem?_eq_getElem (by rw [zerosE_len]; exact hi)] at h
    injection h with h
    have h3 : (zerosE n).toArray[i] = if i % 2 = 0 then Value.string ⟨#[]⟩ else Value.slice none 0 0 := by rw [List.getElem_toArray]; exact h
    rw [h3]
    have hm : i % 2 = 0 ∨ i % 2 = 1 := by omega
    rcases hm with hm | hm
    · simp [madeCells, hm]
    · simp [madeCells, hm]
def partE (vs : List Value) (j : Nat) : Array Value := (vs ++ zerosE j).toArray
theorem partE_set {vs : List Value} {j k : Nat} (x y : Value) (hv : vs.length = k * 2) : ((partE vs (j + 1)).setIfInBounds (k * 2) x).setIfInBounds (k * 2 + 1) y = partE (vs ++ [x, y]) j := by
  unfold partE
  rw [List.setIfInBounds_toArray, List.setIfInBounds_toArray]
  congr 1
  rw [List.set_append_right _ _ (by omega), hv, Nat.sub_self, zerosE, List.set_cons_zero, List.set_append_right _ _ (by omega), hv, show k * 2 + 1 - k * 2 = 1 by omega]
  simp
theorem info_edge : (Tryz.prog.info? 53).map (fun i => (i.zero, i.size, i.bytes)) = some (some (.agg #[.string ⟨#[]⟩, .slice none 0 0]), 2, 40) := by kernel_rfl
theorem make_edges (n : Nat) (hn : n ≤ 100000) (w : World) : (Instr.makeSlice 29 (.int .i64 (n : Int)) (.int .i64 (n : Int))).run Tryz.prog w = .ok (.slice (some ⟨w.heap.size, 0, none⟩) n n) (w.alloc (.cells (partE [] n) 53)) := by
  obtain ⟨i, hi, hz, hs, hb⟩ := info_parts info_edge
  have h := run_make (P := Tryz.prog) w 29 53 i (.agg #[.string ⟨#[]⟩, .slice none 0 0]) Tryz.underlying29 hi hz .i64 .i64 n n (by omega) (Int.le_refl _) (by rw [hb]; omega) (by omega)
  rw [hs] at h
  simp only [Int.toNat_natCast] at h
  rw [h]
  have e : (Value.agg #[Value.string ⟨#[]⟩, Value.slice none 0 0]).cells = #[Value.string ⟨#[]⟩, Value.slice none 0 0] := by rfl
  rw [e, made_zeros]
  rfl
/-- The records' edges, as they come. -/
def recsT (srt : Tr → Tr) (cols : List ByteArray) : List Rw → Tr
  | [] => .nil
  | r :: rs => .cons (nm r) (srt (rawB cols (mns r.fs.tail))) (recsT srt cols rs)
theorem recs_take {srt : Tr → Tr} {cols : List ByteArray} : ∀ (rs : List Rw) (k : Nat) {r : Rw}, rs[k]? = some r → appT (recsT srt cols (rs.take k)) (.cons (nm r) (srt (rawB cols (mns r.fs.tail))) .nil) = recsT srt cols (rs.take (k + 1))
  | [], k, r, h => by simp at h
  | x :: rs, 0, r, h => by
    simp only [List.getElem?_cons_zero, Option.some.injEq] at h
    subst h
    rfl
  | x :: rs, k + 1, r, h => by
    simp only [List.getElem?_cons_succ] at h
    rw [List.take_succ_cons, List.take_succ_cons, recsT, appT, recs_take rs k h]
    rfl
/-- A row of edges, all made. -/
theorem edg_of {w : World} {base g n : Nat} {t : Tr} {vs : List Value} (hg : w.heap[g]? = some (.cells (partE vs 0) 53 (0, 0))) (hb : base ≤ g) (hv : vs.length = n * 2) (hn : n ≤ 100000) (hr : RowP w (fun b => base ≤ b ∧ b < w.heap.size ∧ b ≠ g) vs t) : Edg w base base (some ⟨g, 0, none⟩) n n t vs := by
  refine ⟨⟨hv, .inr ⟨g, n, partE vs 0, rfl, hb, hg, Nat.le_refl _, Nat.le_trans hn (by decide), ?_, ?_⟩⟩, hr.more fun b hb1 => ⟨hb1.1, hb1.2.1, fun e => hb1.2.2 (by injection e)⟩⟩
  · simp [partE, zerosE, hv]
  · simp [partE, zerosE, ← hv]

set_option maxHeartbeats 8000000 in
theorem eachE_any (srt : Tr → Tr) (hI : InOrd srt) (rs : List Rw) (cols : List ByteArray) (A Ac : Option Addr) (n c m cc gc : Nat) (w : World) (h : SeesR w w.heap.size A n rs) (hc : SeesV w w.heap.size Ac m (cols.map Value.string)) (hn : n ≤ 100000) (hm : m ≤ 10000) (hrs : ∀ r ∈ rs, r.fs.length = m + 1)
    (hgc : w.cell? ⟨gc, 0, none⟩ = some (.slice Ac m cc)) :
    Calls Tryz.prog 85 #[.slice A n c, .func (.func 86) #[] #[.pointer (some ⟨gc, 0, none⟩)]] w fun e w' => ∃ g vs, e = .returned (.slice (some ⟨g, 0, none⟩) n n) ∧ Edg w' w.heap.size w.heap.size (some ⟨g, 0, none⟩) n n (recsT srt cols rs) vs ∧ Below w.heap.size w w' := by
  have hmk := fun W : World => make_edges n hn W
  have hgl : gc < w.heap.size := World.block_lt_of_cell? w ⟨gc, 0, none⟩ hgc
  have Hl := Lib.hid h.len
  have HH := Lib.hid h
  have HC := Lib.hid (fun (W : World) (hW : Below w.heap.size w W) (r : Rw) (hr : r ∈ rs) (Ar : Option Addr) (nr cr : Nat) (hs : SeesL W w.heap.size Ar nr r.fs) => by
    obtain ⟨x0, xl, hx0⟩ : ∃ x0 xl, r.fs = x0 :: xl := List.exists_cons_of_ne_nil (fun e => by have := hrs r hr; rw [e] at this; simp at this)
    have hlen := hrs r hr
    have hnr := hs.len
    have h1 := tree1_any srt hI r x0 xl hx0 cols Ar Ac nr cr m cc gc W (hs.more hW.size) (seesV_moreT (hc.below hW) hW.size) (by rw [hx0] at hlen; simpa using hlen) (by omega) ((hW.cell (p := ⟨gc, 0, none⟩) hgl).trans hgc)
    have e : xl = r.fs.tail := by rw [hx0]; rfl
    rw [e] at h1
    exact h1)
  clear h hc hgc hrs hI
  go_enter Tryz.func85, Tryz.ntmps85
  go_wp2_with fail
  go_loopw [13] (fun i wr => ∃ (k : Nat) (vs : List Value), k ≤ n ∧ i = .int .i64 k ∧ Hid (wr.heap[w.heap.size]? = some (.cells (partE vs (n - k)) 53 (0, 0))) ∧ Hid (vs.length = k * 2) ∧ Hid (RowP wr (fun b => w.heap.size ≤ b ∧ b < wr.heap.size ∧ b ≠ w.heap.size) vs (recsT srt cols (rs.take k))) ∧ Hid (Below w.heap.size w wr)) (fun i _ => n - (intOf i).toNat)
  case atStart => exact ⟨0, [], Nat.zero_le _, rfl, Lib.hid (heap_alloc_new w _), Lib.hid rfl, Lib.hid trivial, Lib.hid ((Below.refl _ _).alloc (Nat.le_refl _) _)⟩
  case round =>
    obtain ⟨k, vs, hk, rfl, HG, HV, HP, HW⟩ := hrel
    by_cases hlt : k < n
    · have hkl : k < rs.length := by have := Hl.out; omega
      obtain ⟨r, hr⟩ : ∃ r, rs[k]? = some r := ⟨_, List.getElem?_eq_getElem hkl⟩
      obtain ⟨b, o, Af, nf, cf, rfl, hbl, hc1, hc2, hsf, _, _⟩ := (HH.out.below HW.out).at_ k r hr
      have hkn : (k : Int) < (n : Int) := by omega
      have hk0 : (0 : Int) ≤ (k : Int) := by omega
      have hb1 : Below wr.heap.size wr (wr.alloc (Obj.cells #[.slice Af nf cf, .string r.en] 75)) := (Below.refl _ _).alloc (Nat.le_refl _) _
      have hsz1 := HW.out.size
      have HM := Lib.hid (HC.out _ (HW.out.trans (hb1.mono hsz1)) r (List.mem_of_getElem? hr) Af nf cf (hsf.below (hb1.mono hsz1)))
      have hgl2 := (Array.getElem?_eq_some_iff.1 HG.out).1
      obtain ⟨j, hj⟩ : ∃ j, n - k = j + 1 := ⟨n - k - 1, by omega⟩
      have hj2 : n - (k + 1) = j := by omega
      have Hrt := Lib.hid (recs_take (srt := srt) (cols := cols) rs k hr)
      have Hlt := Lib.hid hlt
      have Hb1 := Lib.hid hb1
      have Hj := Lib.hid hj
      have Hj2 := Lib.hid hj2
      clear hkl hr hlt hb1 hsf hj hj2
      go_wp2_with fail
      (with_reducible refine HM.out.mono ?_)
      rintro e w2 ⟨A3, n3, c3, rfl, hh3, hn3, hc3, hb2⟩
      have hb12 : Below wr.heap.size wr w2 := Hb1.out.trans (hb2.mono (by simp))
      have hg2 : w2.heap[w.heap.size]? = some (.cells (partE vs (n - k)) 53 (0, 0)) := (hb12.block _ hgl2).trans HG.out
      have hsz2 : (partE vs (n - k)).size = k * 2 + (j + 1) * 2 := by rw [Hj.out]; unfold partE; rw [List.size_toArray, List.length_append, zerosE_len, HV.out]
      have hcell : ∀ q, q < 2 → ∃ y, w2.cell? ⟨w.heap.size, k * 2 + q, none⟩ = some y := fun q hq => by
        rw [cell_of_row _ _ _ _ _ _ hg2]
        exact ⟨_, Array.getElem?_eq_getElem (by omega)⟩
      obtain ⟨y0, hy0⟩ := hcell 0 (by omega)
      obtain ⟨y1, hy1⟩ := hcell 1 (by omega)
      rw [Nat.add_zero] at hy0
      have hf0 : w2.frozen? ⟨w.heap.size, k * 2, none⟩ = false := by simp [World.frozen?, hg2]
      have hg3 := heap_setCell_same w2 w.heap.size (k * 2) _ _ (.string (nm r)) hg2
      have hy1' : (w2.setCell ⟨w.heap.size, k * 2, none⟩ (.string (nm r))).cell? ⟨w.heap.size, k * 2 + 1, none⟩ = some y1 := by
        rw [World.cell?_setCell_other _ _ _ _ (by intro e; injection e; omega)]
        exact hy1
      have hf1 : (w2.setCell ⟨w.heap.size, k * 2, none⟩ (.string (nm r))).frozen? ⟨w.heap.size, k * 2 + 1, none⟩ = false := by simp [World.frozen?, hg3]
      have hf1' : w2.frozen? ⟨w.heap.size, k * 2 + 1, none⟩ = false := by simp [World.frozen?, hg2]
      have hg4 := heap_setCell_same (w2.setCell ⟨w.heap.size, k * 2, none⟩ (.string (nm r))) w.heap.size (k * 2 + 1) _ _ (.slice A3 n3 c3) hg3
      rw [Hj.out, partE_set _ _ HV.out, ← Hj2.out] at hg4
      have HG4 := Lib.hid hg4
      have HW4 : Hid (Below w.heap.size w ((w2.setCell ⟨w.heap.size, k * 2, none⟩ (.string (nm r))).setCell ⟨w.heap.size, k * 2 + 1, none⟩ (.slice A3 n3 c3))) := Lib.hid (((HW.out.trans (hb12.mono hsz1)).setCell (Nat.le_refl _) _).setCell (Nat.le_refl _) _)
      have HV4 : Hid ((vs ++ [Value.string (nm r), Value.slice A3 n3 c3]).length = (k + 1) * 2) := Lib.hid (by rw [List.length_append, HV.out]; simp; omega)
      have hkeep : ∀ b o, (w.heap.size ≤ b ∧ b < w2.heap.size ∧ b ≠ w.heap.size) → ((w2.setCell ⟨w.heap.size, k * 2, none⟩ (.string (nm r))).setCell ⟨w.heap.size, k * 2 + 1, none⟩ (.slice A3 n3 c3)).cell? ⟨b, o, none⟩ = w2.cell? ⟨b, o, none⟩ := fun b o hb =>
        (World.cell?_setCell_other _ _ _ _ (by intro e; injection e with e; exact hb.2.2 e.symm)).trans (World.cell?_setCell_other _ _ _ _ (by intro e; injection e with e; exact hb.2.2 e.symm))
      have hp1 : RowP w2 (fun b => w.heap.size ≤ b ∧ b < w2.heap.size ∧ b ≠ w.heap.size) vs (recsT srt cols (rs.take k)) := (HP.out.keep (w' := w2) (fun b o hb => hb12.cell (p := ⟨b, o, none⟩) hb.2.1)).more (fun b hb => ⟨hb.1, Nat.lt_of_lt_of_le hb.2.1 hb12.size, hb.2.2⟩)
      have hp2 : RowP w2 (fun b => w.heap.size ≤ b ∧ b < w2.heap.size ∧ b ≠ w.heap.size) [.string (nm r), .slice A3 n3 c3] (.cons (nm r) (srt (rawB cols (mns r.fs.tail))) .nil) := RowP.one (hh3.more (fun b hb => ⟨Nat.le_trans hsz1 (by have := hb.1; simp at this; omega), hb.2, by have := hb.1; simp at this; omega⟩)) hn3 hc3
      have hp3 := hp1.app hp2
      rw [Hrt.out] at hp3
      have HP4 : Hid (RowP ((w2.setCell ⟨w.heap.size, k * 2, none⟩ (.string (nm r))).setCell ⟨w.heap.size, k * 2 + 1, none⟩ (.slice A3 n3 c3)) (fun b => w.heap.size ≤ b ∧ b < ((w2.setCell ⟨w.heap.size, k * 2, none⟩ (.string (nm r))).setCell ⟨w.heap.size, k * 2 + 1, none⟩ (.slice A3 n3 c3)).heap.size ∧ b ≠ w.heap.size) (vs ++ [Value.string (nm r), Value.slice A3 n3 c3]) (recsT srt cols (rs.take (k + 1)))) := Lib.hid ((hp3.keep hkeep).more (fun b hb => ⟨hb.1, by simp [World.setCell]; exact hb.2.1, hb.2.2⟩))
      clear hb2 hb12 hg2 hg3 hg4 hcell hkeep hp1 hp2 hp3 hh3 hn3 hc3 hsz2
      go_wp2_with fail
      go_roundw
      case rel => exact ⟨k + 1, _, Hlt.out, by go_num, HG4, HV4, HP4, HW4⟩
      case measure => have := Hlt.out; simp [intOf]; omega
    · obtain rfl : k = n := by omega
      have hg := HG.out
      rw [Nat.sub_self] at hg
      have hp := HP.out
      rw [List.take_of_length_le (by rw [← Hl.out]; exact Nat.le_refl _)] at hp
      have HE := Lib.hid (edg_of hg (Nat.le_refl _) HV.out hn hp)
      clear hlt hg hp
      go_wp2_with fail
      go_ret
      exact ⟨w.heap.size, vs, rfl, HE.out, HW.out⟩
end Go.Proofs.YtkgpjohfkfbfhaaGreatDoor.Cv
namespace Go.Proofs.YtkgpjohfkfbfhaaGreatDoor.Cv
open Go.RowKit Go.Proofs.YtkgpjohfkfbfhaaGreatDoor.Jd Go.Proofs.YtkgpjohfkfbfhaaGreatDoor.Li Go.Proofs.YtkgpjohfkfbfhaaGreatDoor.Cl
set_option maxRecDepth 100000

set_option maxHeartbeats 2000000 in
theorem treeOf_any (srt : Tr → Tr) (hI : InOrd srt) (rs : List Rw) (cols : List ByteArray) (A Ac : Option Addr) (n c m cc : Nat) (w : World) (h : SeesR w w.heap.size A n rs) (hc : SeesV w w.heap.size Ac m (cols.map Value.string)) (hn : n ≤ 100000) (hm : m ≤ 10000) (hrs : ∀ r ∈ rs, r.fs.length = m + 1) :
    Calls Tryz.prog 58 #[.slice Ac m cc, .slice A n c] w (BlP srt w (recsT srt cols rs)) := by
  obtain ⟨W1, hW1⟩ : ∃ W, W = w.alloc (Obj.cells #[.slice Ac m cc] 36) := ⟨_, rfl⟩
  have hb1 : Below w.heap.size w W1 := by rw [hW1]; exact (Below.refl _ _).alloc (Nat.le_refl _) _
  have hg1 : W1.heap[w.heap.size]? = some (Obj.cells #[.slice Ac m cc] 36) := by rw [hW1]; exact heap_alloc_new w _
  have hp0 : W1.cell? ⟨w.heap.size, 0, none⟩ = some (.slice Ac m cc) := by rw [cell_of_row _ _ _ _ _ _ hg1]; rfl
  have HE := Lib.hid (eachE_any srt hI rs cols A Ac n c m cc w.heap.size W1 ((h.below hb1).more hb1.size) (seesV_moreT (hc.below hb1) hb1.size) hn hm hrs hp0)
  have HB1 := Lib.hid hb1
  have HI := Lib.hid hI
  clear h hc hrs hb1 hg1 hp0
  go_enter Tryz.func58, Tryz.ntmps58
  go_wp2_with fail
  rw [← hW1]
  clear hW1
  (with_reducible refine HE.out.mono ?_)
  rintro e w2 ⟨g, vs, rfl, hE2, hb2⟩
  have HB2 := Lib.hid (HB1.out.trans (hb2.mono HB1.out.size))
  have HI2 := Lib.hid (HI.out _ _ _ _ _ _ w2 hE2 hb2.size hn)
  have hz := HB1.out.size
  clear hE2 hb2
  go_wp2_with fail
  (with_reducible refine HI2.out.mono ?_)
  rintro e w3 ⟨vs3, rfl, hE3, hb3⟩
  have HB3 := Lib.hid (HB2.out.trans (hb3.mono hz))
  have HE3 := Lib.hid hE3
  clear hE3 hb3
  go_wp2_with fail
  go_ret
  refine ⟨some ⟨g, 0, none⟩, n, n, vs3, rfl, ⟨own_base HE3.out.own hz, HE3.out.row.more fun b hb => ⟨Nat.le_trans hz hb.1, hb.2.1, hb.2.2⟩⟩, HB3.out⟩
end Go.Proofs.YtkgpjohfkfbfhaaGreatDoor.Cv
namespace Go.Proofs.YtkgpjohfkfbfhaaGreatDoor.Cv
open Go.RowKit Go.Proofs.YtkgpjohfkfbfhaaGreatDoor.Jd Go.Proofs.YtkgpjohfkfbfhaaGreatDoor.Li Go.Proofs.YtkgpjohfkfbfhaaGreatDoor.Cl
set_option maxRecDepth 100000

/-- The columns answered. -/
def CoP (w : World) (cols : List ByteArray) (en : Ending) (w' : World) : Prop := ∃ A c, en = .returned (.slice A cols.length c) ∧ SeesV w' w'.heap.size A cols.length (cols.map Value.string) ∧ Below w.heap.size w w'
set_option maxHeartbeats 2000000 in
theorem columns_any (x0 : Ln) (xl : List Ln) (Ah Ar At : Option Addr) (nh ch nr cr nt ct : Nat) (en : ByteArray) (w : World) (h : SeesL w w.heap.size Ah nh (x0 :: xl)) (hn : nh ≤ 100000) :
    Calls Tryz.prog 59 #[.agg #[.slice Ah nh ch, .string en, .slice Ar nr cr, .slice At nt ct]] w (CoP w (mns xl)) := by
  have hl := h.len
  rw [List.length_cons] at hl
  subst hl
  obtain ⟨m, hm⟩ : ∃ m, m = xl.length := ⟨_, rfl⟩
  have hml : (mns xl).length = m := by rw [mns_len, hm]
  have hb0 : Below w.heap.size w (w.alloc (Obj.cells #[.slice Ah (xl.length + 1) ch, .string en, .slice Ar nr cr, .slice At nt ct] 78)) := (Below.refl _ _).alloc (Nat.le_refl _) _
  have hM := means_any (x0 :: xl) Ah (xl.length + 1) ch w.heap.size en (w.alloc (Obj.cells #[.slice Ah (xl.length + 1) ch, .string en, .slice Ar nr cr, .slice At nt ct] 78)) (h.below hb0) hb0.size hn
  rw [← hm] at hM hb0 hn ⊢
  have HM := Lib.hid hM
  have HB0 := Lib.hid hb0
  have Hm := Lib.hid hm
  have hnc1 : (1 : Int) ≤ ((m + 1 : Nat) : Int) := by omega
  have hnc2 : (1 : Int) ≤ (m : Int) + 1 := by omega
  unfold CoP
  rw [hml]
  clear h hb0 hM hm hml
  by_cases hm0 : m = 0
  · subst hm0
    go_enter Tryz.func59, Tryz.ntmps59
    go_wp2_with fail
    (with_reducible refine HM.out.mono ?_)
    rintro e w2 ⟨g, rfl, hg, hgc, hb2⟩
    have HB2 := Lib.hid (HB0.out.trans (hb2.mono HB0.out.size))
    clear hb2 hg hgc
    go_wp2_with fail
    go_ret
    have hx : mns xl = [] := List.eq_nil_of_length_eq_zero (by rw [mns_len, ← Hm.out])
    rw [hx]
    exact ⟨_, _, rfl, ⟨rfl, fun j u hu => by simp at hu⟩, HB2.out⟩
  · have hc1 : ¬ m + 1 = 1 := by omega
    go_enter Tryz.func59, Tryz.ntmps59
    go_wp2_with fail
    (with_reducible refine HM.out.mono ?_)
    rintro e w2 ⟨g, rfl, hg, hgc, hb2⟩
    have HB2 := Lib.hid (HB0.out.trans (hb2.mono HB0.out.size))
    have hs := mn_sees (n := m + 1) (ls := x0 :: xl) (by rw [Hm.out, List.length_cons]) hgc
    have HS := Lib.hid (sees_tail (z := ⟨x0.2.toArray⟩) (zs := mns xl) hs)
    clear hb2 hg hgc hs
    go_wp2_with fail
    go_ret
    exact ⟨_, _, rfl, HS.out, HB2.out⟩
end Go.Proofs.YtkgpjohfkfbfhaaGreatDoor.Cv
namespace Go.Proofs
open Go.Shelf Go.RowKit Go.Lib Go.Sort
set_option maxHeartbeats 2000000 in
set_option maxRecDepth 100000 in
theorem sortEdge_eq {α : Type} [Inhabited α] (enc : α → List Value) (hk : ∀ x, (enc x).length = 2) (h1 : ∀ x, ∀ v ∈ enc x, v.oneCell' = true) (cf : α → α → Int) (hO : SWO (ltOf cf)) (g : Nat) (cb : Array Value) (blk off cap : Nat) (d : Array α) (w : World)
    (eg : ∀ args w, (callFunc g args).run Tryz.prog w = .ok (.enter g args) w) (hcmp : CmpLays Tryz.prog g cb enc 2 cf blk off d.size w) (hH : HoldsK enc 2 w blk off d) (hblk : blk < w.heap.size) (hsz : d.size < 4611686018427387904) :
    Calls Tryz.prog 120 #[.slice (some ⟨blk, off, none⟩) d.size cap, .func (.func g) #[] cb] w fun e w' =>
      e = .returned (.tuple #[]) ∧ ∃ n os, w' = sortWorldK enc 2 w blk off n (pdq (ltOf cf) d 0 d.size (Lib.bitLen d.size) true true) os := by
  have hlim : Lib.bitLen d.size < 4611686018427387904 := Nat.lt_of_le_of_lt (Lib.bitLen_le d.size 62 (by omega) (by omega)) (by omega)
  have hp := AnyQ.pdqsortCmpFunc_all Tryz.sortEdge 2 (fun w => rfl) (fun w => rfl) enc cf g cb hO blk off cap d w eg hcmp ⟨hk, h1, hH, hblk⟩ (d.size + 1) 0 d.size (Lib.bitLen d.size) d w (by omega) rfl (SWK.start hH) (Nat.zero_le _) (Nat.le_refl _) hsz hlim (Or.inl rfl)
  have hl : Calls Tryz.prog 131 #[.int .u64 (d.size : Int)] w fun e w' => e = .returned (.int .i64 (Lib.bitLen d.size : Nat)) ∧ w' = w := by
    have h := Tryz.bits_Len (d.size : Int) w (by omega) (by omega)
    rwa [Int.toNat_natCast] at h
  have wr : IntKind.u64.wrap (d.size : Int) = d.size := by simp [IntKind.wrap, IntKind.bits, IntKind.signed]; omega
  change Calls Tryz.prog 141 #[.slice (some ⟨blk, off, none⟩) d.size cap, .int .i64 0, .int .i64 (d.size : Int), .int .i64 (Lib.bitLen d.size : Nat), .func (.func g) #[] cb] w _ at hp
  generalize pdq (ltOf cf) d 0 d.size (Lib.bitLen d.size) true true = D at hp ⊢
  have HL := Lib.hid hl
  have HP := Lib.hid hp
  clear hH hcmp hk h1 hl hp
  go_enter Tryz.func120, Tryz.ntmps120
  go_wp2_with fail
  (with_reducible refine HL.out.mono ?_)
  rintro e w' ⟨rfl, rfl⟩
  go_wp2_with fail
  (with_reducible refine HP.out.mono ?_)
  rintro e w' ⟨rfl, n, os, rfl⟩
  go_wp2_with fail
  go_end0
  exact ⟨rfl, n, os, rfl⟩
end Go.Proofs
namespace Go.Proofs.YtkgpjohfkfbfhaaGreatDoor.Cv
open Go.RowKit Go.Sort Go.Proofs.YtkgpjohfkfbfhaaGreatDoor.Jd Go.Proofs.YtkgpjohfkfbfhaaGreatDoor.Li Go.Proofs.YtkgpjohfkfbfhaaGreatDoor.Cl
set_option maxRecDepth 100000

/-- The i-th edge's name. -/
def nmE : Tr → Nat → ByteArray
  | .nil, _ => ByteArray.empty
  | .cons s _ _, 0 => s
  | .cons _ _ r, i + 1 => nmE r i
/-- What is below the i-th edge. -/
def kdE : Tr → Nat → Tr
  | .nil, _ => .nil
  | .cons _ k _, 0 => k
  | .cons _ _ r, i + 1 => kdE r i
/-- The slice in the i-th edge's cells. -/
def slE : List Value → Nat → Value
  | _ :: .slice A n c :: _, 0 => .slice A n c
  | _ :: _ :: r, i + 1 => slE r i
  | _, _ => .slice none 0 0
theorem slE_form : ∀ (vs : List Value) (i : Nat), ∃ A n c, slE vs i = .slice A n c
  | vs, i => by
    unfold slE
    split
    · exact ⟨_, _, _, rfl⟩
    · exact slE_form _ _
    · exact ⟨_, _, _, rfl⟩
termination_by vs => vs.length
/-- The edges with these numbers. -/
def ofI (t : Tr) : List Nat → Tr
  | [] => .nil
  | i :: r => .cons (nmE t i) (kdE t i) (ofI t r)
def celI (t : Tr) (vs : List Value) : List Nat → List Value
  | [] => []
  | i :: r => .string (nmE t i) :: slE vs i :: celI t vs r
def encE (t : Tr) (vs : List Value) (i : Nat) : List Value := [.string (nmE t i), slE vs i]
def cfE (t : Tr) (i j : Nat) : Int := Lib.compareBytes (nmE t i).data.toList (nmE t j).data.toList
/-- What inOrder answers. -/
def srtE (t : Tr) : Tr := ofI t (pdq (ltOf (cfE t)) (Array.range t.len) 0 t.len (Lib.bitLen t.len) true true).toList

theorem cmpB_lt : ∀ (a b : List UInt8), Lib.compareBytes a b < 0 ∨ Lib.compareBytes a b = 0 ∧ a = b ∨ 0 < Lib.compareBytes a b
  | [], [] => .inr (.inl ⟨rfl, rfl⟩)
  | [], _ :: _ => .inl (by simp [Lib.compareBytes])
  | _ :: _, [] => .inr (.inr (by simp [Lib.compareBytes]))
  | a :: u, b :: v => by
    rw [Lib.compareBytes]
    split
    · exact .inl (by omega)
    · split
      · exact .inr (.inr (by omega))
      · rename_i h1 h2
        have e : a = b := by
          apply UInt8.toNat_inj.1
          have h1' : ¬ a.toNat < b.toNat := h1
          have h2' : ¬ b.toNat < a.toNat := h2
          omega
        subst e
        rcases cmpB_lt u v with h | ⟨h, h'⟩ | h
        · exact .inl h
        · exact .inr (.inl ⟨h, by rw [h']⟩)
        · exact .inr (.inr h)
theorem cmpB_flip : ∀ (a b : List UInt8), Lib.compareBytes a b = -Lib.compareBytes b a
  | [], [] => rfl
  | [], _ :: _ => rfl
  | _ :: _, [] => rfl
  | a :: u, b :: v => by
    rw [Lib.compareBytes, Lib.compareBytes]
    have hab : a < b ↔ a.toNat < b.toNat := Iff.rfl
    have hba : b < a ↔ b.toNat < a.toNat := Iff.rfl
    by_cases h1 : a < b
    · rw [if_pos h1, if_neg (fun h => by have := hab.1 h1; have := hba.1 h; omega), if_pos h1]
    · rw [if_neg h1]
      by_cases h2 : b < a
      · rw [if_pos h2, if_pos h2]; rfl
      · rw [if_neg h2, if_neg h2, if_neg h1, cmpB_flip u v]
theorem cmpB_trans : ∀ (a b c : List UInt8), Lib.compareBytes a b ≤ 0 → Lib.compareBytes b c ≤ 0 → Lib.compareBytes a c ≤ 0 ∧ (Lib.compareBytes a b < 0 ∨ Lib.compareBytes b c < 0 → Lib.compareBytes a c < 0)
  | [], [], [], _, _ => by simp [Lib.compareBytes]
  | [], [], _ :: _, _, _ => by simp [Lib.compareBytes]
  | [], _ :: _, [], _, h => by simp [Lib.compareBytes] at h
  | [], _ :: _, _ :: _, _, _ => by simp [Lib.compareBytes]
  | _ :: _, [], _, h, _ => by simp [Lib.compareBytes] at h
  | _ :: _, _ :: _, [], _, h => by simp [Lib.compareBytes] at h
  | a :: u, b :: v, c :: z, h1, h2 => by
    rw [Lib.compareBytes] at h1 h2 ⊢
    rw [Lib.compareBytes, Lib.compareBytes]
    have hab : a < b ↔ a.toNat < b.toNat := Iff.rfl
    have hba : b < a ↔ b.toNat < a.toNat := Iff.rfl
    have hbc : b < c ↔ b.toNat < c.toNat := Iff.rfl
    have hcb : c < b ↔ c.toNat < b.toNat := Iff.rfl
    have hac : a < c ↔ a.toNat < c.toNat := Iff.rfl
    have hca : c < a ↔ c.toNat < a.toNat := Iff.rfl
    have ih := cmpB_trans u v z
    split at h1
    · rename_i x1
      split at h2
      · rename_i x2
        rw [if_pos (hac.2 (by have := hab.1 x1; have := hbc.1 x2; omega))]; omega
      · split at h2
        · omega
        · rename_i x2 x3
          have : ¬ b.toNat < c.toNat := x2
          have : ¬ c.toNat < b.toNat := x3
          rw [if_pos (hac.2 (by have := hab.1 x1; omega))]; omega
    · split at h1
      · omega
      · rename_i x1 x2
        have y1 : ¬ a.toNat < b.toNat := x1
        have y2 : ¬ b.toNat < a.toNat := x2
        split at h2
        · rename_i x3
          rw [if_pos (hac.2 (by have := hbc.1 x3; omega))]; omega
        · split at h2
          · omega
          · rename_i x3 x4
            have y3 : ¬ b.toNat < c.toNat := x3
            have y4 : ¬ c.toNat < b.toNat := x4
            rw [if_neg x1, if_neg x2, if_neg x3, if_neg x4, if_neg (fun h => by have := hac.1 h; omega), if_neg (fun h => by have := hca.1 h; omega)]
            exact ih h1 h2
theorem ltE (t : Tr) (x y : Nat) : ltOf (cfE t) x y = decide (Lib.compareBytes (nmE t x).data.toList (nmE t y).data.toList < 0) := rfl
theorem swoE (t : Tr) : SWO (ltOf (cfE t)) where
  irrefl x := by
    have h := cmpB_flip (nmE t x).data.toList (nmE t x).data.toList
    rw [ltE]
    exact decide_eq_false (by omega)
  trans x y z h1 h2 := by
    rw [ltE] at *
    have h1 := of_decide_eq_true h1
    have h2 := of_decide_eq_true h2
    exact decide_eq_true ((cmpB_trans (nmE t x).data.toList (nmE t y).data.toList (nmE t z).data.toList (by omega) (by omega)).2 (.inl h1))
  ntrans x y z h1 h2 := by
    rw [ltE] at *
    have h1 := of_decide_eq_false h1
    have h2 := of_decide_eq_false h2
    have a := cmpB_flip (nmE t x).data.toList (nmE t y).data.toList
    have b := cmpB_flip (nmE t y).data.toList (nmE t z).data.toList
    have c := cmpB_flip (nmE t x).data.toList (nmE t z).data.toList
    have d := (cmpB_trans (nmE t z).data.toList (nmE t y).data.toList (nmE t x).data.toList (by omega) (by omega)).1
    exact decide_eq_false (by omega)

theorem celI_len (t : Tr) (vs : List Value) : ∀ is : List Nat, (celI t vs is).length = is.length * 2
  | [] => rfl
  | _ :: r => by simp only [celI, List.length_cons, celI_len t vs r]; omega
theorem celI_get (t : Tr) (vs : List Value) : ∀ (is : List Nat) (j : Nat), j < is.length * 2 → (celI t vs is)[j]? = some ((encE t vs (is[j / 2]!))[j % 2]!)
  | [], j, h => by simp at h
  | i :: r, 0, _ => rfl
  | i :: r, 1, _ => rfl
  | i :: r, j + 2, h => by
    have h' : j < r.length * 2 := by simp only [List.length_cons] at h; omega
    have e := celI_get t vs r j h'
    rw [show (j + 2) / 2 = j / 2 + 1 by omega, show (j + 2) % 2 = j % 2 by omega]
    simpa [celI] using e
theorem flatE (t : Tr) (vs : List Value) (d : Array Nat) : (flatK (encE t vs) 2 d).toList = celI t vs d.toList := by
  apply List.ext_getElem?
  intro j
  by_cases h : j < d.size * 2
  · rw [celI_get t vs _ j (by simpa using h), Array.getElem?_toList]
    have e := get_flatK (encE t vs) 2 d j h
    rw [getElem!_pos _ j (by simpa using h)] at e
    rw [Array.getElem?_eq_getElem (by simpa using h), e]
    congr 3
    have h2 : j / 2 < d.size := by omega
    rw [getElem!_pos d _ h2, getElem!_pos d.toList _ (by simpa using h2)]
    simp
  · rw [List.getElem?_eq_none (by simp; omega), List.getElem?_eq_none (by rw [celI_len]; simp; omega)]
section
variable {w w' : World} {P : Nat → Prop}
theorem rowP_at : ∀ {vs : List Value} {t : Tr} {i : Nat}, RowP w P vs t → i < t.len → ∃ A n c, slE vs i = .slice A n c ∧ n ≤ c ∧ c ≤ maxLen ∧ HoldsP w P A n (kdE t i)
  | [], .nil, i, _, h => by simp [Tr.len] at h
  | .string _ :: .slice A n c :: vs, .cons _ _ r, 0, ⟨_, h2, h3, h4, _⟩, _ => ⟨A, n, c, rfl, h2, h3, h4⟩
  | .string _ :: .slice A n c :: vs, .cons _ _ r, i + 1, ⟨_, _, _, _, h5⟩, h => by
    have := rowP_at (i := i) h5 (by simp only [Tr.len] at h; omega)
    simpa [slE, kdE] using this
theorem rowP_ofI {vs : List Value} {t : Tr} (h : RowP w P vs t) : ∀ {is : List Nat}, (∀ i ∈ is, i < t.len) → RowP w P (celI t vs is) (ofI t is)
  | [], _ => trivial
  | i :: r, hi => by
    obtain ⟨A, n, c, e, h1, h2, h3⟩ := rowP_at h (hi i (by simp))
    rw [celI, ofI, e]
    exact ⟨rfl, h1, h2, h3, rowP_ofI h (fun j hj => hi j (by simp [hj]))⟩
theorem rowP_cel : ∀ {vs : List Value} {t : Tr}, RowP w P vs t → ∀ (j : Nat), j < t.len * 2 → vs[j]? = some ((encE t vs (j / 2))[j % 2]!)
  | [], .nil, _, j, h => by simp [Tr.len] at h
  | .string s :: .slice A n c :: vs, .cons s' _ r, h0, 0, h => by obtain ⟨rfl, _⟩ := h0; rfl
  | .string s :: .slice A n c :: vs, .cons s' _ r, h0, 1, h => rfl
  | .string s :: .slice A n c :: vs, .cons s' _ r, h0, j + 2, h => by
    obtain ⟨_, _, _, _, h5⟩ := h0
    have := rowP_cel h5 j (by simp only [Tr.len] at h; omega)
    rw [show (j + 2) / 2 = j / 2 + 1 by omega, show (j + 2) % 2 = j % 2 by omega]
    simpa [encE, nmE, slE] using this
end
end Go.Proofs.YtkgpjohfkfbfhaaGreatDoor.Cv
