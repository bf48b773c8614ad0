/- A row of edges of one's own, being grown: what stands below its edges lies in other rows. No conditions. · csv: what a record has below it. Conditions: that inOrder sorts a row of edges of one's own. -/
import Derived.Test.YtlcbhooiinaalaaGreatDoorClHold
import Derived.Test.YtlcbhooiinaalaaGreatDoorWithW
import Derived.Test.YtlcbhooiinaalaaGreatDoorChkRef
import Derived.Test.YtlcbhooiinaalaaGreatDoorMwCvGrow
import Derived.Outline
namespace Go.Proofs.YtlcbhooiinaalaaGreatDoor.Jd
open Go.RowKit Go.Proofs.YtlcbhooiinaalaaGreatDoor.Cl
set_option maxRecDepth 100000

def appT : Tr → Tr → Tr
  | .nil, u => u
  | .cons s k r, u => .cons s k (appT r u)
theorem appT_nil : ∀ t : Tr, appT t .nil = t
  | .nil => rfl
  | .cons s k r => by rw [appT, appT_nil r]
theorem appT_cons (s : ByteArray) (k u : Tr) : ∀ t : Tr, appT (appT t (.cons s k .nil)) u = appT t (.cons s k u)
  | .nil => rfl
  | .cons _ _ r => by rw [appT, appT, appT, appT_cons s k u r]
theorem appT_len (u : Tr) : ∀ t : Tr, (appT t u).len = t.len + u.len
  | .nil => by simp [appT, Tr.len]
  | .cons _ _ r => by rw [appT, Tr.len, Tr.len, appT_len u r]; omega
theorem appT_size (u : Tr) : ∀ t : Tr, (appT t u).size = t.size + u.size
  | .nil => by simp [appT, Tr.size]
  | .cons _ k r => by rw [appT, Tr.size, Tr.size, appT_size u r]; omega
theorem appT_nm (u : Tr) (hu : Tr.Nm u) : ∀ t : Tr, Tr.Nm t → Tr.Nm (appT t u)
  | .nil, _ => hu
  | .cons _ _ r, ⟨h1, h2, h3⟩ => ⟨h1, h2, appT_nm u hu r h3⟩
theorem low_size : ∀ t : Tr, t.size ≤ 140737488351232 → t.Low
  | .nil, _ => trivial
  | .cons _ k r, h => by
    simp only [Tr.size] at h
    have := k.len_size
    exact ⟨by omega, low_size k (by omega), low_size r (by omega)⟩

/-- Cells of edges in a row; what is below them, in blocks that P picks. -/
def RowP (w : World) (P : Nat → Prop) : List Value → Tr → Prop
  | [], .nil => True
  | .string s :: .slice A n c :: vs, .cons s' k r => s = s' ∧ n ≤ c ∧ c ≤ maxLen ∧ HoldsP w P A n k ∧ RowP w P vs r
  | _, _ => False
section
variable {w w' : World} {P P' : Nat → Prop}
theorem RowP.keep (hk : ∀ b o, P b → w'.cell? ⟨b, o, none⟩ = w.cell? ⟨b, o, none⟩) : ∀ {vs : List Value} {t : Tr}, RowP w P vs t → RowP w' P vs t
  | [], .nil, _ => trivial
  | .string _ :: .slice _ _ _ :: _, .cons _ _ _, ⟨h1, h2, h3, h4, h5⟩ => ⟨h1, h2, h3, h4.keep hk, RowP.keep hk h5⟩
theorem RowP.more (hP : ∀ b, P b → P' b) : ∀ {vs : List Value} {t : Tr}, RowP w P vs t → RowP w P' vs t
  | [], .nil, _ => trivial
  | .string _ :: .slice _ _ _ :: _, .cons _ _ _, ⟨h1, h2, h3, h4, h5⟩ => ⟨h1, h2, h3, h4.more hP, RowP.more hP h5⟩
theorem RowP.app : ∀ {vs us : List Value} {t u : Tr}, RowP w P vs t → RowP w P us u → RowP w P (vs ++ us) (appT t u)
  | [], _, .nil, _, _, h2 => h2
  | .string _ :: .slice _ _ _ :: _, _, .cons _ _ _, _, ⟨h1, h2, h3, h4, h5⟩, h6 => ⟨h1, h2, h3, h4, RowP.app h5 h6⟩
theorem RowP.length : ∀ {vs : List Value} {t : Tr}, RowP w P vs t → vs.length = t.len * 2
  | [], .nil, _ => rfl
  | .string _ :: .slice _ _ _ :: _, .cons _ _ _, ⟨_, _, _, _, h5⟩ => by
    have := RowP.length h5
    simp only [List.length_cons, Tr.len]
    omega
theorem RowP.one {n c : Nat} {s : ByteArray} {A : Option Addr} {k : Tr} (h : HoldsP w P A n k) (h1 : n ≤ c) (h2 : c ≤ maxLen) : RowP w P [.string s, .slice A n c] (.cons s k .nil) := ⟨rfl, h1, h2, h, trivial⟩
/-- Read where they lie. -/
theorem RowP.holds {g : Nat} (hg : P g) : ∀ {vs : List Value} {t : Tr} {o : Nat}, RowP w P vs t → (∀ j u, vs[j]? = some u → w.cell? ⟨g, o + j, none⟩ = some u) → HoldsP w P (some ⟨g, o, none⟩) t.len t
  | [], .nil, _, _, _ => rfl
  | .string s :: .slice A n c :: vs, .cons s' k r, o, ⟨h1, h2, h3, h4, h5⟩, hc => by
    subst h1
    have e0 := hc 0 _ rfl
    have e1 := hc 1 _ rfl
    rw [Nat.add_zero] at e0
    exact ⟨g, o, rfl, hg, e0, ⟨A, n, c, e1, h2, h3, h4⟩, r.len, rfl, RowP.holds hg h5 (fun j u hu => by
      have := hc (j + 2) u (by simpa using hu)
      rw [show o + 2 + j = o + (j + 2) by omega]
      exact this)⟩
end

/-- The slice is a row of one's own, and reads as t; what is below its edges lies in other blocks, from lo on. -/
structure Edg (w : World) (base lo : Nat) (A : Option Addr) (n c : Nat) (t : Tr) (vs : List Value) : Prop where
  own : w.ownsRow base 55 2 (.slice A n c) n vs
  row : RowP w (fun b => lo ≤ b ∧ b < w.heap.size ∧ some b ≠ (Value.slice A n c).ownBlock) vs t
section
variable {w w' : World} {base lo n c : Nat} {A : Option Addr} {t : Tr} {vs : List Value}
theorem Edg.nil (w : World) (base lo : Nat) : Edg w base lo none 0 0 .nil [] := ⟨World.ownsRow_nil w base _ _, trivial⟩
theorem Edg.len (h : Edg w base lo A n c t vs) : n = t.len := by
  have h1 := h.own.1
  have h2 := h.row.length
  omega
theorem Edg.cap (h : Edg w base lo A n c t vs) : n ≤ c ∧ c ≤ maxLen := own_cap h.own
theorem Edg.below (h : Edg w base lo A n c t vs) (hb : Below w.heap.size w w') : Edg w' base lo A n c t vs := by
  refine ⟨h.own.kept (row := none) ⟨hb.os, hb.tape, hb.output, hb.size, fun i hi _ => hb.block i hi⟩ (by cases hv : (Value.slice A n c).ownBlock <;> simp), ?_⟩
  refine (h.row.keep (w' := w') fun b o hb1 => hb.cell (p := ⟨b, o, none⟩) hb1.2.1).more fun b hb1 => ⟨hb1.1, Nat.lt_of_lt_of_le hb1.2.1 hb.size, hb1.2.2⟩
theorem Edg.holdsP (h : Edg w base lo A n c t vs) (hl : lo ≤ base) : HoldsP w (fun b => lo ≤ b ∧ b < w.heap.size) A n t := by
  have hn := h.len
  rcases h.own.2 with ⟨e1, e2⟩ | ⟨g, cap, cur, e1, hg, hh, hcap, hmx, hsz, htk⟩
  · subst e2
    cases t with
    | nil => rfl
    | cons _ _ _ => simp [Tr.len] at hn
  · injection e1 with a1 a2 a3
    subst a1
    have hc : ∀ j u, vs[j]? = some u → w.cell? ⟨g, 0 + j, none⟩ = some u := fun j u hu => by
      have := rowCells h.own j u hu
      rw [Addr.add_lit] at this
      exact this
    have hrow := (h.row.more (P' := fun b => lo ≤ b ∧ b < w.heap.size) fun b hb => ⟨hb.1, hb.2.1⟩).holds (g := g) ⟨by omega, (Array.getElem?_eq_some_iff.1 hh).1⟩ hc
    rw [hn]
    exact hrow
theorem Edg.holds (h : Edg w base lo A n c t vs) (hl : lo ≤ base) : Holds w w.heap.size A n t := (h.holdsP hl).to (fun _ hb => hb.2)
/-- Grown by edges whose kids lie elsewhere. -/
theorem Edg.push {m c2 : Nat} {A2 : Option Addr} {u : Tr} {us : List Value} (h : Edg w base lo A n c t vs) (hu : RowP w (fun b => lo ≤ b ∧ b < w.heap.size ∧ some b ≠ (Value.slice A n c).ownBlock) us u)
    (ho : w'.ownsRow base 55 2 (.slice A2 m c2) m (vs ++ us)) (hg : w.grownBy w' (Value.slice A n c).ownBlock) (hat : ∀ a, A2 = some a → w.heap.size ≤ a.block ∨ some a.block = (Value.slice A n c).ownBlock) :
    Edg w' base lo A2 m c2 (appT t u) (vs ++ us) := by
  refine ⟨ho, ?_⟩
  refine ((h.row.app hu).keep (w' := w') fun b o hb => World.cell?_of_block (hg.block b hb.2.1 hb.2.2)).more fun b hb => ⟨hb.1, Nat.lt_of_lt_of_le hb.2.1 hg.size, fun e => ?_⟩
  cases A2 with
  | none => cases e
  | some a =>
    have e : b = a.block := by injection e
    rcases hat a rfl with h1 | h1
    · have := hb.2.1; omega
    · exact hb.2.2 (by rw [e]; exact h1)
end
/-- One edge, laid beside it. -/
theorem src_edge (W : World) (s : ByteArray) (A : Option Addr) (n c g : Nat) (hg : g = W.heap.size) : Src Tryz.prog 2 30 (.slice (some ⟨g, 0, none⟩) 1 1) 1 [.string s, .slice A n c] (W.alloc (Obj.cells #[Value.string s, Value.slice A n c] 55)) := by
  subst hg
  exact src_edges rfl (fun j u hu => by
    rw [cell_of_row _ _ _ _ _ _ (heap_alloc_new W _), Nat.zero_add, ← hu]
    match j, hu with
    | 0, _ => rfl
    | 1, _ => rfl
    | j + 2, hu => simp at hu) (fun u hu => by simp only [List.mem_cons, List.not_mem_nil, or_false] at hu; rcases hu with rfl | rfl <;> rfl)
end Go.Proofs.YtlcbhooiinaalaaGreatDoor.Jd
namespace Go.Proofs.YtlcbhooiinaalaaGreatDoor.Cv
open Go.RowKit Go.Proofs.YtlcbhooiinaalaaGreatDoor.Jd Go.Proofs.YtlcbhooiinaalaaGreatDoor.Li Go.Proofs.YtlcbhooiinaalaaGreatDoor.Cl
set_option maxRecDepth 100000

/-- The order of two names, as strings.Compare says it. -/
theorem cmp1_any (a b : ByteArray) (A A2 : Option Addr) (n c n2 c2 : Nat) (w : World) : Calls Tryz.prog 123 #[.agg #[.string a, .slice A n c], .agg #[.string b, .slice A2 n2 c2]] w fun e w' => e = .returned (.int .i64 (Lib.compareBytes a.data.toList b.data.toList)) ∧ w' = (w.alloc (Obj.cells #[.string a, .slice A n c] 55)).alloc (Obj.cells #[.string b, .slice A2 n2 c2] 55) := by
  have HC := Lib.hid (fun W => Tryz.strings_Compare a b W)
  have h1 := heap_alloc_new w (Obj.cells #[.string a, .slice A n c] 55)
  have h1l := (Array.getElem?_eq_some_iff.1 h1).1
  have h1' : ((w.alloc (Obj.cells #[.string a, .slice A n c] 55)).alloc (Obj.cells #[.string b, .slice A2 n2 c2] 55)).cell? ⟨w.heap.size, 0, none⟩ = some (.string a) := by
    rw [World.cell?_alloc_lt _ _ _ h1l, cell_of_row _ _ _ _ _ _ h1]; rfl
  go_enter Tryz.func123, Tryz.ntmps123
  go_wp2_with fail
  (with_reducible refine (HC.out _).mono ?_)
  rintro e w1 ⟨rfl, rfl⟩
  go_wp2_with fail
  go_ret
  exact ⟨rfl, rfl⟩

/-- inOrder answers a row of edges of one's own, sorted. -/
def InOrd (srt : Tr → Tr) : Prop := ∀ (t : Tr) (A : Option Addr) (n c base : Nat) (vs : List Value) (w : World), Edg w base base A n c t vs → base ≤ w.heap.size → n ≤ 100000 →
  Calls Tryz.prog 78 #[.slice A n c] w fun e w' => ∃ vs', e = .returned (.slice A n c) ∧ Edg w' base base A n c (srt t) vs' ∧ Below base w w'
/-- The columns with something in them, as they come. -/
def rawB : List ByteArray → List ByteArray → Tr
  | c :: cs, v :: vs => if v.size = 0 then rawB cs vs else .cons c (.cons v .nil .nil) (rawB cs vs)
  | _, _ => .nil
/-- A record's tree. -/
def BlP (srt : Tr → Tr) (w : World) (t : Tr) (en : Ending) (w' : World) : Prop := ∃ A n c vs, en = .returned (.slice A n c) ∧ Edg w' w.heap.size w.heap.size A n c (srt t) vs ∧ Below w.heap.size w w'

set_option maxHeartbeats 8000000 in
theorem below_any (srt : Tr → Tr) (hI : InOrd srt) (x0 : Ln) (xl : List Ln) (cols : List ByteArray) (Ar Ac : Option Addr) (nr cr m cc : Nat) (en : ByteArray) (w : World) (hr : SeesL w w.heap.size Ar nr (x0 :: xl)) (hc : SeesV w w.heap.size Ac m (cols.map Value.string)) (hm : xl.length = m) (hn : nr ≤ 100000) :
    Calls Tryz.prog 81 #[.agg #[.slice Ar nr cr, .string en], .slice Ac m cc] w (BlP srt w (rawB cols (mns xl))) := by
  have hl := hr.len
  rw [List.length_cons, hm] at hl
  subst hl
  have hb0 : Below w.heap.size w (w.alloc (Obj.cells #[.slice Ar (m + 1) cr, .string en] 62)) := (Below.refl _ _).alloc (Nat.le_refl _) _
  have HM := Lib.hid (means_any (x0 :: xl) Ar (m + 1) cr w.heap.size en (w.alloc (Obj.cells #[.slice Ar (m + 1) cr, .string en] 62)) (hr.below hb0) hb0.size hn)
  have HB0 := Lib.hid hb0
  obtain ⟨vals, hvals⟩ : ∃ v, v = mns xl := ⟨_, rfl⟩
  rw [← hvals]
  have Hlv : Hid (m = vals.length) := Lib.hid (by rw [hvals, mns_len, hm])
  have Hcs := Lib.hid hc
  have Hlc : Hid (m = cols.length) := Lib.hid (by have := hc.len; simpa using this)
  have Hvd := Lib.hid hvals
  clear hr hc hb0 hvals hm
  go_enter Tryz.func81, Tryz.ntmps81
  go_wp2_with fail
  (with_reducible refine HM.out.mono ?_)
  rintro e w2 ⟨g, rfl, hg, hgc, hb2⟩
  have HB2 := Lib.hid (HB0.out.trans (hb2.mono HB0.out.size))
  have hgl : g < w2.heap.size := (Array.getElem?_eq_some_iff.1 hgc).1
  have Hvals : Hid (∀ (k : Nat) (hk : k < vals.length), w2.cell? ⟨g, 1 + k, none⟩ = some (.string vals[k])) := Lib.hid (fun k hk => by
    rw [cell_of_row _ _ _ _ _ _ hgc]
    have e : (meanV (x0 :: xl)).toArray[1 + k]? = ((mns xl).map Value.string)[k]? := by
      rw [List.getElem?_toArray, ← mean_strs, Nat.add_comm 1 k]
      rfl
    rw [e, ← Hvd.out, List.getElem?_map, List.getElem?_eq_getElem hk]
    rfl)
  clear hb2 hgc hg
  have hnc1 : (1 : Int) ≤ ((m + 1 : Nat) : Int) := by omega
  by_cases hm0 : m = 0
  · subst hm0
    go_wp2_with fail
    go_loopw [5, 12] (fun a i wr => ∃ (k q : Nat) (A : Option Addr) (c : Nat) (t : Tr) (vs : List Value), k ≤ 0 ∧ q ≤ k ∧ i = .int .i64 k ∧ a = .slice A q c ∧ Hid (Edg wr w.heap.size w.heap.size A q c t vs) ∧ Hid (Below w.heap.size w wr) ∧ Hid (Below w2.heap.size w2 wr) ∧ Hid (∀ z, (Value.slice A q c).ownBlock = some z → w2.heap.size ≤ z) ∧ Hid (appT t (rawB (cols.drop k) (vals.drop k)) = rawB cols vals)) (fun _ i _ => 0 - (intOf i).toNat)
    case atStart => exact ⟨0, 0, none, 0, .nil, [], Nat.zero_le _, Nat.le_refl _, rfl, rfl, Lib.hid (Edg.nil _ _ _), HB2, Lib.hid (Below.refl _ _), Lib.hid (fun z hz => by cases hz), Lib.hid rfl⟩
    case round =>
      obtain ⟨k, q, A, c, t, vs, hk, hqk, rfl, rfl, HE, HW, HW2, HQ, HT⟩ := hrel
      by_cases hlt : k < 0
      · exact absurd hlt (Nat.not_lt_zero _)
      · obtain rfl : k = 0 := by omega
        have hT := HT.out
        rw [List.drop_of_length_le (l := cols) (by rw [← Hlc.out]; exact Nat.le_refl _)] at hT
        have hT2 : t = rawB cols vals := by rw [← hT]; simp [rawB, appT_nil]
        have HI2 := Lib.hid (hI t A q c w.heap.size vs wr HE.out HW.out.size (by omega))
        rw [hT2] at HI2
        clear hlt hT hT2 HT
        go_wp2_with fail
        (with_reducible refine HI2.out.mono ?_)
        rintro e w5 ⟨vs5, rfl, hE5, hb5⟩
        have HB5 := Lib.hid (HW.out.trans hb5)
        have HE5 := Lib.hid hE5
        clear hE5 hb5
        go_wp2_with fail
        go_ret
        exact ⟨A, q, c, vs5, rfl, HE5.out, HB5.out⟩
  · have hc1 : ¬ m + 1 = 1 := by omega
    have hnc2 : (1 : Int) ≤ (m : Int) + 1 := by omega
    go_wp2_with fail
    go_loopw [5, 12] (fun a i wr => ∃ (k q : Nat) (A : Option Addr) (c : Nat) (t : Tr) (vs : List Value), k ≤ m ∧ q ≤ k ∧ i = .int .i64 k ∧ a = .slice A q c ∧ Hid (Edg wr w.heap.size w.heap.size A q c t vs) ∧ Hid (Below w.heap.size w wr) ∧ Hid (Below w2.heap.size w2 wr) ∧ Hid (∀ z, (Value.slice A q c).ownBlock = some z → w2.heap.size ≤ z) ∧ Hid (appT t (rawB (cols.drop k) (vals.drop k)) = rawB cols vals)) (fun _ i _ => m - (intOf i).toNat)
    case atStart => exact ⟨0, 0, none, 0, .nil, [], Nat.zero_le _, Nat.le_refl _, rfl, rfl, Lib.hid (Edg.nil _ _ _), HB2, Lib.hid (Below.refl _ _), Lib.hid (fun z hz => by cases hz), Lib.hid rfl⟩
    case round =>
      obtain ⟨k, q, A, c, t, vs, hk, hqk, rfl, rfl, HE, HW, HW2, HQ, HT⟩ := hrel
      by_cases hlt : k < m
      · obtain ⟨bc, oc, col, rfl, hbc, hcol, hcc⟩ := strs_at ((Hcs.out.below HW.out)) hlt
        have hkc : k < cols.length := (List.getElem?_eq_some_iff.1 hcol).1
        have hce : cols[k] = col := (List.getElem?_eq_some_iff.1 hcol).2
        have hkv : k < vals.length := by have := Hlv.out; omega
        obtain ⟨v, hv⟩ : ∃ v, v = vals[k] := ⟨_, rfl⟩
        have hcv : wr.cell? ⟨g, 1 + k, none⟩ = some (.string v) := by rw [hv]; exact (HW2.out.cell (p := ⟨g, 1 + k, none⟩) hgl).trans (Hvals.out k hkv)
        have hT := HT.out
        rw [List.drop_eq_getElem_cons hkc, List.drop_eq_getElem_cons hkv, hce, ← hv, rawB] at hT
        have hkn : (k : Int) < (m : Int) := by omega
        have hk0 : (0 : Int) ≤ (k : Int) := by omega
        have Hlt := Lib.hid hlt
        have HT2 := Lib.hid hT
        by_cases hz : v.size = 0
        · have he : (v.toList == ([] : List UInt8)) = true := by rw [empty_iff, decide_eq_true hz]
          rw [if_pos hz] at hT
          have HT3 := Lib.hid hT
          clear hlt hT HT HT2 hz hv hkc hkv hce hcol
          go_wp2_with fail
          go_roundw
          case rel => exact ⟨k + 1, q, A, c, t, vs, Hlt.out, by omega, by go_num, rfl, HE, HW, HW2, HQ, HT3⟩
          case measure => have := Hlt.out; simp [intOf]; omega
        · have he : (v.toList == ([] : List UInt8)) = false := by rw [empty_iff, decide_eq_false hz]
          rw [if_neg hz] at hT
          have HT3 : Hid (appT (appT t (.cons col (.cons v .nil .nil) .nil)) (rawB (cols.drop (k + 1)) (vals.drop (k + 1))) = rawB cols vals) := Lib.hid (by rw [appT_cons]; exact hT)
          obtain ⟨W1, hW1⟩ : ∃ W, W = wr.alloc (Obj.cells #[.string v, .slice none 0 0] 55) := ⟨_, rfl⟩
          have hb1 : Below wr.heap.size wr W1 := by rw [hW1]; exact (Below.refl _ _).alloc (Nat.le_refl _) _
          have hg1 : W1.heap[wr.heap.size]? = some (Obj.cells #[.string v, .slice none 0 0] 55) := by rw [hW1]; exact heap_alloc_new wr _
          have hl1 : wr.heap.size < W1.heap.size := (Array.getElem?_eq_some_iff.1 hg1).1
          obtain ⟨W2, hW2⟩ : ∃ W, W = W1.alloc (Obj.cells #[.string col, .slice (some ⟨wr.heap.size, 0, none⟩) 1 1] 55) := ⟨_, rfl⟩
          have hb2 : Below W1.heap.size W1 W2 := by rw [hW2]; exact (Below.refl _ _).alloc (Nat.le_refl _) _
          have hg2 : W2.heap[wr.heap.size]? = some (Obj.cells #[.string v, .slice none 0 0] 55) := (hb2.block _ hl1).trans hg1
          have hsrc : Src Tryz.prog 2 30 (.slice (some ⟨W1.heap.size, 0, none⟩) 1 1) 1 [.string col, .slice (some ⟨wr.heap.size, 0, none⟩) 1 1] W2 := by rw [hW2]; exact src_edge W1 col (some ⟨wr.heap.size, 0, none⟩) 1 1 _ rfl
          have hbr2 : Below wr.heap.size wr W2 := hb1.trans (hb2.mono hb1.size)
          have HEa := Lib.hid (HE.out.below hbr2)
          have hk1 : q + 1 ≤ 1099511627776 := by omega
          have hwz : w.heap.size ≤ W2.heap.size := Nat.le_trans HW.out.size hbr2.size
          have hrow : RowP W2 (fun b => w.heap.size ≤ b ∧ b < W2.heap.size ∧ some b ≠ (Value.slice A q c).ownBlock) [.string col, .slice (some ⟨wr.heap.size, 0, none⟩) 1 1] (.cons col (.cons v .nil .nil) .nil) := by
            refine RowP.one ⟨wr.heap.size, 0, rfl, ⟨HW.out.size, Nat.lt_of_lt_of_le hl1 hb2.size, fun e => ?_⟩, by rw [cell_of_row _ _ _ _ _ _ hg2]; rfl, ⟨none, 0, 0, by rw [cell_of_row _ _ _ _ _ _ hg2]; rfl, Nat.le_refl _, Nat.zero_le _, rfl⟩, 0, rfl, rfl⟩ (Nat.le_refl _) (by simp [maxLen])
            have := (HE.out.own.lt _ e.symm).2
            omega
          have Hsrc := Lib.hid hsrc
          have Hrow := Lib.hid hrow
          have Hbr2 := Lib.hid hbr2
          have hW12 : (wr.alloc (Obj.cells #[.string v, .slice none 0 0] 55)).alloc (Obj.cells #[.string col, .slice (some ⟨wr.heap.size, 0, none⟩) 1 1] 55) = W2 := by rw [hW2, hW1]
          have HW12 := Lib.hid hW12
          have hW1s : (wr.alloc (Obj.cells #[.string v, .slice none 0 0] 55)).heap.size = W1.heap.size := by rw [hW1]
          rw [← hW12, ← hW1s] at hsrc
          have HEb : Hid (Edg ((wr.alloc (Obj.cells #[.string v, .slice none 0 0] 55)).alloc (Obj.cells #[.string col, .slice (some ⟨wr.heap.size, 0, none⟩) 1 1] 55)) w.heap.size w.heap.size A q c t vs) := Lib.hid (by rw [hW12]; exact HEa.out)
          have Hsrc2 := Lib.hid hsrc
          have hwz2 : w.heap.size ≤ ((wr.alloc (Obj.cells #[.string v, .slice none 0 0] 55)).alloc (Obj.cells #[.string col, .slice (some ⟨wr.heap.size, 0, none⟩) 1 1] 55)).heap.size := by rw [hW12]; exact hwz
          clear hlt hT HT HT2 hz hv hkc hkv hce hcol hW1 hW2 hb1 hg1 hl1 hb2 hg2 hsrc hrow hbr2 hW12 hW1s hwz
          go_wp2_with (at_builtin; refine wpList_append_row rfl (.tmp 19) (.tmp 28) _ _ rfl elem_edge rfl rfl HEb.out.own (src_edge _ col (some ⟨wr.heap.size, 0, none⟩) 1 1 _ (by simp)) hk1 hwz2 ?_; intro A4 c4 w4 ho4 hg4 hat4)
          rw [HW12.out] at hg4 hat4
          have HP := Lib.hid (HEa.out.push Hrow.out ho4 hg4 (fun a ha => (hat4 a ha).imp (fun e => Nat.le_of_eq e.symm) id))
          have HW4 : Hid (Below w.heap.size w w4) := Lib.hid ((HW.out.trans (Hbr2.out.mono HW.out.size)).grown hg4 (Nat.le_trans HW.out.size Hbr2.out.size) (fun q hq => (HEa.out.own.lt q hq).1))
          have HW24 : Hid (Below w2.heap.size w2 w4) := Lib.hid ((HW2.out.trans (Hbr2.out.mono HW2.out.size)).grown hg4 (Nat.le_trans HW2.out.size Hbr2.out.size) (fun z hz => HQ.out z hz))
          have HQ4 : Hid (∀ z, (Value.slice A4 (q + 1) c4).ownBlock = some z → w2.heap.size ≤ z) := Lib.hid (fun z hz => by
            cases A4 with
            | none => cases hz
            | some a =>
              have e : a.block = z := by injection hz
              rcases hat4 a rfl with h1 | h1
              · have := Nat.le_trans HW2.out.size Hbr2.out.size; omega
              · exact HQ.out z (by rw [← h1, e]))
          clear ho4 hg4 hat4
          go_wp2_with fail
          go_roundw
          case rel => exact ⟨k + 1, q + 1, A4, c4, _, _, Hlt.out, by omega, by go_num, rfl, HP, HW4, HW24, HQ4, HT3⟩
          case measure => have := Hlt.out; simp [intOf]; omega
      · obtain rfl : k = m := by omega
        have hT := HT.out
        rw [List.drop_of_length_le (l := cols) (by rw [← Hlc.out]; exact Nat.le_refl _)] at hT
        have hT2 : t = rawB cols vals := by rw [← hT]; simp [rawB, appT_nil]
        have HI2 := Lib.hid (hI t A q c w.heap.size vs wr HE.out HW.out.size (by omega))
        rw [hT2] at HI2
        clear hlt hT hT2 HT
        go_wp2_with fail
        (with_reducible refine HI2.out.mono ?_)
        rintro e w5 ⟨vs5, rfl, hE5, hb5⟩
        have HB5 := Lib.hid (HW.out.trans hb5)
        have HE5 := Lib.hid hE5
        clear hE5 hb5
        go_wp2_with fail
        go_ret
        exact ⟨A, q, c, vs5, rfl, HE5.out, HB5.out⟩
end Go.Proofs.YtlcbhooiinaalaaGreatDoor.Cv
